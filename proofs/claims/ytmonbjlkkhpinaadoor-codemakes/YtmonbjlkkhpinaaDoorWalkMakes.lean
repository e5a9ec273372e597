/-
  The walk of the law CodeMakes.
-/
import Derived.Test.YtmonbjlkkhpinaaDoorAwake3
import Derived.Test.YtmonbjlkkhpinaaDoorCodeArgs
import Derived.RegionTactic
import Derived.Laws.StructEq
import Derived.Deep.QuietTactic
import Derived.BigQuiet
namespace Go.Proofs.YtmonbjlkkhpinaaDoor
open Go.RowKit
set_option linter.unusedVariables false

/-- The instructions, of the first k the argument one more. -/
def plus1 (x : Nat × Int) : Nat × Int := (x.1, wrap64 (x.2 + 1))
def bump (l : List (Nat × Int)) (k : Nat) : List (Nat × Int) := (l.take k).map plus1 ++ l.drop k
theorem bump_len (l : List (Nat × Int)) (k : Nat) (h : k ≤ l.length) : (bump l k).length = l.length := by simp [bump]; omega
theorem bump_zero (l : List (Nat × Int)) : bump l 0 = l := by simp [bump]
theorem bump_at (l : List (Nat × Int)) (k : Nat) (h : k < l.length) : (bump l k)[k]? = some l[k] := by
  unfold bump
  rw [List.getElem?_append_right (by simp; omega)]
  simp [List.getElem?_drop, Nat.min_eq_left (Nat.le_of_lt h), h]
theorem codeCells_set (l : List (Nat × Int)) : ∀ k (h : k < l.length) (v : Int), (codeCells l).set (k * 2 + 1) (.int .i64 v) = codeCells (l.set k (l[k].1, v)) := by
  induction l with
  | nil => intro k h; simp at h
  | cons x l ih =>
    intro k h v
    cases k with
    | zero => rfl
    | succ k =>
      have e : (k + 1) * 2 + 1 = (k * 2 + 1) + 1 + 1 := by omega
      rw [e]
      have := ih k (by simpa using h) v
      simp only [codeCells, List.map_cons, List.flatten_cons, insCells, List.cons_append, List.nil_append, List.set_cons_succ, List.getElem_cons_succ] at this ⊢
      rw [this]
theorem bump_succ (l : List (Nat × Int)) (k : Nat) (h : k < l.length) : (bump l k).set k (plus1 l[k]) = bump l (k + 1) := by
  unfold bump
  rw [List.take_succ_eq_append_getElem h, List.map_append, List.append_assoc, List.set_append_right _ _ (by simp; omega)]
  congr 1
  rw [List.length_map, List.length_take, Nat.min_eq_left (Nat.le_of_lt h), Nat.sub_self, List.drop_eq_getElem_cons h]
  rfl
theorem wrap_ne (n : Int) (h1 : -9223372036854775808 ≤ n) (h2 : n ≤ 9223372036854775807) : wrap64 (n + 1) ≠ n := by
  unfold wrap64
  omega
theorem InsRow.take {w : World} {a : Option Addr} {l : List (Nat × Int)} (h : InsRow w a l) (k : Nat) : InsRow w a (l.take k) := by
  intro h0
  obtain ⟨b, off, e, hc⟩ := h (by simp at h0; omega)
  refine ⟨b, off, e, fun i hi => ?_⟩
  rw [List.getElem_take]
  exact hc i (by simp at hi; omega)
theorem append_new {w : World} {a : Option Addr} {l : List (Nat × Int)} (cap : Nat) (hr : InsRow w a l) (hn : a = none → l = []) (hl : l.length ≤ 1000) :
    ∃ a1 c1 w1, (Builtin.append_ #[27, 27] 27 #[.slice (some ⟨w.heap.size, 0, none⟩) 0 0, .slice a l.length cap]).run Tryd.prog (w.alloc (.cells #[] 47)) = .ok (.slice a1 l.length c1) w1 ∧ NewCode w (.slice a1 l.length c1) l w1 := by
  have hw1 : (w.alloc (.cells #[] 47)).ownsRow 0 47 2 (.slice (some ⟨w.heap.size, 0, none⟩) 0 0) 0 (codeCells []) := World.ownsRow_made w #[] 0 (Nat.zero_le _) (by decide) rfl
  obtain ⟨v', w', hrun, hown, hg, hf⟩ := code_append hw1 a cap (hr.below ((Below.refl _ w).alloc (Nat.le_refl _) _)) hn (by omega)
  obtain ⟨a', c', rfl⟩ := own_slice hown
  rw [Nat.zero_add] at hown hrun hf
  have hb : Below w.heap.size w w' := ((Below.refl _ w).alloc (Nat.le_refl _) _).trans ((touch_grown hg).below (by simp) (fun k hk h => by simp [Value.ownBlock] at h; omega))
  exact ⟨a', c', w', hrun, by simpa using hown, fun k hk => by
    rcases hf k hk with h | h
    · simp [Value.ownBlock] at h; omega
    · simp at h; omega, hb⟩
theorem own_none {w : World} {base : Nat} {e : TypeId} {size : Nat} {a : Option Addr} {n c : Nat} {xs : List Value} (h : w.ownsRow base e size (.slice a n c) n xs) (ha : a = none) : n = 0 := by
  subst ha
  rcases h.2 with ⟨_, h0⟩ | ⟨g, cap, cur, hv, -⟩
  · exact h0
  · cases hv
theorem own_some {w : World} {base : Nat} {e : TypeId} {size : Nat} {a : Option Addr} {n c : Nat} {xs : List Value} (h : w.ownsRow base e size (.slice a n c) n xs) (hn : 0 < n) : ∃ g, a = some ⟨g, 0, none⟩ := by
  rcases h.2 with ⟨_, h0⟩ | ⟨g, cap, cur, hv, -⟩
  · omega
  · cases hv; exact ⟨g, rfl⟩
/-- The law's memory: the list (of its first k the argument one more), the function, and its instructions. -/
structure MkMem (w : World) (ar lo : Int) (l : List (Nat × Int)) (n : Nat) (a1 : Option Addr) (c1 : Nat) (a2 : Option Addr) (c2 : Nat) (B : Nat) (k : Nat) (wr : World) : Prop where
  row1 : wr.ownsRow 0 47 2 (.slice a1 n c1) n (codeCells (bump l k))
  row2 : wr.ownsRow 0 47 2 (.slice a2 n c2) n (codeCells l)
  f0 : wr.cell? ⟨B, 0, none⟩ = some (.int .i64 ar)
  f1 : wr.cell? ⟨B, 1, none⟩ = some (.int .i64 lo)
  f2 : wr.cell? ⟨B, 2, none⟩ = some (.slice a2 n c2)
  own1 : ∀ g, (Value.slice a1 n c1).ownBlock = some g → w.heap.size ≤ g ∧ g ≠ B ∧ (Value.slice a2 n c2).ownBlock ≠ some g
  lt : B < wr.heap.size
  ge : w.heap.size ≤ B
  bel : Below w.heap.size w wr
theorem MkMem.drewN {w : World} {ar lo : Int} {l : List (Nat × Int)} {n : Nat} {a1 : Option Addr} {c1 : Nat} {a2 : Option Addr} {c2 B k : Nat} {wr : World} (h : MkMem w ar lo l n a1 c1 a2 c2 B k wr) (j : Nat) : MkMem w ar lo l n a1 c1 a2 c2 B k (wr.drewN j) :=
  ⟨h.row1, h.row2, h.f0, h.f1, h.f2, h.own1, h.lt, h.ge, ⟨h.bel.os, h.bel.tape, h.bel.output, h.bel.size, h.bel.block⟩⟩
theorem MkMem.step {w : World} {ar lo : Int} {l : List (Nat × Int)} {n : Nat} {g c1 : Nat} {a2 : Option Addr} {c2 B k : Nat} {wr : World} (h : MkMem w ar lo l n (some ⟨g, 0, none⟩) c1 a2 c2 B k wr) (hn : n = l.length) (hk : k < l.length) :
    MkMem w ar lo l n (some ⟨g, 0, none⟩) c1 a2 c2 B (k + 1) (wr.setCell ⟨g, k * 2 + 1, none⟩ (.int .i64 (wrap64 (l[k].2 + 1)))) := by
  obtain ⟨r1, r2, f0, f1, f2, o1, lt, ge, bel⟩ := h
  obtain ⟨q1, q2, q3⟩ := o1 g rfl
  have ht : Touch (fun k => k = g) wr (wr.setCell ⟨g, k * 2 + 1, none⟩ (.int .i64 (wrap64 (l[k].2 + 1)))) := (Touch.refl (fun k => k = g) wr).setCell (p := ⟨g, k * 2 + 1, none⟩) (fun _ => rfl) _
  have hne : ¬ B = g := fun e => q2 e.symm
  refine ⟨?_, own_touch r2 ht (fun j hj e => q3 (e ▸ hj)), (ht.cell (p := ⟨B, 0, none⟩) lt hne).trans f0, (ht.cell (p := ⟨B, 1, none⟩) lt hne).trans f1, (ht.cell (p := ⟨B, 2, none⟩) lt hne).trans f2, o1, Nat.lt_of_lt_of_le lt ht.size, ge, bel.setCell (by exact q1) _⟩
  have h1 := (r1.stored (k * 2 + 1) (.int .i64 (wrap64 (l[k].2 + 1)))).1
  have hb : k < (bump l k).length := by rw [bump_len l k (by omega)]; exact hk
  have hat : (bump l k)[k] = l[k] := by
    have := bump_at l k hk
    rw [List.getElem?_eq_getElem hb] at this
    exact Option.some.inj this
  rw [codeCells_set _ k hb, hat] at h1
  have := bump_succ l k hk
  unfold plus1 at this
  rw [this] at h1
  exact h1
set_option maxHeartbeats 2000000 in
set_option maxRecDepth 100000 in
theorem codeMakes_walk (w : World) (ar : Int) (war : (Lit.int .i64 ar).wf = true) (lo : Int) (wlo : (Lit.int .i64 lo).wf = true) (a : Option Addr) (len cap : Nat) (l0 : List (Nat × Int)) (hl : InsArg w a len cap l0) (hN : NamesAt w) :
    Calls Tryd.prog 6 #[.int .i64 ar, .int .i64 lo, .slice a len cap] w fun e w' => e = .returned (.bool true) ∧ Below w.heap.size w w' := by
  obtain ⟨rfl, hmax, hcap, hr, hnil, hok⟩ := hl
  unfold maxLen at hmax
  have HN := Lib.hid hN
  have hq : ∀ (w : World) (a : Option Addr) (n c n' c' : Nat), (binOp .eql 27 (.slice a n c) (.slice none n' c')).run Tryd.prog w = .ok (.bool a.isNone) w := fun w a n c n' c' => Lib.run_eql_slice_nil w _ _ a n c n' c' Tryd.underlying27
  have HT : Hid (∃ (k : Nat), (k = l0.length ∧ ¬ 30 < l0.length ∨ k = 30 ∧ 30 < l0.length) ∧ ∃ l n a1 c1 w1, n = l.length ∧ n ≤ 30 ∧ (∀ x ∈ l, InsOk x) ∧ (Builtin.append_ #[27, 27] 27 #[.slice (some ⟨w.heap.size, 0, none⟩) 0 0, .slice a k cap]).run Tryd.prog (w.alloc (.cells #[] 47)) = .ok (.slice a1 n c1) w1 ∧ NewCode w (.slice a1 n c1) l w1) := Lib.hid (by
    by_cases h30 : 30 < l0.length
    · have hlt : (l0.take 30).length = 30 := by simp; omega
      obtain ⟨a1, c1, w1, hrun, hnew⟩ := append_new cap (hr.take 30) (fun h => by rw [hnil h]; simp) (by simp; omega)
      rw [hlt] at hrun hnew
      exact ⟨30, .inr ⟨rfl, h30⟩, l0.take 30, 30, a1, c1, w1, hlt.symm, by omega, fun x hx => hok x (List.mem_of_mem_take hx), hrun, hnew⟩
    · obtain ⟨a1, c1, w1, hrun, hnew⟩ := append_new cap hr hnil (by omega)
      exact ⟨l0.length, .inl ⟨rfl, h30⟩, l0, l0.length, a1, c1, w1, rfl, by omega, hok, hrun, hnew⟩)
  clear hr hok hN
  obtain ⟨k, hk, l, n, a1, c1, w1, hn, hn30, hok, hrun, ho1, hn1, hb1⟩ := HT.out
  have HLN := Lib.hid hn
  have HOK := Lib.hid hok
  have HR := Lib.hid hrun
  have HO1 := Lib.hid (show w1.ownsRow 0 47 2 (.slice a1 n c1) n (codeCells l) by have := ho1; rwa [← hn] at this)
  have HN1 := Lib.hid hn1
  have HB1 := Lib.hid hb1
  have hmk := make_any ar lo a1 c1 l w1 (by omega) (InsRow.of_own HO1.out) (fun h => List.eq_nil_of_length_eq_zero (by have := own_none HO1.out h; omega))
  rw [← hn] at hmk
  have HMK := Lib.hid hmk
  clear hrun ho1 hn1 hb1 HT hn hok hmk
  have hsome : 30 < l0.length → ∃ x, a = some x := fun h => by
    cases a with
    | none => have := hnil rfl; subst this; simp at h
    | some x => exact ⟨x, rfl⟩
  clear hnil
  rcases hk with ⟨rfl, h30⟩ | ⟨rfl, h30⟩
  rotate_left
  obtain ⟨x, rfl⟩ := hsome h30
  all_goals
    clear hsome
    go_enter Tryd.func6, Tryd.ntmps6
    go_wp2_with (first | (at_builtin; refine wpList_append_run _ rfl (.tmp 14) (.tmp 15) 27 27 rfl _ _ rfl rfl (.slice a1 n c1) w1 HR.out ?_) | fail)
    refine HMK.out.mono ?_
    rintro e w2 ⟨a2, c2, he, ho2, hn2, hb2⟩
    rw [← HLN.out] at he ho2 hn2
    subst he
    have hlt := hb2.size
    have HM : Hid (MkMem w ar lo l n a1 c1 a2 c2 w2.heap.size 0 (w2.alloc (.cells #[.int .i64 ar, .int .i64 lo, .slice a2 n c2] 29))) := Lib.hid (by
      have hs1 := HB1.out.size
      refine ⟨?_, ho2.alloc _, by simp, by simp, by simp, fun g hg => ⟨HN1.out g hg, ?_, fun h => ?_⟩, by simp, by omega, ?_⟩
      · rw [bump_zero]
        exact own_touch HO1.out ((touch_of_below (S := fun _ => False) hb2).alloc _) (fun _ _ => id)
      · have := (HO1.out.lt g hg).2; omega
      · have := (HO1.out.lt g hg).2; have := hn2 g h; omega
      · exact (HB1.out.trans (hb2.mono hs1)).alloc (by omega) _)
    clear ho2 hn2 hb2 HR HO1 HN1 HB1 HMK hlt
    go_wp2
    go_loopw [23] (fun i wr => ∃ k : Nat, k ≤ n ∧ i = .int .i64 k ∧ Hid (MkMem w ar lo l n a1 c1 a2 c2 w2.heap.size k wr)) (fun i _ => n - (intOf i).toNat)
    case atStart => exact ⟨0, by omega, rfl, HM⟩
    case round =>
      obtain ⟨k, hk, rfl, HMr⟩ := hrel
      have hB := HMr.out.lt
      have f2 := HMr.out.f2
      by_cases hlt : k < n
      · obtain ⟨g1, rfl⟩ := own_some HMr.out.row1 (by omega)
        obtain ⟨g2, rfl⟩ := own_some HMr.out.row2 (by omega)
        have hkl : k < l.length := by have := HLN.out; omega
        have HST := Lib.hid (fun j => (HMr.out.drewN j).step HLN.out hkl)
        have hbl : k < (bump l k).length := by rw [bump_len l k (by omega)]; exact hkl
        have hat : (bump l k)[k] = l[k] := by
          have := bump_at l k hkl
          rw [List.getElem?_eq_getElem hbl] at this
          exact Option.some.inj this
        have d0 := (HMr.out.row1.cellAt (k * 2) (by omega)).trans (codeCells_at (bump l k) k hbl).1
        have d1 := (HMr.out.row1.cellAt (k * 2 + 1) (by omega)).trans (codeCells_at (bump l k) k hbl).2
        rw [hat] at d0 d1
        have e0 := (HMr.out.row2.cellAt (k * 2) (by omega)).trans (codeCells_at l k hkl).1
        have e1 := (HMr.out.row2.cellAt (k * 2 + 1) (by omega)).trans (codeCells_at l k hkl).2
        have hfz := HMr.out.row1.frozenAt (k * 2 + 1)
        have hgne : g1 ≠ g2 := fun e => (HMr.out.own1 g1 rfl).2.2 (by rw [e]; rfl)
        have hwn : (wrap64 (l[k].2 + 1) == l[k].2) = false := by
          have := HOK.out _ (List.getElem_mem hkl)
          have := wrap_ne l[k].2 this.2.1 this.2.2
          simpa using this
        have hwn2 : (l[k].2 == wrap64 (l[k].2 + 1)) = false := by
          have := HOK.out _ (List.getElem_mem hkl)
          have := wrap_ne l[k].2 this.2.1 this.2.2
          simp; omega
        have HAT : Hid (∀ h : k < (bump l (k + 1)).length, (bump l (k + 1))[k] = (l[k].1, wrap64 (l[k].2 + 1))) := Lib.hid (fun h => by
          have h1 := bump_succ l k hkl
          have h2 : (bump l (k + 1))[k]? = some (plus1 l[k]) := by rw [← h1, List.getElem?_set_self hbl]
          rw [List.getElem?_eq_getElem h] at h2
          exact Option.some.inj h2)
        have HX0 : Hid (l[k] = l[k]) := Lib.hid rfl
        clear hat hbl HMr
        generalize hx : l[k] = x at d0 d1 e0 e1 hwn hwn2 HST HAT
        have HX := Lib.hid hx
        clear hx HX0
        obtain ⟨op, ag⟩ := x
        simp only at d0 d1 e0 e1 hwn hwn2 HST HAT
        go_wp2
        go_quiet ((fail))
        go_wp2
        have HS1 := Lib.hid (HST.out nq)
        clear HST d0 d1 e0 e1 hfz f2 hB
        generalize (wr.drewN nq).setCell ⟨g1, k * 2 + 1, none⟩ (.int .i64 (wrap64 (ag + 1))) = W at HS1
        have hb2 : k < (bump l (k + 1)).length := by rw [bump_len l (k + 1) (by omega)]; exact hkl
        have hat2 : (bump l (k + 1))[k] = (op, wrap64 (ag + 1)) := HAT.out _
        have d0 := (HS1.out.row1.cellAt (k * 2) (by omega)).trans (codeCells_at (bump l (k + 1)) k hb2).1
        have d1 := (HS1.out.row1.cellAt (k * 2 + 1) (by omega)).trans (codeCells_at (bump l (k + 1)) k hb2).2
        rw [hat2] at d0 d1
        have e0 := (HS1.out.row2.cellAt (k * 2) (by omega)).trans (codeCells_at l k hkl).1
        have e1 := (HS1.out.row2.cellAt (k * 2 + 1) (by omega)).trans (codeCells_at l k hkl).2
        rw [HX.out] at e0 e1
        simp only at d0 d1 e0 e1
        have f2 := HS1.out.f2
        have hB := HS1.out.lt
        clear hat2 hb2
        go_quiet ((fail))
        go_wp2
        go_roundw
        case rel => exact ⟨k + 1, by omega, by go_num, Lib.hid (HS1.out.drewN _)⟩
        case measure => simp [intOf]; omega
      · have f0 := HMr.out.f0
        have f1 := HMr.out.f1
        have HAW := Lib.hid (awake3_any wr (HN.out.below HMr.out.bel))
        go_wp2_with fail
        refine HAW.out.mono ?_
        rintro e w3 ⟨rfl, hb3⟩
        have g0 := (hb3.cell (p := ⟨w2.heap.size, 0, none⟩) hB).trans f0
        have g1 := (hb3.cell (p := ⟨w2.heap.size, 1, none⟩) hB).trans f1
        have g2 := (hb3.cell (p := ⟨w2.heap.size, 2, none⟩) hB).trans f2
        have hB3 : w2.heap.size < w3.heap.size := Nat.lt_of_lt_of_le hB hb3.size
        have HB3 := Lib.hid (HMr.out.bel.trans (hb3.mono HMr.out.bel.size))
        clear f0 f1 f2 hb3 HAW HMr
        go_wp2
        go_ret
        exact ⟨rfl, HB3.out⟩
end Go.Proofs.YtmonbjlkkhpinaaDoor
