/-
  Layer 14: some wait no more: the calls.
-/
import Derived.Test.YtpilkaggiajjmaaTim10
import Derived.Deep.DeepCutAuto
namespace Go.Proofs.Ytpilkaggiajjmaa
open Go.RowKit
set_option linter.unusedVariables false

def leftT (p : Tn → Bool) (l : List Tn) : List Tn := l.filter (fun x => !p x)
theorem leftT_snoc (p : Tn → Bool) (l : List Tn) (x : Tn) : leftT p (l ++ [x]) = leftT p l ++ (if p x = true then [] else [x]) := by
  unfold leftT; rw [List.filter_append]; congr 1
  by_cases h : p x = true <;> simp [h]
/-- Behind j of them: what is left stands ahead of i; what is not looked at yet stands where it stood. -/
structure DelM (w : World) (a : Option Addr) (c : Nat) (l : List Tn) (p : Tn → Bool) (i j : Nat) (R : List Tn) (wr : World) : Prop where
  len : R.length = l.length
  lo : R.take i = leftT p (l.take j)
  hi : R.drop j = l.drop j
  own : OwnV 135 4 0 a c (R.map tnC) wr
  tch : Touch (fun k => a.map (·.block) = some k) w wr
theorem DelM.at {w : World} {a : Option Addr} {c : Nat} {l : List Tn} {p : Tn → Bool} {i j : Nat} {R : List Tn} {wr : World} (h : DelM w a c l p i j R wr) (hj : j < l.length) : R[j]'(by rw [h.len]; exact hj) = l[j] := by
  have h1 := congrArg (fun (q : List Tn) => q[0]?) h.hi
  simp only [List.getElem?_drop, Nat.add_zero] at h1
  rw [List.getElem?_eq_getElem (by rw [h.len]; exact hj), List.getElem?_eq_getElem hj] at h1
  exact Option.some.inj h1
theorem DelM.skip {w : World} {a : Option Addr} {c : Nat} {l : List Tn} {p : Tn → Bool} {i j : Nat} {R : List Tn} {wr w' : World} (h : DelM w a c l p i j R wr) (hj : j < l.length) (hp : p l[j] = true) (hb : Below wr.heap.size wr w') : DelM w a c l p i (j + 1) R w' :=
  ⟨h.len, by rw [h.lo, List.take_succ_eq_append_getElem hj, leftT_snoc, if_pos hp, List.append_nil], by rw [← List.drop_drop, ← List.drop_drop, h.hi], h.own.touch (touch_of_below (S := fun _ => False) hb) (fun _ _ => id), h.tch.trans (touch_of_below hb)⟩
theorem DelM.take {w : World} {g c : Nat} {l : List Tn} {p : Tn → Bool} {i j : Nat} {R : List Tn} {wr w' : World} (h : DelM w (some ⟨g, 0, none⟩) c l p i j R wr) (hj : j < l.length) (hij : i < j) (hp : p l[j] = false) (hb : Below wr.heap.size wr w') (y : Tn) (hy : y = l[j]) :
    DelM w (some ⟨g, 0, none⟩) c l p (i + 1) (j + 1) (R.set i y) ((((w'.setCell ⟨g, i * 4, none⟩ (.int .u32 (y.n : Int))).setCell ⟨g, i * 4 + 1, none⟩ (.int .i64 (y.due : Int))).setCell ⟨g, i * 4 + 2, none⟩ (.int .i64 (y.long : Int))).setCell ⟨g, i * 4 + 3, none⟩ (.int .i64 (y.times : Int))) := by
  subst hy
  have hi : i < R.length := by rw [h.len]; omega
  have ht : Touch (fun k => k = g) w' ((((w'.setCell ⟨g, i * 4, none⟩ (.int .u32 (l[j].n : Int))).setCell ⟨g, i * 4 + 1, none⟩ (.int .i64 (l[j].due : Int))).setCell ⟨g, i * 4 + 2, none⟩ (.int .i64 (l[j].long : Int))).setCell ⟨g, i * 4 + 3, none⟩ (.int .i64 (l[j].times : Int))) :=
    ((((Touch.refl (fun j => j = g) w').setCell (p := ⟨g, i * 4, none⟩) (fun _ => rfl) _).setCell (p := ⟨g, i * 4 + 1, none⟩) (fun _ => rfl) _).setCell (p := ⟨g, i * 4 + 2, none⟩) (fun _ => rfl) _).setCell (p := ⟨g, i * 4 + 3, none⟩) (fun _ => rfl) _
  refine ⟨by rw [List.length_set]; exact h.len, ?_, ?_, (h.own.touch (touch_of_below (S := fun _ => False) hb) (fun _ _ => id)).setT i hi l[j], (h.tch.trans (touch_of_below hb)).trans (ht.mono fun k _ e => by subst e; rfl)⟩
  · rw [List.take_succ_eq_append_getElem (by rw [List.length_set]; exact hi), List.getElem_set_self, List.take_set_of_le (Nat.le_refl _), h.lo, List.take_succ_eq_append_getElem hj, leftT_snoc, if_neg (by simp [hp])]
  · rw [List.drop_set_of_lt (by omega), ← List.drop_drop, ← List.drop_drop, h.hi]
def DelPostT (w : World) (a : Option Addr) (c : Nat) (l : List Tn) (p : Tn → Bool) (r : Ending) (w' : World) : Prop :=
  r = .returned (.slice a (leftT p l).length c) ∧ OwnV 135 4 0 a c ((leftT p l).map tnC) w' ∧ Touch (fun k => a.map (·.block) = some k) w w'
set_option maxRecDepth 100000 in
set_option maxHeartbeats 1000000 in
theorem delF_any (g : Nat) (lb : Array Value) (eg : ∀ args w, (callFunc g args).run Try.prog w = .ok (.enter g args) w) (a : Option Addr) (c : Nat) (l : List Tn) (p : Tn → Bool) (w : World) (hl : l.length ≤ 1000) (h : OwnV 135 4 0 a c (l.map tnC) w) (hp : TellsT g lb l p (fun k => a.map (·.block) = some k) w) :
    Calls Try.prog 62 #[.slice a l.length c, .func (.func g) #[] lb] w (DelPostT w a c l p) := by
  have HH := Lib.hid h
  have HP := Lib.hid hp
  have HI := Lib.hid (idxF_any g lb eg a c l p w hl (h.row (tn_wide l)) hp.tells)
  generalize hpost : DelPostT w a c l p = Post
  have HPost := Lib.hid hpost
  clear h hp hpost
  go_enter Try.func62, Try.ntmps62
  go_wp2_with fail
  refine HI.out.mono ?_
  rintro r w1 ⟨z, rfl, hz, hb1⟩
  have HB1 := Lib.hid hb1
  clear hb1 HI
  rcases hz with ⟨k0, hk0, rfl, hpk, hno⟩ | ⟨rfl, hno⟩
  · obtain ⟨g0, rfl⟩ := HH.out.isg (by rw [List.length_map]; omega)
    have HD1 : Hid (DelM w (some ⟨g0, 0, none⟩) c l p k0 (k0 + 1) l w1) := Lib.hid (by
      refine ⟨rfl, ?_, rfl, HH.out.touch (touch_of_below (S := fun _ => False) HB1.out) (fun _ _ => id), touch_of_below HB1.out⟩
      rw [List.take_succ_eq_append_getElem hk0, leftT_snoc, if_pos hpk, List.append_nil]
      unfold leftT
      rw [List.filter_eq_self.2]
      intro x hx
      obtain ⟨j, hj, rfl⟩ := List.getElem_of_mem hx
      rw [List.length_take] at hj
      rw [List.getElem_take, hno j (by omega)]; rfl)
    have hne : ((k0 : Int) == -1) = false := by rw [beq_eq_false_iff_ne]; omega
    have hk0b : (k0 : Int) ≤ 1000 := by omega
    have hk00 : (0 : Int) ≤ (k0 : Int) := by omega
    clear hno hpk HB1
    go_wp2_with fail
    go_loopw [5, 6] (fun v5 v6 wr => ∃ (i j : Nat) (R : List Tn), i < j ∧ j ≤ l.length ∧ v5 = .int .i64 i ∧ v6 = .int .i64 j ∧ Hid (DelM w (some ⟨g0, 0, none⟩) c l p i j R wr)) (fun _ v6 _ => l.length - (intOf v6).toNat)
    case atStart => exact ⟨k0, k0 + 1, l, by omega, by omega, rfl, by go_num, HD1⟩
    case round =>
      obtain ⟨i, j, R, hij, hj, rfl, rfl, HD⟩ := hrel
      by_cases hlt : j < l.length
      · obtain ⟨gb, off, e1, hg, d0, d1, d2, d3⟩ := TRow.at (HD.out.own.row (tn_wide R)) (k := j) (by rw [HD.out.len]; exact hlt)
        simp only [Option.some.injEq, Addr.mk.injEq] at e1
        obtain ⟨rfl, rfl, -⟩ := e1
        rw [HD.out.at hlt] at d0 d1 d2 d3
        simp only [Nat.zero_add] at d0 d1 d2 d3
        obtain ⟨gb2, off2, e2, -, s0, s1, s2, s3⟩ := TRow.at (HD.out.own.row (tn_wide R)) (k := i) (by rw [HD.out.len]; omega)
        simp only [Option.some.injEq, Addr.mk.injEq] at e2
        obtain ⟨rfl, rfl, -⟩ := e2
        simp only [Nat.zero_add] at s0 s1 s2 s3
        have hiR : i < R.length := by rw [HD.out.len]; omega
        generalize R[i]'hiR = sx at s0 s1 s2 s3
        have HMEM := Lib.hid (List.getElem_mem hlt)
        have hA := bel_alloc (Below.refl wr.heap.size wr) (.cells #[.int .u32 (l[j].n : Int), .int .i64 (l[j].due : Int), .int .i64 (l[j].long : Int), .int .i64 (l[j].times : Int)] 135)
        have HC := Lib.hid (HP.out (wr.alloc (.cells #[.int .u32 (l[j].n : Int), .int .i64 (l[j].due : Int), .int .i64 (l[j].long : Int), .int .i64 (l[j].times : Int)] 135)) l[j].n l[j].due l[j].long l[j].times HMEM.out (HD.out.tch.trans (touch_of_below hA)))
        have HSK := Lib.hid (fun W (hb : Below wr.heap.size wr W) (h : p l[j] = true) => HD.out.skip hlt h hb)
        have HTK := Lib.hid (fun W (hb : Below wr.heap.size wr W) (h : p l[j] = false) => HD.out.take hlt hij h hb l[j] rfl)
        have HFZ := Lib.hid (fun o => HD.out.own.frozen o)
        have HA := Lib.hid hA
        clear hA HMEM HD
        generalize l[j] = x at d0 d1 d2 d3 HC HSK HTK HA
        obtain ⟨un, ud, ug, ut⟩ := x
        simp only at d0 d1 d2 d3 HC HSK HTK HA
        have q0 : (wr.alloc (.cells #[.int .u32 (un : Int), .int .i64 (ud : Int), .int .i64 (ug : Int), .int .i64 (ut : Int)] 135)).cell? ⟨wr.heap.size, 0, none⟩ = some (.int .u32 (un : Int)) := by simp
        have q1 : (wr.alloc (.cells #[.int .u32 (un : Int), .int .i64 (ud : Int), .int .i64 (ug : Int), .int .i64 (ut : Int)] 135)).cell? ⟨wr.heap.size, 1, none⟩ = some (.int .i64 (ud : Int)) := by simp
        have q2 : (wr.alloc (.cells #[.int .u32 (un : Int), .int .i64 (ud : Int), .int .i64 (ug : Int), .int .i64 (ut : Int)] 135)).cell? ⟨wr.heap.size, 2, none⟩ = some (.int .i64 (ug : Int)) := by simp
        have q3 : (wr.alloc (.cells #[.int .u32 (un : Int), .int .i64 (ud : Int), .int .i64 (ug : Int), .int .i64 (ut : Int)] 135)).cell? ⟨wr.heap.size, 3, none⟩ = some (.int .i64 (ut : Int)) := by simp
        have HQ := Lib.hid (show ((wr.alloc (.cells #[.int .u32 (un : Int), .int .i64 (ud : Int), .int .i64 (ug : Int), .int .i64 (ut : Int)] 135)).cell? ⟨wr.heap.size, 0, none⟩ = some (.int .u32 (un : Int)) ∧ (wr.alloc (.cells #[.int .u32 (un : Int), .int .i64 (ud : Int), .int .i64 (ug : Int), .int .i64 (ut : Int)] 135)).cell? ⟨wr.heap.size, 1, none⟩ = some (.int .i64 (ud : Int))) ∧ ((wr.alloc (.cells #[.int .u32 (un : Int), .int .i64 (ud : Int), .int .i64 (ug : Int), .int .i64 (ut : Int)] 135)).cell? ⟨wr.heap.size, 2, none⟩ = some (.int .i64 (ug : Int)) ∧ (wr.alloc (.cells #[.int .u32 (un : Int), .int .i64 (ud : Int), .int .i64 (ug : Int), .int .i64 (ut : Int)] 135)).cell? ⟨wr.heap.size, 3, none⟩ = some (.int .i64 (ut : Int))) from ⟨⟨q0, q1⟩, q2, q3⟩)
        clear q0 q1 q2 q3
        have hj0 : (0 : Int) ≤ (j : Int) := by omega
        have hj1 : (j : Int) < (l.length : Int) := by omega
        have hi0 : (0 : Int) ≤ (i : Int) := by omega
        have hi1 : (i : Int) < (l.length : Int) := by omega
        have hjb : (j : Int) ≤ 1000 := by omega
        go_upto_region 8 with (fail)
        clear d0 d1 d2 d3
        generalize wr.alloc (.cells #[.int .u32 (un : Int), .int .i64 (ud : Int), .int .i64 (ug : Int), .int .i64 (ut : Int)] 135) = W2 at HC HQ HA ⊢
        generalize wr.heap.size = Y at HQ ⊢
        obtain ⟨⟨q0, q1⟩, q2, q3⟩ := HQ.out
        have hql := block_lt_of_cell q0
        simp only at hql
        cases hq : p ⟨un, ud, ug, ut⟩ with
        | true =>
          have HS2 := Lib.hid (fun W hb => HSK.out W hb hq)
          rw [hq] at HC
          clear hq HSK HTK
          go_wp2_with (go_at_fn g; refine HC.out.mono ?_; rintro r w4 ⟨rfl, hb4⟩)
          go_roundw
          case rel => exact ⟨i, j + 1, R, by omega, by omega, rfl, by go_num, Lib.hid (HS2.out w4 (HA.out.trans (hb4.mono HA.out.size)))⟩
          case measure => simp [intOf] <;> omega
        | false =>
          have HS2 := Lib.hid (fun W hb => HTK.out W hb hq)
          rw [hq] at HC
          clear hq HSK HTK
          have HK4 := Lib.hid (fun (W : World) (hb : Below W2.heap.size W2 W) => show (((W.cell? ⟨Y, 0, none⟩ = some (.int .u32 (un : Int)) ∧ W.cell? ⟨Y, 1, none⟩ = some (.int .i64 (ud : Int))) ∧ (W.cell? ⟨Y, 2, none⟩ = some (.int .i64 (ug : Int)) ∧ W.cell? ⟨Y, 3, none⟩ = some (.int .i64 (ut : Int)))) ∧ Below wr.heap.size wr W) from ⟨⟨⟨(hb.cell (block_lt_of_cell q0)).trans q0, (hb.cell (block_lt_of_cell q1)).trans q1⟩, (hb.cell (block_lt_of_cell q2)).trans q2, (hb.cell (block_lt_of_cell q3)).trans q3⟩, HA.out.trans (hb.mono HA.out.size)⟩)
          go_upto_region 9 with (go_at_fn g; refine HC.out.mono ?_; rintro r w4 ⟨rfl, hb4⟩; have HW4 := Lib.hid (HK4.out _ hb4); clear hb4)
          obtain ⟨⟨⟨u0, u1⟩, u2, u3⟩, hbw⟩ := HW4.out
          have HF4 := Lib.hid (HS2.out w4 hbw)
          have hul := block_lt_of_cell u0
          simp only at hul
          have v0 := (hbw.cell (p := ⟨g0, i * 4, none⟩) (block_lt_of_cell s0)).trans s0
          have v1 := (hbw.cell (p := ⟨g0, i * 4 + 1, none⟩) (block_lt_of_cell s1)).trans s1
          have v2 := (hbw.cell (p := ⟨g0, i * 4 + 2, none⟩) (block_lt_of_cell s2)).trans s2
          have v3 := (hbw.cell (p := ⟨g0, i * 4 + 3, none⟩) (block_lt_of_cell s3)).trans s3
          have z0 := (hbw.frozen (p := ⟨g0, i * 4, none⟩) (block_lt_of_cell s0)).trans (HFZ.out _)
          have z1 := (hbw.frozen (p := ⟨g0, i * 4 + 1, none⟩) (block_lt_of_cell s1)).trans (HFZ.out _)
          have z2 := (hbw.frozen (p := ⟨g0, i * 4 + 2, none⟩) (block_lt_of_cell s2)).trans (HFZ.out _)
          have z3 := (hbw.frozen (p := ⟨g0, i * 4 + 3, none⟩) (block_lt_of_cell s3)).trans (HFZ.out _)
          have hgw := block_lt_of_cell v0
          simp only at hgw
          clear hbw q0 q1 q2 q3 hql s0 s1 s2 s3
          go_wp2
          go_roundw
          case rel => exact ⟨i + 1, j + 1, _, by omega, by omega, by go_num, by go_num, HF4⟩
          case measure => simp [intOf] <;> omega
      · obtain rfl : j = l.length := by omega
        have hlo := HD.out.lo
        rw [List.take_length] at hlo
        obtain ⟨w5, hrun, ho5, ht5⟩ := clear_tail (ty := 130) HD.out.own (i := i) (n := l.length - i) (by rw [HD.out.len]; omega) (by rw [HD.out.len]) (c - i)
        rw [hlo] at ho5
        have hil : (leftT p l).length = i := by rw [← hlo, List.length_take, HD.out.len]; omega
        have HF : Hid (DelPostT w (some ⟨g0, 0, none⟩) c l p (.returned (.slice (some ⟨g0, 0, none⟩) i c)) w5) := Lib.hid ⟨by rw [hil], ho5, HD.out.tch.trans (ht5.mono fun k _ e => by subst e; rfl)⟩
        rw [HPost.out] at HF
        have hcap : l.length ≤ c ∧ c ≤ maxLen := by
          rcases HH.out.1.2 with ⟨hv, -⟩ | ⟨g', cap, cur, hv, -, -, hnc, hcm, -⟩
          · simp at hv
          · simp only [Value.slice.injEq] at hv
            rw [List.length_map] at hnc
            rw [hv.2.2]; exact ⟨hnc, hcm⟩
        unfold maxLen at hcap
        have hic : ¬ c = i := by omega
        have hic2 : (i : Int) ≤ (l.length : Int) := by omega
        have hic3 : (i : Int) ≤ (c : Int) := by omega
        have hi0 : (0 : Int) ≤ (i : Int) := by omega
        have hj1 : (l.length : Int) ≤ (l.length : Int) := by omega
        have hcl : ∀ ty, (Builtin.clear_ #[130] ty #[.slice (some ⟨g0, i * 4, none⟩) (l.length - i) (c - i)]).run Try.prog wr = .ok (.tuple #[]) w5 := fun ty => by
          have : (Builtin.clear_ #[130] ty #[.slice (some ⟨g0, i * 4, none⟩) (l.length - i) (c - i)]) = (Builtin.clear_ #[130] 130 #[.slice (some ⟨g0, i * 4, none⟩) (l.length - i) (c - i)]) := rfl
          rw [this]; exact hrun
        clear hrun ho5 ht5 hlo hil HD
        go_wp2
        exact HF.out
  · have HF : Hid (DelPostT w a c l p (.returned (.slice a l.length c)) w1) := Lib.hid (by
      have e : leftT p l = l := by
        unfold leftT
        rw [List.filter_eq_self]
        intro x hx
        rw [hno x hx]; rfl
      exact ⟨by rw [e], by rw [e]; exact HH.out.touch (touch_of_below (S := fun _ => False) HB1.out) (fun _ _ => id), touch_of_below HB1.out⟩)
    rw [HPost.out] at HF
    clear hno HB1
    go_wp2
    exact HF.out
end Go.Proofs.Ytpilkaggiajjmaa
