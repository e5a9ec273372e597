/-
  Layer 20: a record, put behind other bytes.
-/
import Derived.Test.YtcbadcbnknmdnaaRec7
import Derived.Test.YtcbadcbnknmdnaaRosT8
namespace Go.Proofs.Ytcbadcbnknmdnaa
open Go.RowKit
set_option linter.unusedVariables false

/-- A record's rows lie in blocks of K. -/
structure InK (K : Nat → Prop) (a : Option Addr) (ls : List (List Value)) (a2 : Option Addr) (ls2 : List (List Value)) : Prop where
  a : 0 < ls.length → ∀ x, a = some x → K x.block
  a2 : 0 < ls2.length → ∀ x, a2 = some x → K x.block
  c : ∀ r ∈ ls, ∀ x n c, Value.slice (some x) n c ∈ r → 0 < n → K x.block
  p : ∀ r ∈ ls2, ∀ x n c, Value.slice (some x) n c ∈ r → 0 < n → K x.block
theorem VRow.k {k : Nat} (hk : 0 < k) {K : Nat → Prop} {w W : World} {a : Option Addr} {ls : List (List Value)} (hw : VWide k ls) (h : VRow k w a ls) (hK : 0 < ls.length → ∀ x, a = some x → K x.block) (ht : Touch (fun k => ¬ K k) w W) : VRow k W a ls := by
  by_cases h0 : 0 < ls.length
  · exact VRow.touch hk hw h ht (fun x hx hn => hn (hK h0 x hx))
  · exact fun h1 => absurd h1 h0
theorem OrdRow.k {K : Nat → Prop} {w W : World} {a : Option Addr} {l : List Ord} (h : OrdRow w a l) (hK : 0 < l.length → ∀ x, a = some x → K x.block) (ht : Touch (fun k => ¬ K k) w W) : OrdRow W a l := by
  by_cases h0 : 0 < l.length
  · exact RecRow.touch (by decide) h ht (fun x hx hn => hn (hK h0 x hx))
  · exact fun h1 => absurd (by rw [ordsI_len] at h1; exact h1) h0
theorem RecIs.k {K : Nat → Prop} {w W : World} {R : Rec} {a a2 : Option Addr} {ls ls2 : List (List Value)} (h : RecIs w R a ls a2 ls2) (hK : InK K a ls a2 ls2) (ht : Touch (fun k => ¬ K k) w W) : RecIs W R a ls a2 ls2 := by
  obtain ⟨⟨h1, h2⟩, h3, h4⟩ := h
  refine ⟨⟨h1.k (by decide) h2.wide hK.a ht, h2.1, fun i hi hi' => ?_⟩, h3.k (by decide) h4.wide hK.a2 ht, h4.1, fun i hi hi' => ?_⟩
  · obtain ⟨av, cv, e, hl⟩ := h2.2 i hi hi'
    exact ⟨av, cv, e, act_touch hl ht (fun h0 x hx hn => hn (hK.c _ (List.getElem_mem hi) x R.ch[i].v.length cv (by rw [e, hx]; simp) h0))⟩
  · obtain ⟨av, cv, e, hl⟩ := h4.2 i hi hi'
    exact ⟨av, cv, e, OrdL.of (hl.1.k (fun h0 x hx => hK.p _ (List.getElem_mem hi) x R.pl[i].l.length cv (by rw [e, hx]; simp) h0) ht)⟩
/-- Of what lies, all blocks are there. -/
theorem RecIs.inK {w : World} {R : Rec} {a a2 : Option Addr} {ls ls2 : List (List Value)} (h : RecIs w R a ls a2 ls2) : InK (fun k => k < w.heap.size) a ls a2 ls2 := by
  obtain ⟨⟨h1, h2⟩, h3, h4⟩ := h
  refine ⟨fun h0 x hx => ?_, fun h0 x hx => ?_, fun r hr x n c hm h0 => ?_, fun r hr x n c hm h0 => ?_⟩
  · obtain ⟨b, off, y, m, e, hb, -⟩ := ch_at h1 h2 (k := 0) (by have := h2.1; omega)
    rw [hx] at e; cases e; exact hb
  · obtain ⟨b, off, y, m, e, hb, -⟩ := pl_at h3 h4 (k := 0) (by have := h4.1; omega)
    rw [hx] at e; cases e; exact hb
  · obtain ⟨i, hi, rfl⟩ := List.getElem_of_mem hr
    obtain ⟨av, cv, e, hl⟩ := h2.2 i hi (by have := h2.1; omega)
    rw [e] at hm
    simp only [List.mem_cons, List.not_mem_nil, or_false, Value.slice.injEq] at hm
    rcases hm with hm | hm | hm
    · cases hm
    · cases hm
    · obtain ⟨e1, e2, e3⟩ := hm
      obtain ⟨g, off, e4, hc⟩ := (act_row rfl hl).1 (by omega)
      rw [← e1] at e4; cases e4
      exact block_lt_of_cell (hc 0 (by omega))
  · obtain ⟨i, hi, rfl⟩ := List.getElem_of_mem hr
    obtain ⟨av, cv, e, hl⟩ := h4.2 i hi (by have := h4.1; omega)
    rw [e] at hm
    simp only [List.mem_cons, List.not_mem_nil, or_false, Value.slice.injEq] at hm
    rcases hm with hm | hm
    · cases hm
    · obtain ⟨e1, e2, e3⟩ := hm
      exact hl.1.lt (by omega) x e1.symm
theorem InK.sub {K K' : Nat → Prop} {a a2 : Option Addr} {ls ls2 : List (List Value)} (h : InK K a ls a2 ls2) (hs : ∀ k, K k → K' k) : InK K' a ls a2 ls2 :=
  ⟨fun h0 x hx => hs _ (h.a h0 x hx), fun h0 x hx => hs _ (h.a2 h0 x hx), fun r hr x n c hm h0 => hs _ (h.c r hr x n c hm h0), fun r hr x n c hm h0 => hs _ (h.p r hr x n c hm h0)⟩
theorem flat_len {α : Type} {f : α → List UInt8} {B : Nat} (l : List α) (h : ∀ x ∈ l, (f x).length ≤ B) : (l.map f).flatten.length ≤ B * l.length := by
  induction l with
  | nil => simp
  | cons x l ih =>
    have h1 := h x (by simp)
    have h2 := ih (fun y hy => h y (by simp [hy]))
    simp only [List.map_cons, List.flatten_cons, List.length_append, List.length_cons]
    rw [Nat.mul_add, Nat.mul_one]
    omega
theorem flat_snoc {α : Type} (f : α → List UInt8) (l : List α) (k : Nat) (h : k < l.length) : ((l.take (k + 1)).map f).flatten = ((l.take k).map f).flatten ++ f l[k] := by
  rw [List.take_succ_eq_append_getElem h, List.map_append, List.flatten_append]; simp
theorem batchB_len {l : List Ord} (h : BatchDom l) : (batchB l).length ≤ 400 := by
  have h1 := countsB_len (ns := [(l.length : Int)]) (by intro x hx; simp at hx; have := h.1; omega)
  have h2 := ordsB_len (l := l) (fun o ho => ordDom_in (h.2 o ho))
  have h3 := h.1
  unfold batchB
  rw [List.length_append]
  simp at h1
  omega
theorem plB_eq (q : Pl) : plB q = countsB [q.p] ++ batchB q.l := by
  unfold plB countsB numsB; simp
theorem recB_eq (R : Rec) (L : List UInt8) : L ++ countsB [R.t, (R.ch.length : Int)] ++ (R.ch.map chgB).flatten ++ countsB [R.tk, R.dl, (R.pl.length : Int)] ++ (R.pl.map plB).flatten = L ++ recB R := by
  unfold recB chsB plsB countsB numsB
  simp [List.append_assoc]
/-- A call that puts numbers that were laid at once. -/
theorem outCount_new {K : Nat → Prop} {b : Nat} {l : List UInt8} {w : World} (h : OutQ K b l w) (ns : List Int) (hl : l.length + 10 * ns.length ≤ 1000000000) (hns : ∀ x ∈ ns, x ≤ 9223372036854775807) (cs : Array Value) (hcs : cs = (ns.map (Value.int .i64)).toArray) (n cap : Nat) (hn : n = ns.length) :
    Calls Try.prog 55 #[.pointer (some ⟨b, 0, none⟩), .slice (some ⟨w.heap.size, 0, none⟩) n cap] (w.alloc (.cells cs 3)) fun r w' => r = .returned (.pointer (some ⟨b, 0, none⟩)) ∧ OutQ K b (l ++ countsB ns) w' ∧ Touch (fun k => ¬ K k) w w' := by
  have hb := bel_alloc (Below.refl _ w) (.cells cs 3)
  refine (outCount_q h ns hl hns hb w.heap.size 0 n cap hn (row_new18 w _ ns cs hcs _ rfl) (.inr (Nat.le_refl _))).mono ?_
  rintro r w' ⟨rfl, ho, ht⟩
  exact ⟨rfl, ho.sub (fun k hk => .inl hk), touchKK hb ht⟩
set_option maxRecDepth 100000 in
set_option maxHeartbeats 4000000 in
theorem recPut_any (K : Nat → Prop) (b : Nat) (l0 : List UInt8) (R : Rec) (a : Option Addr) (n c : Nat) (ls : List (List Value)) (a2 : Option Addr) (n2 c2 : Nat) (ls2 : List (List Value)) (w : World) (h : OutQ K b l0 w) (hr : RecIs w R a ls a2 ls2) (hK : InK K a ls a2 ls2) (hd : RecDom R) (hl0 : l0.length ≤ 10000000) (hn : n = ls.length) (hn2 : n2 = ls2.length) :
    Calls Try.prog 25 #[recV R.t a n c R.tk R.dl a2 n2 c2, .pointer (some ⟨b, 0, none⟩)] w (PutPost K b (l0 ++ recB R) w) := by
  obtain ⟨d1, d2, ⟨d3, d3'⟩, d4, d5, d6, d7, d8, d8'⟩ := hd
  have HE := Lib.hid (recB_eq R l0)
  have HLC := Lib.hid hr.1.2.1
  have HLP := Lib.hid hr.2.2.1
  have hX0 : OutQ (fun k => K k ∨ k = w.heap.size) b l0 (w.alloc (.cells #[.int .i64 R.t, .slice a n c, .int .i64 R.tk, .int .i64 R.dl, .slice a2 n2 c2] 34)) := h.add _
  have HO0 := Lib.hid hX0
  have HT0 := Lib.hid (touch_of_below (S := fun k => ¬ K k) (bel_alloc (Below.refl _ w) (.cells #[.int .i64 R.t, .slice a n c, .int .i64 R.tk, .int .i64 R.dl, .slice a2 n2 c2] 34)))
  have HC0 : Hid (Cs (w.alloc (.cells #[.int .i64 R.t, .slice a n c, .int .i64 R.tk, .int .i64 R.dl, .slice a2 n2 c2] 34)) w.heap.size [.int .i64 R.t, .slice a n c, .int .i64 R.tk, .int .i64 R.dl, .slice a2 n2 c2]) := Lib.hid (Cs.new rfl rfl)
  have HROW := Lib.hid (fun W (hW : Touch (fun k => ¬ K k) w W) => hr.k hK hW)
  have HK := Lib.hid hK
  obtain ⟨t, ch, tk, dl, pl⟩ := R
  simp only at d1 d2 d3 d3' d4 d5 d6 d7 d8 d8' HE HLC HLP HO0 HT0 HC0 HROW ⊢
  have HD3 := Lib.hid d3'
  have HD8 := Lib.hid d8'
  have hnc : n = ch.length := by rw [hn, HLC.out]
  have hnp : n2 = pl.length := by rw [hn2, HLP.out]
  have HNC := Lib.hid hnc
  have HNP := Lib.hid hnp
  rw [show ch.length = n from hnc.symm, show pl.length = n2 from hnp.symm] at HE
  rw [← hnc] at d3
  rw [← hnp] at d8
  unfold recV PutPost
  clear h hr hK hX0 hn hn2 hnc hnp d3' d8'
  go_enter Try.func25, Try.ntmps25
  go_upto_region 1 with (fail)
  generalize w.alloc (.cells #[.int .i64 t, .slice a n c, .int .i64 tk, .int .i64 dl, .slice a2 n2 c2] 34) = W0 at HO0 HT0 HC0 ⊢
  generalize w.heap.size = X at HO0 HC0 ⊢
  have x0 : W0.cell? ⟨X, 0, none⟩ = some (.int .i64 t) := HC0.out 0 (by simp)
  have x1 : W0.cell? ⟨X, 1, none⟩ = some (.slice a n c) := HC0.out 1 (by simp)
  have hX := block_lt_of_cell x0
  simp only at hX
  have HC1 := Lib.hid (outCount_new HO0.out [t, (n : Int)] (by simp; omega) (by intro x hx; simp at hx; omega) _ rfl 2 2 rfl)
  have HLE1 := Lib.hid (countsB_len (ns := [t, (n : Int)]) (by intro x hx; simp at hx; omega))
  go_wp2_with fail
  refine HC1.out.mono ?_
  rintro r w1 ⟨rfl, ho1, ht1⟩
  have HO1 := Lib.hid ho1
  have HC1' := Lib.hid (HC0.out.touch ht1 (fun hn => hn (.inr rfl)))
  have HT1 := Lib.hid (HT0.out.trans (ht1.mono fun k _ h1 h2 => h1 (.inl h2)))
  clear ho1 ht1 HO0 HC0 HT0 HC1 x0 x1 hX
  have x1 : w1.cell? ⟨X, 1, none⟩ = some (.slice a n c) := HC1'.out 1 (by simp)
  have hX := block_lt_of_cell x1
  simp only at hX
  go_wp2
  clear x1 hX
  go_loopw [19] (fun i wr => ∃ j : Nat, j ≤ n ∧ i = .int .i64 j ∧ Hid (OutQ (fun k => K k ∨ k = X) b (l0 ++ countsB [t, (n : Int)] ++ ((ch.take j).map chgB).flatten) wr ∧ Cs wr X [.int .i64 t, .slice a n c, .int .i64 tk, .int .i64 dl, .slice a2 n2 c2] ∧ Touch (fun k => ¬ K k) w wr)) (fun i _ => n - (intOf i).toNat)
  case atStart => exact ⟨0, by omega, rfl, Lib.hid ⟨by simpa using HO1.out, HC1'.out, HT1.out⟩⟩
  case round =>
    clear HO1 HC1' HT1
    obtain ⟨j, hj, rfl, HM⟩ := hrel
    have hi0 : (0 : Int) ≤ (j : Int) := by omega
    by_cases hlt : j < n
    · have hi1 : (j : Int) < (n : Int) := by omega
      have hjc : j < ch.length := by have := HNC.out; omega
      have hrow := HROW.out _ HM.out.2.2
      obtain ⟨g, off, av, cv, rfl, hg, c0, c1, c2', hact, hev⟩ := ch_at hrow.1.1 hrow.1.2 hjc
      have hKV : ∀ (h0 : 0 < ch[j].v.length) x, av = some x → K x.block := fun h0 x hx => by
        have hjl : j < ls.length := by rw [HLC.out]; exact hjc
        obtain ⟨av', cv', e', hl'⟩ := hrow.1.2.2 j hjl hjc
        have hev' : ls[j] = [.int .i64 ch[j].k, .int .i64 ch[j].p, .slice av ch[j].v.length cv] := hev
        exact HK.out.c _ (List.getElem_mem hjl) x ch[j].v.length cv (by rw [hev', hx]; simp) h0
      have HS := Lib.hid (flat_snoc chgB ch j hjc)
      have hdq := HD3.out _ (List.getElem_mem hjc)
      have HLJ : Hid ((l0 ++ countsB [t, (n : Int)] ++ ((ch.take j).map chgB).flatten).length ≤ 20000000) := Lib.hid (by
        have h1 := flat_len (f := chgB) (B := 400) (ch.take j) (fun x hx => chgB_len (HD3.out _ (List.mem_of_mem_take hx)))
        have h2 := List.length_take_le j ch
        have h3 := HLE1.out
        simp only [List.length_append]
        simp at h3
        omega)
      have hv := (act_row rfl hact).1
      generalize ch[j] = q at c0 c1 c2' hv hKV HS hdq
      obtain ⟨qk, qp, qv⟩ := q
      simp only at c0 c1 c2' hv hKV
      have HDQ := Lib.hid hdq
      have HVQ := Lib.hid hv
      have HKV := Lib.hid hKV
      have hrb : g < wr.heap.size := hg
      have HBC := Lib.hid (bel_alloc (Below.refl _ wr) (.cells #[.int .i64 qk, .int .i64 qp, .slice av qv.length cv] 97))
      have HPUT := Lib.hid (chPut_any (fun k => K k ∨ k = X) b _ qk qp av cv qv _ (HM.out.1.below HBC.out) (HVQ.out.below HBC.out) (fun h0 x hx => .inl (HKV.out h0 x hx)) HDQ.out (by have := HLJ.out; omega) qv.length rfl)
      unfold PutPost chV at HPUT
      clear hact hev hv hKV hrow hdq hg
      go_wp2_with fail
      refine HPUT.out.mono ?_
      rintro r w2 ⟨rfl, ho2, ht2⟩
      have HM2 : Hid (OutQ (fun k => K k ∨ k = X) b (l0 ++ countsB [t, (n : Int)] ++ ((ch.take (j + 1)).map chgB).flatten) w2 ∧ Cs w2 X [.int .i64 t, .slice (some ⟨g, off, none⟩) n c, .int .i64 tk, .int .i64 dl, .slice a2 n2 c2] ∧ Touch (fun k => ¬ K k) w w2) := Lib.hid ⟨by rw [HS.out, ← List.append_assoc]; exact ho2, (HM.out.2.1.touch (touch_of_below (S := fun _ => False) HBC.out) id).touch ht2 (fun hn => hn (.inr rfl)), (HM.out.2.2.trans (touch_of_below HBC.out)).trans (ht2.mono fun k _ h1 h2 => h1 (.inl h2))⟩
      clear ho2 ht2 HPUT HM HBC
      go_wp2
      go_roundw
      case rel => exact ⟨j + 1, by omega, by go_num, HM2⟩
      case measure => simp [intOf] <;> omega
    · obtain rfl : j = n := by omega
      have hi1 : (j : Int) ≤ (j : Int) := by omega
      have HTK : Hid (ch.take j = ch) := Lib.hid (List.take_of_length_le (by have := HNC.out; omega))
      rw [HTK.out] at HM
      have HLJ : Hid ((l0 ++ countsB [t, (j : Int)] ++ (ch.map chgB).flatten).length ≤ 20000000) := Lib.hid (by
        have h1 := flat_len (f := chgB) (B := 400) ch (fun x hx => chgB_len (HD3.out x hx))
        have h3 := HLE1.out
        have h4 := HNC.out
        simp only [List.length_append]
        simp at h3
        omega)
      have x2 : wr.cell? ⟨X, 2, none⟩ = some (.int .i64 tk) := HM.out.2.1 2 (by simp)
      have x3 : wr.cell? ⟨X, 3, none⟩ = some (.int .i64 dl) := HM.out.2.1 3 (by simp)
      have x4 : wr.cell? ⟨X, 4, none⟩ = some (.slice a2 n2 c2) := HM.out.2.1 4 (by simp)
      have hX := block_lt_of_cell x2
      simp only at hX
      generalize l0 ++ countsB [t, (j : Int)] ++ (ch.map chgB).flatten = L1 at HM HLJ HE
      have HC1 := Lib.hid (outCount_new HM.out.1 [tk, dl, (n2 : Int)] (by have := HLJ.out; simp; omega) (by intro x hx; simp at hx; omega) _ rfl 3 3 rfl)
      have HLE2 := Lib.hid (countsB_len (ns := [tk, dl, (n2 : Int)]) (by intro x hx; simp at hx; omega))
      clear HTK
      go_wp2_with fail
      refine HC1.out.mono ?_
      rintro r w3 ⟨rfl, ho1, ht1⟩
      have HO1 := Lib.hid ho1
      have HC1' := Lib.hid (HM.out.2.1.touch ht1 (fun hn => hn (.inr rfl)))
      have HT1 := Lib.hid (HM.out.2.2.trans (ht1.mono fun k _ h1 h2 => h1 (.inl h2)))
      clear ho1 ht1 HC1 x2 x3 x4 hX HM
      have x4 : w3.cell? ⟨X, 4, none⟩ = some (.slice a2 n2 c2) := HC1'.out 4 (by simp)
      have hX := block_lt_of_cell x4
      simp only at hX
      go_wp2
      clear x4 hX
      go_loopw [42] (fun i wr => ∃ k : Nat, k ≤ n2 ∧ i = .int .i64 k ∧ Hid (OutQ (fun k => K k ∨ k = X) b (L1 ++ countsB [tk, dl, (n2 : Int)] ++ ((pl.take k).map plB).flatten) wr ∧ Cs wr X [.int .i64 t, .slice a j c, .int .i64 tk, .int .i64 dl, .slice a2 n2 c2] ∧ Touch (fun k => ¬ K k) w wr)) (fun i _ => n2 - (intOf i).toNat)
      case atStart => exact ⟨0, by omega, rfl, Lib.hid ⟨by simpa using HO1.out, HC1'.out, HT1.out⟩⟩
      case round =>
        clear HO1 HC1' HT1
        obtain ⟨k, hk, rfl, HM⟩ := hrel
        have hk0 : (0 : Int) ≤ (k : Int) := by omega
        by_cases hlt2 : k < n2
        · have hk1 : (k : Int) < (n2 : Int) := by omega
          have hkp : k < pl.length := by have := HNP.out; omega
          have hrow := HROW.out _ HM.out.2.2
          obtain ⟨g, off, av, cv, rfl, hg, c0, c1, hact⟩ := pl_at hrow.2.1 hrow.2.2 hkp
          have hKV : ∀ (h0 : 0 < pl[k].l.length) x, av = some x → K x.block := fun h0 x hx => by
            have hkl : k < ls2.length := by rw [HLP.out]; exact hkp
            obtain ⟨b', off', e', hc'⟩ := hrow.2.1 (by omega)
            obtain ⟨av', cv', e1', hl'⟩ := hrow.2.2.2 k hkl hkp
            cases e'
            have h9 := hc' k hkl 1 (by decide)
            rw [e1'] at h9
            have h8 : (some (Value.slice av pl[k].l.length cv)) = some (Value.slice av' pl[k].l.length cv') := c1.symm.trans h9
            simp only [Option.some.injEq, Value.slice.injEq, true_and] at h8
            exact HK.out.p _ (List.getElem_mem hkl) x pl[k].l.length cv' (by rw [e1', ← h8.1, hx]; simp) h0
          have HS := Lib.hid (flat_snoc plB pl k hkp)
          have hdq := HD8.out _ (List.getElem_mem hkp)
          have HLJ2 : Hid ((L1 ++ countsB [tk, dl, (n2 : Int)] ++ ((pl.take k).map plB).flatten).length ≤ 40000000) := Lib.hid (by
            have h1 := flat_len (f := plB) (B := 410) (pl.take k) (fun x hx => by
              have h1 := HD8.out _ (List.mem_of_mem_take hx)
              have h2 := batchB_len h1.2.2
              have h3 := countsB_len (ns := [x.p]) (by intro y hy; simp at hy; have := h1.1; have := h1.2.1; omega)
              rw [plB_eq, List.length_append]
              simp at h3
              omega)
            have h2 := List.length_take_le k pl
            have h3 := HLE2.out
            have h4 := HLJ.out
            simp only [List.length_append]
            simp at h3
            omega)
          have hor := hact.1
          generalize pl[k] = q at c0 c1 hor hKV HS hdq
          obtain ⟨qp, ql⟩ := q
          obtain ⟨q1, q2, q3⟩ := hdq
          simp only at c0 c1 hor hKV q1 q2 q3
          have HDQ := Lib.hid q3
          have HVQ := Lib.hid hor
          have HKV := Lib.hid hKV
          have hrb : g < wr.heap.size := hg
          have HBC := Lib.hid (bel_alloc (Below.refl _ wr) (.cells #[.int .i64 qp, .slice av ql.length cv] 52))
          have HOA := Lib.hid (HM.out.1.add (.cells #[.int .i64 qp, .slice av ql.length cv] 52))
          have y0 : (wr.alloc (.cells #[.int .i64 qp, .slice av ql.length cv] 52)).cell? ⟨wr.heap.size, 0, none⟩ = some (.int .i64 qp) := new_cell rfl rfl
          have y1 : (wr.alloc (.cells #[.int .i64 qp, .slice av ql.length cv] 52)).cell? ⟨wr.heap.size, 1, none⟩ = some (.slice av ql.length cv) := new_cell rfl rfl
          clear hact hor hKV hrow hg q3
          go_upto_region 11 with (fail)
          generalize hPB : wr.heap.size = PB at HOA y0 y1 ⊢
          have HPB := Lib.hid hPB
          clear hPB
          have hXP := Lib.hid (Nat.le_refl wr.heap.size)
          generalize hW4 : wr.alloc (.cells #[.int .i64 qp, .slice av ql.length cv] 52) = W4 at HBC HOA y0 y1 ⊢
          clear hW4
          have hPl := block_lt_of_cell y0
          simp only at hPl
          have HC1 := Lib.hid (outCount_new HOA.out [qp] (by have := HLJ2.out; simp only [List.length_cons, List.length_nil]; omega) (by intro x hx; simp at hx; omega) _ rfl 1 1 rfl)
          have HLE3 := Lib.hid (countsB_len (ns := [qp]) (by intro x hx; simp at hx; omega))
          clear c0 c1 hrb
          go_wp2_with fail
          refine HC1.out.mono ?_
          rintro r w5 ⟨rfl, ho5, ht5⟩
          have y1' := keep_cell (S := fun k => (K k ∨ k = X) ∨ k = PB) ht5 (.inr rfl) y1
          have hPl' := block_lt_of_cell y1'
          simp only at hPl'
          have HO5 := Lib.hid (ho5.sub (K := fun k => K k ∨ k = X) (fun k h => .inl h))
          have HT5 := Lib.hid ((HM.out.2.2.trans (touch_of_below HBC.out)).trans (ht5.mono fun k _ h1 h2 => h1 (.inl (.inl h2))))
          have HC5 := Lib.hid ((HM.out.2.1.touch (touch_of_below (S := fun _ => False) HBC.out) id).touch ht5 (fun hn => hn (.inl (.inr rfl))))
          have HR5 := Lib.hid (OrdRow.k (K := K) HVQ.out (fun h0 x hx => HKV.out h0 x hx) ((touch_of_below HBC.out).trans (ht5.mono fun k _ h1 h2 => h1 (.inl (.inl h2)))))
          clear ho5 ht5 HC1 HOA HM HBC y0 y1 hPl HPB hXP
          have HPUT := Lib.hid (ordPut_any (fun k => K k ∨ k = X) b _ av cv ql w5 HO5.out HR5.out (fun h0 x hx => .inl (HKV.out h0 x hx)) (fun o ho => ordDom_in (HDQ.out.2 o ho)) HDQ.out.1 (by have := HLJ2.out; have h3 := HLE3.out; simp at h3; rw [List.length_append]; omega))
          go_wp2_with fail
          refine HPUT.out.mono ?_
          rintro r w6 ⟨rfl, ho6, ht6⟩
          have HM2 : Hid (OutQ (fun k => K k ∨ k = X) b (L1 ++ countsB [tk, dl, (n2 : Int)] ++ ((pl.take (k + 1)).map plB).flatten) w6 ∧ Cs w6 X [.int .i64 t, .slice a j c, .int .i64 tk, .int .i64 dl, .slice (some ⟨g, off, none⟩) n2 c2] ∧ Touch (fun k => ¬ K k) w w6) := Lib.hid ⟨by rw [HS.out, plB_eq]; simp only [← List.append_assoc]; exact ho6, HC5.out.touch ht6 (fun hn => hn (.inr rfl)), HT5.out.trans (ht6.mono fun k _ h1 h2 => h1 (.inl h2))⟩
          clear ho6 ht6 HPUT HO5 HT5 HC5 HR5 y1' hPl'
          go_wp2
          go_roundw
          case rel => exact ⟨k + 1, by omega, by go_num, HM2⟩
          case measure => simp [intOf] <;> omega
        · obtain rfl : k = n2 := by omega
          have hk1 : (k : Int) ≤ (k : Int) := by omega
          have HTK : Hid (pl.take k = pl) := Lib.hid (List.take_of_length_le (by have := HNP.out; omega))
          rw [HTK.out, HE.out] at HM
          go_wp2
          go_end0
          exact ⟨rfl, HM.out.1.sub (fun k h => .inl h), HM.out.2.2⟩
end Go.Proofs.Ytcbadcbnknmdnaa
