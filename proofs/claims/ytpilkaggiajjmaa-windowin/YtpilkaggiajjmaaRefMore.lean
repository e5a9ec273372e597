/-
  The document's own reader: counts, whole numbers, texts, the end.
-/
import Derived.Test.YtpilkaggiajjmaaRefNumT
namespace Go.Proofs.Ytpilkaggiajjmaa
open Go.RowKit
set_option linter.unusedVariables false

theorem numS_ok (st : List UInt8 × Nat) (h : st.2 ≠ 0 → st.1 = []) (hl : st.1.length ≤ 1000000000) : ((numS st).1.2 ≠ 0 → (numS st).1.1 = []) ∧ (numS st).1.1.length ≤ 1000000000 := by
  unfold numS; split
  · refine ⟨failS_ok st _ h, ?_⟩
    unfold failS; split
    · simp
    · exact hl
  · refine ⟨fun h' => ?_, ?_⟩
    · simp only at h' ⊢; rw [h h']; simp
    · simp; omega
theorem countS_ok (st : List UInt8 × Nat) (most : Int) (h : st.2 ≠ 0 → st.1 = []) (hl : st.1.length ≤ 1000000000) : ((countS st most).1.2 ≠ 0 → (countS st most).1.1 = []) ∧ (countS st most).1.1.length ≤ 1000000000 := by
  have h1 := numS_ok st h hl
  unfold countS; split
  · refine ⟨failS_ok _ _ h1.1, ?_⟩
    unfold failS; split
    · simp
    · exact h1.2
  · exact h1
set_option maxHeartbeats 1000000 in
set_option maxRecDepth 100000 in
theorem refTakeCount_any (l : List UInt8) (e : Nat) (most : Int) (w : World) (hn : most ≤ 9223372036854775807) (hn' : -9223372036854775808 ≤ most) (hl : l.length ≤ 1000000000) (h : e ≠ 0 → l = []) :
    Calls Try.prog 74 #[.agg #[.string (bs l), .int .i64 e], .int .i64 most] w fun r w' => r = .returned (.tuple #[inV (countS (l, e) most).1, .int .i64 ((countS (l, e) most).2 : Nat)]) ∧ Below w.heap.size w w' := by
  have hN := fun w => refTakeNum_any l e w hl h
  have hS : countS (l, e) most = if max most 0 < ((numS (l, e)).2 : Int) then (failS (numS (l, e)).1 3, 0) else numS (l, e) := rfl
  have hlt := numS_lt (l, e)
  generalize numS (l, e) = t at hN hS hlt
  obtain ⟨⟨l1, e1⟩, n⟩ := t
  have HS := Lib.hid hS
  have HN := Lib.hid hN
  simp only at hlt
  have HLT := Lib.hid hlt
  have HT := Lib.hid (takeW_new w l e)
  clear hN hS h hlt
  go_enter Try.func74, Try.ntmps74
  go_wp2_with fail
  refine (HN.out _).mono ?_
  rintro r w1 ⟨rfl, hb1⟩
  have hT1 := HT.out.keep hb1
  have HT1 := Lib.hid hT1
  obtain ⟨c0', c1', f0', f1', r0', r1', g0', g1', sz', bel'⟩ := hT1
  have sz0 : w.heap.size < w1.heap.size := by omega
  clear bel' hb1 HT HN
  unfold inV
  simp only
  by_cases hneg : most < 0
  · by_cases hbig : 0 < n
    · have hlt := HLT.out
      have HR := Lib.hid (show countS (l, e) most = (failS (l1, e1) 3, 0) by rw [HS.out, if_pos (by omega)])
      have HT2 := Lib.hid (HT1.out.set l1 (.int .i64 e1))
      go_wp2_with fail
      refine (refFail_any l1 e1 3 _).mono ?_
      rintro r w2 ⟨rfl, hb2⟩
      generalize failS (l1, e1) 3 = st at HR ⊢
      obtain ⟨l2, e2⟩ := st
      have hT3 := HT2.out.keep hb2
      have HT3 := Lib.hid hT3
      obtain ⟨d0', d1', p0', p1', s0', s1', q0', q1', tz', bel'⟩ := hT3
      clear bel' hb2 HT2 c0' c1' f0' f1' r0' r1' g0' g1'
      unfold inV
      go_wp2
      exact bodyPost_ret (v := .tuple #[.agg #[.string (bs l2), .int .i64 e2], .int .i64 0]) (by simp [results, Try.results74, go_sem, s0', s1']) rfl ⟨by rw [HR.out]; rfl, HT3.out.end0 _ _⟩
    · have HR := Lib.hid (show countS (l, e) most = ((l1, e1), n) by rw [HS.out, if_neg (by omega)])
      have HT2 := Lib.hid (HT1.out.set l1 (.int .i64 e1))
      go_wp2
      exact bodyPost_ret (v := .tuple #[.agg #[.string (bs l1), .int .i64 e1], .int .i64 n]) (by simp [results, Try.results74, go_sem, r0', r1']) rfl ⟨by rw [HR.out]; rfl, HT2.out.end0 _ _⟩
  · obtain ⟨m, rfl⟩ := Int.eq_ofNat_of_zero_le (show 0 ≤ most by omega)
    have hm : m ≤ 9223372036854775807 := by omega
    by_cases hbig : m < n
    · have hlt := HLT.out
      have HR := Lib.hid (show countS (l, e) m = (failS (l1, e1) 3, 0) by rw [HS.out, if_pos (by omega)])
      have HT2 := Lib.hid (HT1.out.set l1 (.int .i64 e1))
      go_wp2_with fail
      refine (refFail_any l1 e1 3 _).mono ?_
      rintro r w2 ⟨rfl, hb2⟩
      generalize failS (l1, e1) 3 = st at HR ⊢
      obtain ⟨l2, e2⟩ := st
      have hT3 := HT2.out.keep hb2
      have HT3 := Lib.hid hT3
      obtain ⟨d0', d1', p0', p1', s0', s1', q0', q1', tz', bel'⟩ := hT3
      clear bel' hb2 HT2 c0' c1' f0' f1' r0' r1' g0' g1'
      unfold inV
      go_wp2
      exact bodyPost_ret (v := .tuple #[.agg #[.string (bs l2), .int .i64 e2], .int .i64 0]) (by simp [results, Try.results74, go_sem, s0', s1']) rfl ⟨by rw [HR.out]; rfl, HT3.out.end0 _ _⟩
    · have HR := Lib.hid (show countS (l, e) m = ((l1, e1), n) by rw [HS.out, if_neg (by omega)])
      have HT2 := Lib.hid (HT1.out.set l1 (.int .i64 e1))
      go_wp2
      exact bodyPost_ret (v := .tuple #[.agg #[.string (bs l1), .int .i64 e1], .int .i64 n]) (by simp [results, Try.results74, go_sem, r0', r1']) rfl ⟨by rw [HR.out]; rfl, HT2.out.end0 _ _⟩
set_option maxHeartbeats 1000000 in
set_option maxRecDepth 100000 in
theorem refTakeStr_any (l : List UInt8) (e : Nat) (most : Int) (w : World) (hn : most ≤ 9223372036854775807) (hn' : -9223372036854775808 ≤ most) (hl : l.length ≤ 1000000000) (h : e ≠ 0 → l = []) :
    Calls Try.prog 75 #[.agg #[.string (bs l), .int .i64 e], .int .i64 most] w fun r w' => r = .returned (.tuple #[inV (strS (l, e) most).1, .string (bs (strS (l, e) most).2)]) ∧ Below w.heap.size w w' := by
  have hN := fun w => refTakeCount_any l e most w hn hn' hl h
  have hS : strS (l, e) most = rawS (countS (l, e) most).1 ((countS (l, e) most).2 : Int) := rfl
  have hok := countS_ok (l, e) most h hl
  generalize countS (l, e) most = t at hN hS hok
  obtain ⟨⟨l1, e1⟩, n⟩ := t
  have HS := Lib.hid hS
  have HN := Lib.hid hN
  have HOK := Lib.hid hok
  have HT := Lib.hid (takeW_new w l e)
  clear hN hS h hok
  go_enter Try.func75, Try.ntmps75
  go_wp2_with fail
  refine (HN.out _).mono ?_
  rintro r w1 ⟨rfl, hb1⟩
  have hT1 := HT.out.keep hb1
  have HT2 := Lib.hid (hT1.set l1 (.int .i64 e1))
  obtain ⟨c0', c1', f0', f1', r0', r1', g0', g1', sz', bel'⟩ := hT1
  have sz0 : w.heap.size < w1.heap.size := by omega
  clear bel' hb1 HT HN
  unfold inV
  simp only
  go_wp2_with fail
  refine (refRaw_any l1 e1 n _ HOK.out.2 HOK.out.1).mono ?_
  rintro r w2 ⟨rfl, hb2⟩
  have HS' := Lib.hid (show strS (l, e) most = rawS (l1, e1) (n : Int) from HS.out)
  generalize rawS (l1, e1) (n : Int) = st at HS' ⊢
  obtain ⟨⟨l2, e2⟩, m2⟩ := st
  have hT3 := HT2.out.keep hb2
  have HT3 := Lib.hid hT3
  obtain ⟨d0', d1', p0', p1', s0', s1', q0', q1', tz', bel'⟩ := hT3
  clear bel' hb2 HT2 c0' c1' f0' f1' r0' r1' g0' g1'
  unfold inV
  go_wp2
  exact bodyPost_ret (v := .tuple #[.agg #[.string (bs l2), .int .i64 e2], .string (bs m2)]) (by simp [results, Try.results75, go_sem, s0', s1']) rfl ⟨by rw [HS'.out]; rfl, HT3.out.end0 _ _⟩
theorem refEnd_any (l : List UInt8) (e : Nat) (w : World) (h : e ≠ 0 → l = []) :
    Calls Try.prog 76 #[.agg #[.string (bs l), .int .i64 e]] w fun r w' => r = .returned (.int .i64 ((endS (l, e)).2 : Nat)) ∧ Below w.heap.size w w' := by
  have ht : (bs l).toList = l := by rw [ByteArray.toList_eq, bs_list]
  by_cases he : e = 0
  · subst he
    cases l with
    | nil =>
      have hq : (bs []).toList = [] := by rw [ByteArray.toList_eq, bs_list]
      go_enter Try.func76, Try.ntmps76
      go_wp2
      go_ret
      exact ⟨rfl, (Below.refl _ _).alloc (Nat.le_refl _) _⟩
    | cons c r =>
      go_enter Try.func76, Try.ntmps76
      go_wp2
      go_ret
      exact ⟨rfl, (Below.refl _ _).alloc (Nat.le_refl _) _⟩
  · have heb : ((e : Int) == 0) = false := by simp; omega
    have HL := Lib.hid (h he)
    have HE := Lib.hid (show endS (l, e) = (l, e) by unfold endS; rw [if_neg (by rw [h he]; simp)])
    clear h he
    go_enter Try.func76, Try.ntmps76
    go_wp2
    go_ret
    exact ⟨by rw [HE.out]; rfl, (Below.refl _ _).alloc (Nat.le_refl _) _⟩
end Go.Proofs.Ytpilkaggiajjmaa
