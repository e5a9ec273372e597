/-
  PROVED: for every number, whole number, count and two texts, the law WirePuts answers true, and the texts read afterwards as before. No condition of our own.
-/
import Derived.Test.YtblmahofopjceaaAwake2
import Derived.Test.YtblmahofopjceaaWireRef
import Derived.Test.YtblmahofopjceaaWireBack
import Derived.Test.YtblmahofopjceaaOutIn
import Derived.WalkKit
import Derived.ProofKit
import Derived.OpenShut
import Derived.ShutString
import Derived.ChangeOld
import Derived.Below
import Derived.SliceStrings
namespace Go.Proofs.Ytblmahofopjceaa.wirePuts
open Go.ChangeShapes Go.WideShapes Go.ChangeAt Go.RowKit
open Go.ChangeMaps (open_string shut_string)
set_option linter.unusedVariables false
set_option maxHeartbeats 4000000 in
set_option maxRecDepth 100000 in
theorem walk (a0 : Int) (w0 : (Lit.int .u64 a0).wf = true) (a1 : Int) (w1 : (Lit.int .i64 a1).wf = true) (a2 : Int) (w2 : (Lit.int .i64 a2).wf = true) (a3 : ByteArray) (w3 : a3.size ≤ maxLen) (a4 : ByteArray) (w4 : a4.size ≤ maxLen) (w : World) :
    Calls Try.prog 8 #[.int .u64 a0, .int .i64 a1, .int .i64 a2, .string a3, .string a4] w fun e w' => e = .returned (.bool true) ∧ Below w.heap.size w w' := by
  have hx0 : 0 ≤ a0 ∧ a0 ≤ 18446744073709551615 := by simpa [Lit.wf, IntKind.min, IntKind.max, IntKind.signed, IntKind.bits] using w0
  have hx1 : -9223372036854775808 ≤ a1 ∧ a1 ≤ 9223372036854775807 := by simpa [Lit.wf, IntKind.min, IntKind.max, IntKind.signed, IntKind.bits] using w1
  have hx2 : -9223372036854775808 ≤ a2 ∧ a2 ≤ 9223372036854775807 := by simpa [Lit.wf, IntKind.min, IntKind.max, IntKind.signed, IntKind.bits] using w2
  obtain ⟨n, rfl⟩ := Int.eq_ofNat_of_zero_le hx0.1
  have HN := Lib.hid (show n < 18446744073709551616 by omega)
  have HK := Lib.hid hx1
  have HC := Lib.hid hx2
  clear hx0 hx1 hx2 w0 w1 w2
  go_enter Try.func8, Try.ntmps8
  go_wp2_with fail
  refine (cut_any a3 40 _ w3 (by decide)).mono ?_
  rintro e w' ⟨rfl, rfl⟩
  have hs := cutB_le a3 40
  generalize cutB a3 40 = s at hs ⊢
  go_wp2_with fail
  refine (cut_any a4 40 _ w4 (by decide)).mono ?_
  rintro e w' ⟨rfl, rfl⟩
  have ht := cutB_le a4 40
  generalize cutB a4 40 = t at ht ⊢
  go_wp2_with fail
  refine (awake2_any _).mono ?_
  rintro e w1 ⟨rfl, hb1⟩
  have HO1 := Lib.hid (OutIn.start hb1 56)
  clear hb1
  have HKK := Lib.hid (show -9223372036854775808 ≤ wrap64 (wrap64 (-a1) - 1) ∧ wrap64 (wrap64 (-a1) - 1) ≤ 9223372036854775807 by unfold wrap64; omega)
  have H10 := Lib.hid (numB_ten HN.out)
  have H7 := Lib.hid (@numB_ten 7 (by decide))
  have HZ1 := Lib.hid (numB_ten (zig_lt HK.out.1 HK.out.2))
  have HZ2 := Lib.hid (numB_ten (zig_lt HKK.out.1 HKK.out.2))
  have HZ3 := Lib.hid (@numB_ten a2.toNat (by have := HC.out; omega))
  have els : s.data.toList.length = s.size := by simp
  have elt : t.data.toList.length = t.size := by simp
  have HZs := Lib.hid (show (strB s.data.toList).length ≤ 50 by have := @numB_ten s.data.toList.length (by omega); rw [strB, List.length_append]; omega)
  have HZt := Lib.hid (show (strB t.data.toList).length ≤ 50 by have := @numB_ten t.data.toList.length (by omega); rw [strB, List.length_append]; omega)
  clear els elt
  go_wp2_with fail
  have hzA : (w1.alloc (.cells #[.slice none 0 0] 56)).heap.size = w1.heap.size + 1 := by simp
  rw [← hzA]
  generalize w1.alloc (.cells #[.slice none 0 0] 56) = wA at hzA HO1 ⊢
  clear hzA
  generalize w1.heap.size = b at HO1 ⊢
  refine (outNum_in w b [] [n, 7] _ 2 2 wA HO1.out rfl rfl (by simp) (by simp [HN.out])).mono ?_
  rintro r wB ⟨rfl, ho⟩
  rw [show ([] : List UInt8) ++ numsB [n, 7] = numB n ++ numB 7 by simp [numsB]] at ho
  have HO2 := Lib.hid ho
  clear ho HO1
  go_wp2_with fail
  refine (outInt_in w b _ [a1, wrap64 (wrap64 (-a1) - 1)] _ 2 2 wB HO2.out rfl rfl (by have := H10.out; have := H7.out; simp; omega) (by intro x hx; simp at hx; rcases hx with rfl | rfl; exact HK.out; exact HKK.out)).mono ?_
  rintro r wC ⟨rfl, ho⟩
  rw [show intsB [a1, wrap64 (wrap64 (-a1) - 1)] = numB (zig a1) ++ numB (zig (wrap64 (wrap64 (-a1) - 1))) by simp [intsB, numsB]] at ho
  have HO3 := Lib.hid ho
  clear ho HO2
  go_wp2_with fail
  refine (outCount_in w b _ [a2] _ 1 1 wC HO3.out rfl rfl (by have := H10.out; have := H7.out; have := HZ1.out; have := HZ2.out; simp; omega) (by simp [HC.out.2])).mono ?_
  rintro r wD ⟨rfl, ho⟩
  rw [show countsB [a2] = numB a2.toNat by simp [countsB, numsB]] at ho
  have HO4 := Lib.hid ho
  clear ho HO3
  go_wp2_with fail
  refine (outStr_in w b _ [s, t] _ 2 2 wD HO4.out rfl rfl (by have := H10.out; have := H7.out; have := HZ1.out; have := HZ2.out; have := HZ3.out; have := HZs.out; have := HZt.out; simp [strsB]; omega)).mono ?_
  rintro r wE ⟨rfl, ho⟩
  rw [show strsB [s, t] = strB s.data.toList ++ strB t.data.toList by simp [strsB]] at ho
  have HO5 := Lib.hid ho
  clear ho HO4
  go_wp2_with fail
  refine (outRaw_in w b _ t wE HO5.out (by have := H10.out; have := H7.out; have := HZ1.out; have := HZ2.out; have := HZ3.out; have := HZs.out; have := HZt.out; simp; omega)).mono ?_
  rintro r wF ⟨rfl, ho⟩
  have hX : (numB n ++ numB 7 ++ (numB (zig a1) ++ numB (zig (wrap64 (wrap64 (-a1) - 1)))) ++ numB a2.toNat ++ (strB s.data.toList ++ strB t.data.toList) ++ t.data.toList) =
      numB n ++ (numB 7 ++ (numB (zig a1) ++ (numB (zig (wrap64 (wrap64 (-a1) - 1))) ++ (numB a2.toNat ++ (strB s.data.toList ++ (strB t.data.toList ++ (t.data.toList ++ []))))))) := by simp
  rw [hX] at ho
  have HO6 := Lib.hid ho
  clear ho HO5 hX
  go_wp2_with fail
  refine (outText_in w b _ wF HO6.out).mono ?_
  rintro r w' ⟨rfl, rfl⟩
  generalize hXX : numB n ++ (numB 7 ++ (numB (zig a1) ++ (numB (zig (wrap64 (wrap64 (-a1) - 1))) ++ (numB a2.toNat ++ (strB s.data.toList ++ (strB t.data.toList ++ (t.data.toList ++ []))))))) = X at HO6 ⊢
  have HX := Lib.hid hXX
  clear hXX
  have HXl := Lib.hid (show X.length ≤ 1000 by rw [← HX.out]; have := H10.out; have := H7.out; have := HZ1.out; have := HZ2.out; have := HZ3.out; have := HZs.out; have := HZt.out; simp; omega)
  go_wp2_with fail
  refine (refNum_any n _ HN.out).mono ?_
  rintro r wG ⟨rfl, hb⟩
  have HO7 := Lib.hid (HO6.out.below hb)
  clear hb HO6
  have hq1 : (bs (numB n)).size ≤ 10 := by rw [bs_size]; exact H10.out
  generalize hQ1 : bs (numB n) = q1 at hq1 ⊢
  have HQ1 := Lib.hid hQ1
  clear hQ1
  go_wp2_with fail
  refine (refInt_any a1 _ HK.out.1 HK.out.2).mono ?_
  rintro r wH ⟨rfl, hb⟩
  have HO8 := Lib.hid (HO7.out.below hb)
  clear hb HO7
  have hq2 : (bs (numB (zig a1))).size ≤ 10 := by rw [bs_size]; exact HZ1.out
  generalize hQ2 : bs (numB (zig a1)) = q2 at hq2 ⊢
  have HQ2 := Lib.hid hQ2
  clear hQ2
  go_wp2_with fail
  refine (refInt_any _ _ HKK.out.1 HKK.out.2).mono ?_
  rintro r wI ⟨rfl, hb⟩
  have HO9 := Lib.hid (HO8.out.below hb)
  clear hb HO8
  have hq3 : (bs (numB (zig (wrap64 (wrap64 (-a1) - 1))))).size ≤ 10 := by rw [bs_size]; exact HZ2.out
  generalize hQ3 : bs (numB (zig (wrap64 (wrap64 (-a1) - 1)))) = q3 at hq3 ⊢
  have HQ3 := Lib.hid hQ3
  clear hQ3
  go_wp2_with fail
  refine (refCount_any a2 _ HC.out.1 HC.out.2).mono ?_
  rintro r wJ ⟨rfl, hb⟩
  have HO10 := Lib.hid (HO9.out.below hb)
  clear hb HO9
  have hq4 : (bs (numB a2.toNat)).size ≤ 10 := by rw [bs_size]; exact HZ3.out
  generalize hQ4 : bs (numB a2.toNat) = q4 at hq4 ⊢
  have HQ4 := Lib.hid hQ4
  clear hQ4
  go_wp2_with fail
  refine (refStr_any s _ (by omega)).mono ?_
  rintro r wK ⟨rfl, hb⟩
  have HO11 := Lib.hid (HO10.out.below hb)
  clear hb HO10
  have hq5 : (bs (strB s.data.toList)).size ≤ 50 := by rw [bs_size]; exact HZs.out
  generalize hQ5 : bs (strB s.data.toList) = q5 at hq5 ⊢
  have HQ5 := Lib.hid hQ5
  clear hQ5
  go_wp2_with fail
  refine (refStr_any t _ (by omega)).mono ?_
  rintro r wL ⟨rfl, hb⟩
  have HO12 := Lib.hid (HO11.out.below hb)
  clear hb HO11
  have hq6 : (bs (strB t.data.toList)).size ≤ 50 := by rw [bs_size]; exact HZt.out
  generalize hQ6 : bs (strB t.data.toList) = q6 at hq6 ⊢
  have HQ6 := Lib.hid hQ6
  clear hQ6
  have HALL := Lib.hid (show bs X = q1 ++ ByteArray.mk #[7] ++ q2 ++ q3 ++ q4 ++ q5 ++ q6 ++ t by
    rw [← HQ1.out, ← HQ2.out, ← HQ3.out, ← HQ4.out, ← HQ5.out, ← HQ6.out, show ByteArray.mk #[7] = bs (numB 7) from rfl, ← HX.out]
    conv => rhs; rhs; rw [← bs_eta t]
    simp only [bs_append, List.append_assoc, List.append_nil])
  have hcmp : ((bs X).toList == (q1 ++ ByteArray.mk #[7] ++ q2 ++ q3 ++ q4 ++ q5 ++ q6 ++ t).toList) = true := by rw [← HALL.out]; exact str_eq _
  go_wp2_with fail
  clear hcmp HALL HQ1 HQ2 HQ3 HQ4 HQ5 HQ6 hq1 hq2 hq3 hq4 hq5 hq6
  refine (outText_in w b _ wL HO12.out).mono ?_
  rintro r w' ⟨rfl, rfl⟩
  go_wp2_with fail
  refine (open_any (bs X) wL (by rw [bs_size]; have := HXl.out; omega)).mono ?_
  rintro r wM ⟨rfl, hi, hb⟩
  rw [bs_list, ← HX.out] at hi
  have HB1 := Lib.hid (HO12.out.bel.trans (hb.mono HO12.out.bel.size))
  have hzL := HO12.out.bel.size
  have HI1 := Lib.hid hi
  clear hi hb HO12
  go_wp2_with fail
  refine (inNum_back _ n _ wM HN.out HI1.out).mono ?_
  rintro r wN ⟨rfl, hi⟩
  have HI2 := Lib.hid hi
  clear hi
  go_wp2_with fail
  refine (inNum_back _ 7 _ wN (by decide) HI2.out.1).mono ?_
  rintro r wO ⟨rfl, hi⟩
  have HI3 := Lib.hid hi
  clear hi
  go_wp2_with fail
  refine (inInt_back _ a1 _ wO HK.out HI3.out.1).mono ?_
  rintro r wP ⟨rfl, hi⟩
  have HI4 := Lib.hid hi
  clear hi
  go_wp2_with fail
  refine (inInt_back _ _ _ wP HKK.out HI4.out.1).mono ?_
  rintro r wQ ⟨rfl, hi⟩
  have HI5 := Lib.hid hi
  clear hi
  go_wp2_with fail
  refine (inNum_back _ a2.toNat _ wQ (by have := HC.out; omega) HI5.out.1).mono ?_
  rintro r wR ⟨rfl, hi⟩
  have HI6 := Lib.hid hi
  clear hi
  obtain ⟨hc1, hc2⟩ := HC.out
  by_cases hneg : a2 < 0
  · rw [show ((a2.toNat : Nat) : Int) = 0 by omega]
    go_wp2_with fail
    refine (inStr_back _ s _ 40 wR (by omega) (by decide) HI6.out.1).mono ?_
    rintro r wS ⟨rfl, hi⟩
    have HI7 := Lib.hid hi
    clear hi
    go_wp2_with fail
    refine (inStr_back _ t _ 40 wS (by omega) (by decide) HI7.out.1).mono ?_
    rintro r wT ⟨rfl, hi⟩
    have HI8 := Lib.hid hi
    clear hi
    go_wp2_with fail
    refine (inRaw_back _ t _ wT (by omega) HI8.out.1).mono ?_
    rintro r wU ⟨rfl, hi⟩
    have HI9 := Lib.hid hi
    clear hi
    go_wp2_with fail
    refine (inEnd_back _ wU HI9.out.1).mono ?_
    rintro r wV ⟨rfl, hi⟩
    have HIa := Lib.hid hi
    clear hi
    go_wp2
    go_ret
    have z1 := HB1.out.size
    have b2 := HB1.out.trans (HI2.out.below z1 hzL)
    have b3 := b2.trans (HI3.out.below b2.size hzL)
    have b4 := b3.trans (HI4.out.below b3.size hzL)
    have b5 := b4.trans (HI5.out.below b4.size hzL)
    have b6 := b5.trans (HI6.out.below b5.size hzL)
    have b7 := b6.trans (HI7.out.below b6.size hzL)
    have b8 := b7.trans (HI8.out.below b7.size hzL)
    have b9 := b8.trans (HI9.out.below b8.size hzL)
    exact ⟨rfl, b9.trans (HIa.out.below b9.size hzL)⟩
  · rw [show ((a2.toNat : Nat) : Int) = a2 by omega]
    go_wp2_with fail
    refine (inStr_back _ s _ 40 wR (by omega) (by decide) HI6.out.1).mono ?_
    rintro r wS ⟨rfl, hi⟩
    have HI7 := Lib.hid hi
    clear hi
    go_wp2_with fail
    refine (inStr_back _ t _ 40 wS (by omega) (by decide) HI7.out.1).mono ?_
    rintro r wT ⟨rfl, hi⟩
    have HI8 := Lib.hid hi
    clear hi
    go_wp2_with fail
    refine (inRaw_back _ t _ wT (by omega) HI8.out.1).mono ?_
    rintro r wU ⟨rfl, hi⟩
    have HI9 := Lib.hid hi
    clear hi
    go_wp2_with fail
    refine (inEnd_back _ wU HI9.out.1).mono ?_
    rintro r wV ⟨rfl, hi⟩
    have HIa := Lib.hid hi
    clear hi
    go_wp2
    go_ret
    have z1 := HB1.out.size
    have b2 := HB1.out.trans (HI2.out.below z1 hzL)
    have b3 := b2.trans (HI3.out.below b2.size hzL)
    have b4 := b3.trans (HI4.out.below b3.size hzL)
    have b5 := b4.trans (HI5.out.below b4.size hzL)
    have b6 := b5.trans (HI6.out.below b5.size hzL)
    have b7 := b6.trans (HI7.out.below b6.size hzL)
    have b8 := b7.trans (HI8.out.below b7.size hzL)
    have b9 := b8.trans (HI9.out.below b8.size hzL)
    exact ⟨rfl, b9.trans (HIa.out.below b9.size hzL)⟩

/-! ### THE ROW's STEP -/
theorem own : ownKnob Try.prog.godebug = none := by kernel_rfl
theorem laidOut : laidOutB Try.prog = true := by kernel_rfl
set_option maxRecDepth 100000 in
theorem lifted (os : Os) (started : os.Started) (H : Type) (enc : TypeId × Value → H) :
    ReturnsInHanded {} Try.checked os 8 .any (Rows.wirePutsSpec.pre6 enc Try.prog Try.f8 Rows.wirePutsRow.domain false) (Rows.wirePutsSpec.post enc Try.prog Try.f8 false true false false) := by
  refine returnsInHanded_of_change (C := Try.checked) own started (by kernel_rfl) Try.func8
    (ChangeSpec.witness6 (enc := enc) (C := Try.checked) false ⟨#[], #[.int .u64 0, .int .i64 0, .int .i64 0, .string ByteArray.empty, .string ByteArray.empty], []⟩ 8 (by kernel_rfl) (by kernel_rfl) (by kernel_rfl) (by kernel_rfl)) ?_
  intro W base args ds gs before hval0 hW hcnd _
  have hval : ∀ (j : Nat) t v, Try.f8.params[j]? = some t → args[j]? = some v → Value.okWide Try.prog W .any base t v := hval0
  have hW' := hW
  obtain ⟨p, q, hA0, hV, rfl, hfz, hnd⟩ := hW
  have hA : DataW.TrodAll enc Try.prog W 0 (fun _ => true) true Try.f8.params.toList args.toList ds p := hA0
  rw [Try.params8] at hA hval
  obtain ⟨v0, vs0, d0, ds0, p0, q0, hargs, rfl, rfl, h0, r0⟩ := trodAll_cons hA
  obtain ⟨v1, vs1, d1, ds1, p1, q1, rfl, rfl, rfl, h1, r1⟩ := trodAll_cons r0
  obtain ⟨v2, vs2, d2, ds2, p2, q2, rfl, rfl, rfl, h2, r2⟩ := trodAll_cons r1
  obtain ⟨v3, vs3, d3, ds3, p3, q3, rfl, rfl, rfl, h3, r3⟩ := trodAll_cons r2
  obtain ⟨v4, vs4, d4, ds4, p4, q4, rfl, rfl, rfl, h4, r4⟩ := trodAll_cons r3
  obtain ⟨rfl, rfl, rfl⟩ := trodAll_nil r4
  obtain rfl : args = #[v0, v1, v2, v3, v4] := by cases args; simp_all
  obtain ⟨rfl, rfl⟩ := trodVars_none hV
  have k0 := h0
  have lt0 : ∀ x ∈ p0, x.block < W.heap.size := by obtain ⟨m, hm⟩ := k0; exact DataW.trod_lt m _ _ _ hm
  obtain ⟨a0, rfl, rfl, rfl, w0⟩ := open_int Try.underlying24 (hval 0 24 v0 rfl rfl) h0
  have k1 := h1
  have lt1 : ∀ x ∈ p1, x.block < W.heap.size := by obtain ⟨m, hm⟩ := k1; exact DataW.trod_lt m _ _ _ hm
  obtain ⟨a1, rfl, rfl, rfl, w1⟩ := open_int Try.underlying2 (hval 1 2 v1 rfl rfl) h1
  have k2 := h2
  have lt2 : ∀ x ∈ p2, x.block < W.heap.size := by obtain ⟨m, hm⟩ := k2; exact DataW.trod_lt m _ _ _ hm
  obtain ⟨a2, rfl, rfl, rfl, w2⟩ := open_int Try.underlying3 (hval 2 3 v2 rfl rfl) h2
  have k3 := h3
  have lt3 : ∀ x ∈ p3, x.block < W.heap.size := by obtain ⟨m, hm⟩ := k3; exact DataW.trod_lt m _ _ _ hm
  obtain ⟨a3, rfl, rfl, rfl, w3⟩ := open_string Try.underlying9 (hval 3 9 v3 rfl rfl) h3
  have k4 := h4
  have lt4 : ∀ x ∈ p4, x.block < W.heap.size := by obtain ⟨m, hm⟩ := k4; exact DataW.trod_lt m _ _ _ hm
  obtain ⟨a4, rfl, rfl, rfl, w4⟩ := open_string Try.underlying9 (hval 4 9 v4 rfl rfl) h4
  clear hA0 hval0
  refine (walk a0 w0 a1 w1 a2 w2 a3 w3 a4 w4 W).mono fun e W' ⟨he, bel⟩ => ?_
  subst he
  exact ⟨_, rfl, _, _, _, [], _, [], hW', trodAll_mk1 (shut_bool Try.underlying4 _), (trodAll_cons_mk (Below.trod laidOut (by kernel_rfl) (of_decide_eq_true (by kernel_rfl)) k0 bel lt0) (trodAll_cons_mk (Below.trod laidOut (by kernel_rfl) (of_decide_eq_true (by kernel_rfl)) k1 bel lt1) (trodAll_cons_mk (Below.trod laidOut (by kernel_rfl) (of_decide_eq_true (by kernel_rfl)) k2 bel lt2) (trodAll_cons_mk (Below.trod laidOut (by kernel_rfl) (of_decide_eq_true (by kernel_rfl)) k3 bel lt3) (trodAll_cons_mk (Below.trod laidOut (by kernel_rfl) (of_decide_eq_true (by kernel_rfl)) k4 bel lt4) trodAll_mk0))))), rfl, bel.frame _, fun h => by cases h⟩

theorem over : Rows.wirePutsRow.holds Try.pinned (OpenSpec.ofChange Rows.wirePutsSpec) :=
  OpenClaim.holds_of_wide 8 Try.f8 rfl rfl rfl rfl rfl rfl rfl ⟨rfl, rfl, rfl, rfl, rfl⟩ rfl rfl rfl rfl rfl (by kernel_rfl) Try.func8 (by kernel_rfl)
    (of_decide_eq_true (by kernel_rfl)) (by unfold Func.isWrapper; first | (rw [if_pos (by decide +kernel)]; kernel_rfl) | (rw [if_neg (by decide +kernel)]; exact ⟨rfl, rfl⟩))
    (fun os started H enc _ => lifted os started H enc)

end Go.Proofs.Ytblmahofopjceaa.wirePuts
namespace Go.Proofs.Ytblmahofopjceaa
theorem wirePuts_proved : Rows.WirePutsSaid := wirePuts.over
end Go.Proofs.Ytblmahofopjceaa
