/-
  PROVED: for every text, the law WireOne answers true, and the text reads afterwards as before. No condition of our own.
-/
import Derived.Test.YtblmahofopjceaaAwake2
import Derived.Test.YtblmahofopjceaaWireRef
import Derived.WalkKit
import Derived.ProofKit
import Derived.OpenShut
import Derived.ShutString
import Derived.ChangeOld
import Derived.Below
import Derived.SliceStrings
namespace Go.Proofs.Ytblmahofopjceaa.wireOne
open Go.ChangeShapes Go.WideShapes Go.ChangeAt Go.RowKit
open Go.ChangeMaps (open_string shut_string)
set_option linter.unusedVariables false
/-- Bytes that are taken as a number are its bytes. -/
theorem take_spell (l : List UInt8) : ∀ k acc n sz, takeF k acc l = (n, sz, 0) → ∃ m, n = acc + m * 128 ^ k ∧ sz = k + (numB m).length ∧ (numB m).length ≤ l.length ∧ l.take (numB m).length = numB m ∧ (0 < k → 0 < m) := by
  induction l with
  | nil => intro k acc n sz h; rw [takeF_end] at h; simp at h
  | cons b r ih =>
    intro k acc n sz h
    have hb := byte_lt b
    by_cases hbad : (0 < k ∧ b.toNat = 0) ∨ (k = 9 ∧ 1 < b.toNat)
    · rw [takeF_bad hbad] at h; simp at h
    · by_cases h2 : b.toNat < 128
      · rw [takeF_last hbad h2] at h
        simp only [Prod.mk.injEq, and_true] at h
        obtain ⟨rfl, rfl⟩ := h
        have e : byteOf b.toNat = b := UInt8.toNat_inj.1 (byteOf_toNat hb)
        refine ⟨b.toNat, by rw [Nat.mod_eq_of_lt h2], by rw [numB_lt h2]; rfl, by rw [numB_lt h2]; simp, by rw [numB_lt h2, e]; simp, fun hk => by omega⟩
      · rw [takeF_more hbad h2] at h
        obtain ⟨m, h3, h4, h5, h6, h7⟩ := ih _ _ _ _ h
        have hm := h7 (by omega)
        have hge : 128 ≤ b.toNat % 128 + 128 * m := by omega
        have e1 : (b.toNat % 128 + 128 * m) % 128 + 128 = b.toNat := by omega
        have e2 : (b.toNat % 128 + 128 * m) / 128 = m := by omega
        have e : byteOf b.toNat = b := UInt8.toNat_inj.1 (byteOf_toNat hb)
        have hN : numB (b.toNat % 128 + 128 * m) = b :: numB m := by rw [numB_ge hge, e1, e2, e]
        refine ⟨b.toNat % 128 + 128 * m, ?_, by rw [hN, h4, List.length_cons]; omega, by rw [hN, List.length_cons, List.length_cons]; omega, by rw [hN, List.length_cons, List.take_succ_cons, h6], fun _ => by omega⟩
        rw [h3, Nat.pow_succ, Nat.add_mul, Nat.add_assoc]
        congr 2
        rw [Nat.mul_comm (128 ^ k) 128, ← Nat.mul_assoc, Nat.mul_comm m 128]
theorem num_spell (l : List UInt8) (h : (numT l).2.2 = 0) : (numB (numT l).1).length ≤ l.length ∧ l.take (numB (numT l).1).length = numB (numT l).1 ∧ (numT l).2.1 = (numB (numT l).1).length := by
  have e : takeF 0 0 l = ((numT l).1, (numT l).2.1, 0) := by
    show numT l = _
    conv => rhs; rw [← h]
  obtain ⟨m, h1, h2, h3, h4, -⟩ := take_spell l 0 0 _ _ e
  have : (numT l).1 = m := by rw [h1]; simp
  rw [this]
  exact ⟨h3, h4, by omega⟩
set_option maxHeartbeats 1000000 in
theorem walk (a0 : ByteArray) (w0 : a0.size ≤ maxLen) (w : World) :
    Calls Try.prog 9 #[.string a0] w fun e w' => e = .returned (.bool true) ∧ Below w.heap.size w w' := by
  go_enter Try.func9, Try.ntmps9
  go_wp2_with fail
  refine (cut_any a0 12 _ w0 (by decide)).mono ?_
  rintro e w' ⟨rfl, rfl⟩
  have hs := cutB_le a0 12
  generalize cutB a0 12 = s at hs ⊢
  go_wp2_with fail
  refine (open_any s _ (by omega)).mono ?_
  rintro r w1 ⟨rfl, hi1, hb1⟩
  go_wp2_with fail
  refine (awake2_any _).mono ?_
  rintro r w2 ⟨rfl, hb2⟩
  have HI2 := Lib.hid (hi1.below hb2)
  have HB2 := Lib.hid (show Below w.heap.size w w2 from hb1.trans (hb2.mono hb1.size))
  have hz2 := HB2.out.size
  clear hi1 hb1 hb2
  go_wp2_with fail
  refine (inNum_any _ _ _ _ HI2.out).mono ?_
  rintro r w3 ⟨rfl, hi3⟩
  have HB3 := Lib.hid (HB2.out.trans (hi3.2.below hz2 (by rintro k hk h; omega)))
  have HI3 := Lib.hid hi3.1
  clear hi3 HI2 HB2
  by_cases her : (numT s.data.toList).2.2 = 0
  · have HSP := Lib.hid (num_spell s.data.toList her)
    have hS : numS (s.data.toList, 0) = ((s.data.toList.drop (numT s.data.toList).2.1, 0), (numT s.data.toList).1) := by
      unfold numS; rw [if_neg (by simpa using her)]
    rw [hS]
    rw [hS] at HI3
    have HLT := Lib.hid (numT_lt s.data.toList)
    clear hS her
    generalize (numT s.data.toList).2.1 = sz at HSP HI3
    generalize (numT s.data.toList).1 = n at HSP HLT
    have hls : s.data.toList.length = s.size := by simp
    go_wp2_with fail
    refine (err_any _ _ _ _ HI3.out).mono ?_
    rintro r w' ⟨rfl, rfl⟩
    go_wp2_with fail
    refine (refNum_any n _ HLT.out).mono ?_
    rintro r w4 ⟨rfl, hb4⟩
    have HI4 := Lib.hid (HI3.out.below hb4)
    have HB4 := Lib.hid (HB3.out.trans (hb4.mono HB3.out.size))
    clear hb4 HI3 HB3
    obtain ⟨q1, q2, q3⟩ := HSP.out
    have HX := Lib.hid (show s.extract 0 (bs (numB n)).size = bs (numB n) by rw [extract_take, bs_size, q2])
    have hq : (bs (numB n)).size ≤ s.size := by rw [bs_size]; omega
    have HQ := Lib.hid (show (s.data.toList.drop sz).length = s.size - (bs (numB n)).size by rw [List.length_drop, bs_size, hls, q3])
    clear q1 q2 q3 HSP hls
    generalize bs (numB n) = t at hq HX HQ ⊢
    have hx : ((s.extract 0 t.size).toList == t.toList) = true := by rw [HX.out]; exact str_eq t
    go_wp2_with fail
    refine (len_any _ _ _ _ HI4.out).mono ?_
    rintro r w' ⟨rfl, rfl⟩
    rw [HQ.out, Int.natCast_sub hq]
    go_wp2
    go_ret
    exact ⟨rfl, HB4.out⟩
  · have hS : numS (s.data.toList, 0) = (([], (numT s.data.toList).2.2), 0) := by
      unfold numS; rw [if_pos her, failS, if_pos ⟨rfl, her⟩]
    rw [hS]
    rw [hS] at HI3
    have heb : (((numT s.data.toList).2.2 : Int) != 0) = true := by simp; omega
    clear hS her
    generalize (numT s.data.toList).2.2 = er at HI3 heb
    go_wp2_with fail
    refine (err_any _ _ _ _ HI3.out).mono ?_
    rintro r w' ⟨rfl, rfl⟩
    go_wp2
    go_ret
    exact ⟨rfl, HB3.out⟩

/-! ### THE ROW's STEP -/
theorem own : ownKnob Try.prog.godebug = none := by kernel_rfl
theorem laidOut : laidOutB Try.prog = true := by kernel_rfl
set_option maxRecDepth 100000 in
theorem lifted (os : Os) (started : os.Started) (H : Type) (enc : TypeId × Value → H) :
    ReturnsInHanded {} Try.checked os 9 .any (Rows.wireOneSpec.pre6 enc Try.prog Try.f9 Rows.wireOneRow.domain false) (Rows.wireOneSpec.post enc Try.prog Try.f9 false true false false) := by
  refine returnsInHanded_of_change (C := Try.checked) own started (by kernel_rfl) Try.func9
    (ChangeSpec.witness6 (enc := enc) (C := Try.checked) false ⟨#[], #[.string ByteArray.empty], []⟩ 8 (by kernel_rfl) (by kernel_rfl) (by kernel_rfl) (by kernel_rfl)) ?_
  intro W base args ds gs before hval0 hW hcnd _
  have hval : ∀ (j : Nat) t v, Try.f9.params[j]? = some t → args[j]? = some v → Value.okWide Try.prog W .any base t v := hval0
  have hW' := hW
  obtain ⟨p, q, hA0, hV, rfl, hfz, hnd⟩ := hW
  have hA : DataW.TrodAll enc Try.prog W 0 (fun _ => true) true Try.f9.params.toList args.toList ds p := hA0
  rw [Try.params9] at hA hval
  obtain ⟨v0, vs0, d0, ds0, p0, q0, hargs, rfl, rfl, h0, r0⟩ := trodAll_cons hA
  obtain ⟨rfl, rfl, rfl⟩ := trodAll_nil r0
  obtain rfl : args = #[v0] := by cases args; simp_all
  obtain ⟨rfl, rfl⟩ := trodVars_none hV
  have k0 := h0
  have lt0 : ∀ x ∈ p0, x.block < W.heap.size := by obtain ⟨m, hm⟩ := k0; exact DataW.trod_lt m _ _ _ hm
  obtain ⟨a0, rfl, rfl, rfl, w0⟩ := open_string Try.underlying9 (hval 0 9 v0 rfl rfl) h0
  clear hA0 hval0
  refine (walk a0 w0 W).mono fun e W' ⟨he, bel⟩ => ?_
  subst he
  exact ⟨_, rfl, _, _, _, [], _, [], hW', trodAll_mk1 (shut_bool Try.underlying4 _), (trodAll_cons_mk (Below.trod laidOut (by kernel_rfl) (of_decide_eq_true (by kernel_rfl)) k0 bel lt0) trodAll_mk0), rfl, bel.frame _, fun h => by cases h⟩

theorem over : Rows.wireOneRow.holds Try.pinned (OpenSpec.ofChange Rows.wireOneSpec) :=
  OpenClaim.holds_of_wide 9 Try.f9 rfl rfl rfl rfl rfl rfl rfl ⟨rfl, rfl, rfl, rfl, rfl⟩ rfl rfl rfl rfl rfl (by kernel_rfl) Try.func9 (by kernel_rfl)
    (of_decide_eq_true (by kernel_rfl)) (by unfold Func.isWrapper; first | (rw [if_pos (by decide +kernel)]; kernel_rfl) | (rw [if_neg (by decide +kernel)]; exact ⟨rfl, rfl⟩))
    (fun os started H enc _ => lifted os started H enc)

end Go.Proofs.Ytblmahofopjceaa.wireOne
namespace Go.Proofs.Ytblmahofopjceaa
theorem wireOne_proved : Rows.WireOneSaid := wireOne.over
end Go.Proofs.Ytblmahofopjceaa
