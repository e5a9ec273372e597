/-
  PROVED: for every text, every place and every byte, the law SumsTell answers true, and the text reads afterwards as before. No condition of our own.
-/
import Derived.Test.YtblmahofopjceaaBytes
import Derived.WalkKit
import Derived.ProofKit
import Derived.OpenShut
import Derived.ShutString
import Derived.ChangeOld
import Derived.Below
import Derived.SliceStrings
namespace Go.Proofs.Ytblmahofopjceaa.sumsTell
open Go.ChangeShapes Go.WideShapes Go.ChangeAt Go.RowKit
open Go.ChangeMaps (open_string shut_string)
set_option linter.unusedVariables false
theorem walk (a0 : ByteArray) (w0 : a0.size ≤ maxLen) (a1 : Int) (w1 : (Lit.int .i64 a1).wf = true) (a2 : Int) (w2 : (Lit.int .u8 a2).wf = true) (w : World) :
    Calls Try.prog 5 #[.string a0, .int .i64 a1, .int .u8 a2] w fun e w' => e = .returned (.bool true) ∧ Below w.heap.size w w' := by
  have hx : 0 ≤ a2 ∧ a2 ≤ 255 := by simpa [Lit.wf, IntKind.min, IntKind.max, IntKind.signed, IntKind.bits] using w2
  obtain ⟨c, rfl⟩ := Int.eq_ofNat_of_zero_le hx.1
  have hx2 : c < 256 := by omega
  clear hx w1 w2
  go_enter Try.func5, Try.ntmps5
  go_wp2_with fail
  refine (cut_any a0 200 _ w0 (by decide)).mono ?_
  rintro e w' ⟨rfl, rfl⟩
  have hs := cutB_le a0 200
  have hs' := cutB_le' a0 200 (by decide)
  generalize cutB a0 200 = s at hs hs' ⊢
  go_wp2_with fail
  refine (awake1_any _).mono ?_
  rintro e w1 ⟨rfl, hb1⟩
  by_cases h1 : a1 < 0
  · go_wp2_with fail
    refine (awake1_any _).mono ?_
    rintro e w2 ⟨rfl, hb2⟩
    go_wp2
    go_ret
    exact ⟨rfl, hb1.trans (hb2.mono hb1.size)⟩
  by_cases h2 : (s.size : Int) ≤ a1
  · go_wp2_with fail
    refine (awake1_any _).mono ?_
    rintro e w2 ⟨rfl, hb2⟩
    go_wp2
    go_ret
    exact ⟨rfl, hb1.trans (hb2.mono hb1.size)⟩
  by_cases h3 : c = 0
  · subst h3
    go_wp2_with fail
    refine (awake1_any _).mono ?_
    rintro e w2 ⟨rfl, hb2⟩
    go_wp2
    go_ret
    exact ⟨rfl, hb1.trans (hb2.mono hb1.size)⟩
  obtain ⟨i, rfl⟩ := Int.eq_ofNat_of_zero_le (show 0 ≤ a1 by omega)
  have hi : i < s.size := by omega
  have h3' : ((c : Int) == 0) = false := by simp; omega
  have h1' : decide ((i : Int) < 0) = false := by simp
  have h2' : decide (s.size ≤ i) = false := by simp; omega
  obtain ⟨cap, w2, hconv, hb2, hz2, hc, hf⟩ := bytes_of w1 s
  have hback := bytes_back (w2.setCell ⟨w1.heap.size, i, none⟩ (.int .u8 (bits .xor .u8 (s[i].toNat : Int) (c : Int)))) w1.heap.size cap s.size (bent s i c) (bent_length s i c).symm (bent_cells s i c hi hx2 w2 _ hc)
  have hci := hc i hi
  have hfi := hf i hi
  have hne := Lib.hid (bent_crc s i c hi hx2 h3 4294967295 (by decide))
  have hbl : (ByteArray.mk (bent s i c).toArray).size ≤ maxLen := by
    have : (ByteArray.mk (bent s i c).toArray).size = s.size := by rw [← bent_length s i c]; simp [ByteArray.size]
    rw [this]; exact hs'
  have hbt : (ByteArray.mk (bent s i c).toArray).data.toList = bent s i c := by simp
  have Hbt := Lib.hid hbt
  generalize ByteArray.mk (bent s i c).toArray = t at hback hbl Hbt
  clear hc hf hbt
  go_wp2_with fail
  refine (crc_one _ _ t _ hbl (by go_simp)).mono ?_
  rintro e w' ⟨rfl, rfl⟩
  go_wp2_with fail
  refine (crc_one _ _ s _ hs' (by go_simp)).mono ?_
  rintro e w' ⟨rfl, rfl⟩
  rw [Hbt.out]
  have hA := crcS_lt (bent s i c) (x := 4294967295) (by decide)
  have hB := crcS_lt s.data.toList (x := 4294967295) (by decide)
  have hN : (((4294967295 - crcS 4294967295 (bent s i c) : Nat) : Int) != ((4294967295 - crcS 4294967295 s.data.toList : Nat) : Int)) = true := by
    have := hne.out
    simp only [bne_iff_ne, ne_eq]
    omega
  go_wp2
  go_ret
  have hz1 := hb1.size
  refine ⟨by simp, ?_⟩
  exact ((((hb1.trans (hb2.mono hz1)).setCell hz1 _).alloc (by simp; omega) _).alloc (by simp; omega) _)

/-! ### THE ROW's STEP -/
theorem own : ownKnob Try.prog.godebug = none := by kernel_rfl
theorem laidOut : laidOutB Try.prog = true := by kernel_rfl
set_option maxRecDepth 100000 in
theorem lifted (os : Os) (started : os.Started) (H : Type) (enc : TypeId × Value → H) :
    ReturnsInHanded {} Try.checked os 5 .any (Rows.sumsTellSpec.pre6 enc Try.prog Try.f5 Rows.sumsTellRow.domain false) (Rows.sumsTellSpec.post enc Try.prog Try.f5 false true false false) := by
  refine returnsInHanded_of_change (C := Try.checked) own started (by kernel_rfl) Try.func5
    (ChangeSpec.witness6 (enc := enc) (C := Try.checked) false ⟨#[], #[.string ByteArray.empty, .int .i64 0, .int .u8 0], []⟩ 8 (by kernel_rfl) (by kernel_rfl) (by kernel_rfl) (by kernel_rfl)) ?_
  intro W base args ds gs before hval0 hW hcnd _
  have hval : ∀ (j : Nat) t v, Try.f5.params[j]? = some t → args[j]? = some v → Value.okWide Try.prog W .any base t v := hval0
  have hW' := hW
  obtain ⟨p, q, hA0, hV, rfl, hfz, hnd⟩ := hW
  have hA : DataW.TrodAll enc Try.prog W 0 (fun _ => true) true Try.f5.params.toList args.toList ds p := hA0
  rw [Try.params5] at hA hval
  obtain ⟨v0, vs0, d0, ds0, p0, q0, hargs, rfl, rfl, h0, r0⟩ := trodAll_cons hA
  obtain ⟨v1, vs1, d1, ds1, p1, q1, rfl, rfl, rfl, h1, r1⟩ := trodAll_cons r0
  obtain ⟨v2, vs2, d2, ds2, p2, q2, rfl, rfl, rfl, h2, r2⟩ := trodAll_cons r1
  obtain ⟨rfl, rfl, rfl⟩ := trodAll_nil r2
  obtain rfl : args = #[v0, v1, v2] := by cases args; simp_all
  obtain ⟨rfl, rfl⟩ := trodVars_none hV
  have k0 := h0
  have lt0 : ∀ x ∈ p0, x.block < W.heap.size := by obtain ⟨m, hm⟩ := k0; exact DataW.trod_lt m _ _ _ hm
  obtain ⟨a0, rfl, rfl, rfl, w0⟩ := open_string Try.underlying9 (hval 0 9 v0 rfl rfl) h0
  have k1 := h1
  have lt1 : ∀ x ∈ p1, x.block < W.heap.size := by obtain ⟨m, hm⟩ := k1; exact DataW.trod_lt m _ _ _ hm
  obtain ⟨a1, rfl, rfl, rfl, w1⟩ := open_int Try.underlying3 (hval 1 3 v1 rfl rfl) h1
  have k2 := h2
  have lt2 : ∀ x ∈ p2, x.block < W.heap.size := by obtain ⟨m, hm⟩ := k2; exact DataW.trod_lt m _ _ _ hm
  obtain ⟨a2, rfl, rfl, rfl, w2⟩ := open_int Try.underlying5 (hval 2 5 v2 rfl rfl) h2
  clear hA0 hval0
  refine (walk a0 w0 a1 w1 a2 w2 W).mono fun e W' ⟨he, bel⟩ => ?_
  subst he
  exact ⟨_, rfl, _, _, _, [], _, [], hW', trodAll_mk1 (shut_bool Try.underlying4 _), (trodAll_cons_mk (Below.trod laidOut (by kernel_rfl) (of_decide_eq_true (by kernel_rfl)) k0 bel lt0) (trodAll_cons_mk (Below.trod laidOut (by kernel_rfl) (of_decide_eq_true (by kernel_rfl)) k1 bel lt1) (trodAll_cons_mk (Below.trod laidOut (by kernel_rfl) (of_decide_eq_true (by kernel_rfl)) k2 bel lt2) trodAll_mk0))), rfl, bel.frame _, fun h => by cases h⟩

theorem over : Rows.sumsTellRow.holds Try.pinned (OpenSpec.ofChange Rows.sumsTellSpec) :=
  OpenClaim.holds_of_wide 5 Try.f5 rfl rfl rfl rfl rfl rfl rfl ⟨rfl, rfl, rfl, rfl, rfl⟩ rfl rfl rfl rfl rfl (by kernel_rfl) Try.func5 (by kernel_rfl)
    (of_decide_eq_true (by kernel_rfl)) (by unfold Func.isWrapper; first | (rw [if_pos (by decide +kernel)]; kernel_rfl) | (rw [if_neg (by decide +kernel)]; exact ⟨rfl, rfl⟩))
    (fun os started H enc _ => lifted os started H enc)

end Go.Proofs.Ytblmahofopjceaa.sumsTell
namespace Go.Proofs.Ytblmahofopjceaa
theorem sumsTell_proved : Rows.SumsTellSaid := sumsTell.over
end Go.Proofs.Ytblmahofopjceaa
