/-
  PROVED: for every n and every sum, the law SumsNone answers true. No condition of our own.
-/
import Derived.Test.YtblmahofopjceaaSums
import Derived.Deep.OwnRows
import Derived.WalkKit
import Derived.ProofKit
import Derived.OpenShut
import Derived.ShutString
import Derived.ChangeOld
import Derived.Below
import Derived.SliceStrings
namespace Go.Proofs.Ytblmahofopjceaa.sumsNone
open Go.ChangeShapes Go.WideShapes Go.ChangeAt Go.RowKit
open Go.ChangeMaps (open_string shut_string)
set_option linter.unusedVariables false
theorem and15 (a : Int) : ∃ k : Nat, k ≤ 15 ∧ bits .and .i64 a 15 = (k : Int) := by
  refine ⟨(BitVec.ofInt 64 a &&& BitVec.ofInt 64 15).toNat, ?_, ?_⟩
  · rw [BitVec.toNat_and]
    exact Nat.and_le_right
  · have h : (BitVec.ofInt 64 a &&& BitVec.ofInt 64 15).toNat ≤ 15 := by rw [BitVec.toNat_and]; exact Nat.and_le_right
    show IntKind.i64.wrap ((BitVec.ofInt 64 a &&& BitVec.ofInt 64 15).toNat : Int) = _
    rw [IntKind.wrap_i64]
    omega
theorem info9 : (Try.prog.info? 9).map (fun i => (i.zero, i.size, i.bytes)) = some (some (.string .empty), 1, 16) := by kernel_rfl
theorem row_made (w : World) (k : Nat) (h : k ≤ 15) : StrRow (w.alloc (.cells (madeCells #[.string .empty] k) 9)) (some ⟨w.heap.size, 0, none⟩) (List.replicate k ByteArray.empty) := by
  refine ⟨by simp [maxLen]; omega, fun i h => by simp [maxLen], fun _ => ⟨w.heap.size, 0, rfl, fun i hi => ?_⟩⟩
  have hi' : i < k := by simpa using hi
  simp [madeCells, hi', Nat.mod_one]
theorem bls_none (k : Nat) : (bls (List.replicate k ByteArray.empty)).flatten = [] := by
  simp [bls]
theorem of_none (a : Option Addr) (k cap : Nat) (w : World) (h : StrRow w a (List.replicate k ByteArray.empty)) :
    Calls Try.prog 14 #[.slice a k cap] w fun e w' => e = .returned (.int .u64 14695981039346656037) ∧ w = w' := by
  have := of_any a cap _ w h
  rw [fnvL_flat, bls_none, List.length_replicate] at this
  exact this
theorem add_none (a : Option Addr) (k cap : Nat) (w : World) (h : StrRow w a (List.replicate k ByteArray.empty)) :
    Calls Try.prog 19 #[.int .u64 14695981039346656037, .slice a k cap] w fun e w' => e = .returned (.int .u64 14695981039346656037) ∧ w = w' := by
  have := add_any 14695981039346656037 a cap _ w (by decide) h
  rw [fnvL_flat, bls_none, List.length_replicate] at this
  exact this
theorem more_none (x : Nat) (a : Option Addr) (k cap : Nat) (w : World) (hx : x < 4294967296) (h : StrRow w a (List.replicate k ByteArray.empty)) :
    Calls Try.prog 20 #[.int .u32 x, .slice a k cap] w fun e w' => e = .returned (.int .u32 x) ∧ w = w' := by
  have := more_any x a cap _ w hx h
  rw [moreS, crcL_flat, bls_none, List.length_replicate] at this
  have e : 4294967295 - crcS (4294967295 - x) [] = x := by show 4294967295 - (4294967295 - x) = x; omega
  rw [e] at this
  exact this
theorem crc_none (a : Option Addr) (k cap : Nat) (w : World) (h : StrRow w a (List.replicate k ByteArray.empty)) :
    Calls Try.prog 16 #[.slice a k cap] w fun e w' => e = .returned (.int .u32 0) ∧ w = w' := by
  have := crc_any a cap _ w h
  rw [moreS_zero, bls_none, List.length_replicate] at this
  exact this
theorem walk (a0 : Int) (w0 : (Lit.int .i64 a0).wf = true) (a1 : Int) (w1 : (Lit.int .u32 a1).wf = true) (w : World) :
    Calls Try.prog 6 #[.int .i64 a0, .int .u32 a1] w fun e w' => e = .returned (.bool true) ∧ Below w.heap.size w w' := by
  have hx : 0 ≤ a1 ∧ a1 ≤ 4294967295 := by simpa [Lit.wf, IntKind.min, IntKind.max, IntKind.signed, IntKind.bits] using w1
  obtain ⟨x, rfl⟩ := Int.eq_ofNat_of_zero_le hx.1
  have hx2 : x < 4294967296 := by omega
  clear hx w0 w1
  obtain ⟨k, hk, hand⟩ := and15 a0
  obtain ⟨i0, hi, hz0, hz1, hz2⟩ := info_parts info9
  have hmk : ∀ u : World, (Instr.makeSlice 31 (.int .i64 (bits .and .i64 a0 15)) (.int .i64 (bits .and .i64 a0 15))).run Try.prog u =
      .ok (.slice (some ⟨u.heap.size, 0, none⟩) k k) (u.alloc (.cells (madeCells #[.string .empty] k) 9)) := fun u => by
    rw [hand]
    exact run_make_row 31 9 i0 (.string .empty) Try.underlying31 hi hz0 hz1 rfl .i64 .i64 k (by rw [hz2]; omega) (by omega) u
  clear hand hi hz0 hz1 hz2
  go_enter Try.func6, Try.ntmps6
  go_wp2_with fail
  clear hmk
  refine (awake1_any _).mono ?_
  rintro e w1 ⟨rfl, hb1⟩
  have hr := (row_made w k hk).below hb1 (fun y hy => by cases hy; simp)
  have HR := Lib.hid hr
  clear hr
  go_wp2_with fail
  refine (of_none _ k k _ HR.out).mono ?_
  rintro e w' ⟨rfl, rfl⟩
  go_wp2_with fail
  refine (crc_none _ k k _ HR.out).mono ?_
  rintro e w' ⟨rfl, rfl⟩
  go_wp2_with fail
  refine (more_none x _ k k _ hx2 HR.out).mono ?_
  rintro e w' ⟨rfl, rfl⟩
  go_wp2_with fail
  refine (add_none _ k k _ HR.out).mono ?_
  rintro e w' ⟨rfl, rfl⟩
  go_wp2
  go_ret
  exact ⟨rfl, ((Below.refl _ _).alloc (Nat.le_refl _) _).trans (hb1.mono (by simp))⟩

/-! ### THE ROW's STEP -/
theorem own : ownKnob Try.prog.godebug = none := by kernel_rfl
theorem laidOut : laidOutB Try.prog = true := by kernel_rfl
set_option maxRecDepth 100000 in
theorem lifted (os : Os) (started : os.Started) (H : Type) (enc : TypeId × Value → H) :
    ReturnsInHanded {} Try.checked os 6 .any (Rows.sumsNoneSpec.pre6 enc Try.prog Try.f6 Rows.sumsNoneRow.domain false) (Rows.sumsNoneSpec.post enc Try.prog Try.f6 false true false false) := by
  refine returnsInHanded_of_change (C := Try.checked) own started (by kernel_rfl) Try.func6
    (ChangeSpec.witness6 (enc := enc) (C := Try.checked) false ⟨#[], #[.int .i64 0, .int .u32 0], []⟩ 8 (by kernel_rfl) (by kernel_rfl) (by kernel_rfl) (by kernel_rfl)) ?_
  intro W base args ds gs before hval0 hW hcnd _
  have hval : ∀ (j : Nat) t v, Try.f6.params[j]? = some t → args[j]? = some v → Value.okWide Try.prog W .any base t v := hval0
  have hW' := hW
  obtain ⟨p, q, hA0, hV, rfl, hfz, hnd⟩ := hW
  have hA : DataW.TrodAll enc Try.prog W 0 (fun _ => true) true Try.f6.params.toList args.toList ds p := hA0
  rw [Try.params6] at hA hval
  obtain ⟨v0, vs0, d0, ds0, p0, q0, hargs, rfl, rfl, h0, r0⟩ := trodAll_cons hA
  obtain ⟨v1, vs1, d1, ds1, p1, q1, rfl, rfl, rfl, h1, r1⟩ := trodAll_cons r0
  obtain ⟨rfl, rfl, rfl⟩ := trodAll_nil r1
  obtain rfl : args = #[v0, v1] := by cases args; simp_all
  obtain ⟨rfl, rfl⟩ := trodVars_none hV
  have k0 := h0
  have lt0 : ∀ x ∈ p0, x.block < W.heap.size := by obtain ⟨m, hm⟩ := k0; exact DataW.trod_lt m _ _ _ hm
  obtain ⟨a0, rfl, rfl, rfl, w0⟩ := open_int Try.underlying3 (hval 0 3 v0 rfl rfl) h0
  have k1 := h1
  have lt1 : ∀ x ∈ p1, x.block < W.heap.size := by obtain ⟨m, hm⟩ := k1; exact DataW.trod_lt m _ _ _ hm
  obtain ⟨a1, rfl, rfl, rfl, w1⟩ := open_int Try.underlying27 (hval 1 27 v1 rfl rfl) h1
  clear hA0 hval0
  refine (walk a0 w0 a1 w1 W).mono fun e W' ⟨he, bel⟩ => ?_
  subst he
  exact ⟨_, rfl, _, _, _, [], _, [], hW', trodAll_mk1 (shut_bool Try.underlying4 _), (trodAll_cons_mk (Below.trod laidOut (by kernel_rfl) (of_decide_eq_true (by kernel_rfl)) k0 bel lt0) (trodAll_cons_mk (Below.trod laidOut (by kernel_rfl) (of_decide_eq_true (by kernel_rfl)) k1 bel lt1) trodAll_mk0)), rfl, bel.frame _, fun h => by cases h⟩

theorem over : Rows.sumsNoneRow.holds Try.pinned (OpenSpec.ofChange Rows.sumsNoneSpec) :=
  OpenClaim.holds_of_wide 6 Try.f6 rfl rfl rfl rfl rfl rfl rfl ⟨rfl, rfl, rfl, rfl, rfl⟩ rfl rfl rfl rfl rfl (by kernel_rfl) Try.func6 (by kernel_rfl)
    (of_decide_eq_true (by kernel_rfl)) (by unfold Func.isWrapper; first | (rw [if_pos (by decide +kernel)]; kernel_rfl) | (rw [if_neg (by decide +kernel)]; exact ⟨rfl, rfl⟩))
    (fun os started H enc _ => lifted os started H enc)

end Go.Proofs.Ytblmahofopjceaa.sumsNone
namespace Go.Proofs.Ytblmahofopjceaa
theorem sumsNone_proved : Rows.SumsNoneSaid := sumsNone.over
end Go.Proofs.Ytblmahofopjceaa
