/-
  PROVED: for every list of texts, the law SumsParts answers true, and the list reads afterwards as before. No condition of our own.
-/
import Derived.Test.YtblmahofopjceaaFew
import Derived.WalkKit
import Derived.ProofKit
import Derived.OpenShut
import Derived.ShutString
import Derived.ChangeOld
import Derived.Below
import Derived.SliceStrings
namespace Go.Proofs.Ytblmahofopjceaa.sumsParts
open Go.ChangeShapes Go.WideShapes Go.ChangeAt Go.RowKit
open Go.ChangeMaps (open_string shut_string)
set_option linter.unusedVariables false
theorem row_nil (w : World) : StrRow w none [] := ⟨by simp [maxLen], fun i h => by simp at h, fun h => by simp at h⟩
theorem crc_nil (w : World) : Calls Try.prog 16 #[.slice none 0 0] w fun e w' => e = .returned (.int .u32 0) ∧ w = w' := by
  have h := crc_any none 0 [] w (row_nil w)
  rw [moreS_zero] at h
  exact h
theorem add_one (x : Nat) (b : Nat) (cap : Nat) (s : ByteArray) (w : World) (hx : x < 18446744073709551616) (hs : s.size ≤ maxLen) (hc : w.cell? ⟨b, 0, none⟩ = some (.string s)) :
    Calls Try.prog 19 #[.int .u64 x, .slice (some ⟨b, 0, none⟩) 1 cap] w fun e w' => e = .returned (.int .u64 (fnvS x s.data.toList : Nat)) ∧ w = w' := by
  have := add_any x (some ⟨b, 0, none⟩) cap [s] w hx (row_one w b s hs hc)
  rw [fnvL_flat] at this
  simpa [bls] using this
theorem more_one (x : Nat) (b : Nat) (cap : Nat) (s : ByteArray) (w : World) (hx : x < 4294967296) (hs : s.size ≤ maxLen) (hc : w.cell? ⟨b, 0, none⟩ = some (.string s)) :
    Calls Try.prog 20 #[.int .u32 x, .slice (some ⟨b, 0, none⟩) 1 cap] w fun e w' => e = .returned (.int .u32 (4294967295 - crcS (4294967295 - x) s.data.toList : Nat)) ∧ w = w' := by
  have := more_any x (some ⟨b, 0, none⟩) cap [s] w hx (row_one w b s hs hc)
  rw [moreS, crcL_flat] at this
  simpa [bls] using this
theorem more_step (few : List ByteArray) (k : Nat) (h : k < few.length) : 4294967295 - crcS (4294967295 - (4294967295 - crcL 4294967295 (bls (few.take k)))) few[k].data.toList = 4294967295 - crcL 4294967295 (bls (few.take (k + 1))) := by
  have h1 := crcL_lt (bls (few.take k)) (x := 4294967295) (by decide)
  rw [bls_snoc few k h, crcL_snoc]
  congr 2
  omega
theorem of_few (a : Option Addr) (cap : Nat) (few : List ByteArray) (A : ByteArray) (w : World) (h : StrRow w a few) (hA : A.data.toList = (bls few).flatten) :
    Calls Try.prog 14 #[.slice a few.length cap] w fun e w' => e = .returned (.int .u64 (fnvS 14695981039346656037 A.data.toList : Nat)) ∧ w = w' := by
  have := of_any a cap few w h
  rwa [fnvL_flat, ← hA] at this
theorem crc_few (a : Option Addr) (cap : Nat) (few : List ByteArray) (A : ByteArray) (w : World) (h : StrRow w a few) (hA : A.data.toList = (bls few).flatten) :
    Calls Try.prog 16 #[.slice a few.length cap] w fun e w' => e = .returned (.int .u32 (4294967295 - crcS 4294967295 A.data.toList : Nat)) ∧ w = w' := by
  have := crc_any a cap few w h
  rwa [moreS_zero, ← hA] at this
theorem more_few (a : Option Addr) (cap : Nat) (few : List ByteArray) (A : ByteArray) (w : World) (h : StrRow w a few) (hA : A.data.toList = (bls few).flatten) :
    Calls Try.prog 20 #[.int .u32 0, .slice a few.length cap] w fun e w' => e = .returned (.int .u32 (4294967295 - crcS 4294967295 A.data.toList : Nat)) ∧ w = w' := by
  have := more_any 0 a cap few w (by decide) h
  rwa [moreS_zero, ← hA] at this
theorem start_crc (few : List ByteArray) : crcL 4294967295 (bls (few.take 0)) = 4294967295 := by simp [bls, crcL]
set_option maxHeartbeats 1000000 in
theorem walk (a0 : Option Addr) (len0 cap0 : Nat) (z0 : List ByteArray) (w : World) (w0 : IsStrs w a0 len0 cap0 z0) :
    Calls Try.prog 4 #[.slice a0 len0 cap0] w fun e w' => e = .returned (.bool true) ∧ Below w.heap.size w w' := by
  obtain ⟨ss, rfl, hr⟩ := w0.row
  have HR := Lib.hid hr
  clear hr w0
  go_enter Try.func4, Try.ntmps4
  go_wp2_with fail
  refine (few_any ss a0 cap0 8 40 _ (by decide) (by decide) HR.out).mono ?_
  rintro e w1 ⟨a, cap, A, rfl, hA, hAs, hr1, hb1⟩
  have HA := Lib.hid hA
  have HR1 := Lib.hid hr1
  clear hA hr1 HR
  generalize fewL ss 8 40 = few at HA HR1 ⊢
  have hfl : few.length ≤ 9223372036854775807 := HR1.out.1
  go_wp2_with fail
  refine (awake1_any _).mono ?_
  rintro e w2 ⟨rfl, hb2⟩
  have hb2' : Below w.heap.size w w2 := hb1.trans (hb2.mono hb1.size)
  have HR2 := Lib.hid (HR1.out.keep hb2)
  have hz2 := hb2'.size
  clear HR1 hb2 hb1
  go_wp2
  go_loopw [5, 6, 18] (fun f c i wr => ∃ k : Nat, k ≤ few.length ∧ i = .int .i64 k ∧ f = .int .u64 (fnvL 14695981039346656037 (bls (few.take k)) : Nat) ∧ c = .int .u32 (4294967295 - crcL 4294967295 (bls (few.take k)) : Nat) ∧
      Hid (StrRow wr a few) ∧ Below w.heap.size w wr) (fun _ _ i _ => few.length - (intOf i).toNat)
  case atStart => exact ⟨0, by omega, rfl, rfl, by rw [start_crc]; rfl, HR2, hb2'⟩
  case round =>
    obtain ⟨k, hk, rfl, rfl, rfl, HR3, hb3⟩ := hrel
    have hz3 := hb3.size
    by_cases hlt : k < few.length
    · obtain ⟨b, off, rfl, hcell⟩ := HR3.out.2.2 (by omega)
      have hc := hcell k hlt
      have hss := HR3.out.2.1 k hlt
      have hx1 := fnvL_lt (bls (few.take k)) (x := 14695981039346656037) (by decide)
      have hx2 : 4294967295 - crcL 4294967295 (bls (few.take k)) < 4294967296 := by omega
      have HX1 := Lib.hid (show fnvL 14695981039346656037 (bls (few.take (k + 1))) = fnvS (fnvL 14695981039346656037 (bls (few.take k))) few[k].data.toList by rw [bls_snoc few k hlt, fnvL_snoc])
      have HX2 := Lib.hid (more_step few k hlt)
      clear hcell
      generalize few[k] = s at hc hss HX1 HX2
      go_wp2_with fail
      refine (add_one _ _ _ s _ hx1 hss (by simp)).mono ?_
      rintro e w' ⟨rfl, rfl⟩
      go_wp2_with fail
      refine (more_one _ _ _ s _ hx2 hss (by simp)).mono ?_
      rintro e w' ⟨rfl, rfl⟩
      go_wp2
      go_roundw
      case rel => exact ⟨k + 1, by omega, by go_num, by rw [HX1.out], by rw [HX2.out], Lib.hid (HR3.out.keep (((Below.refl _ _).alloc (Nat.le_refl _) _).alloc (by simp) _)), (hb3.alloc hz3 _).alloc (by simp; omega) _⟩
      case measure => simp [intOf]; omega
    · rw [bls_all few k hlt, fnvL_flat, crcL_flat, ← HA.out]
      go_wp2_with fail
      refine (refOf_any A _ hAs).mono ?_
      rintro e w' ⟨rfl, rfl⟩
      go_wp2_with fail
      refine (refCrc_any A _ hAs).mono ?_
      rintro e w' ⟨rfl, rfl⟩
      go_wp2_with fail
      refine (of_few a cap few A _ HR3.out HA.out).mono ?_
      rintro e w' ⟨rfl, rfl⟩
      go_wp2_with fail
      refine (refOf_any A _ hAs).mono ?_
      rintro e w' ⟨rfl, rfl⟩
      go_wp2_with fail
      refine (crc_few a cap few A _ HR3.out HA.out).mono ?_
      rintro e w' ⟨rfl, rfl⟩
      go_wp2_with fail
      refine (refCrc_any A _ hAs).mono ?_
      rintro e w' ⟨rfl, rfl⟩
      go_wp2_with fail
      refine (crc_nil _).mono ?_
      rintro e w' ⟨rfl, rfl⟩
      go_wp2_with fail
      refine (more_few a cap few A _ HR3.out HA.out).mono ?_
      rintro e w' ⟨rfl, rfl⟩
      go_wp2
      go_ret
      exact ⟨rfl, hb3⟩

/-! ### THE ROW's STEP -/
theorem own : ownKnob Try.prog.godebug = none := by kernel_rfl
theorem laidOut : laidOutB Try.prog = true := by kernel_rfl
set_option maxRecDepth 100000 in
theorem lifted (os : Os) (started : os.Started) (H : Type) (enc : TypeId × Value → H) :
    ReturnsInHanded {} Try.checked os 4 .any (Rows.sumsPartsSpec.pre6 enc Try.prog Try.f4 Rows.sumsPartsRow.domain false) (Rows.sumsPartsSpec.post enc Try.prog Try.f4 false true false false) := by
  refine returnsInHanded_of_change (C := Try.checked) own started (by kernel_rfl) Try.func4
    (ChangeSpec.witness6 (enc := enc) (C := Try.checked) false ⟨#[], #[.slice none 0 0], []⟩ 8 (by kernel_rfl) (by kernel_rfl) (by kernel_rfl) (by kernel_rfl)) ?_
  intro W base args ds gs before hval0 hW hcnd _
  have hval : ∀ (j : Nat) t v, Try.f4.params[j]? = some t → args[j]? = some v → Value.okWide Try.prog W .any base t v := hval0
  have hW' := hW
  obtain ⟨p, q, hA0, hV, rfl, hfz, hnd⟩ := hW
  have hA : DataW.TrodAll enc Try.prog W 0 (fun _ => true) true Try.f4.params.toList args.toList ds p := hA0
  rw [Try.params4] at hA hval
  obtain ⟨v0, vs0, d0, ds0, p0, q0, hargs, rfl, rfl, h0, r0⟩ := trodAll_cons hA
  obtain ⟨rfl, rfl, rfl⟩ := trodAll_nil r0
  obtain rfl : args = #[v0] := by cases args; simp_all
  obtain ⟨rfl, rfl⟩ := trodVars_none hV
  have k0 := h0
  have lt0 : ∀ x ∈ p0, x.block < W.heap.size := by obtain ⟨m, hm⟩ := k0; exact DataW.trod_lt m _ _ _ hm
  obtain ⟨a0, len0, cap0, rfl⟩ := okWide_slice Try.underlying31 (hval 0 31 v0 rfl rfl)
  obtain ⟨z0, w0⟩ : ∃ zs, IsStrs W a0 len0 cap0 zs := by
    obtain ⟨fuel, hf⟩ := h0
    rcases open_strings Try.underlying31 Try.underlying9 (by kernel_rfl) hf with ⟨hcs, _⟩ | ⟨x, l, c, zs, hcs, _, hl, hm, hz, _, hcell, hwz⟩
    · simp [Value.cells] at hcs
      obtain ⟨rfl, rfl, rfl⟩ := hcs
      exact ⟨[], .inl ⟨rfl, rfl, rfl, rfl⟩⟩
    · simp [Value.cells] at hcs
      obtain ⟨rfl, rfl, rfl⟩ := hcs
      exact ⟨zs, .inr ⟨_, rfl, hl, hm, by simpa using hz, hcell, hwz⟩⟩
  clear hA0 hval0
  refine (walk a0 len0 cap0 z0 W w0).mono fun e W' ⟨he, bel⟩ => ?_
  subst he
  exact ⟨_, rfl, _, _, _, [], _, [], hW', trodAll_mk1 (shut_bool Try.underlying4 _), (trodAll_cons_mk (Below.trod laidOut (by kernel_rfl) (of_decide_eq_true (by kernel_rfl)) k0 bel lt0) trodAll_mk0), rfl, bel.frame _, fun h => by cases h⟩

theorem over : Rows.sumsPartsRow.holds Try.pinned (OpenSpec.ofChange Rows.sumsPartsSpec) :=
  OpenClaim.holds_of_wide 4 Try.f4 rfl rfl rfl rfl rfl rfl rfl ⟨rfl, rfl, rfl, rfl, rfl⟩ rfl rfl rfl rfl rfl (by kernel_rfl) Try.func4 (by kernel_rfl)
    (of_decide_eq_true (by kernel_rfl)) (by unfold Func.isWrapper; first | (rw [if_pos (by decide +kernel)]; kernel_rfl) | (rw [if_neg (by decide +kernel)]; exact ⟨rfl, rfl⟩))
    (fun os started H enc _ => lifted os started H enc)

end Go.Proofs.Ytblmahofopjceaa.sumsParts
namespace Go.Proofs.Ytblmahofopjceaa
theorem sumsParts_proved : Rows.SumsPartsSaid := sumsParts.over
end Go.Proofs.Ytblmahofopjceaa
