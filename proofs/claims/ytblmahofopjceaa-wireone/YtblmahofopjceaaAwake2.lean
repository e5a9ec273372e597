/-
  The answers that the document fixes for layer 2.
-/
import Derived.Test.YtblmahofopjceaaWirePut
import Derived.Test.YtblmahofopjceaaWireTake
import Derived.Test.YtblmahofopjceaaWireSeal
namespace Go.Proofs.Ytblmahofopjceaa
open Go.RowKit
set_option linter.unusedVariables false

theorem outAt_new (w : World) (t : TypeId) : OutAt (w.alloc (.cells #[.slice none 0 0] t)) w.heap.size (.slice none 0 0) [] := by
  refine ⟨by simp, by simp [World.frozen?, World.alloc, -World.alloc_eq], World.ownsRow_nil _ _ _ _, by simp [Value.ownBlock]⟩
theorem unseal_sealed (l : List UInt8) (w : World) (h : l.length ≤ 100000) : Calls Try.prog 42 #[.string (bs (sealB l))] w fun e w' => e = .returned (.tuple #[.string (bs l), .int .i64 0]) ∧ Below w.heap.size w w' := by
  have := unseal_any (bs (sealB l)) w (by rw [bs_size, sealB_length]; omega)
  rw [bs_list, unseal_seal] at this
  exact this
theorem inInt_one (b : Nat) (w : World) (h : InSt w b ([1], 0)) : Calls Try.prog 39 #[.pointer (some ⟨b, 0, none⟩)] w fun r w' => r = .returned (.int .i64 (-1)) ∧ InTo w b ([], 0) w' := by
  have := inInt_any b [1] 0 w h
  rw [show numS ([1], 0) = (([], 0), 1) from by decide +kernel] at this
  exact this
theorem num300 : numB 300 = [172, 2] := by decide +kernel
set_option maxHeartbeats 1000000 in
theorem awake2_any (w : World) : Calls Try.prog 22 #[] w fun e w' => e = .returned (.bool true) ∧ Below w.heap.size w w' := by
  go_enter Try.func22, Try.ntmps22
  go_wp2_with fail
  refine (seal_any _ _ (by decide)).mono ?_
  rintro e w1 ⟨rfl, hb1⟩
  have HO1 := Lib.hid ((outAt_new w 56).below hb1)
  go_wp2_with fail
  refine (unseal_sealed _ _ (by decide)).mono ?_
  rintro e w2 ⟨rfl, hb2⟩
  have HO2 := Lib.hid (HO1.out.below hb2)
  have hz2 : w.heap.size < w2.heap.size := HO2.out.lt
  have HB2 := Lib.hid (show Below w.heap.size w w2 from (((Below.refl _ w).alloc (Nat.le_refl _) _).trans (hb1.mono (by simp))).trans (hb2.mono (by have := hb1.size; simp at this; omega)))
  clear hb1 hb2 HO1
  have hs1 : (bs [172, 2]).toList = [172, 2] := by rw [ByteArray.toList_eq, bs_list]
  have hs2 : (bs [97, 98]).toList = [97, 98] := by rw [ByteArray.toList_eq, bs_list]
  go_wp2_with fail
  refine (outNum_one w.heap.size _ [] 300 300 rfl w2 HO2.out (by decide) (by decide)).mono ?_
  rintro r w3 ⟨rfl, ho⟩
  rw [num300, List.nil_append] at ho
  obtain ⟨v3, hat, -, ht⟩ := ho
  have HAT := Lib.hid hat
  have HB3 := Lib.hid (show Below w.heap.size w w3 from HB2.out.trans (ht.below (by omega) (by rintro k hk (h | h); omega; cases h)))
  clear hat ht HB2 HO2
  go_wp2_with fail
  refine (outText_any w.heap.size v3 [172, 2] w3 HAT.out).mono ?_
  rintro r w' ⟨rfl, rfl⟩
  go_wp2_with fail
  refine (open_any _ w3 (by decide)).mono ?_
  rintro r w4 ⟨rfl, -, hb4⟩
  have HB4 := Lib.hid (HB3.out.trans (hb4.mono HB3.out.size))
  clear hb4 HB3 HAT
  go_wp2_with fail
  refine (open_any _ w4 (by decide)).mono ?_
  rintro r w5 ⟨rfl, hin, hb5⟩
  have HB5 := Lib.hid (HB4.out.trans (hb5.mono HB4.out.size))
  have HIN := Lib.hid hin
  have hz4 := HB4.out.size
  clear hin hb5 HB4
  go_wp2_with fail
  refine (inInt_one w4.heap.size w5 HIN.out).mono ?_
  rintro r w6 ⟨rfl, hto⟩
  have HB6 := Lib.hid (HB5.out.trans (hto.2.below HB5.out.size (by rintro k hk h; omega)))
  clear hto HB5 HIN
  go_wp2
  go_ret
  exact ⟨rfl, HB6.out⟩
end Go.Proofs.Ytblmahofopjceaa
