/-
  The walk of the law CodeCut.
-/
import Derived.Test.YtmonbjlkkhpinaaDoorTidy
import Derived.Test.YtmonbjlkkhpinaaDoorAwake3
namespace Go.Proofs.YtmonbjlkkhpinaaDoor
open Go.RowKit
set_option linter.unusedVariables false

theorem and65535 (a : Int) : ∃ k : Nat, k ≤ 65535 ∧ bits .and .i64 a 65535 = (k : Int) := by
  refine ⟨(BitVec.ofInt 64 a &&& BitVec.ofInt 64 65535).toNat, ?_, ?_⟩
  · rw [BitVec.toNat_and]
    exact Nat.and_le_right
  · have h : (BitVec.ofInt 64 a &&& BitVec.ofInt 64 65535).toNat ≤ 65535 := by rw [BitVec.toNat_and]; exact Nat.and_le_right
    show IntKind.i64.wrap ((BitVec.ofInt 64 a &&& BitVec.ofInt 64 65535).toNat : Int) = _
    rw [IntKind.wrap_i64]
    omega
theorem numB_pos (n : Nat) : 0 < (numB n).length := by
  by_cases h : n < 128
  · rw [numB_lt h]; simp
  · rw [numB_ge (by omega)]; simp
theorem textB_len {m : List Fn} (h : ImgOk m) : 0 < (textB m).length ∧ (textB m).length ≤ 30000000 := by
  have h1 := fnsB_len h.2
  have h2 := numB_ten (n := m.length) (by have := h.1; omega)
  have h3 := numB_pos m.length
  unfold textB
  rw [counts1, List.length_append]
  have := h.1
  omega
set_option maxHeartbeats 2000000 in
theorem codeCut_walk (w : World) (a : Option Addr) (len cap : Nat) (m : List Fn) (hm : ImgArg w a len m) (n : Int) (hN : NamesAt w) :
    Calls Tryd.prog 7 #[.agg #[.slice a len cap], .int .i64 n] w fun e w' => e = .returned (.bool true) ∧ Below w.heap.size w w' := by
  obtain ⟨hdom, hd6, -⟩ := tidyM_dom m hm.2.2.2
  have HD := Lib.hid hdom
  have hzw : (w.alloc (.cells #[.slice a len cap] 24)).heap.size = w.heap.size + 1 := by simp
  have HAW := Lib.hid (awake3_any (w.alloc (.cells #[.slice a len cap] 24)) (hN.below ((Below.refl _ _).alloc (Nat.le_refl _) _)))
  have HM := Lib.hid hm
  clear hdom hm hN hzw
  go_enter Tryd.func7, Tryd.ntmps7
  go_wp2_with fail
  refine HAW.out.mono ?_
  rintro e w1 ⟨rfl, hb1⟩
  have c0 : w1.cell? ⟨w.heap.size, 0, none⟩ = some (.slice a len cap) := (hb1.cell (p := ⟨w.heap.size, 0, none⟩) (by simp)).trans (by simp)
  have hl1 : w.heap.size < w1.heap.size := by have := hb1.size; simp at this; omega
  have HB1 := Lib.hid (show Below w.heap.size w w1 from ((Below.refl _ _).alloc (Nat.le_refl _) _).trans (hb1.mono (by simp)))
  have HM1 : Hid (ImgArg w1 a len m) := Lib.hid ⟨HM.out.1, HM.out.2.1, HM.out.2.2.1.below HB1.out, HM.out.2.2.2⟩
  have HTY := Lib.hid (tidy_any a len cap m w1 HM1.out)
  clear hb1 HAW HM HM1
  go_wp2_with fail
  refine HTY.out.mono ?_
  rintro e w2 ⟨a2, c2, P, rfl, hP, hb2, O, hI⟩
  have HB2 := Lib.hid (HB1.out.trans (hb2.mono HB1.out.size))
  have HF2 : Hid (FnRow w2 a2 (tidyM m)) := Lib.hid (by have := hI.fns; rwa [hP] at this)
  clear hb2 hI hP HB1 HTY
  have HX := Lib.hid (text_any a2 c2 (tidyM m) w2 (imgOk_of_dom HD.out) HF2.out)
  have hlen := textB_len (imgOk_of_dom HD.out)
  have hcut := fun p h1 h2 => parse_cut (tidyM m) HD.out p h1 h2
  have hmore := parse_more (tidyM m) HD.out 0 []
  generalize textB (tidyM m) = t at HX hlen hcut hmore
  have HCUT := Lib.hid hcut
  have HMORE := Lib.hid hmore
  obtain ⟨ht0, ht1⟩ := hlen
  clear hcut hmore
  go_wp2_with fail
  refine HX.out.mono ?_
  rintro e w3 ⟨rfl, hb3⟩
  have HB3 := Lib.hid (HB2.out.trans (hb3.mono HB2.out.size))
  clear hb3 HX HF2 HB2
  obtain ⟨k, hk, hke⟩ := and65535 n
  have hz := bs_size t
  have hk0 : k % t.length < t.length := Nat.mod_lt _ ht0
  have hp1 := parse_any ((bs t).extract 0 (k % t.length)) w3 (by rw [extract_take, bs_size, List.length_take]; omega)
  rw [show ((bs t).extract 0 (k % t.length)).data.toList = t.take (k % t.length) by rw [extract_take, bs_list, bs_list]] at hp1
  have HP1 := Lib.hid hp1
  have HE1 := Lib.hid (HCUT.out (t.take (k % t.length)) (List.take_prefix _ _) (fun e => by have := congrArg List.length e; rw [List.length_take] at this; omega))
  clear hp1
  go_wp2_with fail
  refine HP1.out.mono ?_
  rintro e w4 ⟨x4, c4, rfl, -, hb4⟩
  rw [HE1.out]
  have HB4 := Lib.hid (HB3.out.trans (hb4.mono HB3.out.size))
  have hz4 := HB4.out.size
  clear hb4 HB3 HP1
  have hp2 := fun w' => parse_any (bs t ++ ⟨#[0]⟩) w' (by rw [ByteArray.size_append, bs_size]; show t.length + 1 ≤ _; omega)
  rw [show (bs t ++ ⟨#[0]⟩ : ByteArray).data.toList = t ++ [0] by rw [show (⟨#[0]⟩ : ByteArray) = bs [0] from rfl, bs_append, bs_list]] at hp2
  have HP2 := Lib.hid hp2
  clear hp2
  go_wp2_with fail
  refine (HP2.out _).mono ?_
  rintro e w5 ⟨x5, c5, rfl, -, hb5⟩
  rw [HMORE.out]
  have HB5 := Lib.hid (show Below w.heap.size w w5 from (HB4.out.alloc hz4 _).trans (hb5.mono (by simp; omega)))
  have hz5 := HB5.out.size
  clear hb5 HB4 HP2
  go_wp2
  go_ret
  exact ⟨rfl, HB5.out.alloc hz5 _⟩
end Go.Proofs.YtmonbjlkkhpinaaDoor
