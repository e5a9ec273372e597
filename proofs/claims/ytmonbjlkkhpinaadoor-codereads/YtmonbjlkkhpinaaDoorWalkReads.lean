/-
  The walk of the law CodeReads.
-/
import Derived.Test.YtmonbjlkkhpinaaDoorRefImg
import Derived.Test.YtmonbjlkkhpinaaDoorSame
import Derived.Test.YtmonbjlkkhpinaaDoorAwake3
import Derived.Test.YtmonbjlkkhpinaaDoorSums
namespace Go.Proofs.YtmonbjlkkhpinaaDoor
open Go.RowKit
set_option linter.unusedVariables false

set_option maxHeartbeats 2000000 in
theorem codeReads_walk (a0 : ByteArray) (w0 : a0.size ≤ maxLen) (w : World) (hN : NamesAt w) :
    Calls Tryd.prog 4 #[.string a0] w fun e w' => e = .returned (.bool true) ∧ Below w.heap.size w w' := by
  have HN := Lib.hid hN
  clear hN
  go_enter Tryd.func4, Tryd.ntmps4
  go_wp2_with fail
  refine (cut_any a0 300 _ w0 (by decide)).mono ?_
  rintro e w' ⟨rfl, rfl⟩
  have hs := cutB_le a0 300
  generalize cutB a0 300 = s at hs ⊢
  have HP := Lib.hid (parse_any s w (by omega))
  have HRP := Lib.hid (fun W => refParse_any s W (by omega))
  have HOK := Lib.hid (parse_ok s.data.toList)
  have HSP := Lib.hid (parse_spelt s.data.toList)
  have hpp : ∀ W, ParsePost W s.data.toList = fun e w' => ∃ a c, e = .returned (.tuple #[.agg #[.slice a (parseS s.data.toList).1.length c], .int .i64 ((parseS s.data.toList).2 : Nat)]) ∧ FnRow w' a (parseS s.data.toList).1 ∧ Below W.heap.size W w' := fun W => rfl
  have hrr : ∀ W, RParsePost W s.data.toList = fun e w' => ∃ a c, e = .returned (.tuple #[.slice a (parseS s.data.toList).1.length c, .int .i64 ((parseS s.data.toList).2 : Nat)]) ∧ RFnRow w' a (parseS s.data.toList).1 ∧ Below W.heap.size W w' := fun W => rfl
  rw [hpp] at HP
  simp only [hrr] at HRP
  clear hpp hrr
  generalize parseS s.data.toList = q at HP HRP HOK HSP
  obtain ⟨m, er⟩ := q
  simp only at HP HRP HOK HSP
  go_wp2_with fail
  refine HP.out.mono ?_
  rintro e w1 ⟨a1, c1, rfl, hr1, hb1⟩
  have HB1 := Lib.hid hb1
  have HR1 := Lib.hid hr1
  have hz1 := hb1.size
  clear hb1 hr1 HP
  go_wp2_with fail
  refine (HRP.out _).mono ?_
  rintro e w2 ⟨a2, c2, rfl, hr2, hb2⟩
  have HB2 := Lib.hid (show Below w.heap.size w w2 from (HB1.out.alloc hz1 _).trans (hb2.mono (by simp; omega)))
  have HF2 := Lib.hid ((HR1.out.below ((Below.refl _ w1).alloc (Nat.le_refl _) (.cells #[.slice a1 m.length c1] 24))).below hb2)
  have HR2 := Lib.hid hr2
  have t3 : w2.cell? ⟨w1.heap.size, 0, none⟩ = some (.slice a1 m.length c1) := (hb2.cell (p := ⟨w1.heap.size, 0, none⟩) (by simp)).trans (by simp)
  have hl2 : w1.heap.size < w2.heap.size := block_lt_of_cell t3
  clear hb2 hr2 HRP HB1 HR1
  go_wp2_with fail
  refine (awake3_any w2 (HN.out.below HB2.out)).mono ?_
  rintro e w3 ⟨rfl, hb3⟩
  have HB3 := Lib.hid (HB2.out.trans (hb3.mono HB2.out.size))
  have HF3 := Lib.hid (HF2.out.below hb3)
  have HR3 := Lib.hid (HR2.out.below hb3)
  have t4 := (hb3.cell (p := ⟨w1.heap.size, 0, none⟩) hl2).trans t3
  have hl3 : w1.heap.size < w3.heap.size := block_lt_of_cell t4
  have hee : ((er : Int) == (er : Int)) = true := by simp
  clear hb3 HB2 HF2 HR2 t3 hl2 HN
  go_wp2_with fail
  refine (same_any a1 c1 a2 c2 m w3 HOK.out HF3.out HR3.out).mono ?_
  rintro e w4 ⟨rfl, hb4⟩
  have HB4 := Lib.hid (HB3.out.trans (hb4.mono HB3.out.size))
  have HF4 := Lib.hid (HF3.out.below hb4)
  have t5 := (hb4.cell (p := ⟨w1.heap.size, 0, none⟩) hl3).trans t4
  have hl4 : w1.heap.size < w4.heap.size := block_lt_of_cell t5
  clear hb4 HB3 HF3 HR3 t4 hl3
  by_cases he : er = 0
  · subst he
    have HT := Lib.hid (HSP.out (by first | rfl | trivial))
    rw [show ((0 : Nat) : Int) = 0 from rfl]
    clear HSP hee
    have HX := text_any a1 c1 m w4 HOK.out HF4.out
    rw [HT.out, bs_eta] at HX
    have HX := Lib.hid HX
    go_wp2_with fail
    refine HX.out.mono ?_
    rintro e w5 ⟨rfl, hb5⟩
    have HB5 := Lib.hid (HB4.out.trans (hb5.mono HB4.out.size))
    clear hb5
    go_wp2
    go_ret
    exact ⟨rfl, HB5.out⟩
  · have hnb : ((er : Int) != 0) = true := by simp; omega
    clear he
    go_wp2
    go_ret
    exact ⟨rfl, HB4.out⟩
end Go.Proofs.YtmonbjlkkhpinaaDoor
