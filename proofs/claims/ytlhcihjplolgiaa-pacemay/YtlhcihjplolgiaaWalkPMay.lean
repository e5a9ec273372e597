/-
  The walk of the law PaceMay.
-/
import Derived.Test.YtlhcihjplolgiaaPace8
namespace Go.Proofs.Ytlhcihjplolgiaa
open Go.RowKit
set_option linter.unusedVariables false

set_option maxRecDepth 100000 in
set_option maxHeartbeats 1000000 in
theorem paceMay_walk (t d : Int) (w : World) : Calls Try.prog 12 #[.int .i64 t, .int .i64 d] w fun r w' => r = .returned (.bool true) ∧ Below w.heap.size w w' := by
  have HAW := Lib.hid (fun W => awake17_any W)
  have HGD := Lib.hid (fun W => good17_any t d W)
  have HCK := Lib.hid (fun W => (pcheck17_any t d W).mono (R' := fun r w' => r = .returned (.int .i64 (if mayP t d = true then 0 else 4)) ∧ Below W.heap.size W w') fun r w' h => ⟨h.1, by rw [h.2]; exact bel_alloc (Below.refl _ _) _⟩)
  have hA : Below w.heap.size w (w.alloc (.cells #[.int .i64 t, .int .i64 d] 82)) := bel_alloc (Below.refl _ _) _
  have x0 : (w.alloc (.cells #[.int .i64 t, .int .i64 d] 82)).cell? ⟨w.heap.size, 0, none⟩ = some (.int .i64 t) := new_cell rfl rfl
  have x1 : (w.alloc (.cells #[.int .i64 t, .int .i64 d] 82)).cell? ⟨w.heap.size, 1, none⟩ = some (.int .i64 d) := new_cell rfl rfl
  have HA := Lib.hid hA
  have HX := Lib.hid (And.intro x0 x1)
  clear hA x0 x1
  cases hm : mayP t d with
  | true =>
    have HBE := Lib.hid (fun W => (begin17_any t d W).mono (R' := fun r w' => ∃ b, r = .returned (.tuple #[.pointer (some ⟨b, 0, none⟩), .int .i64 0]) ∧ Below W.heap.size W w') fun r w' h => by
      rcases h with ⟨-, b, a, c, h1, -, -, -, h3⟩ | ⟨h, -⟩
      · exact ⟨b, h1, h3⟩
      · rw [hm] at h; cases h)
    rw [hm] at HGD HCK
    simp only [if_true] at HCK
    clear hm
    go_enter Try.func12, Try.ntmps12
    go_wp2_with fail
    generalize w.alloc (.cells #[.int .i64 t, .int .i64 d] 82) = W at HX HA ⊢
    refine (HBE.out _).mono ?_
    rintro r w1 ⟨b, rfl, hb1⟩
    have HB1 := Lib.hid (HA.out.trans (hb1.mono HA.out.size))
    obtain ⟨c0, c1⟩ := keep2p hb1 HX.out
    have hp := ptr17_ne b
    clear hb1 HBE HX HA
    go_wp2_with fail
    refine (HGD.out _).mono ?_
    rintro r w2 ⟨rfl, hb2⟩
    have HB2 := Lib.hid (HB1.out.trans (hb2.mono HB1.out.size))
    obtain ⟨c0, c1⟩ := keep2p hb2 (And.intro c0 c1)
    clear hb2 HB1 HGD
    go_wp2_with fail
    refine (HAW.out _).mono ?_
    rintro r w3 ⟨rfl, hb3⟩
    have HB3 := Lib.hid (HB2.out.trans (hb3.mono HB2.out.size))
    obtain ⟨c0, c1⟩ := keep2p hb3 (And.intro c0 c1)
    clear hb3 HB2 HAW
    go_wp2_with fail
    refine (HCK.out _).mono ?_
    rintro r w4 ⟨rfl, hb4⟩
    have HB4 := Lib.hid (HB3.out.trans (hb4.mono HB3.out.size))
    obtain ⟨c0, c1⟩ := keep2p hb4 (And.intro c0 c1)
    clear hb4 HB3
    go_wp2_with fail
    refine (HCK.out _).mono ?_
    rintro r w5 ⟨rfl, hb5⟩
    have HB5 := Lib.hid (HB4.out.trans (hb5.mono HB4.out.size))
    clear hb5 HB4 HCK
    go_wp2
    go_ret
    exact ⟨rfl, HB5.out⟩
  | false =>
    have HBE := Lib.hid (fun W => (begin17_any t d W).mono (R' := fun r w' => r = .returned (.tuple #[.pointer none, .int .i64 4]) ∧ Below W.heap.size W w') fun r w' h => by
      rcases h with ⟨h, -⟩ | ⟨-, h1, h2⟩
      · rw [hm] at h; cases h
      · exact ⟨h1, h2⟩)
    rw [hm] at HGD HCK
    simp only [Bool.false_eq_true, if_false] at HCK
    clear hm
    go_enter Try.func12, Try.ntmps12
    go_wp2_with fail
    generalize w.alloc (.cells #[.int .i64 t, .int .i64 d] 82) = W at HX HA ⊢
    refine (HBE.out _).mono ?_
    rintro r w1 ⟨rfl, hb1⟩
    have HB1 := Lib.hid (HA.out.trans (hb1.mono HA.out.size))
    obtain ⟨c0, c1⟩ := keep2p hb1 HX.out
    have hp := ptr17_nn
    clear hb1 HBE HX HA
    go_wp2_with fail
    refine (HGD.out _).mono ?_
    rintro r w2 ⟨rfl, hb2⟩
    have HB2 := Lib.hid (HB1.out.trans (hb2.mono HB1.out.size))
    obtain ⟨c0, c1⟩ := keep2p hb2 (And.intro c0 c1)
    clear hb2 HB1 HGD
    go_wp2_with fail
    refine (HAW.out _).mono ?_
    rintro r w3 ⟨rfl, hb3⟩
    have HB3 := Lib.hid (HB2.out.trans (hb3.mono HB2.out.size))
    obtain ⟨c0, c1⟩ := keep2p hb3 (And.intro c0 c1)
    clear hb3 HB2 HAW
    go_wp2_with fail
    refine (HCK.out _).mono ?_
    rintro r w4 ⟨rfl, hb4⟩
    have HB4 := Lib.hid (HB3.out.trans (hb4.mono HB3.out.size))
    obtain ⟨c0, c1⟩ := keep2p hb4 (And.intro c0 c1)
    clear hb4 HB3
    go_wp2_with fail
    refine (HCK.out _).mono ?_
    rintro r w5 ⟨rfl, hb5⟩
    have HB5 := Lib.hid (HB4.out.trans (hb5.mono HB4.out.size))
    clear hb5 HB4 HCK
    go_wp2
    go_ret
    exact ⟨rfl, HB5.out⟩
end Go.Proofs.Ytlhcihjplolgiaa
