/-
  The answers that the document fixes for layer 3.
-/
import Derived.Test.YtmonbjlkkhpinaaDoorCodeText
namespace Go.Proofs.YtmonbjlkkhpinaaDoor
open Go.RowKit
set_option linter.unusedVariables false

theorem of_lit (o : Nat) (n : Int) (w : World) (b : Nat) (hc : w.cell? ⟨b, 0, none⟩ = some (.int .i64 n)) : Calls Tryd.prog 24 #[.int .u8 o, .slice (some ⟨b, 0, none⟩) 1 1] w fun e w' => e = .returned (.agg #[.int .u8 o, .int .i64 (ofArg o [n])]) ∧ Below w.heap.size w w' :=
  codeOf_any o (some ⟨b, 0, none⟩) 1 [n] w (by simp) (fun _ => ⟨b, 0, rfl, fun i hi => by
    obtain rfl : i = 0 := by simpa using hi
    exact hc⟩)
theorem of_none (o : Nat) (w : World) : Calls Tryd.prog 24 #[.int .u8 o, .slice none 0 0] w fun e w' => e = .returned (.agg #[.int .u8 o, .int .i64 0]) ∧ Below w.heap.size w w' := by
  have := codeOf_any o none 0 [] w (by simp) (fun h => by simp at h)
  rw [show ofArg o [] = 0 by simp [ofArg]] at this
  exact this
/-- The image of one function: push 5, ret. -/
def img5 : List Fn := [⟨0, 0, [(1, 5), (16, 0)]⟩]
theorem text5 : textB img5 = [1, 0, 0, 2, 1, 10, 16] := by decide +kernel
theorem ok5 : ImgOk img5 := by
  refine ⟨by decide, fun f hf => ?_⟩
  simp [img5] at hf
  subst hf
  refine ⟨by decide, by decide, by decide, by decide, by decide, fun x hx => ?_⟩
  simp at hx
  rcases hx with rfl | rfl <;> exact ⟨by decide, by decide, by decide⟩
/-- One function that is written out as a list of its own. -/
theorem FnRow.lit (w : World) (f : Fn) (x : Option Addr) (c : Nat) (t : TypeId) (hr : InsRow w x f.code) : FnRow (w.alloc (.cells #[.int .i64 f.args, .int .i64 f.locals, .slice x f.code.length c] t)) (some ⟨w.heap.size, 0, none⟩) [f] := by
  intro _
  refine ⟨w.heap.size, 0, rfl, fun i hi => ?_⟩
  obtain rfl : i = 0 := by simpa using hi
  refine ⟨by simp, by simp, x, c, by simp, ?_⟩
  exact hr.below ((Below.refl _ _).alloc (Nat.le_refl _) _)
set_option maxHeartbeats 1000000 in
theorem awake3_any (w : World) (hN : NamesAt w) : Calls Tryd.prog 12 #[] w fun e w' => e = .returned (.bool true) ∧ Below w.heap.size w w' := by
  have HN := Lib.hid hN
  clear hN
  go_enter Tryd.func12, Tryd.ntmps12
  go_wp2_with fail
  refine (of_lit 1 5 _ w.heap.size (by simp)).mono ?_
  rintro e w1 ⟨rfl, hb1⟩
  have HB1 := Lib.hid (show Below w.heap.size w w1 from ((Below.refl _ w).alloc (Nat.le_refl _) _).trans (hb1.mono (by simp)))
  clear hb1
  rw [show ofArg 1 [5] = 5 from rfl]
  go_wp2_with fail
  refine (of_none 16 _).mono ?_
  rintro e w2 ⟨rfl, hb2⟩
  have HB2 := Lib.hid (HB1.out.trans (hb2.mono HB1.out.size))
  clear hb2 HB1
  go_wp2_with fail
  refine (make_any 0 0 (some ⟨w2.heap.size, 0, none⟩) 2 [(1, 5), (16, 0)] _ (by simp) (InsRow.lit w2 [(1, 5), (16, 0)] _ _ rfl) (fun h => by cases h)).mono ?_
  rintro e w3 ⟨x, c, rfl, ho, hf, hb3⟩
  have HB3 := Lib.hid (show Below w.heap.size w w3 from (HB2.out.alloc HB2.out.size _).trans (hb3.mono (by have := HB2.out.size; simp; omega)))
  have HF := Lib.hid (FnRow.lit w3 ⟨0, 0, [(1, 5), (16, 0)]⟩ x c 29 (InsRow.of_own ho))
  clear ho hf hb3 HB2
  simp only [List.length_cons, List.length_nil] at HF ⊢
  go_wp2_with fail
  refine (text_any _ 1 img5 _ ok5 (HF.out.below ((Below.refl _ _).alloc (Nat.le_refl _) _))).mono ?_
  rintro e w4 ⟨rfl, hb4⟩
  have hs : (bs (textB img5)).toList = [1, 0, 0, 2, 1, 10, 16] := by rw [ByteArray.toList_eq, bs_list, text5]
  have hc : w4.cell? ⟨w3.heap.size + 1, 0, none⟩ = some (.slice (some ⟨w3.heap.size, 0, none⟩) 1 1) := (hb4.cell (p := ⟨w3.heap.size + 1, 0, none⟩) (by simp)).trans (by simp)
  have hz4 : w3.heap.size + 1 < w4.heap.size := by have := hb4.size; simp at this; omega
  have HB4 := Lib.hid (show Below w.heap.size w w4 from ((HB3.out.alloc HB3.out.size _).alloc (by have := HB3.out.size; simp; omega) _).trans (hb4.mono (by have := HB3.out.size; simp; omega)))
  have HF4 := Lib.hid ((HF.out.below ((Below.refl _ _).alloc (Nat.le_refl _) _)).below hb4)
  clear hb4 HF HB3
  generalize bs (textB img5) = tx at hs
  go_wp2_with fail
  refine (size_any _ 1 img5 _ ok5 HF4.out).mono ?_
  rintro e w5 ⟨rfl, hb5⟩
  rw [show ((sizeN img5 : Nat) : Int) = 2 from rfl]
  have HB5 := Lib.hid (HB4.out.trans (hb5.mono HB4.out.size))
  clear hb5 HF4 HB4
  go_wp2_with fail
  refine (name_any 22 _ (HN.out.below HB5.out)).mono ?_
  rintro e w6 ⟨rfl, rfl⟩
  have hs2 : (bs (opWord 22)).toList = [104, 111, 115, 116] := by rw [ByteArray.toList_eq, bs_list]; rfl
  generalize bs (opWord 22) = wd at hs2
  go_wp2_with fail
  refine (hasArg_any 1 _).mono ?_
  rintro e w6 ⟨rfl, rfl⟩
  rw [show hasA 1 = true from rfl]
  go_wp2
  go_ret
  exact ⟨rfl, HB5.out⟩
end Go.Proofs.YtmonbjlkkhpinaaDoor
