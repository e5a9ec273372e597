/-
  The answers that the document fixes for layer 4.
-/
import Derived.Test.YtmonbjlkkhpinaaDoorVerifyCheck
import Derived.Test.YtmonbjlkkhpinaaDoorAwake3
namespace Go.Proofs.YtmonbjlkkhpinaaDoor
open Go.RowKit
set_option linter.unusedVariables false

def load0 : List (Nat × Int) := [(17, 0), (16, 0)]
def SmallPost (n : Int) (w : World) (e : Ending) (w' : World) : Prop := ∃ a c, e = .returned (.agg #[.int .i64 n, .int .i64 n, .slice a 2 c]) ∧ InsRow w' a load0 ∧ Below w.heap.size w w'
/-- Functions that are written out as a list of their own. -/
theorem FnRow.lit2 (w : World) (f g : Fn) (x : Option Addr) (c : Nat) (y : Option Addr) (d : Nat) (t : TypeId) (hr : InsRow w x f.code) (hs : InsRow w y g.code) : FnRow (w.alloc (.cells #[.int .i64 f.args, .int .i64 f.locals, .slice x f.code.length c, .int .i64 g.args, .int .i64 g.locals, .slice y g.code.length d] t)) (some ⟨w.heap.size, 0, none⟩) [f, g] := by
  intro _
  refine ⟨w.heap.size, 0, rfl, fun i hi => ?_⟩
  have hb : Below w.heap.size w (w.alloc (.cells #[.int .i64 f.args, .int .i64 f.locals, .slice x f.code.length c, .int .i64 g.args, .int .i64 g.locals, .slice y g.code.length d] t)) := (Below.refl _ _).alloc (Nat.le_refl _) _
  match i, hi with
  | 0, _ => exact ⟨by simp, by simp, x, c, by simp, hr.below hb⟩
  | 1, _ => exact ⟨by simp, by simp, y, d, by simp, hs.below hb⟩
theorem made_res {w w' : World} {a : Option Addr} {c : Nat} {l : List (Nat × Int)} {n : Int} (hc : w'.cell? ⟨w.heap.size, 0, none⟩ = some (.int .i64 0)) (ho : w'.ownsRow 0 47 2 (.slice a l.length c) l.length (codeCells l)) (hn : ∀ k, (Value.slice a l.length c).ownBlock = some k → w.heap.size < k) (u0 u1 u2 : Value) :
    InsRow (((w'.setCell ⟨w.heap.size, 0, none⟩ u0).setCell ⟨w.heap.size, 1, none⟩ u1).setCell ⟨w.heap.size, 2, none⟩ u2) a l := by
  have ht : Touch (fun k => k = w.heap.size) w' (((w'.setCell ⟨w.heap.size, 0, none⟩ u0).setCell ⟨w.heap.size, 1, none⟩ u1).setCell ⟨w.heap.size, 2, none⟩ u2) := (((Touch.refl (fun k => k = w.heap.size) w').setCell (p := ⟨w.heap.size, 0, none⟩) (fun _ => rfl) _).setCell (p := ⟨w.heap.size, 1, none⟩) (fun _ => rfl) _).setCell (p := ⟨w.heap.size, 2, none⟩) (fun _ => rfl) _
  exact InsRow.of_own (own_touch ho ht (fun k hk e => by have := hn k hk; omega))
set_option maxHeartbeats 2000000 in
theorem small_any (n : Int) (w : World) : Calls Tryd.prog 50 #[.int .i64 n] w (SmallPost n w) := by
  go_enter Tryd.func50, Tryd.ntmps50
  go_wp2_with fail
  refine (of_none 17 _).mono ?_
  rintro e w1 ⟨rfl, hb1⟩
  go_wp2_with fail
  refine (of_none 16 _).mono ?_
  rintro e w2 ⟨rfl, hb2⟩
  have hz1 := hb1.size
  simp at hz1
  have hz2 := hb2.size
  have hbA : Below (w.alloc (.cells #[.int .i64 0, .int .i64 0, .slice none 0 0] 29)).heap.size (w.alloc (.cells #[.int .i64 0, .int .i64 0, .slice none 0 0] 29)) w2 := hb1.trans (hb2.mono hb1.size)
  have HBA := Lib.hid hbA
  clear hb1 hb2 hbA
  go_wp2_with fail
  refine (make_any n n (some ⟨w2.heap.size, 0, none⟩) 2 load0 _ (by decide) (InsRow.lit w2 load0 _ _ rfl) (fun h => by cases h)).mono ?_
  rintro e w3 ⟨x, c, rfl, ho, hf, hb3⟩
  have hbB : Below (w.alloc (.cells #[.int .i64 0, .int .i64 0, .slice none 0 0] 29)).heap.size (w.alloc (.cells #[.int .i64 0, .int .i64 0, .slice none 0 0] 29)) w3 := (HBA.out.alloc HBA.out.size _).trans (hb3.mono (by have := HBA.out.size; simp at this ⊢; omega))
  have hz3 := hb3.size
  simp at hz3
  have q0 : w3.cell? ⟨w.heap.size, 0, none⟩ = some (.int .i64 0) := (hbB.cell (p := ⟨w.heap.size, 0, none⟩) (by simp)).trans (by simp)
  have q1 : w3.cell? ⟨w.heap.size, 1, none⟩ = some (.int .i64 0) := (hbB.cell (p := ⟨w.heap.size, 1, none⟩) (by simp)).trans (by simp)
  have q2 : w3.cell? ⟨w.heap.size, 2, none⟩ = some (.slice none 0 0) := (hbB.cell (p := ⟨w.heap.size, 2, none⟩) (by simp)).trans (by simp)
  have z0 : w3.frozen? ⟨w.heap.size, 0, none⟩ = false := (hbB.frozen (p := ⟨w.heap.size, 0, none⟩) (by simp)).trans (frozen_new _ _ _ _)
  have z1 : w3.frozen? ⟨w.heap.size, 1, none⟩ = false := (hbB.frozen (p := ⟨w.heap.size, 1, none⟩) (by simp)).trans (frozen_new _ _ _ _)
  have z2 : w3.frozen? ⟨w.heap.size, 2, none⟩ = false := (hbB.frozen (p := ⟨w.heap.size, 2, none⟩) (by simp)).trans (frozen_new _ _ _ _)
  have hl := block_lt_of_cell q0
  have HIR := Lib.hid (made_res (n := n) q0 ho (fun k hk => by have := hf k hk; simp at this; omega) (.int .i64 n) (.int .i64 n) (.slice x load0.length c))
  have HB := Lib.hid (show Below w.heap.size w w3 from ((Below.refl _ w).alloc (Nat.le_refl _) _).trans (hbB.mono (by simp)))
  clear ho hf hb3 hbB HBA
  go_wp2
  exact bodyPost_ret (v := .agg #[.int .i64 n, .int .i64 n, .slice x 2 c]) (by simp [results, Tryd.results50, go_sem, q0, q1, q2]; rfl) rfl ⟨x, c, rfl, HIR.out, ((HB.out.setCell (by simp) _).setCell (by simp) _).setCell (by simp) _⟩
def img1 : List Fn := [⟨1, 1, load0⟩, ⟨4, 4, load0⟩]
def img2 : List Fn := [⟨1, 1, load0⟩, ⟨4, 4, [(16, 0)]⟩]
theorem check1 : checkS img1 = ((0, 0), 0) := by decide +kernel
theorem check2 : checkS img2 = ((1, 0), 14) := by decide +kernel
theorem ok1 : ImgOk img1 := by
  refine ⟨by decide, fun f hf => ?_⟩
  simp [img1, load0] at hf
  rcases hf with rfl | rfl
  all_goals
    refine ⟨by decide, by decide, by decide, by decide, by decide, fun x hx => ?_⟩
    simp at hx
    rcases hx with rfl | rfl <;> exact ⟨by decide, by decide, by decide⟩
theorem ok2 : ImgOk img2 := by
  refine ⟨by decide, fun f hf => ?_⟩
  simp [img2, load0] at hf
  rcases hf with rfl | rfl
  · refine ⟨by decide, by decide, by decide, by decide, by decide, fun x hx => ?_⟩
    simp at hx
    rcases hx with rfl | rfl <;> exact ⟨by decide, by decide, by decide⟩
  · refine ⟨by decide, by decide, by decide, by decide, by decide, fun x hx => ?_⟩
    simp at hx
    subst hx
    exact ⟨by decide, by decide, by decide⟩
set_option maxHeartbeats 4000000 in
theorem awake4_any (w : World) (hH : HostsAt w) : Calls Tryd.prog 26 #[] w fun e w' => e = .returned (.bool true) ∧ Below w.heap.size w w' := by
  have HH := Lib.hid hH
  clear hH
  go_enter Tryd.func26, Tryd.ntmps26
  go_wp2_with fail
  refine (small_any 1 _).mono ?_
  rintro e w1 ⟨x1, c1, rfl, hr1, hb1⟩
  have HB1 := Lib.hid hb1
  have HR1 := Lib.hid hr1
  clear hb1 hr1
  go_wp2_with fail
  refine (small_any 4 _).mono ?_
  rintro e w2 ⟨x2, c2, rfl, hr2, hb2⟩
  have HB2 := Lib.hid (HB1.out.trans (hb2.mono HB1.out.size))
  have HR2 := Lib.hid (HR1.out.below hb2)
  have HS2 := Lib.hid hr2
  have hz2 := HB2.out.size
  clear hb2 hr2 HB1 HR1
  have HF2 := Lib.hid (FnRow.lit2 w2 ⟨1, 1, load0⟩ ⟨4, 4, load0⟩ x1 c1 x2 c2 29 HR2.out HS2.out)
  have HCK := check_any (some ⟨w2.heap.size, 0, none⟩) 2 img1 _ ok1 HF2.out (HH.out.below (HB2.out.alloc hz2 _))
  rw [check1] at HCK
  have HCK := Lib.hid HCK
  go_wp2_with fail
  refine HCK.out.mono ?_
  rintro e w3 ⟨rfl, hb3⟩
  have HB3 := Lib.hid (show Below w.heap.size w w3 from (HB2.out.alloc hz2 _).trans (hb3.mono (by simp; omega)))
  have hz3 := HB3.out.size
  clear hb3 HCK HF2 HB2 HR2 HS2 hz2
  simp only
  go_wp2_with fail
  refine (small_any 1 _).mono ?_
  rintro e w4 ⟨x4, c4, rfl, hr4, hb4⟩
  have t2a : w4.cell? ⟨w3.heap.size, 0, none⟩ = some (.int .i64 0) := (hb4.cell (p := ⟨w3.heap.size, 0, none⟩) (by simp)).trans (by simp)
  have t2b : w4.cell? ⟨w3.heap.size, 1, none⟩ = some (.int .i64 0) := (hb4.cell (p := ⟨w3.heap.size, 1, none⟩) (by simp)).trans (by simp)
  have HB4 := Lib.hid (show Below w.heap.size w w4 from (HB3.out.alloc hz3 _).trans (hb4.mono (by simp; omega)))
  have HR4 := Lib.hid hr4
  have hz4 := HB4.out.size
  clear hb4 hr4 HB3 hz3
  go_wp2_with fail
  refine (of_none 16 _).mono ?_
  rintro e w5 ⟨rfl, hb5⟩
  have u2a := (hb5.cell (p := ⟨w3.heap.size, 0, none⟩) (block_lt_of_cell t2a)).trans t2a
  have u2b := (hb5.cell (p := ⟨w3.heap.size, 1, none⟩) (block_lt_of_cell t2b)).trans t2b
  have HB5 := Lib.hid (HB4.out.trans (hb5.mono HB4.out.size))
  have HR5 := Lib.hid (HR4.out.below hb5)
  have hz5 := HB5.out.size
  clear hb5 HB4 HR4 t2a t2b hz4
  go_wp2_with fail
  refine (make_any 4 4 (some ⟨w5.heap.size, 0, none⟩) 1 [(16, 0)] _ (by simp) (InsRow.lit w5 [(16, 0)] _ _ rfl) (fun h => by cases h)).mono ?_
  rintro e w6 ⟨x6, c6, rfl, ho6, hf6, hb6⟩
  have hl5 : w3.heap.size < w5.heap.size := block_lt_of_cell u2a
  have v2a := (hb6.cell (p := ⟨w3.heap.size, 0, none⟩) (by simp; omega)).trans ((World.cell?_alloc_lt _ _ _ hl5).trans u2a)
  have v2b := (hb6.cell (p := ⟨w3.heap.size, 1, none⟩) (by simp; omega)).trans ((World.cell?_alloc_lt _ _ _ hl5).trans u2b)
  have HB6 := Lib.hid (show Below w.heap.size w w6 from (HB5.out.alloc hz5 _).trans (hb6.mono (by simp; omega)))
  have HR6 := Lib.hid ((HR5.out.below ((Below.refl _ w5).alloc (Nat.le_refl _) (.cells #[.int .u8 16, .int .i64 0] 47))).below hb6)
  have HS6 := Lib.hid (InsRow.of_own ho6)
  have hz6 := HB6.out.size
  clear ho6 hf6 hb6 HB5 HR5 u2a u2b hz5 hl5
  have HF6 := Lib.hid (FnRow.lit2 w6 ⟨1, 1, load0⟩ ⟨4, 4, [(16, 0)]⟩ x4 c4 x6 c6 29 HR6.out HS6.out)
  have HCK := check_any (some ⟨w6.heap.size, 0, none⟩) 2 img2 _ ok2 HF6.out (HH.out.below (HB6.out.alloc hz6 _))
  rw [check2] at HCK
  have HCK := Lib.hid HCK
  simp only [List.length_cons, List.length_nil]
  go_wp2_with fail
  refine HCK.out.mono ?_
  rintro e w7 ⟨rfl, hb7⟩
  have hl6 : w3.heap.size < w6.heap.size := block_lt_of_cell v2a
  have y2a := (hb7.cell (p := ⟨w3.heap.size, 0, none⟩) (by simp; omega)).trans ((World.cell?_alloc_lt _ _ _ hl6).trans v2a)
  have y2b := (hb7.cell (p := ⟨w3.heap.size, 1, none⟩) (by simp; omega)).trans ((World.cell?_alloc_lt _ _ _ hl6).trans v2b)
  have HB7 := Lib.hid (show Below w.heap.size w w7 from (HB6.out.alloc hz6 _).trans (hb7.mono (by simp; omega)))
  have hz7 := HB7.out.size
  have hl7 : w3.heap.size < w7.heap.size := block_lt_of_cell y2a
  have HHA := Lib.hid (hostArgs_any 3 (w7.alloc (.cells #[.int .i64 1, .int .i64 0] 55)) (HH.out.below (HB7.out.alloc hz7 _)) (by decide) (by decide))
  rw [show hostA 3 = 3 from rfl] at HHA
  clear hb7 HCK HF6 HB6 HR6 HS6 v2a v2b hz6 hl6
  simp only
  go_wp2_with (first | (go_at_call 32; refine HHA.out.mono ?_; rintro e w' ⟨rfl, rfl⟩) | fail)
  go_ret
  exact ⟨rfl, HB7.out.alloc hz7 _⟩
end Go.Proofs.YtmonbjlkkhpinaaDoor
