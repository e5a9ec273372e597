/-
  Layer 3, its small calls: ops, their words, instructions, functions of instructions.
-/
import Derived.Test.YtmonbjlkkhpinaaDoorAppend
import Derived.Test.YtmonbjlkkhpinaaDoorWireOut
import Derived.Lib.Hide
import Derived.WalkSpells
namespace Go.Proofs.YtmonbjlkkhpinaaDoor
open Go.RowKit
set_option linter.unusedVariables false

/-- Has an op an argument? -/
def hasA (o : Nat) : Bool := o == 1 || o == 13 || o == 14 || o == 15 || o == 17 || o == 18 || o == 22
theorem hasA_yes {o : Nat} (h : hasA o = true) : o = 1 ∨ o = 13 ∨ o = 14 ∨ o = 15 ∨ o = 17 ∨ o = 18 ∨ o = 22 := by
  simp [hasA] at h; omega
theorem hasA_no {o : Nat} (h : hasA o = false) : o ≠ 1 ∧ o ≠ 13 ∧ o ≠ 14 ∧ o ≠ 15 ∧ o ≠ 17 ∧ o ≠ 18 ∧ o ≠ 22 := by
  simp [hasA] at h; omega
theorem hasArg_any (o : Nat) (w : World) : Calls Tryd.prog 22 #[.int .u8 o] w fun e w' => e = .returned (.bool (hasA o)) ∧ w = w' := by
  cases hA : hasA o
  · obtain ⟨n1, n2, n3, n4, n5, n6, n7⟩ := hasA_no hA
    have b1 : ((o : Int) == 1) = false := by simp; omega
    have b2 : ((o : Int) == 13) = false := by simp; omega
    have b3 : ((o : Int) == 14) = false := by simp; omega
    have b4 : ((o : Int) == 15) = false := by simp; omega
    have b5 : ((o : Int) == 17) = false := by simp; omega
    have b6 : ((o : Int) == 18) = false := by simp; omega
    have b7 : ((o : Int) == 22) = false := by simp; omega
    clear n1 n2 n3 n4 n5 n6 n7 hA
    go_enter Tryd.func22, Tryd.ntmps22
    go_wp2
    go_ret
    exact ⟨rfl, rfl⟩
  · have h := hasA_yes hA
    clear hA
    rcases h with rfl | rfl | rfl | rfl | rfl | rfl | rfl
    all_goals
      go_enter Tryd.func22, Tryd.ntmps22
      go_wp2
      go_ret
      exact ⟨rfl, rfl⟩
theorem refHasArg_any (o : Nat) (w : World) : Calls Tryd.prog 23 #[.int .i64 o] w fun e w' => e = .returned (.bool (hasA o)) ∧ w = w' := by
  cases hA : hasA o
  · obtain ⟨n1, n2, n3, n4, n5, n6, n7⟩ := hasA_no hA
    have b1 : ((o : Int) == 1) = false := by simp; omega
    have b2 : ((o : Int) == 13) = false := by simp; omega
    have b3 : ((o : Int) == 14) = false := by simp; omega
    have b4 : ((o : Int) == 15) = false := by simp; omega
    have b5 : ((o : Int) == 17) = false := by simp; omega
    have b6 : ((o : Int) == 18) = false := by simp; omega
    have b7 : ((o : Int) == 22) = false := by simp; omega
    clear n1 n2 n3 n4 n5 n6 n7 hA
    go_enter Tryd.func23, Tryd.ntmps23
    go_wp2
    go_ret
    exact ⟨rfl, rfl⟩
  · have h := hasA_yes hA
    clear hA
    rcases h with rfl | rfl | rfl | rfl | rfl | rfl | rfl
    all_goals
      go_enter Tryd.func23, Tryd.ntmps23
      go_wp2
      go_ret
      exact ⟨rfl, rfl⟩
/-- The words, by their ops' numbers. -/
def opWords : List (List UInt8) := [[], [112, 117, 115, 104], [112, 111, 112], [100, 117, 112], [115, 119, 97, 112], [97, 100, 100], [115, 117, 98], [109, 117, 108], [100, 105, 118], [109, 111, 100], [101, 113], [108, 101, 115, 115], [110, 111, 116], [106, 117, 109, 112], [98, 114, 97, 110, 99, 104], [99, 97, 108, 108], [114, 101, 116], [108, 111, 97, 100], [115, 116, 111, 114, 101], [103, 101, 116], [112, 117, 116], [114, 97, 110, 100], [104, 111, 115, 116]]
def opWord (o : Nat) : List UInt8 := if 1 ≤ o ∧ o ≤ 22 then opWords.getD o [] else [63]
/-- The variable that holds the words is as it was laid. -/
def NamesAt (w : World) : Prop := ∀ o, o ≤ 22 → w.cell? ⟨0, o, none⟩ = some (.string (bs (opWords.getD o [])))
theorem NamesAt.below {w w' : World} (h : NamesAt w) (hb : Below w.heap.size w w') : NamesAt w' :=
  fun o ho => (hb.cell (p := ⟨0, o, none⟩) (block_lt_of_cell (h o ho))).trans (h o ho)
theorem name_any (o : Nat) (w : World) (hN : NamesAt w) : Calls Tryd.prog 21 #[.int .u8 o] w fun e w' => e = .returned (.string (bs (opWord o))) ∧ w = w' := by
  by_cases h0 : o = 0
  · subst h0
    go_enter Tryd.func21, Tryd.ntmps21
    go_wp2
    go_ret
    exact ⟨rfl, rfl⟩
  · by_cases h1 : 22 < o
    · have HW := Lib.hid (show opWord o = [63] from if_neg (by omega))
      go_enter Tryd.func21, Tryd.ntmps21
      go_wp2
      go_ret
      exact ⟨by rw [HW.out]; rfl, rfl⟩
    · have HW := Lib.hid (show opWord o = opWords.getD o [] from if_pos (by omega))
      have hc := hN o (by omega)
      have h2 : 1 ≤ o := by omega
      have h3 : o ≤ 22 := by omega
      clear hN
      generalize opWords.getD o [] = wd at HW hc
      go_enter Tryd.func21, Tryd.ntmps21
      go_wp2
      go_ret
      exact ⟨by rw [HW.out]; rfl, rfl⟩
/-- What Of makes of an op and a list. -/
def ofArg (o : Nat) (ns : List Int) : Int := if hasA o then ns.headD 0 else 0
theorem codeOf_any (o : Nat) (a : Option Addr) (cap : Nat) (ns : List Int) (w : World) (hn : ns.length ≤ 1000) (hr : IntRow .i64 w a ns) :
    Calls Tryd.prog 24 #[.int .u8 o, .slice a ns.length cap] w fun e w' => e = .returned (.agg #[.int .u8 o, .int .i64 (ofArg o ns)]) ∧ Below w.heap.size w w' := by
  have HA := hasArg_any o
  cases hA : hasA o
  · have HO := Lib.hid (show ofArg o ns = 0 by simp [ofArg, hA])
    rw [hA] at HA
    have HC := Lib.hid HA
    clear HA hA
    go_enter Tryd.func24, Tryd.ntmps24
    go_wp2_with (go_at_call 22; refine (HC.out _).mono ?_; rintro e w' ⟨rfl, rfl⟩)
    exact bodyPost_ret (v := .agg #[.int .u8 o, .int .i64 0]) (by simp [results, Tryd.results24, go_sem]) rfl ⟨by rw [HO.out], (Below.refl _ _).alloc (Nat.le_refl _) _⟩
  · rw [hA] at HA
    have HC := Lib.hid HA
    clear HA
    cases ns with
    | nil =>
      have HO := Lib.hid (show ofArg o [] = 0 by simp [ofArg, hA])
      clear hA
      go_enter Tryd.func24, Tryd.ntmps24
      go_wp2_with (go_at_call 22; refine (HC.out _).mono ?_; rintro e w' ⟨rfl, rfl⟩)
      exact bodyPost_ret (v := .agg #[.int .u8 o, .int .i64 0]) (by simp [results, Tryd.results24, go_sem]) rfl ⟨by rw [HO.out], (Below.refl _ _).alloc (Nat.le_refl _) _⟩
    | cons n ns =>
      have HO := Lib.hid (show ofArg o (n :: ns) = n by simp [ofArg, hA])
      obtain ⟨b, off, rfl, hcell⟩ := hr (by simp)
      have hc : w.cell? ⟨b, off, none⟩ = some (.int .i64 n) := hcell 0 (Nat.succ_pos _)
      have hb : b < w.heap.size := block_lt_of_cell hc
      have hl : 0 < (n :: ns).length := by simp
      clear hA hcell hr
      generalize (n :: ns).length = len at hn hl
      go_enter Tryd.func24, Tryd.ntmps24
      go_wp2_with (go_at_call 22; refine (HC.out _).mono ?_; rintro e w' ⟨rfl, rfl⟩)
      exact bodyPost_ret (v := .agg #[.int .u8 o, .int .i64 n]) (by simp [results, Tryd.results24, go_sem]) rfl ⟨by rw [HO.out], (Below.refl _ _).alloc (Nat.le_refl _) _⟩
end Go.Proofs.YtmonbjlkkhpinaaDoor
