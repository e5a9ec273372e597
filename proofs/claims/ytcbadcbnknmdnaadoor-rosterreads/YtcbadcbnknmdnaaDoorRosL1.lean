/-
  Layer 18: the least number that nobody has.
-/
import Derived.Test.YtcbadcbnknmdnaaDoorRos9
import Derived.Shelf.Spec.TrailingZeros
import Derived.LaidMore
import Derived.ProofKit
import Derived.OpenShut
import Derived.Lib.LaidTab
namespace Go.Proofs.YtcbadcbnknmdnaaDoor
open Go.RowKit Go.Shelf
set_option linter.unusedVariables false

def dbT : List Int := Lib.deBruijn32tab.map Int.ofNat
/-- The library's table, as it is laid. -/
def DbAt (w : World) : Prop := ∀ o, o < 32 → w.cell? ⟨0, o, none⟩ = some (.int .u8 ((Lib.deBruijn32tab.getD o 0 : Nat) : Int))
theorem DbAt.below {w w' : World} (h : DbAt w) (hb : Below w.heap.size w w') : DbAt w' :=
  fun o ho => (hb.cell (p := ⟨0, o, none⟩) (block_lt_of_cell (h o ho))).trans (h o ho)
theorem tz32_core (x idx k : Nat) (w : World) (hx0 : ((x : Int) == 0) = false) (key : bits BinOp.and IntKind.u32 (x : Int) (-(x : Int) % 4294967296) * 125613361 % 4294967296 / 134217728 = (idx : Int)) (hi : idx < 32) (hk : k < 32) (hc : w.cell? ⟨0, idx, none⟩ = some (.int .u8 (k : Int))) : Calls Tryd.prog 50 #[.int .u32 (x : Int)] w fun r w' => r = .returned (.int .i64 (k : Int)) ∧ w' = w := by
  have hi0 : (0 : Int) ≤ (idx : Int) := by omega
  have hi1 : (idx : Int) < 32 := by omega
  have hbl := block_lt_of_cell hc
  simp only at hbl
  go_enter Tryd.func50, Tryd.ntmps50
  go_wp2_with (simp only [key])
  go_ret
  exact ⟨rfl, rfl⟩
theorem tz32_zero (w : World) : Calls Tryd.prog 50 #[.int .u32 0] w fun r w' => r = .returned (.int .i64 32) ∧ w' = w := by
  go_enter Tryd.func50, Tryd.ntmps50
  go_wp2
  go_ret
  exact ⟨rfl, rfl⟩
theorem tz32_any (x : Nat) (w : World) (hx : x < 4294967296) (hT : DbAt w) : Calls Tryd.prog 50 #[.int .u32 (x : Int)] w fun r w' => r = .returned (.int .i64 (Lib.ctz 32 x : Nat)) ∧ w' = w := by
  by_cases hx0 : x = 0
  · subst hx0
    exact tz32_zero w
  · obtain ⟨hlow, hk⟩ := Lib.lowest_bit 32 x hx0 hx
    obtain ⟨hi, htab⟩ := Lib.deBruijn32_at _ hk
    have hcell := hT _ hi
    rw [htab] at hcell
    exact tz32_core x _ _ w (by simp; omega) (tz32_key x _ hx hx0 hlow) hi hk hcell
theorem xor_all (p : Nat) (hp : p < 4294967296) : bits .xor .u32 4294967295 (p : Int) = ((4294967295 - p : Nat) : Int) := by
  rw [show (4294967295 : Int) = ((4294967295 : Nat) : Int) from rfl, u32_xor_nat _ _ (by decide) hp, xor_ones p hp]
set_option maxRecDepth 100000 in
theorem rfree_any (p : Nat) (e : Int) (w : World) (hp : p < 4294967296) (hT : DbAt w) : Calls Tryd.prog 45 #[rosV p e] w fun r w' => r = .returned (.tuple #[.int .i64 (freeP p : Nat), .bool (decide (freeP p < 32))]) ∧ Below w.heap.size w w' := by
  have HA := Lib.hid (show Below w.heap.size w (w.alloc (.cells #[.int .u32 (p : Int), .int .i64 e] 27)) from bel_alloc (Below.refl _ _) _)
  have HTZ := Lib.hid (tz32_any (4294967295 - p) (w.alloc (.cells #[.int .u32 (p : Int), .int .i64 e] 27)) (by omega) (hT.below HA.out))
  have hx := xor_all p hp
  have hx2 : bits .xor .u32 IntKind.u32.max (p : Int) = ((4294967295 - p : Nat) : Int) := hx
  have HF : Hid (Lib.ctz 32 (4294967295 - p) = freeP p) := Lib.hid rfl
  have hf : inR ((freeP p : Nat) : Int) = decide (freeP p < 32) := by unfold inR; simp; omega
  have HPL := Lib.hid (fun W => player_any ((freeP p : Nat) : Int) W)
  rw [HF.out] at HTZ
  rw [hf] at HPL
  generalize freeP p = f at HTZ HPL ⊢
  generalize decide (f < 32) = b at HPL ⊢
  have hn1 : (-(p : Int) - 1) % 4294967296 = ((4294967295 - p : Nat) : Int) := by omega
  have hn2 : IntKind.u32.wrap (-(p : Int) - 1) = ((4294967295 - p : Nat) : Int) := by rw [wrap_u32']; omega
  have hn3 : (4294967295 - (p : Int)) = ((4294967295 - p : Nat) : Int) := by omega
  generalize ((4294967295 - p : Nat) : Int) = y at *
  unfold rosV
  go_enter Tryd.func45, Tryd.ntmps45
  go_wp2_with fail
  refine HTZ.out.mono ?_
  rintro r w1 ⟨rfl, rfl⟩
  go_wp2_with fail
  refine (HPL.out _).mono ?_
  rintro r w1 ⟨rfl, rfl⟩
  go_wp2
  go_ret2
  exact ⟨rfl, HA.out⟩
theorem db_laid {W : World} (h : laidMetH Tryd.prog [("math/bits.deBruijn32tab", Rows.laid_math_bits_deBruijn32tab)] W) : DbAt W := by
  have gN : Tryd.prog.globalNamed "math/bits.deBruijn32tab" = some 0 := by kernel_rfl
  have tN : (Tryd.prog.globals[0]?).map (·.type) = some 99 := by kernel_rfl
  rw [MakeChecks.laidMetH_plain _ _ _ (by kernel_rfl)] at h
  obtain ⟨ps, ⟨g0, t0, cs0, f0, p0, q0, hg0, ht0, hv0, hd0, _⟩, _, _⟩ := h
  obtain rfl := Option.some.inj (gN.symm.trans hg0)
  obtain rfl := Option.some.inj (tN.symm.trans ht0)
  have hcs := Lib.cells_of_tab (zs := dbT) Tryd.underlying99 Tryd.underlying5 (by kernel_rfl) (by kernel_rfl) hd0
  intro o ho
  rw [World.var?_cell hg0 hv0 o]
  have : cs0.toList[o]? = some (.int .u8 ((Lib.deBruijn32tab.getD o 0 : Nat) : Int)) := by
    rw [hcs, List.getElem?_map]
    unfold dbT
    rw [List.getElem?_map, List.getD_eq_getElem?_getD, List.getElem?_eq_getElem (by simpa [Lib.deBruijn32tab] using ho)]
    rfl
  simpa using this
end Go.Proofs.YtcbadcbnknmdnaaDoor
