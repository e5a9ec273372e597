/-
  Layer 17: the document's own plan.
-/
import Derived.Test.YtlhcihjplolgiaaPace11
import Derived.Test.YtlhcihjplolgiaaRWin2
namespace Go.Proofs.Ytlhcihjplolgiaa
open Go.RowKit
set_option linter.unusedVariables false

theorem frTy : VTy 96 3 (.agg #[.int .i64 0, .int .i64 0, .int .i64 0]) 24 := ⟨by kernel_rfl, rfl, by decide, by decide⟩
def FRow (w : World) (a : Option Addr) (l : List Sp) : Prop := VRow 3 w a (l.map spC)
theorem FRow.touch {S : Nat → Prop} {w w' : World} {a : Option Addr} {l : List Sp} (h : FRow w a l) (ht : Touch S w w') (hs : ∀ x, a = some x → ¬ S x.block) : FRow w' a l := VRow.touch (by decide) (sp_wide l) h ht hs
theorem FRow.below {w w' : World} {a : Option Addr} {l : List Sp} (h : FRow w a l) (hb : Below w.heap.size w w') : FRow w' a l := h.touch (touch_of_below (S := fun _ => False) hb) (fun _ _ => id)
theorem FRow.drew {w : World} {a : Option Addr} {l : List Sp} (h : FRow w a l) : FRow w.drew a l := h
theorem FRow.at {w : World} {a : Option Addr} {l : List Sp} (h : FRow w a l) {k : Nat} (hk : k < l.length) : ∃ b off, a = some ⟨b, off, none⟩ ∧ b < w.heap.size ∧ w.cell? ⟨b, off + k * 3, none⟩ = some (.int .i64 l[k].f) ∧ w.cell? ⟨b, off + k * 3 + 1, none⟩ = some (.int .i64 l[k].t) ∧ w.cell? ⟨b, off + k * 3 + 2, none⟩ = some (.int .i64 l[k].d) := by
  have hlen : (l.map spC).length = l.length := by simp
  obtain ⟨b, off, e1, hc⟩ := h (by rw [hlen]; omega)
  have hx : ∀ j, j < 3 → w.cell? ⟨b, off + k * 3 + j, none⟩ = (spC l[k])[j]? := fun j hj => by
    rw [hc k (by rw [hlen]; exact hk) j hj]; simp
  have h0 : w.cell? ⟨b, off + k * 3, none⟩ = some (.int .i64 l[k].f) := hx 0 (by decide)
  exact ⟨b, off, e1, block_lt_of_cell h0, h0, hx 1 (by decide), hx 2 (by decide)⟩
theorem FRow.drop {w : World} {b off : Nat} {l : List Sp} (h : FRow w (some ⟨b, off, none⟩) l) (n : Nat) (hn : n < l.length) : FRow w (some ⟨b, off + n * 3, none⟩) (l.drop n) := by
  intro h0
  obtain ⟨b', off', e, hc⟩ := h (by simp; omega)
  cases e
  refine ⟨b, off + n * 3, rfl, fun i hi j hj => ?_⟩
  have hi' : n + i < (l.map spC).length := by simp at hi ⊢; omega
  have := hc (n + i) hi' j hj
  rw [show off + n * 3 + i * 3 + j = off + (n + i) * 3 + j by omega, this]
  simp
def ToPost (P : Option Addr → Nat → World → Prop) (k : Nat) (q : Int) (r : Ending) (w' : World) : Prop := ∃ a' c', r = .returned (.tuple #[.slice a' k c', .int .i64 q]) ∧ P a' c' w'
def RAt17 (w : World) (t d : Int) (r : Ending) (w' : World) : Prop := r = .returned (.agg #[.int .i64 t, .int .i64 d]) ∧ Below w.heap.size w w'
set_option maxRecDepth 100000 in
set_option maxHeartbeats 1000000 in
theorem refAt17_any (a : Option Addr) (c : Nat) (l : List Sp) (turn : Int) (k : Nat) (hk : IsPlace l turn k) (w : World) (h : FRow w a l) (hl : l.length ≤ 1000) : Calls Try.prog 60 #[.slice a l.length c, .int .i64 turn] w fun r w' => r = .returned (.agg #[.int .i64 (l[k]'hk.1).t, .int .i64 (l[k]'hk.1).d]) ∧ Below w.heap.size w w' := by
  have hkl := hk.1
  have HK := Lib.hid hk
  have hA : Below w.heap.size w (w.alloc (.cells #[.int .i64 0, .int .i64 0] 86)) := bel_alloc (Below.refl _ _) _
  have HA := Lib.hid hA
  have HR := Lib.hid (h.below hA)
  have r0 : (w.alloc (.cells #[.int .i64 0, .int .i64 0] 86)).cell? ⟨w.heap.size, 0, none⟩ = some (.int .i64 0) := new_cell rfl rfl
  have r1 : (w.alloc (.cells #[.int .i64 0, .int .i64 0] 86)).cell? ⟨w.heap.size, 1, none⟩ = some (.int .i64 0) := new_cell rfl rfl
  have f0 : ∀ j, (w.alloc (.cells #[.int .i64 0, .int .i64 0] 86)).frozen? ⟨w.heap.size, j, none⟩ = false := fun j => frozen_new _ _ _ _
  have HF : Hid (∀ W, Below w.heap.size w W → RAt17 w l[k].t l[k].d (Ending.returned (.agg #[.int .i64 l[k].t, .int .i64 l[k].d])) W) := Lib.hid (fun W hb => ⟨rfl, hb⟩)
  change Calls Try.prog 60 #[.slice a l.length c, .int .i64 turn] w (RAt17 w l[k].t l[k].d)
  generalize RAt17 w l[k].t l[k].d = Post at HF ⊢
  have i3 : (l.length : Int) ≤ 1000 := by omega
  obtain ⟨m, hm⟩ : ∃ m, l.length = m + 1 := ⟨l.length - 1, by omega⟩
  have HM := Lib.hid hm
  have hm0 : (0 : Int) ≤ (m : Int) := by omega
  have hm1 : (m : Int) ≤ 1000 := by omega
  have hkm : k ≤ m := by omega
  rw [hm]
  clear h hA hk hm i3 hl
  go_enter Try.func60, Try.ntmps60
  go_upto_region 1 with (fail)
  generalize w.alloc (.cells #[.int .i64 0, .int .i64 0] 86) = W at HA HR r0 r1 f0 ⊢
  go_wp2
  go_loop [5] (fun v5 => ∃ j : Nat, k ≤ j ∧ j ≤ m ∧ v5 = .int .i64 (j : Int)) (fun v5 => (intOf v5).toNat)
  case atStart => exact ⟨m, by omega, by omega, by go_num⟩
  case round =>
    obtain ⟨j, hkj, hjm, rfl⟩ := hrel
    have j0 : (0 : Int) ≤ (j : Int) := by omega
    have j1 : (j : Int) ≤ (m : Int) := by omega
    have j2 : (j : Int) < (m : Int) + 1 := by omega
    by_cases hz : j = 0
    · obtain rfl : k = 0 := by omega
      subst hz
      obtain ⟨b, off, rfl, hb, d0, d1, d2⟩ := HR.out.at (k := 0) hkl
      simp only [Nat.zero_mul, Nat.add_zero] at d1 d2
      generalize l[0].t = vt at HF d1
      generalize l[0].d = vd at HF d2
      clear d0
      go_wp2
      exact bodyPost_ret (v := .agg #[.int .i64 vt, .int .i64 vd]) (by simp [results, Try.results60, go_sem, r0, r1]) rfl (HF.out _ (by repeat (first | exact HA.out | refine Below.setCell ?_ (by simp) _)))
    · have j3 : (0 : Int) < (j : Int) := by omega
      have hjl : j < l.length := by have := HM.out; omega
      obtain ⟨b, off, rfl, hb, d0, d1, d2⟩ := HR.out.at (k := j) hjl
      by_cases he : j = k
      · subst he
        have hle := HK.out.2.2 j hjl (Nat.le_refl _) (by omega)
        generalize l[j].f = vf at d0 hle
        generalize l[j].t = vt at HF d1
        generalize l[j].d = vd at HF d2
        go_wp2
        exact bodyPost_ret (v := .agg #[.int .i64 vt, .int .i64 vd]) (by simp [results, Try.results60, go_sem, r0, r1]) rfl (HF.out _ (by repeat (first | exact HA.out | refine Below.setCell ?_ (by simp) _)))
      · have hlt := HK.out.2.1 j hjl (by omega)
        generalize l[j].f = vf at d0 hlt
        clear d1 d2
        go_wp2
        go_round
        case rel => exact ⟨j - 1, by omega, by omega, by rw [show ((j - 1 : Nat) : Int) = (j : Int) - 1 by omega]⟩
        case measure => simp [intOf] <;> omega
def RForget (a : Option Addr) (l : List Sp) (k : Nat) (w : World) (r : Ending) (w' : World) : Prop := (∃ a' c', r = .returned (.tuple #[.slice a' (l.length - k) c', .int .i64 (k : Int)]) ∧ Hid (FRow w a' (l.drop k) ∧ l.length - k ≤ c' ∧ ∀ x', a' = some x' → ∃ x, a = some x ∧ x.block = x'.block)) ∧ w = w'
set_option maxRecDepth 100000 in
set_option maxHeartbeats 1000000 in
theorem refForget17_any (a : Option Addr) (c : Nat) (l : List Sp) (turn : Int) (k : Nat) (hk : IsPlace l turn k) (w : World) (h : FRow w a l) (hl : l.length ≤ 1000) (hc : l.length ≤ c) : Calls Try.prog 57 #[.slice a l.length c, .int .i64 turn] w (RForget a l k w) := by
  have hkl := hk.1
  have HK := Lib.hid hk
  have HR := Lib.hid h
  have i3 : (l.length : Int) ≤ 1000 := by omega
  have i4 : (l.length : Int) ≤ (c : Int) := by omega
  have k0 : (0 : Int) ≤ (k : Int) := by omega
  have k1 : (k : Int) < (l.length : Int) := by omega
  have k2 : (k : Int) ≤ (c : Int) := by omega
  have kc : ¬ k = c := by omega
  have kc2 : ¬ c = k := by omega
  obtain ⟨b, off, rfl, hcl⟩ := h (by simp; omega)
  have HF : Hid (RForget (some ⟨b, off, none⟩) l k w (.returned (.tuple #[.slice (some ⟨b, off + k * 3, none⟩) (l.length - k) (c - k), .int .i64 (k : Int)])) w) := Lib.hid ⟨⟨_, _, rfl, Lib.hid ⟨h.drop k hkl, by omega, fun x' hx => ⟨_, rfl, by cases hx; rfl⟩⟩⟩, rfl⟩
  generalize RForget (some ⟨b, off, none⟩) l k w = Post at HF ⊢
  clear h hk hl hc hcl
  go_enter Try.func57, Try.ntmps57
  go_wp2
  go_loop [6] (fun v6 => ∃ j : Nat, j ≤ k ∧ v6 = .int .i64 (j : Int)) (fun v6 => k - (intOf v6).toNat)
  case atStart => exact ⟨0, by omega, rfl⟩
  case round =>
    obtain ⟨j, hjk, rfl⟩ := hrel
    have j0 : (0 : Int) ≤ (j : Int) := by omega
    have j1 : (j : Int) ≤ (k : Int) := by omega
    by_cases hlt : j < k
    · have hj1 : j + 1 < l.length := by omega
      have hle := HK.out.2.2 (j + 1) hj1 (by omega) (by omega)
      obtain ⟨b', off', e, -, d0, -, -⟩ := HR.out.at hj1
      cases e
      generalize l[j + 1].f = vf at d0 hle
      have j2 : (j : Int) + 1 < (l.length : Int) := by omega
      go_wp2
      go_round
      case rel => exact ⟨j + 1, by omega, by go_num⟩
      case measure => simp [intOf] <;> omega
    · obtain rfl : j = k := by omega
      by_cases hj1 : j + 1 < l.length
      · have hgt := HK.out.2.1 (j + 1) hj1 (by omega)
        obtain ⟨b', off', e, -, d0, -, -⟩ := HR.out.at hj1
        cases e
        generalize l[j + 1].f = vf at d0 hgt
        have j2 : (j : Int) + 1 < (l.length : Int) := by omega
        go_wp2
        first | exact HF.out | (go_ret2; exact HF.out)
      · have j2 : (l.length : Int) ≤ (j : Int) + 1 := by omega
        go_wp2
        first | exact HF.out | (go_ret2; exact HF.out)
end Go.Proofs.Ytlhcihjplolgiaa
