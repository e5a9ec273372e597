/-
  Layer 17: the pace of a turn; what the law asks first.
-/
import Derived.Test.YtlhcihjplolgiaaPace6
import Derived.Deep.RegionHeld3
namespace Go.Proofs.Ytlhcihjplolgiaa
open Go.RowKit
set_option linter.unusedVariables false

theorem first_of (p : Nat → Bool) (n : Nat) : ∃ m, m ≤ n ∧ (∀ k, k < m → p k = false) ∧ (m < n → p m = true) := by
  induction n with
  | zero => exact ⟨0, by omega, fun k h => by omega, fun h => by omega⟩
  | succ n ih =>
    obtain ⟨m, h1, h2, h3⟩ := ih
    by_cases e : m < n
    · exact ⟨m, by omega, h2, fun _ => h3 e⟩
    · obtain rfl : m = n := by omega
      cases hp : p m with
      | true => exact ⟨m, by omega, h2, fun _ => hp⟩
      | false => exact ⟨m + 1, by omega, fun k hk => by
          by_cases e2 : k = m
          · subst e2; exact hp
          · exact h2 k (by omega), fun h => by omega⟩
theorem gtK_mono {l : List Sp} (hr : Rise l) (turn : Int) : ∀ i j, i ≤ j → j < l.length → gtK l turn i = true → gtK l turn j = true := fun i j hij hj hi => by
  have e : ∀ k (hk : k < l.length), gtK l turn k = decide (turn < l[k].f) := fun k hk => by unfold gtK; rw [List.getD, List.getElem?_eq_getElem hk]; rfl
  rw [e i (by omega)] at hi
  rw [e j hj]
  by_cases hq : i = j
  · subst hq; exact hi
  · have := hr i j (by omega) hj (by omega)
    simp at hi ⊢; omega
theorem isPlace_ex {l : List Sp} (h0 : 0 < l.length) (hr : Rise l) (turn : Int) : ∃ k, IsPlace l turn k := by
  obtain ⟨m, h1, h2, h3⟩ := first_of (gtK l turn) l.length
  exact ⟨m - 1, place_of h0 h1 h2 fun k hk hlt => gtK_mono hr turn m k hk hlt (h3 (by omega))⟩
theorem isPlace_one {l : List Sp} {turn : Int} {k k' : Nat} (h : IsPlace l turn k) (h' : IsPlace l turn k') : k = k' := by
  rcases Nat.lt_trichotomy k k' with e | e | e
  · have a := h.2.1 k' h'.1 e
    have b := h'.2.2 k' h'.1 (Nat.le_refl _) (by omega)
    omega
  · exact e
  · have a := h'.2.1 k h.1 e
    have b := h.2.2 k h.1 (Nat.le_refl _) (by omega)
    omega
theorem place17_at (b : Nat) (turn : Int) (a : Option Addr) (c : Nat) (l : List Sp) (k : Nat) (hk : IsPlace l turn k) (hr : Rise l) (w : World) (h : PlanAt w b a c l) : Calls Try.prog 86 #[.pointer (some ⟨b, 0, none⟩), .int .i64 turn] w fun r w' => r = .returned (.int .i64 (k : Int)) ∧ Below w.heap.size w w' :=
  (place17_any b turn a c l w h hr).mono fun r w' ⟨k', h1, h2, h3⟩ => ⟨by rw [h1, isPlace_one h2 hk], h3⟩
theorem keep3p {w w' : World} (hb : Below w.heap.size w w') {p q r : Addr} {u v x : Value} (h : w.cell? p = some u ∧ w.cell? q = some v ∧ w.cell? r = some x) : w'.cell? p = some u ∧ w'.cell? q = some v ∧ w'.cell? r = some x :=
  ⟨(hb.cell (block_lt_of_cell h.1)).trans h.1, (hb.cell (block_lt_of_cell h.2.1)).trans h.2.1, (hb.cell (block_lt_of_cell h.2.2)).trans h.2.2⟩
theorem addr17_ne {b o X j : Nat} (h : b ≠ X) : (⟨b, o, none⟩ : Addr) ≠ ⟨X, j, none⟩ := fun e => h (congrArg Addr.block e)
theorem keep3s {w : World} {p q r a : Addr} {u v x y : Value} (h : w.cell? p = some u ∧ w.cell? q = some v ∧ w.cell? r = some x) (hp : p ≠ a) (hq : q ≠ a) (hr : r ≠ a) : (w.setCell a y).cell? p = some u ∧ (w.setCell a y).cell? q = some v ∧ (w.setCell a y).cell? r = some x :=
  ⟨(World.cell?_setCell_other _ _ _ _ (Ne.symm hp)).trans h.1, (World.cell?_setCell_other _ _ _ _ (Ne.symm hq)).trans h.2.1, (World.cell?_setCell_other _ _ _ _ (Ne.symm hr)).trans h.2.2⟩
set_option maxRecDepth 100000 in
set_option maxHeartbeats 1000000 in
theorem at17_any (b : Nat) (turn : Int) (a : Option Addr) (c : Nat) (l : List Sp) (k : Nat) (hk : IsPlace l turn k) (hr : Rise l) (w : World) (h : PlanAt w b a c l) : Calls Try.prog 59 #[.pointer (some ⟨b, 0, none⟩), .int .i64 turn] w fun r w' => r = .returned (.agg #[.int .i64 (l[k]'hk.1).t, .int .i64 (l[k]'hk.1).d]) ∧ Below w.heap.size w w' := by
  have HPL := Lib.hid (fun W hW => place17_at b turn a c l k hk hr W hW)
  have hA : Below w.heap.size w (w.alloc (.cells #[.int .i64 0, .int .i64 0] 82)) := bel_alloc (Below.refl _ _) _
  have h' := h.keep hA
  have hfew := h.few
  have hkl := hk.1
  obtain ⟨g, rfl, hg, -, d1, d2⟩ := h'.at hk.1
  have c0 := h'.c0
  have hbl := h'.lt
  have hb0 := h.lt
  have hg0 : g < w.heap.size := h.row.lt _ rfl
  have r0 : (w.alloc (.cells #[.int .i64 0, .int .i64 0] 82)).cell? ⟨w.heap.size, 0, none⟩ = some (.int .i64 0) := new_cell rfl rfl
  have r1 : (w.alloc (.cells #[.int .i64 0, .int .i64 0] 82)).cell? ⟨w.heap.size, 1, none⟩ = some (.int .i64 0) := new_cell rfl rfl
  have f0 : ∀ j, (w.alloc (.cells #[.int .i64 0, .int .i64 0] 82)).frozen? ⟨w.heap.size, j, none⟩ = false := fun j => frozen_new _ _ _ _
  have hwl : w.heap.size < (w.alloc (.cells #[.int .i64 0, .int .i64 0] 82)).heap.size := by simp
  generalize (l[k]'hk.1).t = vt at d1 ⊢
  generalize (l[k]'hk.1).d = vd at d2 ⊢
  have HA := Lib.hid hA
  have HP := Lib.hid h'
  have hi0 : (0 : Int) ≤ (k : Int) := by omega
  have hi1 : (k : Int) < (l.length : Int) := by omega
  have hi2 : (l.length : Int) ≤ 1000 := by omega
  clear h h' hA hk hr
  go_enter Try.func59, Try.ntmps59
  go_wp2
  generalize w.alloc (.cells #[.int .i64 0, .int .i64 0] 82) = W at HA HP c0 d1 d2 r0 r1 f0 hbl hg hwl ⊢
  go_region_held3 (fun w' => w'.cell? ⟨b, 0, none⟩ = some (.slice (some ⟨g, 0, none⟩) l.length c) ∧ w'.cell? ⟨g, k * 3 + 1, none⟩ = some (.int .i64 vt) ∧ w'.cell? ⟨g, k * 3 + 2, none⟩ = some (.int .i64 vd))
    (first | (refine keep3p hbK ?_; assumption) | exact ⟨c0, d1, d2⟩ | (refine keep3s ?_ (addr17_ne (by omega)) (addr17_ne (by omega)) (addr17_ne (by omega)); refine keep3s ?_ (addr17_ne (by omega)) (addr17_ne (by omega)) (addr17_ne (by omega)); assumption) | (refine keep3s ?_ (addr17_ne (by omega)) (addr17_ne (by omega)) (addr17_ne (by omega)); assumption))
    ((go_at_call 86; refine (HPL.out _ (HP.out.keep (Below.refl _ _).drew)).mono ?_; rintro r wK ⟨rfl, hbK⟩; have HBK := Lib.hid (show Below w.heap.size w wK from HA.out.trans (((Below.refl _ _).drew.trans hbK).mono HA.out.size)); have q0 := (hbK.cell (p := ⟨w.heap.size, 0, none⟩) hwl).trans r0; have q1 := (hbK.cell (p := ⟨w.heap.size, 1, none⟩) hwl).trans r1; have qf := fun j => (hbK.frozen (p := ⟨w.heap.size, j, none⟩) hwl).trans (f0 j)))
  all_goals
    go_wp2
    exact bodyPost_ret (v := .agg #[.int .i64 vt, .int .i64 vd]) (by simp [results, Try.results59, go_sem, q0, q1]) rfl ⟨rfl, by repeat (first | exact HBK.out | refine Below.setCell ?_ (by simp) _ | refine bel17_drew ?_)⟩
end Go.Proofs.Ytlhcihjplolgiaa
