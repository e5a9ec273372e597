/-
  Layer 17 as plain mathematics: what is forgotten of a plan is asked no more.
-/
import Derived.Test.YtlhcihjplolgiaaPace11
namespace Go.Proofs.Ytlhcihjplolgiaa
set_option linter.unusedVariables false

theorem rise_one (x : Sp) : Rise [x] := fun i j hi hj h => by simp at hi hj; omega
theorem rise_drop {l : List Sp} (h : Rise l) (n : Nat) : Rise (l.drop n) := fun i j hi hj hij => by
  simp only [List.getElem_drop]
  exact h _ _ _ _ (by omega)
theorem rise_le {l : List Sp} (h : Rise l) {i j : Nat} (hj : j < l.length) (hij : i ≤ j) : (l[i]'(by omega)).f ≤ l[j].f := by
  by_cases e : i = j
  · subst e; exact Int.le_refl _
  · have := h i j (by omega) hj (by omega); omega
theorem rise_snoc {l : List Sp} (h : Rise l) (h0 : 0 < l.length) (x : Sp) (hx : lastF l < x.f) : Rise (l ++ [x]) := fun i j hi hj hij => by
  rw [lastF_eq h0] at hx
  have hl : (l ++ [x]).length = l.length + 1 := by simp
  rw [List.getElem_append_left (show i < l.length by omega)]
  by_cases e : j < l.length
  · rw [List.getElem_append_left e]; exact h i j _ _ hij
  · rw [List.getElem_append_right (by omega)]
    have := rise_le h (i := i) (j := l.length - 1) (by omega) (by omega)
    simp; omega
theorem lastF_snoc (l : List Sp) (x : Sp) : lastF (l ++ [x]) = x.f := by
  rw [lastF_eq (by simp)]; simp
theorem lastF_drop {l : List Sp} {n : Nat} (hn : n < l.length) : lastF (l.drop n) = lastF l := by
  rw [lastF_eq (by simp; omega), lastF_eq (by omega)]
  simp only [List.getElem_drop, List.length_drop]
  congr 2; omega
/-- What is forgotten: the rest of all, from q on; of turns from since on nothing that matters went. -/
def Rest17 (A L : List Sp) (since : Int) : Prop := ∃ q, q < A.length ∧ L = A.drop q ∧ (q = 0 ∨ ∀ h : 0 < L.length, L[0].f ≤ since)
theorem rest_place {A L : List Sp} {since turn : Int} {k : Nat} (hr : Rise A) (h : Rest17 A L since) (hs : since ≤ turn) (hk : IsPlace L turn k) : ∃ k', ∃ hk' : IsPlace A turn k', A[k']'hk'.1 = L[k]'hk.1 := by
  obtain ⟨q, hq, rfl, hc⟩ := h
  have hkl := hk.1
  simp only [List.length_drop] at hkl
  refine ⟨q + k, ⟨by omega, fun j hj hlt => ?_, fun j hj hle h0 => ?_⟩, by simp⟩
  · have := hk.2.1 (j - q) (by simp; omega) (by omega)
    simp only [List.getElem_drop] at this
    have e : q + (j - q) = j := by omega
    simp only [e] at this
    exact this
  · by_cases hk0 : 0 < k
    · have h1 := hk.2.2 k hk.1 (Nat.le_refl _) hk0
      simp only [List.getElem_drop] at h1
      have h2 := rise_le hr (i := j) (j := q + k) (by omega) hle
      omega
    · rcases hc with hc | hc
      · omega
      · have h1 := hc (by simp; omega)
        simp only [List.getElem_drop] at h1
        have h2 := rise_le hr (i := j) (j := q + 0) (by omega) (by omega)
        omega
theorem rest17_snoc {A L : List Sp} {since : Int} (h : Rest17 A L since) (x : Sp) : Rest17 (A ++ [x]) (L ++ [x]) since := by
  obtain ⟨q, hq, rfl, hc⟩ := h
  refine ⟨q, by simp; omega, by rw [List.drop_append_of_le_length (by omega)], hc.imp id fun hc h0 => ?_⟩
  rw [List.getElem_append_left (by simp; omega)]
  exact hc (by simp; omega)
theorem rest_drop {A L : List Sp} {since turn : Int} {k : Nat} (h : Rest17 A L since) (hk : IsPlace L turn k) : Rest17 A (L.drop k) (max since turn) := by
  obtain ⟨q, hq, rfl, hc⟩ := h
  have hkl := hk.1
  simp only [List.length_drop] at hkl
  refine ⟨q + k, by omega, by rw [List.drop_drop], ?_⟩
  by_cases hk0 : 0 < k
  · right
    intro h0
    have := hk.2.2 k hk.1 (Nat.le_refl _) hk0
    simp only [List.getElem_drop, Nat.add_zero] at this ⊢
    omega
  · obtain rfl : k = 0 := by omega
    rcases hc with hc | hc
    · left; omega
    · right
      intro h0
      have := hc (by simp; omega)
      simp only [List.getElem_drop, Nat.add_zero] at this ⊢
      omega
theorem rest_self (A : List Sp) (h : 0 < A.length) (s : Int) : Rest17 A A s := ⟨0, h, rfl, .inl rfl⟩
theorem rest_rise {A L : List Sp} {s : Int} (hr : Rise A) (h : Rest17 A L s) : Rise L := by obtain ⟨q, -, rfl, -⟩ := h; exact rise_drop hr q
theorem rest_last {A L : List Sp} {s : Int} (h : Rest17 A L s) : lastF L = lastF A := by obtain ⟨q, hq, rfl, -⟩ := h; exact lastF_drop hq
theorem rest_pos {A L : List Sp} {s : Int} (h : Rest17 A L s) : 0 < L.length ∧ L.length ≤ A.length := by obtain ⟨q, hq, rfl, -⟩ := h; simp; omega
end Go.Proofs.Ytlhcihjplolgiaa
