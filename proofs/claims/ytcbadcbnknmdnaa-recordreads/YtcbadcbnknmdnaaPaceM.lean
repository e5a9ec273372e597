/-
  Layer 17 as plain mathematics: the last eight answers, what comes next of a pace, and where it comes to rest.
-/
import Derived.Lib.Hide
namespace Go.Proofs.Ytcbadcbnknmdnaa
set_option linter.unusedVariables false

/-- The last eight. -/
def last8 (l : List Int) : List Int := l.drop (l.length - 8)
def addS (L : List Int) (k : Int) : List Int := last8 (L ++ [max k 0])
def addsS (L ks : List Int) : List Int := ks.foldl addS L
def worstS (L : List Int) : Int := L.foldl max 0
def sumS (L : List Int) : Int := L.foldl (fun s x => s + min x 1048576) 0
def meanS (L : List Int) : Int := if L.length = 0 then 0 else sumS L / (L.length : Int)
def mayP (t d : Int) : Bool := decide (1 ≤ t) && decide (t ≤ 64) && decide (1 ≤ d) && decide (d ≤ 6)
def needS (L : List Int) (t : Int) : Int := (min (worstS L) 1048576 + t - 1) / t
/-- What comes next of a pace that may be, behind eight answers. -/
def stepP (L : List Int) (t d : Int) : Int × Int :=
  if d < needS L t ∧ d < 6 then (t, d + 1)
  else if d < needS L t ∧ t < 64 then (t + 1, d)
  else if needS L t < d ∧ 1 < d ∧ meanS L < t * (d - 1) then (t, d - 1)
  else (t, d)
def nextS (L : List Int) (t d : Int) : Int × Int := if L.length < 8 ∨ mayP t d = false then (t, d) else stepP L t d

theorem last8_len (l : List Int) : (last8 l).length ≤ 8 := by simp [last8]; omega
theorem last8_short (l : List Int) (h : l.length ≤ 8) : last8 l = l := by simp [last8, show l.length - 8 = 0 by omega]
theorem last8_app (A B : List Int) : last8 (last8 A ++ B) = last8 (A ++ B) := by
  unfold last8
  by_cases h : A.length ≤ 8
  · rw [show A.length - 8 = 0 by omega]; simp
  · rw [List.drop_append, List.drop_append, List.drop_drop]
    simp only [List.length_append, List.length_drop]
    congr 2 <;> omega
theorem addsS_eq (ks : List Int) : ∀ L, addsS (last8 L) ks = last8 (L ++ ks.map (max · 0)) := by
  induction ks with
  | nil => intro L; simp [addsS]
  | cons k ks ih =>
    intro L
    show addsS (addS (last8 L) k) ks = _
    rw [show addS (last8 L) k = last8 (L ++ [max k 0]) from last8_app _ _, ih]
    simp
theorem addsS_nil (ks : List Int) : addsS [] ks = last8 (ks.map (max · 0)) := by
  have := addsS_eq ks []
  simpa [last8] using this
theorem addsS_long (L ks : List Int) (h : 8 ≤ ks.length) : addsS (last8 L) ks = addsS [] ks := by
  rw [addsS_eq, addsS_nil]
  unfold last8
  rw [List.drop_append]
  simp only [List.length_append, List.length_map]
  rw [List.drop_of_length_le (by omega), List.nil_append]
  congr 1
  omega
theorem addsS_len (L ks : List Int) : (addsS (last8 L) ks).length = min (L.length + ks.length) 8 := by
  rw [addsS_eq]; simp [last8]; omega
theorem mx_le (a b : Int) : a ≤ max a b ∧ b ≤ max a b := by omega
theorem mx_or (a b : Int) : max a b = a ∨ max a b = b := by omega
theorem worst_ge (L : List Int) : ∀ a, a ≤ L.foldl max a := by
  induction L with
  | nil => intro a; exact Int.le_refl a
  | cons x L ih => intro a; exact Int.le_trans (mx_le a x).1 (ih _)
theorem worst_nn (L : List Int) : 0 ≤ worstS L := worst_ge L 0
theorem worst_bd (L : List Int) (B : Int) (h : ∀ x ∈ L, x ≤ B) : ∀ a, a ≤ B → L.foldl max a ≤ B := by
  induction L with
  | nil => intro a h; exact h
  | cons x L ih =>
    intro a ha
    refine ih (fun y hy => h y (by simp [hy])) _ ?_
    rcases mx_or a x with e | e <;> rw [e]
    · exact ha
    · exact h x (by simp)
theorem sum_bd (L : List Int) (h : ∀ x ∈ L, 0 ≤ x) : ∀ s : Int, s ≤ L.foldl (fun s x => s + min x 1048576) s ∧ L.foldl (fun s x => s + min x 1048576) s ≤ s + 1048576 * (L.length : Int) := by
  induction L with
  | nil => intro s; simp
  | cons x L ih =>
    intro s
    have hx := h x (by simp)
    have hm : 0 ≤ min x 1048576 ∧ min x 1048576 ≤ 1048576 := by omega
    have := ih (fun y hy => h y (by simp [hy])) (s + min x 1048576)
    simp only [List.foldl_cons, List.length_cons]
    omega
/-- The eight alike: the same worst, the same mean. -/
theorem worst_rep (t : Int) (h : 0 ≤ t) : worstS (List.replicate 8 t) = t := by
  have e : max t t = t := by omega
  have e0 : max 0 t = t := by omega
  simp only [worstS, List.replicate, List.foldl_cons, List.foldl_nil, e0, e]
theorem mean_rep (t : Int) (h : 0 ≤ t) (h2 : t ≤ 1048576) : meanS (List.replicate 8 t) = t := by
  have e : min t 1048576 = t := by omega
  simp only [meanS, sumS, List.replicate, List.foldl_cons, List.foldl_nil, e, List.length_cons, List.length_nil]
  rw [if_neg (by decide)]
  omega
theorem mayP_iff {t d : Int} : mayP t d = true ↔ (1 ≤ t ∧ t ≤ 64) ∧ 1 ≤ d ∧ d ≤ 6 := by simp [mayP]; omega
theorem step_may (L : List Int) (t d : Int) (h : mayP t d = true) : mayP (stepP L t d).1 (stepP L t d).2 = true ∧ 0 ≤ (stepP L t d).1 - t ∧ (stepP L t d).1 - t ≤ 1 ∧ -1 ≤ (stepP L t d).2 - d ∧ (stepP L t d).2 - d ≤ 1 ∧ ((stepP L t d).1 = t ∨ (stepP L t d).2 = d) := by
  rw [mayP_iff] at h ⊢
  unfold stepP
  split
  · simp; omega
  split
  · simp; omega
  split
  · simp; omega
  · simp; omega
theorem next_may (L : List Int) (t d : Int) (h : mayP t d = true) : mayP (nextS L t d).1 (nextS L t d).2 = true ∧ 0 ≤ (nextS L t d).1 - t ∧ (nextS L t d).1 - t ≤ 1 ∧ -1 ≤ (nextS L t d).2 - d ∧ (nextS L t d).2 - d ≤ 1 ∧ ((nextS L t d).1 = t ∨ (nextS L t d).2 = d) := by
  unfold nextS
  split
  · refine ⟨h, ?_⟩; simp
  · exact step_may L t d h
/-- Rounded up. -/
theorem need_le (w t d : Int) (ht : 1 ≤ t) (hw : 0 ≤ w) : (w + t - 1) / t ≤ d ↔ w ≤ t * d := by
  constructor
  · intro h
    have h1 : w + t - 1 < t * ((w + t - 1) / t + 1) := by
      have := Int.lt_mul_ediv_self_add (x := w + t - 1) (k := t) (by omega)
      rw [Int.mul_add]; omega
    have h2 : t * ((w + t - 1) / t + 1) ≤ t * (d + 1) := Int.mul_le_mul_of_nonneg_left (by omega) (by omega)
    simp only [Int.mul_add, Int.mul_one] at h1 h2
    omega
  · intro h
    have : (w + t - 1) / t < d + 1 := by
      apply Int.ediv_lt_of_lt_mul (by omega)
      rw [Int.add_mul, Int.mul_comm d t]; omega
    omega
def wait (k t d : Int) : Nat := if t * d < k then ((6 - d) + (64 - t) + 10).toNat else d.toNat
theorem wait_step (k t d : Int) (h : mayP t d = true) (h0 : 0 ≤ k) (h2 : k ≤ 1023) (hne : stepP (List.replicate 8 k) t d ≠ (t, d)) : wait k (stepP (List.replicate 8 k) t d).1 (stepP (List.replicate 8 k) t d).2 < wait k t d := by
  have hn : ∀ e : Int, needS (List.replicate 8 k) t ≤ e ↔ k ≤ t * e := fun e => by
    rw [mayP_iff] at h
    unfold needS
    rw [worst_rep k h0, show min k 1048576 = k by omega]
    exact need_le k t e (by omega) h0
  have hm := mean_rep k h0 (by omega)
  rw [mayP_iff] at h
  have hd := hn d
  have hd1 := hn (d - 1)
  unfold stepP at hne ⊢
  rw [hm] at hne ⊢
  generalize needS (List.replicate 8 k) t = N at *
  have hmul : t * (d - 1) = t * d - t := by rw [Int.mul_sub]; omega
  split at hne
  · rename_i hc
    rw [if_pos hc]
    have hlt : t * d < k := by
      have := mt hd.2
      omega
    simp only [wait, if_pos hlt]
    split <;> omega
  · rename_i hc
    rw [if_neg hc]
    split at hne
    · rename_i hc2
      rw [if_pos hc2]
      have hlt : t * d < k := by
        have := mt hd.2
        omega
      simp only [wait, if_pos hlt]
      split <;> omega
    · rename_i hc2
      rw [if_neg hc2]
      split at hne
      · rename_i hc3
        rw [if_pos hc3]
        have hge : ¬ t * d < k := by omega
        have hge2 : ¬ t * (d - 1) < k := by omega
        simp only [wait, if_neg hge, if_neg hge2]
        omega
      · exact absurd rfl hne
def stepsP (L : List Int) : Nat → Int → Int → Int × Int
  | 0, t, d => (t, d)
  | n + 1, t, d => stepP L (stepsP L n t d).1 (stepsP L n t d).2
theorem steps_may (L : List Int) (t d : Int) (h : mayP t d = true) (n : Nat) : mayP (stepsP L n t d).1 (stepsP L n t d).2 = true := by
  induction n with
  | zero => exact h
  | succ n ih => exact (step_may L _ _ ih).1
theorem steps_rest (k t d : Int) (h : mayP t d = true) (h0 : 0 ≤ k) (h2 : k ≤ 1023) (n : Nat) :
    stepP (List.replicate 8 k) (stepsP (List.replicate 8 k) n t d).1 (stepsP (List.replicate 8 k) n t d).2 = stepsP (List.replicate 8 k) n t d ∨ wait k (stepsP (List.replicate 8 k) n t d).1 (stepsP (List.replicate 8 k) n t d).2 + n ≤ wait k t d := by
  induction n with
  | zero => exact .inr (Nat.le_refl _)
  | succ n ih =>
    have hm := steps_may (List.replicate 8 k) t d h n
    rcases ih with e | e
    · left
      have e' : stepsP (List.replicate 8 k) (n + 1) t d = stepsP (List.replicate 8 k) n t d := e
      rw [e']; exact e
    · by_cases hs : stepP (List.replicate 8 k) (stepsP (List.replicate 8 k) n t d).1 (stepsP (List.replicate 8 k) n t d).2 = stepsP (List.replicate 8 k) n t d
      · left
        have e' : stepsP (List.replicate 8 k) (n + 1) t d = stepsP (List.replicate 8 k) n t d := hs
        rw [e']; exact hs
      · right
        have := wait_step k _ _ hm h0 h2 hs
        show wait k (stepP (List.replicate 8 k) _ _).1 (stepP (List.replicate 8 k) _ _).2 + (n + 1) ≤ _
        omega
theorem rest_200 (k t d : Int) (h : mayP t d = true) (h0 : 0 ≤ k) (h2 : k ≤ 1023) (T D : Int) (hT : stepsP (List.replicate 8 k) 200 t d = (T, D)) :
    stepP (List.replicate 8 k) T D = (T, D) ∧ mayP T D = true ∧ (k ≤ T * D ∨ (T = 64 ∧ D = 6)) := by
  have hm := steps_may (List.replicate 8 k) t d h 200
  have hr := steps_rest k t d h h0 h2 200
  rw [hT] at hm hr
  have hw : wait k t d ≤ 100 := by
    rw [mayP_iff] at h
    unfold wait
    split <;> omega
  rcases hr with e | e
  · refine ⟨e, hm, ?_⟩
    simp only at e
    have hd : needS (List.replicate 8 k) T ≤ D ↔ k ≤ T * D := by
      rw [mayP_iff] at hm
      unfold needS
      rw [worst_rep k h0, show min k 1048576 = k by omega]
      exact need_le k T D (by simp at hm; omega) h0
    rw [mayP_iff] at hm
    simp only at hm
    unfold stepP at e
    generalize needS (List.replicate 8 k) T = N at *
    split at e
    · simp at e; omega
    · split at e
      · simp at e; omega
      · rename_i c1 c2
        by_cases hk : k ≤ T * D
        · exact .inl hk
        · right
          have : ¬ N ≤ D := mt hd.1 hk
          omega
  · omega
end Go.Proofs.Ytcbadcbnknmdnaa
