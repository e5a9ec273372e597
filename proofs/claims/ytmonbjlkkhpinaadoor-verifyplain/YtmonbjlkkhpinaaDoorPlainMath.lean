/-
  Layer 4: plain mathematics of code without jumps, of pushes, pops and a return.
-/
import Derived.Test.YtmonbjlkkhpinaaDoorVerifyCheck
namespace Go.Proofs.YtmonbjlkkhpinaaDoor
open Go.RowKit
set_option linter.unusedVariables false

/-- What a walk through code without jumps comes to. -/
def lineS : List (Nat × Int) → Int → Bool
  | [], _ => false
  | x :: xs, dep => if x.1 = 1 then (if 64 < dep + 1 then false else lineS xs (dep + 1)) else if x.1 = 2 then (if dep < 1 then false else lineS xs (dep - 1)) else dep == 1
theorem step_line (M : List Fn) (f : Fn) (d : List Int) (r : List Nat) (k : Nat) (x : Nat × Int) (hx : f.code.getD k (0, 0) = x) (a b : Int) (he : effS M f.locals x = (a, b, true)) (h1 : x.1 ≠ 16) (h2 : x.1 ≠ 13) (h3 : x.1 ≠ 14) :
    stepS M f d r k = if d.getD k 0 < a then (false, d, r) else if 64 < d.getD k 0 - a + b then (false, d, r) else reachS d r ((k : Int) + 1) (d.getD k 0 - a + b) := by
  unfold stepS
  simp only [hx, he, h1, h2, h3, if_false, reduceCtorEq, false_or]
theorem line_go (M : List Fn) (f : Fn) (fuel k : Nat) (d : List Int) (r : List Nat) (dep : Int) (v : Bool)
    (hr : r.length = k + 1) (hk : r.getD k 0 = k) (hd : d.length = f.code.length) (hj : ∀ j, k < j → j < d.length → d.getD j 0 = -1)
    (hs : stepS M f d r k = reachS d r ((k : Int) + 1) dep)
    (hv0 : f.code.length ≤ k + 1 → v = false)
    (hv1 : k + 1 < f.code.length → ∀ d' r', r'.length = k + 1 + 1 → r'.getD (k + 1) 0 = k + 1 → d'.length = f.code.length → d'.getD (k + 1) 0 = dep → (∀ j, k + 1 < j → j < d'.length → d'.getD j 0 = -1) → (runW M f fuel (k + 1) d' r').1.2 = v) :
    (runW M f (fuel + 1) k d r).1.2 = v := by
  by_cases hl : f.code.length ≤ k + 1
  · have hq : reachS d r ((k : Int) + 1) dep = (false, d, r) := by
      unfold reachS
      exact if_pos (Or.inr (by omega))
    unfold runW
    rw [if_pos (by omega), hk, hs, hq, hv0 hl]
    rfl
  · have e1 : ((k : Int) + 1).toNat = k + 1 := by omega
    have hq : reachS d r ((k : Int) + 1) dep = (true, d.set (k + 1) dep, r ++ [k + 1]) := by
      unfold reachS
      rw [e1, hj (k + 1) (by omega) (by omega), if_neg (by omega), if_pos rfl]
    unfold runW
    rw [if_pos (by omega), hk, hs, hq]
    simp only [if_true]
    refine hv1 (by omega) _ _ (by simp [hr]) ?_ (by simp [hd]) ?_ ?_
    · rw [List.getD_eq_getElem?_getD, List.getElem?_append_right (by omega)]
      simp [hr]
    · rw [getD_set _ _ _ _ (by omega), if_pos rfl]
    · intro j hj1 hj2
      rw [getD_set _ _ _ _ (by omega), if_neg (by omega)]
      exact hj j (by omega) (by simpa using hj2)
theorem line_run (M : List Fn) (f : Fn) : ∀ (l : List (Nat × Int)) (fuel k : Nat) (d : List Int) (r : List Nat) (dep : Int), f.code.drop k = l → l ≠ [] → (∀ x ∈ l, x.1 = 1 ∨ x.1 = 2 ∨ x.1 = 16) →
    r.length = k + 1 → r.getD k 0 = k → d.length = f.code.length → d.getD k 0 = dep → 0 ≤ dep → dep ≤ 64 → (∀ j, k < j → j < d.length → d.getD j 0 = -1) → l.length < fuel → (runW M f fuel k d r).1.2 = lineS l dep := by
  intro l
  induction l with
  | nil => intro fuel k d r dep h hn; exact absurd rfl hn
  | cons x xs ih =>
    intro fuel k d r dep h hn hx hr hk hd hdep h0 h64 hj hf
    obtain ⟨fuel, rfl⟩ : ∃ m, fuel = m + 1 := ⟨fuel - 1, by omega⟩
    have hlen : f.code.length = k + (xs.length + 1) := by
      have := congrArg List.length h
      simp only [List.length_drop, List.length_cons] at this
      omega
    have hget : f.code.getD k (0, 0) = x := by
      have := congrArg (fun l => l.getD 0 (0, 0)) h
      simpa [List.getD_eq_getElem?_getD] using this
    have hdrop : f.code.drop (k + 1) = xs := by
      have := congrArg List.tail h
      simpa using this
    simp only [List.length_cons] at hf
    rcases hx x (by simp) with h1 | h1 | h1
    · have he : effS M f.locals x = (0, 1, true) := by simp [effS, h1]
      have hs := step_line M f d r k x hget 0 1 he (by omega) (by omega) (by omega)
      rw [hdep, if_neg (by omega)] at hs
      unfold lineS
      rw [if_pos h1]
      by_cases hb : 64 < dep + 1
      · rw [if_pos (by omega)] at hs
        rw [if_pos hb]
        unfold runW
        rw [if_pos (by omega), hk, hs]
        rfl
      · rw [if_neg (by omega), show dep - 0 + 1 = dep + 1 by omega] at hs
        rw [if_neg hb]
        refine line_go M f fuel k d r (dep + 1) _ hr hk hd hj hs ?_ ?_
        · intro hl
          have : xs = [] := List.eq_nil_of_length_eq_zero (by omega)
          subst this; rfl
        · intro hl d' r' q1 q2 q3 q4 q5
          exact ih fuel (k + 1) d' r' (dep + 1) hdrop (by intro hxs; subst hxs; simp at hlen; omega) (fun y hy => hx y (by simp [hy])) q1 q2 q3 q4 (by omega) (by omega) q5 (by omega)
    · have he : effS M f.locals x = (1, 0, true) := by simp [effS, h1]
      have hs := step_line M f d r k x hget 1 0 he (by omega) (by omega) (by omega)
      rw [hdep] at hs
      unfold lineS
      rw [if_neg (by omega), if_pos h1]
      by_cases hb : dep < 1
      · rw [if_pos hb] at hs
        rw [if_pos hb]
        unfold runW
        rw [if_pos (by omega), hk, hs]
        rfl
      · rw [if_neg hb, if_neg (by omega), show dep - 1 + 0 = dep - 1 by omega] at hs
        rw [if_neg hb]
        refine line_go M f fuel k d r (dep - 1) _ hr hk hd hj hs ?_ ?_
        · intro hl
          have : xs = [] := List.eq_nil_of_length_eq_zero (by omega)
          subst this; rfl
        · intro hl d' r' q1 q2 q3 q4 q5
          exact ih fuel (k + 1) d' r' (dep - 1) hdrop (by intro hxs; subst hxs; simp at hlen; omega) (fun y hy => hx y (by simp [hy])) q1 q2 q3 q4 (by omega) (by omega) q5 (by omega)
    · have he : effS M f.locals x = (1, 0, true) := by simp [effS, h1]
      have hs : stepS M f d r k = (dep == 1, d, r) := by
        unfold stepS
        simp only [hget, he, hdep, reduceCtorEq, false_or, h1, if_true]
        by_cases hb : dep < 1
        · rw [if_pos hb]
          have : (dep == 1) = false := by simp; omega
          rw [this]
        · rw [if_neg hb, if_neg (by omega)]
      unfold lineS
      rw [if_neg (by omega), if_neg (by omega)]
      unfold runW
      rw [if_pos (by omega), hk, hs]
      cases hq : (dep == 1)
      · rfl
      · simp only [if_true]
        obtain ⟨fuel, rfl⟩ : ∃ m, fuel = m + 1 := ⟨fuel - 1, by omega⟩
        unfold runW
        rw [if_neg (by omega)]
theorem line_push (rest : List (Nat × Int)) (a : Int) : ∀ (n : Nat) (dep : Int), dep ≤ 64 → lineS (List.replicate n (1, a) ++ rest) dep = if dep + n ≤ 64 then lineS rest (dep + n) else false := by
  intro n
  induction n with
  | zero => intro dep h; simp [h]
  | succ n ih =>
    intro dep h
    rw [List.replicate_succ, List.cons_append, lineS, if_pos rfl]
    by_cases hb : 64 < dep + 1
    · rw [if_pos hb, if_neg (by omega)]
    · rw [if_neg hb, ih (dep + 1) (by omega), show dep + 1 + (n : Int) = dep + ((n + 1 : Nat) : Int) by omega]
theorem line_pop (rest : List (Nat × Int)) (a : Int) : ∀ (n : Nat) (dep : Int), 0 ≤ dep → lineS (List.replicate n (2, a) ++ rest) dep = if (n : Int) ≤ dep then lineS rest (dep - n) else false := by
  intro n
  induction n with
  | zero => intro dep h; simp [h]
  | succ n ih =>
    intro dep h
    rw [List.replicate_succ, List.cons_append, lineS, if_neg (by simp), if_pos rfl]
    by_cases hb : dep < 1
    · rw [if_pos hb, if_neg (by omega)]
    · rw [if_neg hb, ih (dep - 1) (by omega), show dep - 1 - (n : Int) = dep - ((n + 1 : Nat) : Int) by omega]
      by_cases hc : (n : Int) ≤ dep - 1
      · rw [if_pos hc, if_pos (by omega)]
      · rw [if_neg hc, if_neg (by omega)]
/-- So many pushes, so many pops, a return. -/
def plainC (n p : Nat) : List (Nat × Int) := List.replicate n (1, 1) ++ (List.replicate p (2, 0) ++ [(16, 0)])
theorem plain_run (M : List Fn) (n p : Nat) : (runOf M ⟨0, 0, plainC n p⟩).2 = (decide (n ≤ 64) && decide (n = p + 1)) := by
  have hl : (plainC n p).length = n + (p + 1) := by simp [plainC]
  unfold runOf
  rw [line_run M ⟨0, 0, plainC n p⟩ (plainC n p) _ 0 _ _ 0 rfl (by intro h; rw [h] at hl; simp at hl) ?_ rfl rfl (by simp) ?_ (by omega) (by omega) ?_ (by simp)]
  · unfold plainC
    rw [line_push _ _ _ _ (by omega)]
    by_cases h1 : n ≤ 64
    · rw [if_pos (by omega), line_pop _ _ _ _ (by omega)]
      by_cases h2 : p ≤ n
      · rw [if_pos (by omega), lineS, if_neg (by decide), if_neg (by decide)]
        by_cases h3 : n = p + 1
        · subst h3; simp [h1]; omega
        · simp [h1, h3]; omega
      · rw [if_neg (by omega), decide_eq_false (p := n = p + 1) (by omega), Bool.and_false]
    · rw [if_neg (by omega), decide_eq_false h1, Bool.false_and]
  · intro x hx
    simp only [plainC, List.mem_append, List.mem_replicate, List.mem_singleton] at hx
    rcases hx with ⟨_, rfl⟩ | ⟨_, rfl⟩ | rfl <;> simp
  · rw [getD_set _ _ _ _ (by simp [hl]; omega), if_pos rfl]
  · intro j h1 h2
    rw [getD_set _ _ _ _ (by simp [hl]; omega), if_neg (by omega)]
    simp at h2
    simp [List.getD_eq_getElem?_getD, h2]
theorem load_run (M : List Fn) (a : Int) (h : 0 < a) : (runOf M ⟨a, a, [(17, 0), (16, 0)]⟩).2 = true := by
  simp [runOf, runW, stepS, effS, reachS, h]
/-- What Check answers of the image. -/
theorem plain_check (n p : Nat) (h : n + p + 1 ≤ 128) :
    ∃ x : Int, checkS [⟨1, 1, [(17, 0), (16, 0)]⟩, ⟨4, 4, [(17, 0), (16, 0)]⟩, ⟨0, 0, plainC n p⟩] = if n ≤ 64 ∧ n = p + 1 then ((0, 0), 0) else ((2, x), 14) := by
  have hl : (plainC n p).length = n + (p + 1) := by simp [plainC]
  have hs : firstBad shapedB 0 [⟨1, 1, [(17, 0), (16, 0)]⟩, ⟨4, 4, [(17, 0), (16, 0)]⟩, ⟨0, 0, plainC n p⟩] = none := by
    have e0 : shapedB 0 ⟨1, 1, [(17, 0), (16, 0)]⟩ = true := by decide
    have e1 : shapedB (0 + 1) ⟨4, 4, [(17, 0), (16, 0)]⟩ = true := by decide
    have e2 : shapedB (0 + 1 + 1) ⟨0, 0, plainC n p⟩ = true := by
      simp only [shapedB, hl]
      rw [if_neg (by omega), if_neg (by omega), decide_eq_true (by omega), decide_eq_true (by omega)]
      rfl
    rw [firstBad, if_pos e0, firstBad, if_pos e1, firstBad, if_pos e2, firstBad]
  unfold checkS
  rw [if_neg (by simp), hs]
  refine ⟨(runOf [⟨1, 1, [(17, 0), (16, 0)]⟩, ⟨4, 4, [(17, 0), (16, 0)]⟩, ⟨0, 0, plainC n p⟩] ⟨0, 0, plainC n p⟩).1, ?_⟩
  have hr := plain_run [⟨1, 1, [(17, 0), (16, 0)]⟩, ⟨4, 4, [(17, 0), (16, 0)]⟩, ⟨0, 0, plainC n p⟩] n p
  have h1 := load_run [⟨1, 1, [(17, 0), (16, 0)]⟩, ⟨4, 4, [(17, 0), (16, 0)]⟩, ⟨0, 0, plainC n p⟩] 1 (by omega)
  have h4 := load_run [⟨1, 1, [(17, 0), (16, 0)]⟩, ⟨4, 4, [(17, 0), (16, 0)]⟩, ⟨0, 0, plainC n p⟩] 4 (by omega)
  by_cases hg : n ≤ 64 ∧ n = p + 1
  · rw [if_pos hg]
    rw [decide_eq_true hg.1, decide_eq_true hg.2, Bool.and_true] at hr
    have hb : firstBad (fun _ f => (runOf [⟨1, 1, [(17, 0), (16, 0)]⟩, ⟨4, 4, [(17, 0), (16, 0)]⟩, ⟨0, 0, plainC n p⟩] f).2) 0 [⟨1, 1, [(17, 0), (16, 0)]⟩, ⟨4, 4, [(17, 0), (16, 0)]⟩, ⟨0, 0, plainC n p⟩] = none := by
      rw [firstBad, if_pos h1, firstBad, if_pos h4, firstBad, if_pos hr, firstBad]
    simp only [hb]
  · rw [if_neg hg]
    have hr' : (decide (n ≤ 64) && decide (n = p + 1)) = false := by
      rw [← Bool.decide_and]; exact decide_eq_false hg
    rw [hr'] at hr
    have hb : firstBad (fun _ f => (runOf [⟨1, 1, [(17, 0), (16, 0)]⟩, ⟨4, 4, [(17, 0), (16, 0)]⟩, ⟨0, 0, plainC n p⟩] f).2) 0 [⟨1, 1, [(17, 0), (16, 0)]⟩, ⟨4, 4, [(17, 0), (16, 0)]⟩, ⟨0, 0, plainC n p⟩] = some 2 := by
      rw [firstBad, if_pos h1, firstBad, if_pos h4, firstBad, if_neg (by simp [hr])]
    simp only [hb]
    rfl
end Go.Proofs.YtmonbjlkkhpinaaDoor
