/-
  Layer 13: ORDER, as mathematics: things that come by their places in a row without an end.
-/
import Derived.Test.YtclecalhbmpipaaWin6
namespace Go.Proofs.Ytclecalhbmpipaa
open Go.RowKit
set_option linter.unusedVariables false

def numW (first d : Nat) : Nat := (first + d) % 4294967296
theorem numW_lt (first d : Nat) : numW first d < 4294967296 := Nat.mod_lt _ (by decide)
theorem numW_succ (first d : Nat) : (numW first d + 1) % 4294967296 = numW first (d + 1) := by unfold numW; omega
theorem dist_ge (first a b : Nat) (h : b ≤ a) (h2 : a - b < 4294967296) : distW (numW first a) (numW first b) = a - b := by
  unfold distW numW; omega
theorem dist_lt (first a b : Nat) (h : a < b) (h2 : b - a < 4294967296) : distW (numW first a) (numW first b) = 4294967296 - (b - a) := by
  unfold distW numW; omega
theorem num_inj (first a b : Nat) (h : numW first a = numW first b) (h1 : a < b + 4294967296) (h2 : b < a + 4294967296) : a = b := by
  unfold numW at h; omega
/-- Things that came, by their places: all below m; of those behind it, just those of G wait. -/
structure InG (first m : Nat) (T : Nat → List UInt8) (G : Nat → Bool) (s : Ws) : Prop where
  nx : s.nx = numW first m
  lo : ∀ d, d < m → G d = true
  gap : G m = false
  hi : ∀ d, G d = true → d ≤ m + 32
  keys : ∀ n t, (n, t) ∈ s.l ↔ ∃ d, G d = true ∧ m < d ∧ n = numW first d ∧ t = T d
  nd : (s.l.map (·.1)).Nodup
def addG (G : Nat → Bool) (d : Nat) : Nat → Bool := fun e => G e || e == d
theorem nodup_filter {l : List (Nat × List UInt8)} (h : (l.map (·.1)).Nodup) (p : Nat × List UInt8 → Bool) : ((l.filter p).map (·.1)).Nodup := h.sublist ((List.filter_sublist).map _)
theorem goW_G (first : Nat) (T : Nat → List UInt8) (G : Nat → Bool) (H : Nat) : ∀ (f : Nat) (s : Ws) (m : Nat), s.nx = numW first m → (∀ d, d < m → G d = true) → (∀ d, G d = true → d ≤ H) → H < m + 1000 → (∀ n t, (n, t) ∈ s.l ↔ ∃ d, G d = true ∧ m ≤ d ∧ n = numW first d ∧ t = T d) → (s.l.map (·.1)).Nodup → s.l.length < f →
    ∃ m', m ≤ m' ∧ (goW f s).2 = (List.range' m (m' - m)).map T ∧ (goW f s).1.nx = numW first m' ∧ (∀ d, d < m' → G d = true) ∧ G m' = false ∧ (∀ n t, (n, t) ∈ (goW f s).1.l ↔ ∃ d, G d = true ∧ m' < d ∧ n = numW first d ∧ t = T d) ∧ ((goW f s).1.l.map (·.1)).Nodup := by
  intro f
  induction f with
  | zero => intro s m _ _ _ _ _ _ hl; omega
  | succ f ih =>
    intro s m hnx hlo hhi hH hk hnd hl
    cases hg : G m with
    | false =>
      have hno : ∀ p ∈ s.l, p.1 ≠ s.nx := fun p hp e => by
        obtain ⟨d, h1, h2, h3, -⟩ := (hk p.1 p.2).1 hp
        have hd := hhi d h1
        rw [hnx, h3] at e
        have := num_inj first d m e (by omega) (by omega)
        subst this
        rw [hg] at h1; cases h1
      rw [goW_none (findW_none hno)]
      refine ⟨m, Nat.le_refl _, by simp, hnx, hlo, hg, fun n t => ?_, hnd⟩
      rw [hk n t]
      constructor
      · rintro ⟨d, h1, h2, h3, h4⟩
        refine ⟨d, h1, ?_, h3, h4⟩
        rcases Nat.eq_or_lt_of_le h2 with e | e
        · subst e; rw [hg] at h1; cases h1
        · exact e
      · rintro ⟨d, h1, h2, h3, h4⟩
        exact ⟨d, h1, by omega, h3, h4⟩
    | true =>
      have hin : (s.nx, T m) ∈ s.l := (hk _ _).2 ⟨m, hg, Nat.le_refl _, hnx, rfl⟩
      have hmH := hhi m hg
      rw [goW_some (findW_of hnd hin)]
      have hless := filter_less hin
      obtain ⟨m', h1, h2, h3, h4, h5, h6, h7⟩ := ih ⟨(s.nx + 1) % 4294967296, s.l.filter (fun p => p.1 != s.nx)⟩ (m + 1) (by simp only; rw [hnx]; exact numW_succ _ _) (fun d hd => by
          rcases Nat.eq_or_lt_of_le (Nat.le_of_lt_succ hd) with e | e
          · subst e; exact hg
          · exact hlo d e) hhi (by omega) (fun n t => by
          simp only [List.mem_filter, hk n t]
          constructor
          · rintro ⟨⟨d, g1, g2, g3, g4⟩, hne⟩
            refine ⟨d, g1, ?_, g3, g4⟩
            rcases Nat.eq_or_lt_of_le g2 with e | e
            · subst e
              simp [g3, hnx] at hne
            · exact e
          · rintro ⟨d, g1, g2, g3, g4⟩
            refine ⟨⟨d, g1, by omega, g3, g4⟩, ?_⟩
            have hd := hhi d g1
            have : n ≠ s.nx := fun e => by
              rw [g3, hnx] at e
              have := num_inj first d m e (by omega) (by omega)
              omega
            simpa using this) (nodup_filter hnd _) (by simp only; omega)
      refine ⟨m', by omega, ?_, h3, h4, h5, h6, h7⟩
      simp only [h2]
      have e1 : m' - m = (m' - (m + 1)) + 1 := by omega
      rw [e1, List.range'_succ]
      simp
theorem InG.put_old {first m : Nat} {T : Nat → List UInt8} {G : Nat → Bool} {s : Ws} (h : InG first m T G s) (d : Nat) (hd : d < m) (h2 : m < d + 2147483648) (t : List UInt8) : putW s (numW first d) t = (s, [], 11) := by
  unfold putW
  rw [if_pos]
  unfold belowB
  rw [h.nx, dist_lt first d m hd (by omega)]
  exact decide_eq_true (by omega)
theorem InG.find {first m : Nat} {T : Nat → List UInt8} {G : Nat → Bool} {s : Ws} (h : InG first m T G s) (d : Nat) (hd : m ≤ d) (h2 : d ≤ m + 32) : findW s.l (numW first d) = if G d = true then some (T d) else none := by
  cases hg : G d with
  | true =>
    have hne : m ≠ d := fun e => by subst e; rw [h.gap] at hg; cases hg
    exact findW_of h.nd ((h.keys _ _).2 ⟨d, hg, by omega, rfl, rfl⟩)
  | false =>
    refine findW_none fun p hp e => ?_
    obtain ⟨d', h1, h3, h4, -⟩ := (h.keys p.1 p.2).1 hp
    have := h.hi d' h1
    rw [h4] at e
    have := num_inj first d' d e (by omega) (by omega)
    subst this
    rw [hg] at h1; cases h1
theorem InG.put {first m : Nat} {T : Nat → List UInt8} {G : Nat → Bool} {s : Ws} (h : InG first m T G s) (d : Nat) (hd : m ≤ d) (h2 : d ≤ m + 32) : (G d = true ∧ putW s (numW first d) (T d) = (s, [], 10)) ∨ (G d = false ∧ ∃ s' m', m ≤ m' ∧ putW s (numW first d) (T d) = (s', (List.range' m (m' - m)).map T, 0) ∧ InG first m' T (addG G d) s') := by
  have hdist : distW (numW first d) s.nx = d - m := by rw [h.nx]; exact dist_ge first d m hd (by omega)
  have hb : belowB (numW first d) s.nx = false := by unfold belowB; rw [hdist]; exact decide_eq_false (by omega)
  have hf := h.find d hd h2
  have hpw : putW s (numW first d) (T d) = if findW s.l (numW first d) ≠ none then (s, [], 10) else ((goW (s.l.length + 2) ⟨s.nx, s.l ++ [(numW first d, T d)]⟩).1, (goW (s.l.length + 2) ⟨s.nx, s.l ++ [(numW first d, T d)]⟩).2, 0) := by
    unfold putW
    rw [if_neg (by rw [hb]; simp), if_neg (by rw [hdist]; omega)]
  cases hg : G d with
  | true =>
    left
    rw [hg] at hf
    exact ⟨rfl, by rw [hpw, hf]; simp⟩
  | false =>
    right
    rw [hg] at hf
    refine ⟨rfl, ?_⟩
    obtain ⟨m', h1, h3, h4, h5, h6, h7, h8⟩ := goW_G first T (addG G d) (m + 32) (s.l.length + 2) ⟨s.nx, s.l ++ [(numW first d, T d)]⟩ m h.nx (fun e he => by unfold addG; rw [h.lo e he]; rfl) (fun e he => by
        unfold addG at he
        rw [Bool.or_eq_true] at he
        rcases he with he | he
        · exact h.hi e he
        · have : e = d := by simpa using he
          omega) (by omega) (fun n t => by
        simp only [List.mem_append, List.mem_singleton, h.keys n t]
        unfold addG
        constructor
        · rintro (⟨e, g1, g2, g3, g4⟩ | e)
          · exact ⟨e, by rw [g1]; rfl, by omega, g3, g4⟩
          · simp only [Prod.mk.injEq] at e
            exact ⟨d, by simp, hd, e.1, e.2⟩
        · rintro ⟨e, g1, g2, g3, g4⟩
          rw [Bool.or_eq_true] at g1
          by_cases hed : e = d
          · subst hed; exact .inr (by rw [g3, g4])
          · rcases g1 with g1 | g1
            · left
              refine ⟨e, g1, ?_, g3, g4⟩
              rcases Nat.eq_or_lt_of_le g2 with e2 | e2
              · subst e2; rw [h.gap] at g1; cases g1
              · exact e2
            · exact absurd (by simpa using g1) hed) (by
        simp only [List.map_append, List.map_cons, List.map_nil]
        rw [List.nodup_append]
        refine ⟨h.nd, by simp, fun a ha b hb' => ?_⟩
        simp at hb'; subst hb'
        obtain ⟨p, hp, rfl⟩ := List.mem_map.1 ha
        intro e
        have := findW_of h.nd (show (numW first d, p.2) ∈ s.l by rw [← e]; exact hp)
        rw [hf] at this; simp at this) (by simp)
    refine ⟨(goW (s.l.length + 2) ⟨s.nx, s.l ++ [(numW first d, T d)]⟩).1, m', h1, ?_, ⟨h4, h5, h6, fun e he => ?_, h7, h8⟩⟩
    · rw [hpw, hf, h3]; simp
    · unfold addG at he
      rw [Bool.or_eq_true] at he
      rcases he with he | he
      · have := h.hi e he; omega
      · have : e = d := by simpa using he
        omega
theorem InG.ok {first m : Nat} {T : Nat → List UInt8} {G : Nat → Bool} {s : Ws} (h : InG first m T G s) : OkW s := by
  intro p hp
  obtain ⟨d, h1, h2, h3, -⟩ := (h.keys p.1 p.2).1 hp
  have := h.hi d h1
  rw [h3, h.nx, dist_ge first d m (by omega) (by omega)]
  exact ⟨numW_lt _ _, by omega, by omega⟩
/-- What an ack of it tells: just what came. -/
theorem InG.has {first m : Nat} {T : Nat → List UInt8} {G : Nat → Bool} {s : Ws} (h : InG first m T G s) {B : Nat} (hB : ∀ k, B.testBit k = true ↔ ∃ p ∈ s.l, distW p.1 s.nx = k + 1) (d : Nat) (h1 : m < d + 2147483648) (h2 : d < m + 2147483648) : hasB s.nx B (numW first d) = G d := by
  unfold hasB belowB
  by_cases hd : d < m
  · rw [h.nx, dist_lt first d m hd (by omega), decide_eq_true (by omega), h.lo d hd]; rfl
  · rw [h.nx, dist_ge first d m (by omega) (by omega), decide_eq_false (by omega), Bool.false_or]
    rcases Nat.eq_or_lt_of_le (Nat.le_of_not_lt hd) with e | e
    · subst e; rw [h.gap]; simp
    · rw [decide_eq_true (by omega : 1 ≤ d - m), Bool.true_and]
      have hb := hB (d - m - 1)
      rw [show d - m - 1 + 1 = d - m by omega] at hb
      cases hg : G d with
      | true =>
        have := h.hi d hg
        rw [decide_eq_true (by omega : d - m ≤ 32), Bool.true_and]
        refine hb.2 ⟨(numW first d, T d), (h.keys _ _).2 ⟨d, hg, e, rfl, rfl⟩, ?_⟩
        rw [h.nx]; exact dist_ge first d m (by omega) (by omega)
      | false =>
        cases ht : B.testBit (d - m - 1) with
        | false => simp
        | true =>
          obtain ⟨p, hp, hpd⟩ := hb.1 ht
          obtain ⟨d', g1, g2, g3, -⟩ := (h.keys p.1 p.2).1 hp
          have := h.hi d' g1
          rw [g3, h.nx, dist_ge first d' m (by omega) (by omega)] at hpd
          have : d' = d := by omega
          subst this
          rw [hg] at g1; cases g1
theorem InG.start (first : Nat) (hf : first < 4294967296) (T : Nat → List UInt8) : InG first 0 T (fun _ => false) ⟨first, []⟩ :=
  ⟨by unfold numW; simp only; omega, (fun d hd => by omega), rfl, (fun d hd => by cases hd), (fun n t => by simp), List.nodup_nil⟩
end Go.Proofs.Ytclecalhbmpipaa
