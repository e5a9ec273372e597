/-
  Layer 13: the program's numbers, which go round, against the document's, which have no end: mathematics.
-/
import Derived.Test.YtcbadcbnknmdnaaDoorWinA
namespace Go.Proofs.YtcbadcbnknmdnaaDoor
open Go.RowKit
set_option linter.unusedVariables false

abbrev Its := List (Nat × List UInt8)
/-- Does an ack of A and B tell N, without an end? -/
def hasR (A B N : Nat) : Bool := decide (N < A) || (decide (1 ≤ N - A) && (decide (N - A ≤ 32) && B.testBit (N - A - 1)))
theorem has_num (F A B N : Nat) (hA : A < 2147483648) (hN : N < 2147483648) : hasB (numW F A) B (numW F N) = hasR A B N := by
  unfold hasB belowB hasR
  by_cases h : N < A
  · rw [dist_lt F N A h (by omega), decide_eq_true (by omega), decide_eq_true h]; rfl
  · rw [dist_ge F N A (by omega) (by omega), decide_eq_false (by omega : ¬ 2147483648 ≤ N - A), decide_eq_false h]
def numL (F : Nat) (L : Its) : Its := L.map (fun p => (numW F p.1, p.2))
theorem numL_len (F : Nat) (L : Its) : (numL F L).length = L.length := by simp [numL]
theorem numL_lt (F : Nat) (L : Its) : ∀ p ∈ numL F L, p.1 < 4294967296 := by
  intro p hp
  obtain ⟨q, -, rfl⟩ := List.mem_map.1 hp
  exact numW_lt _ _
theorem numL_append (F : Nat) (L M : Its) : numL F (L ++ M) = numL F L ++ numL F M := by simp [numL]
theorem filt_num (F : Nat) (H G : Nat → Bool) (L : Its) (h : ∀ p ∈ L, H (numW F p.1) = G p.1) : ((numL F L).filter (fun p => H p.1)).map (·.1) = (L.filter (fun p => G p.1)).map (fun p => numW F p.1) ∧ (numL F L).filter (fun p => !H p.1) = numL F (L.filter (fun p => !G p.1)) := by
  induction L with
  | nil => exact ⟨rfl, rfl⟩
  | cons d R ih =>
    obtain ⟨i1, i2⟩ := ih (fun e he => h e (by simp [he]))
    have hd := h d (by simp)
    unfold numL at i1 i2 ⊢
    cases hg : G d.1 with
    | true =>
      rw [hg] at hd
      refine ⟨?_, ?_⟩
      · rw [List.map_cons, List.filter_cons_of_pos (by simpa using hd), List.map_cons, i1, List.filter_cons_of_pos (by simpa using hg), List.map_cons]
      · rw [List.map_cons, List.filter_cons_of_neg (by simp [hd]), i2, List.filter_cons_of_neg (by simp [hg])]
    | false =>
      rw [hg] at hd
      refine ⟨?_, ?_⟩
      · rw [List.map_cons, List.filter_cons_of_neg (by simp [hd]), i1, List.filter_cons_of_neg (by simp [hg])]
      · rw [List.map_cons, List.filter_cons_of_pos (by simp [hd]), i2, List.filter_cons_of_pos (by simp [hg]), List.map_cons]
def goneR (A B : Nat) (L : Its) : List Nat := (L.filter (fun p => hasR A B p.1)).map (·.1)
def leftR (A B : Nat) (L : Its) : Its := L.filter (fun p => !hasR A B p.1)
theorem ack_num (F A B : Nat) (L : Its) (hA : A < 2147483648) (hL : ∀ p ∈ L, p.1 < 2147483648) : cameO (numW F A) B (numL F L) = (goneR A B L).map (numW F) ∧ restO (numW F A) B (numL F L) = numL F (leftR A B L) := by
  obtain ⟨h1, h2⟩ := filt_num F (hasB (numW F A) B) (hasR A B) L (fun p hp => has_num F A B p.1 hA (hL p hp))
  refine ⟨?_, h2⟩
  unfold cameO goneR
  rw [h1, List.map_map]; rfl
/-- What is on its way: in its order, at most 32 numbers wide. -/
structure OutR (n : Nat) (L : Its) : Prop where
  up : L.Pairwise (fun p q => p.1 < q.1)
  lt : ∀ p ∈ L, p.1 < n
  wide : ∀ p ∈ L, n ≤ p.1 + 32
theorem up_len (lo hi : Nat) (L : Its) (hu : L.Pairwise (fun p q => p.1 < q.1)) (h : ∀ p ∈ L, lo ≤ p.1 ∧ p.1 < hi) : L.length ≤ hi - lo := by
  induction L generalizing lo with
  | nil => simp
  | cons x L ih =>
    obtain ⟨h1, h2⟩ := List.pairwise_cons.1 hu
    have hx := h x (by simp)
    have := ih (x.1 + 1) h2 (fun p hp => ⟨h1 p hp, (h p (by simp [hp])).2⟩)
    simp only [List.length_cons]; omega
theorem OutR.len {n : Nat} {L : Its} (h : OutR n L) : L.length ≤ 32 := by
  have := up_len (n - 32) n L h.up (fun p hp => ⟨by have := h.wide p hp; omega, h.lt p hp⟩)
  omega
theorem OutR.filter {n : Nat} {L : Its} (h : OutR n L) (q : Nat × List UInt8 → Bool) : OutR n (L.filter q) :=
  ⟨h.up.sublist List.filter_sublist, fun p hp => h.lt p (List.mem_filter.1 hp).1, fun p hp => h.wide p (List.mem_filter.1 hp).1⟩
theorem OutR.push {n : Nat} {L : Its} (h : OutR n L) (t : List UInt8) (hr : L = [] ∨ ∃ p l', L = p :: l' ∧ n - p.1 < 32) : OutR (n + 1) (L ++ [(n, t)]) := by
  refine ⟨?_, fun p hp => ?_, fun p hp => ?_⟩
  · rw [List.pairwise_append]
    refine ⟨h.up, by simp, fun a ha b hb => ?_⟩
    simp only [List.mem_singleton] at hb
    subst hb
    exact h.lt a ha
  · rcases List.mem_append.1 hp with hp | hp
    · have := h.lt p hp; omega
    · simp only [List.mem_singleton] at hp; subst hp; simp
  · rcases List.mem_append.1 hp with hp | hp
    · rcases hr with rfl | ⟨q, l', rfl, hq⟩
      · simp at hp
      · obtain ⟨h1, -⟩ := List.pairwise_cons.1 h.up
        have hqn := h.lt q (by simp)
        rcases List.mem_cons.1 hp with e | e
        · subst e; omega
        · have := h1 p e; omega
    · simp only [List.mem_singleton] at hp; subst hp; simp only; omega
theorem OutR.none (n : Nat) : OutR n [] := ⟨List.Pairwise.nil, (fun p hp => by simp at hp), (fun p hp => by simp at hp)⟩
/-- Is there room? -/
def roomR (n : Nat) (L : Its) : Prop := L = [] ∨ ∃ p l', L = p :: l' ∧ n - p.1 < 32
theorem room_num {F n : Nat} {L : Its} (h : OutR n L) (hn : n < 2147483648) (hr : roomR n L) : numL F L = [] ∨ ∃ p l', numL F L = p :: l' ∧ distW (numW F n) p.1 < 32 := by
  rcases hr with rfl | ⟨p, l', rfl, hp⟩
  · exact .inl rfl
  · refine .inr ⟨(numW F p.1, p.2), numL F l', rfl, ?_⟩
    have := h.lt p (by simp)
    simp only
    rw [dist_ge F n p.1 (by omega) (by omega)]; exact hp
theorem full_num {F n : Nat} {p : Nat × List UInt8} {l' : Its} (h : OutR n (p :: l')) (hn : n < 2147483648) (hr : 32 ≤ n - p.1) : 32 ≤ distW (numW F n) (numW F p.1) := by
  have := h.lt p (by simp)
  rw [dist_ge F n p.1 (by omega) (by omega)]; exact hr
/-- An ack is of what was sent, or it isn't. -/
theorem go_num13 (F A n : Nat) (hA : A < 2147483648) (hn : n < 2147483648) (h : A ≤ n) : numW F A = numW F n ∨ numW F A ≠ numW F n ∧ belowB (numW F A) (numW F n) = true := by
  rcases Nat.eq_or_lt_of_le h with e | e
  · left; rw [e]
  · right
    refine ⟨fun e2 => ?_, ?_⟩
    · have := num_inj F A n e2 (by omega) (by omega); omega
    · unfold belowB
      rw [dist_lt F A n e (by omega)]
      exact decide_eq_true (by omega)
theorem no_num13 (F A n : Nat) (hA : A < 2147483648) (hn : n < 2147483648) (h : n < A) : numW F A ≠ numW F n ∧ belowB (numW F A) (numW F n) = false := by
  refine ⟨fun e2 => ?_, ?_⟩
  · have := num_inj F A n e2 (by omega) (by omega); omega
  · unfold belowB
    rw [dist_ge F A n (by omega) (by omega)]
    exact decide_eq_false (by omega)
/-- What waits: each number once, behind the awaited one, at most 32 behind it. -/
structure InR (n : Nat) (L : Its) : Prop where
  nd : (L.map (·.1)).Nodup
  lo : ∀ p ∈ L, n < p.1
  hi : ∀ p ∈ L, p.1 ≤ n + 32
theorem InR.none (n : Nat) : InR n [] := ⟨by simp, (fun p hp => by simp at hp), (fun p hp => by simp at hp)⟩
theorem nodup_len (k lo : Nat) (l : List Nat) (hn : l.Nodup) (h : ∀ x ∈ l, lo ≤ x ∧ x < lo + k) : l.length ≤ k := by
  induction k generalizing l with
  | zero =>
    cases l with
    | nil => simp
    | cons x l => have := h x (by simp); omega
  | succ k ih =>
    have h1 := ih (l.filter (fun x => x != lo + k)) (hn.sublist List.filter_sublist) (fun x hx => by
      obtain ⟨hx, hne⟩ := List.mem_filter.1 hx
      have := h x hx
      have hne : x ≠ lo + k := by simpa using hne
      omega)
    have h2 : ∀ m : List Nat, m.Nodup → m.length ≤ (m.filter (fun x => x != lo + k)).length + 1 := by
      intro m hm
      induction m with
      | nil => simp
      | cons x m ihm =>
        obtain ⟨n1, n2⟩ := List.nodup_cons.1 hm
        by_cases hx : x = lo + k
        · rw [List.filter_cons_of_neg (by simp [hx])]
          have : m.filter (fun y => y != lo + k) = m := List.filter_eq_self.2 (fun y hy => by
            have : y ≠ lo + k := fun e => n1 (by rw [hx, ← e]; exact hy)
            simpa using this)
          rw [this]; simp
        · rw [List.filter_cons_of_pos (by simpa using hx)]
          have := ihm n2
          simp only [List.length_cons]; omega
    have := h2 l hn
    omega
theorem InR.len {n : Nat} {L : Its} (h : InR n L) : L.length ≤ 32 := by
  have := nodup_len 32 (n + 1) (L.map (·.1)) h.nd (fun x hx => by
    obtain ⟨p, hp, rfl⟩ := List.mem_map.1 hx
    have := h.lo p hp; have := h.hi p hp; omega)
  simpa using this
theorem find_num (F x lo : Nat) (L : Its) (hx : lo ≤ x ∧ x < lo + 1000) (h : ∀ p ∈ L, lo ≤ p.1 ∧ p.1 < lo + 1000) : findW (numL F L) (numW F x) = findW L x := by
  unfold findW numL
  induction L with
  | nil => rfl
  | cons p L ih =>
    have hp := h p (by simp)
    have ih := ih (fun q hq => h q (by simp [hq]))
    by_cases e : p.1 = x
    · rw [List.map_cons, List.find?_cons_of_pos (by simp [e]), List.find?_cons_of_pos (by simp [e])]; rfl
    · have e2 : numW F p.1 ≠ numW F x := fun e3 => e (num_inj F p.1 x e3 (by omega) (by omega))
      rw [List.map_cons, List.find?_cons_of_neg (by simpa using e2), List.find?_cons_of_neg (by simpa using e)]
      exact ih
theorem drop_num (F x lo : Nat) (L : Its) (hx : lo ≤ x ∧ x < lo + 1000) (h : ∀ p ∈ L, lo ≤ p.1 ∧ p.1 < lo + 1000) : (numL F L).filter (fun p => p.1 != numW F x) = numL F (L.filter (fun p => p.1 != x)) := by
  have := (filt_num F (fun m => m == numW F x) (fun m => m == x) L (fun p hp => by
    have := h p hp
    by_cases e : p.1 = x
    · simp [e]
    · have e2 : numW F p.1 ≠ numW F x := fun e3 => e (num_inj F p.1 x e3 (by omega) (by omega))
      rw [beq_eq_false_iff_ne.2 e2, beq_eq_false_iff_ne.2 e])).2
  exact this
/-- The document's: the awaited ones, as long as they wait. -/
def goR : Nat → Nat → Its → Nat × Its × List (List UInt8)
  | 0, n, L => (n, L, [])
  | f + 1, n, L => match findW L n with
    | none => (n, L, [])
    | some t => ((goR f (n + 1) (L.filter (fun p => p.1 != n))).1, (goR f (n + 1) (L.filter (fun p => p.1 != n))).2.1, t :: (goR f (n + 1) (L.filter (fun p => p.1 != n))).2.2)
theorem goR_none {f n : Nat} {L : Its} (h : findW L n = none) : goR f n L = (n, L, []) := by
  cases f with
  | zero => rfl
  | succ f => simp [goR, h]
theorem goR_some {f n : Nat} {L : Its} {t : List UInt8} (h : findW L n = some t) : goR (f + 1) n L = ((goR f (n + 1) (L.filter (fun p => p.1 != n))).1, (goR f (n + 1) (L.filter (fun p => p.1 != n))).2.1, t :: (goR f (n + 1) (L.filter (fun p => p.1 != n))).2.2) := by
  simp [goR, h]
theorem findW_mem {L : Its} {n : Nat} {t : List UInt8} (h : findW L n = some t) : (n, t) ∈ L := by
  unfold findW at h
  cases hf : L.find? (fun p => p.1 == n) with
  | none => rw [hf] at h; simp at h
  | some p =>
    rw [hf] at h
    simp only [Option.map_some, Option.some.injEq] at h
    have h1 := List.mem_of_find?_eq_some hf
    have h2 := List.find?_some hf
    simp only [beq_iff_eq] at h2
    rw [← h, ← h2]; exact h1
theorem one_less {L : Its} {n : Nat} {t : List UInt8} (nd : (L.map (·.1)).Nodup) (h : (n, t) ∈ L) : (L.filter (fun p => p.1 != n)).length + 1 = L.length := by
  induction L with
  | nil => simp at h
  | cons p L ih =>
    simp only [List.map_cons, List.nodup_cons] at nd
    by_cases e : p.1 = n
    · rw [List.filter_cons_of_neg (by simp [e])]
      have : L.filter (fun q => q.1 != n) = L := List.filter_eq_self.2 (fun q hq => by
        have : q.1 ≠ n := fun e2 => nd.1 (by rw [e, ← e2]; exact List.mem_map.2 ⟨q, hq, rfl⟩)
        simpa using this)
      rw [this]; rfl
    · rw [List.filter_cons_of_pos (by simpa using e)]
      rcases List.mem_cons.1 h with e2 | e2
      · exact absurd (by rw [← e2]) e
      · simp only [List.length_cons]
        have := ih nd.2 e2; omega
theorem goR_ok (H : Nat) : ∀ (f n : Nat) (L : Its), (L.map (·.1)).Nodup → (∀ p ∈ L, n ≤ p.1 ∧ p.1 ≤ H) → L.length < f → n ≤ (goR f n L).1 ∧ ((goR f n L).2.1.map (·.1)).Nodup ∧ (∀ p ∈ (goR f n L).2.1, (goR f n L).1 < p.1 ∧ p.1 ≤ H) ∧ (goR f n L).1 + (goR f n L).2.1.length = n + L.length := by
  intro f
  induction f with
  | zero => intro n L _ _ h; omega
  | succ f ih =>
    intro n L hnd hL hl
    cases hf : findW L n with
    | none =>
      rw [goR_none hf]
      refine ⟨Nat.le_refl _, hnd, fun p hp => ?_, rfl⟩
      have h1 := hL p hp
      have h2 : p.1 ≠ n := fun e => by
        have := findW_of hnd (show (n, p.2) ∈ L by rw [← e]; exact hp)
        rw [hf] at this; cases this
      simp only
      omega
    | some t =>
      rw [goR_some hf]
      have hm := findW_mem hf
      have hless := one_less hnd hm
      obtain ⟨g1, g2, g3, g4⟩ := ih (n + 1) (L.filter (fun p => p.1 != n)) (nodup_filter hnd _) (fun p hp => by
        obtain ⟨h1, h2⟩ := List.mem_filter.1 hp
        have := hL p h1
        have h2 : p.1 ≠ n := by simpa using h2
        omega) (by omega)
      exact ⟨by simp only; omega, g2, g3, by simp only; omega⟩
theorem goW_num (F : Nat) : ∀ (f n : Nat) (L : Its), (∀ p ∈ L, n ≤ p.1 ∧ p.1 < n + 900) → goW f ⟨numW F n, numL F L⟩ = (⟨numW F (goR f n L).1, numL F (goR f n L).2.1⟩, (goR f n L).2.2) := by
  intro f
  induction f with
  | zero => intro n L _; rfl
  | succ f ih =>
    intro n L hL
    have hfn := find_num F n n L (by omega) (fun p hp => by have := hL p hp; omega)
    cases hf : findW L n with
    | none =>
      rw [hf] at hfn
      rw [goW_none hfn, goR_none hf]
    | some t =>
      rw [hf] at hfn
      rw [goW_some hfn, goR_some hf]
      simp only
      rw [drop_num F n n L (by omega) (fun p hp => by have := hL p hp; omega), numW_succ, ih (n + 1) _ (fun p hp => by
        obtain ⟨h1, h2⟩ := List.mem_filter.1 hp
        have := hL p h1
        have h2 : p.1 ≠ n := by simpa using h2
        omega)]
/-- The document's Put. -/
def putR (n : Nat) (L : Its) (x : Nat) (t : List UInt8) : (Nat × Its × List (List UInt8)) × Nat :=
  if x < n then ((n, L, []), 11) else if n + 32 < x then ((n, L, []), 8) else if findW L x ≠ none then ((n, L, []), 10) else (goR (L.length + 2) n (L ++ [(x, t)]), 0)
theorem put_num (F n x : Nat) (L : Its) (t : List UInt8) (h : InR n L) (hx1 : n < x + 1000) (hx2 : x < n + 1000) : putW ⟨numW F n, numL F L⟩ (numW F x) t = (⟨numW F (putR n L x t).1.1, numL F (putR n L x t).1.2.1⟩, (putR n L x t).1.2.2, (putR n L x t).2) := by
  unfold putW putR
  by_cases h1 : x < n
  · rw [if_pos, if_pos h1]
    unfold belowB
    simp only
    rw [dist_lt F x n h1 (by omega)]
    exact decide_eq_true (by omega)
  · have hd : distW (numW F x) (numW F n) = x - n := dist_ge F x n (by omega) (by omega)
    rw [if_neg, if_neg h1]
    · simp only
      rw [hd]
      by_cases h2 : n + 32 < x
      · rw [if_pos (by omega), if_pos h2]
      · rw [if_neg (by omega), if_neg h2, find_num F x n L (by omega) (fun p hp => by have := h.lo p hp; have := h.hi p hp; omega)]
        by_cases h3 : findW L x = none
        · rw [if_neg (by simpa using h3), if_neg (by simpa using h3)]
          have e1 : numL F L ++ [(numW F x, t)] = numL F (L ++ [(x, t)]) := by simp [numL]
          rw [e1, numL_len, goW_num F (L.length + 2) n (L ++ [(x, t)]) (fun p hp => by
            rcases List.mem_append.1 hp with hp | hp
            · have := h.lo p hp; have := h.hi p hp; omega
            · simp only [List.mem_singleton] at hp; subst hp; simp only; omega)]
        · rw [if_pos h3, if_pos h3]
    · unfold belowB
      simp only
      rw [hd]
      simp; omega
theorem putR_ok (n x : Nat) (L : Its) (t : List UInt8) (h : InR n L) : InR (putR n L x t).1.1 (putR n L x t).1.2.1 ∧ n ≤ (putR n L x t).1.1 ∧ (putR n L x t).1.1 + (putR n L x t).1.2.1.length ≤ n + L.length + 1 := by
  unfold putR
  split
  · exact ⟨h, Nat.le_refl _, by simp only; omega⟩
  · split
    · exact ⟨h, Nat.le_refl _, by simp only; omega⟩
    · split
      · exact ⟨h, Nat.le_refl _, by simp only; omega⟩
      · rename_i h1 h2 h3
        have h3 : findW L x = none := Classical.byContradiction h3
        obtain ⟨g1, g2, g3, g4⟩ := goR_ok (n + 32) (L.length + 2) n (L ++ [(x, t)]) (by
          simp only [List.map_append, List.map_cons, List.map_nil]
          rw [List.nodup_append]
          refine ⟨h.nd, by simp, fun a ha b hb' => ?_⟩
          have hb' : b = x := by simpa using hb'
          obtain ⟨p, hp, rfl⟩ := List.mem_map.1 ha
          intro e
          rw [hb'] at e
          have := findW_of h.nd (show (x, p.2) ∈ L by rw [← e]; exact hp)
          rw [h3] at this; cases this) (fun p hp => by
          rcases List.mem_append.1 hp with hp | hp
          · have := h.lo p hp; have := h.hi p hp; omega
          · simp only [List.mem_singleton] at hp; subst hp; simp only; omega) (by simp)
        refine ⟨⟨g2, fun p hp => (g3 p hp).1, fun p hp => by have := (g3 p hp).2; simp only; omega⟩, g1, ?_⟩
        simp only [List.length_append, List.length_singleton] at g4
        simp only
        omega
theorem InR.ok {F n : Nat} {L : Its} (h : InR n L) : OkW ⟨numW F n, numL F L⟩ := by
  intro p hp
  obtain ⟨q, hq, rfl⟩ := List.mem_map.1 hp
  have h1 := h.lo q hq
  have h2 := h.hi q hq
  simp only
  rw [dist_ge F q.1 n (by omega) (by omega)]
  exact ⟨numW_lt _ _, by omega, by omega⟩
theorem InR.bits {F n B : Nat} {L : Its} (h : InR n L) (hB : ∀ k, B.testBit k = true ↔ ∃ p ∈ numL F L, distW p.1 (numW F n) = k + 1) : ∀ k, B.testBit k = true ↔ ∃ p ∈ L, p.1 = n + k + 1 := by
  intro k
  rw [hB k]
  constructor
  · rintro ⟨p, hp, hd⟩
    obtain ⟨q, hq, rfl⟩ := List.mem_map.1 hp
    have h1 := h.lo q hq
    have h2 := h.hi q hq
    simp only at hd
    rw [dist_ge F q.1 n (by omega) (by omega)] at hd
    exact ⟨q, hq, by omega⟩
  · rintro ⟨q, hq, hd⟩
    have h1 := h.lo q hq
    have h2 := h.hi q hq
    refine ⟨(numW F q.1, q.2), List.mem_map.2 ⟨q, hq, rfl⟩, ?_⟩
    simp only
    rw [dist_ge F q.1 n (by omega) (by omega)]; omega
/-- The place at which a number stands is its only one: what is left without it. -/
theorem erase_at {L : Its} {n k : Nat} (nd : (L.map (·.1)).Nodup) (hk : k < L.length) (e : L[k].1 = n) : L.take k ++ L.drop (k + 1) = L.filter (fun p => p.1 != n) := by
  induction L generalizing k with
  | nil => simp at hk
  | cons p L ih =>
    simp only [List.map_cons, List.nodup_cons] at nd
    cases k with
    | zero =>
      simp only [List.getElem_cons_zero] at e
      rw [List.filter_cons_of_neg (by simp [e])]
      have : L.filter (fun q => q.1 != n) = L := List.filter_eq_self.2 (fun q hq => by
        have : q.1 ≠ n := fun e2 => nd.1 (by rw [e, ← e2]; exact List.mem_map.2 ⟨q, hq, rfl⟩)
        simpa using this)
      rw [this]; simp
    | succ k =>
      simp only [List.getElem_cons_succ] at e
      have hk' : k < L.length := by simpa using hk
      have hp : p.1 ≠ n := fun e2 => nd.1 (by rw [e2, ← e]; exact List.mem_map.2 ⟨L[k], List.getElem_mem hk', rfl⟩)
      rw [List.filter_cons_of_pos (by simpa using hp), ← ih nd.2 hk' e]
      simp
theorem findW_at13 {L : Its} {n k : Nat} (nd : (L.map (·.1)).Nodup) (hk : k < L.length) (e : L[k].1 = n) : findW L n = some L[k].2 :=
  findW_of nd (by rw [← e]; exact List.getElem_mem hk)
end Go.Proofs.YtcbadcbnknmdnaaDoor
