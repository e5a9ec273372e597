/-
  Layer 13: what one end tells is what the other one has on its way no more: mathematics.
-/
import Derived.Test.YtcbadcbnknmdnaaDoorWin8
import Derived.Test.YtcbadcbnknmdnaaDoorWin10
import Derived.Test.YtcbadcbnknmdnaaDoorMp2
namespace Go.Proofs.YtcbadcbnknmdnaaDoor
open Go.RowKit
set_option linter.unusedVariables false

def xT : Nat → List UInt8 := fun _ => [120]
def itemsO (first k : Nat) : List (Nat × List UInt8) := (List.range k).map (fun d => (numW first d, [120]))
theorem itemsO_succ (first k : Nat) : itemsO first (k + 1) = itemsO first k ++ [(numW first k, [120])] := by simp [itemsO, List.range_succ]
theorem itemsO_len (first k : Nat) : (itemsO first k).length = k := by simp [itemsO]
theorem itemsO_lt (first k : Nat) : ∀ p ∈ itemsO first k, p.1 < 4294967296 := by
  intro p hp
  obtain ⟨d, -, rfl⟩ := List.mem_map.1 hp
  exact numW_lt _ _
theorem itemsO_head (first k : Nat) (hk : k < 32) : itemsO first k = [] ∨ ∃ p l', itemsO first k = p :: l' ∧ distW (numW first k) p.1 < 32 := by
  cases k with
  | zero => exact .inl rfl
  | succ k =>
    right
    refine ⟨(numW first 0, [120]), (List.range k).map (fun d => (numW first (d + 1), [120])), ?_, ?_⟩
    · unfold itemsO; rw [List.range_succ_eq_map]; simp [Function.comp_def]
    · simp only; rw [dist_ge first (k + 1) 0 (by omega) (by omega)]; omega
theorem itemsO_full (first : Nat) : ∃ l', itemsO first 32 = (numW first 0, [120]) :: l' ∧ l'.length = 31 ∧ 32 ≤ distW (numW first 32) (numW first 0) := by
  refine ⟨(List.range 31).map (fun d => (numW first (d + 1), [120])), ?_, by simp, ?_⟩
  · unfold itemsO; rw [show (32 : Nat) = 31 + 1 from rfl, List.range_succ_eq_map]; simp [Function.comp_def]
  · rw [dist_ge first 32 0 (by omega) (by omega)]; omega
def cntG (G : Nat → Bool) : Nat := ((List.range 32).filter G).length
theorem cnt_add (l : List Nat) (hn : l.Nodup) (G : Nat → Bool) (d : Nat) (hd : d ∈ l) (hg : G d = false) : (l.filter (addG G d)).length = (l.filter G).length + 1 := by
  induction l with
  | nil => simp at hd
  | cons x l ih =>
    obtain ⟨h1, h2⟩ := List.nodup_cons.1 hn
    by_cases hx : x = d
    · subst hx
      have hsame : l.filter (addG G x) = l.filter G := by
        apply List.filter_congr
        intro y hy
        have : y ≠ x := fun e => h1 (e ▸ hy)
        simp [addG, this]
      rw [List.filter_cons_of_pos (by simp [addG]), List.filter_cons_of_neg (by simp [hg]), hsame]
      simp
    · have hd' : d ∈ l := by
        rcases List.mem_cons.1 hd with e | e
        · exact absurd e.symm hx
        · exact e
      have := ih h2 hd'
      by_cases hgx : G x = true
      · rw [List.filter_cons_of_pos (by simp [addG, hgx]), List.filter_cons_of_pos hgx]; simp; omega
      · rw [List.filter_cons_of_neg (by simp [addG, hgx, hx]), List.filter_cons_of_neg hgx]; exact this
theorem cntG_add (G : Nat → Bool) (d : Nat) (hd : d < 32) (hg : G d = false) : cntG (addG G d) = cntG G + 1 := cnt_add _ List.nodup_range G d (List.mem_range.2 hd) hg
theorem addG_same (G : Nat → Bool) (d : Nat) (hg : G d = true) : addG G d = G := by
  funext e
  unfold addG
  by_cases h : e = d
  · subst h; rw [hg]; rfl
  · simp [h]
/-- How often each came. -/
structure GotL (first : Nat) (G : Nat → Bool) (c : Nat) (L : List (Nat × Value)) : Prop where
  mem : ∀ n v, (n, v) ∈ L → ∃ d, d < 32 ∧ G d = true ∧ n = numW first d ∧ ∃ z : Nat, v = .int .i64 (z : Int) ∧ 1 ≤ z ∧ z ≤ c
  all : ∀ d, d < 32 → G d = true → ∃ v, (numW first d, v) ∈ L
  len : L.length = cntG G
theorem GotL.new {first : Nat} {G : Nat → Bool} {c : Nat} {L : List (Nat × Value)} (h : GotL first G c L) (d : Nat) (hd : d < 32) (hg : G d = false) : GotL first (addG G d) (c + 1) (L ++ [(numW first d, .int .i64 1)]) := by
  refine ⟨fun n v hv => ?_, fun e he hge => ?_, by rw [List.length_append, h.len, cntG_add G d hd hg]; rfl⟩
  · rcases List.mem_append.1 hv with hv | hv
    · obtain ⟨e, h1, h2, h3, z, h4, h5, h6⟩ := h.mem n v hv
      exact ⟨e, h1, by unfold addG; rw [h2]; rfl, h3, z, h4, h5, by omega⟩
    · simp only [List.mem_singleton, Prod.mk.injEq] at hv
      obtain ⟨rfl, rfl⟩ := hv
      exact ⟨d, hd, by simp [addG], rfl, 1, rfl, by omega, by omega⟩
  · by_cases hed : e = d
    · subst hed; exact ⟨.int .i64 1, List.mem_append.2 (.inr (by simp))⟩
    · have : G e = true := by unfold addG at hge; simpa [hed] using hge
      obtain ⟨v, hv⟩ := h.all e he this
      exact ⟨v, List.mem_append.2 (.inl hv)⟩
theorem GotL.more {first : Nat} {G : Nat → Bool} {c : Nat} {L : List (Nat × Value)} (h : GotL first G c L) (n z : Nat) (hz1 : 1 ≤ z) (hz : z ≤ c) : GotL first G (c + 1) (setL L n (.int .i64 ((z : Int) + 1))) := by
  refine ⟨fun m v hv => ?_, fun e he hge => ?_, by unfold setL; rw [List.length_map]; exact h.len⟩
  · obtain ⟨p, hp, e1⟩ := List.mem_map.1 hv
    by_cases hpn : p.1 = n
    · rw [if_pos hpn] at e1
      simp only [Prod.mk.injEq] at e1
      obtain ⟨d, h1, h2, h3, -⟩ := h.mem p.1 p.2 hp
      exact ⟨d, h1, h2, by rw [← e1.1]; exact h3, z + 1, by rw [← e1.2]; rfl, by omega, by omega⟩
    · rw [if_neg hpn] at e1
      subst e1
      obtain ⟨d, h1, h2, h3, z', h4, h5, h6⟩ := h.mem _ _ hp
      exact ⟨d, h1, h2, h3, z', h4, h5, by omega⟩
  · obtain ⟨v, hv⟩ := h.all e he hge
    refine ⟨if numW first e = n then .int .i64 ((z : Int) + 1) else v, List.mem_map.2 ⟨_, hv, ?_⟩⟩
    simp only
    split <;> rfl
theorem GotL.none {first : Nat} : GotL first (fun _ => false) 0 [] := ⟨(fun n v hv => by simp at hv), (fun d hd hg => by cases hg), by unfold cntG; rw [List.filter_eq_nil_iff.2 (fun a _ => by simp)]; rfl⟩
theorem GotL.no {first : Nat} {G : Nat → Bool} {c : Nat} {L : List (Nat × Value)} (h : GotL first G c L) (d : Nat) (hd : d < 32) (hno : ∀ p ∈ L, p.1 ≠ numW first d) : G d = false := by
  cases hg : G d with
  | false => rfl
  | true => obtain ⟨v, hv⟩ := h.all d hd hg; exact absurd rfl (hno _ hv)
theorem GotL.yes {first : Nat} {G : Nat → Bool} {c : Nat} {L : List (Nat × Value)} (h : GotL first G c L) (d : Nat) (hd : d < 32) {v : Value} (hv : (numW first d, v) ∈ L) : G d = true ∧ ∃ z : Nat, v = .int .i64 (z : Int) ∧ 1 ≤ z ∧ z ≤ c := by
  obtain ⟨e, h1, h2, h3, hz⟩ := h.mem _ _ hv
  have := num_inj first d e h3 (by omega) (by omega)
  subst this
  exact ⟨h2, hz⟩
theorem goW_len (f : Nat) (s : Ws) : (goW f s).1.l.length ≤ s.l.length := by
  induction f generalizing s with
  | zero => exact Nat.le_refl _
  | succ f ih =>
    cases h : findW s.l s.nx with
    | none => rw [goW_none h]; exact Nat.le_refl _
    | some t =>
      rw [goW_some h]
      exact Nat.le_trans (ih _) (List.length_filter_le _ _)
theorem putW_len (s : Ws) (n : Nat) (t : List UInt8) : (putW s n t).1.l.length ≤ s.l.length + 1 := by
  unfold putW
  split
  · simp
  · split
    · simp
    · split
      · simp
      · exact Nat.le_trans (goW_len _ _) (by simp)
/-- All that the second loop knows of what came. -/
def InA (first : Nat) (G : Nat → Bool) (s : Ws) : Prop := (∀ d, G d = true → d < 32) ∧ ∃ m, InG first m xT G s
theorem InA.put {first : Nat} {G : Nat → Bool} {s : Ws} (h : InA first G s) (d : Nat) (hd : d < 32) : InA first (addG G d) (putW s (numW first d) [120]).1 := by
  obtain ⟨h1, m, h2⟩ := h
  refine ⟨fun e he => ?_, ?_⟩
  · unfold addG at he
    rw [Bool.or_eq_true] at he
    rcases he with he | he
    · exact h1 e he
    · have : e = d := by simpa using he
      omega
  · have hm : m ≤ 32 := by
      apply Classical.byContradiction
      intro hc
      have := h1 32 (h2.lo 32 (by omega))
      omega
    by_cases hdm : d < m
    · rw [h2.put_old d hdm (by omega), addG_same G d (h2.lo d hdm)]
      exact ⟨m, h2⟩
    · rcases h2.put d (by omega) (by omega) with ⟨g1, g2⟩ | ⟨g1, s', m', -, g2, g3⟩
      · rw [show ([120] : List UInt8) = xT d from rfl, g2, addG_same G d g1]
        exact ⟨m, h2⟩
      · rw [show ([120] : List UInt8) = xT d from rfl, g2]
        exact ⟨m', g3⟩
theorem InA.ok {first : Nat} {G : Nat → Bool} {s : Ws} (h : InA first G s) : OkW s := by obtain ⟨-, m, h2⟩ := h; exact h2.ok
/-- What the ack tells: just what came; and it is no ack of what wasn't sent. -/
theorem InA.ack {first : Nat} {G : Nat → Bool} {s : Ws} (h : InA first G s) {B : Nat} (hB : ∀ k, B.testBit k = true ↔ ∃ p ∈ s.l, distW p.1 s.nx = k + 1) : (∀ d, d < 32 → hasB s.nx B (numW first d) = G d) ∧ (s.nx = numW first 32 ∨ s.nx ≠ numW first 32 ∧ belowB s.nx (numW first 32) = true) := by
  obtain ⟨h1, m, h2⟩ := h
  have hm : m ≤ 32 := by
    apply Classical.byContradiction
    intro hc
    have := h1 32 (h2.lo 32 (by omega))
    omega
  refine ⟨fun d hd => h2.has hB d (by omega) (by omega), ?_⟩
  rcases Nat.eq_or_lt_of_le hm with e | e
  · left; rw [h2.nx, e]
  · right
    refine ⟨fun e2 => ?_, ?_⟩
    · rw [h2.nx] at e2
      have := num_inj first m 32 e2 (by omega) (by omega)
      omega
    · unfold belowB
      rw [h2.nx, dist_lt first m 32 e (by omega)]
      exact decide_eq_true (by omega)
theorem filter_any (first : Nat) (F : Nat → Bool) (G : Nat → Bool) (R : List Nat) (h : ∀ d ∈ R, F (numW first d) = G d) : ((R.map (fun d => (numW first d, ([120] : List UInt8)))).filter (fun p => F p.1)).map (·.1) = (R.filter G).map (numW first) ∧ (R.map (fun d => (numW first d, ([120] : List UInt8)))).filter (fun p => !F p.1) = (R.filter (fun d => !G d)).map (fun d => (numW first d, [120])) := by
  induction R with
  | nil => exact ⟨rfl, rfl⟩
  | cons d R ih =>
    obtain ⟨i1, i2⟩ := ih (fun e he => h e (by simp [he]))
    have hd := h d (by simp)
    cases hg : G d with
    | true =>
      rw [hg] at hd
      refine ⟨?_, ?_⟩
      · rw [List.map_cons, List.filter_cons_of_pos (by simpa using hd), List.map_cons, i1, List.filter_cons_of_pos hg, List.map_cons]
      · rw [List.map_cons, List.filter_cons_of_neg (by simp [hd]), i2, List.filter_cons_of_neg (by simp [hg])]
    | false =>
      rw [hg] at hd
      refine ⟨?_, ?_⟩
      · rw [List.map_cons, List.filter_cons_of_neg (by simp [hd]), i1, List.filter_cons_of_neg (by simp [hg])]
      · rw [List.map_cons, List.filter_cons_of_pos (by simp [hd]), i2, List.filter_cons_of_pos (by simp [hg]), List.map_cons]
theorem filter_items (first nx B : Nat) (G : Nat → Bool) (h : ∀ d, d < 32 → hasB nx B (numW first d) = G d) : cameO nx B (itemsO first 32) = ((List.range 32).filter G).map (numW first) ∧ restO nx B (itemsO first 32) = ((List.range 32).filter (fun d => !G d)).map (fun d => (numW first d, [120])) := by
  unfold cameO restO itemsO
  exact filter_any first (hasB nx B) G (List.range 32) (fun d hd => h d (List.mem_range.1 hd))
theorem rest_rest (nx B : Nat) (l : List (Nat × List UInt8)) : cameO nx B (restO nx B l) = [] ∧ restO nx B (restO nx B l) = restO nx B l := by
  unfold cameO restO
  refine ⟨?_, ?_⟩
  · rw [List.map_eq_nil_iff, List.filter_eq_nil_iff]
    intro p hp
    have := (List.mem_filter.1 hp).2
    simpa using this
  · rw [List.filter_filter]
    simp
theorem cnt_rest (G : Nat → Bool) : ((List.range 32).filter (fun d => !G d)).length + cntG G = 32 := by
  unfold cntG
  have h : ∀ l : List Nat, (l.filter (fun d => !G d)).length + (l.filter G).length = l.length := by
    intro l
    induction l with
    | nil => rfl
    | cons x l ih =>
      by_cases hg : G x = true
      · rw [List.filter_cons_of_neg (by simp [hg]), List.filter_cons_of_pos hg]; simp; omega
      · rw [List.filter_cons_of_pos (by simp [hg]), List.filter_cons_of_neg hg]; simp; omega
  rw [h]; simp
end Go.Proofs.YtcbadcbnknmdnaaDoor
