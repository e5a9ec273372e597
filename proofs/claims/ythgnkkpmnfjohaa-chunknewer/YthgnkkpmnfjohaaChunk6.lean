/-
  Layer 11: a piece's bytes, and back: plain mathematics of the reader.
-/
import Derived.Test.YthgnkkpmnfjohaaChunk2
import Derived.Test.YthgnkkpmnfjohaaUnMath
namespace Go.Proofs.Ythgnkkpmnfjohaa
open Go.RowKit
set_option linter.unusedVariables false

/-- A text, as the reader takes it. -/
theorem rawS_zero {st : St} {n : Int} (h : (rawS st n).1.2 = 0) : st.2 = 0 := by
  unfold rawS at h
  split at h
  · exact (failS_zero h).1
  · exact h
theorem strS_zero {st : St} {m : Int} (h : (strS st m).1.2 = 0) : st.2 = 0 := countS_zero (rawS_zero h)
def stxS (m : Nat) (st : St) : St × List UInt8 := strS st (m : Int)
theorem stxC (m : Nat) (hm : m ≤ 1000) : Codec (stxS m) (fun t => numB t.length ++ t) (fun t => t.length ≤ m) where
  back t r h := by
    show rawS (countS (numB t.length ++ t ++ r, 0) (m : Int)).1 ((countS (numB t.length ++ t ++ r, 0) (m : Int)).2 : Int) = _
    have hc := (countC m (by omega)).back t.length (t ++ r) h
    rw [List.append_assoc, hc, rawS_yes _ _ (by simp)]
    simp
  cut t p h hp hne := by
    show (rawS (countS (p, 0) (m : Int)).1 ((countS (p, 0) (m : Int)).2 : Int)).1 = _
    rcases prefix_parts hp with ⟨h1, h2⟩ | ⟨q, rfl, hq⟩
    · have hc := (countC m (by omega)).cut t.length p h h1 h2
      rw [hc, rawS_err _ (by decide) (fun _ => rfl)]
    · have hc := (countC m (by omega)).back t.length q h
      rw [hc]
      have hlt : q.length < t.length := by
        have h1 := hq.length_le
        rcases Nat.lt_or_ge q.length t.length with h2 | h2
        · exact h2
        · exact absurd (hq.eq_of_length (by omega)) (fun e => hne (by rw [e]))
      rw [rawS_end _ _ (by omega)]
  stick e he := by
    show (rawS (countS ([], e) (m : Int)).1 ((countS ([], e) (m : Int)).2 : Int)).1 = _
    have hc := (countC m (by omega)).stick e he
    rw [hc, rawS_err _ he (fun _ => rfl)]
  spell l h := by
    have h' : (rawS (countS (l, 0) (m : Int)).1 ((countS (l, 0) (m : Int)).2 : Int)).1.2 = 0 := h
    show l = numB (rawS (countS (l, 0) (m : Int)).1 ((countS (l, 0) (m : Int)).2 : Int)).2.length ++ (rawS (countS (l, 0) (m : Int)).1 ((countS (l, 0) (m : Int)).2 : Int)).2 ++ (rawS (countS (l, 0) (m : Int)).1 ((countS (l, 0) (m : Int)).2 : Int)).1.1
    have hz := rawS_zero h'
    have hs := (countC m (by omega)).spell l hz
    generalize countS (l, 0) (m : Int) = t at h' hz hs ⊢
    obtain ⟨⟨lq, eq⟩, n⟩ := t
    simp only at h' hz hs ⊢
    subst hz
    by_cases hn : n ≤ lq.length
    · rw [rawS_yes _ _ hn]
      simp only [List.length_take]
      rw [Nat.min_eq_left hn, List.append_assoc, List.take_append_drop]
      exact hs
    · rw [rawS_end _ _ (by omega)] at h'
      simp at h'
  nil l h := by
    have h' : (rawS (countS (l, 0) (m : Int)).1 ((countS (l, 0) (m : Int)).2 : Int)).1.2 ≠ 0 := h
    show (rawS (countS (l, 0) (m : Int)).1 ((countS (l, 0) (m : Int)).2 : Int)).1.1 = []
    have hnl := (countC m (by omega)).nil l
    generalize countS (l, 0) (m : Int) = t at h' hnl ⊢
    obtain ⟨⟨lq, eq⟩, n⟩ := t
    simp only at h' hnl ⊢
    by_cases he : eq = 0
    · subst he
      by_cases hn : n ≤ lq.length
      · rw [rawS_yes _ _ hn] at h'; simp at h'
      · rw [rawS_end _ _ (by omega)]
    · rw [rawS_err _ he (fun _ => hnl he)]
      exact hnl he
/-- A piece, as the reader takes it; the readers of its parts are told. -/
def pcG4 (t b : Nat) (h : Nat) (n : Nat) (x : List UInt8) (st : St) : St × Pc := (failS st (checkP ⟨(t : Int), (b : Int), h, (n : Int), x⟩), ⟨(t : Int), (b : Int), h, (n : Int), x⟩)
def pcG (C1 C2 N C3 : St → St × Nat) (S : St → St × List UInt8) (st : St) : St × Pc :=
  pcG4 (C1 st).2 (C2 (C1 st).1).2 (N (C2 (C1 st).1).1).2 (C3 (N (C2 (C1 st).1).1).1).2 (S (C3 (N (C2 (C1 st).1).1).1).1).2 (S (C3 (N (C2 (C1 st).1).1).1).1).1
theorem pcG_eq (C1 C2 N C3 : St → St × Nat) (S : St → St × List UInt8) (st : St) : pcG C1 C2 N C3 S st =
    (failS (S (C3 (N (C2 (C1 st).1).1).1).1).1 (checkP ⟨((C1 st).2 : Int), ((C2 (C1 st).1).2 : Int), (N (C2 (C1 st).1).1).2, ((C3 (N (C2 (C1 st).1).1).1).2 : Int), (S (C3 (N (C2 (C1 st).1).1).1).1).2⟩),
     ⟨((C1 st).2 : Int), ((C2 (C1 st).1).2 : Int), (N (C2 (C1 st).1).1).2, ((C3 (N (C2 (C1 st).1).1).1).2 : Int), (S (C3 (N (C2 (C1 st).1).1).1).1).2⟩) := rfl
def pieceB (p : Pc) : List UInt8 := numB p.turn.toNat ++ (numB p.bytes.toNat ++ (numB p.hash ++ (numB p.n.toNat ++ (numB p.text.length ++ p.text))))
def PcDom (p : Pc) : Prop := checkP p = 0 ∧ p.hash < 18446744073709551616
theorem pcDom_in {p : Pc} (h : checkP p = 0) : 0 ≤ p.turn ∧ p.turn ≤ 1099511627776 ∧ 1 ≤ p.bytes ∧ p.bytes ≤ 65536 ∧ 0 ≤ p.n ∧ p.n < 656 ∧ p.text.length ≤ 100 := by
  unfold checkP at h
  have h1 : ¬ (p.turn < 0 ∨ 1099511627776 < p.turn ∨ p.n < 0) := fun e => by rw [if_pos e] at h; omega
  rw [if_neg h1] at h
  have h2 : ¬ (p.bytes < 1 ∨ 65536 < p.bytes) := fun e => by rw [if_pos e] at h; omega
  rw [if_neg h2] at h
  have h3 : ¬ (countP p.bytes ≤ p.n ∨ (p.text.length : Int) ≠ min (p.bytes - p.n * 100) 100) := fun e => by rw [if_pos e] at h; omega
  have h4 : countP p.bytes ≤ 656 := by unfold countP; split <;> omega
  omega
theorem pcGC {C1 C2 N C3 : St → St × Nat} {S : St → St × List UInt8} (h1 : Codec C1 numB (fun n => n ≤ 1099511627776)) (h2 : Codec C2 numB (fun n => n ≤ 65536)) (h3 : Codec N numB (fun n => n < 18446744073709551616)) (h4 : Codec C3 numB (fun n => n ≤ 65536)) (h5 : Codec S (fun t => numB t.length ++ t) (fun t => t.length ≤ 100)) : Codec (pcG C1 C2 N C3 S) pieceB PcDom := by
  have g5 : ∀ t b h n, Codec (fun st => pcG4 t b h n (S st).2 (S st).1) (fun p : Pc => (numB p.text.length ++ p.text) ++ []) (fun p => p.text.length ≤ 100 ∧ (p = ⟨(t : Int), (b : Int), h, (n : Int), p.text⟩ ∧ checkP ⟨(t : Int), (b : Int), h, (n : Int), p.text⟩ = 0)) := fun t b h n =>
    Codec.bind h5 (fun x => Codec.fail (⟨(t : Int), (b : Int), h, (n : Int), x⟩ : Pc) (checkP ⟨(t : Int), (b : Int), h, (n : Int), x⟩)) (fun p => p.text) (fun a st => rfl)
  have g4 : ∀ t b h, Codec (fun st => pcG4 t b h (C3 st).2 (S (C3 st).1).2 (S (C3 st).1).1) (fun p : Pc => numB p.n.toNat ++ ((numB p.text.length ++ p.text) ++ [])) (fun p => p.n.toNat ≤ 65536 ∧ (p.text.length ≤ 100 ∧ (p = ⟨(t : Int), (b : Int), h, (p.n.toNat : Int), p.text⟩ ∧ checkP ⟨(t : Int), (b : Int), h, (p.n.toNat : Int), p.text⟩ = 0))) := fun t b h =>
    Codec.bind h4 (fun n => g5 t b h n) (fun p => p.n.toNat) (fun a st => rfl)
  have g3 : ∀ t b, Codec (fun st => pcG4 t b (N st).2 (C3 (N st).1).2 (S (C3 (N st).1).1).2 (S (C3 (N st).1).1).1) (fun p : Pc => numB p.hash ++ (numB p.n.toNat ++ ((numB p.text.length ++ p.text) ++ []))) (fun p => p.hash < 18446744073709551616 ∧ (p.n.toNat ≤ 65536 ∧ (p.text.length ≤ 100 ∧ (p = ⟨(t : Int), (b : Int), p.hash, (p.n.toNat : Int), p.text⟩ ∧ checkP ⟨(t : Int), (b : Int), p.hash, (p.n.toNat : Int), p.text⟩ = 0)))) := fun t b =>
    Codec.bind h3 (fun h => g4 t b h) (fun p => p.hash) (fun a st => rfl)
  have g2 : ∀ t, Codec (fun st => pcG4 t (C2 st).2 (N (C2 st).1).2 (C3 (N (C2 st).1).1).2 (S (C3 (N (C2 st).1).1).1).2 (S (C3 (N (C2 st).1).1).1).1) (fun p : Pc => numB p.bytes.toNat ++ (numB p.hash ++ (numB p.n.toNat ++ ((numB p.text.length ++ p.text) ++ [])))) (fun p => p.bytes.toNat ≤ 65536 ∧ (p.hash < 18446744073709551616 ∧ (p.n.toNat ≤ 65536 ∧ (p.text.length ≤ 100 ∧ (p = ⟨(t : Int), (p.bytes.toNat : Int), p.hash, (p.n.toNat : Int), p.text⟩ ∧ checkP ⟨(t : Int), (p.bytes.toNat : Int), p.hash, (p.n.toNat : Int), p.text⟩ = 0))))) := fun t =>
    Codec.bind h2 (fun b => g3 t b) (fun p => p.bytes.toNat) (fun a st => rfl)
  have g1 : Codec (pcG C1 C2 N C3 S) (fun p : Pc => numB p.turn.toNat ++ (numB p.bytes.toNat ++ (numB p.hash ++ (numB p.n.toNat ++ ((numB p.text.length ++ p.text) ++ []))))) (fun p => p.turn.toNat ≤ 1099511627776 ∧ (p.bytes.toNat ≤ 65536 ∧ (p.hash < 18446744073709551616 ∧ (p.n.toNat ≤ 65536 ∧ (p.text.length ≤ 100 ∧ (p = ⟨(p.turn.toNat : Int), (p.bytes.toNat : Int), p.hash, (p.n.toNat : Int), p.text⟩ ∧ checkP ⟨(p.turn.toNat : Int), (p.bytes.toNat : Int), p.hash, (p.n.toNat : Int), p.text⟩ = 0)))))) :=
    Codec.bind h1 (fun t => g2 t) (fun p => p.turn.toNat) (fun a st => rfl)
  refine (g1.same fun p => by simp [pieceB]).sub fun p hp => ?_
  obtain ⟨hc, hh⟩ := hp
  have hb := pcDom_in hc
  have e1 : (p.turn.toNat : Int) = p.turn := by omega
  have e2 : (p.bytes.toNat : Int) = p.bytes := by omega
  have e3 : (p.n.toNat : Int) = p.n := by omega
  rw [e1, e2, e3]
  exact ⟨by omega, by omega, hh, by omega, hb.2.2.2.2.2.2, rfl, hc⟩
def pieceS (st : St) : St × Pc := pcG (cntS 1099511627776) (cntS 65536) numS (cntS 65536) (stxS 100) st
theorem pieceC : Codec pieceS pieceB PcDom := pcGC (cntR _ (by decide)).cod (cntR _ (by decide)).cod numC (cntR _ (by decide)).cod (stxC 100 (by decide))
end Go.Proofs.Ythgnkkpmnfjohaa
