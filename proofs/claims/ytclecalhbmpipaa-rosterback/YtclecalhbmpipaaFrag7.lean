/-
  Layer 12: the parts of messages, one behind the other; rows that are put behind rows.
-/
import Derived.Test.YtclecalhbmpipaaWalkFCuts
namespace Go.Proofs.Ytclecalhbmpipaa
open Go.RowKit
set_option linter.unusedVariables false

/-- What parts come to, one behind the other: what is there behind them, and the messages. -/
def afterJ (s : Js) : List Pt → Js × List (List UInt8)
  | [] => (s, [])
  | p :: t => ((afterJ (putJ s p).1 t).1, (if (putJ s p).2.2.1 = true then [(putJ s p).2.1] else []) ++ (afterJ (putJ s p).1 t).2)
/-- None of them finds an error. -/
def goodJ (s : Js) : List Pt → Prop
  | [] => True
  | p :: t => (putJ s p).2.2.2 = 0 ∧ goodJ (putJ s p).1 t
theorem afterJ_append (s : Js) (a b : List Pt) : afterJ s (a ++ b) = ((afterJ (afterJ s a).1 b).1, (afterJ s a).2 ++ (afterJ (afterJ s a).1 b).2) := by
  induction a generalizing s with
  | nil => simp [afterJ]
  | cons p t ih => simp only [List.cons_append, afterJ, ih, List.append_assoc]
theorem goodJ_append (s : Js) (a b : List Pt) (h1 : goodJ s a) (h2 : goodJ (afterJ s a).1 b) : goodJ s (a ++ b) := by
  induction a generalizing s with
  | nil => simpa [afterJ] using h2
  | cons p t ih => exact ⟨h1.1, ih _ h1.2 h2⟩
theorem afterJ_one (s : Js) (p : Pt) : afterJ s [p] = ((putJ s p).1, if (putJ s p).2.2.1 = true then [(putJ s p).2.1] else []) := by simp [afterJ]
theorem cutK_after (l : List UInt8) (hl : l.length ≤ 65536) (k : Nat) (hk : k ≤ moreN l.length) : afterJ ⟨0, []⟩ (cutK l k) = (jK l k, []) ∧ goodJ ⟨0, []⟩ (cutK l k) := by
  induction k with
  | zero =>
    refine ⟨?_, trivial⟩
    show (({ n := 0, l := [] } : Js), ([] : List (List UInt8))) = _
    rw [show jK l 0 = ⟨0, []⟩ from if_pos (Nat.zero_le _)]
  | succ k ih =>
    obtain ⟨i1, i2⟩ := ih (by omega)
    have hp := putJ_jK l k hl (by omega)
    rw [cutK_succ]
    refine ⟨?_, goodJ_append _ _ _ i2 ?_⟩
    · rw [afterJ_append, i1, afterJ_one]
      simp only [hp]; rfl
    · rw [i1]
      exact ⟨by simp only [hp], trivial⟩
theorem cutL_after (l : List UInt8) (hl : l.length ≤ 65536) : afterJ ⟨0, []⟩ (cutL l) = (⟨0, []⟩, [l]) ∧ goodJ ⟨0, []⟩ (cutL l) := by
  obtain ⟨i1, i2⟩ := cutK_after l hl _ (Nat.le_refl _)
  have hp := putJ_end l hl
  have he : jK l (moreN l.length + 1) = ⟨0, []⟩ := if_neg (by omega)
  rw [he] at hp
  unfold cutL
  refine ⟨?_, goodJ_append _ _ _ i2 ?_⟩
  · rw [afterJ_append, i1, afterJ_one]
    simp only [hp]; rfl
  · rw [i1]
    exact ⟨by simp only [hp], trivial⟩
def partsOf (ms : List (List UInt8)) : List Pt := (ms.map cutL).flatten
theorem parts_after (ms : List (List UInt8)) (h : ∀ m ∈ ms, m.length ≤ 65536) : afterJ ⟨0, []⟩ (partsOf ms) = (⟨0, []⟩, ms) ∧ goodJ ⟨0, []⟩ (partsOf ms) := by
  induction ms with
  | nil => exact ⟨rfl, trivial⟩
  | cons m t ih =>
    obtain ⟨i1, i2⟩ := ih (fun x hx => h x (by simp [hx]))
    obtain ⟨j1, j2⟩ := cutL_after m (h m (by simp))
    show afterJ ⟨0, []⟩ (cutL m ++ partsOf t) = _ ∧ goodJ ⟨0, []⟩ (cutL m ++ partsOf t)
    refine ⟨?_, goodJ_append _ _ _ j2 (by rw [j1]; exact i2)⟩
    rw [afterJ_append, j1, i1]; rfl
/-- The k-th part: what is there ahead of it and behind it. -/
theorem take_after (s : Js) (ps : List Pt) (k : Nat) (hk : k < ps.length) (hg : goodJ s ps) : (putJ (afterJ s (ps.take k)).1 ps[k]).2.2.2 = 0 ∧ afterJ s (ps.take (k + 1)) = ((putJ (afterJ s (ps.take k)).1 ps[k]).1, (afterJ s (ps.take k)).2 ++ if (putJ (afterJ s (ps.take k)).1 ps[k]).2.2.1 = true then [(putJ (afterJ s (ps.take k)).1 ps[k]).2.1] else []) := by
  refine ⟨?_, ?_⟩
  · induction ps generalizing s k with
    | nil => simp at hk
    | cons p t ih =>
      cases k with
      | zero => exact hg.1
      | succ k => exact ih _ k (by simpa using hk) hg.2
  · rw [List.take_succ_eq_append_getElem hk, afterJ_append, afterJ_one]
theorem afterJ_len (s : Js) (ps : List Pt) (hs : s.l.length ≤ 65536) : (afterJ s ps).1.l.length ≤ 65536 := by
  induction ps generalizing s with
  | nil => exact hs
  | cons p t ih => exact ih _ (putJ_len s p hs)
theorem afterJ_n (s : Js) (ps : List Pt) : (afterJ s ps).1.n ≤ s.n + ps.length := by
  induction ps generalizing s with
  | nil => simp [afterJ]
  | cons p t ih =>
    have h1 := ih (putJ s p).1
    have h2 := putJ_n s p
    show (afterJ (putJ s p).1 t).1.n ≤ _
    simp only [List.length_cons]; omega
theorem afterJ_msgs (s : Js) (ps : List Pt) : (afterJ s ps).2.length ≤ ps.length := by
  induction ps generalizing s with
  | nil => simp [afterJ]
  | cons p t ih =>
    have h1 := ih (putJ s p).1
    simp only [afterJ, List.length_append, List.length_cons]
    split <;> simp <;> omega
/-- A row of records put behind a row of one's own. -/
theorem own_app {e T : TypeId} {k by' : Nat} {z : Value} (H : VTy e k z by') (hT : Try.prog.underlying T = some (.slice e)) {w : World} {B : Nat} {a : Option Addr} {c : Nat} {ls : List (List Value)} (h : OwnV e k B a c ls w) (g off m c2 : Nat) (news : List (List Value)) (hw : VWide k news) (hm : news.length = m)
    (hc : ∀ i (hi : i < news.length) j, j < k → w.cell? ⟨g, off + i * k + j, none⟩ = news[i][j]?) (hl : ls.length + m ≤ 1000000) (n : Nat) (hn : ls.length = n) :
    ∃ a' c' w', (Builtin.append_ #[T, T] T #[.slice a n c, .slice (some ⟨g, off, none⟩) m c2]).run Try.prog w = .ok (.slice a' (n + m) c') w' ∧ OwnV e k 0 a' c' (ls ++ news) w' ∧ Touch (fun b => a.map (·.block) = some b) w w' ∧ (∀ x, a' = some x → a.map (·.block) = some x.block ∨ w.heap.size ≤ x.block) := by
  subst hn
  obtain ⟨i0, hi, hz0, hz1, hz2⟩ := info_is H.info
  have hf1 := H.few.1
  have hf2 := H.few.2
  have hpos := H.pos
  obtain ⟨v', w', hrun, ho, hg, hf⟩ := append_exact (P := Try.prog) w T T e i0 z k by' hT hi hz0 hz1 hz2 H.cells H.pos (.slice a ls.length c) ls.length ls.flatten h.1 ⟨g, off, none⟩ m c2 news.flatten (by rw [vflat_len hw, hm])
    (fun j u hu => by
      have hj : j < news.flatten.length := (List.getElem?_eq_some_iff.1 hu).1
      rw [vflat_len hw] at hj
      have hi' : j / k < news.length := Nat.div_lt_of_lt_mul (by rw [Nat.mul_comm]; exact hj)
      have hjm : j % k < k := Nat.mod_lt _ hpos
      have e1 := vflat_at hw (j / k) hi' (j % k) hjm
      rw [Nat.mul_comm, Nat.div_add_mod] at e1
      have e2 := hc (j / k) hi' (j % k) hjm
      rw [← e1, hu, Nat.add_assoc, Nat.mul_comm, Nat.div_add_mod] at e2
      exact add_cellR e2)
    (fun u hu => by
      obtain ⟨x, hx, hux⟩ := List.mem_flatten.1 hu
      exact (hw x hx).2 u hux)
    (by unfold maxLen; omega) (by have := Nat.mul_le_mul (show ls.length + m ≤ 1000000 from hl) hf2; omega)
  have hsh : ∃ a' c', v' = .slice a' (ls.length + m) c' := by
    rcases ho.2 with ⟨hv, h0⟩ | ⟨g', cap, cur, hv, -⟩
    · exact ⟨none, 0, by rw [hv, h0]⟩
    · exact ⟨_, cap, hv⟩
  obtain ⟨a', c', rfl⟩ := hsh
  refine ⟨a', c', w', hrun, ⟨?_, fun _ _ => Nat.zero_le _⟩, ?_, fun x hx => ?_⟩
  · rw [List.length_append, hm, List.flatten_append]; exact ho
  · refine (touch_grown hg).mono fun b _ hb => ?_
    cases a with
    | none => simp [Value.ownBlock] at hb
    | some y => simpa [Value.ownBlock] using hb
  · subst hx
    rcases hf x.block (by simp [Value.ownBlock]) with e1 | e1
    · left
      cases a with
      | none => simp [Value.ownBlock] at e1
      | some y => simpa [Value.ownBlock] using e1
    · exact .inr e1
theorem strTy : VTy 9 1 (.string ⟨#[]⟩) 16 := ⟨by kernel_rfl, rfl, by decide, by decide⟩
def strCells1 (m : List UInt8) : List Value := [.string (bs m)]
theorem str_wide (ms : List (List UInt8)) : VWide 1 (ms.map strCells1) := by
  intro x hx
  obtain ⟨p, -, rfl⟩ := List.mem_map.1 hx
  exact ⟨rfl, fun u hu => by simp only [strCells1, List.mem_singleton] at hu; subst hu; rfl⟩
end Go.Proofs.Ytclecalhbmpipaa
