/-
  The walk of the law FragCuts.
-/
import Derived.Test.YtlhcihjplolgiaaFrag6
namespace Go.Proofs.Ytlhcihjplolgiaa
open Go.RowKit
set_option linter.unusedVariables false

/-- A part comes behind blocks that were made meanwhile: these stay as they are. -/
theorem joPut_mid (w0 : World) (b : Nat) (s : Js) (p : Pt) (wr w : World) (h : JIn w0 b s wr) (hb : Below wr.heap.size wr w) (hn : s.n ≤ 1000000) (hl : s.l.length ≤ 65536) (hp : p.text.length ≤ 1000000) :
    Calls Try.prog 138 #[.pointer (some ⟨b, 0, none⟩), ptV p] w fun r w' => r = .returned (.tuple #[.string (bs (putJ s p).2.1), .bool (putJ s p).2.2.1, .int .i64 ((putJ s p).2.2.2 : Nat)]) ∧ JIn w0 b (putJ s p).1 w' ∧ ∀ X o, wr.heap.size ≤ X → X < w.heap.size → w'.cell? ⟨X, o, none⟩ = w.cell? ⟨X, o, none⟩ := by
  obtain ⟨v, h1, h2, h3, h4⟩ := h
  have hlt := h1.lt
  have hfr := h1.fresh
  have h5 := h4.trans (hb.mono h4.size)
  refine (joPut_any b v s p w (h1.keep hb) hn hl hp).mono ?_
  rintro r w' ⟨rfl, v', g1, g2, g3⟩
  refine ⟨rfl, ⟨v', g1, h2, fun k hk => ?_, h5.trans (g3.below h5.size ?_)⟩, fun X o hX hXw => g3.cell (p := ⟨X, o, none⟩) hXw ?_⟩
  · rcases g2 k hk with e | e
    · exact h3 k e
    · have := h5.size; omega
  · rintro k hk (e | e)
    · omega
    · have := h3 k e; omega
  · rintro (e | e)
    · have e' : X = b := e; omega
    · have := hfr X e; omega
/-- What is there behind k parts. -/
def jK (l : List UInt8) (k : Nat) : Js := if k ≤ moreN l.length then ⟨k, l.take (200 * k)⟩ else ⟨0, []⟩
theorem jK_len (l : List UInt8) (k : Nat) (hl : l.length ≤ 65536) : (jK l k).l.length ≤ 65536 := by
  unfold jK; split
  · simp only [List.length_take]; omega
  · simp
theorem jK_n (l : List UInt8) (k : Nat) (hl : l.length ≤ 65536) : (jK l k).n ≤ 1000000 := by
  unfold jK; split
  · rename_i h; simp only; unfold moreN at h; omega
  · simp
theorem putJ_jK (l : List UInt8) (k : Nat) (hl : l.length ≤ 65536) (hk : k < moreN l.length) : putJ (jK l k) (ptAt l k) = (jK l (k + 1), [], false, 0) := by
  have h1 : ((l.drop (200 * k)).take 200).length ≤ 200 := by rw [List.length_take]; omega
  have e : jK l k = ⟨k, l.take (200 * k)⟩ := if_pos (by omega)
  have e2 : jK l (k + 1) = ⟨k + 1, l.take (200 * k) ++ (l.drop (200 * k)).take 200⟩ := by
    unfold jK
    rw [if_pos (by omega), show 200 * (k + 1) = 200 * k + 200 by omega, List.take_add]
  rw [e, e2]
  exact putJ_more ⟨k, l.take (200 * k)⟩ _ h1 (by rw [← List.length_append, ← List.take_add, List.length_take]; omega)
theorem putJ_end (l : List UInt8) (hl : l.length ≤ 65536) : putJ (jK l (moreN l.length)) (lastP l) = (jK l (moreN l.length + 1), l, true, 0) := by
  have e : jK l (moreN l.length) = ⟨moreN l.length, l.take (200 * moreN l.length)⟩ := if_pos (Nat.le_refl _)
  have e2 : jK l (moreN l.length + 1) = ⟨0, []⟩ := if_neg (by omega)
  rw [e, e2]
  have h := putJ_last ⟨moreN l.length, l.take (200 * moreN l.length)⟩ (l.drop (200 * moreN l.length)) (by rw [List.length_drop]; unfold moreN; omega) (by simp only [List.length_take, List.length_drop]; omega)
  simp only [List.take_append_drop] at h
  exact h
end Go.Proofs.Ytlhcihjplolgiaa
