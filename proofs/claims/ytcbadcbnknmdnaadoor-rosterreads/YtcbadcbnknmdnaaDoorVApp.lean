/-
  Rows of records of any cells: a row, or none, put behind a row of the call's own.
-/
import Derived.Test.YtcbadcbnknmdnaaDoorRWin1
namespace Go.Proofs.YtcbadcbnknmdnaaDoor
open Go.RowKit
set_option linter.unusedVariables false

/-- A row of the call's own, that none had before. -/
def NewV (e k : Nat) (w : World) (a : Option Addr) (c : Nat) (ls : List (List Value)) (w' : World) : Prop := OwnV e k w.heap.size a c ls w' ∧ Below w.heap.size w w'
theorem NewV.keep {e k : Nat} {w : World} {a : Option Addr} {c : Nat} {ls : List (List Value)} {w1 w2 : World} (h : NewV e k w a c ls w1) (hb : Below w1.heap.size w1 w2) : NewV e k w a c ls w2 :=
  ⟨h.1.touch (touch_of_below (S := fun _ => False) hb) (fun _ _ => id), h.2.trans (hb.mono h.2.size)⟩
theorem NewV.drew {e k : Nat} {w : World} {a : Option Addr} {c : Nat} {ls : List (List Value)} {w1 : World} (h : NewV e k w a c ls w1) : NewV e k w a c ls w1.drew := h.keep (Below.refl _ _).drew
theorem NewV.none (e k : Nat) {w w1 : World} (h : Below w.heap.size w w1) : NewV e k w none 0 [] w1 := ⟨⟨World.ownsRow_nil _ _ _ _, (fun x hx => by cases hx)⟩, h⟩
theorem NewV.made (e k : Nat) {w W : World} (h : Below w.heap.size w W) (m : Nat) (hm : m = W.heap.size) : NewV e k w (some ⟨m, 0, Option.none⟩) 0 [] (W.alloc (.cells #[] e)) := by
  subst hm
  refine ⟨⟨⟨by simp, .inr ⟨W.heap.size, 0, #[], rfl, Nat.zero_le _, ?_, Nat.le_refl _, by unfold maxLen; omega, by simp, by simp⟩⟩, fun x hx => by cases hx; exact h.size⟩, bel_alloc h _⟩
  show (W.heap.push (.cells #[] e))[W.heap.size]? = _
  simp
theorem own_appx {e T ty : TypeId} {k by' : Nat} {z : Value} (H : VTy e k z by') (hT : Tryd.prog.underlying T = some (.slice e)) {w : World} {B : Nat} {a : Option Addr} {c : Nat} {ls : List (List Value)} (h : OwnV e k B a c ls w) (a2 : Option Addr) (c2 : Nat) (news : List (List Value)) (hw : VWide k news) (hr : VRow k w a2 news) (hn2 : a2 = none → news = []) (hl : ls.length + news.length ≤ 1000000) :
    ∃ a' c' w', (Builtin.append_ #[T, T] ty #[.slice a ls.length c, .slice a2 news.length c2]).run Tryd.prog w = .ok (.slice a' (ls.length + news.length) c') w' ∧ OwnV e k 0 a' c' (ls ++ news) w' ∧ Touch (fun b => a.map (·.block) = some b) w w' ∧ (∀ x, a' = some x → a.map (·.block) = some x.block ∨ w.heap.size ≤ x.block) := by
  obtain ⟨i0, hi, hz0, hz1, hz2⟩ := info_is H.info
  have hf1 := H.few.1
  have hf2 := H.few.2
  have hpos := H.pos
  cases a2 with
  | none =>
    have := hn2 rfl
    subst this
    have hrun : (Builtin.append_ #[T, T] ty #[.slice a ls.length c, .slice none 0 c2]).run Tryd.prog w = .ok (.slice a ls.length c) w := by
      rcases h.1.2 with ⟨h0, h1⟩ | ⟨g, cap, cur, h0, _, _, hnc, _⟩
      · rw [h0]
        simp [Builtin.append_, run_underlying hT, sizeOf, typeInfo, hi, Builtin.lenOf, Builtin.firstCells]
      · rw [h0]
        simp [Builtin.append_, run_underlying hT, sizeOf, typeInfo, hi, Builtin.lenOf, Builtin.firstCells, hnc, storeCells]
    exact ⟨a, c, w, by simpa using hrun, by rw [List.append_nil]; exact ⟨h.1, fun _ _ => Nat.zero_le _⟩, Touch.refl _ _, fun x hx => .inl (by rw [hx]; rfl)⟩
  | some x =>
    obtain ⟨v', w', hrun, ho, hg, hf⟩ := append_exact (P := Tryd.prog) w T ty e i0 z k by' hT hi hz0 hz1 hz2 H.cells H.pos (.slice a ls.length c) ls.length ls.flatten h.1 x news.length c2 news.flatten (vflat_len hw)
      (fun j u hu => by
        have hj : j < news.flatten.length := (List.getElem?_eq_some_iff.1 hu).1
        rw [vflat_len hw] at hj
        have hm0 : 0 < news.length := by
          rcases Nat.eq_zero_or_pos news.length with h | h
          · rw [h] at hj; simp at hj
          · exact h
        obtain ⟨g, off, e0, hc⟩ := hr hm0
        simp only [Option.some.injEq] at e0
        subst e0
        have hi' : j / k < news.length := Nat.div_lt_of_lt_mul (by rw [Nat.mul_comm]; exact hj)
        have hjm : j % k < k := Nat.mod_lt _ hpos
        have e1 := vflat_at hw (j / k) hi' (j % k) hjm
        rw [Nat.mul_comm, Nat.div_add_mod] at e1
        have e2 := hc (j / k) hi' (j % k) hjm
        rw [← e1, hu, Nat.add_assoc, Nat.mul_comm, Nat.div_add_mod] at e2
        exact add_cellR e2)
      (fun u hu => by
        obtain ⟨x, hx, hux⟩ := List.mem_flatten.1 hu
        exact (hw x hx).2 u hux)
      (by unfold maxLen; omega) (by have := Nat.mul_le_mul (show ls.length + news.length ≤ 1000000 from hl) hf2; omega)
    have hsh : ∃ a' c', v' = .slice a' (ls.length + news.length) c' := by
      rcases ho.2 with ⟨hv, h0⟩ | ⟨g', cap, cur, hv, -⟩
      · exact ⟨none, 0, by rw [hv, h0]⟩
      · exact ⟨_, cap, hv⟩
    obtain ⟨a', c', rfl⟩ := hsh
    refine ⟨a', c', w', hrun, ⟨?_, fun _ _ => Nat.zero_le _⟩, ?_, fun x hx => ?_⟩
    · rw [List.length_append, List.flatten_append]; exact ho
    · refine (touch_grown hg).mono fun b _ hb => ?_
      cases a with
      | none => simp [Value.ownBlock] at hb
      | some y => simpa [Value.ownBlock] using hb
    · subst hx
      rcases hf x.block (by simp [Value.ownBlock]) with e1 | e1
      · left
        cases a with
        | none => simp [Value.ownBlock] at e1
        | some y => simpa [Value.ownBlock] using e1
      · exact .inr e1
theorem newV_more {e T ty : TypeId} {k by' : Nat} {z : Value} (H : VTy e k z by') (hT : Tryd.prog.underlying T = some (.slice e)) {w w1 : World} {a1 : Option Addr} {c1 : Nat} {l m : List (List Value)} (h : NewV e k w a1 c1 l w1) (hw : VWide k m) (a : Option Addr) (c : Nat) (hr : VRow k w1 a m) (hn : a = none → m = []) (hl : l.length + m.length ≤ 1000000) :
    ∃ a' c' w', (Builtin.append_ #[T, T] ty #[.slice a1 l.length c1, .slice a m.length c]).run Tryd.prog w1 = .ok (.slice a' (l.length + m.length) c') w' ∧ NewV e k w a' c' (l ++ m) w' ∧ Touch (fun b => a1.map (·.block) = some b) w1 w' := by
  obtain ⟨a', c', w', h1, h2, h3, h4⟩ := own_appx (ty := ty) H hT h.1 a c m hw hr hn hl
  have hs := h.2.size
  refine ⟨a', c', w', h1, ⟨⟨h2.1, fun x hx => ?_⟩, h.2.trans (h3.below hs fun b hb e1 => ?_)⟩, h3⟩
  · rcases h4 x hx with e1 | e1
    · exact map_none (P := fun b => w.heap.size ≤ b) h.1.2 _ e1
    · omega
  · have := map_none (P := fun b => w.heap.size ≤ b) h.1.2 _ e1
    omega
theorem NewV.cap {e k : Nat} {w : World} {a : Option Addr} {c : Nat} {ls : List (List Value)} {w' : World} (h : NewV e k w a c ls w') : ls.length ≤ c ∧ c ≤ maxLen ∧ (a = Option.none → ls = []) := by
  rcases h.1.1.2 with ⟨hv, h0⟩ | ⟨g, cap, cur, hv, -, -, hnc, hcm, -⟩
  · simp only [Value.slice.injEq] at hv
    exact ⟨by omega, by rw [hv.2.2]; unfold maxLen; omega, fun _ => List.eq_nil_of_length_eq_zero h0⟩
  · simp only [Value.slice.injEq] at hv
    refine ⟨by rw [hv.2.2]; exact hnc, by rw [hv.2.2]; exact hcm, fun e0 => ?_⟩
    rw [hv.1] at e0; cases e0
/-- What the document's calls leave of a row: the one that came, or one of their own. -/
structure RNew (w : World) (a0 : Option Addr) (a : Option Addr) (c : Nat) (L : Its) (w' : World) : Prop where
  row : RRow w' a L
  nn : a = none → L = []
  cap : L.length ≤ c
  cmax : c ≤ maxLen
  fresh : a = a0 ∨ ∀ x, a = some x → w.heap.size ≤ x.block ∧ x.block < w'.heap.size
  bel : Below w.heap.size w w'
theorem RNew.keep {w : World} {a0 a : Option Addr} {c : Nat} {L : Its} {w1 w2 : World} (h : RNew w a0 a c L w1) (hb : Below w1.heap.size w1 w2) : RNew w a0 a c L w2 :=
  ⟨h.row.below hb, h.nn, h.cap, h.cmax, h.fresh.imp id (fun g x hx => ⟨(g x hx).1, by have := (g x hx).2; have := hb.size; omega⟩), h.bel.trans (hb.mono h.bel.size)⟩
end Go.Proofs.YtcbadcbnknmdnaaDoor
