/-
  Layer 18: the document's reader of a roster: its boxes.
-/
import Derived.Test.YtcbadcbnknmdnaaRosT4
namespace Go.Proofs.Ytcbadcbnknmdnaa
open Go.RowKit
set_option linter.unusedVariables false

/-- The document's reader under way: its box, and the two boxes of the answer. -/
structure R5 (w : World) (st : St) (wr : World) : Prop where
  i0 : wr.cell? ⟨w.heap.size, 0, none⟩ = some (.string (bs st.1))
  i1 : wr.cell? ⟨w.heap.size, 1, none⟩ = some (.int .i64 (st.2 : Nat))
  s0 : wr.cell? ⟨w.heap.size + 1, 0, none⟩ = some (.string ⟨#[]⟩)
  s1 : wr.cell? ⟨w.heap.size + 1, 1, none⟩ = some (.int .i64 0)
  t0 : wr.cell? ⟨w.heap.size + 2, 0, none⟩ = some (.slice none 0 0)
  t1 : wr.cell? ⟨w.heap.size + 2, 1, none⟩ = some (.int .i64 0)
  fr : ∀ q j, w.heap.size ≤ q → q ≤ w.heap.size + 2 → wr.frozen? ⟨q, j, none⟩ = false
  bel : Below w.heap.size w wr
theorem R5.lt {w : World} {st : St} {wr : World} (h : R5 w st wr) : w.heap.size + 2 < wr.heap.size := block_lt_of_cell h.t0
theorem R5.touch {S : Nat → Prop} {w : World} {st : St} {wr w' : World} (h : R5 w st wr) (ht : Touch S wr w') (hS : ∀ q, S q → w.heap.size + 2 < q) : R5 w st w' := by
  have hl := h.lt
  have hc : ∀ q j, q ≤ w.heap.size + 2 → w'.cell? ⟨q, j, none⟩ = wr.cell? ⟨q, j, none⟩ := fun q j hq => ht.cell (p := ⟨q, j, none⟩) (show q < wr.heap.size by omega) (fun e => by have := hS _ e; simp only at this; omega)
  exact ⟨(hc _ _ (by omega)).trans h.i0, (hc _ _ (by omega)).trans h.i1, (hc _ _ (by omega)).trans h.s0, (hc _ _ (by omega)).trans h.s1, (hc _ _ (by omega)).trans h.t0, (hc _ _ (by omega)).trans h.t1, fun q j h1 h2 => (ht.frozen (p := ⟨q, j, none⟩) (show q < wr.heap.size by omega) (fun e => by have := hS _ e; simp only at this; omega)).trans (h.fr q j h1 h2), h.bel.trans (ht.below h.bel.size fun q hq e => by have := hS _ e; omega)⟩
theorem R5.keep {w : World} {st : St} {wr w' : World} (h : R5 w st wr) (hb : Below wr.heap.size wr w') : R5 w st w' := h.touch (touch_of_below (S := fun _ => False) hb) (fun _ h => h.elim)
theorem R5.set {w : World} {st : St} {wr : World} (h : R5 w st wr) (s2 : St) : R5 w s2 ((wr.setCell ⟨w.heap.size, 0, none⟩ (.string (bs s2.1))).setCell ⟨w.heap.size, 1, none⟩ (.int .i64 (s2.2 : Nat))) := by
  have hx : ∀ q j, q ≠ w.heap.size → ((wr.setCell ⟨w.heap.size, 0, none⟩ (.string (bs s2.1))).setCell ⟨w.heap.size, 1, none⟩ (.int .i64 (s2.2 : Nat))).cell? ⟨q, j, none⟩ = wr.cell? ⟨q, j, none⟩ := fun q j hq => by
    rw [World.cell?_setCell_other _ _ _ _ (by first | (simp; done) | (simp; omega)), World.cell?_setCell_other _ _ _ _ (by first | (simp; done) | (simp; omega))]
  refine ⟨?_, World.cell?_setCell_same' _ _ _ (by rw [World.cell?_setCell_other _ _ _ _ (by simp), h.i1]; rfl), (hx _ _ (by omega)).trans h.s0, (hx _ _ (by omega)).trans h.s1, (hx _ _ (by omega)).trans h.t0, (hx _ _ (by omega)).trans h.t1, fun q j h1 h2 => by rw [World.frozen?_setCell, World.frozen?_setCell]; exact h.fr q j h1 h2, (h.bel.setCell (p := ⟨w.heap.size, 0, none⟩) (Nat.le_refl _) _).setCell (p := ⟨w.heap.size, 1, none⟩) (Nat.le_refl _) _⟩
  rw [World.cell?_setCell_other _ _ _ _ (by simp)]
  exact World.cell?_setCell_same' _ _ _ (by rw [h.i0]; rfl)
structure RdR (w : World) (C : Nat) (st : St) (k : Int) (a : Option Addr) (c : Nat) (V : List Int) (wr : World) : Prop where
  i : R5 w st wr
  row : OwnV 3 1 (C + 1) a c (V.map iC18) wr
  c0 : wr.cell? ⟨C, 0, none⟩ = some (.slice a V.length c)
  c1 : wr.cell? ⟨C, 1, none⟩ = some (.int .i64 k)
  fc : wr.frozen? ⟨C, 0, none⟩ = false
  lo : w.heap.size + 2 < C
theorem RdR.lt {w : World} {C : Nat} {st : St} {k : Int} {a : Option Addr} {c : Nat} {V : List Int} {wr : World} (h : RdR w C st k a c V wr) : C < wr.heap.size := block_lt_of_cell h.c0
theorem RdR.push {w : World} {C : Nat} {st : St} {k : Int} {a : Option Addr} {c : Nat} {V : List Int} {wr : World} (h : RdR w C st k a c V wr) (x : Int) (hl : V.length ≤ 1000) :
    ∃ a' c' w', (Builtin.append_ #[22, 22] 22 #[.slice a V.length c, .slice (some ⟨wr.heap.size, 0, none⟩) 1 1]).run Try.prog (wr.alloc (.cells #[.int .i64 x] 3)) = .ok (.slice a' (V.length + 1) c') w' ∧ w'.cell? ⟨C, 0, none⟩ = some (.slice a V.length c) ∧ w'.frozen? ⟨C, 0, none⟩ = false ∧ RdR w C st k a' c' (V ++ [x]) (w'.setCell ⟨C, 0, none⟩ (.slice a' (V.length + 1) c')) := by
  have hlt := h.lt
  have hlo := h.lo
  obtain ⟨a', c', w', h1, h2, h3⟩ := h.row.one (ty := 22) int18Ty Try.underlying22 (by omega) (iC18 x) (i18_wide [x] _ (by simp)) (by first | (simp; done) | (simp; omega)) _ rfl
  have hS : ∀ z, a.map (·.block) = some z → C + 1 ≤ z := fun z e1 => map_none (P := fun z => C + 1 ≤ z) h.row.2 _ e1
  have hnC : ¬ a.map (·.block) = some C := fun e1 => by have := hS _ e1; omega
  have hlen : (V.map iC18).length = V.length := by simp
  rw [hlen] at h1
  have q2 := (h3.cell (p := ⟨C, 0, none⟩) hlt hnC).trans h.c0
  have qf := (h3.frozen (p := ⟨C, 0, none⟩) hlt hnC).trans h.fc
  have hs : Touch (fun z => z = C) w' (w'.setCell ⟨C, 0, none⟩ (.slice a' (V.length + 1) c')) := (Touch.refl (fun z => z = C) w').setCell (p := ⟨C, 0, none⟩) (fun _ => rfl) _
  refine ⟨a', c', w', by simpa [iC18] using h1, q2, qf, ⟨(h.i.touch h3 (fun q e => by have := hS q e; omega)).touch hs (fun q e => by omega), ?_, ?_, ?_, by rw [World.frozen?_setCell]; exact qf, hlo⟩⟩
  · rw [List.map_append]
    exact h2.touch hs (fun y hy e => by have := h2.2 y hy; omega)
  · rw [List.length_append]
    exact World.cell?_setCell_same' _ _ _ (by rw [q2]; rfl)
  · rw [World.cell?_setCell_other _ _ _ _ (by simp)]; exact (h3.cell (p := ⟨C, 1, none⟩) hlt hnC).trans h.c1
end Go.Proofs.Ytcbadcbnknmdnaa
