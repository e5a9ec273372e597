/-
  Layer 18: the document's own: a change out of bytes.
-/
import Derived.Test.YtcbadcbnknmdnaaRosT2
namespace Go.Proofs.Ytcbadcbnknmdnaa
open Go.RowKit
set_option linter.unusedVariables false

theorem failS_same {st : St} (h : st.2 ≠ 0) (k : Nat) : failS st k = st := by
  unfold failS
  rw [if_neg (fun hc => h hc.1)]
theorem votS_stuck {st : St} (h : StOk st) (he : st.2 ≠ 0) : (votS st).1 = st := by
  have hnil : st.1 = [] := h.1 he
  have h1 : (numS st).1 = st := by
    unfold numS
    split
    · exact failS_same he _
    · obtain ⟨a, b⟩ := st
      simp only at hnil
      subst hnil
      simp
  show (countS st 31).1 = st
  unfold countS
  split
  · rw [h1]; exact failS_same he 3
  · exact h1
theorem votS_ok {st : St} (h : StOk st) : StOk (votS st).1 := countS_stOk h
theorem run_stuck {st : St} (h : StOk st) {j n : Nat} (hj : j ≤ n) (he : (runS votS j st).1.2 ≠ 0) : (runS votS n st).1 = (runS votS j st).1 := by
  obtain ⟨d, rfl⟩ : ∃ d, n = j + d := ⟨n - j, by omega⟩
  clear hj
  induction d with
  | zero => rfl
  | succ d ih =>
    show (votS (runS votS (j + d) st).1).1 = _
    rw [ih]
    exact votS_stuck (runS_stOk (fun s hs => votS_ok hs) j h) he
/-- The document's reader under way: its box, and the two boxes of the answer. -/
structure R3 (w : World) (st : St) (wr : World) : Prop where
  i0 : wr.cell? ⟨w.heap.size, 0, none⟩ = some (.string (bs st.1))
  i1 : wr.cell? ⟨w.heap.size, 1, none⟩ = some (.int .i64 (st.2 : Nat))
  s0 : wr.cell? ⟨w.heap.size + 1, 0, none⟩ = some (.string ⟨#[]⟩)
  s1 : wr.cell? ⟨w.heap.size + 1, 1, none⟩ = some (.int .i64 0)
  t0 : wr.cell? ⟨w.heap.size + 2, 0, none⟩ = some (.int .i64 0)
  t1 : wr.cell? ⟨w.heap.size + 2, 1, none⟩ = some (.int .i64 0)
  t2 : wr.cell? ⟨w.heap.size + 2, 2, none⟩ = some (.slice none 0 0)
  fr : ∀ q j, w.heap.size ≤ q → q ≤ w.heap.size + 2 → wr.frozen? ⟨q, j, none⟩ = false
  bel : Below w.heap.size w wr
theorem R3.lt {w : World} {st : St} {wr : World} (h : R3 w st wr) : w.heap.size + 2 < wr.heap.size := block_lt_of_cell h.t0
theorem R3.touch {S : Nat → Prop} {w : World} {st : St} {wr w' : World} (h : R3 w st wr) (ht : Touch S wr w') (hS : ∀ q, S q → w.heap.size + 2 < q) : R3 w st w' := by
  have hl := h.lt
  have hc : ∀ q j, q ≤ w.heap.size + 2 → w'.cell? ⟨q, j, none⟩ = wr.cell? ⟨q, j, none⟩ := fun q j hq => ht.cell (p := ⟨q, j, none⟩) (show q < wr.heap.size by omega) (fun e => by have := hS _ e; simp only at this; omega)
  exact ⟨(hc _ _ (by omega)).trans h.i0, (hc _ _ (by omega)).trans h.i1, (hc _ _ (by omega)).trans h.s0, (hc _ _ (by omega)).trans h.s1, (hc _ _ (by omega)).trans h.t0, (hc _ _ (by omega)).trans h.t1, (hc _ _ (by omega)).trans h.t2, fun q j h1 h2 => (ht.frozen (p := ⟨q, j, none⟩) (show q < wr.heap.size by omega) (fun e => by have := hS _ e; simp only at this; omega)).trans (h.fr q j h1 h2), h.bel.trans (ht.below h.bel.size fun q hq e => by have := hS _ e; omega)⟩
theorem R3.keep {w : World} {st : St} {wr w' : World} (h : R3 w st wr) (hb : Below wr.heap.size wr w') : R3 w st w' := h.touch (touch_of_below (S := fun _ => False) hb) (fun _ h => h.elim)
theorem R3.set {w : World} {st : St} {wr : World} (h : R3 w st wr) (s2 : St) : R3 w s2 ((wr.setCell ⟨w.heap.size, 0, none⟩ (.string (bs s2.1))).setCell ⟨w.heap.size, 1, none⟩ (.int .i64 (s2.2 : Nat))) := by
  have hx : ∀ q j, q ≠ w.heap.size → ((wr.setCell ⟨w.heap.size, 0, none⟩ (.string (bs s2.1))).setCell ⟨w.heap.size, 1, none⟩ (.int .i64 (s2.2 : Nat))).cell? ⟨q, j, none⟩ = wr.cell? ⟨q, j, none⟩ := fun q j hq => by
    rw [World.cell?_setCell_other _ _ _ _ (by first | (simp; done) | (simp; omega)), World.cell?_setCell_other _ _ _ _ (by first | (simp; done) | (simp; omega))]
  refine ⟨?_, World.cell?_setCell_same' _ _ _ (by rw [World.cell?_setCell_other _ _ _ _ (by simp), h.i1]; rfl), (hx _ _ (by omega)).trans h.s0, (hx _ _ (by omega)).trans h.s1, (hx _ _ (by omega)).trans h.t0, (hx _ _ (by omega)).trans h.t1, (hx _ _ (by omega)).trans h.t2, fun q j h1 h2 => by rw [World.frozen?_setCell, World.frozen?_setCell]; exact h.fr q j h1 h2, (h.bel.setCell (p := ⟨w.heap.size, 0, none⟩) (Nat.le_refl _) _).setCell (p := ⟨w.heap.size, 1, none⟩) (Nat.le_refl _) _⟩
  rw [World.cell?_setCell_other _ _ _ _ (by simp)]
  exact World.cell?_setCell_same' _ _ _ (by rw [h.i0]; rfl)
theorem R3.new (w : World) (st : St) : R3 w st (((w.alloc (.cells #[.string (bs st.1), .int .i64 (st.2 : Nat)] 57)).alloc (.cells #[.string ⟨#[]⟩, .int .i64 0] 57)).alloc (.cells #[.int .i64 0, .int .i64 0, .slice none 0 0] 105)) := by
  have e1 : (w.alloc (.cells #[.string (bs st.1), .int .i64 (st.2 : Nat)] 57)).heap.size = w.heap.size + 1 := by simp
  have e2 : ((w.alloc (.cells #[.string (bs st.1), .int .i64 (st.2 : Nat)] 57)).alloc (.cells #[.string ⟨#[]⟩, .int .i64 0] 57)).heap.size = w.heap.size + 2 := by simp
  refine ⟨alloc_cell (alloc_cell (new_cell rfl rfl) _) _, alloc_cell (alloc_cell (new_cell rfl rfl) _) _, alloc_cell (new_cell e1.symm rfl) _, alloc_cell (new_cell e1.symm rfl) _, new_cell e2.symm rfl, new_cell e2.symm rfl, new_cell e2.symm rfl, fun q j h1 h2 => ?_, bel_alloc (bel_alloc (bel_alloc (Below.refl _ _) _) _) _⟩
  by_cases h3 : q = w.heap.size + 2
  · subst h3
    rw [← e2]; exact frozen_new _ _ _ _
  · rw [frozen_old _ _ ⟨q, j, none⟩ (by first | (simp; done) | (simp; omega))]
    by_cases h4 : q = w.heap.size + 1
    · subst h4
      rw [← e1]; exact frozen_new _ _ _ _
    · obtain rfl : q = w.heap.size := by omega
      rw [frozen_old _ _ ⟨w.heap.size, j, none⟩ (by simp)]
      exact frozen_new _ _ _ _
/-- The same, beside the change's own box with a row that grows. -/
structure RdC (w : World) (C : Nat) (st : St) (k p : Int) (a : Option Addr) (c : Nat) (V : List Int) (wr : World) : Prop where
  i : R3 w st wr
  row : OwnV 3 1 (C + 1) a c (V.map iC18) wr
  c0 : wr.cell? ⟨C, 0, none⟩ = some (.int .i64 k)
  c1 : wr.cell? ⟨C, 1, none⟩ = some (.int .i64 p)
  c2 : wr.cell? ⟨C, 2, none⟩ = some (.slice a V.length c)
  fc : wr.frozen? ⟨C, 2, none⟩ = false
  lo : w.heap.size + 2 < C
theorem RdC.lt {w : World} {C : Nat} {st : St} {k p : Int} {a : Option Addr} {c : Nat} {V : List Int} {wr : World} (h : RdC w C st k p a c V wr) : C < wr.heap.size := block_lt_of_cell h.c0
theorem RdC.keep {w : World} {C : Nat} {st : St} {k p : Int} {a : Option Addr} {c : Nat} {V : List Int} {wr w' : World} (h : RdC w C st k p a c V wr) (hb : Below wr.heap.size wr w') : RdC w C st k p a c V w' :=
  ⟨h.i.keep hb, h.row.touch (touch_of_below (S := fun _ => False) hb) (fun _ _ => id), (hb.cell (p := ⟨C, 0, none⟩) h.lt).trans h.c0, (hb.cell (p := ⟨C, 1, none⟩) h.lt).trans h.c1, (hb.cell (p := ⟨C, 2, none⟩) h.lt).trans h.c2, (hb.frozen (p := ⟨C, 2, none⟩) h.lt).trans h.fc, h.lo⟩
theorem RdC.set {w : World} {C : Nat} {st : St} {k p : Int} {a : Option Addr} {c : Nat} {V : List Int} {wr : World} (h : RdC w C st k p a c V wr) (s2 : St) : RdC w C s2 k p a c V ((wr.setCell ⟨w.heap.size, 0, none⟩ (.string (bs s2.1))).setCell ⟨w.heap.size, 1, none⟩ (.int .i64 (s2.2 : Nat))) := by
  have hlo := h.lo
  have ht : Touch (fun q => q = w.heap.size) wr ((wr.setCell ⟨w.heap.size, 0, none⟩ (.string (bs s2.1))).setCell ⟨w.heap.size, 1, none⟩ (.int .i64 (s2.2 : Nat))) := ((Touch.refl (fun q => q = w.heap.size) wr).setCell (p := ⟨w.heap.size, 0, none⟩) (fun _ => rfl) _).setCell (p := ⟨w.heap.size, 1, none⟩) (fun _ => rfl) _
  have hCn : ¬ C = w.heap.size := by omega
  exact ⟨h.i.set s2, h.row.touch ht (fun y hy e => by have := h.row.2 y hy; omega), (ht.cell (p := ⟨C, 0, none⟩) h.lt hCn).trans h.c0, (ht.cell (p := ⟨C, 1, none⟩) h.lt hCn).trans h.c1, (ht.cell (p := ⟨C, 2, none⟩) h.lt hCn).trans h.c2, (ht.frozen (p := ⟨C, 2, none⟩) h.lt hCn).trans h.fc, hlo⟩
theorem RdC.push {w : World} {C : Nat} {st : St} {k p : Int} {a : Option Addr} {c : Nat} {V : List Int} {wr : World} (h : RdC w C st k p a c V wr) (x : Int) (hl : V.length ≤ 1000) :
    ∃ a' c' w', (Builtin.append_ #[22, 22] 22 #[.slice a V.length c, .slice (some ⟨wr.heap.size, 0, none⟩) 1 1]).run Try.prog (wr.alloc (.cells #[.int .i64 x] 3)) = .ok (.slice a' (V.length + 1) c') w' ∧ w'.cell? ⟨C, 2, none⟩ = some (.slice a V.length c) ∧ w'.frozen? ⟨C, 2, none⟩ = false ∧ RdC w C st k p a' c' (V ++ [x]) (w'.setCell ⟨C, 2, none⟩ (.slice a' (V.length + 1) c')) := by
  have hlt := h.lt
  have hlo := h.lo
  obtain ⟨a', c', w', h1, h2, h3⟩ := h.row.one (ty := 22) int18Ty Try.underlying22 (by omega) (iC18 x) (i18_wide [x] _ (by simp)) (by first | (simp; done) | (simp; omega)) _ rfl
  have hS : ∀ z, a.map (·.block) = some z → C + 1 ≤ z := fun z e1 => map_none (P := fun z => C + 1 ≤ z) h.row.2 _ e1
  have hnC : ¬ a.map (·.block) = some C := fun e1 => by have := hS _ e1; omega
  have hlen : (V.map iC18).length = V.length := by simp
  rw [hlen] at h1
  have q2 := (h3.cell (p := ⟨C, 2, none⟩) hlt hnC).trans h.c2
  have qf := (h3.frozen (p := ⟨C, 2, none⟩) hlt hnC).trans h.fc
  have hs : Touch (fun z => z = C) w' (w'.setCell ⟨C, 2, none⟩ (.slice a' (V.length + 1) c')) := (Touch.refl (fun z => z = C) w').setCell (p := ⟨C, 2, none⟩) (fun _ => rfl) _
  refine ⟨a', c', w', by simpa [iC18] using h1, q2, qf, ⟨(h.i.touch h3 (fun q e => by have := hS q e; omega)).touch hs (fun q e => by omega), ?_, ?_, ?_, ?_, by rw [World.frozen?_setCell]; exact qf, hlo⟩⟩
  · rw [List.map_append]
    exact h2.touch hs (fun y hy e => by have := h2.2 y hy; omega)
  · rw [World.cell?_setCell_other _ _ _ _ (by simp)]; exact (h3.cell (p := ⟨C, 0, none⟩) hlt hnC).trans h.c0
  · rw [World.cell?_setCell_other _ _ _ _ (by simp)]; exact (h3.cell (p := ⟨C, 1, none⟩) hlt hnC).trans h.c1
  · rw [List.length_append]
    exact World.cell?_setCell_same' _ _ _ (by rw [q2]; rfl)
end Go.Proofs.Ytcbadcbnknmdnaa
