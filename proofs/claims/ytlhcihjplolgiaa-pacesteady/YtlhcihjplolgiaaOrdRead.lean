/-
  Layer 9: a batch out of bytes.
-/
import Derived.Test.YtlhcihjplolgiaaCodeRead
import Derived.Laws.MakeOwn
namespace Go.Proofs.Ytlhcihjplolgiaa
open Go.RowKit
set_option linter.unusedVariables false

/-- A row of records of the call's own, in blocks from B on. -/
def OwnRec (e : TypeId) (k B : Nat) (a : Option Addr) (c : Nat) (ls : List (List Int)) (w' : World) : Prop :=
  w'.ownsRow 0 e k (.slice a ls.length c) ls.length (recCells ls) ∧ (∀ x, a = some x → B ≤ x.block)
theorem OwnRec.touch {S : Nat → Prop} {e : TypeId} {k B : Nat} {w1 w2 : World} {a : Option Addr} {c : Nat} {ls : List (List Int)} (h : OwnRec e k B a c ls w1) (ht : Touch S w1 w2) (hs : ∀ j, B ≤ j → ¬ S j) : OwnRec e k B a c ls w2 :=
  ⟨own_touchR h.1 ht (fun k hk => by
    cases a with
    | none => simp [Value.ownBlock] at hk
    | some x => simp [Value.ownBlock] at hk; subst hk; exact hs _ (h.2 x rfl)), h.2⟩
theorem OwnRec.one {w1 : World} {t u ty e : TypeId} {k B : Nat} {z : Value} (H : RecTy e k z) (ht : Try.prog.underlying t = some (.slice e)) (hu : Try.prog.underlying u = some (.slice e)) {a1 : Option Addr} {c1 : Nat} {l : List (List Int)} (h : OwnRec e k B a1 c1 l w1) (hB : B ≤ w1.heap.size) (x : List Int) (hx : x.length = k) (hl : l.length + 1 ≤ 1000000) :
    ∃ a' c' w', (Builtin.append_ #[t, u] ty #[.slice a1 l.length c1, .slice (some ⟨w1.heap.size, 0, none⟩) 1 1]).run Try.prog (w1.alloc (.cells ((x.map (Value.int .i64)).toArray) e)) = .ok (.slice a' (l.length + 1) c') w' ∧ OwnRec e k B a' c' (l ++ [x]) w' ∧ Touch (fun b => B ≤ b) w1 w' := by
  have hb : Below w1.heap.size w1 (w1.alloc (.cells ((x.map (Value.int .i64)).toArray) e)) := (Below.refl _ _).alloc (Nat.le_refl _) _
  have hw : Wide k [x] := by intro y hy; simp at hy; rw [hy]; exact hx
  obtain ⟨a', c', w', hrun, ho, hg, hf⟩ := rec_append (ty := ty) H ht hu hw (h.1.alloc (.cells ((x.map (Value.int .i64)).toArray) e)) (some ⟨w1.heap.size, 0, none⟩) 1 (RecRow.lit w1 [x] hw ((x.map (Value.int .i64)).toArray) e (by simp [recCells])) (fun h => by cases h) (by simpa using hl)
  refine ⟨a', c', w', hrun, ⟨by rw [List.length_append] at ho ⊢; exact ho, fun y hy => ?_⟩, ((Touch.refl _ w1).alloc _).trans ((touch_grown hg).mono fun b hb h' => ?_)⟩
  · subst hy
    rcases hf y.block (by simp [Value.ownBlock]) with h' | h'
    · cases a1 with
      | none => simp [Value.ownBlock] at h'
      | some z => simp [Value.ownBlock] at h'; have := h.2 z rfl; omega
    · simp at h'; omega
  · cases a1 with
    | none => simp [Value.ownBlock] at h'
    | some z => simp [Value.ownBlock] at h'; have := h.2 z rfl; omega
/-- An order, as the reader takes it. -/
def orderS (st : St) : St × Ord :=
  (failS (numS (numS (countS (countS st 4).1 1099511627776).1).1).1 (checkN ⟨((countS st 4).2 : Nat), ((countS (countS st 4).1 1099511627776).2 : Nat), unzig (numS (countS (countS st 4).1 1099511627776).1).2, unzig (numS (numS (countS (countS st 4).1 1099511627776).1).1).2⟩),
   ⟨((countS st 4).2 : Nat), ((countS (countS st 4).1 1099511627776).2 : Nat), unzig (numS (countS (countS st 4).1 1099511627776).1).2, unzig (numS (numS (countS (countS st 4).1 1099511627776).1).1).2⟩)
def batchS (st : St) : St × List Ord := runS orderS (countS st 8).2 (countS st 8).1
/-- What Read leaves. -/
def OReadPost (w : World) (b : Nat) (t : St × List Ord) (r : Ending) (w' : World) : Prop :=
  ∃ a c, r = .returned (.slice a (if t.1.2 = 0 then t.2 else []).length c) ∧ InTo w b t.1 w' ∧ OrdRow w' a (if t.1.2 = 0 then t.2 else []) ∧ (∀ x, a = some x → w.heap.size ≤ x.block)
theorem made_ord (u : World) (n : Nat) (hn : n ≤ 8) : (Instr.makeSlice 67 (.int .i64 0) (.int .i64 (n : Int))).run Try.prog u = .ok (.slice (some ⟨u.heap.size, 0, none⟩) 0 n) (u.alloc (.cells (madeCells #[.int .i64 0, .int .i64 0, .int .i64 0, .int .i64 0] (n * 4)) 160)) := by
  obtain ⟨i0, hi, hz0, hz1, hz2⟩ := info_is ordTy.info
  have := run_make (P := Try.prog) u 67 160 i0 _ Try.underlying67 hi hz0 .i64 .i64 0 (n : Int) (by omega) (by omega) (by rw [hz2]; omega) (by omega)
  rw [hz1] at this
  exact this
structure RdMem (w : World) (b : Nat) (st : St) (l : List Ord) (a : Option Addr) (c : Nat) (wr : World) : Prop where
  inst : InSt wr b st
  row : OwnRec 160 4 w.heap.size a c (ordsI l) wr
  tch : Touch (fun k => k = b) w wr
  hb : b < w.heap.size
theorem RdMem.step {w : World} {b : Nat} {sq s4 s5 : St} {l : List Ord} {a : Option Addr} {c : Nat} {wr wd we wf : World} {o : Ord} (h : RdMem w b sq l a c wr) (h4 : InTo wr b s4 wd) (he : Below (wd.alloc (.cells #[.int .i64 o.kind, .int .i64 o.unit, .int .i64 o.a, .int .i64 o.b] 160)).heap.size (wd.alloc (.cells #[.int .i64 o.kind, .int .i64 o.unit, .int .i64 o.a, .int .i64 o.b] 160)) we) (h5 : InTo we b s5 wf) (hl : l.length ≤ 1000) :
    wf.cell? ⟨wd.heap.size, 0, none⟩ = some (.int .i64 o.kind) ∧ wf.cell? ⟨wd.heap.size, 1, none⟩ = some (.int .i64 o.unit) ∧ wf.cell? ⟨wd.heap.size, 2, none⟩ = some (.int .i64 o.a) ∧ wf.cell? ⟨wd.heap.size, 3, none⟩ = some (.int .i64 o.b) ∧
    ∃ a' c' w', (Builtin.append_ #[67, 67] 67 #[.slice a l.length c, .slice (some ⟨wf.heap.size, 0, none⟩) 1 1]).run Try.prog (wf.alloc (.cells #[.int .i64 o.kind, .int .i64 o.unit, .int .i64 o.a, .int .i64 o.b] 160)) = .ok (.slice a' (l.length + 1) c') w' ∧ RdMem w b s5 (l ++ [o]) a' c' w' := by
  obtain ⟨hi, hrow, ht, hb⟩ := h
  have z1 := ht.size
  have z2 := h4.2.size
  have z3 := he.size
  have z4 := h5.2.size
  simp at z3
  have tde : Touch (fun k => k = b) wd we := ((Touch.refl _ wd).alloc _).trans (touch_of_below he)
  have tdf : Touch (fun k => k = b) wd wf := tde.trans h5.2
  have kc : ∀ j v, (wd.alloc (.cells #[.int .i64 o.kind, .int .i64 o.unit, .int .i64 o.a, .int .i64 o.b] 160)).cell? ⟨wd.heap.size, j, none⟩ = some v → wf.cell? ⟨wd.heap.size, j, none⟩ = some v := fun j v hv =>
    (h5.2.cell (p := ⟨wd.heap.size, j, none⟩) (by show wd.heap.size < _; omega) (by show ¬ wd.heap.size = b; omega)).trans ((he.cell (p := ⟨wd.heap.size, j, none⟩) (by simp)).trans hv)
  have hrow' : OwnRec 160 4 w.heap.size a c (ordsI l) wf := hrow.touch (h4.2.trans tdf) (fun j hj e => by omega)
  obtain ⟨a', c', w', hrun, hnew, htch⟩ := hrow'.one (t := 67) (u := 67) (ty := 67) ordTy Try.underlying67 Try.underlying67 (by omega) o.ints rfl (by rw [ordsI_len]; omega)
  rw [ordsI_len] at hrun
  refine ⟨kc _ _ (by simp), kc _ _ (by simp), kc _ _ (by simp), kc _ _ (by simp), a', c', w', hrun, h5.1.touch htch (by omega), ?_, ((ht.trans h4.2).trans tdf).trans' htch (fun j hj e => by omega), hb⟩
  rw [ordsI_append]
  exact hnew
end Go.Proofs.Ytlhcihjplolgiaa
