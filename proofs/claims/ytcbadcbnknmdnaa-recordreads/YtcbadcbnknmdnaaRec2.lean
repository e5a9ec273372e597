/-
  Layer 20: a record out of bytes: its memory under way.
-/
import Derived.Test.YtcbadcbnknmdnaaRec1
import Derived.Deep.RegionLaw
namespace Go.Proofs.Ytcbadcbnknmdnaa
open Go.RowKit
set_option linter.unusedVariables false

/-- Cells of a box. -/
def Cs (W : World) (C : Nat) (vs : List Value) : Prop := ∀ j, j < vs.length → W.cell? ⟨C, j, none⟩ = vs[j]?
theorem Cs.touch {S : Nat → Prop} {W W' : World} {C : Nat} {vs : List Value} (h : Cs W C vs) (ht : Touch S W W') (hS : ¬ S C) : Cs W' C vs := fun j hj => by
  have h1 := h j hj
  rw [List.getElem?_eq_getElem hj] at h1 ⊢
  exact (ht.cell (p := ⟨C, j, none⟩) (block_lt_of_cell h1) hS).trans h1
theorem Cs.set {W : World} {C : Nat} {vs : List Value} (h : Cs W C vs) {i : Nat} (hi : i < vs.length) (u : Value) : Cs (W.setCell ⟨C, i, none⟩ u) C (vs.set i u) := fun j hj => by
  rw [List.length_set] at hj
  by_cases e : i = j
  · subst e
    have h1 := h i hi
    rw [List.getElem?_eq_getElem hi] at h1
    rw [World.cell?_setCell_same' _ _ _ (by rw [h1]; rfl), List.getElem?_set_self hi]
  · rw [World.cell?_setCell_other _ _ _ _ (by first | (simp; done) | (simp; omega)), List.getElem?_set_ne e]
    exact h j hj
theorem Cs.new {W : World} {cells : Array Value} {t : TypeId} {k : Nat} {vs : List Value} (hk : k = W.heap.size) (hv : cells = vs.toArray) : Cs (W.alloc (.cells cells t)) k vs := fun j hj => by
  rw [List.getElem?_eq_getElem hj]
  exact new_cell hk (by subst hv; simp [hj])
def zeroR : List Value := [.int .i64 0, .slice none 0 0, .int .i64 0, .int .i64 0, .slice none 0 0]
/-- The reader, the record's box, the answer's. -/
structure RcR (w : World) (b C : Nat) (st : St) (vs : List Value) (wr : World) : Prop where
  into : InTo w b st wr
  c : Cs wr C vs
  len : vs.length = 5
  fc : ∀ j, wr.frozen? ⟨C, j, none⟩ = false
  x : Cs wr w.heap.size zeroR
  fx : ∀ j, wr.frozen? ⟨w.heap.size, j, none⟩ = false
  lo : b < w.heap.size ∧ w.heap.size < C
theorem RcR.lt {w : World} {b C : Nat} {st : St} {vs : List Value} {wr : World} (h : RcR w b C st vs wr) : C < wr.heap.size := by
  have h1 := h.c 0 (by rw [h.len]; decide)
  rw [List.getElem?_eq_getElem (by rw [h.len]; decide)] at h1
  exact block_lt_of_cell h1
theorem RcR.touch {S : Nat → Prop} {w : World} {b C : Nat} {st : St} {vs : List Value} {wr w' : World} (h : RcR w b C st vs wr) (ht : Touch S wr w') (hS : ∀ k, S k → C < k) : RcR w b C st vs w' := by
  obtain ⟨l1, l2⟩ := h.lo
  have hl := h.lt
  exact ⟨⟨h.into.1.touch ht (fun e => by have := hS _ e; omega), h.into.2.trans' ht (fun j hj e => by have := hS _ e; omega)⟩, h.c.touch ht (fun e => by have := hS _ e; omega), h.len, fun j => (ht.frozen (p := ⟨C, j, none⟩) hl (fun e => by have := hS _ e; simp only at this; omega)).trans (h.fc j), h.x.touch ht (fun e => by have := hS _ e; omega), fun j => (ht.frozen (p := ⟨w.heap.size, j, none⟩) (show w.heap.size < wr.heap.size by omega) (fun e => by have := hS _ e; simp only at this; omega)).trans (h.fx j), h.lo⟩
theorem RcR.inp {w : World} {b C : Nat} {st s2 : St} {vs : List Value} {wr w' : World} (h : RcR w b C st vs wr) (hi : InTo wr b s2 w') : RcR w b C s2 vs w' := by
  obtain ⟨l1, l2⟩ := h.lo
  have hl := h.lt
  exact ⟨into_trans h.into hi, h.c.touch hi.2 (fun e => by omega), h.len, fun j => (hi.2.frozen (p := ⟨C, j, none⟩) hl (fun e => by simp only at e; omega)).trans (h.fc j), h.x.touch hi.2 (fun e => by omega), fun j => (hi.2.frozen (p := ⟨w.heap.size, j, none⟩) (show w.heap.size < wr.heap.size by omega) (fun e => by simp only at e; omega)).trans (h.fx j), h.lo⟩
theorem RcR.set {w : World} {b C : Nat} {st : St} {vs : List Value} {wr : World} (h : RcR w b C st vs wr) {i : Nat} (hi : i < 5) (u : Value) : RcR w b C st (vs.set i u) (wr.setCell ⟨C, i, none⟩ u) := by
  obtain ⟨l1, l2⟩ := h.lo
  have ht : Touch (fun k => k = C) wr (wr.setCell ⟨C, i, none⟩ u) := (Touch.refl (fun k => k = C) wr).setCell (p := ⟨C, i, none⟩) (fun _ => rfl) u
  exact ⟨⟨h.into.1.touch ht (fun e => by omega), h.into.2.setCell (p := ⟨C, i, none⟩) (fun e => by simp only at e; omega) _⟩, h.c.set (by rw [h.len]; exact hi) u, by rw [List.length_set]; exact h.len, fun j => by rw [World.frozen?_setCell]; exact h.fc j, h.x.touch ht (fun e => by omega), fun j => by rw [World.frozen?_setCell]; exact h.fx j, h.lo⟩
/-- The changes are read. -/
structure Ph1 (w : World) (b C : Nat) (st : St) (t : Int) (a : Option Addr) (c : Nat) (ls : List (List Value)) (m : List Chg) (wr : World) : Prop where
  r : RcR w b C st [.int .i64 t, .slice a ls.length c, .int .i64 0, .int .i64 0, .slice none 0 0] wr
  row : OwnV 97 3 (C + 1) a c ls wr
  inn : Inn (C + 1) a wr (fun W => ChIs W ls m)
theorem chgTy20 : VTy 97 3 (.agg #[.int .i64 0, .int .i64 0, .slice none 0 0]) 40 := ⟨by kernel_rfl, rfl, by decide, by decide⟩
theorem plyTy20 : VTy 52 2 (.agg #[.int .i64 0, .slice none 0 0]) 32 := ⟨by kernel_rfl, rfl, by decide, by decide⟩
/-- What an append leaves of what is told of other blocks. -/
theorem Inn.app {B : Nat} {a a' : Option Addr} {W W' : World} {P : World → Prop} (h : Inn B a W P) (ht : Touch (fun b => a.map (·.block) = some b) W W') (hf : ∀ x, a' = some x → a.map (·.block) = some x.block ∨ W.heap.size ≤ x.block) : Inn B a' W' P :=
  h.new (ht.mono fun k _ e => .inr e) (fun b e => by
    cases a' with
    | none => simp at e
    | some x => simp at e; subst e; exact hf x rfl)
theorem OwnV.one' {w1 : World} {t ty e : TypeId} {k B by' : Nat} {z : Value} (H : VTy e k z by') (ht : Try.prog.underlying t = some (.slice e)) {a1 : Option Addr} {c1 : Nat} {l : List (List Value)} (h : OwnV e k B a1 c1 l w1) (hB : B ≤ w1.heap.size) (x : List Value) (hx : x.length = k ∧ ∀ u ∈ x, u.oneCell' = true) (hl : l.length + 1 ≤ 1000000) (N : Nat) (hN : l.length = N) (cs : Array Value) (hcs : cs = x.toArray) :
    ∃ a' c' w', (Builtin.append_ #[t, t] ty #[.slice a1 N c1, .slice (some ⟨w1.heap.size, 0, none⟩) 1 1]).run Try.prog (w1.alloc (.cells cs e)) = .ok (.slice a' (N + 1) c') w' ∧ OwnV e k B a' c' (l ++ [x]) w' ∧ Touch (fun b => a1.map (·.block) = some b) w1 w' ∧ (∀ x, a' = some x → a1.map (·.block) = some x.block ∨ w1.heap.size ≤ x.block) := by
  subst hN hcs
  have hw : VWide k [x] := fun y hy => by simp at hy; subst hy; exact hx
  have h0 : OwnV e k B a1 c1 l (w1.alloc (.cells x.toArray e)) := h.touch (touch_of_below (S := fun _ => False) (bel_alloc (Below.refl _ _) _)) (fun _ _ => id)
  have hr : VRow k (w1.alloc (.cells x.toArray e)) (some ⟨w1.heap.size, 0, none⟩) [x] := vrow_new18 w1 e k [x] hw _ (by simp) _ rfl
  obtain ⟨a', c', w', h1, h2, h3, h4⟩ := own_appx (ty := ty) H ht h0 (some ⟨w1.heap.size, 0, none⟩) 1 [x] hw hr (fun e => by cases e) (by simpa using hl)
  have hfr : ∀ y, a' = some y → a1.map (·.block) = some y.block ∨ w1.heap.size ≤ y.block := fun y hy => (h4 y hy).imp id (fun e => by simp at e; omega)
  refine ⟨a', c', w', by simpa using h1, ⟨h2.1, fun y hy => ?_⟩, ((Touch.refl _ w1).alloc _).trans h3, hfr⟩
  rcases hfr y hy with e1 | e1
  · exact map_none (P := fun b => B ≤ b) h.2 _ e1
  · omega
set_option maxHeartbeats 1000000 in
theorem Ph1.step {w : World} {b C : Nat} {st s2 : St} {t : Int} {a : Option Addr} {c : Nat} {ls : List (List Value)} {m : List Chg} {wr w4 : World} (h : Ph1 w b C st t a c ls m wr) (k p : Int) (V : List Int) (av : Option Addr) (cv : Nat) (h4 : InTo wr b s2 w4) (hact : ActL w4 (.slice av V.length cv) V) (hfr : ∀ x, av = some x → wr.heap.size ≤ x.block) (hl : ls.length ≤ 1000) (N : Nat) (hN : ls.length = N) :
    w4.cell? ⟨C, 1, none⟩ = some (.slice a N c) ∧ C < w4.heap.size ∧
    ∃ a' c' w', (Builtin.append_ #[23, 23] 23 #[.slice a N c, .slice (some ⟨w4.heap.size, 0, none⟩) 1 1]).run Try.prog (w4.alloc (.cells #[.int .i64 k, .int .i64 p, .slice av V.length cv] 97)) = .ok (.slice a' (N + 1) c') w' ∧ w'.cell? ⟨C, 1, none⟩ = some (.slice a N c) ∧ w'.frozen? ⟨C, 1, none⟩ = false ∧
      Ph1 w b C s2 t a' c' (ls ++ [[.int .i64 k, .int .i64 p, .slice av V.length cv]]) (m ++ [⟨k, p, V⟩]) (w'.setCell ⟨C, 1, none⟩ (.slice a' (N + 1) c')) := by
  subst hN
  have hlt := h.r.lt
  obtain ⟨lo1, lo2⟩ := h.r.lo
  have hz4 := h4.2.size
  have r4 := h.r.inp h4
  have hx : ([.int .i64 k, .int .i64 p, .slice av V.length cv] : List Value).length = 3 ∧ ∀ u ∈ ([.int .i64 k, .int .i64 p, .slice av V.length cv] : List Value), u.oneCell' = true := ⟨rfl, fun u hu => by
    simp only [List.mem_cons, List.not_mem_nil, or_false] at hu
    rcases hu with rfl | rfl | rfl <;> rfl⟩
  have row4 : OwnV 97 3 (C + 1) a c ls w4 := h.row.touch h4.2 (fun y hy e => by have := h.row.2 y hy; omega)
  have inn4 := h.inn.low (h4.2.mono fun k _ e => show k < C + 1 by omega)
  have hold := h.row.lt
  have hnew : Inn (C + 1) a w4 (fun W => ChV W [.int .i64 k, .int .i64 p, .slice av V.length cv] ⟨k, p, V⟩) := fun W hW => ⟨av, cv, rfl, act_touch hact hW (fun h0 x hx e => by
    have h1 := hfr x hx
    rcases e with e | e
    · omega
    · cases a with
      | none => simp at e
      | some y => simp at e; have := hold y rfl; omega)⟩
  obtain ⟨a', c', w', h1, h2, h3, hf⟩ := row4.one' (ty := 23) chgTy20 Try.underlying23 (by omega) _ hx (by omega) ls.length rfl _ rfl
  have hS : ∀ z, a.map (·.block) = some z → C + 1 ≤ z := fun z e1 => map_none (P := fun z => C + 1 ≤ z) h.row.2 _ e1
  have r5 := r4.touch h3 (fun k e => by have := hS k e; omega)
  have c1 : w'.cell? ⟨C, 1, none⟩ = some (.slice a ls.length c) := r5.c 1 (by simp)
  have r6 := r5.set (i := 1) (by decide) (.slice a' (ls.length + 1) c')
  have hC5 : Touch (fun k => k = C) w' (w'.setCell ⟨C, 1, none⟩ (.slice a' (ls.length + 1) c')) := (Touch.refl (fun k => k = C) w').setCell (p := ⟨C, 1, none⟩) (fun _ => rfl) _
  refine ⟨r4.c 1 (by simp), r4.lt, a', c', w', h1, c1, r5.fc 1, ⟨?_, ?_, ?_⟩⟩
  · rw [List.length_append]
    exact r6
  · exact h2.touch hC5 (fun y hy e => by have := h2.2 y hy; omega)
  · exact (((inn4.and hnew).app h3 hf).low (hC5.mono fun k _ e => show k < C + 1 by omega)).imp fun W hW => hW.1.snoc hW.2
/-- The plays are read. -/
structure Ph2 (w : World) (b C : Nat) (st : St) (t : Int) (a : Option Addr) (c : Nat) (ls : List (List Value)) (m : List Chg) (tk dl : Int) (a2 : Option Addr) (c2 : Nat) (ls2 : List (List Value)) (pm : List Pl) (wr : World) : Prop where
  r : RcR w b C st [.int .i64 t, .slice a ls.length c, .int .i64 tk, .int .i64 dl, .slice a2 ls2.length c2] wr
  row : OwnV 52 2 (C + 1) a2 c2 ls2 wr
  inn : Inn (C + 1) a2 wr (fun W => (VRow 3 W a ls ∧ ChIs W ls m) ∧ PlIs W ls2 pm)
theorem Ph1.two {w : World} {b C : Nat} {st s2 : St} {t : Int} {a : Option Addr} {c : Nat} {ls : List (List Value)} {m : List Chg} {wr w4 : World} (h : Ph1 w b C st t a c ls m wr) (h4 : InTo wr b s2 w4) (tk dl : Int) : Ph2 w b C s2 t a c ls m tk dl none 0 [] [] ((w4.setCell ⟨C, 2, none⟩ (.int .i64 tk)).setCell ⟨C, 3, none⟩ (.int .i64 dl)) := by
  obtain ⟨lo1, lo2⟩ := h.r.lo
  have r4 := (((h.r.inp h4).set (i := 2) (by decide) (.int .i64 tk)).set (i := 3) (by decide) (.int .i64 dl))
  have hC : Touch (fun k => k < C + 1) wr ((w4.setCell ⟨C, 2, none⟩ (.int .i64 tk)).setCell ⟨C, 3, none⟩ (.int .i64 dl)) :=
    ((h4.2.mono fun k _ e => show k < C + 1 by omega).setCell (p := ⟨C, 2, none⟩) (fun _ => show C < C + 1 by omega) _).setCell (p := ⟨C, 3, none⟩) (fun _ => show C < C + 1 by omega) _
  have hw := (h.inn.now).wide
  have i1 : Inn (C + 1) none wr (fun W => VRow 3 W a ls) := fun W hW => VRow.touch (by decide) hw (h.row.row hw) hW (fun x hx e => by
    have := h.row.2 x hx
    rcases e with e | e
    · omega
    · simp at e)
  exact ⟨r4, ⟨World.ownsRow_nil _ _ _ _, (fun x hx => by cases hx)⟩, (((i1.and (h.inn.sub (Nat.le_refl _))).low hC).imp fun W hW => ⟨hW, PlIs.nil W⟩)⟩
theorem Ph2.inp {w : World} {b C : Nat} {st s2 : St} {t : Int} {a : Option Addr} {c : Nat} {ls : List (List Value)} {m : List Chg} {tk dl : Int} {a2 : Option Addr} {c2 : Nat} {ls2 : List (List Value)} {pm : List Pl} {wr w4 : World} (h : Ph2 w b C st t a c ls m tk dl a2 c2 ls2 pm wr) (h4 : InTo wr b s2 w4) : Ph2 w b C s2 t a c ls m tk dl a2 c2 ls2 pm w4 := by
  obtain ⟨lo1, lo2⟩ := h.r.lo
  exact ⟨h.r.inp h4, h.row.touch h4.2 (fun y hy e => by have := h.row.2 y hy; omega), h.inn.low (h4.2.mono fun k _ e => show k < C + 1 by omega)⟩
set_option maxHeartbeats 1000000 in
theorem Ph2.step {w : World} {b C : Nat} {st s2 : St} {t : Int} {a : Option Addr} {c : Nat} {ls : List (List Value)} {m : List Chg} {tk dl : Int} {a2 : Option Addr} {c2 : Nat} {ls2 : List (List Value)} {pm : List Pl} {wr w4 : World} (h : Ph2 w b C st t a c ls m tk dl a2 c2 ls2 pm wr) (p : Int) (L : List Ord) (av : Option Addr) (cv : Nat) (h4 : InTo wr b s2 w4) (hact : OrdRow w4 av L) (hfr : ∀ x, av = some x → wr.heap.size ≤ x.block) (hl : ls2.length ≤ 1000) (N : Nat) (hN : ls2.length = N) :
    w4.cell? ⟨C, 4, none⟩ = some (.slice a2 N c2) ∧ C < w4.heap.size ∧
    ∃ a' c' w', (Builtin.append_ #[32, 32] 32 #[.slice a2 N c2, .slice (some ⟨w4.heap.size, 0, none⟩) 1 1]).run Try.prog (w4.alloc (.cells #[.int .i64 p, .slice av L.length cv] 52)) = .ok (.slice a' (N + 1) c') w' ∧ w'.cell? ⟨C, 4, none⟩ = some (.slice a2 N c2) ∧ w'.frozen? ⟨C, 4, none⟩ = false ∧
      Ph2 w b C s2 t a c ls m tk dl a' c' (ls2 ++ [[.int .i64 p, .slice av L.length cv]]) (pm ++ [⟨p, L⟩]) (w'.setCell ⟨C, 4, none⟩ (.slice a' (N + 1) c')) := by
  subst hN
  have hlt := h.r.lt
  obtain ⟨lo1, lo2⟩ := h.r.lo
  have hz4 := h4.2.size
  have hx : ([.int .i64 p, .slice av L.length cv] : List Value).length = 2 ∧ ∀ u ∈ ([.int .i64 p, .slice av L.length cv] : List Value), u.oneCell' = true := ⟨rfl, fun u hu => by
    simp only [List.mem_cons, List.not_mem_nil, or_false] at hu
    rcases hu with rfl | rfl <;> rfl⟩
  have h4' := h.inp h4
  have hold := h.row.lt
  have hnew : Inn (C + 1) a2 w4 (fun W => PlV W [.int .i64 p, .slice av L.length cv] ⟨p, L⟩) := fun W hW => ⟨av, cv, rfl, (OrdL.of hact).touch hW (fun x hx e => by
    have h1 := hfr x hx
    rcases e with e | e
    · omega
    · cases a2 with
      | none => simp at e
      | some y => simp at e; have := hold y rfl; omega)⟩
  obtain ⟨a', c', w', h1, h2, h3, hf⟩ := h4'.row.one' (ty := 32) plyTy20 Try.underlying32 (by omega) _ hx (by omega) ls2.length rfl _ rfl
  have hS : ∀ z, a2.map (·.block) = some z → C + 1 ≤ z := fun z e1 => map_none (P := fun z => C + 1 ≤ z) h.row.2 _ e1
  have r5 := h4'.r.touch h3 (fun k e => by have := hS k e; omega)
  have c1 : w'.cell? ⟨C, 4, none⟩ = some (.slice a2 ls2.length c2) := r5.c 4 (by simp)
  have r6 := r5.set (i := 4) (by decide) (.slice a' (ls2.length + 1) c')
  have hC5 : Touch (fun k => k = C) w' (w'.setCell ⟨C, 4, none⟩ (.slice a' (ls2.length + 1) c')) := (Touch.refl (fun k => k = C) w').setCell (p := ⟨C, 4, none⟩) (fun _ => rfl) _
  refine ⟨h4'.r.c 4 (by simp), h4'.r.lt, a', c', w', h1, c1, r5.fc 4, ⟨?_, ?_, ?_⟩⟩
  · rw [List.length_append]
    exact r6
  · exact h2.touch hC5 (fun y hy e => by have := h2.2 y hy; omega)
  · exact (((h4'.inn.and hnew).app h3 hf).low (hC5.mono fun k _ e => show k < C + 1 by omega)).imp fun W hW => ⟨hW.1.1, hW.1.2.snoc hW.2⟩
end Go.Proofs.Ytcbadcbnknmdnaa
