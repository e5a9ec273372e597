/-
  A map of whole numbers that lies in a block: what is looked up, put in and taken out.
-/
import Derived.Test.YtclecalhbmpipaaFrag3
import Derived.Maps.Own
import Derived.Laws.IdiomRangeMap
namespace Go.Proofs.Ytclecalhbmpipaa
open Go.RowKit Go.ChangeMaps
set_option linter.unusedVariables false

/-- The entries of a map: what their keys and values are. -/
def EntsAre (q : IntKind) (es : List MapEntry) (L : List (Nat × Value)) : Prop := es.map (fun e => (e.key, e.val)) = L.map (fun p => (Value.int q (p.1 : Int), p.2))
/-- At block r lies a map of the entries L, no key twice. -/
structure MpAt (q : IntKind) (w : World) (r : Nat) (L : List (Nat × Value)) : Prop where
  ex : ∃ (es : List MapEntry) (clock : Nat), w.heap[r]? = some (.map es.toArray clock) ∧ EntsAre q es L ∧ (es.map (·.born)).Nodup ∧ (∀ x ∈ es, x.born < clock)
  nd : (L.map (·.1)).Nodup
  wf : ∀ p ∈ L, (Lit.int q (p.1 : Int)).wf = true
theorem MpAt.lt {q : IntKind} {w : World} {r : Nat} {L : List (Nat × Value)} (h : MpAt q w r L) : r < w.heap.size := by
  obtain ⟨es, clock, h1, -⟩ := h.ex
  exact (Array.getElem?_eq_some_iff.1 h1).1
theorem MpAt.touch {q : IntKind} {S : Nat → Prop} {w w' : World} {r : Nat} {L : List (Nat × Value)} (h : MpAt q w r L) (ht : Touch S w w') (hr : ¬ S r) : MpAt q w' r L := by
  obtain ⟨es, clock, h1, h2⟩ := h.ex
  exact ⟨⟨es, clock, (ht.block r h.lt hr).trans h1, h2⟩, h.nd, h.wf⟩
theorem MpAt.made (q : IntKind) (w : World) : MpAt q (w.alloc (.map #[] 0)) w.heap.size [] :=
  ⟨⟨[], 0, by show (w.heap.push (.map #[] 0))[w.heap.size]? = _; simp, rfl, by simp, by simp⟩, by simp, by simp⟩
theorem ents_len {q : IntKind} {es : List MapEntry} {L : List (Nat × Value)} (h : EntsAre q es L) : es.length = L.length := by
  have := congrArg List.length h
  simpa using this
theorem ents_mem {q : IntKind} {es : List MapEntry} {L : List (Nat × Value)} (h : EntsAre q es L) {x : MapEntry} (hx : x ∈ es) : ∃ p ∈ L, x.key = .int q (p.1 : Int) ∧ x.val = p.2 := by
  have : (x.key, x.val) ∈ es.map (fun e => (e.key, e.val)) := List.mem_map.2 ⟨x, hx, rfl⟩
  rw [h] at this
  obtain ⟨p, hp, e⟩ := List.mem_map.1 this
  simp only [Prod.mk.injEq] at e
  exact ⟨p, hp, e.1.symm, e.2.symm⟩
theorem ents_back {q : IntKind} {es : List MapEntry} {L : List (Nat × Value)} (h : EntsAre q es L) {p : Nat × Value} (hp : p ∈ L) : ∃ x ∈ es, x.key = .int q (p.1 : Int) ∧ x.val = p.2 := by
  have : (Value.int q (p.1 : Int), p.2) ∈ L.map (fun p => (Value.int q (p.1 : Int), p.2)) := List.mem_map.2 ⟨p, hp, rfl⟩
  rw [← h] at this
  obtain ⟨x, hx, e⟩ := List.mem_map.1 this
  simp only [Prod.mk.injEq] at e
  exact ⟨x, hx, e.1, e.2⟩
theorem int_inj {q : IntKind} {a b : Nat} (h : Value.int q (a : Int) = Value.int q (b : Int)) : a = b := by
  simp only [Value.int.injEq, true_and] at h; omega
theorem mp_find {P : Program} {q : IntKind} {k : TypeId} (hk : P.underlying k = some (.int q)) {w : World} {es : List MapEntry} {L : List (Nat × Value)} (he : EntsAre q es L) (hw : ∀ p ∈ L, (Lit.int q (p.1 : Int)).wf = true) (n : Nat) (hn : (Lit.int q (n : Int)).wf = true) :
    ((Instr.findKey k (.int q (n : Int)) es).run P w = .ok none w ∧ ∀ p ∈ L, p.1 ≠ n) ∨ ∃ j x, (Instr.findKey k (.int q (n : Int)) es).run P w = .ok (some (j, x.val)) w ∧ es[j]? = some x ∧ x.key = .int q (n : Int) ∧ (n, x.val) ∈ L := by
  rcases (Maps.int_keyed hk).find w (Maps.keyOf_int_mk hk hn) es (fun x hx => by
    obtain ⟨p, hp, e1, -⟩ := ents_mem he hx
    exact ⟨_, by rw [e1]; exact Maps.keyOf_int_mk hk (hw p hp)⟩) with ⟨h1, h2⟩ | ⟨j, x, h1, h2, h3⟩
  · refine .inl ⟨h1, fun p hp e1 => ?_⟩
    obtain ⟨x, hx, e2, -⟩ := ents_back he hp
    exact h2 x hx (by rw [e2, e1])
  · refine .inr ⟨j, x, h1, h2, h3, ?_⟩
    obtain ⟨p, hp, e1, e2⟩ := ents_mem he (List.mem_of_getElem? h2)
    rw [h3] at e1
    have := int_inj e1
    rw [this, e2]; exact hp
theorem mp_look {P : Program} {q : IntKind} {k t e : TypeId} (hk : P.underlying k = some (.int q)) (ht : P.underlying t = some (.map k e)) {w : World} {r : Nat} {L : List (Nat × Value)} (h : MpAt q w r L) {z : Value} (hz : (zeroValue e).run P w = .ok z w) (n : Nat) (hn : (Lit.int q (n : Int)).wf = true) (c : Bool) :
    ((∀ p ∈ L, p.1 ≠ n) ∧ (Instr.lookup t (.map (some r)) (.int q (n : Int)) c).run P w = .ok (if c then .tuple #[z, .bool false] else z) w) ∨ ∃ v, (n, v) ∈ L ∧ (Instr.lookup t (.map (some r)) (.int q (n : Int)) c).run P w = .ok (if c then .tuple #[v, .bool true] else v) w := by
  obtain ⟨es, clock, hb, he, -⟩ := h.ex
  rcases mp_find (w := w) hk he h.wf n hn with ⟨h1, h2⟩ | ⟨j, x, h1, h2, h3, h4⟩
  · left
    refine ⟨h2, ?_⟩
    simp [Instr.lookup, run_underlying ht, MapKept.run_getObj_map hb, (Maps.int_keyed hk).check w _ (Maps.keyOf_int_mk hk hn), h1, hz, Result.andThen]
  · right
    refine ⟨x.val, h4, ?_⟩
    simp [Instr.lookup, run_underlying ht, MapKept.run_getObj_map hb, (Maps.int_keyed hk).check w _ (Maps.keyOf_int_mk hk hn), h1, Result.andThen]
theorem touch_block {w : World} {r : Nat} {es : Array MapEntry} {clock : Nat} (hb : w.heap[r]? = some (.map es clock)) (o : Obj) : Touch (fun j => j = r) w (setBlock w r o) :=
  ⟨rfl, rfl, rfl, by simp [setBlock], fun j hj hne => heap_setBlock_other hb o hne⟩
theorem mp_store {P : Program} {q : IntKind} {k t e : TypeId} (hk : P.underlying k = some (.int q)) (ht : P.underlying t = some (.map k e)) {w : World} {r : Nat} {L : List (Nat × Value)} (h : MpAt q w r L) (n : Nat) (hn : (Lit.int q (n : Int)).wf = true) (hnew : ∀ p ∈ L, p.1 ≠ n) (v : Value) :
    ∃ w', (Instr.mapUpdate t (.map (some r)) (.int q (n : Int)) v).run P w = .ok () w' ∧ MpAt q w' r (L ++ [(n, v)]) ∧ Touch (fun j => j = r) w w' := by
  obtain ⟨es, clock, hb, he, hbn, hbc⟩ := h.ex
  rcases mp_find (w := w) hk he h.wf n hn with ⟨h1, h2⟩ | ⟨j, x, h1, h2, h3, h4⟩
  · refine ⟨setBlock w r (.map ((es ++ [(⟨.int q (n : Int), v, clock⟩ : MapEntry)]).toArray) (clock + 1)), ?_, ⟨⟨es ++ [(⟨.int q (n : Int), v, clock⟩ : MapEntry)], clock + 1, heap_setBlock_same hb _, ?_, ?_, ?_⟩, ?_, ?_⟩, touch_block hb _⟩
    · simp [Instr.mapUpdate, run_underlying ht, MapKept.run_getObj_map hb, (Maps.int_keyed hk).check w false (Maps.keyOf_int_mk hk hn), h1, MapKept.run_setObj_map _ hb, Result.andThen, setBlock]
    · unfold EntsAre at he ⊢
      rw [List.map_append, List.map_append, he]; rfl
    · rw [List.map_append, List.nodup_append]
      refine ⟨hbn, by simp, fun a ha b hb' => ?_⟩
      obtain ⟨x, hx, rfl⟩ := List.mem_map.1 ha
      simp at hb'; subst hb'
      have := hbc x hx; omega
    · intro x hx
      rcases List.mem_append.1 hx with hx | hx
      · have := hbc x hx; omega
      · simp at hx; subst hx; simp
    · rw [List.map_append, List.nodup_append]
      refine ⟨h.nd, by simp, fun a ha b hb' => ?_⟩
      obtain ⟨p, hp, rfl⟩ := List.mem_map.1 ha
      simp at hb'; subst hb'
      exact hnew p hp
    · intro p hp
      rcases List.mem_append.1 hp with hp | hp
      · exact h.wf p hp
      · simp at hp; subst hp; exact hn
  · exact absurd rfl (hnew _ h4)
theorem erase_filter {q : IntKind} {es : List MapEntry} {L : List (Nat × Value)} (he : EntsAre q es L) (nd : (L.map (·.1)).Nodup) (j : Nat) (x : MapEntry) (n : Nat) (hj : es[j]? = some x) (hx : x.key = .int q (n : Int)) : EntsAre q (es.eraseIdx j) (L.filter (fun p => p.1 != n)) := by
  induction es generalizing L j with
  | nil => simp at hj
  | cons y es ih =>
    cases L with
    | nil => simp [EntsAre] at he
    | cons p L =>
      unfold EntsAre at he
      simp only [List.map_cons, List.cons.injEq, Prod.mk.injEq] at he
      obtain ⟨⟨e1, e2⟩, e3⟩ := he
      simp only [List.map_cons, List.nodup_cons] at nd
      cases j with
      | zero =>
        simp at hj; subst hj
        rw [hx] at e1
        have hn := int_inj e1
        have hf : (p :: L).filter (fun p => p.1 != n) = L := by
          rw [List.filter_cons_of_neg (by simp [hn])]
          refine List.filter_eq_self.2 fun z hz => ?_
          have : z.1 ≠ p.1 := fun e => nd.1 (by rw [← e]; exact List.mem_map.2 ⟨z, hz, rfl⟩)
          simp; omega
        rw [hf]; exact e3
      | succ j =>
        have hj' : es[j]? = some x := by simpa using hj
        have hne : p.1 ≠ n := fun e => by
          obtain ⟨p', hp', e4, -⟩ := ents_mem (q := q) (L := L) e3 (List.mem_of_getElem? hj')
          rw [hx] at e4
          have := int_inj e4
          exact nd.1 (List.mem_map.2 ⟨p', hp', by omega⟩)
        rw [List.filter_cons_of_pos (by simpa using hne)]
        have := ih e3 nd.2 j hj'
        unfold EntsAre at this ⊢
        simp only [List.eraseIdx_cons_succ, List.map_cons, this, e1, e2]
theorem mp_drop {ty : TypeId} {P : Program} {q : IntKind} {k t e : TypeId} (hk : P.underlying k = some (.int q)) (ht : P.underlying t = some (.map k e)) {w : World} {r : Nat} {L : List (Nat × Value)} (h : MpAt q w r L) (n : Nat) (hn : (Lit.int q (n : Int)).wf = true) (v : Value) (hin : (n, v) ∈ L) :
    ∃ w', (Builtin.delete_ #[t, k] ty #[.map (some r), .int q (n : Int)]).run P w = .ok (.tuple #[]) w' ∧ MpAt q w' r (L.filter (fun p => p.1 != n)) ∧ Touch (fun j => j = r) w w' := by
  obtain ⟨es, clock, hb, he, hbn, hbc⟩ := h.ex
  rcases mp_find (w := w) hk he h.wf n hn with ⟨h1, h2⟩ | ⟨j, x, h1, h2, h3, h4⟩
  · exact absurd rfl (h2 _ hin)
  · have hjl : j < es.length := (List.getElem?_eq_some_iff.1 h2).1
    refine ⟨setBlock w r (.map ((es.eraseIdx j).toArray) clock), ?_, ⟨⟨es.eraseIdx j, clock, heap_setBlock_same hb _, erase_filter he h.nd j x n h2 h3, ?_, fun y hy => hbc y ((List.eraseIdx_sublist _ _).subset hy)⟩, ?_, fun p hp => h.wf p (List.mem_filter.1 hp).1⟩, touch_block hb _⟩
    · simp [Builtin.delete_, run_underlying ht, MapKept.run_getObj_map hb, (Maps.int_keyed hk).check w _ (Maps.keyOf_int_mk hk hn), h1, MapKept.run_setObj_map _ hb, Result.andThen, setBlock, Array.eraseIdxIfInBounds, hjl]
    · rw [map_eraseIdx]; exact hbn.sublist (List.eraseIdx_sublist _ _)
    · exact h.nd.sublist ((List.filter_sublist).map _)
end Go.Proofs.Ytclecalhbmpipaa
