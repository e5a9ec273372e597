/-
  A map of whole numbers: a store at a key that is there.
-/
import Derived.Test.YtcbadcbnknmdnaaDoorWin8
namespace Go.Proofs.YtcbadcbnknmdnaaDoor
open Go.RowKit Go.ChangeMaps
set_option linter.unusedVariables false

def setL (L : List (Nat × Value)) (n : Nat) (v : Value) : List (Nat × Value) := L.map (fun p => if p.1 = n then (p.1, v) else p)
theorem setL_keys (L : List (Nat × Value)) (n : Nat) (v : Value) : (setL L n v).map (·.1) = L.map (·.1) := by
  unfold setL
  rw [List.map_map]
  apply List.map_congr_left
  intro p hp
  simp only [Function.comp]
  split <;> rfl
theorem setL_same {L : List (Nat × Value)} {n : Nat} {v : Value} (h : ∀ p ∈ L, p.1 ≠ n) : setL L n v = L := by
  unfold setL
  conv => rhs; rw [← List.map_id L]
  apply List.map_congr_left
  intro p hp
  rw [if_neg (h p hp)]; rfl
theorem modify_set {q : IntKind} {es : List MapEntry} {L : List (Nat × Value)} (he : EntsAre q es L) (nd : (L.map (·.1)).Nodup) (j : Nat) (x : MapEntry) (n : Nat) (v : Value) (hj : es[j]? = some x) (hx : x.key = .int q (n : Int)) :
    EntsAre q (es.set j ⟨.int q (n : Int), v, x.born⟩) (setL L n v) ∧ (es.set j ⟨.int q (n : Int), v, x.born⟩).map (·.born) = es.map (·.born) := by
  induction es generalizing L j with
  | nil => simp at hj
  | cons y es ih =>
    cases L with
    | nil => simp [EntsAre] at he
    | cons p L =>
      unfold EntsAre at he
      simp only [List.map_cons, List.cons.injEq, Prod.mk.injEq] at he
      obtain ⟨⟨e1, e2⟩, e3⟩ := he
      simp only [List.map_cons, List.nodup_cons] at nd
      cases j with
      | zero =>
        simp at hj; subst hj
        rw [hx] at e1
        have hn := int_inj e1
        have hs : setL L n v = L := setL_same fun z hz e => nd.1 (by rw [← hn, ← e]; exact List.mem_map.2 ⟨z, hz, rfl⟩)
        refine ⟨?_, by simp⟩
        show EntsAre q _ (setL (p :: L) n v)
        have hsc : setL (p :: L) n v = (p.1, v) :: setL L n v := by unfold setL; simp [hn]
        rw [hsc, hs]
        unfold EntsAre
        simp only [List.set_cons_zero, List.map_cons, e3, hn]
      | succ j =>
        have hj' : es[j]? = some x := by simpa using hj
        have hne : p.1 ≠ n := fun e => by
          obtain ⟨p', hp', e4, -⟩ := ents_mem (q := q) (L := L) e3 (List.mem_of_getElem? hj')
          rw [hx] at e4
          have := int_inj e4
          exact nd.1 (List.mem_map.2 ⟨p', hp', by omega⟩)
        obtain ⟨i1, i2⟩ := ih e3 nd.2 j hj'
        have hsc : setL (p :: L) n v = p :: setL L n v := by unfold setL; simp [hne]
        rw [hsc]
        unfold EntsAre at i1 ⊢
        simp only [List.set_cons_succ, List.map_cons, i1, i2, e1, e2, and_self]
theorem modify_is {α : Type} (l : List α) (j : Nat) (f : α → α) (x : α) (h : l[j]? = some x) : l.modify j f = l.set j (f x) := by
  induction l generalizing j with
  | nil => simp at h
  | cons y l ih =>
    cases j with
    | zero => simp at h; subst h; rfl
    | succ j =>
      have h' : l[j]? = some x := by simpa using h
      rw [List.set_cons_succ, ← ih j h']
      rfl
theorem mp_put {P : Program} {q : IntKind} {k t e : TypeId} (hk : P.underlying k = some (.int q)) (ht : P.underlying t = some (.map k e)) {w : World} {r : Nat} {L : List (Nat × Value)} (h : MpAt q w r L) (n : Nat) (hn : (Lit.int q (n : Int)).wf = true) (v0 v : Value) (hin : (n, v0) ∈ L) :
    ∃ w', (Instr.mapUpdate t (.map (some r)) (.int q (n : Int)) v).run P w = .ok () w' ∧ MpAt q w' r (setL L n v) ∧ Touch (fun j => j = r) w w' := by
  obtain ⟨es, clock, hb, he, hbn, hbc⟩ := h.ex
  rcases mp_find (w := w) hk he h.wf n hn with ⟨h1, h2⟩ | ⟨j, x, h1, h2, h3, h4⟩
  · exact absurd rfl (h2 _ hin)
  · obtain ⟨m1, m2⟩ := modify_set he h.nd j x n v h2 h3
    have hjl : j < es.length := (List.getElem?_eq_some_iff.1 h2).1
    have hxj : es[j] = x := (List.getElem?_eq_some_iff.1 h2).2
    have hmod : es.toArray.modify j (fun e => { e with key := .int q (n : Int), val := v }) = (es.set j ⟨.int q (n : Int), v, x.born⟩).toArray := by
      apply Array.toList_inj.1
      simp only [Array.toList_modify]
      exact modify_is es j _ x h2
    refine ⟨setBlock w r (.map ((es.set j ⟨.int q (n : Int), v, x.born⟩).toArray) clock), ?_, ⟨⟨_, clock, heap_setBlock_same hb _, m1, by rw [m2]; exact hbn, fun y hy => ?_⟩, by rw [setL_keys]; exact h.nd, fun p hp => ?_⟩, touch_block hb _⟩
    · rw [← hmod]
      simp [Instr.mapUpdate, run_underlying ht, MapKept.run_getObj_map hb, (Maps.int_keyed hk).check w false (Maps.keyOf_int_mk hk hn), h1, h2, h3, (Maps.int_keyed hk).stays w (Maps.keyOf_int_mk hk hn), MapKept.run_setObj_map _ hb, Result.andThen, setBlock]
    · have : y.born ∈ (es.set j ⟨.int q (n : Int), v, x.born⟩).map (·.born) := List.mem_map.2 ⟨y, hy, rfl⟩
      rw [m2] at this
      obtain ⟨z, hz, e1⟩ := List.mem_map.1 this
      rw [← e1]; exact hbc z hz
    · have : p.1 ∈ (setL L n v).map (·.1) := List.mem_map.2 ⟨p, hp, rfl⟩
      rw [setL_keys] at this
      obtain ⟨z, hz, e1⟩ := List.mem_map.1 this
      rw [← e1]; exact h.wf z hz
end Go.Proofs.YtcbadcbnknmdnaaDoor
