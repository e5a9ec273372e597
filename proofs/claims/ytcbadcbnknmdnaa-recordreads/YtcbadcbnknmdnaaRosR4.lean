/-
  Layer 13: what was sent: what is told; two rows that grow.
-/
import Derived.Test.YtcbadcbnknmdnaaWalkFAll
import Derived.Deep.RegionHeld3
import Derived.Deep.RegionLaw
import Derived.Laws.OwnMore
import Derived.Shelf.Spec.TrailingZeros
import Derived.LaidMore
import Derived.ProofKit
import Derived.OpenShut
import Derived.Lib.LaidTab
namespace Go.Proofs.Ytcbadcbnknmdnaa
open Go.RowKit
set_option linter.unusedVariables false

/-- Two rows of the call's own. -/
structure Two (e1 k1 e2 k2 : Nat) (w : World) (a1 : Option Addr) (c1 : Nat) (l1 : List (List Value)) (a2 : Option Addr) (c2 : Nat) (l2 : List (List Value)) (wr : World) : Prop where
  r1 : OwnV e1 k1 0 a1 c1 l1 wr
  r2 : OwnV e2 k2 0 a2 c2 l2 wr
  n1 : ∀ x, a1 = some x → w.heap.size ≤ x.block
  n2 : ∀ x, a2 = some x → w.heap.size ≤ x.block
  dj : ∀ x y, a1 = some x → a2 = some y → x.block ≠ y.block
  bel : Below w.heap.size w wr
theorem Two.keep {e1 k1 e2 k2 : Nat} {w : World} {a1 a2 : Option Addr} {c1 c2 : Nat} {l1 l2 : List (List Value)} {wr w' : World} (h : Two e1 k1 e2 k2 w a1 c1 l1 a2 c2 l2 wr) (hb : Below wr.heap.size wr w') : Two e1 k1 e2 k2 w a1 c1 l1 a2 c2 l2 w' :=
  ⟨h.r1.touch (touch_of_below (S := fun _ => False) hb) (fun _ _ => id), h.r2.touch (touch_of_below (S := fun _ => False) hb) (fun _ _ => id), h.n1, h.n2, h.dj, h.bel.trans (hb.mono h.bel.size)⟩
theorem Two.none (e1 k1 e2 k2 : Nat) (w : World) : Two e1 k1 e2 k2 w none 0 [] none 0 [] w :=
  ⟨⟨World.ownsRow_nil _ _ _ _, (fun x hx => by cases hx)⟩, ⟨World.ownsRow_nil _ _ _ _, (fun x hx => by cases hx)⟩, (fun x hx => by cases hx), (fun x hx => by cases hx), (fun x y hx => by cases hx), Below.refl _ _⟩
theorem Two.first {e1 k1 e2 k2 : Nat} {w : World} {a1 a2 a' : Option Addr} {c1 c2 c' : Nat} {l1 l2 l' : List (List Value)} {wr w' : World} (h : Two e1 k1 e2 k2 w a1 c1 l1 a2 c2 l2 wr) (ho : OwnV e1 k1 0 a' c' l' w') (ht : Touch (fun k => a1.map (·.block) = some k) wr w') (hn : ∀ x, a' = some x → a1.map (·.block) = some x.block ∨ wr.heap.size ≤ x.block) : Two e1 k1 e2 k2 w a' c' l' a2 c2 l2 w' := by
  have hs := h.bel.size
  refine ⟨ho, h.r2.touch ht (fun y hy e => map_none (P := fun k => k = y.block → False) (fun x hx e => h.dj x y hx hy e) _ e rfl), fun x hx => ?_, h.n2, fun x y hx hy => ?_, h.bel.trans (ht.below hs fun k hk e => by have := map_none (P := fun k => w.heap.size ≤ k) h.n1 k e; omega)⟩
  · rcases hn x hx with e | e
    · exact map_none (P := fun k => w.heap.size ≤ k) h.n1 _ e
    · omega
  · rcases hn x hx with e | e
    · exact map_none (P := fun k => k ≠ y.block) (fun z hz => h.dj z y hz hy) _ e
    · have := h.r2.lt y hy; omega
theorem Two.second {e1 k1 e2 k2 : Nat} {w : World} {a1 a2 a' : Option Addr} {c1 c2 c' : Nat} {l1 l2 l' : List (List Value)} {wr w' : World} (h : Two e1 k1 e2 k2 w a1 c1 l1 a2 c2 l2 wr) (ho : OwnV e2 k2 0 a' c' l' w') (ht : Touch (fun k => a2.map (·.block) = some k) wr w') (hn : ∀ x, a' = some x → a2.map (·.block) = some x.block ∨ wr.heap.size ≤ x.block) : Two e1 k1 e2 k2 w a1 c1 l1 a' c' l' w' := by
  have hs := h.bel.size
  refine ⟨h.r1.touch ht (fun y hy e => map_none (P := fun k => y.block = k → False) (fun x hx e => h.dj y x hy hx e) _ e rfl), ho, h.n1, fun x hx => ?_, fun x y hx hy => ?_, h.bel.trans (ht.below hs fun k hk e => by have := map_none (P := fun k => w.heap.size ≤ k) h.n2 k e; omega)⟩
  · rcases hn x hx with e | e
    · exact map_none (P := fun k => w.heap.size ≤ k) h.n2 _ e
    · omega
  · rcases hn y hy with e | e
    · exact map_none (P := fun k => x.block ≠ k) (fun z hz => h.dj x z hx hz) _ e
    · have := h.r1.lt x hx; omega
theorem u32Ty : VTy 26 1 (.int .u32 0) 4 := ⟨by kernel_rfl, rfl, by decide, by decide⟩
def u32C (n : Nat) : List Value := [.int .u32 (n : Int)]
theorem num_wide (l : List Nat) : VWide 1 (l.map u32C) := by
  intro x hx
  obtain ⟨p, -, rfl⟩ := List.mem_map.1 hx
  exact ⟨rfl, fun u hu => by simp only [u32C, List.mem_singleton] at hu; subst hu; rfl⟩
/-- One record more, made on the spot. -/
theorem own_one {e T : TypeId} {k by' : Nat} {z : Value} (H : VTy e k z by') (hT : Try.prog.underlying T = some (.slice e)) {w : World} {B : Nat} {a : Option Addr} {c : Nat} {ls : List (List Value)} (h : OwnV e k B a c ls w) (x : List Value) (hw : VWide k [x]) (hl : ls.length ≤ 100000) (n : Nat) (hn : ls.length = n) (cs : Array Value) (hcs : cs = x.toArray) :
    ∃ a' c' w', (Builtin.append_ #[T, T] T #[.slice a n c, .slice (some ⟨w.heap.size, 0, none⟩) 1 1]).run Try.prog (w.alloc (.cells cs e)) = .ok (.slice a' (n + 1) c') w' ∧ OwnV e k 0 a' c' (ls ++ [x]) w' ∧ Touch (fun b => a.map (·.block) = some b) w w' ∧ (∀ x, a' = some x → a.map (·.block) = some x.block ∨ w.heap.size ≤ x.block) := by
  subst hcs
  obtain ⟨a', c', w', h1, h2, h3, h4⟩ := own_app H hT (h.touch (touch_of_below (S := fun _ => False) (bel_alloc (Below.refl _ _) (.cells x.toArray e))) (fun _ _ => id)) w.heap.size 0 1 1 [x] hw rfl
    (fun i hi j hj => by
      obtain rfl : i = 0 := by simpa using hi
      rw [new_at _ _ rfl]
      simp) (by omega) n hn
  refine ⟨a', c', w', h1, h2, ?_, fun x hx => (h4 x hx).imp id fun e => by simp at e; omega⟩
  exact ((Touch.refl (fun b => a.map (·.block) = some b) w).alloc (.cells x.toArray e)).trans h3
end Go.Proofs.Ytcbadcbnknmdnaa
namespace Go.Proofs.Ytcbadcbnknmdnaa
open Go.RowKit
set_option linter.unusedVariables false

def cameO (nx B : Nat) (l : List (Nat × List UInt8)) : List Nat := (l.filter (fun p => hasB nx B p.1)).map (·.1)
def restO (nx B : Nat) (l : List (Nat × List UInt8)) : List (Nat × List UInt8) := l.filter (fun p => !hasB nx B p.1)
theorem came_snoc (nx B : Nat) (l : List (Nat × List UInt8)) (p : Nat × List UInt8) : cameO nx B (l ++ [p]) = cameO nx B l ++ (if hasB nx B p.1 = true then [p.1] else []) := by
  unfold cameO
  rw [List.filter_append, List.map_append]
  congr 1
  by_cases h : hasB nx B p.1 = true <;> simp [h]
theorem rest_snoc (nx B : Nat) (l : List (Nat × List UInt8)) (p : Nat × List UInt8) : restO nx B (l ++ [p]) = restO nx B l ++ (if hasB nx B p.1 = true then [] else [p]) := by
  unfold restO
  rw [List.filter_append]
  congr 1
  by_cases h : hasB nx B p.1 = true <;> simp [h]
theorem came_len (nx B : Nat) (l : List (Nat × List UInt8)) : (cameO nx B l).length ≤ l.length ∧ (restO nx B l).length ≤ l.length :=
  ⟨by unfold cameO; rw [List.length_map]; exact List.length_filter_le _ _, List.length_filter_le _ _⟩
end Go.Proofs.Ytcbadcbnknmdnaa
namespace Go.Proofs.Ytcbadcbnknmdnaa
open Go.RowKit Go.ChangeMaps
set_option linter.unusedVariables false

def setL (L : List (Nat × Value)) (n : Nat) (v : Value) : List (Nat × Value) := L.map (fun p => if p.1 = n then (p.1, v) else p)
theorem setL_keys (L : List (Nat × Value)) (n : Nat) (v : Value) : (setL L n v).map (·.1) = L.map (·.1) := by
  unfold setL
  rw [List.map_map]
  apply List.map_congr_left
  intro p hp
  simp only [Function.comp]
  split <;> rfl
theorem setL_same {L : List (Nat × Value)} {n : Nat} {v : Value} (h : ∀ p ∈ L, p.1 ≠ n) : setL L n v = L := by
  unfold setL
  conv => rhs; rw [← List.map_id L]
  apply List.map_congr_left
  intro p hp
  rw [if_neg (h p hp)]; rfl
theorem modify_set {q : IntKind} {es : List MapEntry} {L : List (Nat × Value)} (he : EntsAre q es L) (nd : (L.map (·.1)).Nodup) (j : Nat) (x : MapEntry) (n : Nat) (v : Value) (hj : es[j]? = some x) (hx : x.key = .int q (n : Int)) :
    EntsAre q (es.set j ⟨.int q (n : Int), v, x.born⟩) (setL L n v) ∧ (es.set j ⟨.int q (n : Int), v, x.born⟩).map (·.born) = es.map (·.born) := by
  induction es generalizing L j with
  | nil => simp at hj
  | cons y es ih =>
    cases L with
    | nil => simp [EntsAre] at he
    | cons p L =>
      unfold EntsAre at he
      simp only [List.map_cons, List.cons.injEq, Prod.mk.injEq] at he
      obtain ⟨⟨e1, e2⟩, e3⟩ := he
      simp only [List.map_cons, List.nodup_cons] at nd
      cases j with
      | zero =>
        simp at hj; subst hj
        rw [hx] at e1
        have hn := int_inj e1
        have hs : setL L n v = L := setL_same fun z hz e => nd.1 (by rw [← hn, ← e]; exact List.mem_map.2 ⟨z, hz, rfl⟩)
        refine ⟨?_, by simp⟩
        show EntsAre q _ (setL (p :: L) n v)
        have hsc : setL (p :: L) n v = (p.1, v) :: setL L n v := by unfold setL; simp [hn]
        rw [hsc, hs]
        unfold EntsAre
        simp only [List.set_cons_zero, List.map_cons, e3, hn]
      | succ j =>
        have hj' : es[j]? = some x := by simpa using hj
        have hne : p.1 ≠ n := fun e => by
          obtain ⟨p', hp', e4, -⟩ := ents_mem (q := q) (L := L) e3 (List.mem_of_getElem? hj')
          rw [hx] at e4
          have := int_inj e4
          exact nd.1 (List.mem_map.2 ⟨p', hp', by omega⟩)
        obtain ⟨i1, i2⟩ := ih e3 nd.2 j hj'
        have hsc : setL (p :: L) n v = p :: setL L n v := by unfold setL; simp [hne]
        rw [hsc]
        unfold EntsAre at i1 ⊢
        simp only [List.set_cons_succ, List.map_cons, i1, i2, e1, e2, and_self]
theorem modify_is {α : Type} (l : List α) (j : Nat) (f : α → α) (x : α) (h : l[j]? = some x) : l.modify j f = l.set j (f x) := by
  induction l generalizing j with
  | nil => simp at h
  | cons y l ih =>
    cases j with
    | zero => simp at h; subst h; rfl
    | succ j =>
      have h' : l[j]? = some x := by simpa using h
      rw [List.set_cons_succ, ← ih j h']
      rfl
theorem mp_put {P : Program} {q : IntKind} {k t e : TypeId} (hk : P.underlying k = some (.int q)) (ht : P.underlying t = some (.map k e)) {w : World} {r : Nat} {L : List (Nat × Value)} (h : MpAt q w r L) (n : Nat) (hn : (Lit.int q (n : Int)).wf = true) (v0 v : Value) (hin : (n, v0) ∈ L) :
    ∃ w', (Instr.mapUpdate t (.map (some r)) (.int q (n : Int)) v).run P w = .ok () w' ∧ MpAt q w' r (setL L n v) ∧ Touch (fun j => j = r) w w' := by
  obtain ⟨es, clock, hb, he, hbn, hbc⟩ := h.ex
  rcases mp_find (w := w) hk he h.wf n hn with ⟨h1, h2⟩ | ⟨j, x, h1, h2, h3, h4⟩
  · exact absurd rfl (h2 _ hin)
  · obtain ⟨m1, m2⟩ := modify_set he h.nd j x n v h2 h3
    have hjl : j < es.length := (List.getElem?_eq_some_iff.1 h2).1
    have hxj : es[j] = x := (List.getElem?_eq_some_iff.1 h2).2
    have hmod : es.toArray.modify j (fun e => { e with key := .int q (n : Int), val := v }) = (es.set j ⟨.int q (n : Int), v, x.born⟩).toArray := by
      apply Array.toList_inj.1
      simp only [Array.toList_modify]
      exact modify_is es j _ x h2
    refine ⟨setBlock w r (.map ((es.set j ⟨.int q (n : Int), v, x.born⟩).toArray) clock), ?_, ⟨⟨_, clock, heap_setBlock_same hb _, m1, by rw [m2]; exact hbn, fun y hy => ?_⟩, by rw [setL_keys]; exact h.nd, fun p hp => ?_⟩, touch_block hb _⟩
    · rw [← hmod]
      simp [Instr.mapUpdate, run_underlying ht, MapKept.run_getObj_map hb, (Maps.int_keyed hk).check w false (Maps.keyOf_int_mk hk hn), h1, h2, h3, (Maps.int_keyed hk).stays w (Maps.keyOf_int_mk hk hn), MapKept.run_setObj_map _ hb, Result.andThen, setBlock]
    · have : y.born ∈ (es.set j ⟨.int q (n : Int), v, x.born⟩).map (·.born) := List.mem_map.2 ⟨y, hy, rfl⟩
      rw [m2] at this
      obtain ⟨z, hz, e1⟩ := List.mem_map.1 this
      rw [← e1]; exact hbc z hz
    · have : p.1 ∈ (setL L n v).map (·.1) := List.mem_map.2 ⟨p, hp, rfl⟩
      rw [setL_keys] at this
      obtain ⟨z, hz, e1⟩ := List.mem_map.1 this
      rw [← e1]; exact h.wf z hz
end Go.Proofs.Ytcbadcbnknmdnaa
namespace Go.Proofs.Ytcbadcbnknmdnaa
open Go.RowKit
set_option linter.unusedVariables false

def xT : Nat → List UInt8 := fun _ => [120]
def itemsO (first k : Nat) : List (Nat × List UInt8) := (List.range k).map (fun d => (numW first d, [120]))
theorem itemsO_succ (first k : Nat) : itemsO first (k + 1) = itemsO first k ++ [(numW first k, [120])] := by simp [itemsO, List.range_succ]
theorem itemsO_len (first k : Nat) : (itemsO first k).length = k := by simp [itemsO]
theorem itemsO_lt (first k : Nat) : ∀ p ∈ itemsO first k, p.1 < 4294967296 := by
  intro p hp
  obtain ⟨d, -, rfl⟩ := List.mem_map.1 hp
  exact numW_lt _ _
theorem itemsO_head (first k : Nat) (hk : k < 32) : itemsO first k = [] ∨ ∃ p l', itemsO first k = p :: l' ∧ distW (numW first k) p.1 < 32 := by
  cases k with
  | zero => exact .inl rfl
  | succ k =>
    right
    refine ⟨(numW first 0, [120]), (List.range k).map (fun d => (numW first (d + 1), [120])), ?_, ?_⟩
    · unfold itemsO; rw [List.range_succ_eq_map]; simp [Function.comp_def]
    · simp only; rw [dist_ge first (k + 1) 0 (by omega) (by omega)]; omega
theorem itemsO_full (first : Nat) : ∃ l', itemsO first 32 = (numW first 0, [120]) :: l' ∧ l'.length = 31 ∧ 32 ≤ distW (numW first 32) (numW first 0) := by
  refine ⟨(List.range 31).map (fun d => (numW first (d + 1), [120])), ?_, by simp, ?_⟩
  · unfold itemsO; rw [show (32 : Nat) = 31 + 1 from rfl, List.range_succ_eq_map]; simp [Function.comp_def]
  · rw [dist_ge first 32 0 (by omega) (by omega)]; omega
def cntG (G : Nat → Bool) : Nat := ((List.range 32).filter G).length
theorem cnt_add (l : List Nat) (hn : l.Nodup) (G : Nat → Bool) (d : Nat) (hd : d ∈ l) (hg : G d = false) : (l.filter (addG G d)).length = (l.filter G).length + 1 := by
  induction l with
  | nil => simp at hd
  | cons x l ih =>
    obtain ⟨h1, h2⟩ := List.nodup_cons.1 hn
    by_cases hx : x = d
    · subst hx
      have hsame : l.filter (addG G x) = l.filter G := by
        apply List.filter_congr
        intro y hy
        have : y ≠ x := fun e => h1 (e ▸ hy)
        simp [addG, this]
      rw [List.filter_cons_of_pos (by simp [addG]), List.filter_cons_of_neg (by simp [hg]), hsame]
      simp
    · have hd' : d ∈ l := by
        rcases List.mem_cons.1 hd with e | e
        · exact absurd e.symm hx
        · exact e
      have := ih h2 hd'
      by_cases hgx : G x = true
      · rw [List.filter_cons_of_pos (by simp [addG, hgx]), List.filter_cons_of_pos hgx]; simp; omega
      · rw [List.filter_cons_of_neg (by simp [addG, hgx, hx]), List.filter_cons_of_neg hgx]; exact this
theorem cntG_add (G : Nat → Bool) (d : Nat) (hd : d < 32) (hg : G d = false) : cntG (addG G d) = cntG G + 1 := cnt_add _ List.nodup_range G d (List.mem_range.2 hd) hg
theorem addG_same (G : Nat → Bool) (d : Nat) (hg : G d = true) : addG G d = G := by
  funext e
  unfold addG
  by_cases h : e = d
  · subst h; rw [hg]; rfl
  · simp [h]
/-- How often each came. -/
structure GotL (first : Nat) (G : Nat → Bool) (c : Nat) (L : List (Nat × Value)) : Prop where
  mem : ∀ n v, (n, v) ∈ L → ∃ d, d < 32 ∧ G d = true ∧ n = numW first d ∧ ∃ z : Nat, v = .int .i64 (z : Int) ∧ 1 ≤ z ∧ z ≤ c
  all : ∀ d, d < 32 → G d = true → ∃ v, (numW first d, v) ∈ L
  len : L.length = cntG G
theorem GotL.new {first : Nat} {G : Nat → Bool} {c : Nat} {L : List (Nat × Value)} (h : GotL first G c L) (d : Nat) (hd : d < 32) (hg : G d = false) : GotL first (addG G d) (c + 1) (L ++ [(numW first d, .int .i64 1)]) := by
  refine ⟨fun n v hv => ?_, fun e he hge => ?_, by rw [List.length_append, h.len, cntG_add G d hd hg]; rfl⟩
  · rcases List.mem_append.1 hv with hv | hv
    · obtain ⟨e, h1, h2, h3, z, h4, h5, h6⟩ := h.mem n v hv
      exact ⟨e, h1, by unfold addG; rw [h2]; rfl, h3, z, h4, h5, by omega⟩
    · simp only [List.mem_singleton, Prod.mk.injEq] at hv
      obtain ⟨rfl, rfl⟩ := hv
      exact ⟨d, hd, by simp [addG], rfl, 1, rfl, by omega, by omega⟩
  · by_cases hed : e = d
    · subst hed; exact ⟨.int .i64 1, List.mem_append.2 (.inr (by simp))⟩
    · have : G e = true := by unfold addG at hge; simpa [hed] using hge
      obtain ⟨v, hv⟩ := h.all e he this
      exact ⟨v, List.mem_append.2 (.inl hv)⟩
theorem GotL.more {first : Nat} {G : Nat → Bool} {c : Nat} {L : List (Nat × Value)} (h : GotL first G c L) (n z : Nat) (hz1 : 1 ≤ z) (hz : z ≤ c) : GotL first G (c + 1) (setL L n (.int .i64 ((z : Int) + 1))) := by
  refine ⟨fun m v hv => ?_, fun e he hge => ?_, by unfold setL; rw [List.length_map]; exact h.len⟩
  · obtain ⟨p, hp, e1⟩ := List.mem_map.1 hv
    by_cases hpn : p.1 = n
    · rw [if_pos hpn] at e1
      simp only [Prod.mk.injEq] at e1
      obtain ⟨d, h1, h2, h3, -⟩ := h.mem p.1 p.2 hp
      exact ⟨d, h1, h2, by rw [← e1.1]; exact h3, z + 1, by rw [← e1.2]; rfl, by omega, by omega⟩
    · rw [if_neg hpn] at e1
      subst e1
      obtain ⟨d, h1, h2, h3, z', h4, h5, h6⟩ := h.mem _ _ hp
      exact ⟨d, h1, h2, h3, z', h4, h5, by omega⟩
  · obtain ⟨v, hv⟩ := h.all e he hge
    refine ⟨if numW first e = n then .int .i64 ((z : Int) + 1) else v, List.mem_map.2 ⟨_, hv, ?_⟩⟩
    simp only
    split <;> rfl
theorem GotL.none {first : Nat} : GotL first (fun _ => false) 0 [] := ⟨(fun n v hv => by simp at hv), (fun d hd hg => by cases hg), by unfold cntG; rw [List.filter_eq_nil_iff.2 (fun a _ => by simp)]; rfl⟩
theorem GotL.no {first : Nat} {G : Nat → Bool} {c : Nat} {L : List (Nat × Value)} (h : GotL first G c L) (d : Nat) (hd : d < 32) (hno : ∀ p ∈ L, p.1 ≠ numW first d) : G d = false := by
  cases hg : G d with
  | false => rfl
  | true => obtain ⟨v, hv⟩ := h.all d hd hg; exact absurd rfl (hno _ hv)
theorem GotL.yes {first : Nat} {G : Nat → Bool} {c : Nat} {L : List (Nat × Value)} (h : GotL first G c L) (d : Nat) (hd : d < 32) {v : Value} (hv : (numW first d, v) ∈ L) : G d = true ∧ ∃ z : Nat, v = .int .i64 (z : Int) ∧ 1 ≤ z ∧ z ≤ c := by
  obtain ⟨e, h1, h2, h3, hz⟩ := h.mem _ _ hv
  have := num_inj first d e h3 (by omega) (by omega)
  subst this
  exact ⟨h2, hz⟩
theorem goW_len (f : Nat) (s : Ws) : (goW f s).1.l.length ≤ s.l.length := by
  induction f generalizing s with
  | zero => exact Nat.le_refl _
  | succ f ih =>
    cases h : findW s.l s.nx with
    | none => rw [goW_none h]; exact Nat.le_refl _
    | some t =>
      rw [goW_some h]
      exact Nat.le_trans (ih _) (List.length_filter_le _ _)
theorem putW_len (s : Ws) (n : Nat) (t : List UInt8) : (putW s n t).1.l.length ≤ s.l.length + 1 := by
  unfold putW
  split
  · simp
  · split
    · simp
    · split
      · simp
      · exact Nat.le_trans (goW_len _ _) (by simp)
/-- All that the second loop knows of what came. -/
def InA (first : Nat) (G : Nat → Bool) (s : Ws) : Prop := (∀ d, G d = true → d < 32) ∧ ∃ m, InG first m xT G s
theorem InA.put {first : Nat} {G : Nat → Bool} {s : Ws} (h : InA first G s) (d : Nat) (hd : d < 32) : InA first (addG G d) (putW s (numW first d) [120]).1 := by
  obtain ⟨h1, m, h2⟩ := h
  refine ⟨fun e he => ?_, ?_⟩
  · unfold addG at he
    rw [Bool.or_eq_true] at he
    rcases he with he | he
    · exact h1 e he
    · have : e = d := by simpa using he
      omega
  · have hm : m ≤ 32 := by
      apply Classical.byContradiction
      intro hc
      have := h1 32 (h2.lo 32 (by omega))
      omega
    by_cases hdm : d < m
    · rw [h2.put_old d hdm (by omega), addG_same G d (h2.lo d hdm)]
      exact ⟨m, h2⟩
    · rcases h2.put d (by omega) (by omega) with ⟨g1, g2⟩ | ⟨g1, s', m', -, g2, g3⟩
      · rw [show ([120] : List UInt8) = xT d from rfl, g2, addG_same G d g1]
        exact ⟨m, h2⟩
      · rw [show ([120] : List UInt8) = xT d from rfl, g2]
        exact ⟨m', g3⟩
theorem InA.ok {first : Nat} {G : Nat → Bool} {s : Ws} (h : InA first G s) : OkW s := by obtain ⟨-, m, h2⟩ := h; exact h2.ok
/-- What the ack tells: just what came; and it is no ack of what wasn't sent. -/
theorem InA.ack {first : Nat} {G : Nat → Bool} {s : Ws} (h : InA first G s) {B : Nat} (hB : ∀ k, B.testBit k = true ↔ ∃ p ∈ s.l, distW p.1 s.nx = k + 1) : (∀ d, d < 32 → hasB s.nx B (numW first d) = G d) ∧ (s.nx = numW first 32 ∨ s.nx ≠ numW first 32 ∧ belowB s.nx (numW first 32) = true) := by
  obtain ⟨h1, m, h2⟩ := h
  have hm : m ≤ 32 := by
    apply Classical.byContradiction
    intro hc
    have := h1 32 (h2.lo 32 (by omega))
    omega
  refine ⟨fun d hd => h2.has hB d (by omega) (by omega), ?_⟩
  rcases Nat.eq_or_lt_of_le hm with e | e
  · left; rw [h2.nx, e]
  · right
    refine ⟨fun e2 => ?_, ?_⟩
    · rw [h2.nx] at e2
      have := num_inj first m 32 e2 (by omega) (by omega)
      omega
    · unfold belowB
      rw [h2.nx, dist_lt first m 32 e (by omega)]
      exact decide_eq_true (by omega)
theorem filter_any (first : Nat) (F : Nat → Bool) (G : Nat → Bool) (R : List Nat) (h : ∀ d ∈ R, F (numW first d) = G d) : ((R.map (fun d => (numW first d, ([120] : List UInt8)))).filter (fun p => F p.1)).map (·.1) = (R.filter G).map (numW first) ∧ (R.map (fun d => (numW first d, ([120] : List UInt8)))).filter (fun p => !F p.1) = (R.filter (fun d => !G d)).map (fun d => (numW first d, [120])) := by
  induction R with
  | nil => exact ⟨rfl, rfl⟩
  | cons d R ih =>
    obtain ⟨i1, i2⟩ := ih (fun e he => h e (by simp [he]))
    have hd := h d (by simp)
    cases hg : G d with
    | true =>
      rw [hg] at hd
      refine ⟨?_, ?_⟩
      · rw [List.map_cons, List.filter_cons_of_pos (by simpa using hd), List.map_cons, i1, List.filter_cons_of_pos hg, List.map_cons]
      · rw [List.map_cons, List.filter_cons_of_neg (by simp [hd]), i2, List.filter_cons_of_neg (by simp [hg])]
    | false =>
      rw [hg] at hd
      refine ⟨?_, ?_⟩
      · rw [List.map_cons, List.filter_cons_of_neg (by simp [hd]), i1, List.filter_cons_of_neg (by simp [hg])]
      · rw [List.map_cons, List.filter_cons_of_pos (by simp [hd]), i2, List.filter_cons_of_pos (by simp [hg]), List.map_cons]
theorem filter_items (first nx B : Nat) (G : Nat → Bool) (h : ∀ d, d < 32 → hasB nx B (numW first d) = G d) : cameO nx B (itemsO first 32) = ((List.range 32).filter G).map (numW first) ∧ restO nx B (itemsO first 32) = ((List.range 32).filter (fun d => !G d)).map (fun d => (numW first d, [120])) := by
  unfold cameO restO itemsO
  exact filter_any first (hasB nx B) G (List.range 32) (fun d hd => h d (List.mem_range.1 hd))
theorem rest_rest (nx B : Nat) (l : List (Nat × List UInt8)) : cameO nx B (restO nx B l) = [] ∧ restO nx B (restO nx B l) = restO nx B l := by
  unfold cameO restO
  refine ⟨?_, ?_⟩
  · rw [List.map_eq_nil_iff, List.filter_eq_nil_iff]
    intro p hp
    have := (List.mem_filter.1 hp).2
    simpa using this
  · rw [List.filter_filter]
    simp
theorem cnt_rest (G : Nat → Bool) : ((List.range 32).filter (fun d => !G d)).length + cntG G = 32 := by
  unfold cntG
  have h : ∀ l : List Nat, (l.filter (fun d => !G d)).length + (l.filter G).length = l.length := by
    intro l
    induction l with
    | nil => rfl
    | cons x l ih =>
      by_cases hg : G x = true
      · rw [List.filter_cons_of_neg (by simp [hg]), List.filter_cons_of_pos hg]; simp; omega
      · rw [List.filter_cons_of_pos (by simp [hg]), List.filter_cons_of_neg hg]; simp; omega
  rw [h]; simp
end Go.Proofs.Ytcbadcbnknmdnaa
namespace Go.Proofs.Ytcbadcbnknmdnaa
open Go.RowKit
set_option linter.unusedVariables false

abbrev Its := List (Nat × List UInt8)
/-- Does an ack of A and B tell N, without an end? -/
def hasR (A B N : Nat) : Bool := decide (N < A) || (decide (1 ≤ N - A) && (decide (N - A ≤ 32) && B.testBit (N - A - 1)))
theorem has_num (F A B N : Nat) (hA : A < 2147483648) (hN : N < 2147483648) : hasB (numW F A) B (numW F N) = hasR A B N := by
  unfold hasB belowB hasR
  by_cases h : N < A
  · rw [dist_lt F N A h (by omega), decide_eq_true (by omega), decide_eq_true h]; rfl
  · rw [dist_ge F N A (by omega) (by omega), decide_eq_false (by omega : ¬ 2147483648 ≤ N - A), decide_eq_false h]
def numL (F : Nat) (L : Its) : Its := L.map (fun p => (numW F p.1, p.2))
theorem numL_len (F : Nat) (L : Its) : (numL F L).length = L.length := by simp [numL]
theorem numL_lt (F : Nat) (L : Its) : ∀ p ∈ numL F L, p.1 < 4294967296 := by
  intro p hp
  obtain ⟨q, -, rfl⟩ := List.mem_map.1 hp
  exact numW_lt _ _
theorem numL_append (F : Nat) (L M : Its) : numL F (L ++ M) = numL F L ++ numL F M := by simp [numL]
theorem filt_num (F : Nat) (H G : Nat → Bool) (L : Its) (h : ∀ p ∈ L, H (numW F p.1) = G p.1) : ((numL F L).filter (fun p => H p.1)).map (·.1) = (L.filter (fun p => G p.1)).map (fun p => numW F p.1) ∧ (numL F L).filter (fun p => !H p.1) = numL F (L.filter (fun p => !G p.1)) := by
  induction L with
  | nil => exact ⟨rfl, rfl⟩
  | cons d R ih =>
    obtain ⟨i1, i2⟩ := ih (fun e he => h e (by simp [he]))
    have hd := h d (by simp)
    unfold numL at i1 i2 ⊢
    cases hg : G d.1 with
    | true =>
      rw [hg] at hd
      refine ⟨?_, ?_⟩
      · rw [List.map_cons, List.filter_cons_of_pos (by simpa using hd), List.map_cons, i1, List.filter_cons_of_pos (by simpa using hg), List.map_cons]
      · rw [List.map_cons, List.filter_cons_of_neg (by simp [hd]), i2, List.filter_cons_of_neg (by simp [hg])]
    | false =>
      rw [hg] at hd
      refine ⟨?_, ?_⟩
      · rw [List.map_cons, List.filter_cons_of_neg (by simp [hd]), i1, List.filter_cons_of_neg (by simp [hg])]
      · rw [List.map_cons, List.filter_cons_of_pos (by simp [hd]), i2, List.filter_cons_of_pos (by simp [hg]), List.map_cons]
def goneR (A B : Nat) (L : Its) : List Nat := (L.filter (fun p => hasR A B p.1)).map (·.1)
def leftR (A B : Nat) (L : Its) : Its := L.filter (fun p => !hasR A B p.1)
theorem ack_num (F A B : Nat) (L : Its) (hA : A < 2147483648) (hL : ∀ p ∈ L, p.1 < 2147483648) : cameO (numW F A) B (numL F L) = (goneR A B L).map (numW F) ∧ restO (numW F A) B (numL F L) = numL F (leftR A B L) := by
  obtain ⟨h1, h2⟩ := filt_num F (hasB (numW F A) B) (hasR A B) L (fun p hp => has_num F A B p.1 hA (hL p hp))
  refine ⟨?_, h2⟩
  unfold cameO goneR
  rw [h1, List.map_map]; rfl
/-- What is on its way: in its order, at most 32 numbers wide. -/
structure OutR (n : Nat) (L : Its) : Prop where
  up : L.Pairwise (fun p q => p.1 < q.1)
  lt : ∀ p ∈ L, p.1 < n
  wide : ∀ p ∈ L, n ≤ p.1 + 32
theorem up_len (lo hi : Nat) (L : Its) (hu : L.Pairwise (fun p q => p.1 < q.1)) (h : ∀ p ∈ L, lo ≤ p.1 ∧ p.1 < hi) : L.length ≤ hi - lo := by
  induction L generalizing lo with
  | nil => simp
  | cons x L ih =>
    obtain ⟨h1, h2⟩ := List.pairwise_cons.1 hu
    have hx := h x (by simp)
    have := ih (x.1 + 1) h2 (fun p hp => ⟨h1 p hp, (h p (by simp [hp])).2⟩)
    simp only [List.length_cons]; omega
theorem OutR.len {n : Nat} {L : Its} (h : OutR n L) : L.length ≤ 32 := by
  have := up_len (n - 32) n L h.up (fun p hp => ⟨by have := h.wide p hp; omega, h.lt p hp⟩)
  omega
theorem OutR.filter {n : Nat} {L : Its} (h : OutR n L) (q : Nat × List UInt8 → Bool) : OutR n (L.filter q) :=
  ⟨h.up.sublist List.filter_sublist, fun p hp => h.lt p (List.mem_filter.1 hp).1, fun p hp => h.wide p (List.mem_filter.1 hp).1⟩
theorem OutR.push {n : Nat} {L : Its} (h : OutR n L) (t : List UInt8) (hr : L = [] ∨ ∃ p l', L = p :: l' ∧ n - p.1 < 32) : OutR (n + 1) (L ++ [(n, t)]) := by
  refine ⟨?_, fun p hp => ?_, fun p hp => ?_⟩
  · rw [List.pairwise_append]
    refine ⟨h.up, by simp, fun a ha b hb => ?_⟩
    simp only [List.mem_singleton] at hb
    subst hb
    exact h.lt a ha
  · rcases List.mem_append.1 hp with hp | hp
    · have := h.lt p hp; omega
    · simp only [List.mem_singleton] at hp; subst hp; simp
  · rcases List.mem_append.1 hp with hp | hp
    · rcases hr with rfl | ⟨q, l', rfl, hq⟩
      · simp at hp
      · obtain ⟨h1, -⟩ := List.pairwise_cons.1 h.up
        have hqn := h.lt q (by simp)
        rcases List.mem_cons.1 hp with e | e
        · subst e; omega
        · have := h1 p e; omega
    · simp only [List.mem_singleton] at hp; subst hp; simp only; omega
theorem OutR.none (n : Nat) : OutR n [] := ⟨List.Pairwise.nil, (fun p hp => by simp at hp), (fun p hp => by simp at hp)⟩
/-- Is there room? -/
def roomR (n : Nat) (L : Its) : Prop := L = [] ∨ ∃ p l', L = p :: l' ∧ n - p.1 < 32
theorem room_num {F n : Nat} {L : Its} (h : OutR n L) (hn : n < 2147483648) (hr : roomR n L) : numL F L = [] ∨ ∃ p l', numL F L = p :: l' ∧ distW (numW F n) p.1 < 32 := by
  rcases hr with rfl | ⟨p, l', rfl, hp⟩
  · exact .inl rfl
  · refine .inr ⟨(numW F p.1, p.2), numL F l', rfl, ?_⟩
    have := h.lt p (by simp)
    simp only
    rw [dist_ge F n p.1 (by omega) (by omega)]; exact hp
theorem full_num {F n : Nat} {p : Nat × List UInt8} {l' : Its} (h : OutR n (p :: l')) (hn : n < 2147483648) (hr : 32 ≤ n - p.1) : 32 ≤ distW (numW F n) (numW F p.1) := by
  have := h.lt p (by simp)
  rw [dist_ge F n p.1 (by omega) (by omega)]; exact hr
/-- An ack is of what was sent, or it isn't. -/
theorem go_num13 (F A n : Nat) (hA : A < 2147483648) (hn : n < 2147483648) (h : A ≤ n) : numW F A = numW F n ∨ numW F A ≠ numW F n ∧ belowB (numW F A) (numW F n) = true := by
  rcases Nat.eq_or_lt_of_le h with e | e
  · left; rw [e]
  · right
    refine ⟨fun e2 => ?_, ?_⟩
    · have := num_inj F A n e2 (by omega) (by omega); omega
    · unfold belowB
      rw [dist_lt F A n e (by omega)]
      exact decide_eq_true (by omega)
theorem no_num13 (F A n : Nat) (hA : A < 2147483648) (hn : n < 2147483648) (h : n < A) : numW F A ≠ numW F n ∧ belowB (numW F A) (numW F n) = false := by
  refine ⟨fun e2 => ?_, ?_⟩
  · have := num_inj F A n e2 (by omega) (by omega); omega
  · unfold belowB
    rw [dist_ge F A n (by omega) (by omega)]
    exact decide_eq_false (by omega)
/-- What waits: each number once, behind the awaited one, at most 32 behind it. -/
structure InR (n : Nat) (L : Its) : Prop where
  nd : (L.map (·.1)).Nodup
  lo : ∀ p ∈ L, n < p.1
  hi : ∀ p ∈ L, p.1 ≤ n + 32
theorem InR.none (n : Nat) : InR n [] := ⟨by simp, (fun p hp => by simp at hp), (fun p hp => by simp at hp)⟩
theorem nodup_len (k lo : Nat) (l : List Nat) (hn : l.Nodup) (h : ∀ x ∈ l, lo ≤ x ∧ x < lo + k) : l.length ≤ k := by
  induction k generalizing l with
  | zero =>
    cases l with
    | nil => simp
    | cons x l => have := h x (by simp); omega
  | succ k ih =>
    have h1 := ih (l.filter (fun x => x != lo + k)) (hn.sublist List.filter_sublist) (fun x hx => by
      obtain ⟨hx, hne⟩ := List.mem_filter.1 hx
      have := h x hx
      have hne : x ≠ lo + k := by simpa using hne
      omega)
    have h2 : ∀ m : List Nat, m.Nodup → m.length ≤ (m.filter (fun x => x != lo + k)).length + 1 := by
      intro m hm
      induction m with
      | nil => simp
      | cons x m ihm =>
        obtain ⟨n1, n2⟩ := List.nodup_cons.1 hm
        by_cases hx : x = lo + k
        · rw [List.filter_cons_of_neg (by simp [hx])]
          have : m.filter (fun y => y != lo + k) = m := List.filter_eq_self.2 (fun y hy => by
            have : y ≠ lo + k := fun e => n1 (by rw [hx, ← e]; exact hy)
            simpa using this)
          rw [this]; simp
        · rw [List.filter_cons_of_pos (by simpa using hx)]
          have := ihm n2
          simp only [List.length_cons]; omega
    have := h2 l hn
    omega
theorem InR.len {n : Nat} {L : Its} (h : InR n L) : L.length ≤ 32 := by
  have := nodup_len 32 (n + 1) (L.map (·.1)) h.nd (fun x hx => by
    obtain ⟨p, hp, rfl⟩ := List.mem_map.1 hx
    have := h.lo p hp; have := h.hi p hp; omega)
  simpa using this
theorem find_num (F x lo : Nat) (L : Its) (hx : lo ≤ x ∧ x < lo + 1000) (h : ∀ p ∈ L, lo ≤ p.1 ∧ p.1 < lo + 1000) : findW (numL F L) (numW F x) = findW L x := by
  unfold findW numL
  induction L with
  | nil => rfl
  | cons p L ih =>
    have hp := h p (by simp)
    have ih := ih (fun q hq => h q (by simp [hq]))
    by_cases e : p.1 = x
    · rw [List.map_cons, List.find?_cons_of_pos (by simp [e]), List.find?_cons_of_pos (by simp [e])]; rfl
    · have e2 : numW F p.1 ≠ numW F x := fun e3 => e (num_inj F p.1 x e3 (by omega) (by omega))
      rw [List.map_cons, List.find?_cons_of_neg (by simpa using e2), List.find?_cons_of_neg (by simpa using e)]
      exact ih
theorem drop_num (F x lo : Nat) (L : Its) (hx : lo ≤ x ∧ x < lo + 1000) (h : ∀ p ∈ L, lo ≤ p.1 ∧ p.1 < lo + 1000) : (numL F L).filter (fun p => p.1 != numW F x) = numL F (L.filter (fun p => p.1 != x)) := by
  have := (filt_num F (fun m => m == numW F x) (fun m => m == x) L (fun p hp => by
    have := h p hp
    by_cases e : p.1 = x
    · simp [e]
    · have e2 : numW F p.1 ≠ numW F x := fun e3 => e (num_inj F p.1 x e3 (by omega) (by omega))
      rw [beq_eq_false_iff_ne.2 e2, beq_eq_false_iff_ne.2 e])).2
  exact this
/-- The document's: the awaited ones, as long as they wait. -/
def goR : Nat → Nat → Its → Nat × Its × List (List UInt8)
  | 0, n, L => (n, L, [])
  | f + 1, n, L => match findW L n with
    | none => (n, L, [])
    | some t => ((goR f (n + 1) (L.filter (fun p => p.1 != n))).1, (goR f (n + 1) (L.filter (fun p => p.1 != n))).2.1, t :: (goR f (n + 1) (L.filter (fun p => p.1 != n))).2.2)
theorem goR_none {f n : Nat} {L : Its} (h : findW L n = none) : goR f n L = (n, L, []) := by
  cases f with
  | zero => rfl
  | succ f => simp [goR, h]
theorem goR_some {f n : Nat} {L : Its} {t : List UInt8} (h : findW L n = some t) : goR (f + 1) n L = ((goR f (n + 1) (L.filter (fun p => p.1 != n))).1, (goR f (n + 1) (L.filter (fun p => p.1 != n))).2.1, t :: (goR f (n + 1) (L.filter (fun p => p.1 != n))).2.2) := by
  simp [goR, h]
theorem findW_mem {L : Its} {n : Nat} {t : List UInt8} (h : findW L n = some t) : (n, t) ∈ L := by
  unfold findW at h
  cases hf : L.find? (fun p => p.1 == n) with
  | none => rw [hf] at h; simp at h
  | some p =>
    rw [hf] at h
    simp only [Option.map_some, Option.some.injEq] at h
    have h1 := List.mem_of_find?_eq_some hf
    have h2 := List.find?_some hf
    simp only [beq_iff_eq] at h2
    rw [← h, ← h2]; exact h1
theorem one_less {L : Its} {n : Nat} {t : List UInt8} (nd : (L.map (·.1)).Nodup) (h : (n, t) ∈ L) : (L.filter (fun p => p.1 != n)).length + 1 = L.length := by
  induction L with
  | nil => simp at h
  | cons p L ih =>
    simp only [List.map_cons, List.nodup_cons] at nd
    by_cases e : p.1 = n
    · rw [List.filter_cons_of_neg (by simp [e])]
      have : L.filter (fun q => q.1 != n) = L := List.filter_eq_self.2 (fun q hq => by
        have : q.1 ≠ n := fun e2 => nd.1 (by rw [e, ← e2]; exact List.mem_map.2 ⟨q, hq, rfl⟩)
        simpa using this)
      rw [this]; rfl
    · rw [List.filter_cons_of_pos (by simpa using e)]
      rcases List.mem_cons.1 h with e2 | e2
      · exact absurd (by rw [← e2]) e
      · simp only [List.length_cons]
        have := ih nd.2 e2; omega
theorem goR_ok (H : Nat) : ∀ (f n : Nat) (L : Its), (L.map (·.1)).Nodup → (∀ p ∈ L, n ≤ p.1 ∧ p.1 ≤ H) → L.length < f → n ≤ (goR f n L).1 ∧ ((goR f n L).2.1.map (·.1)).Nodup ∧ (∀ p ∈ (goR f n L).2.1, (goR f n L).1 < p.1 ∧ p.1 ≤ H) ∧ (goR f n L).1 + (goR f n L).2.1.length = n + L.length := by
  intro f
  induction f with
  | zero => intro n L _ _ h; omega
  | succ f ih =>
    intro n L hnd hL hl
    cases hf : findW L n with
    | none =>
      rw [goR_none hf]
      refine ⟨Nat.le_refl _, hnd, fun p hp => ?_, rfl⟩
      have h1 := hL p hp
      have h2 : p.1 ≠ n := fun e => by
        have := findW_of hnd (show (n, p.2) ∈ L by rw [← e]; exact hp)
        rw [hf] at this; cases this
      simp only
      omega
    | some t =>
      rw [goR_some hf]
      have hm := findW_mem hf
      have hless := one_less hnd hm
      obtain ⟨g1, g2, g3, g4⟩ := ih (n + 1) (L.filter (fun p => p.1 != n)) (nodup_filter hnd _) (fun p hp => by
        obtain ⟨h1, h2⟩ := List.mem_filter.1 hp
        have := hL p h1
        have h2 : p.1 ≠ n := by simpa using h2
        omega) (by omega)
      exact ⟨by simp only; omega, g2, g3, by simp only; omega⟩
theorem goW_num (F : Nat) : ∀ (f n : Nat) (L : Its), (∀ p ∈ L, n ≤ p.1 ∧ p.1 < n + 900) → goW f ⟨numW F n, numL F L⟩ = (⟨numW F (goR f n L).1, numL F (goR f n L).2.1⟩, (goR f n L).2.2) := by
  intro f
  induction f with
  | zero => intro n L _; rfl
  | succ f ih =>
    intro n L hL
    have hfn := find_num F n n L (by omega) (fun p hp => by have := hL p hp; omega)
    cases hf : findW L n with
    | none =>
      rw [hf] at hfn
      rw [goW_none hfn, goR_none hf]
    | some t =>
      rw [hf] at hfn
      rw [goW_some hfn, goR_some hf]
      simp only
      rw [drop_num F n n L (by omega) (fun p hp => by have := hL p hp; omega), numW_succ, ih (n + 1) _ (fun p hp => by
        obtain ⟨h1, h2⟩ := List.mem_filter.1 hp
        have := hL p h1
        have h2 : p.1 ≠ n := by simpa using h2
        omega)]
/-- The document's Put. -/
def putR (n : Nat) (L : Its) (x : Nat) (t : List UInt8) : (Nat × Its × List (List UInt8)) × Nat :=
  if x < n then ((n, L, []), 11) else if n + 32 < x then ((n, L, []), 8) else if findW L x ≠ none then ((n, L, []), 10) else (goR (L.length + 2) n (L ++ [(x, t)]), 0)
theorem put_num (F n x : Nat) (L : Its) (t : List UInt8) (h : InR n L) (hx1 : n < x + 1000) (hx2 : x < n + 1000) : putW ⟨numW F n, numL F L⟩ (numW F x) t = (⟨numW F (putR n L x t).1.1, numL F (putR n L x t).1.2.1⟩, (putR n L x t).1.2.2, (putR n L x t).2) := by
  unfold putW putR
  by_cases h1 : x < n
  · rw [if_pos, if_pos h1]
    unfold belowB
    simp only
    rw [dist_lt F x n h1 (by omega)]
    exact decide_eq_true (by omega)
  · have hd : distW (numW F x) (numW F n) = x - n := dist_ge F x n (by omega) (by omega)
    rw [if_neg, if_neg h1]
    · simp only
      rw [hd]
      by_cases h2 : n + 32 < x
      · rw [if_pos (by omega), if_pos h2]
      · rw [if_neg (by omega), if_neg h2, find_num F x n L (by omega) (fun p hp => by have := h.lo p hp; have := h.hi p hp; omega)]
        by_cases h3 : findW L x = none
        · rw [if_neg (by simpa using h3), if_neg (by simpa using h3)]
          have e1 : numL F L ++ [(numW F x, t)] = numL F (L ++ [(x, t)]) := by simp [numL]
          rw [e1, numL_len, goW_num F (L.length + 2) n (L ++ [(x, t)]) (fun p hp => by
            rcases List.mem_append.1 hp with hp | hp
            · have := h.lo p hp; have := h.hi p hp; omega
            · simp only [List.mem_singleton] at hp; subst hp; simp only; omega)]
        · rw [if_pos h3, if_pos h3]
    · unfold belowB
      simp only
      rw [hd]
      simp; omega
theorem putR_ok (n x : Nat) (L : Its) (t : List UInt8) (h : InR n L) : InR (putR n L x t).1.1 (putR n L x t).1.2.1 ∧ n ≤ (putR n L x t).1.1 ∧ (putR n L x t).1.1 + (putR n L x t).1.2.1.length ≤ n + L.length + 1 := by
  unfold putR
  split
  · exact ⟨h, Nat.le_refl _, by simp only; omega⟩
  · split
    · exact ⟨h, Nat.le_refl _, by simp only; omega⟩
    · split
      · exact ⟨h, Nat.le_refl _, by simp only; omega⟩
      · rename_i h1 h2 h3
        have h3 : findW L x = none := Classical.byContradiction h3
        obtain ⟨g1, g2, g3, g4⟩ := goR_ok (n + 32) (L.length + 2) n (L ++ [(x, t)]) (by
          simp only [List.map_append, List.map_cons, List.map_nil]
          rw [List.nodup_append]
          refine ⟨h.nd, by simp, fun a ha b hb' => ?_⟩
          have hb' : b = x := by simpa using hb'
          obtain ⟨p, hp, rfl⟩ := List.mem_map.1 ha
          intro e
          rw [hb'] at e
          have := findW_of h.nd (show (x, p.2) ∈ L by rw [← e]; exact hp)
          rw [h3] at this; cases this) (fun p hp => by
          rcases List.mem_append.1 hp with hp | hp
          · have := h.lo p hp; have := h.hi p hp; omega
          · simp only [List.mem_singleton] at hp; subst hp; simp only; omega) (by simp)
        refine ⟨⟨g2, fun p hp => (g3 p hp).1, fun p hp => by have := (g3 p hp).2; simp only; omega⟩, g1, ?_⟩
        simp only [List.length_append, List.length_singleton] at g4
        simp only
        omega
theorem InR.ok {F n : Nat} {L : Its} (h : InR n L) : OkW ⟨numW F n, numL F L⟩ := by
  intro p hp
  obtain ⟨q, hq, rfl⟩ := List.mem_map.1 hp
  have h1 := h.lo q hq
  have h2 := h.hi q hq
  simp only
  rw [dist_ge F q.1 n (by omega) (by omega)]
  exact ⟨numW_lt _ _, by omega, by omega⟩
theorem InR.bits {F n B : Nat} {L : Its} (h : InR n L) (hB : ∀ k, B.testBit k = true ↔ ∃ p ∈ numL F L, distW p.1 (numW F n) = k + 1) : ∀ k, B.testBit k = true ↔ ∃ p ∈ L, p.1 = n + k + 1 := by
  intro k
  rw [hB k]
  constructor
  · rintro ⟨p, hp, hd⟩
    obtain ⟨q, hq, rfl⟩ := List.mem_map.1 hp
    have h1 := h.lo q hq
    have h2 := h.hi q hq
    simp only at hd
    rw [dist_ge F q.1 n (by omega) (by omega)] at hd
    exact ⟨q, hq, by omega⟩
  · rintro ⟨q, hq, hd⟩
    have h1 := h.lo q hq
    have h2 := h.hi q hq
    refine ⟨(numW F q.1, q.2), List.mem_map.2 ⟨q, hq, rfl⟩, ?_⟩
    simp only
    rw [dist_ge F q.1 n (by omega) (by omega)]; omega
/-- The place at which a number stands is its only one: what is left without it. -/
theorem erase_at {L : Its} {n k : Nat} (nd : (L.map (·.1)).Nodup) (hk : k < L.length) (e : L[k].1 = n) : L.take k ++ L.drop (k + 1) = L.filter (fun p => p.1 != n) := by
  induction L generalizing k with
  | nil => simp at hk
  | cons p L ih =>
    simp only [List.map_cons, List.nodup_cons] at nd
    cases k with
    | zero =>
      simp only [List.getElem_cons_zero] at e
      rw [List.filter_cons_of_neg (by simp [e])]
      have : L.filter (fun q => q.1 != n) = L := List.filter_eq_self.2 (fun q hq => by
        have : q.1 ≠ n := fun e2 => nd.1 (by rw [e, ← e2]; exact List.mem_map.2 ⟨q, hq, rfl⟩)
        simpa using this)
      rw [this]; simp
    | succ k =>
      simp only [List.getElem_cons_succ] at e
      have hk' : k < L.length := by simpa using hk
      have hp : p.1 ≠ n := fun e2 => nd.1 (by rw [e2, ← e]; exact List.mem_map.2 ⟨L[k], List.getElem_mem hk', rfl⟩)
      rw [List.filter_cons_of_pos (by simpa using hp), ← ih nd.2 hk' e]
      simp
theorem findW_at13 {L : Its} {n k : Nat} (nd : (L.map (·.1)).Nodup) (hk : k < L.length) (e : L[k].1 = n) : findW L n = some L[k].2 :=
  findW_of nd (by rw [← e]; exact List.getElem_mem hk)
end Go.Proofs.Ytcbadcbnknmdnaa
namespace Go.Proofs.Ytcbadcbnknmdnaa
open Go.RowKit
set_option linter.unusedVariables false

def riC (p : Nat × List UInt8) : List Value := [.int .i64 (p.1 : Int), .string (bs p.2)]
theorem ri_wide (l : Its) : VWide 2 (l.map riC) := by
  intro x hx
  obtain ⟨p, -, rfl⟩ := List.mem_map.1 hx
  refine ⟨rfl, fun u hu => ?_⟩
  simp only [riC, List.mem_cons, List.not_mem_nil, or_false] at hu
  rcases hu with rfl | rfl <;> rfl
/-- A row of the document's things. -/
def RRow (w : World) (a : Option Addr) (L : Its) : Prop := VRow 2 w a (L.map riC)
theorem RRow.at {w : World} {a : Option Addr} {L : Its} (h : RRow w a L) {k : Nat} (hk : k < L.length) : ∃ b off, a = some ⟨b, off, none⟩ ∧ b < w.heap.size ∧ w.cell? ⟨b, off + k * 2, none⟩ = some (.int .i64 (L[k].1 : Int)) ∧ w.cell? ⟨b, off + k * 2 + 1, none⟩ = some (.string (bs L[k].2)) := by
  have hlen : (L.map riC).length = L.length := by simp
  obtain ⟨b, off, e1, hc⟩ := h (by rw [hlen]; omega)
  have hx : ∀ j, j < 2 → w.cell? ⟨b, off + k * 2 + j, none⟩ = (riC L[k])[j]? := fun j hj => by
    have h1 := hc k (by rw [hlen]; exact hk) j hj
    rw [h1]
    simp
  have h0 : w.cell? ⟨b, off + k * 2, none⟩ = some (.int .i64 (L[k].1 : Int)) := hx 0 (by decide)
  exact ⟨b, off, e1, block_lt_of_cell h0, h0, hx 1 (by decide)⟩
theorem RRow.touch {S : Nat → Prop} {w w' : World} {a : Option Addr} {L : Its} (h : RRow w a L) (ht : Touch S w w') (hs : ∀ x, a = some x → ¬ S x.block) : RRow w' a L := VRow.touch (by decide) (ri_wide L) h ht hs
theorem RRow.below {w w' : World} {a : Option Addr} {L : Its} (h : RRow w a L) (hb : Below w.heap.size w w') : RRow w' a L := h.touch (touch_of_below (S := fun _ => False) hb) (fun _ _ => id)
def Find13 (L : Its) (x : Nat) (z : Int) : Prop := (∃ k, ∃ (hk : k < L.length), z = (k : Int) ∧ L[k].1 = x) ∨ (z = -1 ∧ ∀ p ∈ L, p.1 ≠ x)
theorem half_step (B i : Nat) : ((B / 2 ^ i : Nat) : Int) / 2 = ((B / 2 ^ (i + 1) : Nat) : Int) := by
  rw [Nat.pow_succ, ← Nat.div_div_eq_div_mul]; omega
end Go.Proofs.Ytcbadcbnknmdnaa
namespace Go.Proofs.Ytcbadcbnknmdnaa
open Go.RowKit
set_option linter.unusedVariables false

/-- A row of the call's own, that none had before. -/
def NewV (e k : Nat) (w : World) (a : Option Addr) (c : Nat) (ls : List (List Value)) (w' : World) : Prop := OwnV e k w.heap.size a c ls w' ∧ Below w.heap.size w w'
theorem NewV.keep {e k : Nat} {w : World} {a : Option Addr} {c : Nat} {ls : List (List Value)} {w1 w2 : World} (h : NewV e k w a c ls w1) (hb : Below w1.heap.size w1 w2) : NewV e k w a c ls w2 :=
  ⟨h.1.touch (touch_of_below (S := fun _ => False) hb) (fun _ _ => id), h.2.trans (hb.mono h.2.size)⟩
theorem NewV.drew {e k : Nat} {w : World} {a : Option Addr} {c : Nat} {ls : List (List Value)} {w1 : World} (h : NewV e k w a c ls w1) : NewV e k w a c ls w1.drew := h.keep (Below.refl _ _).drew
theorem NewV.none (e k : Nat) {w w1 : World} (h : Below w.heap.size w w1) : NewV e k w none 0 [] w1 := ⟨⟨World.ownsRow_nil _ _ _ _, (fun x hx => by cases hx)⟩, h⟩
theorem NewV.made (e k : Nat) {w W : World} (h : Below w.heap.size w W) (m : Nat) (hm : m = W.heap.size) : NewV e k w (some ⟨m, 0, Option.none⟩) 0 [] (W.alloc (.cells #[] e)) := by
  subst hm
  refine ⟨⟨⟨by simp, .inr ⟨W.heap.size, 0, #[], rfl, Nat.zero_le _, ?_, Nat.le_refl _, by unfold maxLen; omega, by simp, by simp⟩⟩, fun x hx => by cases hx; exact h.size⟩, bel_alloc h _⟩
  show (W.heap.push (.cells #[] e))[W.heap.size]? = _
  simp
theorem own_appx {e T ty : TypeId} {k by' : Nat} {z : Value} (H : VTy e k z by') (hT : Try.prog.underlying T = some (.slice e)) {w : World} {B : Nat} {a : Option Addr} {c : Nat} {ls : List (List Value)} (h : OwnV e k B a c ls w) (a2 : Option Addr) (c2 : Nat) (news : List (List Value)) (hw : VWide k news) (hr : VRow k w a2 news) (hn2 : a2 = none → news = []) (hl : ls.length + news.length ≤ 1000000) :
    ∃ a' c' w', (Builtin.append_ #[T, T] ty #[.slice a ls.length c, .slice a2 news.length c2]).run Try.prog w = .ok (.slice a' (ls.length + news.length) c') w' ∧ OwnV e k 0 a' c' (ls ++ news) w' ∧ Touch (fun b => a.map (·.block) = some b) w w' ∧ (∀ x, a' = some x → a.map (·.block) = some x.block ∨ w.heap.size ≤ x.block) := by
  obtain ⟨i0, hi, hz0, hz1, hz2⟩ := info_is H.info
  have hf1 := H.few.1
  have hf2 := H.few.2
  have hpos := H.pos
  cases a2 with
  | none =>
    have := hn2 rfl
    subst this
    have hrun : (Builtin.append_ #[T, T] ty #[.slice a ls.length c, .slice none 0 c2]).run Try.prog w = .ok (.slice a ls.length c) w := by
      rcases h.1.2 with ⟨h0, h1⟩ | ⟨g, cap, cur, h0, _, _, hnc, _⟩
      · rw [h0]
        simp [Builtin.append_, run_underlying hT, sizeOf, typeInfo, hi, Builtin.lenOf, Builtin.firstCells]
      · rw [h0]
        simp [Builtin.append_, run_underlying hT, sizeOf, typeInfo, hi, Builtin.lenOf, Builtin.firstCells, hnc, storeCells]
    exact ⟨a, c, w, by simpa using hrun, by rw [List.append_nil]; exact ⟨h.1, fun _ _ => Nat.zero_le _⟩, Touch.refl _ _, fun x hx => .inl (by rw [hx]; rfl)⟩
  | some x =>
    obtain ⟨v', w', hrun, ho, hg, hf⟩ := append_exact (P := Try.prog) w T ty e i0 z k by' hT hi hz0 hz1 hz2 H.cells H.pos (.slice a ls.length c) ls.length ls.flatten h.1 x news.length c2 news.flatten (vflat_len hw)
      (fun j u hu => by
        have hj : j < news.flatten.length := (List.getElem?_eq_some_iff.1 hu).1
        rw [vflat_len hw] at hj
        have hm0 : 0 < news.length := by
          rcases Nat.eq_zero_or_pos news.length with h | h
          · rw [h] at hj; simp at hj
          · exact h
        obtain ⟨g, off, e0, hc⟩ := hr hm0
        simp only [Option.some.injEq] at e0
        subst e0
        have hi' : j / k < news.length := Nat.div_lt_of_lt_mul (by rw [Nat.mul_comm]; exact hj)
        have hjm : j % k < k := Nat.mod_lt _ hpos
        have e1 := vflat_at hw (j / k) hi' (j % k) hjm
        rw [Nat.mul_comm, Nat.div_add_mod] at e1
        have e2 := hc (j / k) hi' (j % k) hjm
        rw [← e1, hu, Nat.add_assoc, Nat.mul_comm, Nat.div_add_mod] at e2
        exact add_cellR e2)
      (fun u hu => by
        obtain ⟨x, hx, hux⟩ := List.mem_flatten.1 hu
        exact (hw x hx).2 u hux)
      (by unfold maxLen; omega) (by have := Nat.mul_le_mul (show ls.length + news.length ≤ 1000000 from hl) hf2; omega)
    have hsh : ∃ a' c', v' = .slice a' (ls.length + news.length) c' := by
      rcases ho.2 with ⟨hv, h0⟩ | ⟨g', cap, cur, hv, -⟩
      · exact ⟨none, 0, by rw [hv, h0]⟩
      · exact ⟨_, cap, hv⟩
    obtain ⟨a', c', rfl⟩ := hsh
    refine ⟨a', c', w', hrun, ⟨?_, fun _ _ => Nat.zero_le _⟩, ?_, fun x hx => ?_⟩
    · rw [List.length_append, List.flatten_append]; exact ho
    · refine (touch_grown hg).mono fun b _ hb => ?_
      cases a with
      | none => simp [Value.ownBlock] at hb
      | some y => simpa [Value.ownBlock] using hb
    · subst hx
      rcases hf x.block (by simp [Value.ownBlock]) with e1 | e1
      · left
        cases a with
        | none => simp [Value.ownBlock] at e1
        | some y => simpa [Value.ownBlock] using e1
      · exact .inr e1
theorem newV_more {e T ty : TypeId} {k by' : Nat} {z : Value} (H : VTy e k z by') (hT : Try.prog.underlying T = some (.slice e)) {w w1 : World} {a1 : Option Addr} {c1 : Nat} {l m : List (List Value)} (h : NewV e k w a1 c1 l w1) (hw : VWide k m) (a : Option Addr) (c : Nat) (hr : VRow k w1 a m) (hn : a = none → m = []) (hl : l.length + m.length ≤ 1000000) :
    ∃ a' c' w', (Builtin.append_ #[T, T] ty #[.slice a1 l.length c1, .slice a m.length c]).run Try.prog w1 = .ok (.slice a' (l.length + m.length) c') w' ∧ NewV e k w a' c' (l ++ m) w' ∧ Touch (fun b => a1.map (·.block) = some b) w1 w' := by
  obtain ⟨a', c', w', h1, h2, h3, h4⟩ := own_appx (ty := ty) H hT h.1 a c m hw hr hn hl
  have hs := h.2.size
  refine ⟨a', c', w', h1, ⟨⟨h2.1, fun x hx => ?_⟩, h.2.trans (h3.below hs fun b hb e1 => ?_)⟩, h3⟩
  · rcases h4 x hx with e1 | e1
    · exact map_none (P := fun b => w.heap.size ≤ b) h.1.2 _ e1
    · omega
  · have := map_none (P := fun b => w.heap.size ≤ b) h.1.2 _ e1
    omega
theorem NewV.cap {e k : Nat} {w : World} {a : Option Addr} {c : Nat} {ls : List (List Value)} {w' : World} (h : NewV e k w a c ls w') : ls.length ≤ c ∧ c ≤ maxLen ∧ (a = Option.none → ls = []) := by
  rcases h.1.1.2 with ⟨hv, h0⟩ | ⟨g, cap, cur, hv, -, -, hnc, hcm, -⟩
  · simp only [Value.slice.injEq] at hv
    exact ⟨by omega, by rw [hv.2.2]; unfold maxLen; omega, fun _ => List.eq_nil_of_length_eq_zero h0⟩
  · simp only [Value.slice.injEq] at hv
    refine ⟨by rw [hv.2.2]; exact hnc, by rw [hv.2.2]; exact hcm, fun e0 => ?_⟩
    rw [hv.1] at e0; cases e0
/-- What the document's calls leave of a row: the one that came, or one of their own. -/
structure RNew (w : World) (a0 : Option Addr) (a : Option Addr) (c : Nat) (L : Its) (w' : World) : Prop where
  row : RRow w' a L
  nn : a = none → L = []
  cap : L.length ≤ c
  cmax : c ≤ maxLen
  fresh : a = a0 ∨ ∀ x, a = some x → w.heap.size ≤ x.block ∧ x.block < w'.heap.size
  bel : Below w.heap.size w w'
theorem RNew.keep {w : World} {a0 a : Option Addr} {c : Nat} {L : Its} {w1 w2 : World} (h : RNew w a0 a c L w1) (hb : Below w1.heap.size w1 w2) : RNew w a0 a c L w2 :=
  ⟨h.row.below hb, h.nn, h.cap, h.cmax, h.fresh.imp id (fun g x hx => ⟨(g x hx).1, by have := (g x hx).2; have := hb.size; omega⟩), h.bel.trans (hb.mono h.bel.size)⟩
end Go.Proofs.Ytcbadcbnknmdnaa
namespace Go.Proofs.Ytcbadcbnknmdnaa
open Go.RowKit
set_option linter.unusedVariables false

theorem rlen_any (p : Nat) (e : Int) (w : World) (hp : p < 4294967296) : Calls Try.prog 103 #[rosV p e] w fun r w' => r = .returned (.int .i64 (lenP p : Int)) ∧ Below w.heap.size w w' := by
  have HA := Lib.hid (show Below w.heap.size w (w.alloc (.cells #[.int .u32 (p : Int), .int .i64 e] 28)) from bel_alloc (Below.refl _ _) _)
  unfold rosV
  go_enter Try.func103, Try.ntmps103
  go_wp2_with fail
  refine (ones_any p _ hp).mono ?_
  rintro r w1 ⟨rfl, hb⟩
  have HB := Lib.hid (HA.out.trans (hb.mono HA.out.size))
  clear hb HA
  go_wp2
  go_ret
  exact ⟨rfl, HB.out⟩
/-- A roster under way: its box, and the box of the answer. -/
structure RofMem (w : World) (n : Nat) (wr : World) : Prop where
  c0 : wr.cell? ⟨w.heap.size + 1, 0, none⟩ = some (.int .u32 (n : Int))
  c1 : wr.cell? ⟨w.heap.size + 1, 1, none⟩ = some (.int .i64 0)
  s0 : wr.cell? ⟨w.heap.size, 0, none⟩ = some (.int .u32 0)
  s1 : wr.cell? ⟨w.heap.size, 1, none⟩ = some (.int .i64 0)
  fr : ∀ b j, w.heap.size ≤ b → b ≤ w.heap.size + 1 → wr.frozen? ⟨b, j, none⟩ = false
  bel : Below w.heap.size w wr
theorem RofMem.lt {w : World} {n : Nat} {wr : World} (h : RofMem w n wr) : w.heap.size + 1 < wr.heap.size := block_lt_of_cell h.c0
theorem RofMem.keep {w : World} {n : Nat} {wr w' : World} (h : RofMem w n wr) (hb : Below wr.heap.size wr w') : RofMem w n w' := by
  have hl := h.lt
  refine ⟨(hb.cell (p := ⟨w.heap.size + 1, 0, none⟩) hl).trans h.c0, (hb.cell (p := ⟨w.heap.size + 1, 1, none⟩) hl).trans h.c1, (hb.cell (p := ⟨w.heap.size, 0, none⟩) (show w.heap.size < wr.heap.size by omega)).trans h.s0, (hb.cell (p := ⟨w.heap.size, 1, none⟩) (show w.heap.size < wr.heap.size by omega)).trans h.s1, fun b j h1 h2 => (hb.frozen (p := ⟨b, j, none⟩) (show b < wr.heap.size by omega)).trans (h.fr b j h1 h2), h.bel.trans (hb.mono h.bel.size)⟩
theorem RofMem.set {w : World} {n : Nat} {wr : World} (h : RofMem w n wr) (m : Nat) : RofMem w m (wr.setCell ⟨w.heap.size + 1, 0, none⟩ (.int .u32 (m : Int))) := by
  refine ⟨World.cell?_setCell_same' _ _ _ (by rw [h.c0]; rfl), ?_, ?_, ?_, fun b j h1 h2 => by rw [World.frozen?_setCell]; exact h.fr b j h1 h2, h.bel.setCell (p := ⟨w.heap.size + 1, 0, none⟩) (by simp) _⟩
  · rw [World.cell?_setCell_other _ _ _ _ (by simp)]; exact h.c1
  · rw [World.cell?_setCell_other _ _ _ _ (by simp)]; exact h.s0
  · rw [World.cell?_setCell_other _ _ _ _ (by simp)]; exact h.s1
theorem RofMem.new (w : World) : RofMem w 0 ((w.alloc (.cells #[.int .u32 0, .int .i64 0] 28)).alloc (.cells #[.int .u32 0, .int .i64 0] 28)) := by
  have e1 : (w.alloc (.cells #[.int .u32 0, .int .i64 0] 28)).heap.size = w.heap.size + 1 := by simp
  refine ⟨new_cell e1.symm rfl, new_cell e1.symm rfl, alloc_cell (new_cell rfl rfl) _, alloc_cell (new_cell rfl rfl) _, fun b j h1 h2 => ?_, bel_alloc (bel_alloc (Below.refl _ _) _) _⟩
  by_cases e : b = w.heap.size
  · subst e
    rw [frozen_old _ _ ⟨w.heap.size, j, none⟩ (by simp)]
    exact frozen_new _ _ _ _
  · obtain rfl : b = w.heap.size + 1 := by omega
    rw [← e1]; exact frozen_new _ _ _ _
set_option maxRecDepth 100000 in
set_option maxHeartbeats 1000000 in
theorem rof_any (a : Option Addr) (c : Nat) (l : List Int) (w : World) (hr : IntRow .i64 w a l) (hl : l.length ≤ 1000) : Calls Try.prog 12 #[.slice a l.length c] w fun r w' => r = .returned (rosV (ofP l) 0) ∧ Below w.heap.size w w' := by
  have HR := Lib.hid hr
  have HN := Lib.hid (RofMem.new w)
  clear hr
  go_enter Try.func12, Try.ntmps12
  go_wp2
  go_loopw [8] (fun i wr => ∃ k : Nat, k ≤ l.length ∧ i = .int .i64 k ∧ Hid (RofMem w (ofP (l.take k)) wr)) (fun i _ => l.length - (intOf i).toNat)
  case atStart => exact ⟨0, by omega, rfl, HN⟩
  case round =>
    obtain ⟨k, hk, rfl, HM⟩ := hrel
    have hi0 : (0 : Int) ≤ (k : Int) := by omega
    by_cases hlt : k < l.length
    · have hi1 : (k : Int) < (l.length : Int) := by omega
      obtain ⟨b, off, rfl, hc⟩ := HR.out.below HM.out.bel (by omega)
      have hv := hc k hlt
      have hbl := block_lt_of_cell hv
      simp only at hbl
      have HS := Lib.hid (foldP_take hlt)
      have HLT := Lib.hid (ofP_lt (l.take k))
      generalize l[k] = x at hv HS
      generalize ofP (l.take k) = n at HM HS HLT
      have HPL := Lib.hid (fun W => player_any x W)
      clear hc
      by_cases hin : 0 ≤ x ∧ x < 32
      · obtain ⟨j, rfl⟩ : ∃ j : Nat, x = (j : Int) := ⟨x.toNat, by omega⟩
        rw [inR_iff.2 hin] at HPL
        have hj : j < 32 := by omega
        have hj0 : (0 : Int) ≤ (j : Int) := by omega
        have HOR := Lib.hid (orR_bit n j HLT.out hj)
        have HS2 := Lib.hid (show ofP (l.take (k + 1)) = n ||| 2 ^ j by rw [HS.out]; unfold addP; rw [if_pos hin]; rfl)
        clear HS hin
        go_wp2_with fail
        refine (HPL.out _).mono ?_
        rintro r w1 ⟨rfl, rfl⟩
        have c0 := HM.out.c0
        have f0 := HM.out.fr (w.heap.size + 1) 0 (by omega) (by omega)
        have hlw := HM.out.lt
        have HM2 := Lib.hid (HM.out.set (n ||| 2 ^ j))
        rw [← HOR.out] at HM2
        go_upto_region 1 with (fail)
        go_region
        all_goals
          go_wp2
          go_roundw
          case rel => exact ⟨k + 1, by omega, by go_num, by rw [HS2.out]; exact Lib.hid (by first | exact HM2.out | exact HM2.out.keep (Below.refl _ _).drew)⟩
          case measure => simp [intOf] <;> omega
      · have e0 : inR x = false := by
          cases hq : inR x with
          | false => rfl
          | true => exact absurd (inR_iff.1 hq) hin
        rw [e0] at HPL
        have HS2 := Lib.hid (show ofP (l.take (k + 1)) = n by rw [HS.out]; unfold addP; rw [if_neg hin])
        clear HS hin
        go_wp2_with fail
        refine (HPL.out _).mono ?_
        rintro r w1 ⟨rfl, rfl⟩
        go_wp2
        go_roundw
        case rel => exact ⟨k + 1, by omega, by go_num, by rw [HS2.out]; exact HM⟩
        case measure => simp [intOf] <;> omega
    · obtain rfl : k = l.length := by omega
      rw [List.take_length] at HM
      have hi1 : (l.length : Int) ≤ (l.length : Int) := by omega
      have c0 := HM.out.c0
      have c1 := HM.out.c1
      have s0 := HM.out.s0
      have s1 := HM.out.s1
      have f0 := HM.out.fr w.heap.size 0 (by omega) (by omega)
      have f1 := HM.out.fr w.heap.size 1 (by omega) (by omega)
      have hlw := HM.out.lt
      obtain ⟨n, hn⟩ : ∃ n, ofP l = n := ⟨_, rfl⟩
      rw [hn] at c0 HM
      have HNN := Lib.hid hn
      clear hn
      go_wp2
      exact bodyPost_ret (v := .agg #[.int .u32 (n : Int), .int .i64 0]) (by simp [results, Try.results12, go_sem, s0, s1]) rfl ⟨by rw [HNN.out]; rfl, by repeat (first | exact HM.out.bel | refine Below.setCell ?_ (by simp) _)⟩
end Go.Proofs.Ytcbadcbnknmdnaa
namespace Go.Proofs.Ytcbadcbnknmdnaa
open Go.RowKit
set_option linter.unusedVariables false

def iC18 (x : Int) : List Value := [.int .i64 x]
theorem i18_wide (l : List Int) : VWide 1 (l.map iC18) := by
  intro x hx
  obtain ⟨p, -, rfl⟩ := List.mem_map.1 hx
  exact ⟨rfl, fun u hu => by simp only [iC18, List.mem_singleton] at hu; subst hu; rfl⟩
theorem int18Ty : VTy 3 1 (.int .i64 0) 8 := ⟨by kernel_rfl, rfl, by decide, by decide⟩
theorem own18_row {w : World} {B : Nat} {a : Option Addr} {c : Nat} {l : List Int} (h : OwnV 3 1 B a c (l.map iC18) w) : IntRow .i64 w a l := by
  intro h0
  obtain ⟨b, off, e, hc⟩ := h.row (i18_wide l) (by simpa using h0)
  refine ⟨b, off, e, fun i hi => ?_⟩
  have := hc i (by simpa using hi) 0 (by decide)
  rw [Nat.mul_one, Nat.add_zero] at this
  rw [this]; simp [iC18]
theorem new18_act {w w1 : World} {a : Option Addr} {c : Nat} {l : List Int} (h : NewV 3 1 w a c (l.map iC18) w1) : ActL w1 (.slice a l.length c) l := by
  obtain ⟨h1, h2, h3⟩ := h.cap
  simp only [List.length_map] at h1
  exact ⟨a, c, rfl, h1, h2, own18_row h.1, fun e => by simpa using h3 e⟩
/-- One number more, behind a row that none had before. -/
theorem new18_one {w w1 : World} {a : Option Addr} {c : Nat} {l : List Int} (h : NewV 3 1 w a c (l.map iC18) w1) (x : Int) (hl : l.length ≤ 100000) : ∃ a' c' w', (Builtin.append_ #[22, 22] 22 #[.slice a l.length c, .slice (some ⟨w1.heap.size, 0, none⟩) 1 1]).run Try.prog (w1.alloc (.cells #[.int .i64 x] 3)) = .ok (.slice a' (l.length + 1) c') w' ∧ NewV 3 1 w a' c' ((l ++ [x]).map iC18) w' := by
  have hs := h.2.size
  obtain ⟨a', c', w', h1, h2, h3⟩ := h.1.one (ty := 22) int18Ty Try.underlying22 hs (iC18 x) (i18_wide [x] _ (by simp)) (by simp; omega) _ rfl
  refine ⟨a', c', w', by simpa [iC18] using h1, ?_, ?_⟩
  · rw [List.map_append]; exact h2
  · refine h.2.trans (h3.below hs fun b hb e1 => ?_)
    have := map_none (P := fun b => w.heap.size ≤ b) h.1.2 _ e1
    omega
def RAllPost (p : Nat) (w : World) (r : Ending) (w' : World) : Prop := ∃ a c, r = .returned (.slice a (lenP p) c) ∧ Hid (ActL w' (.slice a (lstP p).length c) (lstP p)) ∧ Below w.heap.size w w'
set_option maxRecDepth 100000 in
set_option maxHeartbeats 1000000 in
theorem rall_any (p : Nat) (e : Int) (w : World) (hp : p < 4294967296) : Calls Try.prog 40 #[rosV p e] w (RAllPost p w) := by
  have HA := Lib.hid (show Below w.heap.size w (w.alloc (.cells #[.int .u32 (p : Int), .int .i64 e] 28)) from bel_alloc (Below.refl _ _) _)
  have x0 : (w.alloc (.cells #[.int .u32 (p : Int), .int .i64 e] 28)).cell? ⟨w.heap.size, 0, none⟩ = some (.int .u32 (p : Int)) := new_cell rfl rfl
  have x1 : (w.alloc (.cells #[.int .u32 (p : Int), .int .i64 e] 28)).cell? ⟨w.heap.size, 1, none⟩ = some (.int .i64 e) := new_cell rfl rfl
  have HZ : Hid (∀ W W' a c, Below w.heap.size w W → NewV 3 1 W a c ((lstP p).map iC18) W' → RAllPost p w (.returned (.slice a (lenP p) c)) W') := Lib.hid fun W W' a c h1 h2 => ⟨a, c, rfl, Lib.hid (new18_act h2), h1.trans (h2.2.mono h1.size)⟩
  have HHAS := Lib.hid (fun x W => rhas_any p e x W hp)
  unfold rosV at HHAS ⊢
  generalize RAllPost p w = Post at HZ ⊢
  go_enter Try.func40, Try.ntmps40
  go_wp2
  have hlw : w.heap.size < (w.alloc (.cells #[.int .u32 (p : Int), .int .i64 e] 28)).heap.size := by simp
  obtain ⟨B, hB⟩ : ∃ B, w.heap.size = B := ⟨_, rfl⟩
  rw [hB] at x0 x1 hlw ⊢
  generalize w.alloc (.cells #[.int .u32 (p : Int), .int .i64 e] 28) = W at HA x0 x1 hlw ⊢
  have HBB := Lib.hid hB
  clear hB
  go_loopw [3, 5] (fun v i wr => ∃ (k : Nat) (a : Option Addr) (c : Nat), k ≤ 32 ∧ i = .int .i64 k ∧ v = .slice a (lstK p k).length c ∧ Hid (NewV 3 1 W a c ((lstK p k).map iC18) wr)) (fun _ i _ => 32 - (intOf i).toNat)
  case atStart => exact ⟨0, none, 0, by omega, rfl, rfl, Lib.hid (NewV.none _ _ (Below.refl _ _))⟩
  case round =>
    obtain ⟨k, a, c, hk, rfl, rfl, HM⟩ := hrel
    have hi0 : (0 : Int) ≤ (k : Int) := by omega
    have y0 := (HM.out.2.cell (p := ⟨B, 0, none⟩) hlw).trans x0
    have y1 := (HM.out.2.cell (p := ⟨B, 1, none⟩) hlw).trans x1
    have hbw := block_lt_of_cell y0
    simp only at hbw
    by_cases hlt : k < 32
    · have hi1 : (k : Int) < 32 := by omega
      have HS := Lib.hid (lstK_succ p k)
      have HL := Lib.hid (lstK_len p k)
      have HHK := Lib.hid (show hasP p (k : Int) = p.testBit k by simp [hasP]; intro _; omega)
      go_wp2_with fail
      refine (HHAS.out _ _).mono ?_
      rintro r w1 ⟨rfl, hb1⟩
      have HM := Lib.hid (HM.out.keep hb1)
      rw [HHK.out]
      clear hb1 y0 y1 hbw
      cases hbt : p.testBit k with
      | true =>
        rw [hbt, if_pos rfl] at HS
        obtain ⟨a', c', w', hrun, hnew⟩ := new18_one HM.out (k : Int) (by have := HL.out; omega)
        rw [← HS.out] at hnew
        have HN := Lib.hid hnew
        have HR := Lib.hid hrun
        have HLL := Lib.hid (show (lstK p (k + 1)).length = (lstK p k).length + 1 by rw [HS.out]; simp)
        generalize (lstK p k).length = n at HR HL HLL
        clear hnew hrun hbt HS HM
        go_wp2_with (at_builtin; refine wpList_append_run _ rfl (.tmp 11) (.tmp 13) 22 22 rfl _ _ rfl rfl (.slice a' (n + 1) c') w' HR.out ?_)
        go_roundw
        case rel => exact ⟨k + 1, a', c', by omega, by go_num, by rw [HLL.out], HN⟩
        case measure => simp [intOf] <;> omega
      | false =>
        rw [hbt] at HS
        simp only [Bool.false_eq_true, if_false] at HS
        have HLL := Lib.hid (show (lstK p (k + 1)).length = (lstK p k).length by rw [HS.out])
        have HM2 : Hid (NewV 3 1 W a c ((lstK p (k + 1)).map iC18) w1) := Lib.hid (by rw [HS.out]; exact HM.out)
        clear hbt HS HM
        go_wp2
        go_roundw
        case rel => exact ⟨k + 1, a, c, by omega, by go_num, by rw [HLL.out], HM2⟩
        case measure => simp [intOf] <;> omega
    · obtain rfl : k = 32 := by omega
      have HF := Lib.hid (HZ.out _ _ _ _ HA.out HM.out)
      have HLL := Lib.hid (show (lstK p 32).length = lenP p from rfl)
      rw [HLL.out]
      go_wp2
      first | exact HF.out | (go_ret; exact HF.out)
theorem okS_step (n : Nat) (no last : Int) (V : List Int) (k : Nat) (h : k < V.length) : okS n no last (V.drop k) = (decide (last < V[k]) && ((!(V[k] == no)) && (hasP n V[k] && okS n no V[k] (V.drop (k + 1))))) := by
  rw [List.drop_eq_getElem_cons h]; rfl
set_option maxRecDepth 100000 in
set_option maxHeartbeats 1000000 in
theorem rmost_any (p : Nat) (e no : Int) (a : Option Addr) (c : Nat) (V : List Int) (w : World) (hp : p < 4294967296) (hr : IntRow .i64 w a V) (hl : V.length ≤ 1000) : Calls Try.prog 70 #[rosV p e, .int .i64 no, .slice a V.length c] w fun r w' => r = .returned (.bool (mostP p no V)) ∧ Below w.heap.size w w' := by
  have HA := Lib.hid (show Below w.heap.size w (w.alloc (.cells #[.int .u32 (p : Int), .int .i64 e] 28)) from bel_alloc (Below.refl _ _) _)
  have x0 : (w.alloc (.cells #[.int .u32 (p : Int), .int .i64 e] 28)).cell? ⟨w.heap.size, 0, none⟩ = some (.int .u32 (p : Int)) := new_cell rfl rfl
  have x1 : (w.alloc (.cells #[.int .u32 (p : Int), .int .i64 e] 28)).cell? ⟨w.heap.size, 1, none⟩ = some (.int .i64 e) := new_cell rfl rfl
  have HHAS := Lib.hid (fun x W => rhas_any p e x W hp)
  have HLEN := Lib.hid (fun W => rlen_any p e W hp)
  have HR := Lib.hid (hr.below HA.out)
  have HQ : Hid (mostP p no V = (okS p no (-1) V && decide (lenP p < 2 * V.length))) := Lib.hid rfl
  have HLP := Lib.hid (lenP_le p)
  generalize mostP p no V = Q at HQ ⊢
  unfold rosV at HHAS HLEN ⊢
  go_enter Try.func70, Try.ntmps70
  go_wp2
  have hlw : w.heap.size < (w.alloc (.cells #[.int .u32 (p : Int), .int .i64 e] 28)).heap.size := by simp
  clear hr
  have HT : Hid (∀ W', Below (w.alloc (.cells #[.int .u32 (p : Int), .int .i64 e] 28)).heap.size (w.alloc (.cells #[.int .u32 (p : Int), .int .i64 e] 28)) W' → Below w.heap.size w W') := Lib.hid fun W' h => HA.out.trans (h.mono HA.out.size)
  obtain ⟨B, hB⟩ : ∃ B, w.heap.size = B := ⟨_, rfl⟩
  rw [hB] at x0 x1 hlw ⊢
  generalize w.alloc (.cells #[.int .u32 (p : Int), .int .i64 e] 28) = W at HT HR x0 x1 hlw ⊢
  clear hB HA
  go_loopw [7, 12] (fun lv iv wr => ∃ (k : Nat) (last : Int), k ≤ V.length ∧ lv = .int .i64 last ∧ iv = .int .i64 k ∧ Hid (okS p no (-1) V = okS p no last (V.drop k) ∧ Below W.heap.size W wr)) (fun _ iv _ => V.length - (intOf iv).toNat)
  case atStart => exact ⟨0, -1, by omega, rfl, rfl, Lib.hid ⟨rfl, Below.refl _ _⟩⟩
  case round =>
    obtain ⟨k, last, hk, rfl, rfl, HM⟩ := hrel
    have hi0 : (0 : Int) ≤ (k : Int) := by omega
    have y0 := (HM.out.2.cell (p := ⟨B, 0, none⟩) hlw).trans x0
    have y1 := (HM.out.2.cell (p := ⟨B, 1, none⟩) hlw).trans x1
    have hbw := block_lt_of_cell y0
    simp only at hbw
    by_cases hlt : k < V.length
    · have hi1 : (k : Int) < (V.length : Int) := by omega
      obtain ⟨b, off, rfl, hc⟩ := HR.out.below HM.out.2 (by omega)
      have hv := hc k hlt
      have hbl := block_lt_of_cell hv
      simp only at hbl
      have HS := Lib.hid (okS_step p no last V k hlt)
      generalize V[k] = x at hv HS
      clear hc
      by_cases h1 : x ≤ last
      · have HQ2 : Hid (Q = false) := Lib.hid (by rw [HQ.out, HM.out.1, HS.out, decide_eq_false (by omega)]; rfl)
        go_wp2
        go_ret
        exact ⟨by rw [HQ2.out]; first | done | rfl, HT.out _ HM.out.2⟩
      · have h1' : last < x := by omega
        by_cases h2 : x = no
        · subst h2
          have HQ2 : Hid (Q = false) := Lib.hid (by rw [HQ.out, HM.out.1, HS.out]; simp)
          clear h1
          go_wp2
          go_ret
          exact ⟨by rw [HQ2.out]; first | done | rfl, HT.out _ HM.out.2⟩
        · have hne : (x == no) = false := by rw [beq_eq_false_iff_ne]; exact h2
          have HS2 : Hid (okS p no last (V.drop k) = (hasP p x && okS p no x (V.drop (k + 1)))) := Lib.hid (by rw [HS.out, decide_eq_true h1', hne]; rfl)
          clear h1 HS
          go_wp2_with fail
          refine (HHAS.out _ _).mono ?_
          rintro r w1 ⟨rfl, hb1⟩
          have HB := Lib.hid (HM.out.2.trans (hb1.mono HM.out.2.size))
          clear hb1 y0 y1 hbw hv hbl
          cases hh : hasP p x with
          | true =>
            rw [hh] at HS2
            have HN : Hid (okS p no (-1) V = okS p no x (V.drop (k + 1))) := Lib.hid (by rw [HM.out.1, HS2.out]; rfl)
            go_wp2
            go_roundw
            case rel => exact ⟨k + 1, x, by omega, rfl, by go_num, Lib.hid ⟨HN.out, HB.out⟩⟩
            case measure => simp [intOf] <;> omega
          | false =>
            rw [hh] at HS2
            have HQ2 : Hid (Q = false) := Lib.hid (by rw [HQ.out, HM.out.1, HS2.out]; rfl)
            go_wp2
            go_ret
            exact ⟨by rw [HQ2.out]; first | done | rfl, HT.out _ HB.out⟩
    · obtain rfl : k = V.length := by omega
      have hi1 : (V.length : Int) ≤ (V.length : Int) := by omega
      have HQ2 : Hid (Q = decide (lenP p < 2 * V.length)) := Lib.hid (by rw [HQ.out, HM.out.1, List.drop_length]; simp [okS])
      have hw2 : IntKind.i64.wrap (2 * (V.length : Int)) = 2 * (V.length : Int) := by rw [IntKind.wrap_i64]; omega
      go_wp2_with fail
      refine (HLEN.out _).mono ?_
      rintro r w1 ⟨rfl, hb1⟩
      have HB := Lib.hid (HM.out.2.trans (hb1.mono HM.out.2.size))
      clear hb1 y0 y1 hbw
      generalize lenP p = q at HQ2 HLP
      go_wp2
      go_ret
      refine ⟨?_, HT.out _ HB.out⟩
      rw [HQ2.out]
      show Ending.returned (.bool (decide ((q : Int) < 2 * (V.length : Int)))) = _
      congr 2
      rw [decide_eq_decide]
      omega
end Go.Proofs.Ytcbadcbnknmdnaa
namespace Go.Proofs.Ytcbadcbnknmdnaa
open Go.RowKit
set_option linter.unusedVariables false

/-- What a check reads: its roster's box and its change's. -/
structure RckMem (w : World) (n : Nat) (e : Int) (k p : Int) (v : Value) (wr : World) : Prop where
  r0 : wr.cell? ⟨w.heap.size, 0, none⟩ = some (.int .u32 (n : Int))
  r1 : wr.cell? ⟨w.heap.size, 1, none⟩ = some (.int .i64 e)
  c0 : wr.cell? ⟨w.heap.size + 1, 0, none⟩ = some (.int .i64 k)
  c1 : wr.cell? ⟨w.heap.size + 1, 1, none⟩ = some (.int .i64 p)
  c2 : wr.cell? ⟨w.heap.size + 1, 2, none⟩ = some v
  bel : Below w.heap.size w wr
theorem RckMem.lt {w : World} {n : Nat} {e k p : Int} {v : Value} {wr : World} (h : RckMem w n e k p v wr) : w.heap.size + 1 < wr.heap.size := block_lt_of_cell h.c0
theorem RckMem.keep {w : World} {n : Nat} {e k p : Int} {v : Value} {wr w' : World} (h : RckMem w n e k p v wr) (hb : Below wr.heap.size wr w') : RckMem w n e k p v w' := by
  have hl := h.lt
  exact ⟨(hb.cell (p := ⟨w.heap.size, 0, none⟩) (show w.heap.size < wr.heap.size by omega)).trans h.r0, (hb.cell (p := ⟨w.heap.size, 1, none⟩) (show w.heap.size < wr.heap.size by omega)).trans h.r1, (hb.cell (p := ⟨w.heap.size + 1, 0, none⟩) hl).trans h.c0, (hb.cell (p := ⟨w.heap.size + 1, 1, none⟩) hl).trans h.c1, (hb.cell (p := ⟨w.heap.size + 1, 2, none⟩) hl).trans h.c2, h.bel.trans (hb.mono h.bel.size)⟩
theorem RckMem.new (w : World) (n : Nat) (e k p : Int) (v : Value) : RckMem w n e k p v ((w.alloc (.cells #[.int .u32 (n : Int), .int .i64 e] 28)).alloc (.cells #[.int .i64 k, .int .i64 p, v] 97)) := by
  have e1 : (w.alloc (.cells #[.int .u32 (n : Int), .int .i64 e] 28)).heap.size = w.heap.size + 1 := by simp
  exact ⟨alloc_cell (new_cell rfl rfl) _, alloc_cell (new_cell rfl rfl) _, new_cell e1.symm rfl, new_cell e1.symm rfl, new_cell e1.symm rfl, bel_alloc (bel_alloc (Below.refl _ _) _) _⟩
def ChkPost (n : Nat) (c : Chg) (w : World) (r : Ending) (w' : World) : Prop := r = .returned (.int .i64 (chk n c)) ∧ Below w.heap.size w w'
def chV (k p : Int) (a : Option Addr) (N c : Nat) : Value := .agg #[.int .i64 k, .int .i64 p, .slice a N c]
set_option maxRecDepth 100000 in
set_option maxHeartbeats 4000000 in
theorem rcheck_any (n : Nat) (e k p : Int) (a : Option Addr) (c : Nat) (V : List Int) (w : World) (hn : n < 4294967296) (hr : IntRow .i64 w a V) (hl : V.length ≤ 1000) : Calls Try.prog 38 #[rosV n e, chV k p a V.length c] w (ChkPost n ⟨k, p, V⟩ w) := by
  have HPL := Lib.hid (fun W => player_any p W)
  have HHAS := Lib.hid (fun W => rhas_any n e p W hn)
  have HMO := Lib.hid (fun W (hW : Below w.heap.size w W) => rmost_any n e p a c V W hn (hr.below hW) hl)
  have HM := Lib.hid (RckMem.new w n e k p (.slice a V.length c))
  have HF : Hid (∀ z W, chk n ⟨k, p, V⟩ = z → Below w.heap.size w W → ChkPost n ⟨k, p, V⟩ w (.returned (.int .i64 z)) W) := Lib.hid fun z W h1 h2 => ⟨by rw [h1], h2⟩
  generalize hPost : ChkPost n ⟨k, p, V⟩ w = Post at HF ⊢
  clear hPost hr
  unfold rosV at HHAS HMO ⊢
  unfold chV
  by_cases hk : k < 1 ∨ 3 < k
  · have HZ := Lib.hid (show chk n ⟨k, p, V⟩ = 7 by simp only [chk]; rw [if_pos hk])
    rcases hk with hk | hk
    all_goals
      go_enter Try.func38, Try.ntmps38
      go_wp2
      first | exact HF.out _ _ HZ.out HM.out.bel | (go_ret; exact HF.out _ _ HZ.out HM.out.bel)
  · by_cases hin : 0 ≤ p ∧ p < 32
    · rw [inR_iff.2 hin] at HPL
      cases hh : hasP n p with
      | false =>
        rw [hh] at HHAS
        by_cases h1 : k = 1
        · subst h1
          by_cases hz : 0 < V.length
          · have HZ := Lib.hid (show chk n ⟨1, p, V⟩ = 4 by simp only [chk]; rw [if_neg (by omega), if_pos (by omega)])
            have hz1 : (0 : Int) < (V.length : Int) := by omega
            clear hk hin
            go_enter Try.func38, Try.ntmps38
            go_wp2_with (go_at_call 36; refine (HPL.out _).mono ?_; rintro r w1 ⟨rfl, rfl⟩)
            first | exact HF.out _ _ HZ.out HM.out.bel | (go_ret; exact HF.out _ _ HZ.out HM.out.bel)
          · have HZ := Lib.hid (show chk n ⟨1, p, V⟩ = 0 by simp only [chk]; rw [if_neg (by omega), if_neg (by omega), if_pos trivial, hh]; rfl)
            have hz1 : (V.length : Int) ≤ 0 := by omega
            clear hk hin hz
            go_enter Try.func38, Try.ntmps38
            go_wp2_with (go_at_call 36; refine (HPL.out _).mono ?_; rintro r w1 ⟨rfl, rfl⟩)
            refine (HHAS.out _).mono ?_
            rintro r w1 ⟨rfl, hb1⟩
            have HM1 := Lib.hid (HM.out.keep hb1)
            have r0 := HM1.out.r0
            have r1 := HM1.out.r1
            have c0 := HM1.out.c0
            have c1 := HM1.out.c1
            have hlt := HM1.out.lt
            clear hb1
            go_wp2
            first | exact HF.out _ _ HZ.out HM1.out.bel | (go_ret; exact HF.out _ _ HZ.out HM1.out.bel)
        · by_cases h0 : p = 0
          · subst h0
            have HZ := Lib.hid (show chk n ⟨k, 0, V⟩ = 4 by simp only [chk]; rw [if_neg (by omega), if_pos (by simp [h1])])
            obtain rfl | rfl : k = 2 ∨ k = 3 := by omega
            all_goals
              clear hk hin
              go_enter Try.func38, Try.ntmps38
              go_wp2_with (go_at_call 36; refine (HPL.out _).mono ?_; rintro r w1 ⟨rfl, rfl⟩)
              first | exact HF.out _ _ HZ.out HM.out.bel | (go_ret; exact HF.out _ _ HZ.out HM.out.bel)
          · have hp0 : (p == 0) = false := by rw [beq_eq_false_iff_ne]; exact h0
            by_cases h2 : k = 2 ∧ 0 < V.length
            · have HZ := Lib.hid (show chk n ⟨k, p, V⟩ = 4 by simp only [chk]; rw [if_neg (by omega), if_pos (by omega)])
              obtain ⟨rfl, h2⟩ := h2
              have hz1 : (0 : Int) < (V.length : Int) := by omega
              clear hk hin
              go_enter Try.func38, Try.ntmps38
              go_wp2_with (go_at_call 36; refine (HPL.out _).mono ?_; rintro r w1 ⟨rfl, rfl⟩)
              first | exact HF.out _ _ HZ.out HM.out.bel | (go_ret; exact HF.out _ _ HZ.out HM.out.bel)
            · have HZ := Lib.hid (show chk n ⟨k, p, V⟩ = 13 by simp only [chk]; rw [if_neg (by omega), if_neg (by omega), if_neg h1, if_pos hh])
              obtain ⟨rfl, hz1⟩ | rfl : (k = 2 ∧ (V.length : Int) ≤ 0) ∨ k = 3 := by omega
              all_goals
                clear hk hin h2
                go_enter Try.func38, Try.ntmps38
                go_wp2_with (go_at_call 36; refine (HPL.out _).mono ?_; rintro r w1 ⟨rfl, rfl⟩)
                refine (HHAS.out _).mono ?_
                rintro r w1 ⟨rfl, hb1⟩
                have HM1 := Lib.hid (HM.out.keep hb1)
                have r0 := HM1.out.r0
                have r1 := HM1.out.r1
                have c0 := HM1.out.c0
                have c1 := HM1.out.c1
                have hlt := HM1.out.lt
                clear hb1
                go_wp2
                first | exact HF.out _ _ HZ.out HM1.out.bel | (go_ret; exact HF.out _ _ HZ.out HM1.out.bel)
      | true =>
        rw [hh] at HHAS
        by_cases h1 : k = 1
        · subst h1
          by_cases hz : 0 < V.length
          · have HZ := Lib.hid (show chk n ⟨1, p, V⟩ = 4 by simp only [chk]; rw [if_neg (by omega), if_pos (by omega)])
            have hz1 : (0 : Int) < (V.length : Int) := by omega
            clear hk hin
            go_enter Try.func38, Try.ntmps38
            go_wp2_with (go_at_call 36; refine (HPL.out _).mono ?_; rintro r w1 ⟨rfl, rfl⟩)
            first | exact HF.out _ _ HZ.out HM.out.bel | (go_ret; exact HF.out _ _ HZ.out HM.out.bel)
          · have HZ := Lib.hid (show chk n ⟨1, p, V⟩ = 10 by simp only [chk]; rw [if_neg (by omega), if_neg (by omega), if_pos trivial, hh]; rfl)
            have hz1 : (V.length : Int) ≤ 0 := by omega
            clear hk hin hz
            go_enter Try.func38, Try.ntmps38
            go_wp2_with (go_at_call 36; refine (HPL.out _).mono ?_; rintro r w1 ⟨rfl, rfl⟩)
            refine (HHAS.out _).mono ?_
            rintro r w1 ⟨rfl, hb1⟩
            have HM1 := Lib.hid (HM.out.keep hb1)
            clear hb1
            go_wp2
            first | exact HF.out _ _ HZ.out HM1.out.bel | (go_ret; exact HF.out _ _ HZ.out HM1.out.bel)
        · by_cases h0 : p = 0
          · subst h0
            have HZ := Lib.hid (show chk n ⟨k, 0, V⟩ = 4 by simp only [chk]; rw [if_neg (by omega), if_pos (by simp [h1])])
            obtain rfl | rfl : k = 2 ∨ k = 3 := by omega
            all_goals
              clear hk hin
              go_enter Try.func38, Try.ntmps38
              go_wp2_with (go_at_call 36; refine (HPL.out _).mono ?_; rintro r w1 ⟨rfl, rfl⟩)
              first | exact HF.out _ _ HZ.out HM.out.bel | (go_ret; exact HF.out _ _ HZ.out HM.out.bel)
          · have hp0 : (p == 0) = false := by rw [beq_eq_false_iff_ne]; exact h0
            by_cases h2 : k = 2 ∧ 0 < V.length
            · have HZ := Lib.hid (show chk n ⟨k, p, V⟩ = 4 by simp only [chk]; rw [if_neg (by omega), if_pos (by omega)])
              obtain ⟨rfl, h2⟩ := h2
              have hz1 : (0 : Int) < (V.length : Int) := by omega
              clear hk hin
              go_enter Try.func38, Try.ntmps38
              go_wp2_with (go_at_call 36; refine (HPL.out _).mono ?_; rintro r w1 ⟨rfl, rfl⟩)
              first | exact HF.out _ _ HZ.out HM.out.bel | (go_ret; exact HF.out _ _ HZ.out HM.out.bel)
            · obtain ⟨rfl, hz1⟩ | rfl : (k = 2 ∧ (V.length : Int) ≤ 0) ∨ k = 3 := by omega
              · have HZ := Lib.hid (show chk n ⟨2, p, V⟩ = 0 by simp only [chk]; rw [if_neg (by omega), if_neg (by omega), if_neg h1, if_neg (by rw [hh]; decide), if_neg (by omega)])
                clear hk hin h2
                go_enter Try.func38, Try.ntmps38
                go_wp2_with (go_at_call 36; refine (HPL.out _).mono ?_; rintro r w1 ⟨rfl, rfl⟩)
                refine (HHAS.out _).mono ?_
                rintro r w1 ⟨rfl, hb1⟩
                have HM1 := Lib.hid (HM.out.keep hb1)
                have r0 := HM1.out.r0
                have r1 := HM1.out.r1
                have c0 := HM1.out.c0
                have c1 := HM1.out.c1
                have hlt := HM1.out.lt
                clear hb1
                go_wp2
                first | exact HF.out _ _ HZ.out HM1.out.bel | (go_ret; exact HF.out _ _ HZ.out HM1.out.bel)
              · have HZ := Lib.hid (show chk n ⟨3, p, V⟩ = if mostP n p V = false then 15 else 0 by simp only [chk]; rw [if_neg (by omega), if_neg (by omega), if_neg h1, if_neg (by rw [hh]; decide)]; simp)
                clear hk hin h2
                generalize mostP n p V = q at HZ HMO
                cases q
                all_goals
                  simp only [Bool.true_eq_false, if_false, if_true] at HZ
                  go_enter Try.func38, Try.ntmps38
                  go_wp2_with (go_at_call 36; refine (HPL.out _).mono ?_; rintro r w1 ⟨rfl, rfl⟩)
                  refine (HHAS.out _).mono ?_
                  rintro r w1 ⟨rfl, hb1⟩
                  have HM1 := Lib.hid (HM.out.keep hb1)
                  have r0 := HM1.out.r0
                  have r1 := HM1.out.r1
                  have c0 := HM1.out.c0
                  have c1 := HM1.out.c1
                  have c2 := HM1.out.c2
                  have hlt := HM1.out.lt
                  clear hb1
                  go_wp2_with fail
                  refine (HMO.out _ HM1.out.bel).mono ?_
                  rintro r w2 ⟨rfl, hb2⟩
                  have HM2 := Lib.hid (HM1.out.keep hb2)
                  clear hb2 r0 r1 c0 c1 c2 hlt
                  go_wp2
                  first | exact HF.out _ _ HZ.out HM2.out.bel | (go_ret; exact HF.out _ _ HZ.out HM2.out.bel)
    · have e0 : inR p = false := by
        cases hq : inR p with
        | false => rfl
        | true => exact absurd (inR_iff.1 hq) hin
      rw [e0] at HPL
      have HZ := Lib.hid (show chk n ⟨k, p, V⟩ = 4 by simp only [chk]; rw [if_neg (by omega), if_pos (by omega)])
      obtain rfl | rfl | rfl : k = 1 ∨ k = 2 ∨ k = 3 := by omega
      all_goals
        clear hk hin
        go_enter Try.func38, Try.ntmps38
        go_wp2_with (go_at_call 36; refine (HPL.out _).mono ?_; rintro r w1 ⟨rfl, rfl⟩)
        first | exact HF.out _ _ HZ.out HM.out.bel | (go_ret; exact HF.out _ _ HZ.out HM.out.bel)
end Go.Proofs.Ytcbadcbnknmdnaa
namespace Go.Proofs.Ytcbadcbnknmdnaa
open Go.RowKit
set_option linter.unusedVariables false

/-- With under way: the roster that came, the box of the answer, the roster behind. -/
structure WiMem (w : World) (n : Nat) (e : Int) (n' : Nat) (e' : Int) (wr : World) : Prop where
  r0 : wr.cell? ⟨w.heap.size, 0, none⟩ = some (.int .u32 (n : Int))
  r1 : wr.cell? ⟨w.heap.size, 1, none⟩ = some (.int .i64 e)
  s0 : wr.cell? ⟨w.heap.size + 1, 0, none⟩ = some (.int .u32 0)
  s1 : wr.cell? ⟨w.heap.size + 1, 1, none⟩ = some (.int .i64 0)
  b0 : wr.cell? ⟨w.heap.size + 2, 0, none⟩ = some (.int .u32 (n' : Int))
  b1 : wr.cell? ⟨w.heap.size + 2, 1, none⟩ = some (.int .i64 e')
  fr : ∀ b j, w.heap.size ≤ b → b ≤ w.heap.size + 2 → wr.frozen? ⟨b, j, none⟩ = false
  bel : Below w.heap.size w wr
theorem WiMem.lt {w : World} {n : Nat} {e : Int} {n' : Nat} {e' : Int} {wr : World} (h : WiMem w n e n' e' wr) : w.heap.size + 2 < wr.heap.size := block_lt_of_cell h.b0
theorem WiMem.keep {w : World} {n : Nat} {e : Int} {n' : Nat} {e' : Int} {wr w' : World} (h : WiMem w n e n' e' wr) (hb : Below wr.heap.size wr w') : WiMem w n e n' e' w' := by
  have hl := h.lt
  have hc : ∀ b j, b ≤ w.heap.size + 2 → w'.cell? ⟨b, j, none⟩ = wr.cell? ⟨b, j, none⟩ := fun b j hb2 => hb.cell (p := ⟨b, j, none⟩) (show b < wr.heap.size by omega)
  refine ⟨?_, ?_, ?_, ?_, ?_, ?_, fun b j h1 h2 => (hb.frozen (p := ⟨b, j, none⟩) (show b < wr.heap.size by omega)).trans (h.fr b j h1 h2), h.bel.trans (hb.mono h.bel.size)⟩
  · rw [hc _ _ (by omega)]; exact h.r0
  · rw [hc _ _ (by omega)]; exact h.r1
  · rw [hc _ _ (by omega)]; exact h.s0
  · rw [hc _ _ (by omega)]; exact h.s1
  · rw [hc _ _ (by omega)]; exact h.b0
  · rw [hc _ _ (by omega)]; exact h.b1
theorem WiMem.set {w : World} {n : Nat} {e : Int} {n' : Nat} {e' : Int} {wr : World} (h : WiMem w n e n' e' wr) (q : Nat) : WiMem w n e q e' (wr.setCell ⟨w.heap.size + 2, 0, none⟩ (.int .u32 (q : Int))) := by
  refine ⟨?_, ?_, ?_, ?_, World.cell?_setCell_same' _ _ _ (by rw [h.b0]; rfl), ?_, fun b j h1 h2 => by rw [World.frozen?_setCell]; exact h.fr b j h1 h2, h.bel.setCell (p := ⟨w.heap.size + 2, 0, none⟩) (by simp) _⟩
  · rw [World.cell?_setCell_other _ _ _ _ (by simp)]; exact h.r0
  · rw [World.cell?_setCell_other _ _ _ _ (by simp)]; exact h.r1
  · rw [World.cell?_setCell_other _ _ _ _ (by simp)]; exact h.s0
  · rw [World.cell?_setCell_other _ _ _ _ (by simp)]; exact h.s1
  · rw [World.cell?_setCell_other _ _ _ _ (by simp)]; exact h.b1
theorem WiMem.set1 {w : World} {n : Nat} {e : Int} {n' : Nat} {e' : Int} {wr : World} (h : WiMem w n e n' e' wr) (q : Int) : WiMem w n e n' q (wr.setCell ⟨w.heap.size + 2, 1, none⟩ (.int .i64 q)) := by
  refine ⟨?_, ?_, ?_, ?_, ?_, World.cell?_setCell_same' _ _ _ (by rw [h.b1]; rfl), fun b j h1 h2 => by rw [World.frozen?_setCell]; exact h.fr b j h1 h2, h.bel.setCell (p := ⟨w.heap.size + 2, 1, none⟩) (by simp) _⟩
  · rw [World.cell?_setCell_other _ _ _ _ (by simp)]; exact h.r0
  · rw [World.cell?_setCell_other _ _ _ _ (by simp)]; exact h.r1
  · rw [World.cell?_setCell_other _ _ _ _ (by simp)]; exact h.s0
  · rw [World.cell?_setCell_other _ _ _ _ (by simp)]; exact h.s1
  · rw [World.cell?_setCell_other _ _ _ _ (by simp)]; exact h.b0
theorem WiMem.new (w : World) (n : Nat) (e : Int) : WiMem w n e n e (((w.alloc (.cells #[.int .u32 (n : Int), .int .i64 e] 28)).alloc (.cells #[.int .u32 0, .int .i64 0] 28)).alloc (.cells #[.int .u32 (n : Int), .int .i64 e] 28)) := by
  have e1 : (w.alloc (.cells #[.int .u32 (n : Int), .int .i64 e] 28)).heap.size = w.heap.size + 1 := by simp
  have e2 : ((w.alloc (.cells #[.int .u32 (n : Int), .int .i64 e] 28)).alloc (.cells #[.int .u32 0, .int .i64 0] 28)).heap.size = w.heap.size + 2 := by simp
  refine ⟨alloc_cell (alloc_cell (new_cell rfl rfl) _) _, alloc_cell (alloc_cell (new_cell rfl rfl) _) _, alloc_cell (new_cell e1.symm rfl) _, alloc_cell (new_cell e1.symm rfl) _, new_cell e2.symm rfl, new_cell e2.symm rfl, fun b j h1 h2 => ?_, bel_alloc (bel_alloc (bel_alloc (Below.refl _ _) _) _) _⟩
  by_cases h3 : b = w.heap.size + 2
  · subst h3
    rw [← e2]; exact frozen_new _ _ _ _
  · rw [frozen_old _ _ ⟨b, j, none⟩ (by simp; omega)]
    by_cases h4 : b = w.heap.size + 1
    · subst h4
      rw [← e1]; exact frozen_new _ _ _ _
    · obtain rfl : b = w.heap.size := by omega
      rw [frozen_old _ _ ⟨w.heap.size, j, none⟩ (by simp)]
      exact frozen_new _ _ _ _
theorem chk_pos {n : Nat} {c : Chg} : chk n c = 0 ∨ ¬ chk n c = 0 := Classical.em _
def WithPost (n : Nat) (e : Int) (m : List Chg) (w : World) (r : Ending) (w' : World) : Prop := r = .returned (.tuple #[rosV (withP n e m).1 (withP n e m).2.1, .int .i64 (withP n e m).2.2]) ∧ Below w.heap.size w w'
def ChSmall (m : List Chg) : Prop := m.length ≤ 1000 ∧ ∀ c ∈ m, c.v.length ≤ 1000
set_option maxRecDepth 100000 in
set_option maxHeartbeats 4000000 in
theorem rwith_any (n : Nat) (e : Int) (a : Option Addr) (cp : Nat) (ls : List (List Value)) (m : List Chg) (w : World) (hn : n < 4294967296) (he : 0 ≤ e ∧ e ≤ 1000000) (hr : VRow 3 w a ls) (hi : ChIs w ls m) (hs : ChSmall m) (N : Nat) (hN : m.length = N) : Calls Try.prog 39 #[rosV n e, .slice a N cp] w (WithPost n e m w) := by
  subst hN
  have HW := Lib.hid (WiMem.new w n e)
  have HROW := Lib.hid (fun W (hW : Below w.heap.size w W) => VRow.touch (by decide) (hi.wide) hr (touch_of_below (S := fun _ => False) hW) (fun _ _ => id))
  have HIS := Lib.hid hi
  have HSM := Lib.hid hs
  have HN := Lib.hid hn
  have hm1 := hs.1
  have HF : Hid (∀ n' e' z W, withP n e m = (n', e', z) → Below w.heap.size w W → WithPost n e m w (.returned (.tuple #[.agg #[.int .u32 (n' : Int), .int .i64 e'], .int .i64 z])) W) := Lib.hid fun n' e' z W h1 h2 => ⟨by rw [h1]; rfl, h2⟩
  generalize hPost : WithPost n e m w = Post at HF ⊢
  clear hPost hr hi hs hn
  unfold rosV
  go_enter Try.func39, Try.ntmps39
  go_wp2
  generalize hD : m.length = D
  have HD := Lib.hid hD
  rw [hD] at hm1
  clear hD
  go_loopw [13] (fun i wr => ∃ k : Nat, k ≤ D ∧ i = .int .i64 k ∧ Hid ((runP n (m.take k)).2 = 0 ∧ WiMem w n e (runP n (m.take k)).1 (e + k) wr)) (fun i _ => D - (intOf i).toNat)
  case atStart => exact ⟨0, by omega, rfl, Lib.hid ⟨rfl, by simpa [runP] using HW.out⟩⟩
  case round =>
    obtain ⟨k, hk, rfl, HM⟩ := hrel
    have hi0 : (0 : Int) ≤ (k : Int) := by omega
    by_cases hlt : k < D
    · have hi1 : (k : Int) < (D : Int) := by omega
      have hkm : k < m.length := by have := HD.out; omega
      obtain ⟨b, off, x, c, rfl, hb, c0, c1, c2, hact, -⟩ := ch_at (HROW.out _ HM.out.2.bel) HIS.out hkm
      have HT := Lib.hid (runP_take hkm HM.out.1)
      have HSTOP := Lib.hid (runP_stop hkm HM.out.1)
      have HV := Lib.hid (HSM.out.2 _ (List.getElem_mem hkm))
      have HLN := Lib.hid (runP_lt (m.take k) n HN.out)
      have HZ := Lib.hid HM.out.1
      have HMM := Lib.hid HM.out.2
      clear HM
      generalize m[k] = q at c0 c1 c2 hact HT HSTOP HV
      generalize (runP n (m.take k)).1 = n' at HT HSTOP HMM HLN
      obtain ⟨q0, q1, q2⟩ := q
      simp only at c0 c1 c2 hact HV
      have HCK := Lib.hid (show ∀ W, Below w.heap.size w W → Calls Try.prog 38 #[rosV n' (e + k), chV q0 q1 x q2.length c] W (ChkPost n' ⟨q0, q1, q2⟩ W) from fun W hW => by
        obtain ⟨x', c', hx, h1, h2, h3, h4⟩ := hact
        simp only [Value.slice.injEq, true_and] at hx
        obtain ⟨rfl, rfl⟩ := hx
        exact rcheck_any n' (e + k) q0 q1 x c q2 W HLN.out (h3.below hW) HV.out)
      unfold rosV chV at HCK
      clear hact hkm
      have hbig := HMM.out.lt
      have HM2 := Lib.hid (HMM.out.keep (bel_alloc (Below.refl _ _) (.cells #[.int .i64 q0, .int .i64 q1, .slice x q2.length c] 97)))
      have b0 := HM2.out.b0
      have b1 := HM2.out.b1
      have hbig2 := HM2.out.lt
      go_wp2_with fail
      refine (HCK.out _ HM2.out.bel).mono ?_
      rintro r w2 ⟨rfl, hb2⟩
      have HM3 := Lib.hid (HM2.out.keep hb2)
      have z1 : w2.cell? ⟨wr.heap.size, 1, none⟩ = some (.int .i64 q1) := (hb2.cell (p := ⟨wr.heap.size, 1, none⟩) (by simp)).trans (new_cell rfl rfl)
      have hwr2 : wr.heap.size < w2.heap.size := block_lt_of_cell z1
      generalize wr.heap.size = X at z1 hwr2 hbig ⊢
      clear hb2 HM2 HMM b0 b1 c0 c1 c2 hbig2 HCK
      have r0 := HM3.out.r0
      have r1 := HM3.out.r1
      have b0 := HM3.out.b0
      have b1 := HM3.out.b1
      have s0 := HM3.out.s0
      have s1 := HM3.out.s1
      have hbig2 := HM3.out.lt
      have f10 := HM3.out.fr (w.heap.size + 1) 0 (by omega) (by omega)
      have f11 := HM3.out.fr (w.heap.size + 1) 1 (by omega) (by omega)
      have f20 := HM3.out.fr (w.heap.size + 2) 0 (by omega) (by omega)
      have f21 := HM3.out.fr (w.heap.size + 2) 1 (by omega) (by omega)
      by_cases hz : chk n' ⟨q0, q1, q2⟩ = 0
      · have HRNG := Lib.hid (chk_range hz)
        have hT2 := HT.out
        rw [if_pos hz] at hT2
        have HT2 := Lib.hid hT2
        rw [hz]
        obtain ⟨j, rfl⟩ : ∃ j : Nat, q1 = (j : Int) := ⟨q1.toNat, by have := HRNG.out.1; simp only at this; omega⟩
        have hj : j < 32 := by have := HRNG.out.2.1; simp only at this; omega
        have hj0 : (0 : Int) ≤ (j : Int) := by omega
        have HX := Lib.hid (xorR_bit n' j HLN.out hj)
        have HDO := Lib.hid (show doP n' ⟨q0, (j : Int), q2⟩ = n' ^^^ 2 ^ j from rfl)
        have HM4 := Lib.hid (HM3.out.set (n' ^^^ 2 ^ j))
        rw [← HX.out] at HM4
        clear hz hT2 HT HSTOP HRNG
        go_upto_region 1 with (fail)
        go_region
        all_goals
          have HM5 := Lib.hid (HM4.out.keep (Below.refl _ _).drew)
          have c0 := HM5.out.b0
          have c1 := HM5.out.b1
          have g21 := HM5.out.fr (w.heap.size + 2) 1 (by omega) (by omega)
          have hbig3 := HM5.out.lt
          have hwe : IntKind.i64.wrap (e + (k : Int) + 1) = e + (k : Int) + 1 := by rw [IntKind.wrap_i64]; omega
          have HM6 := Lib.hid (HM5.out.set1 (e + (k : Int) + 1))
          rw [HX.out] at HM6
          go_wp2
          go_roundw
          case rel => exact ⟨k + 1, by omega, by go_num, Lib.hid ⟨by rw [HT2.out], by rw [HT2.out, HDO.out, show e + ((k + 1 : Nat) : Int) = e + (k : Int) + 1 by omega]; rw [HX.out] ; exact HM6.out⟩⟩
          case measure => simp [intOf] <;> omega
      · have HWP := Lib.hid (show withP n e m = (n, e, chk n' ⟨q0, q1, q2⟩) by unfold withP; rw [HSTOP.out hz]; simp only; rw [if_neg hz])
        generalize chk n' ⟨q0, q1, q2⟩ = z at hz HWP ⊢
        have hzb : (z == 0) = false := by rw [beq_eq_false_iff_ne]; exact hz
        clear HT HSTOP
        go_wp2
        exact bodyPost_ret (v := .tuple #[.agg #[.int .u32 (n : Int), .int .i64 e], .int .i64 z]) (by simp [results, Try.results39, go_sem, s0, s1]) rfl (HF.out _ _ _ _ HWP.out (by repeat (first | exact HM3.out.bel | refine Below.setCell ?_ (by simp) _)))
    · obtain rfl : k = D := by omega
      have HWP := Lib.hid (show withP n e m = ((runP n (m.take k)).1, e + k, 0) by
        have h1 := HM.out.1
        rw [List.take_of_length_le (by rw [HD.out]; exact Nat.le_refl _)] at h1 ⊢
        unfold withP
        rw [if_pos h1, HD.out])
      have HMM := Lib.hid HM.out.2
      clear HM
      generalize (runP n (m.take k)).1 = n' at HWP HMM
      have hi1 : (k : Int) ≤ (k : Int) := by omega
      have r0 := HMM.out.r0
      have r1 := HMM.out.r1
      have b0 := HMM.out.b0
      have b1 := HMM.out.b1
      have s0 := HMM.out.s0
      have s1 := HMM.out.s1
      have hbig := HMM.out.lt
      have f10 := HMM.out.fr (w.heap.size + 1) 0 (by omega) (by omega)
      have f11 := HMM.out.fr (w.heap.size + 1) 1 (by omega) (by omega)
      go_wp2
      exact bodyPost_ret (v := .tuple #[.agg #[.int .u32 (n' : Int), .int .i64 (e + k)], .int .i64 0]) (by simp [results, Try.results39, go_sem, s0, s1]) rfl (HF.out _ _ _ _ HWP.out (by repeat (first | exact HMM.out.bel | refine Below.setCell ?_ (by simp) _)))
end Go.Proofs.Ytcbadcbnknmdnaa
namespace Go.Proofs.Ytcbadcbnknmdnaa
open Go.RowKit
set_option linter.unusedVariables false

theorem row_new18 (w : World) (t : TypeId) (l : List Int) (cs : Array Value) (hcs : cs = (l.map (Value.int .i64)).toArray) (m : Nat) (hm : m = w.heap.size) : IntRow .i64 (w.alloc (.cells cs t)) (some ⟨m, 0, none⟩) l := fun h0 => ⟨m, 0, rfl, fun i hi => new_cell hm (by subst hcs; simp [hi])⟩
theorem vrow_new18 (w : World) (t : TypeId) (k : Nat) (ls : List (List Value)) (hw : VWide k ls) (cs : Array Value) (hcs : cs = ls.flatten.toArray) (m : Nat) (hm : m = w.heap.size) : VRow k (w.alloc (.cells cs t)) (some ⟨m, 0, none⟩) ls := fun h0 => ⟨m, 0, rfl, fun i hi j hj => by
  have h1 := vflat_at hw i hi j hj
  have h2 := (hw _ (List.getElem_mem hi)).1
  rw [← h1]
  subst hcs
  rw [List.getElem?_eq_getElem (show j < ls[i].length by omega)] at h1
  have := new_cell (W := w) (cells := ls.flatten.toArray) (t := t) (j := i * k + j) hm (by simpa using h1)
  rw [h1, Nat.zero_add]
  exact this⟩
theorem act_new18 (w : World) (t : TypeId) (l : List Int) (cs : Array Value) (hcs : cs = (l.map (Value.int .i64)).toArray) (m : Nat) (hm : m = w.heap.size) (n c : Nat) (hn : n = l.length) (h1 : l.length ≤ c) (h2 : c ≤ maxLen) : ActL (w.alloc (.cells cs t)) (.slice (some ⟨m, 0, none⟩) n c) l := by
  subst hn
  exact ⟨_, c, rfl, h1, h2, row_new18 w t l cs hcs m hm, fun h => by cases h⟩
set_option maxRecDepth 100000 in
set_option maxHeartbeats 1000000 in
theorem same18_any (a b : Option Addr) (c d : Nat) (l : List Int) (w : World) (ha : IntRow .i64 w a l) (hb : IntRow .i64 w b l) (n : Nat) (hn : l.length = n) (hl : l.length ≤ 1000) : Calls Try.prog 50 #[.slice a n c, .slice b n d] w fun r w' => r = .returned (.int .i64 0) ∧ Below w.heap.size w w' := by
  subst hn
  have HA := Lib.hid ha
  have HB := Lib.hid hb
  clear ha hb
  go_enter Try.func50, Try.ntmps50
  go_wp2
  generalize hD : l.length = D
  have HD := Lib.hid hD
  rw [hD] at hl
  clear hD
  go_loopw [13] (fun i wr => ∃ k : Nat, k ≤ D ∧ i = .int .i64 k ∧ Hid (Below w.heap.size w wr)) (fun i _ => D - (intOf i).toNat)
  case atStart => exact ⟨0, by omega, rfl, Lib.hid (Below.refl _ _)⟩
  case round =>
    obtain ⟨k, hk, rfl, HM⟩ := hrel
    have hi0 : (0 : Int) ≤ (k : Int) := by omega
    by_cases hlt : k < D
    · have hi1 : (k : Int) < (D : Int) := by omega
      have hkl : k < l.length := by have := HD.out; omega
      obtain ⟨b1, o1, rfl, hc1⟩ := HA.out.below HM.out (by omega)
      obtain ⟨b2, o2, rfl, hc2⟩ := HB.out.below HM.out (by omega)
      have v1 := hc1 k hkl
      have v2 := hc2 k hkl
      generalize l[k] = x at v1 v2
      have l1 := block_lt_of_cell v1
      have l2 := block_lt_of_cell v2
      simp only at l1 l2
      clear hc1 hc2 hkl
      go_wp2
      go_quiet (fail)
      have HM2 := Lib.hid (bel18_drewN HM.out nq)
      go_wp2
      go_roundw
      case rel => exact ⟨k + 1, by omega, by go_num, HM2⟩
      case measure => simp [intOf] <;> omega
    · obtain rfl : k = D := by omega
      have hi1 : (k : Int) ≤ (k : Int) := by omega
      go_wp2
      go_ret
      exact ⟨rfl, HM.out⟩
end Go.Proofs.Ytcbadcbnknmdnaa
namespace Go.Proofs.Ytcbadcbnknmdnaa
open Go.RowKit
set_option linter.unusedVariables false

theorem awake18_of : ofP [0, 1, 2] = 7 := by decide
theorem awake18_yes : withP 7 0 [⟨3, 2, [0, 1]⟩] = (3, 1, 0) := by decide +kernel
theorem awake18_no : withP 7 0 [⟨3, 2, [0]⟩] = (7, 0, 15) := by decide +kernel
theorem ch_one18 {w W : World} {v : Value} {c : Chg} (hb : Below w.heap.size w W) (a : Option Addr) (n : Nat) (h : ActL w (.slice a c.v.length n) c.v) : ChIs W [[.int .i64 c.k, .int .i64 c.p, .slice a c.v.length n]] [c] :=
  ⟨rfl, fun i h1 h2 => by
    obtain rfl : i = 0 := by simpa using h1
    exact ⟨a, n, rfl, h.below hb⟩⟩
end Go.Proofs.Ytcbadcbnknmdnaa
namespace Go.Proofs.Ytcbadcbnknmdnaa
open Go.RowKit
set_option linter.unusedVariables false

theorem newV_one {e T : TypeId} {k by' : Nat} {z : Value} (H : VTy e k z by') (hT : Try.prog.underlying T = some (.slice e)) {w w1 : World} {a : Option Addr} {c : Nat} {ls : List (List Value)} (h : NewV e k w a c ls w1) (x : List Value) (hw : x.length = k ∧ ∀ u ∈ x, u.oneCell' = true) (hl : ls.length ≤ 100000) (N : Nat) (hN : ls.length = N) (m : Nat) (hm : w1.heap.size = m) (cs : Array Value) (hcs : cs = x.toArray) :
    ∃ a' c' w', (Builtin.append_ #[T, T] T #[.slice a N c, .slice (some ⟨m, 0, none⟩) 1 1]).run Try.prog (w1.alloc (.cells cs e)) = .ok (.slice a' (N + 1) c') w' ∧ NewV e k w a' c' (ls ++ [x]) w' := by
  subst hN hcs
  have hs := h.2.size
  obtain ⟨a', c', w', h1, h2, h3⟩ := h.1.one (ty := T) H hT hs x hw (by omega) m hm
  refine ⟨a', c', w', h1, h2, h.2.trans (h3.below hs fun b hb e1 => ?_)⟩
  have := map_none (P := fun b => w.heap.size ≤ b) h.1.2 _ e1
  omega
theorem chgTy : VTy 97 3 (.agg #[.int .i64 0, .int .i64 0, .slice none 0 0]) 40 := ⟨by kernel_rfl, rfl, by decide, by decide⟩
theorem dchgTy : VTy 105 3 (.agg #[.int .i64 0, .int .i64 0, .slice none 0 0]) 40 := ⟨by kernel_rfl, rfl, by decide, by decide⟩
def cutC (c : Chg) : Chg := { c with v := c.v.take 34 }
theorem fewC_eq (m : List Chg) : fewC m = (m.take 10).map cutC := rfl
theorem fewC_small (m : List Chg) : ChSmall (fewC m) ∧ (fewC m).length ≤ 10 := by
  have h1 : (fewC m).length ≤ 10 := by rw [fewC_eq, List.length_map, List.length_take]; omega
  refine ⟨⟨by omega, fun c hc => ?_⟩, h1⟩
  rw [fewC_eq] at hc
  obtain ⟨c', -, rfl⟩ := List.mem_map.1 hc
  show (c'.v.take 34).length ≤ 1000
  rw [List.length_take]; omega
theorem actL_cut {w : World} {x : Option Addr} {n : Nat} {l : List Int} (h : ActL w (.slice x l.length n) l) (hl : 34 < l.length) : ActL w (.slice x (l.take 34).length n) (l.take 34) ∧ (l.take 34).length = 34 ∧ l.length ≤ n := by
  obtain ⟨a', c', e1, h1, h2, h3, h4⟩ := h
  simp only [Value.slice.injEq, true_and] at e1
  obtain ⟨rfl, rfl⟩ := e1
  have e2 : (l.take 34).length = 34 := by simp; omega
  exact ⟨⟨x, n, rfl, by omega, h2, h3.take 34, fun e => by rw [h4 e]; rfl⟩, e2, h1⟩
def FewPost18 (m : List Chg) (w0 w : World) (r : Ending) (w' : World) : Prop := ∃ a c ls, r = .returned (.slice a (fewC m).length c) ∧ Hid (NewV 97 3 w a c ls w' ∧ ChIs w0 ls (fewC m))
set_option maxRecDepth 100000 in
set_option maxHeartbeats 8000000 in
theorem few18_any (a : Option Addr) (cp : Nat) (ls : List (List Value)) (m : List Chg) (w0 w : World) (hr : VRow 3 w a ls) (hi : ChIs w0 ls m) (hm : m.length ≤ maxLen) (N : Nat) (hN : m.length = N) : Calls Try.prog 37 #[.slice a N cp] w (FewPost18 m w0 w) := by
  subst hN
  have HROW := Lib.hid (fun W (hW : Below w.heap.size w W) => VRow.touch (by decide) (hi.wide) hr (touch_of_below (S := fun _ => False) hW) (fun _ _ => id))
  have HIS := Lib.hid hi
  have HF : Hid (∀ a c ls N W, N = (fewC m).length → NewV 97 3 w a c ls W → ChIs w0 ls (fewC m) → FewPost18 m w0 w (.returned (.slice a N c)) W) := Lib.hid fun a c ls N W h1 h2 h3 => by
    subst h1
    exact ⟨a, c, ls, rfl, Lib.hid ⟨h2, h3⟩⟩
  generalize FewPost18 m w0 w = Post at HF ⊢
  clear hr hi
  unfold maxLen at hm
  go_enter Try.func37, Try.ntmps37
  go_wp2
  generalize hD : m.length = D
  have HD := Lib.hid hD
  rw [hD] at hm
  clear hD
  go_loopw [3, 4] (fun v i wr => ∃ (k : Nat) (ao : Option Addr) (co : Nat) (N : Nat) (lo : List (List Value)), k ≤ D ∧ k ≤ 10 ∧ i = .int .i64 k ∧ v = .slice ao N co ∧ Hid (N = k ∧ NewV 97 3 w ao co lo wr ∧ ChIs w0 lo ((m.take k).map cutC))) (fun _ i _ => D - (intOf i).toNat)
  case atStart => exact ⟨0, none, 0, 0, [], by omega, by omega, rfl, rfl, Lib.hid ⟨rfl, NewV.none _ _ (Below.refl _ _), ChIs.nil w0⟩⟩
  case round =>
    obtain ⟨k, ao, co, N, lo, hk, hk10, rfl, rfl, HM⟩ := hrel
    have hi0 : (0 : Int) ≤ (k : Int) := by omega
    by_cases hlt : k < D ∧ k < 10
    · obtain ⟨hlt, hlt10⟩ := hlt
      have hi1 : (k : Int) < (D : Int) := by omega
      have hi2 : (k : Int) < 10 := by omega
      have hkm : k < m.length := by have := HD.out; omega
      obtain ⟨hNk, hnew, hcis⟩ := HM.out
      obtain ⟨b, off, x, c, rfl, hb, c0, c1, c2, hact, -⟩ := ch_at (HROW.out _ hnew.2) HIS.out hkm
      have HTK := Lib.hid (show (m.take (k + 1)).map cutC = (m.take k).map cutC ++ [cutC m[k]] by rw [List.take_succ_eq_append_getElem hkm, List.map_append]; rfl)
      generalize m[k] = q at c0 c1 c2 hact HTK
      obtain ⟨q0, q1, q2⟩ := q
      simp only at c0 c1 c2 hact
      have hlen := hcis.1
      have hlk : lo.length = N := by
        rw [hlen, List.length_map, List.length_take]; omega
      have hlo : lo.length ≤ 100000 := by omega
      by_cases h34 : 34 < q2.length
      · obtain ⟨hcut, hcl, hcc⟩ := actL_cut hact h34
        have hA : Below wr.heap.size wr (wr.alloc (.cells #[.int .i64 q0, .int .i64 q1, .slice x 34 c] 97)) := bel_alloc (Below.refl _ _) _
        have hcv : ChV w0 [.int .i64 q0, .int .i64 q1, .slice x 34 c] (cutC ⟨q0, q1, q2⟩) := ⟨x, c, by show _ = [_, _, Value.slice x (q2.take 34).length c]; rw [hcl]; rfl, hcut⟩
        obtain ⟨a', c', w', hrun, hn'⟩ := newV_one chgTy Try.underlying23 (hnew.keep hA) [.int .i64 q0, .int .i64 q1, .slice x 34 c] hcv.wide hlo N hlk (wr.heap.size + 1) (by simp) #[.int .i64 q0, .int .i64 q1, .slice x 34 c] rfl
        have HREL := Lib.hid (show k + 1 = k + 1 ∧ NewV 97 3 w a' c' (lo ++ [[.int .i64 q0, .int .i64 q1, .slice x 34 c]]) w' ∧ ChIs w0 (lo ++ [[.int .i64 q0, .int .i64 q1, .slice x 34 c]]) ((m.take (k + 1)).map cutC) from ⟨by omega, hn', by rw [HTK.out]; exact hcis.snoc hcv⟩)
        have HR := Lib.hid hrun
        have h34' : (34 : Int) < (q2.length : Int) := by omega
        have hcc' : (q2.length : Int) ≤ (c : Int) := by omega
        have hcc2 : 34 ≤ c := by omega
        have hcc3 : (34 : Int) ≤ (c : Int) := by omega
        generalize q2.length = ql at c2 h34' hcc'
        clear hcv hn' hrun hA hcut hact HM hnew hcis hlen hlk hlo hcl hcc h34 HTK
        go_wp2_with (at_builtin; refine wpList_append_run _ rfl (.tmp 28) (.tmp 30) 23 23 rfl _ _ rfl rfl (.slice a' (N + 1) c') w' HR.out ?_)
        go_roundw
        case rel => exact ⟨k + 1, a', c', k + 1, _, by omega, by omega, by go_num, by first | rfl | simp [*], HREL⟩
        case measure => simp [intOf] <;> omega
      · have hA : Below wr.heap.size wr (wr.alloc (.cells #[.int .i64 q0, .int .i64 q1, .slice x q2.length c] 97)) := bel_alloc (Below.refl _ _) _
        have hcv : ChV w0 [.int .i64 q0, .int .i64 q1, .slice x q2.length c] (cutC ⟨q0, q1, q2⟩) := by
          have e : cutC ⟨q0, q1, q2⟩ = ⟨q0, q1, q2⟩ := by
            show (⟨q0, q1, q2.take 34⟩ : Chg) = _
            rw [List.take_of_length_le (by omega)]
          rw [e]
          exact ⟨x, c, rfl, hact⟩
        obtain ⟨a', c', w', hrun, hn'⟩ := newV_one chgTy Try.underlying23 (hnew.keep hA) [.int .i64 q0, .int .i64 q1, .slice x q2.length c] hcv.wide hlo N hlk (wr.heap.size + 1) (by simp) #[.int .i64 q0, .int .i64 q1, .slice x q2.length c] rfl
        have HREL := Lib.hid (show k + 1 = k + 1 ∧ NewV 97 3 w a' c' (lo ++ [[.int .i64 q0, .int .i64 q1, .slice x q2.length c]]) w' ∧ ChIs w0 (lo ++ [[.int .i64 q0, .int .i64 q1, .slice x q2.length c]]) ((m.take (k + 1)).map cutC) from ⟨by omega, hn', by rw [HTK.out]; exact hcis.snoc hcv⟩)
        have h34' : (q2.length : Int) ≤ 34 := by omega
        generalize q2.length = ql at c2 h34' hrun HREL
        have HR := Lib.hid hrun
        clear hcv hn' hrun hA hact HM hnew hcis hlen hlk hlo h34 HTK
        go_wp2_with (at_builtin; refine wpList_append_run _ rfl (.tmp 28) (.tmp 30) 23 23 rfl _ _ rfl rfl (.slice a' (N + 1) c') w' HR.out ?_)
        go_roundw
        case rel => exact ⟨k + 1, a', c', k + 1, _, by omega, by omega, by go_num, by first | rfl | simp [*], HREL⟩
        case measure => simp [intOf] <;> omega
    · have HEQ := Lib.hid (show (m.take k).map cutC = fewC m by
        rw [fewC_eq]
        have := HD.out
        by_cases h1 : k = 10
        · rw [h1]
        · rw [List.take_of_length_le (show m.length ≤ k by omega), List.take_of_length_le (show m.length ≤ 10 by omega)])
      have HE : Hid (NewV 97 3 w ao co lo wr ∧ ChIs w0 lo (fewC m) ∧ N = (fewC m).length) := Lib.hid (by
        obtain ⟨h1, h2, h3⟩ := HM.out
        rw [HEQ.out] at h3
        refine ⟨h2, h3, ?_⟩
        rw [← HEQ.out, List.length_map, List.length_take]
        have := HD.out
        omega)
      by_cases h1 : k < D
      · have h2 : (10 : Int) ≤ (k : Int) := by omega
        have hi1 : (k : Int) < (D : Int) := by omega
        clear hlt
        go_wp2
        first | exact HF.out _ _ _ _ _ HE.out.2.2 HE.out.1 HE.out.2.1 | (go_ret; exact HF.out _ _ _ _ _ HE.out.2.2 HE.out.1 HE.out.2.1)
      · have hi1 : (D : Int) ≤ (k : Int) := by omega
        clear hlt
        go_wp2
        first | exact HF.out _ _ _ _ _ HE.out.2.2 HE.out.1 HE.out.2.1 | (go_ret; exact HF.out _ _ _ _ _ HE.out.2.2 HE.out.1 HE.out.2.1)
def ToldPost18 (ls : List (List Value)) (w : World) (r : Ending) (w' : World) : Prop := ∃ a c, r = .returned (.slice a ls.length c) ∧ Hid (NewV 105 3 w a c ls w')
set_option maxRecDepth 100000 in
set_option maxHeartbeats 8000000 in
theorem told18_any (a : Option Addr) (cp : Nat) (ls : List (List Value)) (m : List Chg) (w : World) (hr : VRow 3 w a ls) (hi : ChIs w ls m) (hm : m.length ≤ 1000) (N : Nat) (hN : m.length = N) : Calls Try.prog 48 #[.slice a N cp] w (ToldPost18 ls w) := by
  subst hN
  have HROW := Lib.hid (fun W (hW : Below w.heap.size w W) => VRow.touch (by decide) (hi.wide) hr (touch_of_below (S := fun _ => False) hW) (fun _ _ => id))
  have HIS := Lib.hid hi
  have HLS : Hid (ls.length = m.length) := Lib.hid hi.1
  have HF : Hid (∀ a c N W, N = ls.length → NewV 105 3 w a c ls W → ToldPost18 ls w (.returned (.slice a N c)) W) := Lib.hid fun a c N W h1 h2 => by
    subst h1
    exact ⟨a, c, rfl, Lib.hid h2⟩
  generalize ToldPost18 ls w = Post at HF ⊢
  clear hr hi
  have HROW0 := Lib.hid (NewV.made 105 3 (Below.refl _ w) w.heap.size rfl)
  go_enter Try.func48, Try.ntmps48
  go_wp2
  generalize hD : m.length = D
  have HD := Lib.hid hD
  rw [hD] at hm
  clear hD
  go_loopw [3, 9] (fun v i wr => ∃ (k : Nat) (ao : Option Addr) (co : Nat), k ≤ D ∧ i = .int .i64 k ∧ v = .slice ao k co ∧ Hid (NewV 105 3 w ao co (ls.take k) wr)) (fun _ i _ => D - (intOf i).toNat)
  case atStart => exact ⟨0, _, _, by omega, rfl, rfl, Lib.hid HROW0.out⟩
  case round =>
    obtain ⟨k, ao, co, hk, rfl, rfl, HM⟩ := hrel
    have hi0 : (0 : Int) ≤ (k : Int) := by omega
    by_cases hlt : k < D
    · have hi1 : (k : Int) < (D : Int) := by omega
      have hkm : k < m.length := by have := HD.out; omega
      have hkl : k < ls.length := by have := HLS.out; omega
      have hnew := HM.out
      obtain ⟨b, off, x, c, rfl, hb, c0, c1, c2, hact, heq⟩ := ch_at (HROW.out _ hnew.2) HIS.out hkm
      have hw := (HIS.out.2 k hkl hkm).wide
      have HTK := Lib.hid (List.take_succ_eq_append_getElem hkl)
      rw [heq] at hw HTK
      generalize m[k] = q at c0 c1 c2 hw HTK
      obtain ⟨q0, q1, q2⟩ := q
      simp only at c0 c1 c2 hw HTK
      have hA : Below wr.heap.size wr (wr.alloc (.cells #[.int .i64 q0, .int .i64 q1, .slice x q2.length c] 97)) := bel_alloc (Below.refl _ _) _
      have hlk : (ls.take k).length = k := by rw [List.length_take]; omega
      obtain ⟨a', c', w', hrun, hn'⟩ := newV_one dchgTy Try.underlying42 (hnew.keep hA) [.int .i64 q0, .int .i64 q1, .slice x q2.length c] hw (by omega) k hlk (wr.heap.size + 1) (by simp) #[.int .i64 q0, .int .i64 q1, .slice x q2.length c] rfl
      have HREL := Lib.hid (show NewV 105 3 w a' c' (ls.take (k + 1)) w' by rw [HTK.out]; exact hn')
      generalize q2.length = ql at c2 hrun
      have HR := Lib.hid hrun
      clear hn' hrun hA hact HM hnew hlk HTK hw heq hkl hkm
      go_wp2_with (at_builtin; refine wpList_append_run _ rfl (.tmp 13) (.tmp 15) 42 42 rfl _ _ rfl rfl (.slice a' (k + 1) c') w' HR.out ?_)
      go_roundw
      case rel => exact ⟨k + 1, a', c', by omega, by go_num, rfl, HREL⟩
      case measure => simp [intOf] <;> omega
    · obtain rfl : k = D := by omega
      have hi1 : (k : Int) ≤ (k : Int) := by omega
      have HE : Hid (k = ls.length ∧ NewV 105 3 w ao co ls wr) := Lib.hid (by
        have h1 := HM.out
        have h2 := HLS.out
        have h3 := HD.out
        rw [List.take_of_length_le (by omega)] at h1
        exact ⟨by omega, h1⟩)
      go_wp2
      first | exact HF.out _ _ _ _ HE.out.1 HE.out.2 | (go_ret; exact HF.out _ _ _ _ HE.out.1 HE.out.2)
end Go.Proofs.Ytcbadcbnknmdnaa
namespace Go.Proofs.Ytcbadcbnknmdnaa
open Go.RowKit Go.Shelf
set_option linter.unusedVariables false

def dbT : List Int := Lib.deBruijn32tab.map Int.ofNat
theorem xor_all (p : Nat) (hp : p < 4294967296) : bits .xor .u32 4294967295 (p : Int) = ((4294967295 - p : Nat) : Int) := by
  rw [show (4294967295 : Int) = ((4294967295 : Nat) : Int) from rfl, u32_xor_nat _ _ (by decide) hp, xor_ones p hp]
end Go.Proofs.Ytcbadcbnknmdnaa
namespace Go.Proofs.Ytcbadcbnknmdnaa
open Go.RowKit
set_option linter.unusedVariables false

def docV (a : Option Addr) (N c : Nat) (e : Int) : Value := .agg #[.slice a N c, .int .i64 e]
theorem hasL_take_succ (L : List Int) (x : Int) (k : Nat) (hk : k < L.length) : hasL (L.take (k + 1)) x = (hasL (L.take k) x || L[k] == x) := by
  rw [List.take_succ_eq_append_getElem hk, hasL_snoc]
/-- What the document's calls hand out: a roster whose list none had before, or one that stays. -/
def DocPost (L : List Int) (e : Int) (w : World) (r : Ending) (w' : World) : Prop := ∃ a c, r = .returned (docV a L.length c e) ∧ Hid (ActL w' (.slice a L.length c) L) ∧ Below w.heap.size w w'
/-- The same, where the list is the call's own. -/
def DocNew (L : List Int) (e : Int) (w : World) (r : Ending) (w' : World) : Prop := ∃ a c, r = .returned (docV a L.length c e) ∧ Hid (ActL w' (.slice a L.length c) L) ∧ (∀ x, a = some x → w.heap.size ≤ x.block) ∧ Below w.heap.size w w'
/-- Two boxes of rosters: the answer's, and one whose row is the call's own. -/
structure DofM (w : World) (a : Option Addr) (c : Nat) (L : List Int) (wr : World) : Prop where
  row : OwnV 3 1 (w.heap.size + 2) a c (L.map iC18) wr
  c0 : wr.cell? ⟨w.heap.size + 1, 0, none⟩ = some (.slice a L.length c)
  c1 : wr.cell? ⟨w.heap.size + 1, 1, none⟩ = some (.int .i64 0)
  s0 : wr.cell? ⟨w.heap.size, 0, none⟩ = some (.slice none 0 0)
  s1 : wr.cell? ⟨w.heap.size, 1, none⟩ = some (.int .i64 0)
  fr : ∀ b j, w.heap.size ≤ b → b ≤ w.heap.size + 1 → wr.frozen? ⟨b, j, none⟩ = false
  bel : Below w.heap.size w wr
theorem DofM.lt {w : World} {a : Option Addr} {c : Nat} {L : List Int} {wr : World} (h : DofM w a c L wr) : w.heap.size + 1 < wr.heap.size := block_lt_of_cell h.c0
theorem DofM.touch {S : Nat → Prop} {w : World} {a : Option Addr} {c : Nat} {L : List Int} {wr w' : World} (h : DofM w a c L wr) (ht : Touch S wr w') (hS : ∀ b, S b → w.heap.size + 2 ≤ b) (ha : ∀ x, a = some x → ¬ S x.block) : DofM w a c L w' := by
  have hl := h.lt
  have hc : ∀ b j, b ≤ w.heap.size + 1 → w'.cell? ⟨b, j, none⟩ = wr.cell? ⟨b, j, none⟩ := fun b j hb2 => ht.cell (p := ⟨b, j, none⟩) (show b < wr.heap.size by omega) (fun h => by have := hS _ h; simp only at this; omega)
  exact ⟨h.row.touch ht ha, (hc _ _ (by omega)).trans h.c0, (hc _ _ (by omega)).trans h.c1, (hc _ _ (by omega)).trans h.s0, (hc _ _ (by omega)).trans h.s1, fun b j h1 h2 => (ht.frozen (p := ⟨b, j, none⟩) (show b < wr.heap.size by omega) (fun h => by have := hS _ h; simp only at this; omega)).trans (h.fr b j h1 h2), h.bel.trans (ht.below h.bel.size fun b hb hs => by have := hS b hs; omega)⟩
theorem DofM.keep {w : World} {a : Option Addr} {c : Nat} {L : List Int} {wr w' : World} (h : DofM w a c L wr) (hb : Below wr.heap.size wr w') : DofM w a c L w' := h.touch (touch_of_below (S := fun _ => False) hb) (fun _ h => h.elim) (fun _ _ => id)
theorem DofM.push {w : World} {a : Option Addr} {c : Nat} {L : List Int} {wr : World} (h : DofM w a c L wr) (x : Int) (hl : L.length ≤ 100000) : ∃ a' c' w', (Builtin.append_ #[22, 22] 22 #[.slice a L.length c, .slice (some ⟨wr.heap.size, 0, none⟩) 1 1]).run Try.prog (wr.alloc (.cells #[.int .i64 x] 3)) = .ok (.slice a' (L.length + 1) c') w' ∧
    w'.cell? ⟨w.heap.size + 1, 0, none⟩ = some (.slice a L.length c) ∧ w'.frozen? ⟨w.heap.size + 1, 0, none⟩ = false ∧ DofM w a' c' (L ++ [x]) (w'.setCell ⟨w.heap.size + 1, 0, none⟩ (.slice a' (L.length + 1) c')) := by
  have hlt := h.lt
  obtain ⟨a', c', w', h1, h2, h3⟩ := h.row.one (ty := 22) int18Ty Try.underlying22 (by omega) (iC18 x) (i18_wide [x] _ (by simp)) (by simp; omega) _ rfl
  have hS : ∀ b, a.map (·.block) = some b → w.heap.size + 2 ≤ b := fun b e1 => map_none (P := fun b => w.heap.size + 2 ≤ b) h.row.2 _ e1
  have hc : ∀ b j, b ≤ w.heap.size + 1 → w'.cell? ⟨b, j, none⟩ = wr.cell? ⟨b, j, none⟩ := fun b j hb2 => h3.cell (p := ⟨b, j, none⟩) (show b < wr.heap.size by omega) (fun h => by have := hS _ h; simp only at this; omega)
  have hf : ∀ b j, b ≤ w.heap.size + 1 → w'.frozen? ⟨b, j, none⟩ = wr.frozen? ⟨b, j, none⟩ := fun b j hb2 => h3.frozen (p := ⟨b, j, none⟩) (show b < wr.heap.size by omega) (fun h => by have := hS _ h; simp only at this; omega)
  have hbel : Below w.heap.size w w' := h.bel.trans (h3.below h.bel.size fun b hb hs => by have := hS b hs; omega)
  have x0 := (hc (w.heap.size + 1) 0 (by omega)).trans h.c0
  have x1 := (hc (w.heap.size + 1) 1 (by omega)).trans h.c1
  have y0 := (hc w.heap.size 0 (by omega)).trans h.s0
  have y1 := (hc w.heap.size 1 (by omega)).trans h.s1
  have hlen : (L.map iC18).length = L.length := by simp
  rw [hlen] at h1
  refine ⟨a', c', w', by simpa [iC18] using h1, x0, (hf _ _ (by omega)).trans (h.fr _ 0 (by omega) (by omega)), ⟨?_, ?_, ?_, ?_, ?_, fun b j h1 h2 => ?_, hbel.setCell (p := ⟨w.heap.size + 1, 0, none⟩) (by simp) _⟩⟩
  · rw [List.map_append]
    exact h2.touch (S := fun b => b = w.heap.size + 1) ((Touch.refl (fun b => b = w.heap.size + 1) w').setCell (p := ⟨w.heap.size + 1, 0, none⟩) (fun _ => rfl) _) (fun x hx e => by have := h2.2 x hx; omega)
  · rw [List.length_append]
    exact World.cell?_setCell_same' _ _ _ (by rw [x0]; rfl)
  · rw [World.cell?_setCell_other _ _ _ _ (by simp)]; exact x1
  · rw [World.cell?_setCell_other _ _ _ _ (by simp)]; exact y0
  · rw [World.cell?_setCell_other _ _ _ _ (by simp)]; exact y1
  · rw [World.frozen?_setCell]; exact (hf b j (by omega)).trans (h.fr b j h1 h2)
theorem own18_act {w : World} {B : Nat} {a : Option Addr} {c : Nat} {l : List Int} (h : OwnV 3 1 B a c (l.map iC18) w) : ActL w (.slice a l.length c) l := by
  have hl : (l.map iC18).length = l.length := by simp
  rcases h.1.2 with ⟨hv, h0⟩ | ⟨g, cap, cur, hv, -, -, hnc, hcm, -⟩
  · simp only [Value.slice.injEq] at hv
    refine ⟨a, c, rfl, by omega, by rw [hv.2.2]; unfold maxLen; omega, own18_row h, fun _ => List.eq_nil_of_length_eq_zero (by omega)⟩
  · simp only [Value.slice.injEq] at hv
    refine ⟨a, c, rfl, by rw [hv.2.2]; omega, by rw [hv.2.2]; exact hcm, own18_row h, fun e0 => ?_⟩
    rw [hv.1] at e0; cases e0
end Go.Proofs.Ytcbadcbnknmdnaa
namespace Go.Proofs.Ytcbadcbnknmdnaa
open Go.RowKit
set_option linter.unusedVariables false

def prv (V : List Int) : Nat → Int
  | 0 => -1
  | k + 1 => V.getD k 0
end Go.Proofs.Ytcbadcbnknmdnaa
namespace Go.Proofs.Ytcbadcbnknmdnaa
open Go.RowKit
set_option linter.unusedVariables false

/-- What a check of the document's reads. -/
structure DckMem (w : World) (n : Value) (e : Int) (k p : Int) (v : Value) (wr : World) : Prop where
  r0 : wr.cell? ⟨w.heap.size, 0, none⟩ = some n
  r1 : wr.cell? ⟨w.heap.size, 1, none⟩ = some (.int .i64 e)
  c0 : wr.cell? ⟨w.heap.size + 1, 0, none⟩ = some (.int .i64 k)
  c1 : wr.cell? ⟨w.heap.size + 1, 1, none⟩ = some (.int .i64 p)
  c2 : wr.cell? ⟨w.heap.size + 1, 2, none⟩ = some v
  bel : Below w.heap.size w wr
theorem DckMem.lt {w : World} {n : Value} {e k p : Int} {v : Value} {wr : World} (h : DckMem w n e k p v wr) : w.heap.size + 1 < wr.heap.size := block_lt_of_cell h.c0
theorem DckMem.keep {w : World} {n : Value} {e k p : Int} {v : Value} {wr w' : World} (h : DckMem w n e k p v wr) (hb : Below wr.heap.size wr w') : DckMem w n e k p v w' := by
  have hl := h.lt
  exact ⟨(hb.cell (p := ⟨w.heap.size, 0, none⟩) (show w.heap.size < wr.heap.size by omega)).trans h.r0, (hb.cell (p := ⟨w.heap.size, 1, none⟩) (show w.heap.size < wr.heap.size by omega)).trans h.r1, (hb.cell (p := ⟨w.heap.size + 1, 0, none⟩) hl).trans h.c0, (hb.cell (p := ⟨w.heap.size + 1, 1, none⟩) hl).trans h.c1, (hb.cell (p := ⟨w.heap.size + 1, 2, none⟩) hl).trans h.c2, h.bel.trans (hb.mono h.bel.size)⟩
end Go.Proofs.Ytcbadcbnknmdnaa
namespace Go.Proofs.Ytcbadcbnknmdnaa
open Go.RowKit
set_option linter.unusedVariables false

section
variable {P : Program} (w : World)
theorem step_app_ex {ops : Array Oper} {o : Oper} {a : Act} {K : Act → World → Prop} {Q : Exit → Act → World → Prop} {E : Prop} (hgd : o.guard = none) (s x : Operand) (t u : TypeId)
    (ho : o.op = .call { callee := .builtin .append, args := #[s, x], argTypes := #[t, u] }) (v xv : Value) (hs : a.eval s = v) (hx : a.eval x = xv) (n : Nat) (R : Option Addr → Nat → World → Prop)
    (hr : ∃ a' c' w', (Builtin.append_ #[t, u] o.type #[v, xv]).run P w = .ok (.slice a' n c') w' ∧ R a' c' w') (h : ∀ a' c' w', R a' c' w' → K (a.put o.dst (.slice a' n c')) w') : if Region.wanted o (yielded ops a.tmps) = true then Oper.wp P o a w K Q else E := by
  obtain ⟨a', c', w', hrun, hR⟩ := hr
  exact step_append_run w hgd s x t u ho v xv hs hx (.slice a' n c') w' hrun (h a' c' w' hR)
end
theorem lit13 {X : World} {k : Nat} (n : Nat) (t : List UInt8) (ty : TypeId) (hk : k = X.heap.size) : RRow (X.alloc (.cells #[.int .i64 (n : Int), .string (bs t)] ty)) (some ⟨k, 0, none⟩) [(n, t)] := by
  subst hk
  intro _
  refine ⟨_, _, rfl, fun i hi j hj => ?_⟩
  obtain rfl : i = 0 := by simpa using hi
  have : j = 0 ∨ j = 1 := by omega
  rcases this with rfl | rfl <;> simp [riC]
theorem RRow.drew {w : World} {a : Option Addr} {l : Its} (h : RRow w a l) : RRow w.drew a l := h
theorem k2b13 {W0 w' : World} (hb : Below W0.heap.size W0 w') {T : Nat} {t0 t1 : Value} (h : W0.cell? ⟨T, 0, none⟩ = some t0 ∧ W0.cell? ⟨T, 1, none⟩ = some t1) : w'.cell? ⟨T, 0, none⟩ = some t0 ∧ w'.cell? ⟨T, 1, none⟩ = some t1 :=
  ⟨(hb.cell (p := ⟨T, 0, none⟩) (block_lt_of_cell h.1)).trans h.1, (hb.cell (p := ⟨T, 1, none⟩) (block_lt_of_cell h.2)).trans h.2⟩
theorem set2_touch (w : World) (R : Nat) (x y : Value) : Touch (fun b => b = R) w ((w.setCell ⟨R, 0, none⟩ x).setCell ⟨R, 1, none⟩ y) :=
  ((Touch.refl (fun b => b = R) w).setCell (p := ⟨R, 0, none⟩) (fun _ => rfl) _).setCell (p := ⟨R, 1, none⟩) (fun _ => rfl) _
theorem k2s13 {w : World} {T R : Nat} {t0 t1 x y : Value} (hT : T ≠ R) (h : w.cell? ⟨T, 0, none⟩ = some t0 ∧ w.cell? ⟨T, 1, none⟩ = some t1) : ((w.setCell ⟨R, 0, none⟩ x).setCell ⟨R, 1, none⟩ y).cell? ⟨T, 0, none⟩ = some t0 ∧ ((w.setCell ⟨R, 0, none⟩ x).setCell ⟨R, 1, none⟩ y).cell? ⟨T, 1, none⟩ = some t1 :=
  ⟨((set2_touch w R x y).cell (p := ⟨T, 0, none⟩) (block_lt_of_cell h.1) hT).trans h.1, ((set2_touch w R x y).cell (p := ⟨T, 1, none⟩) (block_lt_of_cell h.2) hT).trans h.2⟩
/-- What is stored into a block of the call's own changes nothing of a row. -/
theorem RNew.set2 {w : World} {a0 a : Option Addr} {c : Nat} {L : Its} {w1 : World} (h : RNew w a0 a c L w1) {R : Nat} (hR : w.heap.size ≤ R) (ha : ∀ x, a = some x → x.block ≠ R) (x y : Value) : RNew w a0 a c L ((w1.setCell ⟨R, 0, none⟩ x).setCell ⟨R, 1, none⟩ y) := by
  have ht := set2_touch w1 R x y
  refine ⟨h.row.touch ht ha, h.nn, h.cap, h.cmax, h.fresh.imp id (fun g x hx => ⟨(g x hx).1, by have := (g x hx).2; have := ht.size; omega⟩), h.bel.trans (ht.below h.bel.size fun k hk e => by omega)⟩
def R13Post (w : World) (a0 : Option Addr) (n : Nat) (L : Its) (q : Value) (r : Ending) (w' : World) : Prop :=
  ∃ a c, r = .returned (.tuple #[.agg #[.int .i64 (n : Int), .slice a L.length c], q]) ∧ RNew w a0 a c L w'
theorem frozen_new13 (W : World) (n : Nat) (h : n = W.heap.size) (cs : Array Value) (t : TypeId) (j : Nat) : (W.alloc (.cells cs t)).frozen? ⟨n, j, none⟩ = false := by subst h; exact frozen_new _ _ _ _
/-- What came, at T; the answer's box, at T + 1. -/
structure Pu13 (w : World) (n N : Nat) (a : Option Addr) (c : Nat) (wx : World) : Prop where
  t0 : wx.cell? ⟨w.heap.size, 0, none⟩ = some (.int .i64 (n : Int))
  t1 : wx.cell? ⟨w.heap.size, 1, none⟩ = some (.slice a N c)
  r0 : wx.cell? ⟨w.heap.size + 1, 0, none⟩ = some (.int .i64 0)
  r1 : wx.cell? ⟨w.heap.size + 1, 1, none⟩ = some (.slice none 0 0)
  z0 : wx.frozen? ⟨w.heap.size + 1, 0, none⟩ = false
  z1 : wx.frozen? ⟨w.heap.size + 1, 1, none⟩ = false
  bel : Below w.heap.size w wx
theorem pu13 (w : World) (n N : Nat) (a : Option Addr) (c nq : Nat) (y1 y2 : TypeId) : Pu13 w n N a c (((w.alloc (.cells #[.int .i64 (n : Int), .slice a N c] y1)).alloc (.cells #[.int .i64 0, .slice none 0 0] y2)).drewN nq) := by
  have hA : Below w.heap.size w ((w.alloc (.cells #[.int .i64 (n : Int), .slice a N c] y1)).alloc (.cells #[.int .i64 0, .slice none 0 0] y2)) := bel_alloc (bel_alloc (Below.refl _ _) _) _
  refine ⟨?_, ?_, ?_, ?_, ?_, ?_, hA.trans ((drewN_bel _ nq).mono hA.size)⟩
  · exact alloc_cell (new_cell rfl rfl) _
  · exact alloc_cell (new_cell rfl rfl) _
  · exact new_cell (by simp) rfl
  · exact new_cell (by simp) rfl
  · exact frozen_new13 _ _ (by simp) _ _ _
  · exact frozen_new13 _ _ (by simp) _ _ _
end Go.Proofs.Ytcbadcbnknmdnaa
namespace Go.Proofs.Ytcbadcbnknmdnaa
open Go.RowKit
set_option linter.unusedVariables false

theorem vrow_int {w : World} {a : Option Addr} {L : List Int} (h : IntRow .i64 w a L) : VRow 1 w a (L.map iC18) := fun h0 => by
  obtain ⟨b, off, e, hc⟩ := h (by simpa using h0)
  refine ⟨b, off, e, fun i hi j hj => ?_⟩
  obtain rfl : j = 0 := by omega
  have := hc i (by simpa using hi)
  rw [Nat.mul_one, Nat.add_zero, this]
  simp [iC18]
theorem app18a {W0 Wc : World} {a : Option Addr} {c k : Nat} {L : List Int} {ty : TypeId} (hmade : NewV 3 1 W0 (some ⟨k, 0, none⟩) 0 [] Wc) (hr : IntRow .i64 W0 a L) (hn : a = none → L = []) (hl : L.length ≤ 1000) (N : Nat) (hN : L.length = N) :
    ∃ a' c' w', (Builtin.append_ #[22, 22] ty #[.slice (some ⟨k, 0, none⟩) 0 0, .slice a N c]).run Try.prog Wc = .ok (.slice a' N c') w' ∧ (NewV 3 1 W0 a' c' (L.map iC18) w' ∧ Touch (fun b => b = k) Wc w') := by
  subst hN
  obtain ⟨a', c', w', hrun, hnew, ht⟩ := newV_more (ty := ty) (T := 22) int18Ty Try.underlying22 hmade (i18_wide L) a c (vrow_int (hr.below hmade.2)) (fun e => by rw [hn e]; rfl) (by simp; omega)
  rw [List.nil_append] at hnew
  rw [List.length_nil, Nat.zero_add, List.length_map] at hrun
  exact ⟨a', c', w', hrun, hnew, ht.mono fun b _ h => by simpa using h.symm⟩
theorem app18b {W0 Wc : World} {a1 a2 : Option Addr} {c1 c2 : Nat} {L M : List Int} {ty : TypeId} (h : NewV 3 1 W0 a1 c1 (L.map iC18) Wc) (hv : IntRow .i64 Wc a2 M) (hn : a2 = none → M = []) (hl : L.length + M.length ≤ 1000) (N K : Nat) (hN : L.length = N) (hK : M.length = K) :
    ∃ a' c' w', (Builtin.append_ #[22, 22] ty #[.slice a1 N c1, .slice a2 K c2]).run Try.prog Wc = .ok (.slice a' (N + K) c') w' ∧ NewV 3 1 W0 a' c' ((L ++ M).map iC18) w' := by
  subst hN hK
  obtain ⟨a', c', w', hrun, hnew, -⟩ := newV_more (ty := ty) (T := 22) int18Ty Try.underlying22 h (i18_wide M) a2 c2 (vrow_int hv) (fun e => by rw [hn e]; rfl) (by simp; omega)
  rw [List.length_map, List.length_map] at hrun
  rw [← List.map_append] at hnew
  exact ⟨a', c', w', hrun, hnew⟩
/-- What a change of the document's reads: the roster's box, the change's, and the answer's. -/
structure OneM (w : World) (v : Value) (e : Int) (k p : Int) (u : Value) (wr : World) : Prop where
  r0 : wr.cell? ⟨w.heap.size, 0, none⟩ = some v
  r1 : wr.cell? ⟨w.heap.size, 1, none⟩ = some (.int .i64 e)
  c0 : wr.cell? ⟨w.heap.size + 1, 0, none⟩ = some (.int .i64 k)
  c1 : wr.cell? ⟨w.heap.size + 1, 1, none⟩ = some (.int .i64 p)
  c2 : wr.cell? ⟨w.heap.size + 1, 2, none⟩ = some u
  s0 : wr.cell? ⟨w.heap.size + 2, 0, none⟩ = some (.slice none 0 0)
  s1 : wr.cell? ⟨w.heap.size + 2, 1, none⟩ = some (.int .i64 0)
  f0 : wr.frozen? ⟨w.heap.size + 2, 0, none⟩ = false
  f1 : wr.frozen? ⟨w.heap.size + 2, 1, none⟩ = false
  bel : Below w.heap.size w wr
theorem OneM.lt {w : World} {v : Value} {e k p : Int} {u : Value} {wr : World} (h : OneM w v e k p u wr) : w.heap.size + 2 < wr.heap.size := block_lt_of_cell h.s0
theorem OneM.keep {w : World} {v : Value} {e k p : Int} {u : Value} {wr w' : World} (h : OneM w v e k p u wr) (hb : Below wr.heap.size wr w') : OneM w v e k p u w' := by
  have hl := h.lt
  have hc : ∀ b j, b ≤ w.heap.size + 2 → w'.cell? ⟨b, j, none⟩ = wr.cell? ⟨b, j, none⟩ := fun b j hb2 => hb.cell (p := ⟨b, j, none⟩) (show b < wr.heap.size by omega)
  have hf : ∀ b j, b ≤ w.heap.size + 2 → w'.frozen? ⟨b, j, none⟩ = wr.frozen? ⟨b, j, none⟩ := fun b j hb2 => hb.frozen (p := ⟨b, j, none⟩) (show b < wr.heap.size by omega)
  exact ⟨(hc _ _ (by omega)).trans h.r0, (hc _ _ (by omega)).trans h.r1, (hc _ _ (by omega)).trans h.c0, (hc _ _ (by omega)).trans h.c1, (hc _ _ (by omega)).trans h.c2, (hc _ _ (by omega)).trans h.s0, (hc _ _ (by omega)).trans h.s1, (hf _ _ (by omega)).trans h.f0, (hf _ _ (by omega)).trans h.f1, h.bel.trans (hb.mono h.bel.size)⟩
theorem oneKeep {w w' : World} {p q r s t : Addr} {a b c d f : Value} (hb : Below w.heap.size w w') (h : w.cell? p = some a ∧ w.cell? q = some b ∧ w.cell? r = some c ∧ w.cell? s = some d ∧ w.cell? t = some f ∧ w.frozen? s = false ∧ w.frozen? t = false) : w'.cell? p = some a ∧ w'.cell? q = some b ∧ w'.cell? r = some c ∧ w'.cell? s = some d ∧ w'.cell? t = some f ∧ w'.frozen? s = false ∧ w'.frozen? t = false :=
  ⟨(hb.cell (block_lt_of_cell h.1)).trans h.1, (hb.cell (block_lt_of_cell h.2.1)).trans h.2.1, (hb.cell (block_lt_of_cell h.2.2.1)).trans h.2.2.1, (hb.cell (block_lt_of_cell h.2.2.2.1)).trans h.2.2.2.1, (hb.cell (block_lt_of_cell h.2.2.2.2.1)).trans h.2.2.2.2.1, (hb.frozen (block_lt_of_cell h.2.2.2.1)).trans h.2.2.2.2.2.1, (hb.frozen (block_lt_of_cell h.2.2.2.2.1)).trans h.2.2.2.2.2.2⟩
theorem filt_succ (L : List Int) (f : Int → Bool) (k : Nat) (hk : k < L.length) : (L.take (k + 1)).filter f = if f L[k] = true then (L.take k).filter f ++ [L[k]] else (L.take k).filter f := by
  rw [List.take_succ_eq_append_getElem hk, List.filter_append]
  by_cases h : f L[k] = true
  · rw [if_pos h]; simp [h]
  · rw [if_neg h]; simp [h]
end Go.Proofs.Ytcbadcbnknmdnaa
