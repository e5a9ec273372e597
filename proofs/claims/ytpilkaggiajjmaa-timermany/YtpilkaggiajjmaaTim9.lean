/-
  Layer 14: many that began one after another: mathematics; how they lie beside the law's own list.
-/
import Derived.Test.YtpilkaggiajjmaaTim7
import Derived.Test.YtpilkaggiajjmaaRWin3
import Derived.Test.YtpilkaggiajjmaaWalkTMay
namespace Go.Proofs.Ytpilkaggiajjmaa
open Go.RowKit
set_option linter.unusedVariables false

/-- Those that began at these ticks. -/
def manyL (F : Nat) (ts : List Nat) : List Tn := ts.zipIdx.map (fun p => ⟨p.2, p.1 + F, F, 0⟩)
theorem manyL_len (F : Nat) (ts : List Nat) : (manyL F ts).length = ts.length := by simp [manyL]
theorem manyL_snoc (F : Nat) (ts : List Nat) (t : Nat) : manyL F (ts ++ [t]) = manyL F ts ++ [⟨ts.length, t + F, F, 0⟩] := by simp [manyL, List.zipIdx_append]
theorem manyL_at (F : Nat) (ts : List Nat) (i : Nat) (hi : i < ts.length) : (manyL F ts)[i]'(by rw [manyL_len]; exact hi) = ⟨i, ts[i] + F, F, 0⟩ := by simp [manyL]
theorem manyL_mem {F : Nat} {ts : List Nat} {x : Tn} (h : x ∈ manyL F ts) : ∃ i, ∃ hi : i < ts.length, x = ⟨i, ts[i] + F, F, 0⟩ := by
  obtain ⟨i, hi, e⟩ := List.getElem_of_mem h
  rw [manyL_len] at hi
  rw [manyL_at F ts i hi] at e
  exact ⟨i, hi, e.symm⟩
theorem many_new (F : Nat) (ts : List Nat) : (manyL F ts).find? (isN ts.length) = none := by
  rw [List.find?_eq_none]
  intro x hx
  obtain ⟨i, hi, rfl⟩ := manyL_mem hx
  unfold isN
  simp; omega
theorem many_there (F : Nat) (ts : List Nat) (t : Nat) : ((manyL F (ts ++ [t])).find? (isN ts.length)).isSome = true := by
  rw [List.find?_isSome]
  exact ⟨⟨ts.length, t + F, F, 0⟩, by rw [manyL_snoc]; simp, by unfold isN; simp⟩
theorem sortedD_of {l : List Tn} (h : l.Pairwise (fun x y => x.due ≤ y.due)) : SortedD l := fun i hi => (List.pairwise_iff_getElem.1 h) i (i + 1) (by omega) hi (by omega)
theorem many_sorted (F : Nat) (ts : List Nat) (h : ts.Pairwise (· ≤ ·)) : (manyL F ts).Pairwise (fun x y => x.due ≤ y.due) := by
  rw [List.pairwise_iff_getElem]
  intro i j hi hj hij
  rw [manyL_len] at hi hj
  rw [manyL_at F ts i hi, manyL_at F ts j hj]
  have := (List.pairwise_iff_getElem.1 h) i j hi hj hij
  simp only; omega
theorem dueF_all {T : Nat} {l : List Tn} (h : ∀ x ∈ l, x.due ≤ T) : dueF T l = l := by
  unfold dueF; rw [List.filter_eq_self]; intro x hx; unfold isDue; exact decide_eq_true (h x hx)
theorem dueF_no {T : Nat} {l : List Tn} (h : ∀ x ∈ l, T < x.due) : dueF T l = [] := by
  unfold dueF; rw [List.filter_eq_nil_iff]; intro x hx; unfold isDue; have := h x hx; simp; omega
theorem agF_all {T mo : Nat} {l : List Tn} (h : ∀ x ∈ l, x.due ≤ T) : agF T mo l = l.map (againT T mo) := by
  unfold agF
  apply List.map_congr_left
  intro x hx
  rw [if_pos (by unfold isDue; exact decide_eq_true (h x hx))]
theorem agF_no {T mo : Nat} {l : List Tn} (h : ∀ x ∈ l, T < x.due) : agF T mo l = l := by
  unfold agF
  conv => rhs; rw [← List.map_id l]
  apply List.map_congr_left
  intro x hx
  have := h x hx
  rw [if_neg (by unfold isDue; simp; omega)]; rfl
/-- Behind the first time that all were due. -/
def many1 (F T : Nat) (ts : List Nat) : List Tn := (manyL F ts).map (againT T 1000)
theorem many1_mem {F T : Nat} {ts : List Nat} (hF : F ≤ 8) {x : Tn} (h : x ∈ many1 F T ts) : ∃ i, i < ts.length ∧ x = ⟨i, T + 2 * F, 2 * F, 1⟩ := by
  obtain ⟨y, hy, rfl⟩ := List.mem_map.1 h
  obtain ⟨i, hi, rfl⟩ := manyL_mem hy
  refine ⟨i, hi, ?_⟩
  unfold againT
  simp only
  rw [Nat.min_eq_left (by omega)]
theorem many1_times {F T i : Nat} {ts : List Nat} (hF : F ≤ 8) (hi : i < ts.length) : timesV ((many1 F T ts).find? (isN i)) = .tuple #[.int .i64 1, .bool true] := by
  have hs : ((many1 F T ts).find? (isN i)).isSome = true := by
    rw [List.find?_isSome]
    refine ⟨againT T 1000 ⟨i, ts[i] + F, F, 0⟩, List.mem_map.2 ⟨_, ?_, rfl⟩, by unfold isN againT; simp⟩
    rw [← manyL_at F ts i hi]; exact List.getElem_mem _
  cases hf : (many1 F T ts).find? (isN i) with
  | none => rw [hf] at hs; cases hs
  | some x =>
    obtain ⟨j, -, rfl⟩ := many1_mem hF (List.mem_of_find?_eq_some hf)
    rfl
theorem many1_nums (F T : Nat) (ts : List Nat) (i : Nat) (hi : i < ts.length) : ((manyL F ts).map (·.n))[i]'(by rw [List.length_map, manyL_len]; exact hi) = i := by
  rw [List.getElem_map, manyL_at F ts i hi]
theorem pairwise_same {l : List Tn} {d : Nat} (h : ∀ x ∈ l, x.due = d) : l.Pairwise (fun x y => x.due ≤ y.due) := by
  rw [List.pairwise_iff_getElem]
  intro i j hi hj _
  rw [h _ (List.getElem_mem hi), h _ (List.getElem_mem hj)]
  exact Nat.le_refl _
/-- The timers; the law's own list of ticks. -/
structure Mn (w : World) (b F : Nat) (a : Option Addr) (c : Nat) (l : List Tn) (ts : List Nat) (a1 : Option Addr) (c1 : Nat) (wr : World) : Prop where
  aw : Aw14 w b (F : Int) 1000 a c l wr
  r : OwnV 3 1 0 a1 c1 (ts.map i64C) wr
  n1 : ∀ x, a1 = some x → w.heap.size ≤ x.block ∧ x.block ≠ b
  dj : ∀ x y, a = some x → a1 = some y → x.block ≠ y.block
theorem Mn.keep {w : World} {b F : Nat} {a : Option Addr} {c : Nat} {l : List Tn} {ts : List Nat} {a1 : Option Addr} {c1 : Nat} {wr w' : World} (h : Mn w b F a c l ts a1 c1 wr) (hb : Below wr.heap.size wr w') : Mn w b F a c l ts a1 c1 w' :=
  ⟨h.aw.keep hb, h.r.touch (touch_of_below (S := fun _ => False) hb) (fun _ _ => id), h.n1, h.dj⟩
theorem Mn.app {w : World} {b F : Nat} {a : Option Addr} {c : Nat} {l : List Tn} {ts ts' : List Nat} {a1 a' : Option Addr} {c1 c' : Nat} {wr w' : World} (h : Mn w b F a c l ts a1 c1 wr) (ho : OwnV 3 1 0 a' c' (ts'.map i64C) w') (ht : Touch (fun j => a1.map (·.block) = some j) wr w') (hf : ∀ x, a' = some x → a1.map (·.block) = some x.block ∨ wr.heap.size ≤ x.block) : Mn w b F a c l ts' a' c' w' := by
  have hs := h.aw.bel.size
  have hbl := h.aw.t.lt
  refine ⟨⟨h.aw.t.touch ht (fun e => (map_none (P := fun j => w.heap.size ≤ j ∧ j ≠ b) h.n1 _ e).2 rfl) (fun x hx e => map_none (P := fun j => x.block = j → False) (fun y hy e => h.dj x y hx hy e) _ e rfl), h.aw.hb, h.aw.ha, h.aw.bel.trans (ht.below hs fun j hj e => by have h0 : w.heap.size ≤ j := (map_none (P := fun j => w.heap.size ≤ j ∧ j ≠ b) h.n1 j e).1; omega)⟩, ho, fun x hx => ?_, fun x y hx hy => ?_⟩
  · rcases hf x hx with e | e
    · exact map_none (P := fun j => w.heap.size ≤ j ∧ j ≠ b) h.n1 _ e
    · exact ⟨by omega, by omega⟩
  · rcases hf y hy with e | e
    · exact map_none (P := fun j => x.block ≠ j) (fun z hz => h.dj x z hx hz) _ e
    · have := h.aw.t.row.lt x hx; omega
theorem Mn.step {w : World} {b F : Nat} {a a' : Option Addr} {c c' : Nat} {l l' : List Tn} {ts : List Nat} {a1 : Option Addr} {c1 : Nat} {wr w' : World} (h : Mn w b F a c l ts a1 c1 wr) (ht : TAt w' b (F : Int) 1000 a' c' l') (hf : ∀ x, a' = some x → a.map (·.block) = some x.block ∨ wr.heap.size ≤ x.block) (htc : Touch (fun j => j = b ∨ a.map (·.block) = some j) wr w') : Mn w b F a' c' l' ts a1 c1 w' := by
  refine ⟨h.aw.next ht hf htc, h.r.touch htc (fun y hy e => ?_), h.n1, fun x y hx hy => ?_⟩
  · rcases e with e | e
    · exact (h.n1 y hy).2 e
    · exact map_none (P := fun j => j = y.block → False) (fun x hx e => h.dj x y hx hy e) _ e rfl
  · rcases hf x hx with e | e
    · exact map_none (P := fun j => j ≠ y.block) (fun z hz => h.dj z y hz hy) _ e
    · have := h.r.lt y hy; omega
end Go.Proofs.Ytpilkaggiajjmaa
