/-
  Records of whole numbers in memory, one behind the other; and what is put behind them.
-/
import Derived.Test.YtpilkaggiajjmaaTouch
import Derived.Test.YtpilkaggiajjmaaAppend
import Derived.Test.YtpilkaggiajjmaaOutIn
import Derived.Lib.SliceRun
import Derived.Lib.Hide
namespace Go.Proofs.Ytpilkaggiajjmaa
open Go.RowKit
set_option linter.unusedVariables false

def B64 (x : Int) : Prop := -9223372036854775808 ≤ x ∧ x ≤ 9223372036854775807
/-- All have k numbers. -/
def Wide (k : Nat) (ls : List (List Int)) : Prop := ∀ x ∈ ls, x.length = k
def recCells (ls : List (List Int)) : List Value := ls.flatten.map (Value.int .i64)
theorem recCells_append (l m : List (List Int)) : recCells (l ++ m) = recCells l ++ recCells m := by simp [recCells]
theorem flatten_len {k : Nat} {ls : List (List Int)} (hw : Wide k ls) : ls.flatten.length = ls.length * k := by
  induction ls with
  | nil => simp
  | cons x l ih =>
    rw [List.flatten_cons, List.length_append, ih (fun y hy => hw y (by simp [hy])), hw x (by simp), List.length_cons, Nat.add_mul]
    omega
theorem recCells_len {k : Nat} {ls : List (List Int)} (hw : Wide k ls) : (recCells ls).length = ls.length * k := by
  rw [recCells, List.length_map, flatten_len hw]
theorem flatten_at {k : Nat} {ls : List (List Int)} (hw : Wide k ls) : ∀ i (h : i < ls.length) j, j < k → ls.flatten[i * k + j]? = some (ls[i].getD j 0) := by
  induction ls with
  | nil => intro i h; simp at h
  | cons x l ih =>
    intro i h j hj
    have hx := hw x (by simp)
    cases i with
    | zero =>
      rw [List.flatten_cons, Nat.zero_mul, Nat.zero_add, List.getElem?_append_left (by omega)]
      simp [List.getElem?_eq_getElem (show j < x.length by omega)]
    | succ i =>
      have e : (i + 1) * k + j = x.length + (i * k + j) := by rw [hx, Nat.add_mul]; omega
      rw [List.flatten_cons, e, List.getElem?_append_right (by omega), Nat.add_sub_cancel_left]
      exact ih (fun y hy => hw y (by simp [hy])) i (by simpa using h) j hj
theorem recCells_one (ls : List (List Int)) : ∀ u ∈ recCells ls, u.oneCell' = true := by
  intro u hu
  simp only [recCells, List.mem_map] at hu
  obtain ⟨x, -, rfl⟩ := hu
  rfl
/-- Records of k numbers lie one behind the other from a on. -/
def RecRow (k : Nat) (w : World) (a : Option Addr) (ls : List (List Int)) : Prop :=
  0 < ls.length → ∃ b off, a = some ⟨b, off, none⟩ ∧ ∀ i (h : i < ls.length) j, j < k → w.cell? ⟨b, off + i * k + j, none⟩ = some (.int .i64 (ls[i].getD j 0))
theorem RecRow.touch {S : Nat → Prop} {k : Nat} (hk : 0 < k) {w w' : World} {a : Option Addr} {ls : List (List Int)} (h : RecRow k w a ls) (ht : Touch S w w') (hs : ∀ x, a = some x → ¬ S x.block) : RecRow k w' a ls := by
  intro h0
  obtain ⟨b, off, e, hc⟩ := h h0
  have hlt := block_lt_of_cell (hc 0 h0 0 hk)
  have hsb : ¬ S b := hs _ e
  exact ⟨b, off, e, fun i hi j hj => (ht.cell (p := ⟨b, off + i * k + j, none⟩) hlt hsb).trans (hc i hi j hj)⟩
theorem RecRow.below {k : Nat} (hk : 0 < k) {w w' : World} {a : Option Addr} {ls : List (List Int)} (h : RecRow k w a ls) (hb : Below w.heap.size w w') : RecRow k w' a ls :=
  h.touch hk (touch_of_below (S := fun _ => False) hb) (fun _ _ => id)
theorem RecRow.take {k : Nat} {w : World} {a : Option Addr} {ls : List (List Int)} (h : RecRow k w a ls) (n : Nat) : RecRow k w a (ls.take n) := by
  intro h0
  obtain ⟨b, off, e, hc⟩ := h (by simp at h0; omega)
  refine ⟨b, off, e, fun i hi j hj => ?_⟩
  rw [List.getElem_take]
  exact hc i (by simp at hi; omega) j hj
theorem RecRow.lt {k : Nat} (hk : 0 < k) {w : World} {a : Option Addr} {ls : List (List Int)} (h : RecRow k w a ls) (h0 : 0 < ls.length) : ∃ b off, a = some ⟨b, off, none⟩ ∧ b < w.heap.size := by
  obtain ⟨b, off, e, hc⟩ := h h0
  exact ⟨b, off, e, block_lt_of_cell (hc 0 h0 0 hk)⟩
theorem cell_addR {w : World} {b off j : Nat} {v : Value} (h : w.cell? ((⟨b, off, none⟩ : Addr).add j) = some v) : w.cell? ⟨b, off + j, none⟩ = some v := by
  by_cases hz : j = 0
  · subst hz; simpa [Addr.add] using h
  · simpa [Addr.add, hz] using h
theorem add_cellR {w : World} {b off j : Nat} {v : Value} (h : w.cell? ⟨b, off + j, none⟩ = some v) : w.cell? ((⟨b, off, none⟩ : Addr).add j) = some v := by
  by_cases hz : j = 0
  · subst hz; simpa [Addr.add] using h
  · simpa [Addr.add, hz] using h
theorem RecRow.of_own {w : World} {base k n c : Nat} {e : TypeId} {a : Option Addr} {ls : List (List Int)} (hw : Wide k ls) (hk : 0 < k) (h : w.ownsRow base e k (.slice a n c) ls.length (recCells ls)) : RecRow k w a ls := by
  intro h0
  rcases h.2 with ⟨hv, h00⟩ | ⟨g, cap, cur, hv, -⟩
  · omega
  · simp only [Value.slice.injEq] at hv
    obtain ⟨rfl, -, rfl⟩ := hv
    refine ⟨g, 0, rfl, fun i hi j hj => ?_⟩
    have := h.cells (g := g) rfl (i * k + j) (.int .i64 (ls[i].getD j 0)) (by rw [recCells, List.getElem?_map, flatten_at hw i hi j hj]; rfl)
    have := cell_addR this
    rwa [Nat.add_assoc]
theorem RecRow.cells {k : Nat} (hk : 0 < k) {w : World} {b off : Nat} {ls : List (List Int)} (hw : Wide k ls) (h : ∀ i (h : i < ls.length) j, j < k → w.cell? ⟨b, off + i * k + j, none⟩ = some (.int .i64 (ls[i].getD j 0))) :
    ∀ j u, (recCells ls)[j]? = some u → w.cell? ((⟨b, off, none⟩ : Addr).add j) = some u := by
  intro j u hu
  have hj : j < (recCells ls).length := (List.getElem?_eq_some_iff.1 hu).1
  rw [recCells_len hw] at hj
  have hi : j / k < ls.length := Nat.div_lt_of_lt_mul (by rwa [Nat.mul_comm])
  have hm : j % k < k := Nat.mod_lt _ hk
  have e : j / k * k + j % k = j := by rw [Nat.mul_comm]; exact Nat.div_add_mod j k
  have h1 := h (j / k) hi (j % k) hm
  have h2 := flatten_at hw (j / k) hi (j % k) hm
  rw [e] at h2
  rw [Nat.add_assoc, e] at h1
  rw [recCells, List.getElem?_map, h2] at hu
  simp only [Option.map_some, Option.some.injEq] at hu
  rw [← hu]
  exact add_cellR h1
theorem RecRow.lit (w : World) {k : Nat} (ls : List (List Int)) (hw : Wide k ls) (cells : Array Value) (t : TypeId) (hc : cells = (recCells ls).toArray) : RecRow k (w.alloc (.cells cells t)) (some ⟨w.heap.size, 0, none⟩) ls := by
  subst hc
  intro h0
  refine ⟨w.heap.size, 0, rfl, fun i hi j hj => ?_⟩
  have := flatten_at hw i hi j hj
  simp only [Nat.zero_add, World.cell?_alloc_new]
  simp only [List.getElem?_toArray, recCells, List.getElem?_map, this, Option.map_some]
theorem info_is {P : Program} {t : TypeId} {z : Value} {a b : Nat} (h : (P.info? t).map (fun i => (i.zero, i.size, i.bytes)) = some (some z, a, b)) : ∃ i, P.info? t = some i ∧ i.zero = some z ∧ i.size = a ∧ i.bytes = b := by
  cases hi : P.info? t with
  | none => rw [hi] at h; simp at h
  | some i => rw [hi] at h; simp at h; exact ⟨i, rfl, h.1, h.2.1, h.2.2⟩
/-- What a type of records is to the program. -/
structure RecTy (e : TypeId) (k : Nat) (z : Value) : Prop where
  info : (Try.prog.info? e).map (fun i => (i.zero, i.size, i.bytes)) = some (some z, k, 8 * k)
  cells : z.cells.size = k
  pos : 0 < k
  few : k ≤ 100
theorem append_types (w : World) {t u e : TypeId} {k : Nat} {z : Value} (H : RecTy e k z) (ht : Try.prog.underlying t = some (.slice e)) (hu : Try.prog.underlying u = some (.slice e)) (ty ty' : TypeId) (v x : Value) :
    (Builtin.append_ #[t, u] ty #[v, x]).run Try.prog w = (Builtin.append_ #[t, t] ty' #[v, x]).run Try.prog w := by
  obtain ⟨i0, hi, -⟩ := info_is H.info
  cases v <;> simp [Builtin.append_, run_underlying ht, run_underlying hu, sizeOf, typeInfo, hi]
theorem own_sliceR {w : World} {base : Nat} {e : TypeId} {size : Nat} {v : Value} {n : Nat} {xs : List Value} (h : w.ownsRow base e size v n xs) : ∃ a c, v = .slice a n c := by
  rcases h.2 with ⟨hv, h0⟩ | ⟨g, cap, cur, hv, -⟩
  · exact ⟨none, 0, by rw [hv, h0]⟩
  · exact ⟨_, cap, hv⟩
theorem own_touchR {S : Nat → Prop} {w w' : World} {base : Nat} {e : TypeId} {size : Nat} {v : Value} {n : Nat} {xs : List Value} (h : w.ownsRow base e size v n xs) (ht : Touch S w w') (hs : ∀ k, v.ownBlock = some k → ¬ S k) : w'.ownsRow base e size v n xs := by
  refine ⟨h.1, ?_⟩
  rcases h.2 with h' | ⟨g, cap, cur, hv', hg, hh, hr⟩
  · exact .inl h'
  · have hlt : g < w.heap.size := (Array.getElem?_eq_some_iff.1 hh).1
    exact .inr ⟨g, cap, cur, hv', hg, (ht.block g hlt (hs g (by rw [hv']; rfl))).trans hh, hr⟩
/-- Records put behind a row of the call's own, from wherever they lie. -/
theorem rec_append {w : World} {t u ty e : TypeId} {k : Nat} {z : Value} (H : RecTy e k z) (ht : Try.prog.underlying t = some (.slice e)) (hu : Try.prog.underlying u = some (.slice e)) {v : Value} {l m : List (List Int)} (hwm : Wide k m) (hown : w.ownsRow 0 e k v l.length (recCells l)) (a : Option Addr) (c : Nat) (hr : RecRow k w a m) (hn : a = none → m = []) (hl : l.length + m.length ≤ 1000000) :
    ∃ a' c' w', (Builtin.append_ #[t, u] ty #[v, .slice a m.length c]).run Try.prog w = .ok (.slice a' (l.length + m.length) c') w' ∧ w'.ownsRow 0 e k (.slice a' (l.length + m.length) c') (l ++ m).length (recCells (l ++ m)) ∧ w.grownBy w' v.ownBlock ∧
      (∀ k, (Value.slice a' (l.length + m.length) c').ownBlock = some k → v.ownBlock = some k ∨ w.heap.size ≤ k) := by
  obtain ⟨i0, hi, hz0, hz1, hz2⟩ := info_is H.info
  cases a with
  | none =>
    have := hn rfl
    subst this
    have hrun : (Builtin.append_ #[t, u] ty #[v, .slice none 0 c]).run Try.prog w = .ok v w := by
      rcases hown.2 with ⟨rfl, h0⟩ | ⟨g, cap, cur, rfl, _, _, hnc, _⟩
      · simp [Builtin.append_, run_underlying ht, run_underlying hu, sizeOf, typeInfo, hi, Builtin.lenOf, Builtin.firstCells]
      · simp [Builtin.append_, run_underlying ht, run_underlying hu, sizeOf, typeInfo, hi, Builtin.lenOf, Builtin.firstCells, hnc, storeCells]
    obtain ⟨a', c', rfl⟩ := own_sliceR hown
    exact ⟨a', c', w, by simpa using hrun, by simpa using hown, ⟨rfl, rfl, rfl, Nat.le_refl _, fun _ _ _ => rfl⟩, fun k hk => .inl hk⟩
  | some x =>
    have hcells : ∀ j u, (recCells m)[j]? = some u → w.cell? (x.add j) = some u := by
      intro j u hu
      have hj : j < (recCells m).length := (List.getElem?_eq_some_iff.1 hu).1
      rw [recCells_len hwm] at hj
      have hm0 : 0 < m.length := by
        rcases Nat.eq_zero_or_pos m.length with h | h
        · rw [h] at hj; simp at hj
        · exact h
      obtain ⟨b, off, e, hc⟩ := hr hm0
      cases e
      exact RecRow.cells H.pos hwm hc j u hu
    have hk := H.few
    obtain ⟨v', w', hrun, ho, hg, hf⟩ := append_exact (P := Try.prog) w t t e i0 _ k (8 * k) ht hi hz0 hz1 hz2 H.cells H.pos v l.length (recCells l) hown x m.length c (recCells m) (recCells_len hwm) hcells (recCells_one m) (by unfold maxLen; omega)
      (by have : (l.length + m.length) * (8 * k) ≤ 1000000 * 800 := Nat.mul_le_mul hl (by omega); omega)
    obtain ⟨a', c', rfl⟩ := own_sliceR ho
    rw [← recCells_append] at ho
    exact ⟨a', c', w', by rw [append_types w H ht hu ty t]; exact hrun, by rw [List.length_append]; exact ho, hg, hf⟩
/-- A row of records of the call's own, that none had before. -/
def NewRec (e : TypeId) (k : Nat) (w : World) (a : Option Addr) (c : Nat) (ls : List (List Int)) (w' : World) : Prop :=
  w'.ownsRow 0 e k (.slice a ls.length c) ls.length (recCells ls) ∧ (∀ x, a = some x → w.heap.size ≤ x.block) ∧ Below w.heap.size w w'
theorem NewRec.row {e : TypeId} {k : Nat} {w w' : World} {a : Option Addr} {c : Nat} {ls : List (List Int)} (h : NewRec e k w a c ls w') (hw : Wide k ls) (hk : 0 < k) : RecRow k w' a ls := RecRow.of_own hw hk h.1
theorem newRec_nil (e : TypeId) (k : Nat) (w w1 : World) (h : Below w.heap.size w w1) : NewRec e k w none 0 [] w1 := ⟨World.ownsRow_nil _ _ _ _, fun x hx => (by cases hx), h⟩
theorem newRec_made (e : TypeId) (k : Nat) (w w1 : World) (h : Below w.heap.size w w1) : NewRec e k w (some ⟨w1.heap.size, 0, none⟩) 0 [] (w1.alloc (.cells #[] e)) :=
  ⟨World.ownsRow_made w1 #[] 0 (Nat.zero_le _) (by simp [maxLen]) (by simp), fun x hx => by cases hx; exact h.size, h.alloc h.size _⟩
theorem newRec_keep {e : TypeId} {k : Nat} {w w1 w2 : World} {a : Option Addr} {c : Nat} {ls : List (List Int)} (h : NewRec e k w a c ls w1) (hb : Below w1.heap.size w1 w2) : NewRec e k w a c ls w2 :=
  ⟨own_touchR h.1 (touch_of_below (S := fun _ => False) hb) (fun _ _ => id), h.2.1, h.2.2.trans (hb.mono h.2.2.size)⟩
theorem newRec_touch {S : Nat → Prop} {e : TypeId} {k : Nat} {w w1 w2 : World} {a : Option Addr} {c : Nat} {ls : List (List Int)} (h : NewRec e k w a c ls w1) (ht : Touch S w1 w2) (hs : ∀ x, a = some x → ¬ S x.block) (hS : ∀ j, j < w.heap.size → ¬ S j) : NewRec e k w a c ls w2 :=
  ⟨own_touchR h.1 ht (fun k hk => by
    cases a with
    | none => simp [Value.ownBlock] at hk
    | some x => simp [Value.ownBlock] at hk; subst hk; exact hs x rfl), h.2.1, h.2.2.trans (ht.below h.2.2.size hS)⟩
theorem newRec_from {e : TypeId} {k : Nat} {w w0 w' : World} {a : Option Addr} {c : Nat} {ls : List (List Int)} (h : NewRec e k w0 a c ls w') (hb : Below w.heap.size w w0) : NewRec e k w a c ls w' :=
  ⟨h.1, fun x hx => Nat.le_trans hb.size (h.2.1 x hx), hb.trans (h.2.2.mono hb.size)⟩
theorem newRec_more {w w1 : World} {t u ty e : TypeId} {k : Nat} {z : Value} (H : RecTy e k z) (ht : Try.prog.underlying t = some (.slice e)) (hu : Try.prog.underlying u = some (.slice e)) {a1 : Option Addr} {c1 : Nat} {l m : List (List Int)} (h : NewRec e k w a1 c1 l w1) (hwm : Wide k m) (a : Option Addr) (c : Nat) (hr : RecRow k w1 a m) (hn : a = none → m = []) (hl : l.length + m.length ≤ 1000000) :
    ∃ a' c' w', (Builtin.append_ #[t, u] ty #[.slice a1 l.length c1, .slice a m.length c]).run Try.prog w1 = .ok (.slice a' (l.length + m.length) c') w' ∧ NewRec e k w a' c' (l ++ m) w' ∧ Touch (fun b => a1.map (·.block) = some b) w1 w' := by
  obtain ⟨a', c', w', hrun, ho, hg, hf⟩ := rec_append (ty := ty) H ht hu hwm h.1 a c hr hn hl
  have htg := touch_grown hg
  have e1 : (fun b => (Value.slice a1 l.length c1).ownBlock = some b) = fun b => a1.map (·.block) = some b := by
    funext b; cases a1 <;> simp [Value.ownBlock]
  rw [e1] at htg
  refine ⟨a', c', w', hrun, ⟨by rw [List.length_append] at ho ⊢; exact ho, fun x hx => ?_, ?_⟩, htg⟩
  · subst hx
    rcases hf x.block (by simp [Value.ownBlock]) with h' | h'
    · cases a1 with
      | none => simp [Value.ownBlock] at h'
      | some y => simp [Value.ownBlock] at h'; have := h.2.1 y rfl; omega
    · have := h.2.2.size; omega
  · refine h.2.2.trans (htg.below h.2.2.size fun b hb h' => ?_)
    cases a1 with
    | none => simp at h'
    | some y => simp at h'; have := h.2.1 y rfl; omega
/-- One record more, which lies in a block of its own. -/
theorem newRec_one {w w1 : World} {t u ty e : TypeId} {k : Nat} {z : Value} (H : RecTy e k z) (ht : Try.prog.underlying t = some (.slice e)) (hu : Try.prog.underlying u = some (.slice e)) {a1 : Option Addr} {c1 : Nat} {l : List (List Int)} (h : NewRec e k w a1 c1 l w1) (x : List Int) (hx : x.length = k) (hl : l.length + 1 ≤ 1000000) :
    ∃ a' c' w', (Builtin.append_ #[t, u] ty #[.slice a1 l.length c1, .slice (some ⟨w1.heap.size, 0, none⟩) 1 1]).run Try.prog (w1.alloc (.cells ((x.map (Value.int .i64)).toArray) e)) = .ok (.slice a' (l.length + 1) c') w' ∧ NewRec e k w a' c' (l ++ [x]) w' ∧ Touch (fun b => a1.map (·.block) = some b) w1 w' := by
  have hb : Below w1.heap.size w1 (w1.alloc (.cells ((x.map (Value.int .i64)).toArray) e)) := (Below.refl _ _).alloc (Nat.le_refl _) _
  have hw : Wide k [x] := by intro y hy; simp at hy; rw [hy]; exact hx
  obtain ⟨a', c', w', h1, h2, h3⟩ := newRec_more (ty := ty) H ht hu (newRec_keep h hb) hw (some ⟨w1.heap.size, 0, none⟩) 1 (RecRow.lit w1 [x] hw _ _ (by simp [recCells])) (fun h => by cases h) (by simpa using hl)
  exact ⟨a', c', w', h1, h2, ((Touch.refl _ w1).alloc _).trans h3⟩
end Go.Proofs.Ytpilkaggiajjmaa
