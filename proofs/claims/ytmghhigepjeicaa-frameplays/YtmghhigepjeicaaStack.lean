/-
  A stack: its values, and what each of its calls comes to.
-/
import Derived.Test.YtmghhigepjeicaaOutIn
import Derived.Test.YtmghhigepjeicaaNums
import Derived.BigQuiet
import Derived.Deep.QuietTactic
import Derived.Deep.OwnRows
import Derived.Laws.CopyOwn
import Derived.Outline
namespace Go.Proofs.Ytmghhigepjeicaa
open Go.RowKit
set_option linter.unusedVariables false

def bound64 (x : Int) : Prop := -9223372036854775808 ≤ x ∧ x ≤ 9223372036854775807
/-- The cells of a stack: values, what is left of older ones, how many. -/
def stackG (L : List Int) (c : Nat) (i : Nat) : Value := if i < 64 then .int .i64 (L.getD i 0) else .int .i64 (c : Nat)
def stackF (l r : List Int) (i : Nat) : Value := if i < 64 then .int .i64 ((l ++ r).getD i 0) else .int .i64 (l.length : Nat)
/-- A stack lies at block b: these are its values. -/
def StackAt (w : World) (b : Nat) (l : List Int) : Prop := ∃ r, l.length + r.length = 64 ∧ w.rowIs b 94 65 (stackF l r) ∧ ∀ x ∈ l, bound64 x
theorem StackAt.lt {w : World} {b : Nat} {l : List Int} (h : StackAt w b l) : b < w.heap.size := by obtain ⟨r, -, h, -⟩ := h; exact h.lt
theorem StackAt.len {w : World} {b : Nat} {l : List Int} (h : StackAt w b l) : l.length ≤ 64 := by obtain ⟨r, h, -⟩ := h; omega
theorem StackAt.count {w : World} {b : Nat} {l : List Int} (h : StackAt w b l) : w.cell? ⟨b, 64, none⟩ = some (.int .i64 (l.length : Nat)) := by
  obtain ⟨r, -, h, -⟩ := h
  have := h.cell (i := 64) (by decide)
  simpa [stackF] using this
theorem StackAt.frozen {w : World} {b : Nat} {l : List Int} (h : StackAt w b l) (i : Nat) : w.frozen? ⟨b, i, none⟩ = false := by obtain ⟨r, -, h, -⟩ := h; exact h.frozen i
theorem StackAt.value {w : World} {b : Nat} {l : List Int} (h : StackAt w b l) (i : Nat) (hi : i < l.length) : w.cell? ⟨b, i, none⟩ = some (.int .i64 l[i]) := by
  obtain ⟨r, h1, h, -⟩ := h
  have := h.cell (i := i) (by omega)
  rw [this]
  simp [stackF, show i < 64 by omega, List.getD, List.getElem?_append_left hi, List.getElem?_eq_getElem hi]
theorem StackAt.touch {S : Nat → Prop} {w w' : World} {b : Nat} {l : List Int} (h : StackAt w b l) (ht : Touch S w w') (hs : ¬ S b) : StackAt w' b l := by
  have hl := h.lt
  obtain ⟨r, h1, h2, h3⟩ := h
  exact ⟨r, h1, h2.of_block (ht.block b hl hs), h3⟩
theorem StackAt.below {w w' : World} {b : Nat} {l : List Int} (h : StackAt w b l) (ht : Below w.heap.size w w') : StackAt w' b l :=
  h.touch (touch_of_below (S := fun _ => False) ht) id
def StackTo (w : World) (b : Nat) (l : List Int) (w' : World) : Prop := StackAt w' b l ∧ Touch (fun k => k = b) w w'
theorem stack_new (w : World) (cells : Array Value) (hc : cells = ((List.replicate 65 0).map (Value.int .i64)).toArray) : StackAt (w.alloc (.cells cells 94)) w.heap.size [] := by
  subst hc
  refine ⟨List.replicate 64 0, by simp, ?_, by simp⟩
  have := World.rowIs_alloc w ((List.replicate 65 (0 : Int)).map (Value.int .i64)).toArray 94 (stackF [] (List.replicate 64 0)) (fun i hi => ?_)
  · simpa using this
  · have hi' : i < 65 := by simpa using hi
    simp only [List.getElem?_toArray, List.getElem?_map, List.getElem?_replicate, hi', if_true, Option.map_some, stackF]
    split
    · rename_i h; rw [List.nil_append, List.getD, List.getElem?_replicate, if_pos h]; rfl
    · rfl
theorem StackTo.drewN {w w' : World} {b : Nat} {l : List Int} (h : StackTo w b l w') (n : Nat) : StackTo w b l (w'.drewN n) :=
  ⟨h.1.below ⟨rfl, rfl, rfl, Nat.le_refl _, fun _ _ => rfl⟩, ⟨h.2.os, h.2.tape, h.2.output, h.2.size, h.2.block⟩⟩
theorem StackTo.drew {w w' : World} {b : Nat} {l : List Int} (h : StackTo w b l w') : StackTo w b l w'.drew :=
  ⟨h.1.below ⟨rfl, rfl, rfl, Nat.le_refl _, fun _ _ => rfl⟩, ⟨h.2.os, h.2.tape, h.2.output, h.2.size, h.2.block⟩⟩
theorem len_stack (b : Nat) (l : List Int) (w : World) (h : StackAt w b l) :
    Calls Try.prog 28 #[.pointer (some ⟨b, 0, none⟩)] w fun r w' => r = .returned (.int .i64 (l.length : Nat)) ∧ w = w' := by
  have hc := h.count
  go_enter Try.func28, Try.ntmps28
  go_wp2
  go_ret
  exact ⟨rfl, rfl⟩
theorem pop_none (b : Nat) (w : World) (h : StackAt w b []) :
    Calls Try.prog 44 #[.pointer (some ⟨b, 0, none⟩)] w fun r w' => r = .returned (.int .i64 0) ∧ w = w' := by
  have hc : w.cell? ⟨b, 64, none⟩ = some (.int .i64 0) := h.count
  go_enter Try.func44, Try.ntmps44
  go_wp2
  go_ret
  exact ⟨rfl, rfl⟩
/-- One value less. -/
theorem stack_less {w : World} {b : Nat} {l : List Int} (h : StackAt w b l) (n : Nat) (hn : n ≤ l.length) : StackTo w b (l.take n) (w.setCell ⟨b, 64, none⟩ (.int .i64 (n : Nat))) := by
  obtain ⟨r, h1, h2, h3⟩ := h
  refine ⟨⟨l.drop n ++ r, by simp; omega, (h2.set 64 _).congr (fun i hi => ?_), fun x hx => h3 x (List.mem_of_mem_take hx)⟩, (Touch.refl (fun k => k = b) w).setCell (p := ⟨b, 64, none⟩) (fun _ => rfl) _⟩
  by_cases e : i = 64
  · subst e; simp [stackF]; omega
  · have : i < 64 := by omega
    simp only [if_neg e, stackF, if_pos this]
    rw [← List.append_assoc, List.take_append_drop]
theorem pop_some (b : Nat) (l : List Int) (x : Int) (w : World) (h : StackAt w b (l ++ [x])) :
    Calls Try.prog 44 #[.pointer (some ⟨b, 0, none⟩)] w fun r w' => r = .returned (.int .i64 x) ∧ StackTo w b l w' := by
  have hc := h.count
  have hf := h.frozen 64
  have hv := h.value l.length (by simp)
  simp only [List.getElem_concat_length] at hv
  have hlen := h.len
  have HL := Lib.hid (stack_less h l.length (by simp))
  simp only [List.take_left'] at HL
  rw [List.length_append] at hc hlen
  simp only [List.length_cons, List.length_nil] at hc hlen
  generalize l.length = n at *
  have hc' : w.cell? ⟨b, 64, none⟩ = some (.int .i64 ((n : Int) + 1)) := by rw [hc]; congr 2
  clear hc h
  go_enter Try.func44, Try.ntmps44
  go_wp2_with fail
  have hx1 : (w.setCell ⟨b, 64, none⟩ (.int .i64 (n : Nat))).cell? ⟨b, 64, none⟩ = some (.int .i64 (n : Nat)) := World.cell?_setCell_same _ _ _ hc'
  have hx2 : (w.setCell ⟨b, 64, none⟩ (.int .i64 (n : Nat))).cell? ⟨b, n, none⟩ = some (.int .i64 x) := (World.cell?_setCell_other _ _ _ _ (by simp)).trans hv
  generalize w.setCell ⟨b, 64, none⟩ (.int .i64 (n : Nat)) = W at HL hx1 hx2 ⊢
  have hn1 : (0 : Int) ≤ (n : Int) := by omega
  have hn2 : (n : Int) < 64 := by omega
  go_quiet (fail)
  go_wp2
  go_ret
  exact ⟨rfl, HL.out.drewN _⟩
theorem infoI64' : (Try.prog.info? 2).map (·.size) = some 1 := by kernel_rfl
/-- A row's cells as they stand, whole. -/
theorem row_whole {w : World} {b : Nat} {t : TypeId} {n : Nat} {f : Nat → Value} (h : w.rowIs b t n f) : w.heap[b]? = some (.cells ((List.range n).map f).toArray t (0, 0)) := by
  obtain ⟨c, hb, hn, hc⟩ := h
  rw [hb]
  congr 2
  apply Array.ext
  · simp [hn]
  · intro i h1 h2
    have := hc i (by omega)
    rw [Array.getElem?_eq_getElem h1] at this
    simpa using this
theorem stack_list (L : List Int) (c : Nat) (h : L.length = 64) : (List.range 65).map (stackG L c) = L.map (Value.int .i64) ++ [.int .i64 (c : Nat)] := by
  apply List.ext_getElem
  · simp; omega
  · intro i h1 h2
    have h1' : i < 65 := by simpa using h1
    simp only [List.getElem_map, List.getElem_range, stackG]
    by_cases hi : i < 64
    · rw [if_pos hi, List.getElem_append_left (by simp; omega), List.getElem_map]
      simp [List.getD, List.getElem?_eq_getElem (show i < L.length by omega)]
    · rw [if_neg hi, List.getElem_append_right (by simp; omega)]
      simp
theorem row_list {w : World} {b : Nat} {t : TypeId} {n : Nat} {f : Nat → Value} (h : w.heap[b]? = some (.cells ((List.range n).map f).toArray t (0, 0))) : w.rowIs b t n f :=
  ⟨_, h, by simp, fun i hi => by simp [hi]⟩
theorem add_cell {w : World} {b off j : Nat} {v : Value} (h : w.cell? ⟨b, off + j, none⟩ = some v) : w.cell? ((⟨b, off, none⟩ : Addr).add j) = some v := by
  by_cases hz : j = 0
  · subst hz; simpa [Addr.add] using h
  · simpa [Addr.add, hz] using h
/-- Values laid over a stack's free places: what the copy comes to. -/
theorem push_copy {w : World} {b : Nat} {l : List Int} (m : List Int) (a : Option Addr) (cap d : Nat) (h : StackAt w b l) (hm : l.length + m.length ≤ 64) (h0 : 0 < m.length) (hr : IntRow .i64 w a m) (hb : ∀ x ∈ m, bound64 x) (hd : d = 64 - l.length) :
    ∃ W, (Builtin.copy_ #[23, 23] 3 #[.slice (some ⟨b, l.length, none⟩) d d, .slice a m.length cap]).run Try.prog w = .ok (.int .i64 (m.length : Nat)) W ∧ W.cell? ⟨b, 64, none⟩ = some (.int .i64 (l.length : Nat)) ∧ W.frozen? ⟨b, 64, none⟩ = false ∧
      StackTo w b (l ++ m) (W.setCell ⟨b, 64, none⟩ (.int .i64 ((l.length + m.length : Nat) : Int))) := by
  obtain ⟨r, h1, h2, h3⟩ := h
  obtain ⟨ab, off, rfl, hc⟩ := hr h0
  have hw := row_whole h2
  rw [show stackF l r = stackG (l ++ r) l.length from rfl, stack_list (l ++ r) l.length (by simp; omega)] at hw
  have hrun := run_copy_row (P := Try.prog) w 23 23 3 2 b l.length d d ⟨ab, off, none⟩ m.length cap _ 94 (m.map (Value.int .i64)) Try.underlying23 infoI64' hw (by rw [hd]; simp [Nat.min_def]; omega)
    (fun j v hv => by
      rw [List.getElem?_map] at hv
      cases hj : m[j]? with
      | none => rw [hj] at hv; simp at hv
      | some x =>
        rw [hj] at hv
        obtain ⟨hlt, rfl⟩ := List.getElem?_eq_some_iff.1 hj
        simp at hv
        rw [← hv]
        exact add_cell (hc j hlt)) (by simp; omega) (by intro v hv; simp only [List.mem_map] at hv; obtain ⟨x, -, rfl⟩ := hv; rfl)
  have hlist : ((l ++ r).map (Value.int .i64) ++ [Value.int .i64 (l.length : Nat)]).take l.length ++ m.map (Value.int .i64) ++ ((l ++ r).map (Value.int .i64) ++ [Value.int .i64 (l.length : Nat)]).drop (l.length + (m.map (Value.int .i64)).length)
      = (l ++ m ++ r.drop m.length).map (Value.int .i64) ++ [Value.int .i64 (l.length : Nat)] := by
    have e1 : ((l ++ r).map (Value.int .i64) ++ [Value.int .i64 (l.length : Nat)]).take l.length = l.map (Value.int .i64) := by
      rw [List.map_append, List.append_assoc, List.take_left' (by simp)]
    have e2 : ((l ++ r).map (Value.int .i64) ++ [Value.int .i64 (l.length : Nat)]).drop (l.length + (m.map (Value.int .i64)).length) = (r.drop m.length).map (Value.int .i64) ++ [Value.int .i64 (l.length : Nat)] := by
      rw [List.map_append, List.append_assoc, ← List.drop_drop, List.drop_left' (by simp), List.drop_append_of_le_length (by simp; omega), List.map_drop, List.length_map]
    rw [e1, e2]; simp
  have hL : (l ++ m ++ r.drop m.length).length = 64 := by simp; omega
  refine ⟨w.setRow b ((l ++ m ++ r.drop m.length).map (Value.int .i64) ++ [Value.int .i64 (l.length : Nat)]).toArray, hrun.trans ?_, ?_⟩
  · show Result.ok (goInt (m.map (Value.int .i64)).length) (w.setRow b (((l ++ r).map (Value.int .i64) ++ [Value.int .i64 (l.length : Nat)]).take l.length ++ m.map (Value.int .i64) ++ ((l ++ r).map (Value.int .i64) ++ [Value.int .i64 (l.length : Nat)]).drop (l.length + (m.map (Value.int .i64)).length)).toArray) = _
    rw [hlist, List.length_map]; rfl
  have hnew := setRow_heap w b _ ((l ++ m ++ r.drop m.length).map (Value.int .i64) ++ [Value.int .i64 (l.length : Nat)]).toArray _ _ hw
  have ht : Touch (fun k => k = b) w (w.setRow b ((l ++ m ++ r.drop m.length).map (Value.int .i64) ++ [Value.int .i64 (l.length : Nat)]).toArray) :=
    ⟨rfl, rfl, rfl, by simp [World.setRow], fun k hk hs => setRow_other w b k _ hs⟩
  generalize w.setRow b ((l ++ m ++ r.drop m.length).map (Value.int .i64) ++ [Value.int .i64 (l.length : Nat)]).toArray = W at hnew ht ⊢
  rw [← stack_list _ l.length hL] at hnew
  have hrow := row_list hnew
  refine ⟨(hrow.cell (i := 64) (by decide)).trans (by simp [stackG]), hrow.frozen 64, ⟨r.drop m.length, by simp; omega, (hrow.set 64 _).congr (fun i hi => ?_), fun x hx => ?_⟩, ht.setCell (p := ⟨b, 64, none⟩) (fun _ => rfl) _⟩
  · by_cases e : i = 64
    · subst e; simp [stackF]
    · simp only [if_neg e, stackG, stackF, if_pos (show i < 64 by omega)]
  · rcases List.mem_append.1 hx with h | h
    · exact h3 x h
    · exact hb x h
theorem push_full (b : Nat) (l m : List Int) (a : Option Addr) (cap : Nat) (w : World) (h : StackAt w b l) (hm : 64 < l.length + m.length) (hml : m.length ≤ maxLen) :
    Calls Try.prog 42 #[.pointer (some ⟨b, 0, none⟩), .slice a m.length cap] w fun r w' => r = .returned (.bool false) ∧ w = w' := by
  have hc := h.count
  have hl := h.len
  unfold maxLen at hml
  generalize l.length = n at *
  generalize m.length = k at *
  clear h
  go_enter Try.func42, Try.ntmps42
  go_wp2
  go_ret
  exact ⟨rfl, rfl⟩
theorem push_nothing (b : Nat) (l : List Int) (a : Option Addr) (cap : Nat) (w : World) (h : StackAt w b l) :
    Calls Try.prog 42 #[.pointer (some ⟨b, 0, none⟩), .slice a 0 cap] w fun r w' => r = .returned (.bool true) ∧ StackTo w b l w' := by
  have hc := h.count
  have hf := h.frozen 64
  have hl := h.len
  have HS := Lib.hid (stack_less h l.length (Nat.le_refl _))
  rw [List.take_length] at HS
  generalize l.length = n at *
  clear h
  have hcp : ∀ (d : Option Addr) (x : Nat), (Builtin.copy_ #[23, 23] 3 #[.slice d x x, .slice a 0 cap]).run Try.prog w.drew = .ok (.int .i64 0) w.drew := fun d x =>
    run_copy_none (P := Try.prog) w.drew 23 23 3 2 d a x x 0 cap Try.underlying23 infoI64' (by simp)
  by_cases hne : 64 = n
  · subst hne
    go_enter Try.func42, Try.ntmps42
    go_wp2
    go_region
    all_goals
      go_wp2
      go_ret
      exact ⟨rfl, HS.out.drew⟩
  · have hn1 : (0 : Int) ≤ (n : Int) := by omega
    have hn2 : (n : Int) ≤ 64 := by omega
    go_enter Try.func42, Try.ntmps42
    go_wp2
    go_region
    all_goals
      go_wp2
      go_ret
      exact ⟨rfl, HS.out.drew⟩
theorem push_some (b : Nat) (l m : List Int) (a : Option Addr) (cap : Nat) (w : World) (h : StackAt w b l) (hm : l.length + m.length ≤ 64) (h0 : 0 < m.length) (hr : IntRow .i64 w a m) (hb : ∀ x ∈ m, bound64 x) :
    Calls Try.prog 42 #[.pointer (some ⟨b, 0, none⟩), .slice a m.length cap] w fun r w' => r = .returned (.bool true) ∧ StackTo w b (l ++ m) w' := by
  have hc := h.count
  have hf := h.frozen 64
  have hl := h.len
  obtain ⟨W, hcp, hw1, hw2, hw3⟩ := push_copy (w := w.drew) m a cap _ (show StackAt w.drew b l from h) hm h0 hr hb rfl
  have HS := Lib.hid hw3
  clear hw3 h hr hb
  generalize l.length = n at *
  generalize m.length = k at *
  have hne : ¬ 64 = n := by omega
  have hn1 : (0 : Int) ≤ (n : Int) := by omega
  have hn2 : (n : Int) ≤ 64 := by omega
  have hk1 : decide (64 - (n : Int) < (k : Int)) = false := by simp; omega
  have HJ := Lib.hid (show (((n + k : Nat) : Int)) = (n : Int) + (k : Int) by omega)
  rw [HJ.out] at HS
  go_enter Try.func42, Try.ntmps42
  go_wp2
  go_region
  all_goals
    go_wp2
    go_ret
    exact ⟨rfl, HS.out.1, HS.out.2.drew0⟩
end Go.Proofs.Ytmghhigepjeicaa
