/-
  Rows of whole numbers that a call makes: what is put behind them, and copies.
-/
import Derived.Test.YtmghhigepjeicaaStack
import Derived.Test.YtmghhigepjeicaaAppend
import Derived.Laws.IdiomStrings
import Derived.Deep.RegionWith
import Derived.Lib.SliceRun
namespace Go.Proofs.Ytmghhigepjeicaa
open Go.RowKit
set_option linter.unusedVariables false

def intCells (l : List Int) : List Value := l.map (Value.int .i64)
theorem intCells_len (l : List Int) : (intCells l).length = l.length * 1 := by simp [intCells]
theorem intCells_append (l m : List Int) : intCells (l ++ m) = intCells l ++ intCells m := by simp [intCells]
theorem infoNum : (Try.prog.info? 2).map (fun i => (i.zero, i.size, i.bytes)) = some (some (.int .i64 0), 1, 8) := by kernel_rfl
theorem info_num {P : Program} {t : TypeId} {z : Value} {a b : Nat} (h : (P.info? t).map (fun i => (i.zero, i.size, i.bytes)) = some (some z, a, b)) : ∃ i, P.info? t = some i ∧ i.zero = some z ∧ i.size = a ∧ i.bytes = b := by
  cases hi : P.info? t with
  | none => rw [hi] at h; simp at h
  | some i => rw [hi] at h; simp at h; exact ⟨i, rfl, h.1, h.2.1, h.2.2⟩
theorem own_slice1 {w : World} {base : Nat} {e : TypeId} {size : Nat} {v : Value} {n : Nat} {xs : List Value} (h : w.ownsRow base e size v n xs) : ∃ a c, v = .slice a n c := by
  rcases h.2 with ⟨hv, h0⟩ | ⟨g, cap, cur, hv, -⟩
  · exact ⟨none, 0, by rw [hv, h0]⟩
  · exact ⟨_, cap, hv⟩
/-- Numbers put behind a row of the call's own, from wherever they lie. -/
theorem int_append {w : World} {v : Value} {n : Nat} {l m : List Int} (hown : w.ownsRow 0 2 1 v n (intCells l)) (a : Option Addr) (c : Nat) (hr : IntRow .i64 w a m) (hn : a = none → m = []) (hl : n + m.length ≤ 1000000) :
    ∃ v' w', (Builtin.append_ #[23, 23] 23 #[v, .slice a m.length c]).run Try.prog w = .ok v' w' ∧ w'.ownsRow 0 2 1 v' (n + m.length) (intCells (l ++ m)) ∧ w.grownBy w' v.ownBlock ∧
      (∀ k, v'.ownBlock = some k → v.ownBlock = some k ∨ w.heap.size ≤ k) := by
  obtain ⟨i0, hi, hz0, hz1, hz2⟩ := info_num infoNum
  cases a with
  | none =>
    have := hn rfl
    subst this
    have hrun : (Builtin.append_ #[23, 23] 23 #[v, .slice none 0 c]).run Try.prog w = .ok v w := by
      rcases hown.2 with ⟨rfl, rfl⟩ | ⟨g, cap, cur, rfl, _, _, hnc, _⟩
      · simp [Builtin.append_, run_underlying Try.underlying23, sizeOf, typeInfo, hi, Builtin.lenOf, Builtin.firstCells]
      · simp [Builtin.append_, run_underlying Try.underlying23, sizeOf, typeInfo, hi, Builtin.lenOf, Builtin.firstCells, hnc, storeCells]
    exact ⟨v, w, hrun, by simpa using hown, ⟨rfl, rfl, rfl, Nat.le_refl _, fun _ _ _ => rfl⟩, fun k hk => .inl hk⟩
  | some x =>
    have hcells : ∀ j u, (intCells m)[j]? = some u → w.cell? (x.add j) = some u := by
      intro j u hu
      unfold intCells at hu
      rw [List.getElem?_map] at hu
      cases hj : m[j]? with
      | none => rw [hj] at hu; simp at hu
      | some y =>
        rw [hj] at hu
        obtain ⟨hlt, rfl⟩ := List.getElem?_eq_some_iff.1 hj
        simp at hu
        rw [← hu]
        obtain ⟨b, off, e, hc⟩ := hr (by omega)
        cases e
        exact add_cell (hc j hlt)
    have := append_exact (P := Try.prog) w 23 23 2 i0 _ 1 8 Try.underlying23 hi hz0 hz1 hz2 rfl (by decide) v n (intCells l) hown x m.length c (intCells m) (intCells_len m) hcells (by intro v hv; simp only [intCells, List.mem_map] at hv; obtain ⟨x, -, rfl⟩ := hv; rfl) (by unfold maxLen; omega) (by omega)
    rw [← intCells_append] at this
    exact this
theorem own_ints {w : World} {base n : Nat} {a : Option Addr} {c : Nat} {l : List Int} (h : w.ownsRow base 2 1 (.slice a n c) l.length (intCells l)) : IntRow .i64 w a l := by
  intro h0
  rcases h.2 with ⟨hv, e⟩ | ⟨g, cap, cur, hv, -⟩
  · omega
  · cases hv
    refine ⟨g, 0, rfl, fun i hi => ?_⟩
    have := h.cells (g := g) rfl i (.int .i64 l[i]) (by simp [intCells, hi])
    exact cell_addN this
/-- A row of numbers that none had before. -/
def NewInts (w : World) (a : Option Addr) (n c : Nat) (l : List Int) (w' : World) : Prop :=
  w'.ownsRow 0 2 1 (.slice a n c) n (intCells l) ∧ n = l.length ∧ (∀ x, a = some x → w.heap.size ≤ x.block) ∧ Below w.heap.size w w'
theorem NewInts.row {w w' : World} {a : Option Addr} {n c : Nat} {l : List Int} (h : NewInts w a n c l w') : IntRow .i64 w' a l := by
  obtain ⟨h1, rfl, -⟩ := h; exact own_ints h1
def CloneInts (w : World) (l : List Int) (e : Ending) (w' : World) : Prop := ∃ a c, e = .returned (.slice a l.length c) ∧ NewInts w a l.length c l w'
theorem cloneInts_any (x : Addr) (cap : Nat) (l : List Int) (w : World) (hl : l.length ≤ 100000) (hr : IntRow .i64 w (some x) l) :
    Calls Try.prog 66 #[.slice (some x) l.length cap] w (CloneInts w l) := by
  have hq : ∀ (w : World) (a : Option Addr) (n c n' c' : Nat), (binOp .eql 23 (.slice a n c) (.slice none n' c')).run Try.prog w = .ok (.bool a.isNone) w := fun w a n c n' c' => Lib.run_eql_slice_nil w _ _ a n c n' c' Try.underlying23
  have hw1 : (w.alloc (.cells #[] 2)).ownsRow 0 2 1 (.slice (some ⟨w.heap.size, 0, none⟩) 0 0) 0 (intCells []) := World.ownsRow_made w #[] 0 (Nat.zero_le _) (by decide) rfl
  obtain ⟨v', w', hrun, hown, hg, hf⟩ := int_append hw1 (some x) cap (hr.below ((Below.refl _ w).alloc (Nat.le_refl _) _)) (fun h => by cases h) (by omega)
  obtain ⟨a', c', rfl⟩ := own_slice1 hown
  rw [Nat.zero_add] at hown hrun hf
  have hb : Below w.heap.size w w' := ((Below.refl _ w).alloc (Nat.le_refl _) _).trans ((touch_grown hg).below (by simp) (fun k hk h => by simp [Value.ownBlock] at h; omega))
  have HP := Lib.hid (show NewInts w a' l.length c' l w' from ⟨by simpa using hown, rfl, fun y hy => by
    subst hy
    rcases hf y.block (by simp [Value.ownBlock]) with h | h
    · simp [Value.ownBlock] at h; omega
    · simp at h; omega, hb⟩)
  have HR := Lib.hid hrun
  clear hown hg hf hb hrun hw1 hr
  go_enter Try.func66, Try.ntmps66
  go_wp2_with (at_builtin; refine wpList_append_run _ rfl (.tmp 5) (.tmp 6) 23 23 rfl _ _ rfl rfl (.slice a' l.length c') w' HR.out ?_)
  go_ret
  exact ⟨a', c', by simp, HP.out⟩
/-- What Take answers and leaves. -/
def TakePost (w : World) (b : Nat) (l m : List Int) (e : Ending) (w' : World) : Prop := ∃ a c, e = .returned (.tuple #[.slice a m.length c, .bool true]) ∧ IntRow .i64 w' a m ∧ (∀ x, a = some x → w.heap.size ≤ x.block) ∧ StackTo w b l w'
theorem take_no (b : Nat) (l : List Int) (n : Int) (w : World) (h : StackAt w b l) (hn : n < 0 ∨ (l.length : Int) < n) :
    Calls Try.prog 43 #[.pointer (some ⟨b, 0, none⟩), .int .i64 n] w fun r w' => r = .returned (.tuple #[.slice none 0 0, .bool false]) ∧ w = w' := by
  have hc := h.count
  rcases hn with hn | hn
  · go_enter Try.func43, Try.ntmps43
    go_wp2
    go_ret2
    exact ⟨rfl, rfl⟩
  · go_enter Try.func43, Try.ntmps43
    go_wp2
    go_ret2
    exact ⟨rfl, rfl⟩
theorem StackAt.row {w : World} {b : Nat} {l m : List Int} (h : StackAt w b (l ++ m)) : IntRow .i64 w (some ⟨b, l.length, none⟩) m := by
  intro h0
  refine ⟨b, l.length, rfl, fun i hi => ?_⟩
  rw [h.value (l.length + i) (by simp; omega)]
  simp
set_option maxRecDepth 100000 in
set_option maxHeartbeats 2000000 in
theorem take_some (b : Nat) (l m : List Int) (w : World) (h : StackAt w b (l ++ m)) :
    Calls Try.prog 43 #[.pointer (some ⟨b, 0, none⟩), .int .i64 (m.length : Nat)] w (TakePost w b l m) := by
  have HH := Lib.hid h
  have hc := h.count
  have hlen := h.len
  have hr := h.row
  rw [List.length_append] at hc hlen
  have HL := Lib.hid (show ∀ a c (w2 : World), NewInts w a m.length c m w2 → IntRow .i64 (w2.setCell ⟨b, 64, none⟩ (.int .i64 (l.length : Nat))) a m ∧ (∀ x, a = some x → w.heap.size ≤ x.block) ∧ StackTo w b l (w2.setCell ⟨b, 64, none⟩ (.int .i64 (l.length : Nat))) from fun a c w2 hw2 => by
    have h1 := HH.out.below hw2.2.2.2
    have h2 := stack_less h1 l.length (by simp)
    rw [List.take_left'] at h2
    · exact ⟨hw2.row.touch h2.2 (fun x hx e => by have := hw2.2.2.1 x hx; have := HH.out.lt; omega), hw2.2.2.1, h2.1, (touch_of_below hw2.2.2.2).trans h2.2⟩
    · rfl)
  have HR := Lib.hid hr
  have hml : m.length ≤ 100000 := by omega
  generalize hcc : l.length + m.length = c at hc hlen
  have HCC := Lib.hid hcc
  clear hcc hr
  have HC := Lib.hid (show ∀ cap, Calls Try.prog 66 #[.slice (some ⟨b, l.length, none⟩) (c - l.length) cap] w.drew (CloneInts w.drew m) from fun cap => by rw [show c - l.length = m.length by have := HCC.out; omega]; exact cloneInts_any _ cap m w.drew hml HR.out)
  have HK := Lib.hid (show ∀ a c' (w2 : World), NewInts w.drew a m.length c' m w2 → w2.cell? ⟨b, 64, none⟩ = some (.int .i64 (c : Nat)) ∧ w2.frozen? ⟨b, 64, none⟩ = false from fun a c' w2 hw2 => ⟨(hw2.2.2.2.cell (p := ⟨b, 64, none⟩) HH.out.lt).trans hc, (hw2.2.2.2.frozen (p := ⟨b, 64, none⟩) HH.out.lt).trans (HH.out.frozen 64)⟩)
  have HX := Lib.hid (show ∀ a c (w2 : World), NewInts w.drew a m.length c m w2 → NewInts w a m.length c m w2 from fun a c w2 h => ⟨h.1, h.2.1, h.2.2.1, h.2.2.2.os, h.2.2.2.tape, h.2.2.2.output, h.2.2.2.size, h.2.2.2.block⟩)
  have HSUB := Lib.hid (show IntKind.i64.wrap ((c : Int) - (m.length : Int)) = (l.length : Int) by rw [IntKind.wrap_i64]; have := HCC.out; omega)
  have HSUB' := Lib.hid (show (c : Int) - (m.length : Int) = (l.length : Int) by have := HCC.out; omega)
  have hi0 : (m.length : Int) ≤ (c : Int) := by have := HCC.out; omega
  have hi1 : (0 : Int) ≤ (l.length : Int) := by omega
  have hi2 : (l.length : Int) ≤ (c : Int) := by have := HCC.out; omega
  have hi3 : (c : Int) ≤ 64 := by omega
  clear h
  generalize l.length = k at *
  by_cases hne : 64 = k
  · obtain rfl : m = [] := List.eq_nil_of_length_eq_zero (by have := HCC.out; omega)
    obtain rfl : c = 64 := by have := HCC.out; simp at this; omega
    subst hne
    clear HC HR
    have HC := Lib.hid (show ∀ x cap, Calls Try.prog 66 #[.slice (some x) 0 cap] w.drew (CloneInts w.drew []) from fun x cap => cloneInts_any x cap [] w.drew (by simp) (fun h => by simp at h))
    clear HSUB HSUB' hi0 hi1 hi2 hi3 HCC hml hlen
    simp only [List.length_nil] at HK HX HL
    have hsub : IntKind.i64.wrap ((64 : Int) - 0) = 64 := by decide
    have hsub' : IntKind.i64.wrap (64 : Int) = 64 := by decide
    go_enter Try.func43, Try.ntmps43
    go_wp2_with fail
    go_region_with (go_at_call 66; (with_reducible refine (HC.out _ _).mono ?_); rintro r w2 ⟨a2, c2, rfl, hw2⟩; obtain ⟨g1, g2⟩ := HK.out _ _ _ hw2; have HW2 := Lib.hid (HX.out _ _ _ hw2); clear hw2)
    all_goals
      go_wp2
      go_ret2
      exact ⟨a2, c2, rfl, HL.out a2 c2 w2 HW2.out⟩
  · have hsub := HSUB.out
    go_enter Try.func43, Try.ntmps43
    go_wp2_with fail
    go_region_with (go_at_call 66; (with_reducible refine (HC.out _).mono ?_); rintro r w2 ⟨a2, c2, rfl, hw2⟩; obtain ⟨g1, g2⟩ := HK.out _ _ _ hw2; have HW2 := Lib.hid (HX.out _ _ _ hw2); clear hw2)
    all_goals
      go_wp2
      go_ret2
      exact ⟨a2, c2, rfl, HL.out a2 c2 w2 HW2.out⟩
end Go.Proofs.Ytmghhigepjeicaa
