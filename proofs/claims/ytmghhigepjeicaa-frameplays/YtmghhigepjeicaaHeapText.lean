/-
  A heap's bytes.
-/
import Derived.Test.YtmghhigepjeicaaHeap
import Derived.Deep.RegionWith
import Derived.Deep.Cut
namespace Go.Proofs.Ytmghhigepjeicaa
open Go.RowKit
set_option linter.unusedVariables false

theorem OutIn.drew {w0 w : World} {b : Nat} {l : List UInt8} (h : OutIn w0 b l w) : OutIn w0 b l w.drew := h.below ⟨rfl, rfl, rfl, Nat.le_refl _, fun _ _ => rfl⟩
theorem IntRow.down {k : IntKind} {w w' : World} {a : Option Addr} {ns : List Int} {B : Nat} (h : IntRow k w a ns) (hb : Below B w w') (ha : ∀ x, a = some x → x.block < B) : IntRow k w' a ns := by
  intro h0
  obtain ⟨b, off, rfl, hc⟩ := h h0
  exact ⟨b, off, rfl, fun i hi => by rw [hb.cell (p := ⟨b, off + i, none⟩) (show b < B from ha ⟨b, off, none⟩ rfl)]; exact hc i hi⟩
/-- Whole numbers put behind, out of a list that was there when the call began. -/
theorem outInt_old (w0 : World) (b : Nat) (l : List UInt8) (a : Option Addr) (n cap : Nat) (ns : List Int) (w : World) (h : OutIn w0 b l w) (hn : n = ns.length)
    (hl : l.length + 10 * ns.length ≤ 1000000000) (hns : ∀ x ∈ ns, -9223372036854775808 ≤ x ∧ x ≤ 9223372036854775807) (hr : IntRow .i64 w0 a ns) (ha : ∀ x, a = some x → x.block < w0.heap.size) :
    Calls Try.prog 57 #[.pointer (some ⟨b, 0, none⟩), .slice a n cap] w fun r w' => r = .returned (.pointer (some ⟨b, 0, none⟩)) ∧ OutIn w0 b (l ++ intsB ns) w' := by
  subst hn
  obtain ⟨v, h1, h2, h3, h4⟩ := h
  refine (outInt_any b v l a cap ns _ h1 hl hns (hr.down h4 ha) (fun y hy => ⟨fun e => ?_, fun e => ?_⟩)).mono ?_
  · have := ha y hy; omega
  · have := ha y hy; have := h3 _ e; omega
  · rintro r w' ⟨rfl, ho⟩
    exact ⟨rfl, OutIn.step (l := l) h2 h3 h4 ho⟩
theorem HeapAt.row {w : World} {b : Nat} {l : List Int} (h : HeapAt w b l) (n : Nat) : IntRow .i64 w (some ⟨b, 0, none⟩) (l.take n) := by
  intro h0
  refine ⟨b, 0, rfl, fun i hi => ?_⟩
  have hi' : i < l.length := by simp at hi; omega
  rw [Nat.zero_add, h.2.1 i hi', List.getElem_take]
set_option maxRecDepth 100000 in
theorem heapText_any (b : Nat) (l : List Int) (w : World) (h : HeapAt w b l) :
    Calls Try.prog 34 #[.pointer (some ⟨b, 0, none⟩)] w fun r w' => r = .returned (.string (bs (heapB l))) ∧ Below w.heap.size w w' := by
  have HU := Lib.hid (used_any b l w h)
  have hn := usedN_le l
  have hl := h.1
  have HR := Lib.hid (h.row (usedN l))
  have HB := Lib.hid (show heapB l = [] ++ countsB [(usedN l : Int)] ++ intsB (l.take (usedN l)) by simp [heapB, countsB, numsB])
  have HX := Lib.hid (show ∀ x ∈ l.take (usedN l), -9223372036854775808 ≤ x ∧ x ≤ 9223372036854775807 from fun x hx => h.2.2.2 x (List.mem_of_mem_take hx))
  have HN := Lib.hid (show (l.take (usedN l)).length = usedN l by simp; omega)
  have hlt := h.lt
  have hc0 := h.cell 0 (by decide)
  generalize usedN l = n at *
  generalize l.getD 0 0 = c0 at hc0
  have hn64 : n ≤ 64 := by omega
  clear h hl hn
  have HO := Lib.hid (OutIn.start (Below.refl w.heap.size w) 90)
  have HZ := Lib.hid (show (w.alloc (.cells #[.slice none 0 0] 90)).heap.size = w.heap.size + 1 by simp)
  go_enter Try.func34, Try.ntmps34
  go_wp2_with fail
  refine HU.out.mono ?_
  rintro r w1 ⟨rfl, rfl⟩
  go_upto_region 3 with (fail)
  have hc1 : (w.alloc (.cells #[.slice none 0 0] 90)).cell? ⟨b, 0, none⟩ = some (.int .i64 c0) := (((Below.refl _ w).alloc (Nat.le_refl _) _).cell (p := ⟨b, 0, none⟩) hlt).trans hc0
  generalize w.alloc (.cells #[.slice none 0 0] 90) = W at HO HZ hc1 ⊢
  have HC1 := Lib.hid (show Calls Try.prog 56 #[.pointer (some ⟨w.heap.size, 0, none⟩), .slice (some ⟨W.heap.size, 0, none⟩) 1 1] (W.alloc (.cells #[.int .i64 (n : Int)] 3)).drew (fun r w' => r = .returned (.pointer (some ⟨w.heap.size, 0, none⟩)) ∧ OutIn w w.heap.size ([] ++ countsB [(n : Int)]) w') from
    outCount_in w w.heap.size [] [(n : Int)] _ 1 1 W.drew HO.out.drew rfl rfl (by simp) (by intro x hx; simp at hx; omega))
  have HCL := Lib.hid (show ([] ++ countsB [(n : Int)]).length ≤ 10 by have := numsB_len [n] (by intro x hx; simp at hx; omega); simpa [countsB] using this)
  generalize [] ++ countsB [(n : Int)] = m at HC1 HCL HB
  have hi1 : (0 : Int) ≤ (n : Int) := by omega
  have hi2 : (n : Int) ≤ 64 := by omega
  go_region_with (first
    | (go_at_call 56; (with_reducible refine HC1.out.mono ?_); rintro r w1 ⟨rfl, ho⟩; have HO1 := Lib.hid ho; clear ho)
    | (go_at_call 57; (with_reducible refine (outInt_old w w.heap.size m (some ⟨b, 0, none⟩) n 64 (l.take n) _ HO1.out HN.out.symm ?_ HX.out HR.out ?_).mono ?_); (rw [HN.out]; have := HCL.out; omega); (intro x hx; cases hx; exact hlt); rintro r w2 ⟨rfl, ho⟩; have HO2 := Lib.hid ho; clear ho)
    | (go_at_call 49; (with_reducible refine (outText_in w _ _ _ HO2.out).mono ?_); rintro r w3 ⟨rfl, rfl⟩))
  all_goals
    go_wp2
    go_ret
    exact ⟨by rw [HB.out]; rfl, HO2.out.bel⟩
end Go.Proofs.Ytmghhigepjeicaa
