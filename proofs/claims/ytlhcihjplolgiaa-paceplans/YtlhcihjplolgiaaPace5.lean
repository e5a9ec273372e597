/-
  Layer 17: a plan as it lies; Begin, Last, and which pace is a turn's.
-/
import Derived.Test.YtlhcihjplolgiaaChunk1
import Derived.Test.YtlhcihjplolgiaaWin9
import Derived.Laws.OwnMore
namespace Go.Proofs.Ytlhcihjplolgiaa
open Go.RowKit
set_option linter.unusedVariables false

structure Sp where
  f : Int
  t : Int
  d : Int
def spC (x : Sp) : List Value := [.int .i64 x.f, .int .i64 x.t, .int .i64 x.d]
theorem sp_wide (l : List Sp) : VWide 3 (l.map spC) := by
  intro x hx
  obtain ⟨p, -, rfl⟩ := List.mem_map.1 hx
  refine ⟨rfl, fun u hu => ?_⟩
  simp only [spC, List.mem_cons, List.not_mem_nil, or_false] at hu
  rcases hu with rfl | rfl | rfl <;> rfl
theorem spTy : VTy 168 3 (.agg #[.int .i64 0, .int .i64 0, .int .i64 0]) 24 := ⟨by kernel_rfl, rfl, by decide, by decide⟩
theorem own_isg {e : TypeId} {k B c : Nat} {a : Option Addr} {w : World} {ls : List (List Value)} (h : OwnV e k B a c ls w) (h0 : 0 < ls.length) : ∃ g, a = some ⟨g, 0, none⟩ := by
  rcases h.1.2 with ⟨-, h1⟩ | ⟨g, cap, cur, hv, -⟩
  · omega
  · simp only [Value.slice.injEq] at hv
    exact ⟨g, hv.1⟩
/-- A plan, at b: the row of its paces. -/
structure PlanAt (w : World) (b : Nat) (a : Option Addr) (c : Nat) (l : List Sp) : Prop where
  c0 : w.cell? ⟨b, 0, none⟩ = some (.slice a l.length c)
  f0 : w.frozen? ⟨b, 0, none⟩ = false
  row : OwnV 168 3 0 a c (l.map spC) w
  ne : ∀ x, a = some x → x.block ≠ b
  few : l.length ≤ 1000
  pos : 0 < l.length
theorem PlanAt.lt {w : World} {b : Nat} {a : Option Addr} {c : Nat} {l : List Sp} (h : PlanAt w b a c l) : b < w.heap.size := block_lt_of_cell h.c0
theorem PlanAt.touch {S : Nat → Prop} {w w' : World} {b : Nat} {a : Option Addr} {c : Nat} {l : List Sp} (h : PlanAt w b a c l) (ht : Touch S w w') (hb : ¬ S b) (ha : ∀ x, a = some x → ¬ S x.block) : PlanAt w' b a c l :=
  ⟨(ht.cell (p := ⟨b, 0, none⟩) h.lt hb).trans h.c0, (ht.frozen (p := ⟨b, 0, none⟩) h.lt hb).trans h.f0, h.row.touch ht ha, h.ne, h.few, h.pos⟩
theorem PlanAt.keep {w w' : World} {b : Nat} {a : Option Addr} {c : Nat} {l : List Sp} (h : PlanAt w b a c l) (hb : Below w.heap.size w w') : PlanAt w' b a c l := h.touch (touch_of_below (S := fun _ => False) hb) id (fun _ _ => id)
theorem PlanAt.at {w : World} {b : Nat} {a : Option Addr} {c : Nat} {l : List Sp} (h : PlanAt w b a c l) {k : Nat} (hk : k < l.length) : ∃ g, a = some ⟨g, 0, none⟩ ∧ g < w.heap.size ∧ w.cell? ⟨g, k * 3, none⟩ = some (.int .i64 l[k].f) ∧ w.cell? ⟨g, k * 3 + 1, none⟩ = some (.int .i64 l[k].t) ∧ w.cell? ⟨g, k * 3 + 2, none⟩ = some (.int .i64 l[k].d) := by
  have hlen : (l.map spC).length = l.length := by simp
  obtain ⟨g, hg⟩ := own_isg h.row (by rw [hlen]; exact h.pos)
  obtain ⟨b', off, e1, hc⟩ := h.row.row (sp_wide l) (by rw [hlen]; exact h.pos)
  rw [hg] at e1
  simp only [Option.some.injEq, Addr.mk.injEq] at e1
  obtain ⟨rfl, rfl, -⟩ := e1
  have hx : ∀ j, j < 3 → w.cell? ⟨g, k * 3 + j, none⟩ = (spC l[k])[j]? := fun j hj => by
    have := hc k (by rw [hlen]; exact hk) j hj
    rw [Nat.zero_add] at this
    rw [this]; simp
  have h0 : w.cell? ⟨g, k * 3, none⟩ = some (.int .i64 l[k].f) := hx 0 (by decide)
  exact ⟨g, hg, block_lt_of_cell h0, h0, hx 1 (by decide), hx 2 (by decide)⟩
def BeginPost (t d : Int) (w : World) (r : Ending) (w' : World) : Prop :=
  (mayP t d = true ∧ ∃ b a c, r = .returned (.tuple #[.pointer (some ⟨b, 0, none⟩), .int .i64 0]) ∧ PlanAt w' b a c [⟨0, t, d⟩] ∧ w.heap.size ≤ b ∧ (∀ x, a = some x → w.heap.size ≤ x.block) ∧ Below w.heap.size w w') ∨ (mayP t d = false ∧ r = .returned (.tuple #[.pointer none, .int .i64 4]) ∧ Below w.heap.size w w')
theorem begin_plan (t d : Int) (w W : World) (hb : Below w.heap.size w W) (hm : mayP t d = true) : BeginPost t d w (.returned (.tuple #[.pointer (some ⟨W.heap.size + 1, 0, none⟩), .int .i64 0])) ((W.alloc (.cells #[.int .i64 0, .int .i64 t, .int .i64 d] 168)).alloc (.cells #[.slice (some ⟨W.heap.size, 0, none⟩) 1 1] 171)) := by
  have hsz := hb.size
  have e1 : (W.alloc (.cells #[.int .i64 0, .int .i64 t, .int .i64 d] 168)).heap.size = W.heap.size + 1 := by simp
  refine .inl ⟨hm, W.heap.size + 1, some ⟨W.heap.size, 0, none⟩, 1, rfl, ⟨new_cell e1.symm rfl, ?_, ⟨?_, fun _ _ => Nat.zero_le _⟩, fun x hx => by cases hx; simp, by simp, by simp⟩, by omega, fun x hx => by cases hx; exact hsz, bel_alloc (bel_alloc hb _) _⟩
  · rw [← e1]; exact frozen_new _ _ _ _
  · exact (World.ownsRow_lit (base := 0) (e := 168) (size := 3) W #[.int .i64 0, .int .i64 t, .int .i64 d] 1 (Nat.zero_le _) (by unfold maxLen; omega) rfl).alloc _
set_option maxRecDepth 100000 in
set_option maxHeartbeats 1000000 in
theorem begin17_any (t d : Int) (w : World) : Calls Try.prog 53 #[.agg #[.int .i64 t, .int .i64 d]] w (BeginPost t d w) := by
  have HCK := Lib.hid (fun W => pcheck17_any t d W)
  cases hm : mayP t d with
  | true =>
    have HF := Lib.hid (fun W hb => begin_plan t d w W hb hm)
    rw [hm] at HCK
    simp only [if_true] at HCK
    generalize BeginPost t d w = Post at HF ⊢
    clear hm
    go_enter Try.func53, Try.ntmps53
    go_wp2_with fail
    refine (HCK.out _).mono ?_
    rintro r w2 ⟨rfl, rfl⟩
    have HB := Lib.hid (show Below w.heap.size w ((w.alloc (.cells #[.int .i64 t, .int .i64 d] 82)).alloc (.cells #[.int .i64 t, .int .i64 d] 82)) from bel_alloc (bel_alloc (Below.refl _ _) _) _)
    have x0 : ((w.alloc (.cells #[.int .i64 t, .int .i64 d] 82)).alloc (.cells #[.int .i64 t, .int .i64 d] 82)).cell? ⟨w.heap.size, 0, none⟩ = some (.int .i64 t) := alloc_cell (new_cell rfl rfl) _
    have x1 : ((w.alloc (.cells #[.int .i64 t, .int .i64 d] 82)).alloc (.cells #[.int .i64 t, .int .i64 d] 82)).cell? ⟨w.heap.size, 1, none⟩ = some (.int .i64 d) := alloc_cell (new_cell rfl rfl) _
    generalize (w.alloc (.cells #[.int .i64 t, .int .i64 d] 82)).alloc (.cells #[.int .i64 t, .int .i64 d] 82) = W at HB x0 x1 ⊢
    have HFW := Lib.hid (HF.out W HB.out)
    clear HF
    go_wp2
    exact HFW.out
  | false =>
    have HF : Hid (∀ W, Below w.heap.size w W → BeginPost t d w (.returned (.tuple #[.pointer none, .int .i64 4])) W) := Lib.hid (fun W hb => .inr ⟨hm, rfl, hb⟩)
    rw [hm] at HCK
    simp only [Bool.false_eq_true, if_false] at HCK
    generalize BeginPost t d w = Post at HF ⊢
    clear hm
    go_enter Try.func53, Try.ntmps53
    go_wp2_with fail
    refine (HCK.out _).mono ?_
    rintro r w2 ⟨rfl, rfl⟩
    go_wp2
    exact HF.out _ (bel_alloc (bel_alloc (Below.refl _ _) _) _)
set_option maxRecDepth 100000 in
theorem last17_any (b : Nat) (a : Option Addr) (c : Nat) (l : List Sp) (w : World) (h : PlanAt w b a c l) : Calls Try.prog 58 #[.pointer (some ⟨b, 0, none⟩)] w fun r w' => r = .returned (.int .i64 (l[l.length - 1]'(by have := h.pos; omega)).f) ∧ ∃ m, w' = w.drewN m := by
  have hs := h.pos
  have hf := h.few
  obtain ⟨g, rfl, hg, d0, -, -⟩ := h.at (k := l.length - 1) (by omega)
  have c0 := h.c0
  have hbl := h.lt
  generalize (l[l.length - 1]'(by omega)).f = v at d0 ⊢
  obtain ⟨n, hn⟩ : ∃ n, l.length = n + 1 := ⟨l.length - 1, by omega⟩
  rw [hn] at c0 d0 hf
  simp only [Nat.add_sub_cancel] at d0
  clear h hn hs
  have i0 : (0 : Int) ≤ (n : Int) := by omega
  have i1 : (n : Int) ≤ 1000 := by omega
  have hw1 : IntKind.i64.wrap ((n : Int) + 1 - 1) = (n : Int) := by rw [IntKind.wrap_i64]; omega
  have hw2 : IntKind.i64.wrap (((n + 1 : Nat) : Int) - 1) = (n : Int) := by rw [IntKind.wrap_i64]; omega
  have hw3 : IntKind.i64.wrap (n : Int) = (n : Int) := by rw [IntKind.wrap_i64]; omega
  go_enter Try.func58, Try.ntmps58
  go_wp2
  go_quiet (fail)
  go_wp2
  go_ret
  exact ⟨rfl, _, rfl⟩
end Go.Proofs.Ytlhcihjplolgiaa
