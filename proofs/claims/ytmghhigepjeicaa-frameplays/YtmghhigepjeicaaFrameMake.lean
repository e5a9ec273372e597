/-
  A call's frame, made.
-/
import Derived.Test.YtmghhigepjeicaaFrame
import Derived.Deep.Cut
namespace Go.Proofs.Ytmghhigepjeicaa
open Go.RowKit
set_option linter.unusedVariables false

/-- How many locals there are. -/
def localsN (x : Int) : Nat := (min (max x 0) 16).toNat
/-- The locals of a call: the arguments first. -/
def localsV (x : Int) (args : List Int) : List Int := (List.range (localsN x)).map fun i => args.getD i 0
theorem localsV_len (x : Int) (args : List Int) : (localsV x args).length = localsN x := by simp [localsV]
theorem localsN_le (x : Int) : localsN x ≤ 16 := by unfold localsN; omega
theorem localsV_get (x : Int) (args : List Int) (i : Nat) (h : i < localsN x) : (localsV x args).getD i 0 = args.getD i 0 := by
  simp [localsV, List.getD, h]
/-- Arguments laid over new locals: what the copy comes to. -/
theorem make_copy {w : World} {c n : Nat} (args : List Int) (a : Option Addr) (cap : Nat) (h : w.rowIs c 2 n (fun _ => .int .i64 0)) (hr : IntRow .i64 w a args) :
    ∃ k W, (Builtin.copy_ #[23, 23] 3 #[.slice (some ⟨c, 0, none⟩) n n, .slice a args.length cap]).run Try.prog w = .ok (.int .i64 (k : Nat)) W ∧ W.rowIs c 2 n (fun i => .int .i64 (args.getD i 0)) ∧ Touch (fun j => j = c) w W := by
  by_cases h0 : Nat.min args.length n = 0
  · refine ⟨0, w, run_copy_none (P := Try.prog) w _ _ _ 2 _ _ _ _ _ _ Try.underlying23 infoI64' h0, h.congr (fun i hi => ?_), Touch.refl _ _⟩
    have : args = [] := List.eq_nil_of_length_eq_zero (by simp only [Nat.min_def] at h0; split at h0 <;> omega)
    subst this
    simp
  · have hpos : 0 < args.length := by simp only [Nat.min_def] at h0; split at h0 <;> omega
    obtain ⟨ab, off, rfl, hc⟩ := hr hpos
    have hw := row_whole h
    have hrun := run_copy_row (P := Try.prog) w 23 23 3 2 c 0 n n ⟨ab, off, none⟩ args.length cap _ 2 ((args.take n).map (Value.int .i64)) Try.underlying23 infoI64' hw (by simp; exact Nat.min_comm _ _)
      (fun j v hv => by
        rw [List.getElem?_map] at hv
        cases hj : (args.take n)[j]? with
        | none => rw [hj] at hv; simp at hv
        | some x =>
          rw [hj] at hv
          obtain ⟨hlt, rfl⟩ := List.getElem?_eq_some_iff.1 hj
          simp at hv
          rw [← hv]
          exact add_cell (hc j (by simp at hlt; omega))) (by simp; omega) (by intro v hv; simp only [List.mem_map] at hv; obtain ⟨x, -, rfl⟩ := hv; rfl)
    refine ⟨_, _, hrun, ?_, ⟨rfl, rfl, rfl, by simp [World.setRow], fun k hk hs => setRow_other w c k _ hs⟩⟩
    refine ⟨_, setRow_heap w c _ _ _ _ hw, ?_, fun i hi => ?_⟩
    · simp; omega
    · simp only [List.take_zero, List.nil_append, Nat.zero_add, List.getElem?_toArray, List.getElem?_append, List.length_map, List.length_take]
      by_cases hi2 : i < args.length
      · rw [if_pos (by omega), List.getElem?_map, List.getElem?_take, if_pos hi]
        simp [List.getD, List.getElem?_eq_getElem hi2]
      · rw [if_neg (by omega)]
        simp only [List.getElem?_drop, List.getElem?_map, List.getD, List.getElem?_eq_none (show args.length ≤ i by omega)]
        rw [List.getElem?_range (by omega)]
        simp
theorem zero_stack : Try.zeroCells94 = ((List.replicate 65 0).map (Value.int .i64)).toArray := by kernel_rfl
/-- The blocks of a new frame, ahead of the arguments. -/
theorem make_world (w : World) (n : Nat) (fn : Int) (W : World) (hW : W = ((w.alloc (.cells Try.zeroCells94 94)).alloc (.cells (madeCells #[.int .i64 0] n) 2)).alloc (.cells #[.pointer (some ⟨w.heap.size, 0, none⟩), .int .i64 fn, .int .i64 0, .slice (some ⟨w.heap.size + 1, 0, none⟩) n n] 54)) :
    StackAt W w.heap.size [] ∧ W.rowIs (w.heap.size + 1) 2 n (fun _ => .int .i64 0) ∧ W.cell? ⟨w.heap.size + 2, 0, none⟩ = some (.pointer (some ⟨w.heap.size, 0, none⟩)) ∧ W.cell? ⟨w.heap.size + 2, 1, none⟩ = some (.int .i64 fn) ∧ W.cell? ⟨w.heap.size + 2, 2, none⟩ = some (.int .i64 0) ∧ W.cell? ⟨w.heap.size + 2, 3, none⟩ = some (.slice (some ⟨w.heap.size + 1, 0, none⟩) n n) ∧ Below w.heap.size w W := by
  subst hW
  have h1 := stack_new w Try.zeroCells94 zero_stack
  have z1 : (w.alloc (.cells Try.zeroCells94 94)).heap.size = w.heap.size + 1 := by simp
  have b1 : Below w.heap.size w (w.alloc (.cells Try.zeroCells94 94)) := (Below.refl _ _).alloc (Nat.le_refl _) _
  generalize w.alloc (.cells Try.zeroCells94 94) = w1 at *
  have h2 := World.rowIs_made w1 (.int .i64 0) n 2
  have z2 : (w1.alloc (.cells (madeCells #[.int .i64 0] n) 2)).heap.size = w.heap.size + 2 := by simp; omega
  have b2 : Below w1.heap.size w1 (w1.alloc (.cells (madeCells #[.int .i64 0] n) 2)) := (Below.refl _ _).alloc (Nat.le_refl _) _
  rw [z1] at h2
  have h1' := h1.below b2
  have b2' := b1.trans (b2.mono (by omega))
  generalize w1.alloc (.cells (madeCells #[.int .i64 0] n) 2) = w2 at *
  rw [← z2]
  exact ⟨h1'.below ((Below.refl _ _).alloc (Nat.le_refl _) _), h2.alloc _, by simp, by simp, by simp, by simp, b2'.alloc (by omega) _⟩
/-- What Make answers. -/
def MakeFr (w : World) (fn x : Int) (args : List Int) (e : Ending) (w' : World) : Prop :=
  ∃ b s c, e = .returned (.pointer (some ⟨b, 0, none⟩)) ∧ FrameAt w' b s c fn [] (localsV x args) ∧ w.heap.size ≤ b ∧ w.heap.size ≤ s ∧ w.heap.size ≤ c ∧ Below w.heap.size w w'
set_option maxRecDepth 100000 in
theorem make_fr (fn x : Int) (args : List Int) (a : Option Addr) (cap : Nat) (w : World) (ha : args.length ≤ maxLen) (hr : IntRow .i64 w a args) :
    Calls Try.prog 24 #[.int .i64 fn, .int .i64 x, .slice a args.length cap] w (MakeFr w fn x args) := by
  unfold maxLen at ha
  have HR := Lib.hid hr
  clear hr
  obtain ⟨i0, hi, hz0, hz1, hz2⟩ := info_num infoNum
  have hX : (if (16 : Int) < if x < 0 then 0 else x then 16 else if x < 0 then 0 else x) = (localsN x : Int) := by unfold localsN; split <;> split <;> omega
  have HX := Lib.hid hX
  have hn := localsN_le x
  have HV := Lib.hid (localsV_len x args)
  have HG := Lib.hid (localsV_get x args)
  have hmk : ∀ u : World, (Instr.makeSlice 23 (.int .i64 (localsN x : Int)) (.int .i64 (localsN x : Int))).run Try.prog u = .ok (.slice (some ⟨u.heap.size, 0, none⟩) (localsN x) (localsN x)) (u.alloc (.cells (madeCells #[.int .i64 0] (localsN x)) 2)) := fun u =>
    run_make_row 23 2 i0 (.int .i64 0) Try.underlying23 hi hz0 hz1 rfl .i64 .i64 (localsN x) (by rw [hz2]; omega) (by omega) u
  clear hi hz0 hz1 hz2 hX
  generalize localsN x = n at *
  go_enter Try.func24, Try.ntmps24
  go_upto_region 2 with (fail)
  rw [HX.out]
  go_upto_region 3 with (fail)
  generalize hW : ((w.alloc (.cells Try.zeroCells94 94)).alloc (.cells (madeCells #[.int .i64 0] n) 2)).alloc (.cells #[.pointer (some ⟨w.heap.size, 0, none⟩), .int .i64 fn, .int .i64 0, .slice (some ⟨w.heap.size + 1, 0, none⟩) n n] 54) = W
  have hM := make_world w n fn W hW.symm
  clear hW
  obtain ⟨m1, m2, m3, m4, m5, m6, m7⟩ := hM
  obtain ⟨k, W2, hcp, r1, r2⟩ := make_copy args a cap m2 (HR.out.below m7)
  have hlt2 : w.heap.size + 2 < W.heap.size := block_lt_of_cell m3
  have HF := Lib.hid (show FrameAt W2 (w.heap.size + 2) w.heap.size (w.heap.size + 1) fn [] (localsV x args) from
    ⟨m1.touch r2 (by omega), (r2.cell (p := ⟨w.heap.size + 2, 0, none⟩) hlt2 (by show ¬ (w.heap.size + 2 = w.heap.size + 1); omega)).trans m3, (r2.cell (p := ⟨w.heap.size + 2, 1, none⟩) hlt2 (by show ¬ (w.heap.size + 2 = w.heap.size + 1); omega)).trans m4, (r2.cell (p := ⟨w.heap.size + 2, 2, none⟩) hlt2 (by show ¬ (w.heap.size + 2 = w.heap.size + 1); omega)).trans m5,
      by rw [HV.out]; exact (r2.cell (p := ⟨w.heap.size + 2, 3, none⟩) hlt2 (by show ¬ (w.heap.size + 2 = w.heap.size + 1); omega)).trans m6, by rw [HV.out]; exact r1.congr (fun i hi => by rw [HG.out i hi]), by rw [HV.out]; exact hn, by omega, by omega, by omega⟩)
  have HB := Lib.hid (m7.trans (r2.below m7.size (by intro j hj e; omega)))
  have m6' : W.cell? ⟨w.heap.size + 1 + 1, 3, none⟩ = some (.slice (some ⟨w.heap.size + 1, 0, none⟩) n n) := m6
  clear m1 m2 m3 m4 m5 m7 r1 r2 hmk
  go_wp2
  all_goals
    go_ret
    exact ⟨w.heap.size + 2, w.heap.size, w.heap.size + 1, rfl, HF.out, by omega, by omega, by omega, HB.out⟩
end Go.Proofs.Ytmghhigepjeicaa
