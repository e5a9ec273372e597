/-
  Layer 14: what stands at the head of the laws.
-/
import Derived.Test.YtpilkaggiajjmaaTim6
import Derived.Test.YtpilkaggiajjmaaRWin4
namespace Go.Proofs.Ytpilkaggiajjmaa
open Go.RowKit
set_option linter.unusedVariables false

/-- One that waits, tick by tick: the sum of the law, and it. -/
def stA : Nat → Nat × Tn
  | 0 => (0, ⟨7, 2, 2, 0⟩)
  | m + 1 => if isDue (m + 1) (stA m).2 = true then (100 * (stA m).1 + (m + 1), againT (m + 1) 5 (stA m).2) else stA m
theorem stA_ok : ∀ m, m < 17 → (stA m).1 ≤ 1000000000 ∧ (stA m).2.n = 7 ∧ (stA m).2.due ≤ 1000 ∧ (stA m).2.long ≤ 1000 ∧ (stA m).2.times ≤ 1000 := by decide
theorem stA_end : (stA 16).1 = 2061116 := by decide
theorem sorted_one {l : List Tn} (h : l.length ≤ 1) : SortedD l := fun i hi => by omega
theorem start_none (m now f : Nat) {w w' : World} {b : Nat} {mo : Int} {a : Option Addr} {c : Nat} {l : List Tn} {r : Ending} (hno : l.find? (isN m) = none) (h : StartPost w b f mo a c l m now r w') : r = .returned (.bool true) ∧ ∃ a' c', TAt w' b f mo a' c' (l ++ [⟨m, now + f, f, 0⟩]) ∧ (∀ x, a' = some x → a.map (·.block) = some x.block ∨ w.heap.size ≤ x.block) ∧ Touch (fun j => j = b ∨ a.map (·.block) = some j) w w' := by
  rcases h with ⟨h1, -⟩ | ⟨-, h2⟩
  · rw [hno] at h1; cases h1
  · exact h2
theorem ptr_no (b : Nat) (w : World) : (binOp .eql 65 (.pointer (some ⟨b, 0, none⟩)) (.pointer none)).run Try.prog w = .ok (.bool false) w := by kernel_rfl
/-- The law's own: timers, and nothing that lay there is touched. -/
structure Aw14 (w : World) (b : Nat) (f mo : Int) (a : Option Addr) (c : Nat) (l : List Tn) (wr : World) : Prop where
  t : TAt wr b f mo a c l
  hb : w.heap.size ≤ b
  ha : ∀ x, a = some x → w.heap.size ≤ x.block
  bel : Below w.heap.size w wr
theorem Aw14.keep {w : World} {b : Nat} {f mo : Int} {a : Option Addr} {c : Nat} {l : List Tn} {wr w' : World} (h : Aw14 w b f mo a c l wr) (hb : Below wr.heap.size wr w') : Aw14 w b f mo a c l w' := ⟨h.t.keep hb, h.hb, h.ha, h.bel.trans (hb.mono h.bel.size)⟩
theorem Aw14.next {w : World} {b : Nat} {f mo : Int} {a a' : Option Addr} {c c' : Nat} {l l' : List Tn} {wr w' : World} (h : Aw14 w b f mo a c l wr) (ht : TAt w' b f mo a' c' l') (hf : ∀ x, a' = some x → a.map (·.block) = some x.block ∨ wr.heap.size ≤ x.block) (htc : Touch (fun j => j = b ∨ a.map (·.block) = some j) wr w') : Aw14 w b f mo a' c' l' w' := by
  have hs := h.bel.size
  refine ⟨ht, h.hb, fun x hx => ?_, h.bel.trans (htc.below hs fun j hj e => ?_)⟩
  · rcases hf x hx with e | e
    · exact map_none (P := fun k => w.heap.size ≤ k) h.ha _ e
    · omega
  · rcases e with e | e
    · have := h.hb; omega
    · have := map_none (P := fun k => w.heap.size ≤ k) h.ha _ e; omega
set_option maxRecDepth 100000 in
set_option maxHeartbeats 1000000 in
theorem awake14_any (w : World) : Calls Try.prog 31 #[] w fun r w' => r = .returned (.bool true) ∧ Below w.heap.size w w' := by
  have HN := Lib.hid ((tnew_any 2 5 w).mono (R' := fun r w' => ∃ b, r = .returned (.tuple #[.pointer (some ⟨b, 0, none⟩), .int .i64 0]) ∧ Aw14 w b 2 5 none 0 [] w') fun r w' h => by
    rcases h with ⟨-, b, h1, h2, h3, h4⟩ | ⟨h1, -⟩
    · exact ⟨b, h1, h3, h2, (fun x hx => by cases hx), h4⟩
    · exact absurd h1 (by decide))
  go_enter Try.func31, Try.ntmps31
  go_wp2_with fail
  refine HN.out.mono ?_
  rintro r w1 ⟨b, rfl, h1⟩
  have HA1 := Lib.hid h1
  have HST := Lib.hid (start_any b 7 0 2 5 none 0 [] w1 h1.t (by simp) (by omega) (by omega))
  have hptr := ptr_no b
  clear h1 HN
  go_wp2_with fail
  refine HST.out.mono ?_
  intro r w2 hr
  obtain ⟨rfl, a2, c2, h2, h3, h4⟩ := start_none 7 0 2 rfl hr
  have HA2 := Lib.hid (HA1.out.next h2 h3 h4)
  clear hr h2 h3 h4 HST HA1
  go_wp2_with fail
  clear hptr
  go_loopw [3, 4] (fun v3 v4 wr => ∃ m : Nat, m ≤ 16 ∧ v3 = .int .i64 ((stA m).1 : Int) ∧ v4 = .int .i64 ((m : Int) + 1) ∧ Hid (Aw14 w b 2 5 a2 c2 [(stA m).2] wr)) (fun _ v4 _ => 18 - (intOf v4).toNat)
  case atStart => exact ⟨0, by omega, rfl, rfl, HA2⟩
  case round =>
    obtain ⟨m, hm, rfl, rfl, HA⟩ := hrel
    obtain ⟨g1, g2, g3, g4, g5⟩ := stA_ok m (by omega)
    by_cases hlt : m < 16
    · have HDU := Lib.hid (due_any b (m + 1) 5 2 a2 c2 [(stA m).2] wr HA.out.t (by simp) (fun x hx => by
        have hx : x = (stA m).2 := by simpa using hx
        rw [hx]; exact ⟨by omega, by omega, by omega, by omega⟩) (sorted_one (by unfold dueF; exact Nat.le_trans (List.length_filter_le _ _) (by simp))) (by omega) (by omega))
      have hm1 : (m : Int) + 1 ≤ 16 := by omega
      have hs1 := (stA_ok (m + 1) (by omega)).1
      have hcast : ((m + 1 : Nat) : Int) = (m : Int) + 1 := by omega
      unfold DuePost at HDU
      rw [hcast] at HDU
      clear hcast
      by_cases hdue : isDue (m + 1) (stA m).2 = true
      · have e1 : dueF (m + 1) [(stA m).2] = [(stA m).2] := by unfold dueF; simp [hdue]
        have e2 : agF (m + 1) 5 [(stA m).2] = [(stA (m + 1)).2] := by unfold agF; simp [hdue, stA]
        have e3 : (stA (m + 1)).1 = 100 * (stA m).1 + (m + 1) := by simp [stA, hdue]
        rw [e1, e2] at HDU
        simp only [List.length_cons, List.length_nil, List.map_cons, List.map_nil, Nat.zero_add] at HDU
        rw [g2] at HDU
        have E3 := Lib.hid e3
        rw [e3] at hs1
        clear hdue e1 e2 e3 g2 g3 g4 g5
        generalize (stA m).1 = s at g1 hs1 E3
        go_wp2_with fail
        refine HDU.out.mono ?_
        rintro r w4 ⟨a4, c4, rfl, ho, ht, htc⟩
        have HA4 := Lib.hid (HA.out.next ht (fun x hx => .inl (by rw [hx]; rfl)) (htc.mono (fun _ _ e => .inr e)))
        obtain ⟨g, off, rfl, hg, q0⟩ := VRow.at1 (f := u32C) (g := fun n => .int .u32 (n : Int)) (fun _ => rfl) (ms := [7]) (ho.row (num_wide [7])) (j := 0) (by simp)
        simp only [List.getElem_cons_zero, Nat.add_zero] at q0
        have q0' : w4.cell? ⟨g, off, none⟩ = some (.int .u32 7) := q0
        clear ho ht htc q0 HDU HA
        go_wp2
        go_roundw
        case rel => exact ⟨m + 1, by omega, by rw [E3.out]; go_num, by go_num, HA4⟩
        case measure => simp [intOf] <;> omega
      · have e1 : dueF (m + 1) [(stA m).2] = [] := by unfold dueF; simp [hdue]
        have e2 : agF (m + 1) 5 [(stA m).2] = [(stA (m + 1)).2] := by unfold agF; simp [hdue, stA]
        have e3 : (stA (m + 1)).1 = (stA m).1 := by simp [stA, hdue]
        rw [e1, e2] at HDU
        simp only [List.length_nil, List.map_nil] at HDU
        have E3 := Lib.hid e3
        clear hdue e1 e2 e3 g2 g3 g4 g5
        generalize (stA m).1 = s at g1 E3
        go_wp2_with fail
        refine HDU.out.mono ?_
        rintro r w4 ⟨a4, c4, rfl, ho, ht, htc⟩
        have HA4 := Lib.hid (HA.out.next ht (fun x hx => .inl (by rw [hx]; rfl)) (htc.mono (fun _ _ e => .inr e)))
        clear ho ht htc HDU HA
        go_wp2
        go_roundw
        case rel => exact ⟨m + 1, by omega, by rw [E3.out], by go_num, HA4⟩
        case measure => simp [intOf] <;> omega
    · obtain rfl : m = 16 := by omega
      have HL := Lib.hid (tlen_any b 2 5 a2 c2 [(stA 16).2] wr HA.out.t)
      have HB := Lib.hid HA.out.bel
      rw [stA_end]
      simp only [List.length_cons, List.length_nil, Nat.zero_add] at HL
      clear g1 g2 g3 g4 g5 HA
      go_wp2_with fail
      refine HL.out.mono ?_
      rintro r w5 ⟨rfl, rfl⟩
      go_wp2
      go_ret
      exact ⟨rfl, HB.out⟩
end Go.Proofs.Ytpilkaggiajjmaa
