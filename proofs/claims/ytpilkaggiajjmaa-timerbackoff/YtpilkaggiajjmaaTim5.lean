/-
  Layer 14: what is due, and waits twice as long from now on.
-/
import Derived.Test.YtpilkaggiajjmaaTim4
namespace Go.Proofs.Ytpilkaggiajjmaa
open Go.RowKit
set_option linter.unusedVariables false

set_option maxRecDepth 100000 in
set_option maxHeartbeats 1000000 in
theorem tstable_any (a : Option Addr) (c : Nat) (l : List Tn) (w : World) (hl : l.length ≤ 20) (hs : SortedD l) (hr : TRow w a l) :
    Calls Try.prog 87 #[.slice a l.length c, .int .i64 (l.length : Int), .func (.func 67) #[] #[]] w fun r w' => r = .returned (.tuple #[]) ∧ Below w.heap.size w w' := by
  have HI := Lib.hid (fun (lo hi : Nat) (W : World) (hlh : lo ≤ hi) (hhi : hi ≤ l.length) (hr : TRow W a l) => tins_any a c lo hi l W (by omega) hlh hhi hs hr)
  have HR := Lib.hid hr
  clear hr hs
  go_enter Try.func87, Try.ntmps87
  go_wp2
  go_loopw [7, 8] (fun v7 v8 wr => ((v7 = .int .i64 0 ∧ v8 = .int .i64 20) ∨ (v7 = .int .i64 20 ∧ v8 = .int .i64 40 ∧ l.length = 20)) ∧ Hid (Below w.heap.size w wr)) (fun _ v8 _ => 60 - (intOf v8).toNat)
  case atStart => exact ⟨.inl ⟨rfl, rfl⟩, Lib.hid (Below.refl _ _)⟩
  case round =>
    obtain ⟨hcs, HB⟩ := hrel
    rcases hcs with ⟨rfl, rfl⟩ | ⟨rfl, rfl, h20⟩
    · by_cases h20 : l.length = 20
      · have HC := Lib.hid (HI.out 0 20 wr (by omega) (by omega) (HR.out.below HB.out))
        have hi1 : (20 : Int) ≤ (l.length : Int) := by omega
        have H20 := Lib.hid h20
        clear h20
        go_wp2_with fail
        refine HC.out.mono ?_
        rintro r w4 ⟨rfl, hb4⟩
        have HB4 := Lib.hid (HB.out.trans (hb4.mono HB.out.size))
        clear hb4
        go_wp2
        go_roundw
        case rel => exact ⟨.inr ⟨rfl, rfl, H20.out⟩, HB4⟩
        case measure => simp [intOf]
      · have HC := Lib.hid (HI.out 0 l.length wr (by omega) (by omega) (HR.out.below HB.out))
        have hi1 : (l.length : Int) < 20 := by omega
        clear h20
        go_wp2_with fail
        refine HC.out.mono ?_
        rintro r w4 ⟨rfl, hb4⟩
        have HB4 := Lib.hid (HB.out.trans (hb4.mono HB.out.size))
        clear hb4
        go_wp2_with fail
        go_loopw [6] (fun v6 w5 => v6 = .int .i64 20 ∧ w5 = w4) (fun _ _ => 0)
        case atStart => exact ⟨rfl, rfl⟩
        case round =>
          obtain ⟨rfl, rfl⟩ := hrel
          have hi2 : (l.length : Int) ≤ 20 := by omega
          go_wp2
          go_end0
          exact ⟨rfl, HB4.out⟩
    · have HC := Lib.hid (HI.out 20 l.length wr (by omega) (by omega) (HR.out.below HB.out))
      rw [h20] at HC ⊢
      clear h20
      go_wp2_with fail
      refine HC.out.mono ?_
      rintro r w4 ⟨rfl, hb4⟩
      have HB4 := Lib.hid (HB.out.trans (hb4.mono HB.out.size))
      clear hb4
      go_wp2_with fail
      go_loopw [6] (fun v6 w5 => v6 = .int .i64 20 ∧ w5 = w4) (fun _ _ => 0)
      case atStart => exact ⟨rfl, rfl⟩
      case round =>
        obtain ⟨rfl, rfl⟩ := hrel
        go_wp2
        go_end0
        exact ⟨rfl, HB4.out⟩
set_option maxRecDepth 100000 in
theorem tsort_any (a : Option Addr) (c : Nat) (l : List Tn) (w : World) (hl : l.length ≤ 20) (hs : SortedD l) (hr : TRow w a l) :
    Calls Try.prog 66 #[.slice a l.length c, .func (.func 67) #[] #[]] w fun r w' => r = .returned (.tuple #[]) ∧ Below w.heap.size w w' := by
  have HI := Lib.hid (tstable_any a c l w hl hs hr)
  clear hr hs
  go_enter Try.func66, Try.ntmps66
  go_wp2_with fail
  refine HI.out.mono ?_
  rintro r w4 ⟨rfl, hb4⟩
  go_wp2
  go_end0
  exact ⟨rfl, hb4⟩
def isDue (now : Nat) (x : Tn) : Bool := decide (x.due ≤ now)
def dueF (now : Nat) (l : List Tn) : List Tn := l.filter (isDue now)
def agF (now mo : Nat) (l : List Tn) : List Tn := l.map (fun x => if isDue now x = true then againT now mo x else x)
theorem dueF_snoc (now : Nat) (l : List Tn) (x : Tn) : dueF now (l ++ [x]) = dueF now l ++ (if isDue now x = true then [x] else []) := by
  unfold dueF; rw [List.filter_append]; congr 1
  by_cases h : isDue now x = true <;> simp [h]
/-- Behind k of them. -/
def agK (now mo k : Nat) (l : List Tn) : List Tn := agF now mo (l.take k) ++ l.drop k
theorem agK_len (now mo k : Nat) (l : List Tn) : (agK now mo k l).length = l.length := by
  unfold agK agF; rw [List.length_append, List.length_map, List.length_take, List.length_drop]; omega
theorem agK_at (now mo k : Nat) (l : List Tn) (hk : k < l.length) : (agK now mo k l)[k]'(by rw [agK_len]; exact hk) = l[k] := by
  unfold agK agF
  rw [List.getElem_append_right (by simp; omega)]
  simp [Nat.min_eq_left (Nat.le_of_lt hk)]
theorem agK_no (now mo k : Nat) (l : List Tn) (hk : k < l.length) (h : isDue now l[k] = false) : agK now mo (k + 1) l = agK now mo k l := by
  unfold agK agF
  rw [List.take_succ_eq_append_getElem hk, List.map_append, List.append_assoc]
  congr 1
  rw [List.drop_eq_getElem_cons hk]
  simp [h]
theorem agK_yes (now mo k : Nat) (l : List Tn) (hk : k < l.length) (h : isDue now l[k] = true) : agK now mo (k + 1) l = (agK now mo k l).set k (againT now mo l[k]) := by
  unfold agK agF
  rw [List.take_succ_eq_append_getElem hk, List.map_append, List.append_assoc, List.set_append_right _ _ (by simp; omega)]
  congr 1
  have e : k - (List.map (fun x => if isDue now x = true then againT now mo x else x) (List.take k l)).length = 0 := by simp; omega
  rw [e, List.drop_eq_getElem_cons hk, List.set_cons_zero]
  simp [h]
theorem agK_all (now mo : Nat) (l : List Tn) : agK now mo l.length l = agF now mo l := by unfold agK; simp
end Go.Proofs.Ytpilkaggiajjmaa
