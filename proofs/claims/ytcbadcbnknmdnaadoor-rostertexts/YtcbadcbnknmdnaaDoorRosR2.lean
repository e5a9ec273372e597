/-
  Layer 18: the document's own: Most, Check.
-/
import Derived.Test.YtcbadcbnknmdnaaDoorRosR1
import Derived.Test.YtcbadcbnknmdnaaDoorRos6
namespace Go.Proofs.YtcbadcbnknmdnaaDoor
open Go.RowKit
set_option linter.unusedVariables false

def prv (V : List Int) : Nat → Int
  | 0 => -1
  | k + 1 => V.getD k 0
theorem dhas_lst (n : Nat) (a : Option Addr) (c : Nat) (e x : Int) (w : World) (hr : IntRow .i64 w a (lstP n)) : Calls Tryd.prog 33 #[docV a (lenP n) c e, .int .i64 x] w fun r w' => r = .returned (.bool (hasP n x)) ∧ Below w.heap.size w w' := by
  rw [← hasL_lst]
  exact dhas_any a c (lstP n) e x w hr (by have := lstK_len n 32; unfold lstP; omega) (lenP n) rfl
set_option maxRecDepth 100000 in
set_option maxHeartbeats 1000000 in
theorem dmost_any (n : Nat) (e no : Int) (a : Option Addr) (c : Nat) (av : Option Addr) (cv : Nat) (V : List Int) (w : World) (ha : IntRow .i64 w a (lstP n)) (hr : IntRow .i64 w av V) (hl : V.length ≤ 1000) : Calls Tryd.prog 49 #[docV a (lenP n) c e, .int .i64 no, .slice av V.length cv] w fun r w' => r = .returned (.bool (mostP n no V)) ∧ Below w.heap.size w w' := by
  have HA := Lib.hid (show Below w.heap.size w (w.alloc (.cells #[.slice a (lenP n) c, .int .i64 e] 30)) from bel_alloc (Below.refl _ _) _)
  have x0 : (w.alloc (.cells #[.slice a (lenP n) c, .int .i64 e] 30)).cell? ⟨w.heap.size, 0, none⟩ = some (.slice a (lenP n) c) := new_cell rfl rfl
  have x1 : (w.alloc (.cells #[.slice a (lenP n) c, .int .i64 e] 30)).cell? ⟨w.heap.size, 1, none⟩ = some (.int .i64 e) := new_cell rfl rfl
  have HHAS := Lib.hid (fun x W (hW : Below w.heap.size w W) => dhas_lst n a c e x W (ha.below hW))
  have HR := Lib.hid (hr.below HA.out)
  have HQ : Hid (mostP n no V = (okS n no (-1) V && decide (lenP n < 2 * V.length))) := Lib.hid rfl
  have HLP := Lib.hid (lenP_le n)
  generalize mostP n no V = Q at HQ ⊢
  unfold docV at HHAS ⊢
  generalize lenP n = LN at HA x0 x1 HHAS HR HQ HLP ⊢
  go_enter Tryd.func49, Tryd.ntmps49
  go_wp2
  have hlw : w.heap.size < (w.alloc (.cells #[.slice a LN c, .int .i64 e] 30)).heap.size := by simp
  clear hr ha
  have HT : Hid (∀ W', Below (w.alloc (.cells #[.slice a LN c, .int .i64 e] 30)).heap.size (w.alloc (.cells #[.slice a LN c, .int .i64 e] 30)) W' → Below w.heap.size w W') := Lib.hid fun W' h => HA.out.trans (h.mono HA.out.size)
  obtain ⟨B, hB⟩ : ∃ B, w.heap.size = B := ⟨_, rfl⟩
  rw [hB] at x0 x1 hlw ⊢
  generalize w.alloc (.cells #[.slice a LN c, .int .i64 e] 30) = W at HT HR x0 x1 hlw ⊢
  clear hB HA
  go_loopw [11] (fun iv wr => ∃ k : Nat, k ≤ V.length ∧ iv = .int .i64 k ∧ Hid (okS n no (-1) V = okS n no (prv V k) (V.drop k) ∧ Below W.heap.size W wr)) (fun iv _ => V.length - (intOf iv).toNat)
  case atStart => exact ⟨0, by omega, rfl, Lib.hid ⟨rfl, Below.refl _ _⟩⟩
  case round =>
    obtain ⟨k, hk, rfl, HM⟩ := hrel
    have hi0 : (0 : Int) ≤ (k : Int) := by omega
    have y0 := (HM.out.2.cell (p := ⟨B, 0, none⟩) hlw).trans x0
    have y1 := (HM.out.2.cell (p := ⟨B, 1, none⟩) hlw).trans x1
    have hbw := block_lt_of_cell y0
    simp only at hbw
    by_cases hlt : k < V.length
    · have hi1 : (k : Int) < (V.length : Int) := by omega
      obtain ⟨b, off, rfl, hc⟩ := HR.out.below HM.out.2 (by omega)
      have hv := hc k hlt
      have hbl := block_lt_of_cell hv
      simp only at hbl
      have HS := Lib.hid (okS_step n no (prv V k) V k hlt)
      have HP : Hid (prv V (k + 1) = V[k]) := Lib.hid (by simp [prv, List.getD_eq_getElem?_getD, hlt])
      have HC := Lib.hid hc
      generalize V[k] = x at hv HS HP
      clear hc
      go_wp2_with fail
      refine (HHAS.out _ _ (HT.out _ HM.out.2)).mono ?_
      rintro r w1 ⟨rfl, hb1⟩
      have HB := Lib.hid (HM.out.2.trans (hb1.mono HM.out.2.size))
      have HC1 := Lib.hid (fun i hi => (hb1.cell (p := ⟨b, off + i, none⟩) hbl).trans (HC.out i hi))
      have hbl1 : b < w1.heap.size := Nat.lt_of_lt_of_le hbl hb1.size
      clear hb1 y0 y1 hbw hv HC hbl
      cases hh : hasP n x with
      | false =>
        have HQ2 : Hid (Q = false) := Lib.hid (by rw [HQ.out, HM.out.1, HS.out, hh]; simp)
        clear hh
        go_wp2
        go_ret
        exact ⟨by rw [HQ2.out]; first | done | rfl, HT.out _ HB.out⟩
      | true =>
        have hx0 : 0 ≤ x := (hasP_iff.1 hh).1
        by_cases h2 : x = no
        · subst h2
          have HQ2 : Hid (Q = false) := Lib.hid (by rw [HQ.out, HM.out.1, HS.out]; simp)
          clear hh
          go_wp2
          go_ret
          exact ⟨by rw [HQ2.out]; first | done | rfl, HT.out _ HB.out⟩
        · have hne : (x == no) = false := by rw [beq_eq_false_iff_ne]; exact h2
          have HS2 : Hid (okS n no (prv V k) (V.drop k) = (decide (prv V k < x) && okS n no x (V.drop (k + 1)))) := Lib.hid (by rw [HS.out, hne, hh]; rfl)
          clear HS hh
          cases k with
          | zero =>
            have HN : Hid (okS n no (-1) V = okS n no (prv V (0 + 1)) (V.drop (0 + 1))) := Lib.hid (by
              rw [HM.out.1, HS2.out, decide_eq_true (show prv V 0 < x by show (-1 : Int) < x; omega), HP.out]; rfl)
            go_wp2
            go_roundw
            case rel => exact ⟨0 + 1, by omega, by first | rfl | go_num, Lib.hid ⟨HN.out, HB.out⟩⟩
            case measure => simp [intOf] <;> omega
          | succ j =>
            have hj : j < V.length := by omega
            have hv := HC1.out j hj
            have HPJ : Hid (prv V (j + 1) = V[j]) := Lib.hid (by simp [prv, List.getD_eq_getElem?_getD, hj])
            generalize V[j] = y at hv HPJ
            have hw1 : IntKind.i64.wrap ((j : Int) + 1 - 1) = (j : Int) := by rw [IntKind.wrap_i64]; omega
            have hw2 : IntKind.i64.wrap (j : Int) = (j : Int) := by rw [IntKind.wrap_i64]; omega
            have hw3 : IntKind.i64.wrap (((j + 1 : Nat) : Int) - 1) = (j : Int) := by rw [IntKind.wrap_i64]; omega
            have hj0 : (0 : Int) ≤ (j : Int) := by omega
            have hj1 : (j : Int) < (V.length : Int) := by omega
            have hj2 : (0 : Int) < ((j + 1 : Nat) : Int) := by omega
            have hj3 : (0 : Int) < (j : Int) + 1 := by omega
            by_cases hyx : x ≤ y
            · have HQ2 : Hid (Q = false) := Lib.hid (by rw [HQ.out, HM.out.1, HS2.out, HPJ.out, decide_eq_false (by omega)]; rfl)
              go_wp2
              go_ret
              exact ⟨by rw [HQ2.out]; first | done | rfl, HT.out _ HB.out⟩
            · have hyx' : y < x := by omega
              have HN : Hid (okS n no (-1) V = okS n no (prv V (j + 1 + 1)) (V.drop (j + 1 + 1))) := Lib.hid (by
                rw [HM.out.1, HS2.out, HPJ.out, decide_eq_true hyx', HP.out]; rfl)
              clear hyx
              go_wp2
              go_roundw
              case rel => exact ⟨j + 1 + 1, by omega, by go_num, Lib.hid ⟨HN.out, HB.out⟩⟩
              case measure => simp [intOf] <;> omega
    · obtain rfl : k = V.length := by omega
      have hi1 : (V.length : Int) ≤ (V.length : Int) := by omega
      have HQ2 : Hid (Q = decide (LN < 2 * V.length)) := Lib.hid (by rw [HQ.out, HM.out.1, List.drop_length]; simp [okS])
      have hw4 : IntKind.i64.wrap ((LN : Int) / 2) = (LN : Int) / 2 := by rw [IntKind.wrap_i64]; have := HLP.out; omega
      have hw5 : Int.tdiv (LN : Int) 2 = (LN : Int) / 2 := Int.tdiv_eq_ediv_of_nonneg (by omega)
      go_wp2
      go_ret
      refine ⟨?_, HT.out _ HM.out.2⟩
      rw [HQ2.out]
      show Ending.returned (.bool (decide ((LN : Int) / 2 < (V.length : Int)))) = _
      congr 2
      rw [decide_eq_decide]
      omega
end Go.Proofs.YtcbadcbnknmdnaaDoor
