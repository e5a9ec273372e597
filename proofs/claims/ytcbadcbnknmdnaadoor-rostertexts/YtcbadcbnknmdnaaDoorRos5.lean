/-
  Layer 18: All, Most.
-/
import Derived.Test.YtcbadcbnknmdnaaDoorRos4
import Derived.Laws.OwnMore
namespace Go.Proofs.YtcbadcbnknmdnaaDoor
open Go.RowKit
set_option linter.unusedVariables false

def iC18 (x : Int) : List Value := [.int .i64 x]
theorem i18_wide (l : List Int) : VWide 1 (l.map iC18) := by
  intro x hx
  obtain ⟨p, -, rfl⟩ := List.mem_map.1 hx
  exact ⟨rfl, fun u hu => by simp only [iC18, List.mem_singleton] at hu; subst hu; rfl⟩
theorem int18Ty : VTy 3 1 (.int .i64 0) 8 := ⟨by kernel_rfl, rfl, by decide, by decide⟩
theorem own18_row {w : World} {B : Nat} {a : Option Addr} {c : Nat} {l : List Int} (h : OwnV 3 1 B a c (l.map iC18) w) : IntRow .i64 w a l := by
  intro h0
  obtain ⟨b, off, e, hc⟩ := h.row (i18_wide l) (by simpa using h0)
  refine ⟨b, off, e, fun i hi => ?_⟩
  have := hc i (by simpa using hi) 0 (by decide)
  rw [Nat.mul_one, Nat.add_zero] at this
  rw [this]; simp [iC18]
theorem new18_act {w w1 : World} {a : Option Addr} {c : Nat} {l : List Int} (h : NewV 3 1 w a c (l.map iC18) w1) : ActL w1 (.slice a l.length c) l := by
  obtain ⟨h1, h2, h3⟩ := h.cap
  simp only [List.length_map] at h1
  exact ⟨a, c, rfl, h1, h2, own18_row h.1, fun e => by simpa using h3 e⟩
/-- One number more, behind a row that none had before. -/
theorem new18_one {w w1 : World} {a : Option Addr} {c : Nat} {l : List Int} (h : NewV 3 1 w a c (l.map iC18) w1) (x : Int) (hl : l.length ≤ 100000) : ∃ a' c' w', (Builtin.append_ #[22, 22] 22 #[.slice a l.length c, .slice (some ⟨w1.heap.size, 0, none⟩) 1 1]).run Tryd.prog (w1.alloc (.cells #[.int .i64 x] 3)) = .ok (.slice a' (l.length + 1) c') w' ∧ NewV 3 1 w a' c' ((l ++ [x]).map iC18) w' := by
  have hs := h.2.size
  obtain ⟨a', c', w', h1, h2, h3⟩ := h.1.one (ty := 22) int18Ty Tryd.underlying22 hs (iC18 x) (i18_wide [x] _ (by simp)) (by simp; omega) _ rfl
  refine ⟨a', c', w', by simpa [iC18] using h1, ?_, ?_⟩
  · rw [List.map_append]; exact h2
  · refine h.2.trans (h3.below hs fun b hb e1 => ?_)
    have := map_none (P := fun b => w.heap.size ≤ b) h.1.2 _ e1
    omega
def RAllPost (p : Nat) (w : World) (r : Ending) (w' : World) : Prop := ∃ a c, r = .returned (.slice a (lenP p) c) ∧ Hid (ActL w' (.slice a (lstP p).length c) (lstP p)) ∧ Below w.heap.size w w'
set_option maxRecDepth 100000 in
set_option maxHeartbeats 1000000 in
theorem rall_any (p : Nat) (e : Int) (w : World) (hp : p < 4294967296) : Calls Tryd.prog 44 #[rosV p e] w (RAllPost p w) := by
  have HA := Lib.hid (show Below w.heap.size w (w.alloc (.cells #[.int .u32 (p : Int), .int .i64 e] 27)) from bel_alloc (Below.refl _ _) _)
  have x0 : (w.alloc (.cells #[.int .u32 (p : Int), .int .i64 e] 27)).cell? ⟨w.heap.size, 0, none⟩ = some (.int .u32 (p : Int)) := new_cell rfl rfl
  have x1 : (w.alloc (.cells #[.int .u32 (p : Int), .int .i64 e] 27)).cell? ⟨w.heap.size, 1, none⟩ = some (.int .i64 e) := new_cell rfl rfl
  have HZ : Hid (∀ W W' a c, Below w.heap.size w W → NewV 3 1 W a c ((lstP p).map iC18) W' → RAllPost p w (.returned (.slice a (lenP p) c)) W') := Lib.hid fun W W' a c h1 h2 => ⟨a, c, rfl, Lib.hid (new18_act h2), h1.trans (h2.2.mono h1.size)⟩
  have HHAS := Lib.hid (fun x W => rhas_any p e x W hp)
  unfold rosV at HHAS ⊢
  generalize RAllPost p w = Post at HZ ⊢
  go_enter Tryd.func44, Tryd.ntmps44
  go_wp2
  have hlw : w.heap.size < (w.alloc (.cells #[.int .u32 (p : Int), .int .i64 e] 27)).heap.size := by simp
  obtain ⟨B, hB⟩ : ∃ B, w.heap.size = B := ⟨_, rfl⟩
  rw [hB] at x0 x1 hlw ⊢
  generalize w.alloc (.cells #[.int .u32 (p : Int), .int .i64 e] 27) = W at HA x0 x1 hlw ⊢
  have HBB := Lib.hid hB
  clear hB
  go_loopw [3, 5] (fun v i wr => ∃ (k : Nat) (a : Option Addr) (c : Nat), k ≤ 32 ∧ i = .int .i64 k ∧ v = .slice a (lstK p k).length c ∧ Hid (NewV 3 1 W a c ((lstK p k).map iC18) wr)) (fun _ i _ => 32 - (intOf i).toNat)
  case atStart => exact ⟨0, none, 0, by omega, rfl, rfl, Lib.hid (NewV.none _ _ (Below.refl _ _))⟩
  case round =>
    obtain ⟨k, a, c, hk, rfl, rfl, HM⟩ := hrel
    have hi0 : (0 : Int) ≤ (k : Int) := by omega
    have y0 := (HM.out.2.cell (p := ⟨B, 0, none⟩) hlw).trans x0
    have y1 := (HM.out.2.cell (p := ⟨B, 1, none⟩) hlw).trans x1
    have hbw := block_lt_of_cell y0
    simp only at hbw
    by_cases hlt : k < 32
    · have hi1 : (k : Int) < 32 := by omega
      have HS := Lib.hid (lstK_succ p k)
      have HL := Lib.hid (lstK_len p k)
      have HHK := Lib.hid (show hasP p (k : Int) = p.testBit k by simp [hasP]; intro _; omega)
      go_wp2_with fail
      refine (HHAS.out _ _).mono ?_
      rintro r w1 ⟨rfl, hb1⟩
      have HM := Lib.hid (HM.out.keep hb1)
      rw [HHK.out]
      clear hb1 y0 y1 hbw
      cases hbt : p.testBit k with
      | true =>
        rw [hbt, if_pos rfl] at HS
        obtain ⟨a', c', w', hrun, hnew⟩ := new18_one HM.out (k : Int) (by have := HL.out; omega)
        rw [← HS.out] at hnew
        have HN := Lib.hid hnew
        have HR := Lib.hid hrun
        have HLL := Lib.hid (show (lstK p (k + 1)).length = (lstK p k).length + 1 by rw [HS.out]; simp)
        generalize (lstK p k).length = n at HR HL HLL
        clear hnew hrun hbt HS HM
        go_wp2_with (at_builtin; refine wpList_append_run _ rfl (.tmp 11) (.tmp 13) 22 22 rfl _ _ rfl rfl (.slice a' (n + 1) c') w' HR.out ?_)
        go_roundw
        case rel => exact ⟨k + 1, a', c', by omega, by go_num, by rw [HLL.out], HN⟩
        case measure => simp [intOf] <;> omega
      | false =>
        rw [hbt] at HS
        simp only [Bool.false_eq_true, if_false] at HS
        have HLL := Lib.hid (show (lstK p (k + 1)).length = (lstK p k).length by rw [HS.out])
        have HM2 : Hid (NewV 3 1 W a c ((lstK p (k + 1)).map iC18) w1) := Lib.hid (by rw [HS.out]; exact HM.out)
        clear hbt HS HM
        go_wp2
        go_roundw
        case rel => exact ⟨k + 1, a, c, by omega, by go_num, by rw [HLL.out], HM2⟩
        case measure => simp [intOf] <;> omega
    · obtain rfl : k = 32 := by omega
      have HF := Lib.hid (HZ.out _ _ _ _ HA.out HM.out)
      have HLL := Lib.hid (show (lstK p 32).length = lenP p from rfl)
      rw [HLL.out]
      go_wp2
      first | exact HF.out | (go_ret; exact HF.out)
theorem okS_step (n : Nat) (no last : Int) (V : List Int) (k : Nat) (h : k < V.length) : okS n no last (V.drop k) = (decide (last < V[k]) && ((!(V[k] == no)) && (hasP n V[k] && okS n no V[k] (V.drop (k + 1))))) := by
  rw [List.drop_eq_getElem_cons h]; rfl
set_option maxRecDepth 100000 in
set_option maxHeartbeats 1000000 in
theorem rmost_any (p : Nat) (e no : Int) (a : Option Addr) (c : Nat) (V : List Int) (w : World) (hp : p < 4294967296) (hr : IntRow .i64 w a V) (hl : V.length ≤ 1000) : Calls Tryd.prog 34 #[rosV p e, .int .i64 no, .slice a V.length c] w fun r w' => r = .returned (.bool (mostP p no V)) ∧ Below w.heap.size w w' := by
  have HA := Lib.hid (show Below w.heap.size w (w.alloc (.cells #[.int .u32 (p : Int), .int .i64 e] 27)) from bel_alloc (Below.refl _ _) _)
  have x0 : (w.alloc (.cells #[.int .u32 (p : Int), .int .i64 e] 27)).cell? ⟨w.heap.size, 0, none⟩ = some (.int .u32 (p : Int)) := new_cell rfl rfl
  have x1 : (w.alloc (.cells #[.int .u32 (p : Int), .int .i64 e] 27)).cell? ⟨w.heap.size, 1, none⟩ = some (.int .i64 e) := new_cell rfl rfl
  have HHAS := Lib.hid (fun x W => rhas_any p e x W hp)
  have HLEN := Lib.hid (fun W => rlen_any p e W hp)
  have HR := Lib.hid (hr.below HA.out)
  have HQ : Hid (mostP p no V = (okS p no (-1) V && decide (lenP p < 2 * V.length))) := Lib.hid rfl
  have HLP := Lib.hid (lenP_le p)
  generalize mostP p no V = Q at HQ ⊢
  unfold rosV at HHAS HLEN ⊢
  go_enter Tryd.func34, Tryd.ntmps34
  go_wp2
  have hlw : w.heap.size < (w.alloc (.cells #[.int .u32 (p : Int), .int .i64 e] 27)).heap.size := by simp
  clear hr
  have HT : Hid (∀ W', Below (w.alloc (.cells #[.int .u32 (p : Int), .int .i64 e] 27)).heap.size (w.alloc (.cells #[.int .u32 (p : Int), .int .i64 e] 27)) W' → Below w.heap.size w W') := Lib.hid fun W' h => HA.out.trans (h.mono HA.out.size)
  obtain ⟨B, hB⟩ : ∃ B, w.heap.size = B := ⟨_, rfl⟩
  rw [hB] at x0 x1 hlw ⊢
  generalize w.alloc (.cells #[.int .u32 (p : Int), .int .i64 e] 27) = W at HT HR x0 x1 hlw ⊢
  clear hB HA
  go_loopw [7, 12] (fun lv iv wr => ∃ (k : Nat) (last : Int), k ≤ V.length ∧ lv = .int .i64 last ∧ iv = .int .i64 k ∧ Hid (okS p no (-1) V = okS p no last (V.drop k) ∧ Below W.heap.size W wr)) (fun _ iv _ => V.length - (intOf iv).toNat)
  case atStart => exact ⟨0, -1, by omega, rfl, rfl, Lib.hid ⟨rfl, Below.refl _ _⟩⟩
  case round =>
    obtain ⟨k, last, hk, rfl, rfl, HM⟩ := hrel
    have hi0 : (0 : Int) ≤ (k : Int) := by omega
    have y0 := (HM.out.2.cell (p := ⟨B, 0, none⟩) hlw).trans x0
    have y1 := (HM.out.2.cell (p := ⟨B, 1, none⟩) hlw).trans x1
    have hbw := block_lt_of_cell y0
    simp only at hbw
    by_cases hlt : k < V.length
    · have hi1 : (k : Int) < (V.length : Int) := by omega
      obtain ⟨b, off, rfl, hc⟩ := HR.out.below HM.out.2 (by omega)
      have hv := hc k hlt
      have hbl := block_lt_of_cell hv
      simp only at hbl
      have HS := Lib.hid (okS_step p no last V k hlt)
      generalize V[k] = x at hv HS
      clear hc
      by_cases h1 : x ≤ last
      · have HQ2 : Hid (Q = false) := Lib.hid (by rw [HQ.out, HM.out.1, HS.out, decide_eq_false (by omega)]; rfl)
        go_wp2
        go_ret
        exact ⟨by rw [HQ2.out]; first | done | rfl, HT.out _ HM.out.2⟩
      · have h1' : last < x := by omega
        by_cases h2 : x = no
        · subst h2
          have HQ2 : Hid (Q = false) := Lib.hid (by rw [HQ.out, HM.out.1, HS.out]; simp)
          clear h1
          go_wp2
          go_ret
          exact ⟨by rw [HQ2.out]; first | done | rfl, HT.out _ HM.out.2⟩
        · have hne : (x == no) = false := by rw [beq_eq_false_iff_ne]; exact h2
          have HS2 : Hid (okS p no last (V.drop k) = (hasP p x && okS p no x (V.drop (k + 1)))) := Lib.hid (by rw [HS.out, decide_eq_true h1', hne]; rfl)
          clear h1 HS
          go_wp2_with fail
          refine (HHAS.out _ _).mono ?_
          rintro r w1 ⟨rfl, hb1⟩
          have HB := Lib.hid (HM.out.2.trans (hb1.mono HM.out.2.size))
          clear hb1 y0 y1 hbw hv hbl
          cases hh : hasP p x with
          | true =>
            rw [hh] at HS2
            have HN : Hid (okS p no (-1) V = okS p no x (V.drop (k + 1))) := Lib.hid (by rw [HM.out.1, HS2.out]; rfl)
            go_wp2
            go_roundw
            case rel => exact ⟨k + 1, x, by omega, rfl, by go_num, Lib.hid ⟨HN.out, HB.out⟩⟩
            case measure => simp [intOf] <;> omega
          | false =>
            rw [hh] at HS2
            have HQ2 : Hid (Q = false) := Lib.hid (by rw [HQ.out, HM.out.1, HS2.out]; rfl)
            go_wp2
            go_ret
            exact ⟨by rw [HQ2.out]; first | done | rfl, HT.out _ HB.out⟩
    · obtain rfl : k = V.length := by omega
      have hi1 : (V.length : Int) ≤ (V.length : Int) := by omega
      have HQ2 : Hid (Q = decide (lenP p < 2 * V.length)) := Lib.hid (by rw [HQ.out, HM.out.1, List.drop_length]; simp [okS])
      have hw2 : IntKind.i64.wrap (2 * (V.length : Int)) = 2 * (V.length : Int) := by rw [IntKind.wrap_i64]; omega
      go_wp2_with fail
      refine (HLEN.out _).mono ?_
      rintro r w1 ⟨rfl, hb1⟩
      have HB := Lib.hid (HM.out.2.trans (hb1.mono HM.out.2.size))
      clear hb1 y0 y1 hbw
      generalize lenP p = q at HQ2 HLP
      go_wp2
      go_ret
      refine ⟨?_, HT.out _ HB.out⟩
      rw [HQ2.out]
      show Ending.returned (.bool (decide ((q : Int) < 2 * (V.length : Int)))) = _
      congr 2
      rw [decide_eq_decide]
      omega
end Go.Proofs.YtcbadcbnknmdnaaDoor
