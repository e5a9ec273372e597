/-
  Layer 18: the law's own: Few, Told.
-/
import Derived.Test.YtcbadcbnknmdnaaDoorRos9
import Derived.Test.YtcbadcbnknmdnaaDoorVApp
namespace Go.Proofs.YtcbadcbnknmdnaaDoor
open Go.RowKit
set_option linter.unusedVariables false

theorem newV_one {e T : TypeId} {k by' : Nat} {z : Value} (H : VTy e k z by') (hT : Tryd.prog.underlying T = some (.slice e)) {w w1 : World} {a : Option Addr} {c : Nat} {ls : List (List Value)} (h : NewV e k w a c ls w1) (x : List Value) (hw : x.length = k ∧ ∀ u ∈ x, u.oneCell' = true) (hl : ls.length ≤ 100000) (N : Nat) (hN : ls.length = N) (m : Nat) (hm : w1.heap.size = m) (cs : Array Value) (hcs : cs = x.toArray) :
    ∃ a' c' w', (Builtin.append_ #[T, T] T #[.slice a N c, .slice (some ⟨m, 0, none⟩) 1 1]).run Tryd.prog (w1.alloc (.cells cs e)) = .ok (.slice a' (N + 1) c') w' ∧ NewV e k w a' c' (ls ++ [x]) w' := by
  subst hN hcs
  have hs := h.2.size
  obtain ⟨a', c', w', h1, h2, h3⟩ := h.1.one (ty := T) H hT hs x hw (by omega) m hm
  refine ⟨a', c', w', h1, h2, h.2.trans (h3.below hs fun b hb e1 => ?_)⟩
  have := map_none (P := fun b => w.heap.size ≤ b) h.1.2 _ e1
  omega
theorem chgTy : VTy 34 3 (.agg #[.int .i64 0, .int .i64 0, .slice none 0 0]) 40 := ⟨by kernel_rfl, rfl, by decide, by decide⟩
theorem dchgTy : VTy 47 3 (.agg #[.int .i64 0, .int .i64 0, .slice none 0 0]) 40 := ⟨by kernel_rfl, rfl, by decide, by decide⟩
def cutC (c : Chg) : Chg := { c with v := c.v.take 34 }
theorem fewC_eq (m : List Chg) : fewC m = (m.take 10).map cutC := rfl
theorem fewC_small (m : List Chg) : ChSmall (fewC m) ∧ (fewC m).length ≤ 10 := by
  have h1 : (fewC m).length ≤ 10 := by rw [fewC_eq, List.length_map, List.length_take]; omega
  refine ⟨⟨by omega, fun c hc => ?_⟩, h1⟩
  rw [fewC_eq] at hc
  obtain ⟨c', -, rfl⟩ := List.mem_map.1 hc
  show (c'.v.take 34).length ≤ 1000
  rw [List.length_take]; omega
theorem actL_cut {w : World} {x : Option Addr} {n : Nat} {l : List Int} (h : ActL w (.slice x l.length n) l) (hl : 34 < l.length) : ActL w (.slice x (l.take 34).length n) (l.take 34) ∧ (l.take 34).length = 34 ∧ l.length ≤ n := by
  obtain ⟨a', c', e1, h1, h2, h3, h4⟩ := h
  simp only [Value.slice.injEq, true_and] at e1
  obtain ⟨rfl, rfl⟩ := e1
  have e2 : (l.take 34).length = 34 := by simp; omega
  exact ⟨⟨x, n, rfl, by omega, h2, h3.take 34, fun e => by rw [h4 e]; rfl⟩, e2, h1⟩
def FewPost18 (m : List Chg) (w0 w : World) (r : Ending) (w' : World) : Prop := ∃ a c ls, r = .returned (.slice a (fewC m).length c) ∧ Hid (NewV 34 3 w a c ls w' ∧ ChIs w0 ls (fewC m))
set_option maxRecDepth 100000 in
set_option maxHeartbeats 8000000 in
theorem few18_any (a : Option Addr) (cp : Nat) (ls : List (List Value)) (m : List Chg) (w0 w : World) (hr : VRow 3 w a ls) (hi : ChIs w0 ls m) (hm : m.length ≤ maxLen) (N : Nat) (hN : m.length = N) : Calls Tryd.prog 8 #[.slice a N cp] w (FewPost18 m w0 w) := by
  subst hN
  have HROW := Lib.hid (fun W (hW : Below w.heap.size w W) => VRow.touch (by decide) (hi.wide) hr (touch_of_below (S := fun _ => False) hW) (fun _ _ => id))
  have HIS := Lib.hid hi
  have HF : Hid (∀ a c ls N W, N = (fewC m).length → NewV 34 3 w a c ls W → ChIs w0 ls (fewC m) → FewPost18 m w0 w (.returned (.slice a N c)) W) := Lib.hid fun a c ls N W h1 h2 h3 => by
    subst h1
    exact ⟨a, c, ls, rfl, Lib.hid ⟨h2, h3⟩⟩
  generalize FewPost18 m w0 w = Post at HF ⊢
  clear hr hi
  unfold maxLen at hm
  go_enter Tryd.func8, Tryd.ntmps8
  go_wp2
  generalize hD : m.length = D
  have HD := Lib.hid hD
  rw [hD] at hm
  clear hD
  go_loopw [3, 4] (fun v i wr => ∃ (k : Nat) (ao : Option Addr) (co : Nat) (N : Nat) (lo : List (List Value)), k ≤ D ∧ k ≤ 10 ∧ i = .int .i64 k ∧ v = .slice ao N co ∧ Hid (N = k ∧ NewV 34 3 w ao co lo wr ∧ ChIs w0 lo ((m.take k).map cutC))) (fun _ i _ => D - (intOf i).toNat)
  case atStart => exact ⟨0, none, 0, 0, [], by omega, by omega, rfl, rfl, Lib.hid ⟨rfl, NewV.none _ _ (Below.refl _ _), ChIs.nil w0⟩⟩
  case round =>
    obtain ⟨k, ao, co, N, lo, hk, hk10, rfl, rfl, HM⟩ := hrel
    have hi0 : (0 : Int) ≤ (k : Int) := by omega
    by_cases hlt : k < D ∧ k < 10
    · obtain ⟨hlt, hlt10⟩ := hlt
      have hi1 : (k : Int) < (D : Int) := by omega
      have hi2 : (k : Int) < 10 := by omega
      have hkm : k < m.length := by have := HD.out; omega
      obtain ⟨hNk, hnew, hcis⟩ := HM.out
      obtain ⟨b, off, x, c, rfl, hb, c0, c1, c2, hact, -⟩ := ch_at (HROW.out _ hnew.2) HIS.out hkm
      have HTK := Lib.hid (show (m.take (k + 1)).map cutC = (m.take k).map cutC ++ [cutC m[k]] by rw [List.take_succ_eq_append_getElem hkm, List.map_append]; rfl)
      generalize m[k] = q at c0 c1 c2 hact HTK
      obtain ⟨q0, q1, q2⟩ := q
      simp only at c0 c1 c2 hact
      have hlen := hcis.1
      have hlk : lo.length = N := by
        rw [hlen, List.length_map, List.length_take]; omega
      have hlo : lo.length ≤ 100000 := by omega
      by_cases h34 : 34 < q2.length
      · obtain ⟨hcut, hcl, hcc⟩ := actL_cut hact h34
        have hA : Below wr.heap.size wr (wr.alloc (.cells #[.int .i64 q0, .int .i64 q1, .slice x 34 c] 34)) := bel_alloc (Below.refl _ _) _
        have hcv : ChV w0 [.int .i64 q0, .int .i64 q1, .slice x 34 c] (cutC ⟨q0, q1, q2⟩) := ⟨x, c, by show _ = [_, _, Value.slice x (q2.take 34).length c]; rw [hcl]; rfl, hcut⟩
        obtain ⟨a', c', w', hrun, hn'⟩ := newV_one chgTy Tryd.underlying23 (hnew.keep hA) [.int .i64 q0, .int .i64 q1, .slice x 34 c] hcv.wide hlo N hlk (wr.heap.size + 1) (by simp) #[.int .i64 q0, .int .i64 q1, .slice x 34 c] rfl
        have HREL := Lib.hid (show k + 1 = k + 1 ∧ NewV 34 3 w a' c' (lo ++ [[.int .i64 q0, .int .i64 q1, .slice x 34 c]]) w' ∧ ChIs w0 (lo ++ [[.int .i64 q0, .int .i64 q1, .slice x 34 c]]) ((m.take (k + 1)).map cutC) from ⟨by omega, hn', by rw [HTK.out]; exact hcis.snoc hcv⟩)
        have HR := Lib.hid hrun
        have h34' : (34 : Int) < (q2.length : Int) := by omega
        have hcc' : (q2.length : Int) ≤ (c : Int) := by omega
        have hcc2 : 34 ≤ c := by omega
        have hcc3 : (34 : Int) ≤ (c : Int) := by omega
        generalize q2.length = ql at c2 h34' hcc'
        clear hcv hn' hrun hA hcut hact HM hnew hcis hlen hlk hlo hcl hcc h34 HTK
        go_wp2_with (at_builtin; refine wpList_append_run _ rfl (.tmp 28) (.tmp 30) 23 23 rfl _ _ rfl rfl (.slice a' (N + 1) c') w' HR.out ?_)
        go_roundw
        case rel => exact ⟨k + 1, a', c', k + 1, _, by omega, by omega, by go_num, by first | rfl | simp [*], HREL⟩
        case measure => simp [intOf] <;> omega
      · have hA : Below wr.heap.size wr (wr.alloc (.cells #[.int .i64 q0, .int .i64 q1, .slice x q2.length c] 34)) := bel_alloc (Below.refl _ _) _
        have hcv : ChV w0 [.int .i64 q0, .int .i64 q1, .slice x q2.length c] (cutC ⟨q0, q1, q2⟩) := by
          have e : cutC ⟨q0, q1, q2⟩ = ⟨q0, q1, q2⟩ := by
            show (⟨q0, q1, q2.take 34⟩ : Chg) = _
            rw [List.take_of_length_le (by omega)]
          rw [e]
          exact ⟨x, c, rfl, hact⟩
        obtain ⟨a', c', w', hrun, hn'⟩ := newV_one chgTy Tryd.underlying23 (hnew.keep hA) [.int .i64 q0, .int .i64 q1, .slice x q2.length c] hcv.wide hlo N hlk (wr.heap.size + 1) (by simp) #[.int .i64 q0, .int .i64 q1, .slice x q2.length c] rfl
        have HREL := Lib.hid (show k + 1 = k + 1 ∧ NewV 34 3 w a' c' (lo ++ [[.int .i64 q0, .int .i64 q1, .slice x q2.length c]]) w' ∧ ChIs w0 (lo ++ [[.int .i64 q0, .int .i64 q1, .slice x q2.length c]]) ((m.take (k + 1)).map cutC) from ⟨by omega, hn', by rw [HTK.out]; exact hcis.snoc hcv⟩)
        have h34' : (q2.length : Int) ≤ 34 := by omega
        generalize q2.length = ql at c2 h34' hrun HREL
        have HR := Lib.hid hrun
        clear hcv hn' hrun hA hact HM hnew hcis hlen hlk hlo h34 HTK
        go_wp2_with (at_builtin; refine wpList_append_run _ rfl (.tmp 28) (.tmp 30) 23 23 rfl _ _ rfl rfl (.slice a' (N + 1) c') w' HR.out ?_)
        go_roundw
        case rel => exact ⟨k + 1, a', c', k + 1, _, by omega, by omega, by go_num, by first | rfl | simp [*], HREL⟩
        case measure => simp [intOf] <;> omega
    · have HEQ := Lib.hid (show (m.take k).map cutC = fewC m by
        rw [fewC_eq]
        have := HD.out
        by_cases h1 : k = 10
        · rw [h1]
        · rw [List.take_of_length_le (show m.length ≤ k by omega), List.take_of_length_le (show m.length ≤ 10 by omega)])
      have HE : Hid (NewV 34 3 w ao co lo wr ∧ ChIs w0 lo (fewC m) ∧ N = (fewC m).length) := Lib.hid (by
        obtain ⟨h1, h2, h3⟩ := HM.out
        rw [HEQ.out] at h3
        refine ⟨h2, h3, ?_⟩
        rw [← HEQ.out, List.length_map, List.length_take]
        have := HD.out
        omega)
      by_cases h1 : k < D
      · have h2 : (10 : Int) ≤ (k : Int) := by omega
        have hi1 : (k : Int) < (D : Int) := by omega
        clear hlt
        go_wp2
        first | exact HF.out _ _ _ _ _ HE.out.2.2 HE.out.1 HE.out.2.1 | (go_ret; exact HF.out _ _ _ _ _ HE.out.2.2 HE.out.1 HE.out.2.1)
      · have hi1 : (D : Int) ≤ (k : Int) := by omega
        clear hlt
        go_wp2
        first | exact HF.out _ _ _ _ _ HE.out.2.2 HE.out.1 HE.out.2.1 | (go_ret; exact HF.out _ _ _ _ _ HE.out.2.2 HE.out.1 HE.out.2.1)
def ToldPost18 (ls : List (List Value)) (w : World) (r : Ending) (w' : World) : Prop := ∃ a c, r = .returned (.slice a ls.length c) ∧ Hid (NewV 47 3 w a c ls w')
end Go.Proofs.YtcbadcbnknmdnaaDoor
