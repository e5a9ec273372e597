/-
  Layer 11: the document's pieces.
-/
import Derived.Test.YtdkokfpbmmjfkaaChunk4
namespace Go.Proofs.Ytdkokfpbmmjfkaa
open Go.RowKit
set_option linter.unusedVariables false

structure RsMem (w : World) (ls : List Pc) (a : Option Addr) (c : Nat) (wr : World) : Prop where
  row : OwnV 71 5 w.heap.size a c (ls.map pcCells) wr
  bel : Below w.heap.size w wr
theorem RsMem.step {w : World} {ls : List Pc} {a : Option Addr} {c : Nat} {wr : World} (h : RsMem w ls a c wr) (p : Pc) (hl : ls.length ≤ 1000) (k : Nat) (hk : ls.length = k) :
    ∃ a' c' w', (Builtin.append_ #[61, 61] 61 #[.slice a k c, .slice (some ⟨wr.heap.size, 0, none⟩) 1 1]).run Try.prog (wr.alloc (.cells #[.int .i64 p.turn, .int .i64 p.bytes, .int .u64 (p.hash : Int), .int .i64 p.n, .string (bs p.text)] 71)) = .ok (.slice a' (k + 1) c') w' ∧ RsMem w (ls ++ [p]) a' c' w' := by
  subst hk
  obtain ⟨a', c', w', hrun, hnew, htch⟩ := h.row.one (t := 61) (ty := 61) rpcTy Try.underlying61 h.bel.size (pcCells p) (by have := pc_wide [p] (pcCells p) (by simp); exact this) (by simp; omega) _ rfl
  simp only [List.length_map] at hrun
  have nlo : ∀ j, j < w.heap.size → ¬ a.map (·.block) = some j := fun j hj e => by
    cases a with
    | none => simp at e
    | some x => simp at e; have := h.row.2 x rfl; omega
  exact ⟨a', c', w', hrun, by rw [List.map_append]; exact hnew, h.bel.trans (htch.below h.bel.size nlo)⟩
theorem made0' (W : World) (k : Nat) (hk : W.heap.size = k) : (W.alloc (.cells #[] 71)).ownsRow 0 71 5 (.slice (some ⟨k, 0, none⟩) 0 0) 0 [] := by
  subst hk
  refine ⟨by simp, .inr ⟨W.heap.size, 0, #[], rfl, Nat.zero_le _, ?_, Nat.le_refl _, by unfold maxLen; omega, by simp, by simp⟩⟩
  show (W.heap.push (.cells #[] 71))[W.heap.size]? = _
  simp
set_option maxRecDepth 100000 in
set_option maxHeartbeats 2000000 in
theorem refSplit_any (turn : Int) (l : List UInt8) (w : World) (hl : l.length ≤ 65536) : Calls Try.prog 47 #[.int .i64 turn, .string (bs l)] w (SplitPost 71 w (splitL turn l)) := by
  have hz := bs_size l
  have HOF := Lib.hid (fun W => refOf_any (bs l) W (by rw [bs_size]; unfold maxLen; omega))
  have HH : Hid (fnvS 14695981039346656037 (bs l).data.toList = sumOf l) := Lib.hid (by rw [bs_list]; rfl)
  rw [HH.out] at HOF
  have HC := Lib.hid (fun W => refCount11_any (l.length : Int) (by omega) (by omega) W)
  rw [countP_nat] at HC
  have hcn : cntN l.length ≤ 656 := by unfold cntN; omega
  generalize hpost : SplitPost 71 w (splitL turn l) = Post
  have HPost := Lib.hid hpost
  clear hpost HH
  generalize hsm : sumOf l = sm at HOF
  have HSM := Lib.hid hsm
  clear hsm
  go_enter Try.func47, Try.ntmps47
  have HM : Hid (RsMem w (splitK turn l 0) (some ⟨w.heap.size, 0, none⟩) 0 (w.alloc (.cells #[] 71))) := Lib.hid ⟨⟨made0' _ _ rfl, fun x hx => by cases hx; simp⟩, bel_alloc (Below.refl _ _) _⟩
  go_wp2
  go_loopw [5, 6] (fun lv iv wr => ∃ (k : Nat) (a : Option Addr) (c : Nat), k ≤ cntN l.length ∧ lv = .slice a k c ∧ iv = .int .i64 k ∧ Hid (RsMem w (splitK turn l k) a c wr)) (fun _ iv _ => 1000 - (intOf iv).toNat)
  case atStart => exact ⟨0, _, _, Nat.zero_le _, rfl, rfl, HM⟩
  case round =>
    obtain ⟨k, a, c, hk, rfl, rfl, HR⟩ := hrel
    by_cases hlt : k < cntN l.length
    · have hk2 : k + 1 ≤ cntN l.length := hlt
      have h100 : 100 * k < l.length := by unfold cntN at hlt; omega
      have HN := Lib.hid (splitK_succ turn l k)
      have HLN := Lib.hid (splitK_len turn l k)
      generalize splitK turn l k = ls at HR HN HLN
      have HPA := Lib.hid (show pcAt turn l k = ⟨turn, (l.length : Int), sumOf l, (k : Int), (l.drop (100 * k)).take 100⟩ from rfl)
      have hd : ((k : Int) < (cntN l.length : Int)) := by omega
      have hw1 : IntKind.i64.wrap (100 * (k : Int)) = 100 * (k : Int) := by rw [IntKind.wrap_i64]; omega
      have hw2 : IntKind.i64.wrap (100 * (k : Int) + 100) = 100 * (k : Int) + 100 := by rw [IntKind.wrap_i64]; omega
      obtain ⟨a', c', w', hrun, hmem⟩ := RsMem.step (wr := wr.drew) ⟨HR.out.row, HR.out.bel.drew⟩ ⟨turn, (l.length : Int), sm, (k : Int), (l.drop (100 * k)).take 100⟩ (by rw [HLN.out]; omega) k HLN.out
      simp only at hrun
      have HRUN : Hid ((Builtin.append_ #[61, 61] 61 #[.slice a k c, .slice (some ⟨wr.heap.size, 0, none⟩) 1 1]).run Try.prog (wr.drew.alloc (.cells #[.int .i64 turn, .int .i64 (l.length : Int), .int .u64 (sm : Int), .int .i64 (k : Int), .string (bs ((l.drop (100 * k)).take 100))] 71)) = .ok (.slice a' (k + 1) c') w') := Lib.hid hrun
      have HMEM := Lib.hid hmem
      clear hrun hmem HR HM
      go_wp2_with fail
      refine (HC.out _).mono ?_
      rintro r w2 ⟨rfl, rfl⟩
      by_cases hA : 100 * k + 100 ≤ l.length
      · have i1 : (if (l.length : Int) < 100 * (k : Int) + 100 then (l.length : Int) else 100 * (k : Int) + 100) = 100 * (k : Int) + 100 := if_neg (by omega)
        have i2 : 100 * (k : Int) + 100 ≤ (l.length : Int) := by omega
        have i3 : (0 : Int) ≤ 100 * (k : Int) := by omega
        have i5 : (0 : Int) ≤ 100 * (k : Int) + 100 := by omega
        have i6 : 100 * (k : Int) ≤ 100 * (k : Int) + 100 := by omega
        have n1 : (100 * (k : Int)).toNat = 100 * k := by omega
        have n2 : (100 * (k : Int) + 100).toNat = 100 * k + 100 := by omega
        have s1 : (bs l).extract (100 * k) (100 * k + 100) = bs ((l.drop (100 * k)).take 100) := by rw [extract_list, bs_list]; congr 2; omega
        go_upto_region 5 with (fail)
        go_region_law (first
          | (go_simp; go_at_call 74; refine (HOF.out _).mono ?_; rintro e wO ⟨rfl, rfl⟩)
          | (refine step_append_run _ rfl (.tmp 15) (.tmp 33) 61 61 rfl _ _ (by rfl) (by rfl) (.slice a' (k + 1) c') w' HRUN.out ?_))
        all_goals
          go_wp2
          go_roundw
          case rel => exact ⟨k + 1, a', c', hk2, rfl, by go_num, Lib.hid (by rw [HN.out, HPA.out, HSM.out]; exact HMEM.out)⟩
          case measure => simp [intOf]; omega
      · have i1 : (if (l.length : Int) < 100 * (k : Int) + 100 then (l.length : Int) else 100 * (k : Int) + 100) = (l.length : Int) := if_pos (by omega)
        have i2 : decide ((l.length : Int) < 100 * (k : Int) + 100) = true := by simp; omega
        have i3 : (0 : Int) ≤ 100 * (k : Int) := by omega
        have i5 : (0 : Int) ≤ 100 * (k : Int) + 100 := by omega
        have i6 : 100 * (k : Int) ≤ 100 * (k : Int) + 100 := by omega
        have i4 : 100 * (k : Int) ≤ (l.length : Int) := by omega
        have n1 : (100 * (k : Int)).toNat = 100 * k := by omega
        have s1 : (bs l).extract (100 * k) l.length = bs ((l.drop (100 * k)).take 100) := by
          rw [extract_list, bs_list]
          congr 1
          rw [List.take_of_length_le (by simp), List.take_of_length_le (by simp; omega)]
        go_upto_region 5 with (fail)
        go_region_law (first
          | (go_simp; go_at_call 74; refine (HOF.out _).mono ?_; rintro e wO ⟨rfl, rfl⟩)
          | (refine step_append_run _ rfl (.tmp 15) (.tmp 33) 61 61 rfl _ _ (by rfl) (by rfl) (.slice a' (k + 1) c') w' HRUN.out ?_))
        all_goals
          go_wp2
          go_roundw
          case rel => exact ⟨k + 1, a', c', hk2, rfl, by go_num, Lib.hid (by rw [HN.out, HPA.out, HSM.out]; exact HMEM.out)⟩
          case measure => simp [intOf]; omega
    · obtain rfl : k = cntN l.length := by omega
      have HLN := Lib.hid (splitK_len turn l (cntN l.length))
      have hd : decide ((cntN l.length : Int) < (cntN l.length : Int)) = false := by simp
      go_wp2_with fail
      refine (HC.out _).mono ?_
      rintro r w2 ⟨rfl, rfl⟩
      go_wp2
      rw [← HPost.out]
      exact ⟨a, c, by rw [show (splitL turn l).length = cntN l.length from HLN.out]; rfl, HR.out.row, HR.out.bel⟩
end Go.Proofs.Ytdkokfpbmmjfkaa
