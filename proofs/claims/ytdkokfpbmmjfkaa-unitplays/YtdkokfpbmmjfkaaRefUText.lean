/-
  Layer 8: a table as a text, by the document.
-/
import Derived.Test.YtdkokfpbmmjfkaaUnText
import Derived.Test.YtdkokfpbmmjfkaaOrdText
import Derived.Test.YtdkokfpbmmjfkaaDoes1
namespace Go.Proofs.Ytdkokfpbmmjfkaa
open Go.RowKit
set_option linter.unusedVariables false

theorem index5_any (a b c d e : Int) (j : Nat) (hj : j < 5) : ∀ w : World, (Instr.index 33 (.agg #[.int .i64 a, .int .i64 b, .int .i64 c, .int .i64 d, .int .i64 e]) (.int .i64 (j : Int))).run Try.prog w = .ok (.int .i64 ([a, b, c, d, e].getD j 0)) w := by
  have h : j = 0 ∨ j = 1 ∨ j = 2 ∨ j = 3 ∨ j = 4 := by omega
  rcases h with rfl | rfl | rfl | rfl | rfl
  · exact index5_0 a b c d e
  · exact index5_1 a b c d e
  · exact index5_2 a b c d e
  · exact index5_3 a b c d e
  · exact index5_4 a b c d e
theorem intsB_snoc5 (l : List Int) (j : Nat) (h : j < l.length) : intsB (l.take (j + 1)) = intsB (l.take j) ++ numB (zig (l.getD j 0)) := by
  have e : l.getD j 0 = l[j] := by simp [h]
  rw [intsB_snoc l j h, e]
theorem keep2c {W w' : World} (hb : Below W.heap.size W w') {X : Nat} {x y : Value} (h : W.cell? ⟨X, 0, none⟩ = some x ∧ W.cell? ⟨X, 1, none⟩ = some y) : w'.cell? ⟨X, 0, none⟩ = some x ∧ w'.cell? ⟨X, 1, none⟩ = some y := by
  have hX := block_lt_of_cell h.1
  exact ⟨(hb.cell (p := ⟨X, 0, none⟩) hX).trans h.1, (hb.cell (p := ⟨X, 1, none⟩) hX).trans h.2⟩
set_option maxRecDepth 100000 in
set_option maxHeartbeats 4000000 in
theorem refTabText_any (a : Option Addr) (c : Nat) (us : List Un) (g : Int) (w : World) (hok : TabOk us g) (h : RT w a c us) :
    Calls Try.prog 60 #[.agg #[.slice a us.length c, .int .i64 (g + 1)]] w fun r w' => r = .returned (.string (bs (tabB us g))) ∧ Below w.heap.size w w' := by
  have HOK := Lib.hid hok
  have HROW := Lib.hid h.row
  have hg0 := hok.2.2.2.1
  have hg1 := hok.2.2.2.2
  have h64 := hok.1
  generalize hul : us.length = n at h64 ⊢
  have HN := Lib.hid hul
  clear hul h hok
  have hwu : IntKind.u64.wrap (g + 1) = g + 1 := by rw [IntKind.wrap_u64]; omega
  have HU := Lib.hid (show (((g + 1).toNat : Nat) : Int) = g + 1 by omega)
  have hc1 := fun W => refNum_any (g + 1).toNat W (by omega)
  rw [HU.out] at hc1
  have hc2 := fun W => refCount_any (n : Int) W (by omega) (by omega)
  have s1 : (bs (numB (g + 1).toNat)).size ≤ 10 := by rw [bs_size]; exact numB_ten (by omega)
  have s2 : (bs (numB ((n : Int)).toNat)).size ≤ 10 := by rw [bs_size]; exact numB_ten (by omega)
  have HJ := Lib.hid (show bs (numB (g + 1).toNat) ++ bs (numB ((n : Int)).toNat) = bs (numsB [(g + 1).toNat] ++ countsB [(n : Int)]) by simp [numsB, countsB, bs_append])
  generalize bs (numB (g + 1).toNat) = A1 at hc1 HJ s1
  generalize bs (numB ((n : Int)).toNat) = A2 at hc2 HJ s2
  have v1 : ∀ W, (Op.stringOp .add A1 A2).run Try.prog W = .ok (.string (A1 ++ A2)) W := fun W => run_string_add_sum W _ _ (by omega)
  have HC1 := Lib.hid hc1
  have HC2 := Lib.hid hc2
  clear hc1 hc2 s1 s2
  have HBc := Lib.hid (bel_alloc (Below.refl _ w) (.cells #[.slice a n c, .int .i64 (g + 1)] 28)).drew
  have x0 : (w.alloc (.cells #[.slice a n c, .int .i64 (g + 1)] 28)).cell? ⟨w.heap.size, 0, none⟩ = some (.slice a n c) := by simp
  have x1 : (w.alloc (.cells #[.slice a n c, .int .i64 (g + 1)] 28)).cell? ⟨w.heap.size, 1, none⟩ = some (.int .i64 (g + 1)) := by simp
  go_enter Try.func60, Try.ntmps60
  go_wp2_with fail
  generalize w.alloc (.cells #[.slice a n c, .int .i64 (g + 1)] 28) = W0 at HBc x0 x1 ⊢
  generalize hX : w.heap.size = X at x0 x1 ⊢
  have HX := Lib.hid hX
  clear hX
  go_region_held3 (fun w' => w'.cell? ⟨X, 0, none⟩ = some (.slice a n c) ∧ w'.cell? ⟨X, 1, none⟩ = some (.int .i64 (g + 1)))
    (first | (refine keep2c hbK ?_; assumption) | exact ⟨x0, x1⟩)
    (first
      | (go_at_call 79; (with_reducible refine (HC1.out _).mono ?_); rintro e wK ⟨rfl, hbK⟩; have HBc := Lib.hid (HBc.out.trans (hbK.mono HBc.out.size)))
      | (go_at_call 78; (with_reducible refine (HC2.out _).mono ?_); rintro e wK ⟨rfl, hbK⟩; have HBc := Lib.hid (HBc.out.trans (hbK.mono HBc.out.size))))
  all_goals
    have HB1 := Lib.hid HBc.out
    have x0' : wK.cell? ⟨X, 0, none⟩ = some (.slice a n c) := (show wK.cell? ⟨X, 0, none⟩ = some (.slice a n c) ∧ wK.cell? ⟨X, 1, none⟩ = some (.int .i64 (g + 1)) by assumption).1
    have hXl := block_lt_of_cell x0'
    simp only at hXl
    rw [HJ.out]
    clear v1 HC1 HC2 HBc x0 x1 HJ
    go_wp2
    go_loopw [3, 4, 21] (fun sv av iv wr => ∃ k : Nat, k ≤ n ∧ iv = .int .i64 k ∧ av = .int .i64 (lastId 0 (us.take k)) ∧ sv = .string (bs (numsB [(g + 1).toNat] ++ countsB [(n : Int)] ++ unsB 0 (us.take k))) ∧ Hid (Below w.heap.size w wr)) (fun _ _ iv _ => n - (intOf iv).toNat)
    case atStart => exact ⟨0, by omega, rfl, by simp [lastId], by simp [unsB], HB1⟩
    case round =>
      obtain ⟨k, hk, rfl, rfl, rfl, HB⟩ := hrel
      by_cases hlt : k < n
      · have hlu : k < us.length := by rw [HN.out]; exact hlt
        have HS := Lib.hid (unsB_snoc us k hlu)
        have HLI := Lib.hid (lastId_snoc us k hlu)
        have HLT := Lib.hid (lastId_lt HOK.out k hlu)
        have HUK := Lib.hid (HOK.out.2.2.1 _ (List.getElem_mem hlu))
        have HLN : Hid ((numsB [(g + 1).toNat] ++ countsB [(n : Int)] ++ unsB 0 (us.take k)).length ≤ 5000) := Lib.hid (by
          have h1 := numsB_len [(g + 1).toNat] (by intro x hx; simp at hx; omega)
          have h2 := countsB_len (ns := [(n : Int)]) (by intro x hx; simp at hx; omega)
          have h3 := unsB_len HOK.out k (by omega)
          simp only [List.length_append]
          simp at h1 h2
          omega)
        obtain ⟨gb, off, rfl, hgb, c0', c1, c2, c3, c4, c5⟩ := (HROW.out.below HB.out).at hlu
        generalize us[k] = u at c0' c1 c2 c3 c4 c5 HS HLI HLT HUK
        generalize hla : lastId 0 (us.take k) = la at HS HLT ⊢
        clear hla
        obtain ⟨u0, u1, u2, u3, u4, u5⟩ := u
        simp only at c0' c1 c2 c3 c4 c5
        have b0 := HLT.out
        have b1 := HUK.out.2.1
        simp only at b0 b1
        have hwi : IntKind.i64.wrap (u0 - la) = u0 - la := by rw [IntKind.wrap_i64]; omega
        have hwv : IntKind.u64.wrap (u0 - la) = u0 - la := by rw [IntKind.wrap_u64]; omega
        have HU2 := Lib.hid (show (((u0 - la).toNat : Nat) : Int) = u0 - la by omega)
        have hk0 : (0 : Int) ≤ (k : Int) := by omega
        have hk1 : (k : Int) < (n : Int) := by omega
        have HN4 := Lib.hid (show ∀ x ∈ [u1, u2, u3, u4, u5], B64 x by
          obtain ⟨m0, m1, m2, m3, m4⟩ := HUK.out.2.2
          simp [mayN] at m0 m1 m2 m3 m4
          intro x hx
          simp at hx
          unfold B64
          rcases hx with rfl | rfl | rfl | rfl | rfl <;> omega)
        have hc3 := fun W => refNum_any (u0 - la).toNat W (by omega)
        rw [HU2.out] at hc3
        have HC3 := Lib.hid hc3
        generalize hLE : numsB [(g + 1).toNat] ++ countsB [(n : Int)] ++ unsB 0 (us.take k) = L at HLN
        have HLE := Lib.hid hLE
        have s3 : (bs (numB (u0 - la).toNat)).size ≤ 10 := by rw [bs_size]; exact numB_ten (by omega)
        have s4 : (bs L).size ≤ 5000 := by rw [bs_size]; exact HLN.out
        have HJ2 := Lib.hid (show bs L ++ bs (numB (u0 - la).toNat) = bs (L ++ numsB [(u0 - la).toNat]) by simp [numsB, bs_append])
        have HML := Lib.hid (show (L ++ numsB [(u0 - la).toNat]).length ≤ 5010 by
          have h2 := numsB_len [(u0 - la).toNat] (by intro x hx; simp at hx; omega)
          have := HLN.out
          simp at h2; simp; omega)
        generalize hM : L ++ numsB [(u0 - la).toNat] = M at HJ2 HML
        have HM := Lib.hid hM
        generalize bs (numB (u0 - la).toNat) = A3 at HC3 HJ2 s3
        generalize bs L = S0 at HJ2 s4 ⊢
        have v2 : ∀ W, (Op.stringOp .add S0 A3).run Try.prog W = .ok (.string (S0 ++ A3)) W := fun W => run_string_add_sum W _ _ (by omega)
        clear hLE hM hc3 b0 b1 s3 s4
        have HBA := Lib.hid (bel_alloc HB.out (.cells #[.int .i64 u0, .int .i64 u1, .int .i64 u2, .int .i64 u3, .int .i64 u4, .int .i64 u5] 113))
        go_wp2_with fail
        refine (HC3.out _).mono ?_
        rintro r w2 ⟨rfl, hb2⟩
        have q0 : w2.cell? ⟨wr.heap.size, 0, none⟩ = some (.int .i64 u0) := (hb2.cell (p := ⟨wr.heap.size, 0, none⟩) (by simp)).trans (by simp)
        have q1 : w2.cell? ⟨wr.heap.size, 1, none⟩ = some (.int .i64 u1) := (hb2.cell (p := ⟨wr.heap.size, 1, none⟩) (by simp)).trans (by simp)
        have q2 : w2.cell? ⟨wr.heap.size, 2, none⟩ = some (.int .i64 u2) := (hb2.cell (p := ⟨wr.heap.size, 2, none⟩) (by simp)).trans (by simp)
        have q3 : w2.cell? ⟨wr.heap.size, 3, none⟩ = some (.int .i64 u3) := (hb2.cell (p := ⟨wr.heap.size, 3, none⟩) (by simp)).trans (by simp)
        have q4 : w2.cell? ⟨wr.heap.size, 4, none⟩ = some (.int .i64 u4) := (hb2.cell (p := ⟨wr.heap.size, 4, none⟩) (by simp)).trans (by simp)
        have q5 : w2.cell? ⟨wr.heap.size, 5, none⟩ = some (.int .i64 u5) := (hb2.cell (p := ⟨wr.heap.size, 5, none⟩) (by simp)).trans (by simp)
        have hYl := block_lt_of_cell q0
        simp only at hYl
        have HB2 := Lib.hid (HBA.out.trans (hb2.mono HBA.out.size))
        generalize wr.heap.size = Y at q0 q1 q2 q3 q4 q5 hYl ⊢
        clear hb2 HC3 HBA c0' c1 c2 c3 c4 c5
        have HI5 := Lib.hid (index5_any u1 u2 u3 u4 u5)
        have HSN := Lib.hid (fun j (hj : j < 5) => intsB_snoc5 [u1, u2, u3, u4, u5] j hj)
        have HFB := Lib.hid (fun j (hj : j < 5) => HN4.out _ (show [u1, u2, u3, u4, u5].getD j 0 ∈ [u1, u2, u3, u4, u5] by
          have e : j = 0 ∨ j = 1 ∨ j = 2 ∨ j = 3 ∨ j = 4 := by omega
          rcases e with rfl | rfl | rfl | rfl | rfl <;> simp))
        have HFL := Lib.hid (fun j (hj : j ≤ 5) => show (intsB ([u1, u2, u3, u4, u5].take j)).length ≤ 50 by
          have h1 := intsB_len2 (ns := [u1, u2, u3, u4, u5].take j) (fun x hx => HN4.out x (List.mem_of_mem_take hx))
          have h2 := List.length_take_le j [u1, u2, u3, u4, u5]
          omega)
        have HT5 := Lib.hid (show [u1, u2, u3, u4, u5].take 5 = [u1, u2, u3, u4, u5] from rfl)
        generalize hF : [u1, u2, u3, u4, u5] = F at HI5 HSN HFB HFL HT5
        have HF := Lib.hid hF
        clear hF
        go_wp2
        rw [HJ2.out]
        clear v2
        go_loopw [3, 35] (fun sv jv wr => ∃ j : Nat, j ≤ 5 ∧ jv = .int .i64 j ∧ sv = .string (bs (M ++ intsB (F.take j))) ∧ Hid (Below w.heap.size w wr) ∧ wr.cell? ⟨Y, 0, none⟩ = some (.int .i64 u0)) (fun _ jv _ => 5 - (intOf jv).toNat)
        case atStart => exact ⟨0, by omega, rfl, by simp [intsB, numsB], HB2, q0⟩
        case round =>
          obtain ⟨j, hj, rfl, rfl, HB3, q0'⟩ := hrel
          have hYl3 := block_lt_of_cell q0'
          simp only at hYl3
          by_cases hlt5 : j < 5
          · have hix := HI5.out j hlt5
            have HSJ := Lib.hid (HSN.out j hlt5)
            have fb := HFB.out j hlt5
            have fl := HFL.out j hj
            have ml := HML.out
            generalize F.getD j 0 = f at hix HSJ fb
            have hc4 := fun W => refInt_any f W fb.1 fb.2
            have s5 : (bs (numB (zig f))).size ≤ 10 := by rw [bs_size]; exact numB_ten (zig_lt fb.1 fb.2)
            have s6 : (bs (M ++ intsB (F.take j))).size ≤ 5060 := by rw [bs_size, List.length_append]; omega
            have HJ3 := Lib.hid (show bs (M ++ intsB (F.take j)) ++ bs (numB (zig f)) = bs (M ++ intsB (F.take (j + 1))) by rw [HSJ.out, ← List.append_assoc, bs_append])
            generalize bs (numB (zig f)) = A5 at hc4 s5 HJ3
            generalize bs (M ++ intsB (F.take j)) = S5 at s6 HJ3 ⊢
            have v3 : ∀ W, (Op.stringOp .add S5 A5).run Try.prog W = .ok (.string (S5 ++ A5)) W := fun W => run_string_add_sum W _ _ (by omega)
            have HC4 := Lib.hid hc4
            clear hc4 s5 s6 fb fl ml
            have hj0 : (0 : Int) ≤ (j : Int) := by omega
            have hj1 : (j : Int) < (5 : Int) := by omega
            go_wp2_with fail
            refine (HC4.out _).mono ?_
            rintro r w6 ⟨rfl, hb6⟩
            have q6 : w6.cell? ⟨Y, 0, none⟩ = some (.int .i64 u0) := (hb6.cell (p := ⟨Y, 0, none⟩) hYl3).trans q0'
            have HB6 := Lib.hid (HB3.out.trans (hb6.mono HB3.out.size))
            clear hb6 HC4
            go_wp2
            go_roundw
            case rel => exact ⟨j + 1, by omega, by go_num, by rw [HJ3.out], HB6, q6⟩
            case measure => simp [intOf]; omega
          · obtain rfl : j = 5 := by omega
            have HEN := Lib.hid (show M ++ intsB (F.take 5) = numsB [(g + 1).toNat] ++ countsB [(n : Int)] ++ unsB 0 (us.take (k + 1)) by
              rw [HT5.out, HS.out, ← List.append_assoc, HLE.out, ← HM.out, ← HF.out, List.append_assoc]; rfl)
            rw [HEN.out]
            go_wp2
            go_roundw
            case rel => exact ⟨k + 1, by omega, by go_num, by rw [HLI.out], rfl, HB3⟩
            case measure => simp [intOf]; omega
      · obtain rfl : k = n := by omega
        have HE := Lib.hid (show numsB [(g + 1).toNat] ++ countsB [(k : Int)] ++ unsB 0 (us.take k) = tabB us g by unfold tabB; rw [HN.out, ← HN.out, List.take_length])
        rw [HE.out]
        go_wp2
        go_ret
        exact ⟨rfl, HB.out⟩
end Go.Proofs.Ytdkokfpbmmjfkaa
