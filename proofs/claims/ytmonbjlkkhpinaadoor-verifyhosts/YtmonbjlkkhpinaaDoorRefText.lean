/-
  The document's own bytes of an image: what they come to.
-/
import Derived.Test.YtmonbjlkkhpinaaDoorRMem
import Derived.Test.YtmonbjlkkhpinaaDoorWireRef
import Derived.Test.YtmonbjlkkhpinaaDoorCodeMath
import Derived.Deep.RegionHeld3
namespace Go.Proofs.YtmonbjlkkhpinaaDoor
open Go.RowKit
set_option linter.unusedVariables false

theorem keep3 {W w' : World} (hb : Below W.heap.size W w') {B : Nat} {x y z : Value} (h : W.cell? ⟨B, 0, none⟩ = some x ∧ W.cell? ⟨B, 1, none⟩ = some y ∧ W.cell? ⟨B, 2, none⟩ = some z) :
    w'.cell? ⟨B, 0, none⟩ = some x ∧ w'.cell? ⟨B, 1, none⟩ = some y ∧ w'.cell? ⟨B, 2, none⟩ = some z := by
  have hB := block_lt_of_cell h.1
  exact ⟨(hb.cell (p := ⟨B, 0, none⟩) hB).trans h.1, (hb.cell (p := ⟨B, 1, none⟩) hB).trans h.2.1, (hb.cell (p := ⟨B, 2, none⟩) hB).trans h.2.2⟩
theorem text_parts (L : List UInt8) (a b c : Nat) : bs L ++ (bs (numB a) ++ bs (numB b) ++ bs (numB c)) = bs (L ++ (numB a ++ (numB b ++ numB c))) := by
  simp only [bs_append, List.append_assoc]
set_option maxHeartbeats 2000000 in
set_option maxRecDepth 100000 in
theorem refText_any (a : Option Addr) (cap : Nat) (m : List Fn) (w : World) (hm : ImgOk m) (hr : RFnRow w a m) :
    Calls Tryd.prog 15 #[.slice a m.length cap] w fun e w' => e = .returned (.string (bs (textB m))) ∧ Below w.heap.size w w' := by
  have hl := hm.1
  have HM := Lib.hid hm.2
  have HR := Lib.hid hr
  clear hm hr
  have HC := Lib.hid (refCount_any (m.length : Int) w (by omega) (by omega))
  go_enter Tryd.func15, Tryd.ntmps15
  go_wp2_with fail
  refine HC.out.mono ?_
  rintro e w1 ⟨rfl, hb1⟩
  have HB1 := Lib.hid hb1
  have HZ : Hid (numB (m.length : Int).toNat = countsB [(m.length : Int)]) := Lib.hid (by simp [countsB, numsB])
  rw [HZ.out]
  clear hb1 HC HZ
  go_wp2
  go_loopw [3, 13] (fun s i wr => ∃ k : Nat, k ≤ m.length ∧ i = .int .i64 k ∧ s = .string (bs (countsB [(m.length : Int)] ++ fnsB (m.take k))) ∧ Hid (Below w.heap.size w wr)) (fun _ i _ => m.length - (intOf i).toNat)
  case atStart => exact ⟨0, by omega, rfl, by simp [fnsB], HB1⟩
  case round =>
    obtain ⟨k, hk, rfl, rfl, HB⟩ := hrel
    have hz := HB.out.size
    by_cases hlt : k < m.length
    · have HS := Lib.hid (fnsB_snoc m k hlt)
      have HLN : Hid ((countsB [(m.length : Int)] ++ fnsB (m.take k)).length ≤ 30000000) := Lib.hid (by
        have h1 := countsB_len (ns := [(m.length : Int)]) (by intro x hx; simp at hx; omega)
        have h2 := fnsB_len (m := m.take k) (fun f hf => HM.out f (List.mem_of_mem_take hf))
        have h3 := List.length_take_le k m
        rw [List.length_append]
        simp at h1
        omega)
      obtain ⟨b, off, rfl, hcell⟩ := HR.out (by omega)
      obtain ⟨c0, c1, x, c, c2, hir⟩ := hcell k hlt
      have hbw : b < w.heap.size := block_lt_of_cell c0
      replace c0 := (HB.out.cell (p := ⟨b, off + k * 3, none⟩) hbw).trans c0
      replace c1 := (HB.out.cell (p := ⟨b, off + k * 3 + 1, none⟩) hbw).trans c1
      replace c2 := (HB.out.cell (p := ⟨b, off + k * 3 + 2, none⟩) hbw).trans c2
      have HIR := Lib.hid hir
      have HOK := Lib.hid (HM.out _ (List.getElem_mem hlt))
      have hcl := HOK.out.2.2.2.2.1
      have hb : b < wr.heap.size := by omega
      clear hcell hir
      generalize m[k] = f at HS c0 c1 c2 hcl HIR HOK
      obtain ⟨ar, lo, co⟩ := f
      simp only at c0 c1 c2 hcl HIR
      generalize hL : countsB [(m.length : Int)] ++ fnsB (m.take k) = L at HLN
      have HLL := Lib.hid hL
      clear hL
      have o1 : -9223372036854775808 ≤ ar ∧ ar ≤ 9223372036854775807 := ⟨HOK.out.1, HOK.out.2.1⟩
      have o2 : -9223372036854775808 ≤ lo ∧ lo ≤ 9223372036854775807 := ⟨HOK.out.2.2.1, HOK.out.2.2.2.1⟩
      have HO1 := Lib.hid o1
      have HO2 := Lib.hid o2
      clear o1 o2
      have hc1 := fun W => refCount_any ar W HO1.out.1 HO1.out.2
      have hc2 := fun W => refCount_any lo W HO2.out.1 HO2.out.2
      have hc3 := fun W => refCount_any (co.length : Int) W (by omega) (by omega)
      have HTP := Lib.hid (text_parts L ar.toNat lo.toNat (co.length : Int).toNat)
      have s0 : (bs L).size ≤ 30000000 := by rw [bs_size]; exact HLN.out
      have s1 : (bs (numB ar.toNat)).size ≤ 10 := by rw [bs_size]; exact numB_ten (by have := HO1.out; omega)
      have s2 : (bs (numB lo.toNat)).size ≤ 10 := by rw [bs_size]; exact numB_ten (by have := HO2.out; omega)
      have s3 : (bs (numB (co.length : Int).toNat)).size ≤ 10 := by rw [bs_size]; exact numB_ten (by omega)
      have HBS : Hid (bs L = bs L) := Lib.hid rfl
      generalize bs (numB ar.toNat) = A1 at hc1 HTP s1
      generalize bs (numB lo.toNat) = A2 at hc2 HTP s2
      generalize bs (numB (co.length : Int).toNat) = A3 at hc3 HTP s3
      generalize bs L = A0 at HTP s0 HBS
      have u1 : ∀ W, (Op.stringOp .add A1 A2).run Tryd.prog W = .ok (.string (A1 ++ A2)) W := fun W => run_string_add_sum W _ _ (by omega)
      have u2 : ∀ W, (Op.stringOp .add (A1 ++ A2) A3).run Tryd.prog W = .ok (.string (A1 ++ A2 ++ A3)) W := fun W => run_string_add_sum W _ _ (by rw [ByteArray.size_append]; omega)
      have u3 : ∀ W, (Op.stringOp .add A0 (A1 ++ A2 ++ A3)).run Tryd.prog W = .ok (.string (A0 ++ (A1 ++ A2 ++ A3))) W := fun W => run_string_add_sum W _ _ (by rw [ByteArray.size_append, ByteArray.size_append]; omega)
      have HC1 := Lib.hid hc1
      have HC2 := Lib.hid hc2
      have HC3 := Lib.hid hc3
      clear hc1 hc2 hc3 HBS
      obtain ⟨wo, rfl⟩ : ∃ wo : World, wo = wr := ⟨_, rfl⟩
      go_upto_region 5 with (fail)
      have HBc : Hid (Below w.heap.size w (wo.alloc (.cells #[.int .i64 ar, .int .i64 lo, .slice x co.length c] 63)).drew) := Lib.hid ((HB.out.alloc hz _).drew)
      go_region_held3 (fun w' => w'.cell? ⟨wo.heap.size, 0, none⟩ = some (.int .i64 ar) ∧ w'.cell? ⟨wo.heap.size, 1, none⟩ = some (.int .i64 lo) ∧ w'.cell? ⟨wo.heap.size, 2, none⟩ = some (.slice x co.length c))
        (first | (refine keep3 hbK ?_; assumption) | go_keep)
        (first | (go_at_call 43; (first | with_reducible refine (HC1.out _).mono ?_ | with_reducible refine (HC2.out _).mono ?_ | with_reducible refine (HC3.out _).mono ?_); rintro e wK ⟨rfl, hbK⟩; have HBc := Lib.hid (HBc.out.trans (hbK.mono HBc.out.size))))
      have hS : wK.cell? ⟨wo.heap.size, 0, none⟩ = some (.int .i64 ar) ∧ wK.cell? ⟨wo.heap.size, 1, none⟩ = some (.int .i64 lo) ∧ wK.cell? ⟨wo.heap.size, 2, none⟩ = some (.slice x co.length c) := by assumption
      have g2 := hS.2.2
      have hzK : wo.heap.size < wK.heap.size := block_lt_of_cell g2
      have HBK := Lib.hid HBc.out
      clear hS s1 s2 s3 u1 u2 u3
      go_wp2
      rw [HTP.out]
      have HCN := Lib.hid (counts3 ar lo co.length)
      rw [show ((co.length : Int).toNat) = co.length by omega, ← HCN.out]
      go_loopw [3, 34] (fun s i wq => ∃ j : Nat, j ≤ co.length ∧ i = .int .i64 j ∧ s = .string (bs (L ++ countsB [ar, lo, (co.length : Int)] ++ codeB (co.take j))) ∧ Hid (Below w.heap.size w wq)) (fun _ i _ => co.length - (intOf i).toNat)
      case atStart => exact ⟨0, by omega, rfl, by simp [codeB], HBK⟩
      case round =>
        obtain ⟨j, hj, rfl, rfl, HBj⟩ := hrel
        have HLj : Hid ((L ++ countsB [ar, lo, (co.length : Int)] ++ codeB (co.take j)).length ≤ 40000000) := Lib.hid (by
          have h1 := countsB_len (ns := [ar, lo, (co.length : Int)]) (by intro x hx; have h1 := HO1.out.2; have h2 := HO2.out.2; simp at hx; omega)
          have h2 := codeB_len (l := co.take j) (fun f hf => HOK.out.2.2.2.2.2 f (List.mem_of_mem_take hf))
          have h3 := List.length_take_le j co
          have h4 := HLN.out
          simp only [List.length_append, List.length_cons, List.length_nil] at h1 ⊢
          omega)
        have hzj := HBj.out.size
        by_cases hjl : j < co.length
        · have HSj := Lib.hid (codeB_snoc co j hjl)
          obtain ⟨b2, off2, rfl, hcell⟩ := HIR.out.below HBj.out (by omega)
          obtain ⟨e0, e1⟩ := hcell j hjl
          have hb2 := block_lt_of_cell e0
          have HXO := Lib.hid (HOK.out.2.2.2.2.2 _ (List.getElem_mem hjl))
          clear hcell
          generalize co[j] = ins at HSj e0 e1 HXO
          obtain ⟨op, ag⟩ := ins
          simp only at e0 e1
          have hop : op < 256 := HXO.out.1
          generalize hQ : L ++ countsB [ar, lo, (co.length : Int)] ++ codeB (co.take j) = Q at HLj
          have HQ := Lib.hid hQ
          clear hQ
          have q0 : (bs Q).size ≤ 40000000 := by rw [bs_size]; exact HLj.out
          have q1 : (bs (numB op)).size ≤ 10 := by rw [bs_size]; exact numB_ten (by omega)
          have HN1 := Lib.hid (fun W => refNum_any op W (by omega))
          have HN2 := Lib.hid (fun W => refInt_any ag W HXO.out.2.1 HXO.out.2.2)
          have q2 : (bs (numB (zig ag))).size ≤ 10 := by rw [bs_size]; exact numB_ten (zig_lt HXO.out.2.1 HXO.out.2.2)
          have HH := Lib.hid (refHasArg_any op)
          cases hA : hasA op
          · rw [hA] at HH
            have HE : Hid (bs (Q ++ insB (op, ag)) = bs Q ++ bs (numB op)) := Lib.hid (by simp [insB, hA, bs_append])
            clear hA
            go_wp2_with fail
            refine (HN1.out _).mono ?_
            rintro e w5 ⟨rfl, hb5⟩
            have HB5 := Lib.hid (show Below w.heap.size w w5 from (HBj.out.alloc hzj _).trans (hb5.mono (by simp; omega)))
            have d0 : w5.cell? ⟨wr.heap.size, 0, none⟩ = some (.int .i64 op) := (hb5.cell (p := ⟨wr.heap.size, 0, none⟩) (by simp)).trans (by simp)
            have hz5 : wr.heap.size < w5.heap.size := block_lt_of_cell d0
            clear hb5
            go_wp2_with (go_at_call 23; refine (HH.out _).mono ?_; rintro e w' ⟨rfl, rfl⟩)
            go_roundw
            case rel => exact ⟨j + 1, by omega, by go_num, by rw [HSj.out, ← List.append_assoc, HQ.out, HE.out], HB5⟩
            case measure => simp [intOf]; omega
          · rw [hA] at HH
            have HE : Hid (bs (Q ++ insB (op, ag)) = bs Q ++ bs (numB op) ++ bs (numB (zig ag))) := Lib.hid (by simp [insB, hA, bs_append])
            clear hA
            go_wp2_with fail
            refine (HN1.out _).mono ?_
            rintro e w5 ⟨rfl, hb5⟩
            have HB5 := Lib.hid (show Below w.heap.size w w5 from (HBj.out.alloc hzj _).trans (hb5.mono (by simp; omega)))
            have d0 : w5.cell? ⟨wr.heap.size, 0, none⟩ = some (.int .i64 op) := (hb5.cell (p := ⟨wr.heap.size, 0, none⟩) (by simp)).trans (by simp)
            have d1 : w5.cell? ⟨wr.heap.size, 1, none⟩ = some (.int .i64 ag) := (hb5.cell (p := ⟨wr.heap.size, 1, none⟩) (by simp)).trans (by simp)
            have hz5 : wr.heap.size < w5.heap.size := block_lt_of_cell d0
            clear hb5
            go_wp2_with (first | (go_at_call 23; refine (HH.out _).mono ?_; rintro e w' ⟨rfl, rfl⟩) | fail)
            refine (HN2.out _).mono ?_
            rintro e w6 ⟨rfl, hb6⟩
            have HB6 := Lib.hid (HB5.out.trans (hb6.mono HB5.out.size))
            clear hb6
            go_wp2
            go_roundw
            case rel => exact ⟨j + 1, by omega, by go_num, by rw [HSj.out, ← List.append_assoc, HQ.out, HE.out], HB6⟩
            case measure => simp [intOf]; omega
        · go_wp2
          go_roundw
          case rel => exact ⟨k + 1, by omega, by go_num, by
            rw [List.take_of_length_le (by omega), HS.out, ← List.append_assoc, HLL.out, fnB, List.append_assoc], HBj⟩
          case measure => simp [intOf]; omega
    · go_wp2
      go_ret
      exact ⟨by rw [List.take_of_length_le (by omega)]; rfl, HB.out⟩
end Go.Proofs.YtmonbjlkkhpinaaDoor
