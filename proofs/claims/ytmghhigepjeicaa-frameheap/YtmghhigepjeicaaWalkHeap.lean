/-
  The walk of FrameHeap.
-/
import Derived.Test.YtmghhigepjeicaaActs
import Derived.Test.YtmghhigepjeicaaWalkCells
import Derived.Test.YtmghhigepjeicaaRefHeap
namespace Go.Proofs.Ytmghhigepjeicaa
open Go.RowKit
set_option linter.unusedVariables false

theorem get_at (b n : Nat) (z : Int) (hz : z = (n : Int)) (l : List Int) (w : World) (hn : n < 64) (h : HeapAt w b l) :
    Calls Try.prog 32 #[.pointer (some ⟨b, 0, none⟩), .int .i64 z] w fun r w' => r = .returned (.tuple #[.int .i64 (l.getD n 0), .bool true]) ∧ w = w' := by
  subst hz; exact get_yes b n l w hn h
theorem below_dq {B : Nat} {a w : World} (h : Below B a w) (n : Nat) : Below B a (w.drewN n) := ⟨h.os, h.tape, h.output, h.size, h.block⟩
theorem set_get (l : List Int) (n : Nat) (x : Int) (h : n < l.length) : (l.set n x).getD n 0 = x := by
  simp [List.getD, List.getElem?_set_self h]
set_option maxRecDepth 100000 in
set_option maxHeartbeats 8000000 in
theorem frameHeap_walk (w : World) (a : Option Addr) (len cap : Nat) (m : List ActV) (h : ActsArg w a len cap m) :
    Calls Try.prog 8 #[.slice a len cap] w fun e w' => e = .returned (.bool true) ∧ Below w.heap.size w w' := by
  obtain ⟨rfl, hl, hlc, hr, hok⟩ := h
  unfold maxLen at hl
  have HR := Lib.hid hr
  have HK := Lib.hid hok
  clear hr hok
  go_enter Try.func8, Try.ntmps8
  go_wp2_with fail
  refine (awake6_any w).mono ?_
  rintro r w1 ⟨rfl, hb1⟩
  have HB1 := Lib.hid hb1
  clear hb1
  go_wp2_with fail
  rw [← zeros_cells]
  have HH0 := Lib.hid (heap_new w1 59 _ rfl)
  have HB2 := Lib.hid (HB1.out.alloc HB1.out.size (.cells (zeros.map (Value.int .i64)).toArray 59))
  have HLT := Lib.hid (show w.heap.size ≤ w1.heap.size ∧ w1.heap.size < (w1.alloc (.cells (zeros.map (Value.int .i64)).toArray 59)).heap.size from ⟨HB1.out.size, by simp⟩)
  generalize w1.alloc (.cells (zeros.map (Value.int .i64)).toArray 59) = W at HH0 HB2 HLT ⊢
  generalize w1.heap.size = A at HH0 HLT ⊢
  refine (refHeap_any W).mono ?_
  rintro r w2 ⟨rfl, hh, hb⟩
  have HT := Lib.hid (show TwoH w A W.heap.size zeros zeros w2 from ⟨HH0.out.below hb, hh, HB2.out.trans (hb.mono HB2.out.size), HLT.out⟩)
  clear hh hb HH0 HB1 HB2 HLT
  generalize W.heap.size = B at HT ⊢
  go_wp2
  go_loopw [5] (fun i wr => ∃ (k : Nat) (l : List Int), k ≤ m.length ∧ k ≤ 60 ∧ i = .int .i64 k ∧ Hid (TwoH w A B l l wr)) (fun i _ => 60 - (intOf i).toNat)
  case atStart => exact ⟨0, zeros, by omega, by omega, rfl, HT⟩
  case round =>
    obtain ⟨k, l, hk, hk60, rfl, H⟩ := hrel
    by_cases hlt : k < m.length ∧ k < 60
    · obtain ⟨hlt1, hlt2⟩ := hlt
      obtain ⟨b, off, rfl, hcell⟩ := HR.out (by omega)
      obtain ⟨d0, d1, d2, v, d3, -⟩ := hcell k hlt1
      have hlb := block_lt_of_cell d0
      have HO := Lib.hid (HK.out _ (List.getElem_mem hlt1))
      clear hcell d3
      generalize m[k] = f at d0 d1 d2 HO
      obtain ⟨kd, n, x, ll⟩ := f
      simp only at d0 d1 d2 HO
      have HX := Lib.hid (show -9223372036854775808 ≤ x ∧ x ≤ 9223372036854775807 from HO.out.2.2.1)
      have c0 := (H.out.2.2.1.cell (p := ⟨b, off + k * 4, none⟩) hlb).trans d0
      have c1 := (H.out.2.2.1.cell (p := ⟨b, off + k * 4 + 1, none⟩) hlb).trans d1
      have c2 := (H.out.2.2.1.cell (p := ⟨b, off + k * 4 + 2, none⟩) hlb).trans d2
      have hk1 : (k : Int) < (m.length : Int) := by omega
      clear d0 d1 d2 HT HO
      have HQ := Lib.hid (fun q => H.out.keep (below_dq (Below.refl wr.heap.size wr) q))
      have HLL := Lib.hid H.out.1.1
      go_upto_region 8 with (fail)
      go_quiet (fail)
      by_cases hin : 0 ≤ n ∧ n < 64
      · obtain ⟨p, rfl⟩ := Int.eq_ofNat_of_zero_le hin.1
        have hp64 : p < 64 := by omega
        have hpb : decide ((p : Int) < 64) = true := by simp; omega
        have hpi : (p : Int) < 64 := by omega
        clear hin
        by_cases hkd : kd = 7
        · subst hkd
          as_aux_lemma =>
            go_wp2_with fail
            refine (put_yes A p x l _ hp64 HX.out (HQ.out _).1).mono ?_
            rintro r w3 ⟨rfl, hto⟩
            have H3 := Lib.hid ((HQ.out _).a hto)
            clear hto
            have c3 := H3.out.2.1.cell p hp64
            have c3' : w3.cell? ⟨B, 0 + p, none⟩ = some (.int .i64 (l.getD p 0)) := by rw [Nat.zero_add]; exact c3
            have f3 := H3.out.2.1.2.2.1 p hp64
            have H4 := Lib.hid (H3.out.b (heapTo_set H3.out.2.1 p hp64 x HX.out))
            have c4 := H4.out.2.1.cell p hp64
            have HG := Lib.hid (set_get l p x (by have := HLL.out; omega))
            rw [HG.out] at c4
            generalize l.getD p 0 = old at c3 c3'
            go_wp2_with fail
            generalize w3.setCell ⟨B, p, none⟩ (.int .i64 x) = W4 at H4 c4 ⊢
            have HGT := Lib.hid (get_yes A p (l.set p x) W4 hp64 H4.out.1)
            rw [HG.out] at HGT
            refine HGT.out.mono ?_
            rintro r w5 ⟨rfl, rfl⟩
            have c4' : W4.cell? ⟨B, 0 + p, none⟩ = some (.int .i64 x) := by rw [Nat.zero_add]; exact c4
            have hxx : (x != x) = false := by simp
            clear c3 c3' f3 HGT H3
            go_wp2
            go_roundw
            case rel => exact ⟨k + 1, _, by omega, by omega, by go_num, H4⟩
            case measure => simp [intOf]; omega
        · have hkb : (kd == 7) = false := by simpa using hkd
          clear hkd
          as_aux_lemma =>
            go_wp2_with fail
            refine (get_yes A p l _ hp64 (HQ.out _).1).mono ?_
            rintro r w5 ⟨rfl, rfl⟩
            have c4 := H.out.2.1.cell p hp64
            have c4' : wr.cell? ⟨B, 0 + p, none⟩ = some (.int .i64 (l.getD p 0)) := by rw [Nat.zero_add]; exact c4
            generalize l.getD p 0 = y at c4 c4' ⊢
            have hxx : (y != y) = false := by simp
            go_wp2
            go_roundw
            case rel => exact ⟨k + 1, _, by omega, by omega, by go_num, Lib.hid (HQ.out _)⟩
            case measure => simp [intOf]; omega
      · have hout : n < 0 ∨ 64 ≤ n := by omega
        clear hin
        by_cases hkd : kd = 7
        · subst hkd
          have HOUT := Lib.hid hout
          rcases hout with ho | ho
          · as_aux_lemma =>
              go_wp2_with fail
              refine (put_no A n x _ HOUT.out).mono ?_
              rintro r w3 ⟨rfl, rfl⟩
              go_wp2_with fail
              refine (get_no A n _ HOUT.out).mono ?_
              rintro r w5 ⟨rfl, rfl⟩
              go_wp2
              go_roundw
              case rel => exact ⟨k + 1, _, by omega, by omega, by go_num, Lib.hid (HQ.out _)⟩
              case measure => simp [intOf]; omega
          · have hpb : decide (n < 64) = false := by simp; omega
            as_aux_lemma =>
              go_wp2_with fail
              refine (put_no A n x _ HOUT.out).mono ?_
              rintro r w3 ⟨rfl, rfl⟩
              go_wp2_with fail
              refine (get_no A n _ HOUT.out).mono ?_
              rintro r w5 ⟨rfl, rfl⟩
              go_wp2
              go_roundw
              case rel => exact ⟨k + 1, _, by omega, by omega, by go_num, Lib.hid (HQ.out _)⟩
              case measure => simp [intOf]; omega
        · have hkb : (kd == 7) = false := by simpa using hkd
          clear hkd
          have HOUT := Lib.hid hout
          rcases hout with ho | ho
          · as_aux_lemma =>
              go_wp2_with fail
              refine (get_no A n _ HOUT.out).mono ?_
              rintro r w5 ⟨rfl, rfl⟩
              go_wp2
              go_roundw
              case rel => exact ⟨k + 1, _, by omega, by omega, by go_num, Lib.hid (HQ.out _)⟩
              case measure => simp [intOf]; omega
          · have hpb : decide (n < 64) = false := by simp; omega
            as_aux_lemma =>
              go_wp2_with fail
              refine (get_no A n _ HOUT.out).mono ?_
              rintro r w5 ⟨rfl, rfl⟩
              go_wp2
              go_roundw
              case rel => exact ⟨k + 1, _, by omega, by omega, by go_num, Lib.hid (HQ.out _)⟩
              case measure => simp [intOf]; omega
    · have HTL := Lib.hid H.out.1.1
      have HTB := Lib.hid H.out.1.2.2.2
      have HBK := Lib.hid (heapS_back l [] HTL.out HTB.out)
      rw [List.append_nil] at HBK
      have HSZ := Lib.hid (show (heapB l).length ≤ 1000 by
        have h1 := usedN_le l
        have h2 := intsB_len' (l.take (usedN l)) (fun x hx => HTB.out x (List.mem_of_mem_take hx))
        have h3 := List.length_take_le (usedN l) l
        have h4 := numsB_len [usedN l] (by intro x hx; simp at hx; have := HTL.out; omega)
        have h5 := HTL.out
        simp only [heapB, List.length_append]
        simp [numsB] at h4
        omega)
      go_upto_region 18 with (fail)
      all_goals
        go_wp2_with fail
        refine (heapText_any A l wr H.out.1).mono ?_
        rintro r w3 ⟨rfl, hb3⟩
        have H3 := Lib.hid (H.out.keep hb3)
        clear hb3
        go_wp2_with fail
        refine (open_any (bs (heapB l)) w3 (by rw [bs_size]; have := HSZ.out; omega)).mono ?_
        rintro r w4 ⟨rfl, hi4, hb4⟩
        rw [bs_list] at hi4
        have H4 := Lib.hid (H3.out.keep hb4)
        have HI4 := Lib.hid hi4
        have HIL := Lib.hid (show w.heap.size ≤ w3.heap.size ∧ B < w3.heap.size from ⟨H3.out.2.2.1.size, H3.out.2.1.lt⟩)
        clear hi4 hb4 H3
        generalize w3.heap.size = I at HI4 HIL ⊢
        go_wp2_with fail
        refine (heapRead_any I (heapB l) 0 w4 HI4.out).mono ?_
        rintro r w5 hgot
        rw [HBK.out] at hgot
        obtain ⟨hor, hin⟩ := hgot
        rcases hor with ⟨h0, -⟩ | ⟨-, G, rfl, hG, hGl⟩
        · exact absurd rfl h0
        have H5 := Lib.hid (show TwoH w A B l l w5 ∧ HeapAt w5 G l ∧ InSt w5 I ([], 0) from ⟨⟨H4.out.1.touch hin.2 (by have := HIL.out; have := H4.out.2.2.2.2; omega), H4.out.2.1.touch hin.2 (by have := HIL.out; omega), H4.out.2.2.1.trans (hin.2.below H4.out.2.2.1.size (by rintro j hj rfl; have := HIL.out; omega)), H4.out.2.2.2⟩, hG, hin.1⟩)
        have HGI := Lib.hid (show I < G by have := HI4.out.lt; omega)
        clear hG hGl hin H4 HI4
        go_wp2_with fail
        refine (heapText_any A l w5 H5.out.1.1).mono ?_
        rintro r w6 ⟨rfl, hb6⟩
        have H6 := Lib.hid (show TwoH w A B l l w6 ∧ HeapAt w6 G l ∧ InSt w6 I ([], 0) from ⟨H5.out.1.keep hb6, H5.out.2.1.below hb6, H5.out.2.2.below hb6⟩)
        clear hb6 H5
        go_wp2_with fail
        refine (refHeapText_any B l w6 H6.out.1.2.1).mono ?_
        rintro r w7 ⟨rfl, hb7⟩
        have H7 := Lib.hid (show TwoH w A B l l w7 ∧ HeapAt w7 G l ∧ InSt w7 I ([], 0) from ⟨H6.out.1.keep hb7, H6.out.2.1.below hb7, H6.out.2.2.below hb7⟩)
        clear hb7 H6
        go_wp2_with fail
        refine (end_any I [] 0 w7 H7.out.2.2).mono ?_
        rintro r w8 ⟨rfl, hto⟩
        rw [show endS ([], 0) = ([], 0) from rfl] at hto ⊢
        have H8 := Lib.hid (show TwoH w A B l l w8 ∧ HeapAt w8 G l from ⟨⟨H7.out.1.1.touch hto.2 (by have := HIL.out; have := H7.out.1.2.2.2.2; omega), H7.out.1.2.1.touch hto.2 (by have := HIL.out; omega), H7.out.1.2.2.1.trans (hto.2.below H7.out.1.2.2.1.size (by rintro j hj rfl; have := HIL.out; omega)), H7.out.1.2.2.2⟩, H7.out.2.1.touch hto.2 (by have := HGI.out; omega)⟩)
        clear hto H7
        go_wp2_with fail
        refine (heapText_any G l w8 H8.out.2).mono ?_
        rintro r w9 ⟨rfl, hb9⟩
        have H9 := Lib.hid (H8.out.1.keep hb9)
        clear hb9 H8
        go_wp2_with fail
        refine (heapText_any A l w9 H9.out.1).mono ?_
        rintro r w10 ⟨rfl, hb10⟩
        have H10 := Lib.hid (H9.out.keep hb10)
        clear hb10 H9
        generalize bs (heapB l) = S
        go_wp2
        go_ret
        exact ⟨rfl, H10.out.2.2.1⟩
end Go.Proofs.Ytmghhigepjeicaa
