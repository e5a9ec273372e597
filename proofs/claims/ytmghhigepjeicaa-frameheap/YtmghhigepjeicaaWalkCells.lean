/-
  The walk of FrameCells.
-/
import Derived.Test.YtmghhigepjeicaaAwake6
import Derived.Test.YtmghhigepjeicaaHeapSpell
import Derived.Test.YtmghhigepjeicaaBytes
import Derived.Test.YtmghhigepjeicaaNums
namespace Go.Proofs.Ytmghhigepjeicaa
open Go.RowKit
set_option linter.unusedVariables false

/-- Cells laid over zeros. -/
def fillT (ns : List Int) : List Int := ns.take (min ns.length 64) ++ zeros.drop (min ns.length 64)
theorem fillT_len (ns : List Int) : (fillT ns).length = 64 := by simp [fillT, zeros]; omega
theorem fillT_get (ns : List Int) (k : Nat) (h1 : k < ns.length) (h2 : k < 64) : (fillT ns)[k]'(by rw [fillT_len]; exact h2) = ns[k] := by
  unfold fillT
  rw [List.getElem_append_left (by simp; omega), List.getElem_take]
theorem up_step (Z T : List Int) (k : Nat) (hZ : Z.length = 64) (hT : T.length = 64) (h : k < 64) : (T.take k ++ Z.drop k).set k (T[k]'(by omega)) = T.take (k + 1) ++ Z.drop (k + 1) := by
  rw [List.set_append_right _ _ (by simp; omega), List.take_succ_eq_append_getElem (by omega), List.append_assoc]
  congr 1
  have e : k - (T.take k).length = 0 := by simp; omega
  rw [e, List.drop_eq_getElem_cons (show k < Z.length by omega)]
  rfl
theorem down_step (Z T : List Int) (k : Nat) (hZ : Z.length = 64) (hT : T.length = 64) (h : k < 64) : (Z.take (k + 1) ++ T.drop (k + 1)).set k (T[k]'(by omega)) = Z.take k ++ T.drop k := by
  rw [List.set_append_left _ _ (by simp; omega), List.take_succ_eq_append_getElem (show k < Z.length by omega), List.set_append_right _ _ (by simp; omega)]
  have e : k - (Z.take k).length = 0 := by simp; omega
  rw [e, List.drop_eq_getElem_cons (show k < T.length by omega)]
  simp
theorem heapB_inj {l m : List Int} (hl : l.length = 64) (hm : m.length = 64) (bl : ∀ x ∈ l, -9223372036854775808 ≤ x ∧ x ≤ 9223372036854775807) (bm : ∀ x ∈ m, -9223372036854775808 ≤ x ∧ x ≤ 9223372036854775807) (h : heapB l = heapB m) : l = m := by
  have h1 := heapS_back l [] hl bl
  have h2 := heapS_back m [] hm bm
  rw [h, h2] at h1
  exact (Prod.mk.inj h1).2.symm
theorem bs_data (l : List UInt8) : (bs l).data.toList = l := by simp [bs]
theorem and63 (a : Int) : ∃ k : Nat, k ≤ 63 ∧ bits .and .i64 a 63 = (k : Int) := by
  refine ⟨(BitVec.ofInt 64 a &&& BitVec.ofInt 64 63).toNat, ?_, ?_⟩
  · rw [BitVec.toNat_and]
    exact Nat.and_le_right
  · have h : (BitVec.ofInt 64 a &&& BitVec.ofInt 64 63).toNat ≤ 63 := by rw [BitVec.toNat_and]; exact Nat.and_le_right
    show IntKind.i64.wrap ((BitVec.ofInt 64 a &&& BitVec.ofInt 64 63).toNat : Int) = _
    rw [IntKind.wrap_i64]
    omega
theorem below_at0 {w W : World} (h : Below w.heap.size w W) : w.heap.size ≤ W.heap.size := h.size
/-- Two heaps. -/
def TwoH (w : World) (A B : Nat) (l m : List Int) (wr : World) : Prop := HeapAt wr A l ∧ HeapAt wr B m ∧ Below w.heap.size w wr ∧ w.heap.size ≤ A ∧ A < B
theorem TwoH.a {w wr w' : World} {A B : Nat} {l m l' : List Int} (h : TwoH w A B l m wr) (ht : HeapTo wr A l' w') : TwoH w A B l' m w' :=
  ⟨ht.1, h.2.1.touch ht.2 (by have := h.2.2.2.2; omega), h.2.2.1.trans (ht.2.below h.2.2.1.size (by rintro j hj rfl; have := h.2.2.2.1; omega)), h.2.2.2⟩
theorem TwoH.b {w wr w' : World} {A B : Nat} {l m m' : List Int} (h : TwoH w A B l m wr) (ht : HeapTo wr B m' w') : TwoH w A B l m' w' :=
  ⟨h.1.touch ht.2 (by have := h.2.2.2.2; omega), ht.1, h.2.2.1.trans (ht.2.below h.2.2.1.size (by rintro j hj rfl; have := h.2.2.2.1; have := h.2.2.2.2; omega)), h.2.2.2⟩
theorem TwoH.keep {w wr w' : World} {A B : Nat} {l m : List Int} (h : TwoH w A B l m wr) (hb : Below wr.heap.size wr w') : TwoH w A B l m w' :=
  ⟨h.1.below hb, h.2.1.below hb, h.2.2.1.trans (hb.mono h.2.2.1.size), h.2.2.2⟩
theorem put_at (b n : Nat) (z x : Int) (hz : z = (n : Int)) (l : List Int) (w : World) (hn : n < 64) (hx : -9223372036854775808 ≤ x ∧ x ≤ 9223372036854775807) (h : HeapAt w b l) :
    Calls Try.prog 31 #[.pointer (some ⟨b, 0, none⟩), .int .i64 z, .int .i64 x] w fun r w' => r = .returned (.bool true) ∧ HeapTo w b (l.set n x) w' := by
  subst hz; exact put_yes b n x l w hn hx h
set_option maxRecDepth 100000 in
set_option maxHeartbeats 4000000 in
theorem frameCells_walk (w : World) (a : Option Addr) (len cap : Nat) (ns : List Int) (h : NumArg .i64 w a len cap ns) (a1 : Int) (x : Int) (hx : -9223372036854775808 ≤ x ∧ x ≤ 9223372036854775807) :
    Calls Try.prog 11 #[.slice a len cap, .int .i64 a1, .int .i64 x] w fun e w' => e = .returned (.bool true) ∧ Below w.heap.size w w' := by
  obtain ⟨rfl, hl, hlc, hcm, hr, hn0, hwf⟩ := h
  unfold maxLen at hl hcm
  obtain ⟨q, hq, hQ⟩ := and63 a1
  have HR := Lib.hid hr
  have HF := Lib.hid (show ∀ n ∈ ns, -9223372036854775808 ≤ n ∧ n ≤ 9223372036854775807 from fun n hn => wf_i64 (hwf n hn))
  have HZL := Lib.hid (show zeros.length = 64 by simp [zeros])
  have HTL := Lib.hid (fillT_len ns)
  have HTG := Lib.hid (fillT_get ns)
  have HX := Lib.hid hx
  clear hr hwf hx
  go_enter Try.func11, Try.ntmps11
  go_wp2_with fail
  refine (awake6_any w).mono ?_
  rintro r w1 ⟨rfl, hb1⟩
  have HB1 := Lib.hid hb1
  clear hb1
  go_wp2
  rw [← zeros_cells]
  have HT := Lib.hid (show TwoH w w1.heap.size (w1.heap.size + 1) zeros zeros ((w1.alloc (.cells (zeros.map (Value.int .i64)).toArray 59)).alloc (.cells (zeros.map (Value.int .i64)).toArray 59)) from by
    have z1 : (w1.alloc (.cells (zeros.map (Value.int .i64)).toArray 59)).heap.size = w1.heap.size + 1 := by simp
    refine ⟨(heap_new w1 _ _ rfl).below ((Below.refl _ _).alloc (Nat.le_refl _) _), by rw [← z1]; exact heap_new _ _ _ rfl, (HB1.out.alloc HB1.out.size _).alloc (by have := HB1.out.size; omega) _, HB1.out.size, by omega⟩)
  generalize (w1.alloc (.cells (zeros.map (Value.int .i64)).toArray 59)).alloc (.cells (zeros.map (Value.int .i64)).toArray 59) = W at HT ⊢
  generalize hB : w1.heap.size + 1 = B at HT ⊢
  generalize w1.heap.size = A at HT hB ⊢
  clear hB HB1
  go_loopw [9] (fun i wr => ∃ k : Nat, k ≤ ns.length ∧ k ≤ 64 ∧ i = .int .i64 k ∧ Hid (TwoH w A B ((fillT ns).take k ++ zeros.drop k) zeros wr)) (fun i _ => 64 - (intOf i).toNat)
  case atStart => exact ⟨0, by omega, by omega, rfl, Lib.hid (by simpa using HT.out)⟩
  case round =>
    obtain ⟨k, hk, hk64, rfl, H⟩ := hrel
    by_cases hlt : k < ns.length ∧ k < 64
    · obtain ⟨hlt1, hlt2⟩ := hlt
      obtain ⟨rb, off, rfl, hcell⟩ := HR.out (by omega)
      have hc : wr.cell? ⟨rb, off + k, none⟩ = some (.int .i64 ns[k]) := (H.out.2.2.1.cell (p := ⟨rb, off + k, none⟩) (block_lt_of_cell (hcell k hlt1))).trans (hcell k hlt1)
      have HN := Lib.hid (HF.out ns[k] (List.getElem_mem hlt1))
      have HS := Lib.hid (up_step zeros (fillT ns) k HZL.out HTL.out hlt2)
      rw [HTG.out k hlt1 hlt2] at HS
      clear hcell
      generalize ns[k] = y at hc HN HS
      go_wp2_with fail
      refine (put_yes A k y _ wr hlt2 HN.out H.out.1).mono ?_
      rintro r w2 ⟨rfl, hto⟩
      have H2 := Lib.hid (H.out.a hto)
      rw [HS.out] at H2
      clear hto
      go_wp2
      go_roundw
      case rel => exact ⟨k + 1, by omega, by omega, by go_num, H2⟩
      case measure => simp [intOf]; omega
    · have HE := Lib.hid (show (fillT ns).take k ++ zeros.drop k = fillT ns by
        have hm : k = min ns.length 64 := by omega
        have e : (fillT ns).take k = ns.take k := by unfold fillT; rw [hm, List.take_left' (by simp)]
        rw [e]; unfold fillT; rw [← hm])
      rw [HE.out] at H
      have HKM := Lib.hid (show (if (64 : Int) < (ns.length : Int) then 64 else (ns.length : Int)) = (k : Int) by split <;> omega)
      have HZ0 := Lib.hid (show zeros.take k ++ (fillT ns).drop k = zeros by
        have hm : k = min ns.length 64 := by omega
        have e : (fillT ns).drop k = zeros.drop k := by unfold fillT; rw [hm, List.drop_left' (by simp)]
        rw [e, List.take_append_drop])
      have HT0 := Lib.hid (show HeapAt wr A (fillT ns) from H.out.1)
      clear HT HE
      obtain ⟨wo, rfl⟩ : ∃ wo : World, wo = wr := ⟨_, rfl⟩
      have HH0 := Lib.hid (show TwoH w A B (fillT ns) (zeros.take k ++ (fillT ns).drop k) wo by rw [HZ0.out]; exact H.out)
      have hkn := Lib.hid hk
      clear HT0 HZ0 H HKM
      by_cases hk1 : k < ns.length
      all_goals
        go_upto_region 9 with (fail)
        go_loopw [10] (fun i wr => ∃ (j : Nat) (z : Int), j ≤ k ∧ i = .int .i64 z ∧ z = (j : Int) - 1 ∧ Hid (TwoH w A B (fillT ns) (zeros.take j ++ (fillT ns).drop j) wr)) (fun i _ => (intOf i + 1).toNat)
        case atStart => exact ⟨k, _, by omega, rfl, by omega, HH0⟩
        case round =>
          obtain ⟨j, z, hj, rfl, hz, H⟩ := hrel
          cases j with
          | zero =>
            have hz' : z < 0 := by omega
            have HE := Lib.hid (show TwoH w A B (fillT ns) (fillT ns) wr by have := H.out; simpa using this)
            clear H hz HH0
            have HTB := Lib.hid (HE.out.1.2.2.2)
            clear HTG
            generalize fillT ns = T at HE HTL HTB
            go_wp2_with fail
            refine (heapText_any A T wr HE.out.1).mono ?_
            rintro r w2 ⟨rfl, hb2⟩
            have H2 := Lib.hid (HE.out.keep hb2)
            clear hb2
            go_wp2_with fail
            refine (heapText_any B T w2 H2.out.2.1).mono ?_
            rintro r w3 ⟨rfl, hb3⟩
            have H3 := Lib.hid (H2.out.keep hb3)
            clear hb3 H2 HE
            go_wp2_with fail
            refine (get_yes A q T w3 (by omega) H3.out.1).mono ?_
            rintro r w4 ⟨rfl, rfl⟩
            have HOL := Lib.hid (H3.out.1.bound q)
            have HSS := Lib.hid (show T.set q (T.getD q 0) = T by
              apply List.ext_getElem
              · simp
              · intro i h1 h2
                by_cases e : q = i
                · subst e; simp [List.getD, List.getElem?_eq_getElem h2]
                · rw [List.getElem_set_ne e])
            have HNE := Lib.hid (show x ≠ T.getD q 0 → heapB (T.set q x) ≠ heapB T from fun hne e => hne (by
              have := heapB_inj (by simpa using HTL.out) HTL.out (fun y hy => by
                rcases List.mem_or_eq_of_mem_set hy with h | h
                · exact HTB.out y h
                · rw [h]; exact HX.out) HTB.out e
              have h2 : (T.set q x).getD q 0 = T.getD q 0 := by rw [this]
              rw [← h2]
              have hlen := HTL.out
              simp [List.getD, List.getElem?_set_self (show q < T.length by omega)]))
            have HS2 := Lib.hid (show ∀ y, (T.set q x).set q y = T.set q y from fun y => List.set_set _)
            generalize T.getD q 0 = old at HOL HSS HNE ⊢
            go_wp2_with fail
            refine (put_yes A q x T w3 (by omega) HX.out H3.out.1).mono ?_
            rintro r w4 ⟨rfl, hto⟩
            have H4 := Lib.hid (H3.out.a hto)
            clear hto
            go_wp2_with fail
            refine (heapText_any A _ w4 H4.out.1).mono ?_
            rintro r w5 ⟨rfl, hb5⟩
            have H5 := Lib.hid (H4.out.keep hb5)
            clear hb5 H4 H3
            by_cases hxo : x = old
            · subst hxo
              rw [HSS.out]
              rw [HSS.out] at H5
              go_wp2_with fail
              refine (put_yes A q x T w5 (by omega) HX.out H5.out.1).mono ?_
              rintro r w6 ⟨rfl, hto⟩
              have H6 := Lib.hid (H5.out.a hto)
              rw [HSS.out] at H6
              clear hto H5
              go_wp2_with fail
              refine (heapText_any A _ w6 H6.out.1).mono ?_
              rintro r w7 ⟨rfl, hb7⟩
              have H7 := Lib.hid (H6.out.keep hb7)
              clear hb7 H6
              go_wp2
              go_ret
              exact ⟨rfl, H7.out.2.2.1⟩
            · have hne1 : ((bs (heapB (T.set q x))).toList == (bs (heapB T)).toList) = false := str_ne (by rw [bs_data, bs_data]; exact HNE.out hxo)
              have hne2 : (x == old) = false := by simpa using hxo
              have HXO := Lib.hid hxo
              clear hxo
              go_wp2_with fail
              refine (put_yes A q old _ w5 (by omega) HOL.out H5.out.1).mono ?_
              rintro r w6 ⟨rfl, hto⟩
              have H6 := Lib.hid (H5.out.a hto)
              rw [HS2.out, HSS.out] at H6
              clear hto H5
              go_wp2_with fail
              refine (heapText_any A _ w6 H6.out.1).mono ?_
              rintro r w7 ⟨rfl, hb7⟩
              have H7 := Lib.hid (H6.out.keep hb7)
              clear hb7 H6
              go_wp2
              go_ret
              exact ⟨rfl, H7.out.2.2.1⟩
          | succ j =>
            obtain rfl : z = (j : Int) := by omega
            have hj1 : j < ns.length := by omega
            have hj2 : j < 64 := by omega
            obtain ⟨rb, off, rfl, hcell⟩ := HR.out (by omega)
            have hlb := block_lt_of_cell (hcell j hj1)
            have HN := Lib.hid (HF.out ns[j] (List.getElem_mem hj1))
            have HS := Lib.hid (down_step zeros (fillT ns) j HZL.out HTL.out hj2)
            rw [HTG.out j hj1 hj2] at HS
            have HC := Lib.hid (hcell j hj1)
            clear hcell hz
            generalize ns[j] = y at HC HN HS
            go_wp2_with fail
            refine (put_yes B j 77 _ wr hj2 (by omega) H.out.2.1).mono ?_
            rintro r w2 ⟨rfl, hto⟩
            have H2 := Lib.hid (H.out.b hto)
            have hc2 : w2.cell? ⟨rb, off + j, none⟩ = some (.int .i64 y) := (H2.out.2.2.1.cell (p := ⟨rb, off + j, none⟩) hlb).trans HC.out
            clear hto
            go_wp2_with fail
            refine (put_yes B j y _ w2 hj2 HN.out H2.out.2.1).mono ?_
            rintro r w3 ⟨rfl, hto⟩
            have H3 := Lib.hid (H2.out.b hto)
            rw [List.set_set, HS.out] at H3
            clear hto H2
            go_wp2
            go_roundw
            case rel => exact ⟨j, _, by omega, rfl, by omega, H3⟩
            case measure => simp [intOf]
end Go.Proofs.Ytmghhigepjeicaa
