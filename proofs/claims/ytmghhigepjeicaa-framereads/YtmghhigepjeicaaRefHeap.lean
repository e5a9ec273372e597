/-
  The document's own heap: its bytes, and a heap out of bytes.
-/
import Derived.Test.YtmghhigepjeicaaHeapRead
import Derived.Test.YtmghhigepjeicaaWireRef
import Derived.Lib.Strings
namespace Go.Proofs.Ytmghhigepjeicaa
open Go.RowKit
set_option linter.unusedVariables false

theorem infoI64 : (Try.prog.info? 2).map (fun i => (i.zero, i.size, i.bytes)) = some (some (.int .i64 0), 1, 8) := by kernel_rfl
theorem info_got {P : Program} {t : TypeId} {z : Value} {a b : Nat} (h : (P.info? t).map (fun i => (i.zero, i.size, i.bytes)) = some (some z, a, b)) : ∃ i, P.info? t = some i ∧ i.zero = some z ∧ i.size = a ∧ i.bytes = b := by
  cases hi : P.info? t with
  | none => rw [hi] at h; simp at h
  | some i => rw [hi] at h; simp at h; exact ⟨i, rfl, h.1, h.2.1, h.2.2⟩
theorem made_zeros : madeCells #[.int .i64 0] 64 = (zeros.map (Value.int .i64)).toArray := by kernel_rfl
set_option maxRecDepth 100000 in
theorem refHeap_any (w : World) : Calls Try.prog 30 #[] w fun r w' => r = .returned (.slice (some ⟨w.heap.size, 0, none⟩) 64 64) ∧ HeapAt w' w.heap.size zeros ∧ Below w.heap.size w w' := by
  have HN := Lib.hid (heap_new w 2 _ rfl)
  have HB := Lib.hid ((Below.refl w.heap.size w).alloc (Nat.le_refl _) (.cells (zeros.map (Value.int .i64)).toArray 2))
  obtain ⟨i0, hi, hz0, hz1, hz2⟩ := info_got infoI64
  have hmk : ∀ u : World, (Instr.makeSlice 23 (.int .i64 64) (.int .i64 64)).run Try.prog u = .ok (.slice (some ⟨u.heap.size, 0, none⟩) 64 64) (u.alloc (.cells (zeros.map (Value.int .i64)).toArray 2)) := fun u => by
    have := run_make (P := Try.prog) u 23 2 i0 (.int .i64 0) Try.underlying23 hi hz0 .i64 .i64 64 64 (by omega) (Int.le_refl _) (by rw [hz2]; omega) (by omega)
    rw [hz1] at this
    rw [← made_zeros]
    exact this
  clear hi hz0 hz1 hz2
  generalize (zeros.map (Value.int .i64)).toArray = Z at HN HB hmk
  go_enter Try.func30, Try.ntmps30
  go_wp2
  go_ret
  exact ⟨rfl, HN.out, HB.out⟩
theorem intsB_snoc' (l : List Int) (k n : Nat) (hk : k < n) (hn : n ≤ l.length) : intsB ((l.take n).take (k + 1)) = intsB ((l.take n).take k) ++ numB (zig (l.getD k 0)) := by
  have h : k < (l.take n).length := by simp; omega
  rw [intsB_snoc (l.take n) k h]
  congr 3
  simp [List.getD, List.getElem?_eq_getElem (show k < l.length by omega)]
theorem intsB_len' (l : List Int) (h : ∀ x ∈ l, -9223372036854775808 ≤ x ∧ x ≤ 9223372036854775807) : (intsB l).length ≤ 10 * l.length := by
  have := numsB_len (l.map zig) (by intro n hn; simp only [List.mem_map] at hn; obtain ⟨a, ha, rfl⟩ := hn; exact zig_lt (h a ha).1 (h a ha).2)
  simpa [intsB] using this
set_option maxRecDepth 100000 in
theorem refHeapText_any (b : Nat) (l : List Int) (w : World) (h : HeapAt w b l) :
    Calls Try.prog 36 #[.slice (some ⟨b, 0, none⟩) 64 64] w fun r w' => r = .returned (.string (bs (heapB l))) ∧ Below w.heap.size w w' := by
  have HH := Lib.hid h
  have hl := Lib.hid h.1
  clear h
  go_enter Try.func36, Try.ntmps36
  go_wp2
  go_loop [3, 11] (fun nv iv => ∃ k : Nat, k ≤ 64 ∧ iv = .int .i64 k ∧ nv = .int .i64 (usedK l k : Nat)) (fun _ iv => 64 - (intOf iv).toNat)
  case atStart => exact ⟨0, by omega, rfl, rfl⟩
  case round =>
    obtain ⟨k, hk, rfl, rfl⟩ := hrel
    have hu := usedK_le l k
    by_cases hlt : k < 64
    · have hc := HH.out.cell k hlt
      have hc' : w.cell? ⟨b, 0 + k, none⟩ = some (.int .i64 (l.getD k 0)) := by rw [Nat.zero_add]; exact hc
      by_cases hz : l.getD k 0 = 0
      · have HS := Lib.hid (usedK_zero l k hz)
        rw [hz] at hc hc'
        clear hz
        generalize usedK l k = u at HS hu ⊢
        go_wp2
        go_round
        case rel => exact ⟨k + 1, by omega, by go_num, by rw [HS.out]⟩
        case measure => simp [intOf]; omega
      · have HS := Lib.hid (usedK_some l k hz)
        generalize l.getD k 0 = x at hc hc' hz
        have hzb : (x != 0) = true := by simpa using hz
        clear hz
        generalize usedK l k = u at hu ⊢
        go_wp2
        go_round
        case rel => exact ⟨k + 1, by omega, by go_num, by rw [HS.out]; go_num⟩
        case measure => simp [intOf]; omega
    · obtain rfl : k = 64 := by omega
      have HB := Lib.hid (show heapB l = numB (usedK l 64) ++ intsB (l.take (usedK l 64)) by unfold heapB usedN; rw [hl.out])
      generalize usedK l 64 = n at hu HB ⊢
      have hi1 : (0 : Int) ≤ (n : Int) := by omega
      have hi2 : (n : Int) ≤ 64 := by omega
      have HCn := Lib.hid (show (numB n).length ≤ 10 by have := numsB_len [n] (by intro x hx; simp at hx; omega); simpa [numsB] using this)
      go_wp2_with fail
      refine (refCount_any n w (by omega) (by omega)).mono ?_
      rintro r w1 ⟨rfl, hb1⟩
      rw [show ((n : Int).toNat) = n from by omega]
      have HB1 := Lib.hid hb1
      clear hb1
      go_wp2
      go_loopw [6, 27] (fun sv iv wr => ∃ k : Nat, k ≤ n ∧ iv = .int .i64 k ∧ sv = .string (bs (numB n ++ intsB ((l.take n).take k))) ∧ Hid (Below w.heap.size w wr)) (fun _ iv _ => n - (intOf iv).toNat)
      case atStart => exact ⟨0, by omega, rfl, by simp [intsB, numsB], HB1⟩
      case round =>
        obtain ⟨k, hk, rfl, rfl, HBk⟩ := hrel
        by_cases hlt2 : k < n
        · have hc := (HBk.out.cell (p := ⟨b, k, none⟩) HH.out.lt).trans (HH.out.cell k (by omega))
          have hc' : wr.cell? ⟨b, 0 + k, none⟩ = some (.int .i64 (l.getD k 0)) := by rw [Nat.zero_add]; exact hc
          have HS := Lib.hid (intsB_snoc' l k n hlt2 (by have := hl.out; omega))
          have HX := Lib.hid (HH.out.bound k)
          generalize l.getD k 0 = x at hc hc' HS HX
          have HLn := Lib.hid (show (numB n ++ intsB ((l.take n).take k)).length ≤ 1000 by
            have h1 := intsB_len' ((l.take n).take k) (fun x hx => HH.out.2.2.2 x (List.mem_of_mem_take (List.mem_of_mem_take hx)))
            have h2 := List.length_take_le k (l.take n)
            have := HCn.out
            simp only [List.length_append]; omega)
          have HZn := Lib.hid (show (numB (zig x)).length ≤ 10 by have := numsB_len [zig x] (by intro y hy; simp at hy; rw [hy]; exact zig_lt HX.out.1 HX.out.2); simpa [numsB] using this)
          have hs1 : (bs (numB n ++ intsB ((l.take n).take k))).size + (bs (numB (zig x))).size ≤ 9223372036854775807 := by rw [bs_size, bs_size]; have := HLn.out; have := HZn.out; omega
          have HJ := Lib.hid (show bs (numB n ++ intsB ((l.take n).take k)) ++ bs (numB (zig x)) = bs (numB n ++ intsB ((l.take n).take (k + 1))) by rw [bs_append, HS.out, List.append_assoc])
          generalize bs (numB n ++ intsB ((l.take n).take k)) = A at HJ hs1 ⊢
          generalize hC : bs (numB (zig x)) = C at HJ hs1
          have HCC := Lib.hid hC
          clear hC
          go_wp2_with fail
          refine (refInt_any x wr HX.out.1 HX.out.2).mono ?_
          rintro r w2 ⟨rfl, hb2⟩
          have HB2 := Lib.hid (HBk.out.trans (hb2.mono HBk.out.size))
          clear hb2
          rw [HCC.out]
          go_wp2
          go_roundw
          case rel => exact ⟨k + 1, by omega, by go_num, by rw [HJ.out], HB2⟩
          case measure => simp [intOf]; omega
        · obtain rfl : k = n := by omega
          have HE := Lib.hid (show heapB l = numB k ++ intsB ((l.take k).take k) by rw [HB.out, List.take_take, Nat.min_self])
          go_wp2
          go_ret
          exact ⟨by rw [HE.out]; rfl, HBk.out⟩
/-- The memory of the document's Read. -/
def RFill (w : World) (b : Nat) (st : StH) (l : List Int) (wr : World) : Prop := TakeW w wr st.1 (.int .i64 (st.2 : Nat)) ∧ HeapAt wr b l ∧ w.heap.size + 1 < b ∧ (st.2 ≠ 0 → st.1 = []) ∧ st.1.length ≤ 1000000000
theorem TakeW.touch {S : Nat → Prop} {w wr w' : World} {l : List UInt8} {x : Value} (h : TakeW w wr l x) (ht : Touch S wr w') (hS : ∀ j, j ≤ w.heap.size + 1 → ¬ S j) : TakeW w w' l x := by
  have hs := h.sz
  have hz := ht.size
  have n0 := hS w.heap.size (by omega)
  have n1 := hS (w.heap.size + 1) (by omega)
  refine ⟨(ht.cell (p := ⟨w.heap.size, 0, none⟩) (by show w.heap.size < _; omega) n0).trans h.c0, (ht.cell (p := ⟨w.heap.size, 1, none⟩) (by show w.heap.size < _; omega) n0).trans h.c1, (ht.frozen (p := ⟨w.heap.size, 0, none⟩) (by show w.heap.size < _; omega) n0).trans h.f0, (ht.frozen (p := ⟨w.heap.size, 1, none⟩) (by show w.heap.size < _; omega) n0).trans h.f1,
    (ht.cell (p := ⟨w.heap.size + 1, 0, none⟩) hs n1).trans h.r0, (ht.cell (p := ⟨w.heap.size + 1, 1, none⟩) hs n1).trans h.r1, (ht.frozen (p := ⟨w.heap.size + 1, 0, none⟩) hs n1).trans h.g0, (ht.frozen (p := ⟨w.heap.size + 1, 1, none⟩) hs n1).trans h.g1, by omega, h.bel.trans (ht.below (by omega) (fun k hk => hS k (by omega)))⟩
theorem rfill_step {w w3 : World} {b k : Nat} {l1 l3 : List UInt8} {e3 : Nat} {v : Value} {l2 : List Int} {x : Int} (hT : TakeW w w3 l1 v) (hH : HeapAt w3 b l2) (hb : w.heap.size + 1 < b) (hk : k < 64) (hx : -9223372036854775808 ≤ x ∧ x ≤ 9223372036854775807) (ok : (e3 ≠ 0 → l3 = []) ∧ l3.length ≤ 1000000000) (o : Obj) :
    RFill w b (l3, e3) (l2.set k x) ((((w3.setCell ⟨w.heap.size, 0, none⟩ (.string (bs l3))).setCell ⟨w.heap.size, 1, none⟩ (.int .i64 e3)).setCell ⟨b, k, none⟩ (.int .i64 x)).alloc o) := by
  have h1 := hT.set l3 (.int .i64 e3)
  have hH1 : HeapAt ((w3.setCell ⟨w.heap.size, 0, none⟩ (.string (bs l3))).setCell ⟨w.heap.size, 1, none⟩ (.int .i64 e3)) b l2 :=
    hH.touch (((Touch.refl (fun j => j = w.heap.size) w3).setCell (p := ⟨w.heap.size, 0, none⟩) (fun _ => rfl) _).setCell (p := ⟨w.heap.size, 1, none⟩) (fun _ => rfl) _) (by omega)
  have h2 := heapTo_set hH1 k hk x hx
  exact ⟨(h1.touch h2.2 (by intro j hj e; omega)).keep ((Below.refl _ _).alloc (Nat.le_refl _) _), h2.1.below ((Below.refl _ _).alloc (Nat.le_refl _) _), hb, ok⟩
/-- What the document's Read answers. -/
def RGot (w : World) (t : StH × List Int) (r : Ending) (w' : World) : Prop := ∃ b, r = .returned (.tuple #[inV t.1, .slice (some ⟨b, 0, none⟩) 64 64]) ∧ HeapAt w' b t.2 ∧ w.heap.size ≤ b ∧ Below w.heap.size w w'
theorem rfill_end {w wr : World} {b : Nat} {st : StH} {l : List Int} (h : RFill w b st l wr) (u v : Value) : RGot w (st, l) (.returned (.tuple #[.agg #[.string (bs st.1), .int .i64 (st.2 : Nat)], .slice (some ⟨b, 0, none⟩) 64 64])) ((wr.setCell ⟨w.heap.size + 1, 0, none⟩ u).setCell ⟨w.heap.size + 1, 1, none⟩ v) :=
  ⟨b, rfl, h.2.1.touch (((Touch.refl (fun j => j = w.heap.size + 1) wr).setCell (p := ⟨w.heap.size + 1, 0, none⟩) (fun _ => rfl) _).setCell (p := ⟨w.heap.size + 1, 1, none⟩) (fun _ => rfl) _) (by have := h.2.2.1; omega), by have := h.2.2.1; omega, h.1.end0 _ _⟩
theorem used_takeN (n : Nat) (hn : n ≤ 64) (st : StH) : usedN (takeN n st).2 = n ↔ n = 0 ∨ (takeN n st).2.getD (n - 1) 0 ≠ 0 := by
  have hl := takeN_len n st
  have hz := takeN_zero n st
  unfold usedN
  rw [hl]
  constructor
  · intro h
    by_cases h0 : n = 0
    · exact .inl h0
    · refine .inr ?_
      have := usedK_last (takeN n st).2 64 (by omega)
      rwa [h] at this
  · intro h
    refine usedK_unique _ _ _ hn (fun j h1 h2 => hz j h1) (fun h0 => ?_)
    rcases h with h | h
    · omega
    · exact h
set_option maxRecDepth 100000 in
theorem refHeapRead_any (l : List UInt8) (e : Nat) (w : World) (hl : l.length ≤ 1000000000) (h : e ≠ 0 → l = []) :
    Calls Try.prog 39 #[.agg #[.string (bs l), .int .i64 e]] w (RGot w (heapS (l, e))) := by
  have HC := Lib.hid (fun w => refTakeCount_any l e 64 w (by decide) (by decide) hl h)
  have HS := Lib.hid (show heapS (l, e) = (if usedN (takeN (countS (l, e) 64).2 (countS (l, e) 64).1).2 ≠ (countS (l, e) 64).2 then failS (takeN (countS (l, e) 64).2 (countS (l, e) 64).1).1 2 else (takeN (countS (l, e) 64).2 (countS (l, e) 64).1).1, (takeN (countS (l, e) 64).2 (countS (l, e) 64).1).2) from rfl)
  have hn : (countS (l, e) 64).2 ≤ 64 := countS_most (l, e) 64
  have HOK := Lib.hid (countS_ok (l, e) 64 h hl)
  generalize countS (l, e) 64 = t at HC HS hn HOK
  obtain ⟨⟨l0, e0⟩, n⟩ := t
  simp only at HC HS hn HOK
  have HT := Lib.hid (takeW_new w l e)
  clear h hl
  go_enter Try.func39, Try.ntmps39
  go_wp2_with fail
  refine (HC.out _).mono ?_
  rintro r w1 ⟨rfl, hb1⟩
  have hT1 := HT.out.keep hb1
  have HT2 := Lib.hid (hT1.set l0 (.int .i64 e0))
  obtain ⟨c0', c1', f0', f1', r0', r1', g0', g1', sz', bel'⟩ := hT1
  have sz0 : w.heap.size < w1.heap.size := by omega
  clear bel' hb1 HT HC
  unfold inV
  simp only
  go_wp2_with fail
  generalize (w1.setCell ⟨w.heap.size, 0, none⟩ (.string (bs l0))).setCell ⟨w.heap.size, 1, none⟩ (.int .i64 e0) = W at HT2 ⊢
  refine (refHeap_any W).mono ?_
  rintro r w2 ⟨rfl, hh, hb⟩
  have HF0 := Lib.hid (show RFill w W.heap.size (l0, e0) zeros w2 from ⟨HT2.out.keep hb, hh, HT2.out.sz, HOK.out⟩)
  clear hh hb HT2 HOK c0' c1' f0' f1' r0' r1' g0' g1' sz' sz0
  generalize W.heap.size = b at HF0 ⊢
  go_wp2
  go_loopw [6] (fun x wr => ∃ k : Nat, k ≤ n ∧ x = .int .i64 k ∧ Hid (RFill w b (takeN k (l0, e0)).1 (takeN k (l0, e0)).2 wr)) (fun x _ => n - (intOf x).toNat)
  case atStart => exact ⟨0, by omega, rfl, HF0⟩
  case round =>
    obtain ⟨k, hk, rfl, HF⟩ := hrel
    have HTK := Lib.hid (show takeN (k + 1) (l0, e0) = ((numS (takeN k (l0, e0)).1).1, (takeN k (l0, e0)).2.set k (unzig (numS (takeN k (l0, e0)).1).2)) from rfl)
    by_cases hlt2 : k < n
    · generalize takeN k (l0, e0) = t at HF HTK
      obtain ⟨⟨l1, e1⟩, l2⟩ := t
      simp only at HF HTK
      have HN := Lib.hid (refTakeInt_any l1 e1 wr HF.out.2.2.2.2 HF.out.2.2.2.1)
      have HX := Lib.hid (unzig_bound _ (numS_lt (l1, e1)))
      have HOK2 := Lib.hid (numS_ok (l1, e1) HF.out.2.2.2.1 HF.out.2.2.2.2)
      generalize numS (l1, e1) = u at HN HX HTK HOK2
      obtain ⟨⟨l3, e3⟩, m⟩ := u
      simp only at HN HX HTK HOK2
      generalize unzig m = x at HN HX HTK
      have hk64 : (k : Int) < 64 := by omega
      obtain ⟨c0, c1, f0, f1, r0, r1, g0, g1, sz, bel⟩ := HF.out.1
      simp only at c0 c1
      clear bel
      go_wp2_with fail
      refine HN.out.mono ?_
      rintro r w3 ⟨rfl, hb3⟩
      clear c0 c1 f0 f1 r0 r1 g0 g1 sz
      have hT3 := HF.out.1.keep hb3
      have HT3 := Lib.hid hT3
      obtain ⟨c0, c1, f0, f1, r0, r1, g0, g1, sz, bel⟩ := hT3
      have hz3 : w.heap.size < w3.heap.size := by omega
      have HH3 := Lib.hid (HF.out.2.1.below hb3)
      have hc3 := HH3.out.cell k (by omega)
      have hf3 := HH3.out.2.2.1 k (by omega)
      generalize l2.getD k 0 = old at hc3
      have hbl := HH3.out.lt
      have hbw := HF.out.2.2.1
      clear bel hb3
      unfold inV
      simp only
      go_wp2
      go_roundw
      case rel => exact ⟨k + 1, by omega, by go_num, Lib.hid (by rw [HTK.out]; exact rfill_step (HT3.out) HH3.out hbw (by omega) HX.out HOK2.out _)⟩
      case measure => simp [intOf]; omega
    · obtain rfl : k = n := by omega
      have hU := used_takeN k hn (l0, e0)
      generalize takeN k (l0, e0) = t at HF HS hU
      obtain ⟨⟨l1, e1⟩, l2⟩ := t
      simp only at HF HS hU
      obtain ⟨c0, c1, f0, f1, r0, r1, g0, g1, sz, bel⟩ := HF.out.1
      simp only at c0 c1
      have hz3 : w.heap.size < wr.heap.size := by omega
      have hbw := HF.out.2.2.1
      have hbl := HF.out.2.1.lt
      clear bel
      by_cases h0 : k = 0
      · subst h0
        have HR := Lib.hid (show heapS (l, e) = ((l1, e1), l2) by rw [HS.out, if_neg (fun h => h (hU.2 (.inl rfl)))])
        clear hU HS
        go_wp2
        refine bodyPost_ret (v := .tuple #[.agg #[.string (bs l1), .int .i64 e1], .slice (some ⟨b, 0, none⟩) 64 64]) (by simp [results, Try.results39, go_sem, r0, r1]) rfl ?_
        rw [HR.out]; exact rfill_end HF.out _ _
      · obtain ⟨j, rfl⟩ : ∃ j, k = j + 1 := ⟨k - 1, by omega⟩
        simp only [Nat.add_sub_cancel] at hU
        have hc3 := HF.out.2.1.cell j (by omega)
        have hc3' : wr.cell? ⟨b, 0 + j, none⟩ = some (.int .i64 (l2.getD j 0)) := by rw [Nat.zero_add]; exact hc3
        by_cases hj : l2.getD j 0 = 0
        · have HR := Lib.hid (show heapS (l, e) = (failS (l1, e1) 2, l2) by rw [HS.out, if_pos (fun h => by rcases hU.1 h with h | h; omega; exact h hj)])
          rw [hj] at hc3 hc3'
          have HOK3 := Lib.hid (show ((failS (l1, e1) 2).2 ≠ 0 → (failS (l1, e1) 2).1 = []) ∧ (failS (l1, e1) 2).1.length ≤ 1000000000 from ⟨failS_ok (l1, e1) 2 HF.out.2.2.2.1, by unfold failS; split; simp; exact HF.out.2.2.2.2⟩)
          clear hU HS hj h0
          go_wp2_with fail
          refine (refFail_any l1 e1 2 wr).mono ?_
          rintro r w4 ⟨rfl, hb4⟩
          generalize failS (l1, e1) 2 = st4 at HR HOK3 ⊢
          obtain ⟨l4, e4⟩ := st4
          have hT4 := HF.out.1.keep hb4
          have HF4 := Lib.hid (show RFill w b (l4, e4) l2 ((w4.setCell ⟨w.heap.size, 0, none⟩ (.string (bs l4))).setCell ⟨w.heap.size, 1, none⟩ (.int .i64 e4)) from
            ⟨hT4.set l4 (.int .i64 e4), (HF.out.2.1.below hb4).touch (((Touch.refl (fun j => j = w.heap.size) w4).setCell (p := ⟨w.heap.size, 0, none⟩) (fun _ => rfl) _).setCell (p := ⟨w.heap.size, 1, none⟩) (fun _ => rfl) _) (by omega), hbw, HOK3.out⟩)
          clear c0 c1 f0 f1 r0 r1 g0 g1 sz hz3 hbl
          obtain ⟨c0, c1, f0, f1, r0, r1, g0, g1, sz, bel⟩ := hT4
          have hz4 : w.heap.size < w4.heap.size := by omega
          clear bel hb4
          unfold inV
          simp only
          go_wp2
          refine bodyPost_ret (v := .tuple #[.agg #[.string (bs l4), .int .i64 e4], .slice (some ⟨b, 0, none⟩) 64 64]) (by simp [results, Try.results39, go_sem, r0, r1]) rfl ?_
          rw [HR.out]; exact rfill_end HF4.out _ _
        · have HR := Lib.hid (show heapS (l, e) = ((l1, e1), l2) by rw [HS.out, if_neg (fun h => h (hU.2 (.inr hj)))])
          generalize l2.getD j 0 = x at hc3 hc3' hj hU
          have hjb : (x == 0) = false := by simpa using hj
          clear hU HS hj h0
          go_wp2
          refine bodyPost_ret (v := .tuple #[.agg #[.string (bs l1), .int .i64 e1], .slice (some ⟨b, 0, none⟩) 64 64]) (by simp [results, Try.results39, go_sem, r0, r1]) rfl ?_
          rw [HR.out]; exact rfill_end HF.out _ _
end Go.Proofs.Ytmghhigepjeicaa
