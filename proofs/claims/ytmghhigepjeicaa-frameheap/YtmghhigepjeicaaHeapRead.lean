/-
  A heap out of bytes.
-/
import Derived.Test.YtmghhigepjeicaaHeapText
import Derived.Test.YtmghhigepjeicaaRefMore
namespace Go.Proofs.Ytmghhigepjeicaa
open Go.RowKit
set_option linter.unusedVariables false

abbrev StH := List UInt8 × Nat
/-- So many whole numbers, one behind the other, laid over zeros. -/
def takeN : Nat → StH → StH × List Int
  | 0, st => (st, zeros)
  | k + 1, st => ((numS (takeN k st).1).1, (takeN k st).2.set k (unzig (numS (takeN k st).1).2))
theorem takeN_len (k : Nat) (st : StH) : (takeN k st).2.length = 64 := by
  induction k with
  | zero => simp [takeN, zeros]
  | succ k ih => simpa [takeN] using ih
theorem takeN_zero (k : Nat) (st : StH) (j : Nat) (h : k ≤ j) : (takeN k st).2.getD j 0 = 0 := by
  induction k with
  | zero =>
    simp only [takeN, zeros, List.getD, List.getElem?_replicate]
    split <;> rfl
  | succ k ih =>
    simp only [takeN, List.getD, List.getElem?_set_ne (show k ≠ j by omega)]
    exact ih (by omega)
theorem unzig_bound (n : Nat) (h : n < 18446744073709551616) : -9223372036854775808 ≤ unzig n ∧ unzig n ≤ 9223372036854775807 := by
  unfold unzig; split <;> omega
/-- What comes of bytes as a heap. -/
def heapS (st : StH) : StH × List Int :=
  (if usedN (takeN (countS st 64).2 (countS st 64).1).2 ≠ (countS st 64).2 then failS (takeN (countS st 64).2 (countS st 64).1).1 2 else (takeN (countS st 64).2 (countS st 64).1).1, (takeN (countS st 64).2 (countS st 64).1).2)
theorem countS_most (st : StH) (m : Nat) : (countS st m).2 ≤ m := by
  unfold countS; split
  · exact Nat.zero_le _
  · rename_i h; omega
/-- A heap that is being filled, and the reader that it is filled of. -/
def Fill (w : World) (i b : Nat) (st : StH) (l : List Int) (wr : World) : Prop := InSt wr i st ∧ HeapAt wr b l ∧ i < w.heap.size ∧ w.heap.size ≤ b ∧ Touch (fun k => k = i) w wr
theorem fill_int {w w1 w2 : World} {i b : Nat} {st st' : StH} {l : List Int} (h : Fill w i b st l w1) (ht : InTo w1 i st' w2) : Fill w i b st' l w2 :=
  ⟨ht.1, h.2.1.touch ht.2 (by have := h.2.2.1; have := h.2.2.2.1; omega), h.2.2.1, h.2.2.2.1, h.2.2.2.2.trans ht.2⟩
theorem fill_set {w w1 : World} {i b : Nat} {st : StH} {l : List Int} (h : Fill w i b st l w1) (k : Nat) (hk : k < 64) (x : Int) (hx : -9223372036854775808 ≤ x ∧ x ≤ 9223372036854775807) : Fill w i b st (l.set k x) (w1.setCell ⟨b, k, none⟩ (.int .i64 x)) := by
  have hs := heapTo_set h.2.1 k hk x hx
  exact ⟨h.1.touch hs.2 (by have := h.2.2.1; have := h.2.2.2.1; omega), hs.1, h.2.2.1, h.2.2.2.1, h.2.2.2.2.setCell (p := ⟨b, k, none⟩) (fun hh => by have := h.2.2.2.1; simp at hh; omega) _⟩
/-- What Read answers and leaves. -/
def HeapGot (w : World) (i : Nat) (t : StH × List Int) (r : Ending) (w' : World) : Prop :=
  (t.1.2 ≠ 0 ∧ r = .returned (.pointer none) ∨ t.1.2 = 0 ∧ ∃ b, r = .returned (.pointer (some ⟨b, 0, none⟩)) ∧ HeapAt w' b t.2 ∧ w.heap.size ≤ b) ∧ InTo w i t.1 w'
theorem fill_got {w wr : World} {i b : Nat} {st : StH} {l : List Int} (h : Fill w i b st l wr) (he : st.2 = 0) : HeapGot w i (st, l) (.returned (.pointer (some ⟨b, 0, none⟩))) wr :=
  ⟨.inr ⟨he, b, rfl, h.2.1, h.2.2.2.1⟩, h.1, h.2.2.2.2⟩
theorem fill_none {w wr : World} {i b : Nat} {st : StH} {l : List Int} (h : Fill w i b st l wr) (he : st.2 ≠ 0) : HeapGot w i (st, l) (.returned (.pointer none)) wr :=
  ⟨.inl ⟨he, rfl⟩, h.1, h.2.2.2.2⟩
theorem failS_some (l : List UInt8) (e : Nat) : (failS (l, e) 2).2 ≠ 0 := by
  unfold failS; split
  · decide
  · rename_i h; exact fun h0 => h ⟨h0, by decide⟩
set_option maxRecDepth 100000 in
theorem heapRead_any (i : Nat) (l : List UInt8) (e : Nat) (w : World) (h : InSt w i (l, e)) :
    Calls Try.prog 35 #[.pointer (some ⟨i, 0, none⟩)] w (HeapGot w i (heapS (l, e))) := by
  have HC := Lib.hid (count_any i l e 64 w (by decide) (by decide) h)
  have HS := Lib.hid (show heapS (l, e) = (if usedN (takeN (countS (l, e) 64).2 (countS (l, e) 64).1).2 ≠ (countS (l, e) 64).2 then failS (takeN (countS (l, e) 64).2 (countS (l, e) 64).1).1 2 else (takeN (countS (l, e) 64).2 (countS (l, e) 64).1).1, (takeN (countS (l, e) 64).2 (countS (l, e) 64).1).2) from rfl)
  have hn : (countS (l, e) 64).2 ≤ 64 := countS_most (l, e) 64
  have hlt := h.lt
  generalize countS (l, e) 64 = t at HC HS hn
  obtain ⟨st, n⟩ := t
  simp only at HC HS hn
  clear h
  go_enter Try.func35, Try.ntmps35
  go_wp2_with fail
  refine HC.out.mono ?_
  rintro r w1 ⟨rfl, hi⟩
  have HI := Lib.hid hi
  clear hi HC
  have HF0 := Lib.hid (show Fill w i w1.heap.size st zeros (w1.alloc (.cells (zeros.map (Value.int .i64)).toArray 59)) from
    ⟨HI.out.1.below ((Below.refl _ _).alloc (Nat.le_refl _) _), heap_new w1 _ _ rfl, hlt, HI.out.2.size, HI.out.2.alloc _⟩)
  go_wp2
  rw [← zeros_cells]
  generalize w1.alloc (.cells (zeros.map (Value.int .i64)).toArray 59) = W at HF0 ⊢
  generalize w1.heap.size = b at HF0 ⊢
  go_loopw [10] (fun x wr => ∃ k : Nat, k ≤ n ∧ x = .int .i64 k ∧ Hid (Fill w i b (takeN k st).1 (takeN k st).2 wr)) (fun x _ => n - (intOf x).toNat)
  case atStart => exact ⟨0, by omega, rfl, HF0⟩
  case round =>
    obtain ⟨k, hk, rfl, HF⟩ := hrel
    have HT := Lib.hid (show takeN (k + 1) st = ((numS (takeN k st).1).1, (takeN k st).2.set k (unzig (numS (takeN k st).1).2)) from rfl)
    by_cases hlt2 : k < n
    · generalize takeN k st = t at HF HT
      obtain ⟨⟨l1, e1⟩, l2⟩ := t
      simp only at HF HT
      have HN := Lib.hid (inInt_any i l1 e1 wr.drew HF.out.1)
      have HX := Lib.hid (unzig_bound _ (numS_lt (l1, e1)))
      generalize numS (l1, e1) = u at HN HX HT
      obtain ⟨st2, m⟩ := u
      simp only at HN HX HT
      generalize unzig m = x at HN HX HT
      have hk64 : (k : Int) < 64 := by omega
      have hk0 : (0 : Int) ≤ (k : Int) := by omega
      go_upto_region 6 with (fail)
      go_region_with (go_at_call 59; refine HN.out.mono ?_; rintro r w2 ⟨rfl, hi⟩; have HF2 := Lib.hid (show Fill w i b st2 l2 w2 from fill_int (w1 := wr) HF.out ⟨hi.1, hi.2.drew0⟩); have hc2 := HF2.out.2.1.cell k (by omega); have hf2 := HF2.out.2.1.2.2.1 k (by omega); clear hi)
      all_goals
        go_wp2
        go_roundw
        case rel => exact ⟨k + 1, by omega, by go_num, Lib.hid (by rw [HT.out]; exact fill_set HF2.out k (by omega) x HX.out)⟩
        case measure => simp [intOf]; omega
    · obtain rfl : k = n := by omega
      generalize takeN k st = t at HF HS
      obtain ⟨⟨l1, e1⟩, l2⟩ := t
      simp only at HF HS
      have HU := Lib.hid (used_any b l2 wr HF.out.2.1)
      have hu := usedN_le l2
      have hl2 := HF.out.2.1.1
      by_cases hul : usedN l2 = k
      · have HR := Lib.hid (show heapS (l, e) = ((l1, e1), l2) by rw [HS.out, if_neg (fun h => h hul)])
        rw [hul] at HU
        clear hul hu hl2 HS
        go_wp2_with fail
        refine HU.out.mono ?_
        rintro r w2 ⟨rfl, rfl⟩
        go_wp2_with fail
        refine (err_any i l1 e1 wr HF.out.1).mono ?_
        rintro r w2 ⟨rfl, rfl⟩
        by_cases he1 : e1 = 0
        · have HG := Lib.hid (fill_got HF.out he1)
          subst he1
          go_wp2
          go_ret
          rw [HR.out]; exact HG.out
        · have HG := Lib.hid (fill_none HF.out he1)
          have heb : ((e1 : Int) != 0) = true := by simp; omega
          clear he1
          go_wp2
          go_ret
          rw [HR.out]; exact HG.out
      · have HR := Lib.hid (show heapS (l, e) = (failS (l1, e1) 2, l2) by rw [HS.out, if_pos hul])
        have HFL := Lib.hid (fail_any i l1 e1 2 wr (by decide) HF.out.1)
        have he3 := failS_some l1 e1
        generalize failS (l1, e1) 2 = st3 at HR HFL he3
        obtain ⟨l3, e3⟩ := st3
        simp only at he3
        generalize usedN l2 = u at HU hul hu
        have hub : ((u : Int) != (k : Int)) = true := by simp; omega
        have heb : ((e3 : Int) != 0) = true := by simp; omega
        have HE3 := Lib.hid he3
        clear hul HS he3
        go_wp2_with fail
        refine HU.out.mono ?_
        rintro r w2 ⟨rfl, rfl⟩
        go_wp2_with fail
        refine HFL.out.mono ?_
        rintro r w2 ⟨rfl, hi⟩
        have HF2 := Lib.hid (fill_int HF.out hi)
        clear hi
        go_wp2_with fail
        refine (err_any i l3 e3 w2 HF2.out.1).mono ?_
        rintro r w3 ⟨rfl, rfl⟩
        go_wp2
        go_ret
        rw [HR.out]; exact fill_none HF2.out HE3.out
end Go.Proofs.Ytmghhigepjeicaa
