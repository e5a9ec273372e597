/-
  A heap's bytes, and back: plain mathematics.
-/
import Derived.Test.YtmghhigepjeicaaHeapRead
import Derived.Test.YtmghhigepjeicaaWireBack
namespace Go.Proofs.Ytmghhigepjeicaa
set_option linter.unusedVariables false

/-- Bytes that are taken as a number are its bytes. -/
theorem take_spelt1 (l : List UInt8) : ∀ k acc n sz, takeF k acc l = (n, sz, 0) → ∃ m, n = acc + m * 128 ^ k ∧ sz = k + (numB m).length ∧ (numB m).length ≤ l.length ∧ l.take (numB m).length = numB m ∧ (0 < k → 0 < m) := by
  induction l with
  | nil => intro k acc n sz h; rw [takeF_end] at h; simp at h
  | cons b r ih =>
    intro k acc n sz h
    have hb := byte_lt b
    by_cases hbad : (0 < k ∧ b.toNat = 0) ∨ (k = 9 ∧ 1 < b.toNat)
    · rw [takeF_bad hbad] at h; simp at h
    · by_cases h2 : b.toNat < 128
      · rw [takeF_last hbad h2] at h
        simp only [Prod.mk.injEq, and_true] at h
        obtain ⟨rfl, rfl⟩ := h
        have e : byteOf b.toNat = b := UInt8.toNat_inj.1 (byteOf_toNat hb)
        refine ⟨b.toNat, by rw [Nat.mod_eq_of_lt h2], by rw [numB_lt h2]; rfl, by rw [numB_lt h2]; simp, by rw [numB_lt h2, e]; simp, fun hk => by omega⟩
      · rw [takeF_more hbad h2] at h
        obtain ⟨m, h3, h4, h5, h6, h7⟩ := ih _ _ _ _ h
        have hm := h7 (by omega)
        have hge : 128 ≤ b.toNat % 128 + 128 * m := by omega
        have e1 : (b.toNat % 128 + 128 * m) % 128 + 128 = b.toNat := by omega
        have e2 : (b.toNat % 128 + 128 * m) / 128 = m := by omega
        have e : byteOf b.toNat = b := UInt8.toNat_inj.1 (byteOf_toNat hb)
        have hN : numB (b.toNat % 128 + 128 * m) = b :: numB m := by rw [numB_ge hge, e1, e2, e]
        refine ⟨b.toNat % 128 + 128 * m, ?_, by rw [hN, h4, List.length_cons]; omega, by rw [hN, List.length_cons, List.length_cons]; omega, by rw [hN, List.length_cons, List.take_succ_cons, h6], fun _ => by omega⟩
        rw [h3, Nat.pow_succ, Nat.add_mul, Nat.add_assoc]
        congr 2
        rw [Nat.mul_comm (128 ^ k) 128, ← Nat.mul_assoc, Nat.mul_comm m 128]
theorem numT_spelt1 (l : List UInt8) (h : (numT l).2.2 = 0) : (numB (numT l).1).length ≤ l.length ∧ l.take (numB (numT l).1).length = numB (numT l).1 ∧ (numT l).2.1 = (numB (numT l).1).length := by
  have e : takeF 0 0 l = ((numT l).1, (numT l).2.1, 0) := by
    show numT l = _
    conv => rhs; rw [← h]
  obtain ⟨m, h1, h2, h3, h4, -⟩ := take_spelt1 l 0 0 _ _ e
  have : (numT l).1 = m := by rw [h1]; simp
  rw [this]
  exact ⟨h3, h4, by omega⟩
theorem numS_spell (l : List UInt8) (h : (numS (l, 0)).1.2 = 0) : l = numB (numS (l, 0)).2 ++ (numS (l, 0)).1.1 := by
  unfold numS at h ⊢
  by_cases he : (numT l).2.2 = 0
  · rw [if_neg (by simpa using he)] at h ⊢
    obtain ⟨h1, h2, h3⟩ := numT_spelt1 l he
    simp only [h3]
    conv => lhs; rw [← List.take_append_drop (numB (numT l).1).length l, h2]
  · rw [if_pos he] at h
    unfold failS at h
    rw [if_pos ⟨rfl, he⟩] at h
    exact absurd h he
theorem numS_stick (st : StH) (h : st.2 ≠ 0) : (numS st).1.2 ≠ 0 := by
  unfold numS
  split
  · unfold failS
    rw [if_neg (fun h' => h h'.1)]; exact h
  · exact h
theorem countS_spell (l : List UInt8) (m : Nat) (h : (countS (l, 0) m).1.2 = 0) : l = numB (countS (l, 0) m).2 ++ (countS (l, 0) m).1.1 := by
  unfold countS at h ⊢
  split at h
  · rename_i hc
    unfold failS at h
    split at h
    · simp at h
    · rename_i h2
      exact absurd ⟨h, by decide⟩ h2
  · rename_i hc
    rw [if_neg hc]
    exact numS_spell l h
theorem takeN_spell (n : Nat) (hn : n ≤ 64) (st : StH) (h : (takeN n st).1.2 = 0) : st.2 = 0 ∧ st.1 = intsB ((takeN n st).2.take n) ++ (takeN n st).1.1 := by
  induction n with
  | zero => exact ⟨h, by simp [takeN, intsB, numsB]⟩
  | succ n ih =>
    have h' : (numS (takeN n st).1).1.2 = 0 := h
    have h0 : (takeN n st).1.2 = 0 := by
      by_cases e : (takeN n st).1.2 = 0
      · exact e
      · exact absurd h' (numS_stick _ e)
    obtain ⟨i1, i2⟩ := ih (by omega) h0
    refine ⟨i1, ?_⟩
    have hl := takeN_len n st
    rw [i2]
    show intsB ((takeN n st).2.take n) ++ (takeN n st).1.1 = intsB (((takeN n st).2.set n (unzig (numS (takeN n st).1).2)).take (n + 1)) ++ (numS (takeN n st).1).1.1
    generalize takeN n st = t at *
    obtain ⟨⟨l1, e1⟩, v⟩ := t
    simp only at *
    subst h0
    have hs := numS_spell l1 h'
    have e1 : ((v.set n (unzig (numS (l1, 0)).2)).take (n + 1)) = v.take n ++ [unzig (numS (l1, 0)).2] := by
      rw [List.take_succ_eq_append_getElem (by simp; omega), List.take_set_of_le (Nat.le_refl _)]
      simp
    rw [e1]
    have e2 : intsB (v.take n ++ [unzig (numS (l1, 0)).2]) = intsB (v.take n) ++ numB (numS (l1, 0)).2 := by
      have hz : zig (unzig (numS (l1, 0)).2) = (numS (l1, 0)).2 := by
        generalize (numS (l1, 0)).2 = q
        unfold unzig zig
        by_cases h : q % 2 = 1
        · rw [if_pos h, if_pos (by omega)]; omega
        · rw [if_neg h, if_neg (by omega)]; omega
      simp [intsB, numsB, hz]
    rw [e2, List.append_assoc, ← hs]
/-- What is read as a heap is written the same. -/
theorem heapS_spell (l : List UInt8) (h : (heapS (l, 0)).1.2 = 0) : heapB (heapS (l, 0)).2 ++ (heapS (l, 0)).1.1 = l := by
  have hn := countS_most (l, 0) 64
  have hc := countS_spell l 64
  unfold heapS at h ⊢
  have hn' : (countS (l, 0) 64).2 ≤ 64 := hn
  have hc' : (countS (l, 0) 64).1.2 = 0 → l = numB (countS (l, 0) 64).2 ++ (countS (l, 0) 64).1.1 := hc
  clear hn hc
  have hn := hn'
  have hc := hc'
  clear hn' hc'
  generalize countS (l, 0) 64 = c at *
  obtain ⟨⟨l1, e1⟩, n⟩ := c
  simp only at *
  by_cases hu : usedN (takeN n (l1, e1)).2 = n
  · rw [if_neg (fun h => h hu)] at h ⊢
    obtain ⟨h1, h2⟩ := takeN_spell n hn (l1, e1) h
    simp only at h1 h2
    have hl := hc h1
    unfold heapB
    rw [hu, List.append_assoc, ← h2, ← hl]
  · rw [if_pos hu] at h
    exact absurd h (failS_some _ _)
theorem intsB_cons (x : Int) (l : List Int) : intsB (x :: l) = numB (zig x) ++ intsB l := by simp [intsB, numsB]
theorem zeros_get (k : Nat) (h : k < zeros.length) : zeros[k] = 0 := List.getElem_replicate _
theorem takeN_back (l : List Int) (r : List UInt8) (hl : l.length ≤ 64) (hb : ∀ x ∈ l, -9223372036854775808 ≤ x ∧ x ≤ 9223372036854775807) (k : Nat) (hk : k ≤ l.length) :
    takeN k (intsB l ++ r, 0) = ((intsB (l.drop k) ++ r, 0), l.take k ++ zeros.drop k) := by
  induction k with
  | zero => simp [takeN]
  | succ k ih =>
    rw [takeN, ih (by omega)]
    have hd : l.drop k = l[k] :: l.drop (k + 1) := List.drop_eq_getElem_cons (by omega)
    have hx := hb l[k] (List.getElem_mem (by omega))
    simp only [hd, intsB_cons, List.append_assoc]
    rw [numS_back _ _ (zig_lt hx.1 hx.2)]
    simp only [zig_back]
    refine Prod.ext rfl ?_
    simp only
    rw [List.set_append_right _ _ (by simp; omega), List.take_succ_eq_append_getElem (by omega), List.append_assoc]
    congr 1
    have e : k - (l.take k).length = 0 := by simp; omega
    rw [e]
    have hz : zeros.drop k = 0 :: zeros.drop (k + 1) := by
      rw [List.drop_eq_getElem_cons (by simp [zeros]; omega), zeros_get]
    rw [hz]; rfl
/-- A heap's bytes are read as that heap. -/
theorem heapS_back (l : List Int) (r : List UInt8) (hl : l.length = 64) (hb : ∀ x ∈ l, -9223372036854775808 ≤ x ∧ x ≤ 9223372036854775807) : heapS (heapB l ++ r, 0) = ((r, 0), l) := by
  have hu := usedN_le l
  have hc : countS (heapB l ++ r, 0) 64 = ((intsB (l.take (usedN l)) ++ r, 0), usedN l) := by
    unfold countS heapB
    rw [List.append_assoc, numS_back _ _ (by omega)]
    rw [if_neg (by simp only; omega)]
  have ht := takeN_back (l.take (usedN l)) r (by simp; omega) (fun x hx => hb x (List.mem_of_mem_take hx)) (usedN l) (by simp; omega)
  have hzz : (l.take (usedN l)).take (usedN l) ++ zeros.drop (usedN l) = l := by
    rw [List.take_take, Nat.min_self]
    conv => rhs; rw [← List.take_append_drop (usedN l) l]
    congr 1
    apply List.ext_getElem
    · simp [zeros]; omega
    · intro i h1 h2
      have hi : usedN l + i < 64 := by simp at h2; omega
      have := usedK_beyond l l.length (usedN l + i) (Nat.le_add_right _ _) (by omega)
      rw [List.getElem_drop, List.getElem_drop]
      simp [List.getD, List.getElem?_eq_getElem (show usedN l + i < l.length by omega)] at this
      rw [this, zeros_get]
  rw [hzz, List.drop_take_self] at ht
  unfold heapS
  rw [hc]
  simp only
  rw [ht]
  simp [intsB, numsB]
end Go.Proofs.Ytmghhigepjeicaa
