/-
  Things as bytes, and back: what is put is taken back; a beginning is none; what is taken is spelt so. Plain mathematics of readers.
-/
import Derived.Test.YtcbadcbnknmdnaaWireBack
import Derived.Test.YtcbadcbnknmdnaaVals
namespace Go.Proofs.Ytcbadcbnknmdnaa
set_option linter.unusedVariables false

structure Codec {α : Type} (f : St → St × α) (enc : α → List UInt8) (dom : α → Prop) : Prop where
  back : ∀ x r, dom x → f (enc x ++ r, 0) = ((r, 0), x)
  cut : ∀ x p, dom x → p <+: enc x → p ≠ enc x → (f (p, 0)).1 = ([], 1)
  stick : ∀ e, e ≠ 0 → (f ([], e)).1 = ([], e)
  spell : ∀ l, (f (l, 0)).1.2 = 0 → l = enc (f (l, 0)).2 ++ (f (l, 0)).1.1
  nil : ∀ l, (f (l, 0)).1.2 ≠ 0 → (f (l, 0)).1.1 = []
theorem prefix_parts {p a b : List UInt8} (h : p <+: a ++ b) : (p <+: a ∧ p ≠ a) ∨ ∃ q, p = a ++ q ∧ q <+: b := by
  by_cases hl : p.length < a.length
  · refine .inl ⟨?_, fun e => by rw [e] at hl; omega⟩
    exact List.prefix_of_prefix_length_le h (List.prefix_append a b) (by omega)
  · have h1 : a <+: p := List.prefix_of_prefix_length_le (List.prefix_append a b) h (by omega)
    obtain ⟨q, rfl⟩ := h1
    exact .inr ⟨q, rfl, (List.prefix_append_right_inj a).1 h⟩
/-- One thing, and then another one that hangs on it. -/
theorem Codec.bind {α β : Type} {f : St → St × α} {enc : α → List UInt8} {dom : α → Prop} {g : α → St → St × β} {enc' : β → List UInt8} {dom' : α → β → Prop} (hf : Codec f enc dom) (hg : ∀ a, Codec (g a) enc' (dom' a)) (π : β → α) (hπ : ∀ a st, π (g a st).2 = a) :
    Codec (fun st => g (f st).2 (f st).1) (fun y => enc (π y) ++ enc' y) (fun y => dom (π y) ∧ dom' (π y) y) where
  back y r h := by
    show g (f (enc (π y) ++ enc' y ++ r, 0)).2 (f (enc (π y) ++ enc' y ++ r, 0)).1 = _
    rw [List.append_assoc, hf.back _ _ h.1]
    exact (hg _).back _ _ h.2
  cut y p h hp hne := by
    show (g (f (p, 0)).2 (f (p, 0)).1).1 = _
    rcases prefix_parts hp with ⟨h1, h2⟩ | ⟨q, rfl, hq⟩
    · rw [hf.cut _ _ h.1 h1 h2]
      exact (hg _).stick 1 (by decide)
    · rw [hf.back _ _ h.1]
      exact (hg _).cut _ _ h.2 hq (fun e => hne (by rw [e]))
  stick e he := by
    show (g (f ([], e)).2 (f ([], e)).1).1 = _
    rw [hf.stick e he]
    exact (hg _).stick e he
  spell l h := by
    show l = enc (π (g (f (l, 0)).2 (f (l, 0)).1).2) ++ enc' (g (f (l, 0)).2 (f (l, 0)).1).2 ++ (g (f (l, 0)).2 (f (l, 0)).1).1.1
    have h' : (g (f (l, 0)).2 (f (l, 0)).1).1.2 = 0 := h
    rw [hπ]
    by_cases he : (f (l, 0)).1.2 = 0
    · have h1 := hf.spell l he
      have e1 : (f (l, 0)).1 = ((f (l, 0)).1.1, 0) := Prod.ext rfl he
      rw [e1] at h' ⊢
      have h2 := (hg (f (l, 0)).2).spell _ h'
      rw [List.append_assoc, ← h2]
      exact h1
    · have e1 : (f (l, 0)).1 = ([], (f (l, 0)).1.2) := Prod.ext (hf.nil l he) rfl
      rw [e1, (hg _).stick _ he] at h'
      exact absurd h' he
  nil l h := by
    have h' : (g (f (l, 0)).2 (f (l, 0)).1).1.2 ≠ 0 := h
    show (g (f (l, 0)).2 (f (l, 0)).1).1.1 = []
    by_cases he : (f (l, 0)).1.2 = 0
    · have e1 : (f (l, 0)).1 = ((f (l, 0)).1.1, 0) := Prod.ext rfl he
      rw [e1] at h' ⊢
      exact (hg _).nil _ h'
    · have e1 : (f (l, 0)).1 = ([], (f (l, 0)).1.2) := Prod.ext (hf.nil l he) rfl
      rw [e1, (hg _).stick _ he]
/-- Nothing is taken. -/
theorem Codec.unit {α : Type} (a : α) : Codec (fun st => (st, a)) (fun _ => []) (fun x => x = a) where
  back x r h := by subst h; rfl
  cut x p h hp hne := absurd (List.prefix_nil.1 hp) hne
  stick e he := rfl
  spell l h := rfl
  nil l h := absurd rfl h
/-- The same bytes, told otherwise. -/
theorem Codec.map {α β : Type} {f : St → St × α} {enc : α → List UInt8} {dom : α → Prop} (hf : Codec f enc dom) (i : α → β) (j : β → α) (dom' : β → Prop) (hd : ∀ y, dom' y → dom (j y) ∧ i (j y) = y) (hj : ∀ st, j (i (f st).2) = (f st).2) : Codec (fun st => ((f st).1, i (f st).2)) (fun y => enc (j y)) dom' where
  back y r h := by
    show ((f (enc (j y) ++ r, 0)).1, i (f (enc (j y) ++ r, 0)).2) = _
    rw [hf.back _ _ (hd y h).1, (hd y h).2]
  cut y p h hp hne := hf.cut _ p (hd y h).1 hp hne
  stick e he := hf.stick e he
  spell l h := by
    show l = enc (j (i (f (l, 0)).2)) ++ _
    rw [hj]
    exact hf.spell l h
  nil l h := hf.nil l h
/-- So many, one behind the other, the first one first. -/
theorem runS_cons {α : Type} (f : St → St × α) (n : Nat) (st : St) : runS f (n + 1) st = ((runS f n (f st).1).1, (f st).2 :: (runS f n (f st).1).2) := by
  induction n with
  | zero => rfl
  | succ n ih =>
    rw [runS, ih]
    rfl
theorem Codec.run {α : Type} {f : St → St × α} {enc : α → List UInt8} {dom : α → Prop} (hf : Codec f enc dom) (n : Nat) : Codec (runS f n) (fun xs => (xs.map enc).flatten) (fun xs => xs.length = n ∧ ∀ x ∈ xs, dom x) := by
  induction n with
  | zero =>
    refine ⟨fun x r h => ?_, fun x p h hp hne => ?_, fun e he => rfl, fun l h => rfl, fun l h => absurd rfl h⟩
    · obtain rfl : x = [] := List.eq_nil_of_length_eq_zero h.1
      rfl
    · obtain rfl : x = [] := List.eq_nil_of_length_eq_zero h.1
      exact absurd (List.prefix_nil.1 hp) hne
  | succ n ih =>
    refine ⟨fun x r h => ?_, fun x p h hp hne => ?_, fun e he => ?_, fun l h => ?_, fun l h => ?_⟩
    · obtain ⟨y, ys, rfl⟩ := List.exists_cons_of_length_eq_add_one h.1
      simp only [List.map_cons, List.flatten_cons, List.append_assoc]
      rw [runS_cons, hf.back _ _ (h.2 y (by simp)), ih.back _ _ ⟨by simpa using h.1, fun z hz => h.2 z (by simp [hz])⟩]
    · obtain ⟨y, ys, rfl⟩ := List.exists_cons_of_length_eq_add_one h.1
      simp only [List.map_cons, List.flatten_cons] at hp hne
      rw [runS_cons]
      rcases prefix_parts hp with ⟨h1, h2⟩ | ⟨q, rfl, hq⟩
      · show (runS f n (f (p, 0)).1).1 = _
        rw [hf.cut _ _ (h.2 y (by simp)) h1 h2]
        exact ih.stick 1 (by decide)
      · show (runS f n (f (enc y ++ q, 0)).1).1 = _
        rw [hf.back _ _ (h.2 y (by simp))]
        exact ih.cut ys q ⟨by simpa using h.1, fun z hz => h.2 z (by simp [hz])⟩ hq (fun e => hne (by rw [e]))
    · rw [runS_cons]
      show (runS f n (f ([], e)).1).1 = _
      rw [hf.stick e he]
      exact ih.stick e he
    · rw [runS_cons] at h ⊢
      have h' : (runS f n (f (l, 0)).1).1.2 = 0 := h
      show l = (((f (l, 0)).2 :: (runS f n (f (l, 0)).1).2).map enc).flatten ++ (runS f n (f (l, 0)).1).1.1
      by_cases he : (f (l, 0)).1.2 = 0
      · have h1 := hf.spell l he
        have e1 : (f (l, 0)).1 = ((f (l, 0)).1.1, 0) := Prod.ext rfl he
        rw [e1] at h' ⊢
        have h2 := ih.spell _ h'
        rw [List.map_cons, List.flatten_cons, List.append_assoc, ← h2]
        exact h1
      · have e1 : (f (l, 0)).1 = ([], (f (l, 0)).1.2) := Prod.ext (hf.nil l he) rfl
        rw [e1, ih.stick _ he] at h'
        exact absurd h' he
    · rw [runS_cons] at h ⊢
      have h' : (runS f n (f (l, 0)).1).1.2 ≠ 0 := h
      show (runS f n (f (l, 0)).1).1.1 = []
      by_cases he : (f (l, 0)).1.2 = 0
      · have e1 : (f (l, 0)).1 = ((f (l, 0)).1.1, 0) := Prod.ext rfl he
        rw [e1] at h' ⊢
        exact ih.nil _ h'
      · have e1 : (f (l, 0)).1 = ([], (f (l, 0)).1.2) := Prod.ext (hf.nil l he) rfl
        rw [e1, ih.stick _ he]

/-- Bytes that are taken as a number are its bytes. -/
theorem take_spelt (l : List UInt8) : ∀ k acc n sz, takeF k acc l = (n, sz, 0) → ∃ m, n = acc + m * 128 ^ k ∧ sz = k + (numB m).length ∧ (numB m).length ≤ l.length ∧ l.take (numB m).length = numB m ∧ (0 < k → 0 < m) := by
  induction l with
  | nil => intro k acc n sz h; rw [takeF_end] at h; simp at h
  | cons b r ih =>
    intro k acc n sz h
    have hb := byte_lt b
    by_cases hbad : (0 < k ∧ b.toNat = 0) ∨ (k = 9 ∧ 1 < b.toNat)
    · rw [takeF_bad hbad] at h; simp at h
    · by_cases h2 : b.toNat < 128
      · rw [takeF_last hbad h2] at h
        simp only [Prod.mk.injEq, and_true] at h
        obtain ⟨rfl, rfl⟩ := h
        have e : byteOf b.toNat = b := UInt8.toNat_inj.1 (byteOf_toNat hb)
        refine ⟨b.toNat, by rw [Nat.mod_eq_of_lt h2], by rw [numB_lt h2]; rfl, by rw [numB_lt h2]; simp, by rw [numB_lt h2, e]; simp, fun hk => by omega⟩
      · rw [takeF_more hbad h2] at h
        obtain ⟨m, h3, h4, h5, h6, h7⟩ := ih _ _ _ _ h
        have hm := h7 (by omega)
        have hge : 128 ≤ b.toNat % 128 + 128 * m := by omega
        have e1 : (b.toNat % 128 + 128 * m) % 128 + 128 = b.toNat := by omega
        have e2 : (b.toNat % 128 + 128 * m) / 128 = m := by omega
        have e : byteOf b.toNat = b := UInt8.toNat_inj.1 (byteOf_toNat hb)
        have hN : numB (b.toNat % 128 + 128 * m) = b :: numB m := by rw [numB_ge hge, e1, e2, e]
        refine ⟨b.toNat % 128 + 128 * m, ?_, by rw [hN, h4, List.length_cons]; omega, by rw [hN, List.length_cons, List.length_cons]; omega, by rw [hN, List.length_cons, List.take_succ_cons, h6], fun _ => by omega⟩
        rw [h3, Nat.pow_succ, Nat.add_mul, Nat.add_assoc]
        congr 2
        rw [Nat.mul_comm (128 ^ k) 128, ← Nat.mul_assoc, Nat.mul_comm m 128]
theorem numT_spelt (l : List UInt8) (h : (numT l).2.2 = 0) : (numB (numT l).1).length ≤ l.length ∧ l.take (numB (numT l).1).length = numB (numT l).1 ∧ (numT l).2.1 = (numB (numT l).1).length := by
  have e : takeF 0 0 l = ((numT l).1, (numT l).2.1, 0) := by
    show numT l = _
    conv => rhs; rw [← h]
  obtain ⟨m, h1, h2, h3, h4, -⟩ := take_spelt l 0 0 _ _ e
  have : (numT l).1 = m := by rw [h1]; simp
  rw [this]
  exact ⟨h3, h4, by omega⟩
theorem takeF_cut (m : Nat) : ∀ k acc (p : List UInt8), k ≤ 9 → m * 128 ^ k < 18446744073709551616 → p <+: numB m → p ≠ numB m → takeF k acc p = (0, 0, 1) := by
  induction m using Nat.strongRecOn with
  | ind m ih =>
    intro k acc p hk hm hp hne
    have h9 : (128 : Nat) ^ 9 = 9223372036854775808 := by decide
    have hk9 : k = 9 → m ≤ 1 := fun e => by subst e; omega
    by_cases h : m < 128
    · rw [numB_lt h] at hp hne
      cases p with
      | nil => exact takeF_end _ _
      | cons b p =>
        obtain ⟨rfl, h2⟩ := List.cons_prefix_cons.1 hp
        exact absurd (by rw [List.prefix_nil.1 h2]) hne
    · rw [numB_ge (by omega)] at hp hne
      cases p with
      | nil => exact takeF_end _ _
      | cons b p =>
        obtain ⟨rfl, h2⟩ := List.cons_prefix_cons.1 hp
        have e : (byteOf (m % 128 + 128)).toNat = m % 128 + 128 := byteOf_toNat (by omega)
        have hk8 : k ≠ 9 := fun e => by have := hk9 e; omega
        have hp2 : m / 128 * 128 ^ (k + 1) ≤ m * 128 ^ k := by
          rw [Nat.pow_succ, Nat.mul_comm (128 ^ k), ← Nat.mul_assoc]
          exact Nat.mul_le_mul_right _ (Nat.div_mul_le_self m 128)
        rw [takeF_more (by rw [e]; omega) (by rw [e]; omega)]
        exact ih (m / 128) (by omega) (k + 1) _ p (by omega) (by omega) h2 (fun e => hne (by rw [e]))
theorem numC : Codec numS numB (fun n => n < 18446744073709551616) where
  back n r h := numS_back n r h
  cut n p h hp hne := by
    have := takeF_cut n 0 0 p (by decide) (by simpa using h) hp hne
    have e : numT p = (0, 0, 1) := this
    unfold numS failS
    simp [e]
  stick e he := by
    have h0 : numT [] = (0, 0, 1) := rfl
    unfold numS failS
    simp [h0, he]
  spell l h := by
    unfold numS at h ⊢
    by_cases he : (numT l).2.2 = 0
    · rw [if_neg (by simpa using he)] at h ⊢
      obtain ⟨h1, h2, h3⟩ := numT_spelt l he
      simp only [h3]
      conv => lhs; rw [← List.take_append_drop (numB (numT l).1).length l, h2]
    · rw [if_pos he] at h
      unfold failS at h
      rw [if_pos ⟨rfl, he⟩] at h
      exact absurd h he
  nil l h := by
    unfold numS at h ⊢
    by_cases he : (numT l).2.2 = 0
    · rw [if_neg (by simpa using he)] at h
      exact absurd rfl h
    · rw [if_pos he]
      unfold failS
      rw [if_pos ⟨rfl, he⟩]
theorem countC (most : Nat) (hm : most < 18446744073709551616) : Codec (fun st => countS st most) numB (fun n => n ≤ most) where
  back n r h := by
    unfold countS
    rw [numS_back n r (by omega), if_neg (by simp only; omega)]
  cut n p h hp hne := by
    have h1 := numC.cut n p (by omega) hp hne
    show (countS (p, 0) most).1 = _
    unfold countS
    split
    · rw [h1]; rfl
    · exact h1
  stick e he := by
    have h1 := numC.stick e he
    show (countS ([], e) most).1 = _
    unfold countS
    split
    · rw [h1]; unfold failS; rw [if_neg (fun h => he h.1)]
    · exact h1
  spell l h := by
    have h' : (countS (l, 0) most).1.2 = 0 := h
    show l = numB (countS (l, 0) most).2 ++ (countS (l, 0) most).1.1
    unfold countS at h' ⊢
    split at h'
    · rename_i hc
      unfold failS at h'
      split at h'
      · simp at h'
      · rename_i h2
        exact absurd ⟨h', by decide⟩ h2
    · rename_i hc
      rw [if_neg hc]
      exact numC.spell l h'
  nil l h := by
    have h' : (countS (l, 0) most).1.2 ≠ 0 := h
    show (countS (l, 0) most).1.1 = []
    unfold countS at h' ⊢
    split at h'
    · rename_i hc
      rw [if_pos hc]
      unfold failS at h' ⊢
      split
      · rfl
      · rename_i h2
        rw [if_neg h2] at h'
        exact numC.nil l h'
    · rename_i hc
      rw [if_neg hc]
      exact numC.nil l h'
theorem unzig_zig (n : Nat) : zig (unzig n) = n := by
  unfold unzig zig
  by_cases h : n % 2 = 1
  · rw [if_pos h, if_pos (by omega)]; omega
  · rw [if_neg h, if_neg (by omega)]; omega
theorem intC : Codec (fun st => ((numS st).1, unzig (numS st).2)) (fun n => numB (zig n)) (fun n => -9223372036854775808 ≤ n ∧ n ≤ 9223372036854775807) :=
  numC.map unzig zig _ (fun y h => ⟨zig_lt h.1 h.2, zig_back y⟩) (fun st => unzig_zig _)
end Go.Proofs.Ytcbadcbnknmdnaa
