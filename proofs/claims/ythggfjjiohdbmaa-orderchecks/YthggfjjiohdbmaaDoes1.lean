/-
  Layer 8: a call on both, the table and the document's: the same answer, the same units.
-/
import Derived.Test.YthggfjjiohdbmaaRefU5
namespace Go.Proofs.Ythggfjjiohdbmaa
open Go.RowKit
set_option linter.unusedVariables false

theorem tabTo_same {K : Nat → Prop} {b : Nat} {us : List Un} {g : Int} {w w' : World} (h : TabQ K b us g w) (hb : Below w.heap.size w w') : TabTo K b us g w w' := ⟨h.below hb, touch_of_below hb⟩
/-- What the document's table is to its calls. -/
structure RT (w : World) (a : Option Addr) (c : Nat) (us : List Un) : Prop where
  row : UnRow w a us
  nil : a = none → us = []
  len : us.length ≤ c
  cap : c ≤ maxLen
theorem kill_both {K : Nat → Prop} (b : Nat) (us : List Un) (g id : Int) (hok : TabOk us g) : ∃ us' q, (∀ W, TabQ K b us g W → Calls Try.prog 16 #[.pointer (some ⟨b, 0, none⟩), .int .i64 id] W fun r w' => r = .returned (.bool q) ∧ TabTo K b us' g W w') ∧
    (∀ W a c, RT W a c us → Calls Try.prog 17 #[.agg #[.slice a us.length c, .int .i64 (g + 1)], .int .i64 id] W (RPost W a us' (g + 1) (.bool q))) := by
  obtain ⟨n, hn⟩ := find_is us id hok.2.1
  cases hq : foundQ us id n
  · exact ⟨us, false, fun W h => (kill_no b us g id n W h hn hq).mono fun r w' ⟨h1, h2⟩ => ⟨h1, tabTo_same h h2⟩, fun W a c h => refKill_no a c us (g + 1) id n W hok.1 hok.2.1 h.row h.nil ⟨h.len, h.cap⟩ hn hq⟩
  · obtain ⟨hlt, he⟩ := findIs_lt hq
    exact ⟨us.eraseIdx n, true, fun W h => kill_yes b us g id n W h hn hlt he, fun W a c h => refKill_yes a c us (g + 1) id n W hok.1 hok.2.1 h.row h.nil ⟨h.len, h.cap⟩ hn hq⟩
theorem spawn_both {K : Nat → Prop} (b : Nat) (us : List Un) (g kind owner x y : Int) (hok : TabOk us g) : ∃ us' g' z, (∀ W, TabQ K b us g W → Calls Try.prog 14 #[.pointer (some ⟨b, 0, none⟩), .int .i64 kind, .int .i64 owner, .int .i64 x, .int .i64 y] W fun r w' => r = .returned (.int .i64 z) ∧ TabTo K b us' g' W w') ∧
    (∀ W a c, RT W a c us → Calls Try.prog 15 #[.agg #[.slice a us.length c, .int .i64 (g + 1)], .int .i64 kind, .int .i64 owner, .int .i64 x, .int .i64 y] W (RPost W a us' (g' + 1) (.int .i64 z))) := by
  cases hq : spawnQ us g kind owner x y
  · exact ⟨us, g, 0, fun W h => (spawn_no b us g kind owner x y W h hq).mono fun r w' ⟨h1, h2⟩ => ⟨h1, tabTo_same h h2⟩, fun W a c h => refSpawn_no a c us g kind owner x y W hok.1 hok.2.2.2 h.row h.nil ⟨h.len, h.cap⟩ hq⟩
  · exact ⟨us ++ [spawnU g kind owner x y], g + 1, g + 1, fun W h => spawn_yes b us g kind owner x y W h hq, fun W a c h => refSpawn_yes a c us g kind owner x y W hok.1 hok.2.2.2 h.row h.nil ⟨h.len, h.cap⟩ hq⟩
theorem set_both {K : Nat → Prop} (b : Nat) (us : List Un) (g id f x : Int) (hok : TabOk us g) : ∃ us' q, (∀ W, TabQ K b us g W → Calls Try.prog 18 #[.pointer (some ⟨b, 0, none⟩), .int .i64 id, .int .i64 f, .int .i64 x] W fun r w' => r = .returned (.bool q) ∧ TabTo K b us' g W w') ∧
    (∀ W a c, RT W a c us → Calls Try.prog 19 #[.agg #[.slice a us.length c, .int .i64 (g + 1)], .int .i64 id, .int .i64 f, .int .i64 x] W (RPost W a us' (g + 1) (.bool q))) := by
  obtain ⟨n, hn⟩ := find_is us id hok.2.1
  by_cases hno : foundQ us id n = false ∨ f < 2 ∨ 4 < f ∨ (¬ (f = 4 ∧ x < 1) ∧ mayN f.toNat x = false)
  · exact ⟨us, false, fun W h => (set_no b us g id f x n W h hn hno).mono fun r w' ⟨h1, h2⟩ => ⟨h1, tabTo_same h h2⟩, fun W a c h => refSet_no a c us (g + 1) id f x n W hok.1 hok.2.1 h.row h.nil ⟨h.len, h.cap⟩ hn hno⟩
  · have hq : foundQ us id n = true := by
      cases h : foundQ us id n
      · exact absurd (.inl h) hno
      · rfl
    have hf2 : ¬ f < 2 := fun h => hno (.inr (.inl h))
    have hf4 : ¬ 4 < f := fun h => hno (.inr (.inr (.inl h)))
    obtain ⟨hlt, he⟩ := findIs_lt hq
    by_cases hk : f = 4 ∧ x < 1
    · obtain ⟨rfl, hx⟩ := hk
      exact ⟨us.eraseIdx n, true, fun W h => set_kill b us g id x n W h hn hlt he hx, fun W a c h => refSet_kill a c us (g + 1) id x n W hok.1 hok.2.1 h.row h.nil ⟨h.len, h.cap⟩ hn hq hx⟩
    · have hm : mayN f.toNat x = true := by
        cases h : mayN f.toNat x
        · exact absurd (.inr (.inr (.inr ⟨hk, h⟩))) hno
        · rfl
      obtain ⟨fn, rfl⟩ := Int.eq_ofNat_of_zero_le (show 0 ≤ f by omega)
      simp only [Int.toNat_natCast] at hm
      exact ⟨us.set n (us[n].setF fn x), true, fun W h => set_yes b us g id x fn n W h hn hlt he (by omega) (by omega) hm, fun W a c h => refSet_yes a c us (g + 1) id x fn n W hok.1 hok.2.1 h.row h.nil ⟨h.len, h.cap⟩ hn hq hlt (by omega) (by omega) hm⟩
/-- The blocks that a law's table may not have: those of K0, and the document's row. -/
def KA (K0 : Nat → Prop) (a : Option Addr) (k : Nat) : Prop := K0 k ∨ a.map (·.block) = some k
structure DoMem (K0 : Nat → Prop) (b : Nat) (us : List Un) (g : Int) (a : Option Addr) (c : Nat) (wr : World) : Prop where
  tab : TabQ (KA K0 a) b us g wr
  rt : RT wr a c us
theorem RT.below {w w' : World} {a : Option Addr} {c : Nat} {us : List Un} (h : RT w a c us) (hb : Below w.heap.size w w') : RT w' a c us := ⟨h.row.below hb, h.nil, h.len, h.cap⟩
theorem DoMem.keep {K0 : Nat → Prop} {wr w' : World} {b : Nat} {us : List Un} {g : Int} {a : Option Addr} {c : Nat} (h : DoMem K0 b us g a c wr) (hb : Below wr.heap.size wr w') : DoMem K0 b us g a c w' :=
  ⟨h.tab.below hb, h.rt.below hb⟩
theorem TabQ.touchK {K S : Nat → Prop} {w w' : World} {b : Nat} {us : List Un} {g : Int} (h : TabQ K b us g w) (ht : Touch S w w') (hS : ∀ k, S k → K k) : TabQ K b us g w' := by
  obtain ⟨⟨a, c, h1, h2, h3⟩, h4, h5⟩ := h
  exact ⟨⟨a, c, h1.touch ht (fun h => h2 (hS _ h)) (fun x hx h => h3 x hx (hS _ h)), h2, h3⟩, fun k hk => Nat.lt_of_lt_of_le (h4 k hk) ht.size, h5⟩
/-- What is stored into a block of K0 that is none of the document's row. -/
theorem DoMem.set {K0 S : Nat → Prop} {wr w' : World} {b : Nat} {us : List Un} {g : Int} {a : Option Addr} {c : Nat} (h : DoMem K0 b us g a c wr) (ht : Touch S wr w') (hS : ∀ k, S k → K0 k) (ha : ∀ x, a = some x → ¬ S x.block) : DoMem K0 b us g a c w' :=
  ⟨h.tab.touchK ht (fun k hk => .inl (hS k hk)), ⟨h.rt.row.touch ht ha, h.rt.nil, h.rt.len, h.rt.cap⟩⟩
/-- Blocks B and the two behind it, beside those of KA. -/
def KB (K0 : Nat → Prop) (a : Option Addr) (B k : Nat) : Prop := KA K0 a k ∨ (B ≤ k ∧ k < B + 3)
theorem does_fin {K0 : Nat → Prop} {w w2 w3 : World} {a a' : Option Addr} {b B c' : Nat} {us' : List Un} {g' : Int} (hq : TabQ (KB K0 a B) b us' g' w2) (h2 : UnRow w3 a' us') (h3 : a' = none → us' = []) (h4 : us'.length ≤ c') (h5 : c' ≤ maxLen) (h6 : a' = a ∨ ∀ x, a' = some x → w2.heap.size ≤ x.block ∧ x.block < w3.heap.size) (h7 : Below w2.heap.size w2 w3)
    (hbel : Touch (fun k => ¬ K0 k) w w2) (hB : ∀ k, K0 k → k < B) (ha : ∀ x, a = some x → x.block < B) (x0 x1 : Value) (o : Obj) : DoMem K0 b us' g' a' c' (((w3.setCell ⟨B + 2, 0, none⟩ x0).setCell ⟨B + 2, 1, none⟩ x1).alloc o) ∧ Touch (fun k => ¬ K0 k) w (((w3.setCell ⟨B + 2, 0, none⟩ x0).setCell ⟨B + 2, 1, none⟩ x1).alloc o) ∧ (a' = a ∨ ∀ x, a' = some x → w2.heap.size ≤ x.block) := by
  have ht := set2r_touch w3 (B + 2) x0 x1
  unfold set2r at ht
  have hB2 : B + 2 < w2.heap.size := hq.2.1 _ (.inr ⟨by omega, by omega⟩)
  have hq3 : TabQ (fun k => KB K0 a B k ∨ (∃ x, a' = some x ∧ a' ≠ a ∧ k = x.block)) b us' g' w3 := hq.grow h7 (fun k hk => by
    obtain ⟨x, hx, hne, rfl⟩ := hk
    rcases h6 with h | h
    · exact absurd h hne
    · exact h x hx)
  have hq4 := hq3.touchK ht (fun k hk => .inl (.inr (by omega)))
  have hq5 := hq4.below ((Below.refl _ _).alloc (Nat.le_refl _) o)
  have hba : ∀ x, a' = some x → x.block ≠ B + 2 := fun x hx e => by
    rcases h6 with h | h
    · rw [h] at hx; have := ha x hx; omega
    · have := (h x hx).1; omega
  refine ⟨⟨hq5.sub (fun k hk => ?_), ⟨(h2.touch ht (fun x hx e => hba x hx e)).below ((Below.refl _ _).alloc (Nat.le_refl _) o), h3, h4, h5⟩⟩, ?_, ?_⟩
  · rcases hk with h | h
    · exact .inl (.inl (.inl h))
    · by_cases e : a' = a
      · rw [e] at h; exact .inl (.inl (.inr h))
      · cases ha' : a' with
        | none => rw [ha'] at h; simp at h
        | some x => rw [ha'] at h; simp at h; exact .inr ⟨x, rfl, by rw [← ha']; exact e, h.symm⟩
  · refine ((hbel.trans (touch_of_below h7)).trans (ht.mono fun k _ e hk => ?_)).alloc o
    have := hB k hk
    omega
  · rcases h6 with h | h
    · exact .inl h
    · exact .inr fun x hx => (h x hx).1
end Go.Proofs.Ythggfjjiohdbmaa
