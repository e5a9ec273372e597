/-
  The walk of the law UnitSets.
-/
import Derived.Test.YtapiaogmmoofkaaAwake8
import Derived.Test.YtapiaogmmoofkaaOrdTidy
namespace Go.Proofs.Ytapiaogmmoofkaa
open Go.RowKit
set_option linter.unusedVariables false

theorem find2_a {p q : Un} (hp : p.id = 1) (hq : q.id = 2) : FindIs [p, q] 1 0 := ⟨by simp, fun h hh => by
  have : h = 0 ∨ h = 1 := by simp at hh; omega
  rcases this with rfl | rfl
  · simp [hp]
  · simp [hq]⟩
theorem find2_b {p q : Un} (hp : p.id = 1) (hq : q.id = 2) : FindIs [p, q] 2 1 := ⟨by simp, fun h hh => by
  have : h = 0 ∨ h = 1 := by simp at hh; omega
  rcases this with rfl | rfl
  · simp [hp]
  · simp [hq]⟩
theorem find1_a {q : Un} (hq : q.id = 2) : FindIs [q] 1 0 := ⟨by simp, fun h hh => by
  have : h = 0 := by simpa using hh
  subst this
  simp [hq]⟩
theorem find1_b {q : Un} (hq : q.id = 2) : FindIs [q] 2 0 := ⟨by simp, fun h hh => by
  have : h = 0 := by simpa using hh
  subst this
  simp [hq]⟩
theorem unQ_self (u : Un) : unQ u u = true := (unQ_iff u u).2 rfl
/-- A unit in a box. -/
def BoxU (w : World) (X : Nat) (u : Un) : Prop := w.cell? ⟨X, 0, none⟩ = some (.int .i64 u.id) ∧ w.cell? ⟨X, 1, none⟩ = some (.int .i64 u.kind) ∧ w.cell? ⟨X, 2, none⟩ = some (.int .i64 u.owner) ∧ w.cell? ⟨X, 3, none⟩ = some (.int .i64 u.x) ∧ w.cell? ⟨X, 4, none⟩ = some (.int .i64 u.y) ∧ w.cell? ⟨X, 5, none⟩ = some (.int .i64 u.health) ∧ (∀ j, w.frozen? ⟨X, j, none⟩ = false)
theorem boxU_new (w : World) (u : Un) : BoxU (w.alloc (.cells #[.int .i64 u.id, .int .i64 u.kind, .int .i64 u.owner, .int .i64 u.x, .int .i64 u.y, .int .i64 u.health] 35)) w.heap.size u :=
  ⟨by simp, by simp, by simp, by simp, by simp, by simp, fun j => frozen_new _ _ _ _⟩
theorem BoxU.lt {w : World} {X : Nat} {u : Un} (h : BoxU w X u) : X < w.heap.size := block_lt_of_cell h.1
theorem BoxU.below {w w' : World} {X : Nat} {u : Un} (h : BoxU w X u) (hb : Below w.heap.size w w') : BoxU w' X u :=
  ⟨(hb.cell (p := ⟨X, 0, none⟩) h.lt).trans h.1, (hb.cell (p := ⟨X, 1, none⟩) h.lt).trans h.2.1, (hb.cell (p := ⟨X, 2, none⟩) h.lt).trans h.2.2.1, (hb.cell (p := ⟨X, 3, none⟩) h.lt).trans h.2.2.2.1, (hb.cell (p := ⟨X, 4, none⟩) h.lt).trans h.2.2.2.2.1, (hb.cell (p := ⟨X, 5, none⟩) h.lt).trans h.2.2.2.2.2.1, fun j => (hb.frozen (p := ⟨X, j, none⟩) h.lt).trans (h.2.2.2.2.2.2 j)⟩
theorem BoxU.touch {S : Nat → Prop} {w w' : World} {X : Nat} {u : Un} (h : BoxU w X u) (hb : Touch S w w') (hs : ¬ S X) : BoxU w' X u :=
  ⟨(hb.cell (p := ⟨X, 0, none⟩) h.lt hs).trans h.1, (hb.cell (p := ⟨X, 1, none⟩) h.lt hs).trans h.2.1, (hb.cell (p := ⟨X, 2, none⟩) h.lt hs).trans h.2.2.1, (hb.cell (p := ⟨X, 3, none⟩) h.lt hs).trans h.2.2.2.1, (hb.cell (p := ⟨X, 4, none⟩) h.lt hs).trans h.2.2.2.2.1, (hb.cell (p := ⟨X, 5, none⟩) h.lt hs).trans h.2.2.2.2.2.1, fun j => (hb.frozen (p := ⟨X, j, none⟩) h.lt hs).trans (h.2.2.2.2.2.2 j)⟩
/-- The law's memory ahead of Set: the table with both, and the boxes of both. -/
structure SetMem (w : World) (b X Y : Nat) (u v : Un) (us : List Un) (wr : World) : Prop where
  tab : TabQ (fun k => k < w.heap.size ∨ k = X ∨ k = Y) b us 2 wr
  bx : BoxU wr X u
  by' : BoxU wr Y v
  ne : X ≠ Y
  ge : w.heap.size ≤ X ∧ w.heap.size ≤ Y
  bel : Below w.heap.size w wr
theorem SetMem.keep {w wr w' : World} {b X Y : Nat} {u v : Un} {us : List Un} (h : SetMem w b X Y u v us wr) (hb : Below wr.heap.size wr w') : SetMem w b X Y u v us w' :=
  ⟨h.tab.below hb, h.bx.below hb, h.by'.below hb, h.ne, h.ge, h.bel.trans (hb.mono h.bel.size)⟩
theorem SetMem.step {w wr w' : World} {b X Y : Nat} {u v : Un} {us us' : List Un} (h : SetMem w b X Y u v us wr) (ht : TabTo (fun k => k < w.heap.size ∨ k = X ∨ k = Y) b us' 2 wr w') : SetMem w b X Y u v us' w' :=
  ⟨ht.1, h.bx.touch ht.2 (fun hn => hn (.inr (.inl rfl))), h.by'.touch ht.2 (fun hn => hn (.inr (.inr rfl))), h.ne, h.ge, h.bel.trans (ht.2.below h.bel.size (fun k hk hn => hn (.inl hk)))⟩
theorem mayN_0 {x : Int} (h1 : 0 ≤ x) (h2 : x ≤ 255) : mayN 0 x = true := by simp [mayN, h1, h2]
theorem mayN_1 {x : Int} (h1 : 0 ≤ x) (h2 : x ≤ 255) : mayN 1 x = true := by simp [mayN, h1, h2]
theorem mayN_2 {x : Int} (h1 : -1000 ≤ x) (h2 : x ≤ 1000) : mayN 2 x = true := by simp [mayN, h1, h2]
theorem mayN_3 {x : Int} (h1 : -1000 ≤ x) (h2 : x ≤ 1000) : mayN 3 x = true := by simp [mayN, h1, h2]
theorem mayN_4 {x : Int} (h1 : 1 ≤ x) (h2 : x ≤ 1000) : mayN 4 x = true := by simp [mayN, h1, h2]
theorem mayA (g : Int) (a b : Nat) (x y : Int) (ha : a ≤ 255) (hb : b ≤ 255) (hx : 0 ≤ x ∧ x ≤ 9) (hy : 0 ≤ y ∧ y ≤ 9) : mayQ (spawnU g a b x y) = true :=
  (mayQ_iff _).2 ⟨mayN_0 (x := (a : Int)) (by omega) (by omega), mayN_1 (x := (b : Int)) (by omega) (by omega), mayN_2 (x := x) (by omega) (by omega), mayN_3 (x := y) (by omega) (by omega), mayN_4 (x := 1000) (by omega) (by omega)⟩
theorem spawnA (a b : Nat) (ha : a ≤ 255) (hb : b ≤ 255) : spawnQ [] 0 a b 1 2 = true := by
  simp [spawnQ, mayA 0 a b 1 2 ha hb (by decide) (by decide)]
theorem spawnB (u : Un) (a b : Nat) (ha : a ≤ 255) (hb : b ≤ 255) : spawnQ [u] 1 a b 3 4 = true := by
  simp [spawnQ, mayA 1 a b 3 4 ha hb (by decide) (by decide)]
def SetsPost (w : World) (r : Ending) (w' : World) : Prop := r = .returned (.bool true) ∧ Below w.heap.size w w'
set_option maxRecDepth 100000 in
set_option maxHeartbeats 8000000 in
theorem unitSets_walk (w : World) (field x a b : Int) : Calls Try.prog 7 #[.int .i64 field, .int .i64 x, .int .i64 a, .int .i64 b] w fun e w' => e = .returned (.bool true) ∧ Below w.heap.size w w' := by
  have HAW := Lib.hid (awake8_any w)
  obtain ⟨qa, hqa, eqa⟩ := andM a 255 255 rfl (by decide)
  obtain ⟨qb, hqb, eqb⟩ := andM b 255 255 rfl (by decide)
  go_enter Try.func7, Try.ntmps7
  go_wp2_with fail
  refine HAW.out.mono ?_
  rintro e w1 ⟨rfl, hb1⟩
  have HB1 := Lib.hid hb1
  have HNEW := Lib.hid (tabNew_any (fun k => k < w.heap.size) w1 (fun k hk => Nat.lt_of_lt_of_le hk hb1.size))
  clear hb1 HAW
  go_wp2_with fail
  refine HNEW.out.mono ?_
  rintro e w2 ⟨rfl, hq2, hb2⟩
  have HQ2 := Lib.hid hq2
  have HB2 := Lib.hid (HB1.out.trans (hb2.mono HB1.out.size))
  clear hq2 hb2 HNEW HB1
  generalize w1.heap.size = tb at HQ2 ⊢
  have HS1 := Lib.hid (show Calls Try.prog 29 #[.pointer (some ⟨tb, 0, none⟩), .int .i64 qa, .int .i64 qb, .int .i64 1, .int .i64 2] w2 fun r w' => r = .returned (.int .i64 1) ∧ TabTo (fun k => k < w.heap.size) tb [⟨1, qa, qb, 1, 2, 1000⟩] 1 w2 w' from spawn_yes tb [] 0 qa qb 1 2 w2 HQ2.out (spawnA qa qb hqa hqb))
  go_wp2_with fail
  refine HS1.out.mono ?_
  rintro e w3 ⟨rfl, hq3, ht3⟩
  have HQ3 := Lib.hid hq3
  have HB3 := Lib.hid (HB2.out.trans (ht3.below HB2.out.size (fun k hk h => h hk)))
  have HS2 := Lib.hid (show Calls Try.prog 29 #[.pointer (some ⟨tb, 0, none⟩), .int .i64 qb, .int .i64 qa, .int .i64 3, .int .i64 4] w3 fun r w' => r = .returned (.int .i64 2) ∧ TabTo (fun k => k < w.heap.size) tb [⟨1, qa, qb, 1, 2, 1000⟩, ⟨2, qb, qa, 3, 4, 1000⟩] 2 w3 w' from spawn_yes tb [⟨1, qa, qb, 1, 2, 1000⟩] 1 qb qa 3 4 w3 hq3 (spawnB _ qb qa hqb hqa))
  clear hq3 ht3 HS1 HQ2 HB2
  go_wp2_with fail
  refine HS2.out.mono ?_
  rintro e w4 ⟨rfl, hq4, ht4⟩
  have HB4 := Lib.hid (HB3.out.trans (ht4.below HB3.out.size (fun k hk h => h hk)))
  have HQ4 := Lib.hid hq4
  have HU1 := Lib.hid (tabUnit_some tb _ 2 1 0 w4 hq4 (find2_a rfl rfl) (by simp) rfl)
  clear hq4 ht4 HS2 HQ3 HB3
  generalize hu : (⟨1, qa, qb, 1, 2, 1000⟩ : Un) = u at HQ4 HU1
  generalize hv : (⟨2, qb, qa, 3, 4, 1000⟩ : Un) = v at HQ4 HU1
  have HUI := Lib.hid (show u.id = 1 by rw [← hu])
  have HVI := Lib.hid (show v.id = 2 by rw [← hv])
  have HUM := Lib.hid (show u.setF = u.setF from rfl)
  clear hu hv
  simp only [List.getElem_cons_zero] at HU1
  go_wp2_with fail
  refine HU1.out.mono ?_
  rintro e w5 ⟨rfl, hb5⟩
  have HQ5 := Lib.hid (HQ4.out.below hb5)
  have HB5 := Lib.hid (HB4.out.trans (hb5.mono HB4.out.size))
  clear hb5 HU1 HQ4 HB4
  unfold unV
  have hA : Below w5.heap.size w5 (w5.alloc (.cells #[.int .i64 u.id, .int .i64 u.kind, .int .i64 u.owner, .int .i64 u.x, .int .i64 u.y, .int .i64 u.health] 35)) := (Below.refl _ _).alloc (Nat.le_refl _) _
  have HQ6 := Lib.hid (HQ5.out.below hA)
  have HB6 := Lib.hid (HB5.out.trans (hA.mono HB5.out.size))
  have HX6 := Lib.hid (boxU_new w5 u)
  have HU2 := Lib.hid (tabUnit_some tb _ 2 2 1 _ HQ6.out (find2_b HUI.out HVI.out) (by simp) HVI.out)
  simp only [List.getElem_cons_succ, List.getElem_cons_zero] at HU2
  have hX5 : w.heap.size ≤ w5.heap.size := HB5.out.size
  have HTX := Lib.hid (HQ5.out.grow (N := fun k => k = w5.heap.size) hA (fun k hk => ⟨by omega, by simp; omega⟩))
  clear hA
  go_wp2_with fail
  generalize w5.alloc (.cells #[.int .i64 u.id, .int .i64 u.kind, .int .i64 u.owner, .int .i64 u.x, .int .i64 u.y, .int .i64 u.health] 35) = w6 at HQ6 HB6 HX6 HU2 HTX ⊢
  refine HU2.out.mono ?_
  rintro e w7 ⟨rfl, hb7⟩
  have HQ7 := Lib.hid (HTX.out.below hb7)
  have HX7 := Lib.hid (HX6.out.below hb7)
  have HB7 := Lib.hid (HB6.out.trans (hb7.mono HB6.out.size))
  have hX7 : w5.heap.size < w7.heap.size := HX7.out.lt
  clear hb7 HU2 HTX HX6 HB6 HQ6 HQ5 HB5
  generalize w5.heap.size = X at HQ7 HX7 hX7 hX5 ⊢
  unfold unV
  have HM8 := Lib.hid (show SetMem w tb X w7.heap.size u v [u, v] (w7.alloc (.cells #[.int .i64 v.id, .int .i64 v.kind, .int .i64 v.owner, .int .i64 v.x, .int .i64 v.y, .int .i64 v.health] 35)) from by
    have hA : Below w7.heap.size w7 (w7.alloc (.cells #[.int .i64 v.id, .int .i64 v.kind, .int .i64 v.owner, .int .i64 v.x, .int .i64 v.y, .int .i64 v.health] 35)) := (Below.refl _ _).alloc (Nat.le_refl _) _
    exact ⟨(HQ7.out.grow (N := fun k => k = w7.heap.size) hA (fun k hk => ⟨by omega, by simp; omega⟩)).sub (fun k hk => by rcases hk with h | h | h; exact .inl (.inl h); exact .inl (.inr h); exact .inr h), HX7.out.below hA, boxU_new w7 v, by omega, ⟨hX5, by omega⟩, HB7.out.trans (hA.mono HB7.out.size)⟩)
  clear HQ7 HX7 HB7
  have hS := fun hn => set_no tb [u, v] 2 1 field x 0 _ HM8.out.tab (find2_a HUI.out HVI.out) hn
  have hSK := fun hx => set_kill tb [u, v] 2 1 x 0 _ HM8.out.tab (find2_a HUI.out HVI.out) (by simp) HUI.out hx
  have hSY := fun f h2 h4 hm => set_yes tb [u, v] 2 1 x f 0 _ HM8.out.tab (find2_a HUI.out HVI.out) (by simp) HUI.out h2 h4 hm
  have HS := Lib.hid hS
  have HSK := Lib.hid hSK
  have HSY := Lib.hid hSY
  clear hS hSK hSY
  by_cases hc : (field < 2 ∨ 4 < field) ∨ (¬ (field = 4 ∧ x < 1) ∧ mayN field.toNat x = false)
  · have HC := Lib.hid hc
    clear hc
    go_wp2_with fail
    refine (HS.out (.inr (by rcases HC.out with (h | h) | h; exact .inl h; exact .inr (.inl h); exact .inr (.inr h)))).mono ?_
    rintro e w9 ⟨rfl, hb9⟩
    have HM9 := Lib.hid (HM8.out.keep hb9)
    clear hb9 HS HSK HSY HM8 HC
    generalize w7.heap.size = Y at HM9 ⊢
    have HU := Lib.hid (tabUnit_some tb [u, v] 2 1 0 w9 HM9.out.tab (find2_a HUI.out HVI.out) (by simp) HUI.out)
    simp only [List.getElem_cons_zero] at HU
    go_wp2_with fail
    refine HU.out.mono ?_
    rintro e w10 ⟨rfl, hb10⟩
    have HM10 := Lib.hid (HM9.out.keep hb10)
    clear hb10 HU HM9
    unfold unV
    have HM11 := Lib.hid (HM10.out.keep ((Below.refl _ w10).alloc (Nat.le_refl _) (.cells #[.int .i64 u.id, .int .i64 u.kind, .int .i64 u.owner, .int .i64 u.x, .int .i64 u.y, .int .i64 u.health] 35)))
    have HZ11 := Lib.hid (boxU_new w10 u)
    have HU := Lib.hid (tabUnit_some tb [u, v] 2 2 1 _ HM11.out.tab (find2_b HUI.out HVI.out) (by simp) HVI.out)
    simp only [List.getElem_cons_succ, List.getElem_cons_zero] at HU
    clear HM10
    go_wp2_with fail
    generalize w10.alloc (.cells #[.int .i64 u.id, .int .i64 u.kind, .int .i64 u.owner, .int .i64 u.x, .int .i64 u.y, .int .i64 u.health] 35) = w11 at HM11 HZ11 HU ⊢
    generalize w10.heap.size = Z at HZ11 ⊢
    refine HU.out.mono ?_
    rintro e w12 ⟨rfl, hb12⟩
    have HM12 := Lib.hid (HM11.out.keep hb12)
    have HZ12 := Lib.hid (HZ11.out.below hb12)
    clear hb12 HU HM11 HZ11
    unfold unV
    have HM13 := Lib.hid (HM12.out.keep ((Below.refl _ w12).alloc (Nat.le_refl _) (.cells #[.int .i64 v.id, .int .i64 v.kind, .int .i64 v.owner, .int .i64 v.x, .int .i64 v.y, .int .i64 v.health] 35)))
    obtain ⟨x0, x1, x2, x3, x4, x5, -⟩ := HM12.out.bx
    obtain ⟨y0, y1, y2, y3, y4, y5, -⟩ := HM12.out.by'
    obtain ⟨z0, z1, z2, z3, z4, z5, -⟩ := HZ12.out
    have hX := block_lt_of_cell x0
    have hY := block_lt_of_cell y0
    have hZ := block_lt_of_cell z0
    have hnq := un_neq v v
    have hqq := un_eq u u
    rw [unQ_self] at hnq hqq
    unfold unV at hnq hqq
    simp only [Bool.not_true] at hnq
    clear HM12 HZ12
    obtain ⟨u0, u1, u2, u3, u4, u5⟩ := u
    obtain ⟨v0, v1, v2, v3, v4, v5⟩ := v
    simp only at x0 x1 x2 x3 x4 x5 y0 y1 y2 y3 y4 y5 z0 z1 z2 z3 z4 z5 hnq hqq HM13 ⊢
    go_wp2
    go_ret
    exact ⟨rfl, HM13.out.bel⟩
  · have hf2 : 2 ≤ field := by rcases Decidable.em (field < 2) with h | h; exact absurd (.inl (.inl h)) hc; omega
    have hf4 : field ≤ 4 := by rcases Decidable.em (4 < field) with h | h; exact absurd (.inl (.inr h)) hc; omega
    by_cases hkill : field = 4 ∧ x < 1
    · obtain ⟨rfl, hx⟩ := hkill
      have dx : decide (x < 1) = true := by simpa using hx
      have HX1 := Lib.hid hx
      clear hc hf2 hf4 hx
      go_wp2_with fail
      refine (HSK.out HX1.out).mono ?_
      rintro e w9 ⟨rfl, ht9⟩
      have HM9 := Lib.hid (show SetMem w tb X w7.heap.size u v [v] w9 from HM8.out.step ht9)
      clear ht9 HS HSK HSY HM8
      generalize w7.heap.size = Y at HM9 ⊢
      have HU := Lib.hid (tabUnit_none tb [v] 2 1 0 w9 HM9.out.tab (find1_a HVI.out) (by rw [foundQ_lt (by simp)]; simp [HVI.out]))
      go_wp2_with fail
      refine HU.out.mono ?_
      rintro e w10 ⟨rfl, hb10⟩
      have HM10 := Lib.hid (HM9.out.keep hb10)
      clear hb10 HU HM9
      unfold unV
      simp only
      have HM11 := Lib.hid (HM10.out.keep ((Below.refl _ w10).alloc (Nat.le_refl _) (.cells #[.int .i64 0, .int .i64 0, .int .i64 0, .int .i64 0, .int .i64 0, .int .i64 0] 35)))
      have HU := Lib.hid (tabUnit_some tb [v] 2 2 0 _ HM11.out.tab (find1_b HVI.out) (by simp) HVI.out)
      simp only [List.getElem_cons_zero] at HU
      clear HM10
      go_wp2_with fail
      generalize w10.alloc (.cells #[.int .i64 0, .int .i64 0, .int .i64 0, .int .i64 0, .int .i64 0, .int .i64 0] 35) = w11 at HM11 HU ⊢
      refine HU.out.mono ?_
      rintro e w12 ⟨rfl, hb12⟩
      have HM12 := Lib.hid (HM11.out.keep hb12)
      clear hb12 HU HM11
      unfold unV
      have HM13 := Lib.hid (HM12.out.keep ((Below.refl _ w12).alloc (Nat.le_refl _) (.cells #[.int .i64 v.id, .int .i64 v.kind, .int .i64 v.owner, .int .i64 v.x, .int .i64 v.y, .int .i64 v.health] 35)))
      obtain ⟨y0, y1, y2, y3, y4, y5, -⟩ := HM12.out.by'
      have hY := block_lt_of_cell y0
      have hnq := un_neq v v
      rw [unQ_self] at hnq
      unfold unV at hnq
      simp only [Bool.not_true] at hnq
      have HLE := Lib.hid (tabLen_any tb [v] 2 _ HM13.out.tab)
      have HNT := Lib.hid (tabNth_any tb [v] 2 0 _ HM13.out.tab)
      rw [show nthN [v] 0 = 2 by simp [nthN, HVI.out]] at HNT
      rw [show [v].length = 1 by simp] at HLE
      clear HM12 HUI HVI
      obtain ⟨v0, v1, v2, v3, v4, v5⟩ := v
      simp only at y0 y1 y2 y3 y4 y5 hnq HM13 HLE HNT ⊢
      go_wp2_with (first | (go_at_call 28; refine HLE.out.mono ?_; rintro e w' ⟨rfl, rfl⟩) | (go_at_call 27; refine HNT.out.mono ?_; rintro e w' ⟨rfl, rfl⟩))
      go_ret
      exact ⟨rfl, HM13.out.bel⟩
    · have hmay : mayN field.toNat x = true := by
        cases hm : mayN field.toNat x
        · exact absurd (.inr ⟨hkill, hm⟩) hc
        · rfl
      have hdx : field = 4 → ¬ x < 1 := fun e h => hkill ⟨e, h⟩
      have h3 : field = 2 ∨ field = 3 ∨ field = 4 := by omega
      clear hc hkill hf2 hf4
      rcases h3 with rfl | rfl | rfl
      · have HSY2 := Lib.hid (HSY.out 2 (by decide) (by decide) hmay)
        clear hmay hdx HS HSK HSY
        go_wp2_with fail
        refine HSY2.out.mono ?_
        rintro e w9 ⟨rfl, ht9⟩
        have HM9 := Lib.hid (show SetMem w tb X w7.heap.size u v [u.setF 2 x, v] w9 from HM8.out.step ht9)
        clear ht9 HSY2 HM8
        generalize w7.heap.size = Y at HM9 ⊢
        have HPI := Lib.hid (show (u.setF 2 x).id = 1 by rw [setF_id]; exact HUI.out)
        have HU := Lib.hid (tabUnit_some tb [u.setF 2 x, v] 2 1 0 w9 HM9.out.tab (find2_a HPI.out HVI.out) (by simp) HPI.out)
        simp only [List.getElem_cons_zero] at HU
        have HPE := Lib.hid (show u.setF 2 x = { u with x := x } from rfl)
        generalize u.setF 2 x = p at HM9 HPI HU HPE
        go_wp2_with fail
        refine HU.out.mono ?_
        rintro e w10 ⟨rfl, hb10⟩
        have HM10 := Lib.hid (HM9.out.keep hb10)
        clear hb10 HU HM9
        unfold unV
        have HM11 := Lib.hid (HM10.out.keep ((Below.refl _ w10).alloc (Nat.le_refl _) (.cells #[.int .i64 p.id, .int .i64 p.kind, .int .i64 p.owner, .int .i64 p.x, .int .i64 p.y, .int .i64 p.health] 35)))
        have HZ11 := Lib.hid (boxU_new w10 p)
        have HU := Lib.hid (tabUnit_some tb [p, v] 2 2 1 _ HM11.out.tab (find2_b HPI.out HVI.out) (by simp) HVI.out)
        simp only [List.getElem_cons_succ, List.getElem_cons_zero] at HU
        have hXZ : X < w10.heap.size := HM10.out.bx.lt
        clear HM10
        go_wp2_with fail
        generalize w10.alloc (.cells #[.int .i64 p.id, .int .i64 p.kind, .int .i64 p.owner, .int .i64 p.x, .int .i64 p.y, .int .i64 p.health] 35) = w11 at HM11 HZ11 HU ⊢
        generalize w10.heap.size = Z at HZ11 hXZ ⊢
        refine HU.out.mono ?_
        rintro e w12 ⟨rfl, hb12⟩
        have HM12 := Lib.hid (HM11.out.keep hb12)
        have HZ12 := Lib.hid (HZ11.out.below hb12)
        clear hb12 HU HM11 HZ11
        unfold unV
        have HM13 := Lib.hid (HM12.out.keep ((Below.refl _ w12).alloc (Nat.le_refl _) (.cells #[.int .i64 v.id, .int .i64 v.kind, .int .i64 v.owner, .int .i64 v.x, .int .i64 v.y, .int .i64 v.health] 35)))
        obtain ⟨x0, x1, x2, x3, x4, x5, xf⟩ := HM12.out.bx
        obtain ⟨y0, y1, y2, y3, y4, y5, -⟩ := HM12.out.by'
        obtain ⟨z0, z1, z2, z3, z4, z5, -⟩ := HZ12.out
        have xf3 := xf 3
        have HFIN := Lib.hid (HM12.out.bel.setCell (p := ⟨X, 3, none⟩) HM12.out.ge.1 (.int .i64 x))
        have hX := block_lt_of_cell x0
        have hY := block_lt_of_cell y0
        have hZ := block_lt_of_cell z0
        have hXZn : X ≠ Z := by omega
        have hnq := un_neq v v
        have hqq := un_eq p p
        rw [unQ_self] at hnq hqq
        unfold unV at hnq hqq
        simp only [Bool.not_true] at hnq
        clear HM12 HZ12 HUI HVI HPI xf
        obtain ⟨u0, u1, u2, u3, u4, u5⟩ := u
        obtain ⟨v0, v1, v2, v3, v4, v5⟩ := v
        have hp := HPE.out
        subst hp
        clear HPE
        simp only at x0 x1 x2 x3 x4 x5 y0 y1 y2 y3 y4 y5 z0 z1 z2 z3 z4 z5 hnq hqq HM13 ⊢
        go_wp2
        go_ret
        exact ⟨rfl, HFIN.out.alloc HFIN.out.size _⟩
      · have HSY2 := Lib.hid (HSY.out 3 (by decide) (by decide) hmay)
        clear hmay hdx HS HSK HSY
        go_wp2_with fail
        refine HSY2.out.mono ?_
        rintro e w9 ⟨rfl, ht9⟩
        have HM9 := Lib.hid (show SetMem w tb X w7.heap.size u v [u.setF 3 x, v] w9 from HM8.out.step ht9)
        clear ht9 HSY2 HM8
        generalize w7.heap.size = Y at HM9 ⊢
        have HPI := Lib.hid (show (u.setF 3 x).id = 1 by rw [setF_id]; exact HUI.out)
        have HU := Lib.hid (tabUnit_some tb [u.setF 3 x, v] 2 1 0 w9 HM9.out.tab (find2_a HPI.out HVI.out) (by simp) HPI.out)
        simp only [List.getElem_cons_zero] at HU
        have HPE := Lib.hid (show u.setF 3 x = { u with y := x } from rfl)
        generalize u.setF 3 x = p at HM9 HPI HU HPE
        go_wp2_with fail
        refine HU.out.mono ?_
        rintro e w10 ⟨rfl, hb10⟩
        have HM10 := Lib.hid (HM9.out.keep hb10)
        clear hb10 HU HM9
        unfold unV
        have HM11 := Lib.hid (HM10.out.keep ((Below.refl _ w10).alloc (Nat.le_refl _) (.cells #[.int .i64 p.id, .int .i64 p.kind, .int .i64 p.owner, .int .i64 p.x, .int .i64 p.y, .int .i64 p.health] 35)))
        have HZ11 := Lib.hid (boxU_new w10 p)
        have HU := Lib.hid (tabUnit_some tb [p, v] 2 2 1 _ HM11.out.tab (find2_b HPI.out HVI.out) (by simp) HVI.out)
        simp only [List.getElem_cons_succ, List.getElem_cons_zero] at HU
        have hXZ : X < w10.heap.size := HM10.out.bx.lt
        clear HM10
        go_wp2_with fail
        generalize w10.alloc (.cells #[.int .i64 p.id, .int .i64 p.kind, .int .i64 p.owner, .int .i64 p.x, .int .i64 p.y, .int .i64 p.health] 35) = w11 at HM11 HZ11 HU ⊢
        generalize w10.heap.size = Z at HZ11 hXZ ⊢
        refine HU.out.mono ?_
        rintro e w12 ⟨rfl, hb12⟩
        have HM12 := Lib.hid (HM11.out.keep hb12)
        have HZ12 := Lib.hid (HZ11.out.below hb12)
        clear hb12 HU HM11 HZ11
        unfold unV
        have HM13 := Lib.hid (HM12.out.keep ((Below.refl _ w12).alloc (Nat.le_refl _) (.cells #[.int .i64 v.id, .int .i64 v.kind, .int .i64 v.owner, .int .i64 v.x, .int .i64 v.y, .int .i64 v.health] 35)))
        obtain ⟨x0, x1, x2, x3, x4, x5, xf⟩ := HM12.out.bx
        obtain ⟨y0, y1, y2, y3, y4, y5, -⟩ := HM12.out.by'
        obtain ⟨z0, z1, z2, z3, z4, z5, -⟩ := HZ12.out
        have xf3 := xf 4
        have HFIN := Lib.hid (HM12.out.bel.setCell (p := ⟨X, 4, none⟩) HM12.out.ge.1 (.int .i64 x))
        have hX := block_lt_of_cell x0
        have hY := block_lt_of_cell y0
        have hZ := block_lt_of_cell z0
        have hXZn : X ≠ Z := by omega
        have hnq := un_neq v v
        have hqq := un_eq p p
        rw [unQ_self] at hnq hqq
        unfold unV at hnq hqq
        simp only [Bool.not_true] at hnq
        clear HM12 HZ12 HUI HVI HPI xf
        obtain ⟨u0, u1, u2, u3, u4, u5⟩ := u
        obtain ⟨v0, v1, v2, v3, v4, v5⟩ := v
        have hp := HPE.out
        subst hp
        clear HPE
        simp only at x0 x1 x2 x3 x4 x5 y0 y1 y2 y3 y4 y5 z0 z1 z2 z3 z4 z5 hnq hqq HM13 ⊢
        go_wp2
        go_ret
        exact ⟨rfl, HFIN.out.alloc HFIN.out.size _⟩
      · have HSY2 := Lib.hid (HSY.out 4 (by decide) (by decide) hmay)
        have dx : decide (x < 1) = false := by simpa using hdx rfl
        clear hmay hdx HS HSK HSY
        go_wp2_with fail
        refine HSY2.out.mono ?_
        rintro e w9 ⟨rfl, ht9⟩
        have HM9 := Lib.hid (show SetMem w tb X w7.heap.size u v [u.setF 4 x, v] w9 from HM8.out.step ht9)
        clear ht9 HSY2 HM8
        generalize w7.heap.size = Y at HM9 ⊢
        have HPI := Lib.hid (show (u.setF 4 x).id = 1 by rw [setF_id]; exact HUI.out)
        have HU := Lib.hid (tabUnit_some tb [u.setF 4 x, v] 2 1 0 w9 HM9.out.tab (find2_a HPI.out HVI.out) (by simp) HPI.out)
        simp only [List.getElem_cons_zero] at HU
        have HPE := Lib.hid (show u.setF 4 x = { u with health := x } from rfl)
        generalize u.setF 4 x = p at HM9 HPI HU HPE
        go_wp2_with fail
        refine HU.out.mono ?_
        rintro e w10 ⟨rfl, hb10⟩
        have HM10 := Lib.hid (HM9.out.keep hb10)
        clear hb10 HU HM9
        unfold unV
        have HM11 := Lib.hid (HM10.out.keep ((Below.refl _ w10).alloc (Nat.le_refl _) (.cells #[.int .i64 p.id, .int .i64 p.kind, .int .i64 p.owner, .int .i64 p.x, .int .i64 p.y, .int .i64 p.health] 35)))
        have HZ11 := Lib.hid (boxU_new w10 p)
        have HU := Lib.hid (tabUnit_some tb [p, v] 2 2 1 _ HM11.out.tab (find2_b HPI.out HVI.out) (by simp) HVI.out)
        simp only [List.getElem_cons_succ, List.getElem_cons_zero] at HU
        have hXZ : X < w10.heap.size := HM10.out.bx.lt
        clear HM10
        go_wp2_with fail
        generalize w10.alloc (.cells #[.int .i64 p.id, .int .i64 p.kind, .int .i64 p.owner, .int .i64 p.x, .int .i64 p.y, .int .i64 p.health] 35) = w11 at HM11 HZ11 HU ⊢
        generalize w10.heap.size = Z at HZ11 hXZ ⊢
        refine HU.out.mono ?_
        rintro e w12 ⟨rfl, hb12⟩
        have HM12 := Lib.hid (HM11.out.keep hb12)
        have HZ12 := Lib.hid (HZ11.out.below hb12)
        clear hb12 HU HM11 HZ11
        unfold unV
        have HM13 := Lib.hid (HM12.out.keep ((Below.refl _ w12).alloc (Nat.le_refl _) (.cells #[.int .i64 v.id, .int .i64 v.kind, .int .i64 v.owner, .int .i64 v.x, .int .i64 v.y, .int .i64 v.health] 35)))
        obtain ⟨x0, x1, x2, x3, x4, x5, xf⟩ := HM12.out.bx
        obtain ⟨y0, y1, y2, y3, y4, y5, -⟩ := HM12.out.by'
        obtain ⟨z0, z1, z2, z3, z4, z5, -⟩ := HZ12.out
        have xf3 := xf 5
        have HFIN := Lib.hid (HM12.out.bel.setCell (p := ⟨X, 5, none⟩) HM12.out.ge.1 (.int .i64 x))
        have hX := block_lt_of_cell x0
        have hY := block_lt_of_cell y0
        have hZ := block_lt_of_cell z0
        have hXZn : X ≠ Z := by omega
        have hnq := un_neq v v
        have hqq := un_eq p p
        rw [unQ_self] at hnq hqq
        unfold unV at hnq hqq
        simp only [Bool.not_true] at hnq
        clear HM12 HZ12 HUI HVI HPI xf
        obtain ⟨u0, u1, u2, u3, u4, u5⟩ := u
        obtain ⟨v0, v1, v2, v3, v4, v5⟩ := v
        have hp := HPE.out
        subst hp
        clear HPE
        simp only at x0 x1 x2 x3 x4 x5 y0 y1 y2 y3 y4 y5 z0 z1 z2 z3 z4 z5 hnq hqq HM13 ⊢
        go_wp2
        go_ret
        exact ⟨rfl, HFIN.out.alloc HFIN.out.size _⟩
end Go.Proofs.Ytapiaogmmoofkaa
