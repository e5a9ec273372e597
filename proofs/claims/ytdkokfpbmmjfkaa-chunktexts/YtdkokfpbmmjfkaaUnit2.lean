/-
  Layer 8: tables in memory; where one stands.
-/
import Derived.Test.YtdkokfpbmmjfkaaUnit1
import Derived.Test.YtdkokfpbmmjfkaaOuts
namespace Go.Proofs.Ytdkokfpbmmjfkaa
open Go.RowKit
set_option linter.unusedVariables false

def unsI (l : List Un) : List (List Int) := l.map Un.ints
theorem unsI_wide (l : List Un) : Wide 6 (unsI l) := by
  intro x hx
  simp only [unsI, List.mem_map] at hx
  obtain ⟨o, -, rfl⟩ := hx
  rfl
theorem unsI_len (l : List Un) : (unsI l).length = l.length := by simp [unsI]
theorem unsI_append (l m : List Un) : unsI (l ++ m) = unsI l ++ unsI m := by simp [unsI]
def UnRow (w : World) (a : Option Addr) (l : List Un) : Prop := RecRow 6 w a (unsI l)
theorem UnRow.below {w w' : World} {a : Option Addr} {l : List Un} (h : UnRow w a l) (hb : Below w.heap.size w w') : UnRow w' a l := RecRow.below (by decide) h hb
theorem UnRow.touch {S : Nat → Prop} {w w' : World} {a : Option Addr} {l : List Un} (h : UnRow w a l) (ht : Touch S w w') (hs : ∀ x, a = some x → ¬ S x.block) : UnRow w' a l := RecRow.touch (by decide) h ht hs
theorem UnRow.at {w : World} {a : Option Addr} {l : List Un} (h : UnRow w a l) {i : Nat} (hi : i < l.length) : ∃ b off, a = some ⟨b, off, none⟩ ∧ b < w.heap.size ∧ w.cell? ⟨b, off + i * 6, none⟩ = some (.int .i64 l[i].id) ∧ w.cell? ⟨b, off + i * 6 + 1, none⟩ = some (.int .i64 l[i].kind) ∧ w.cell? ⟨b, off + i * 6 + 2, none⟩ = some (.int .i64 l[i].owner) ∧ w.cell? ⟨b, off + i * 6 + 3, none⟩ = some (.int .i64 l[i].x) ∧ w.cell? ⟨b, off + i * 6 + 4, none⟩ = some (.int .i64 l[i].y) ∧ w.cell? ⟨b, off + i * 6 + 5, none⟩ = some (.int .i64 l[i].health) := by
  obtain ⟨b, off, e, hc⟩ := h (by rw [unsI_len]; omega)
  have hi' : i < (unsI l).length := by rw [unsI_len]; exact hi
  have he : (unsI l)[i] = l[i].ints := by simp [unsI]
  have c0 := hc i hi' 0 (by decide)
  have c1 := hc i hi' 1 (by decide)
  have c2 := hc i hi' 2 (by decide)
  have c3 := hc i hi' 3 (by decide)
  have c4 := hc i hi' 4 (by decide)
  have c5 := hc i hi' 5 (by decide)
  rw [he] at c0 c1 c2 c3 c4 c5
  exact ⟨b, off, e, block_lt_of_cell c0, c0, c1, c2, c3, c4, c5⟩
/-- The first n are those of lesser numbers. -/
def FindIs (l : List Un) (id : Int) (n : Nat) : Prop := n ≤ l.length ∧ ∀ h (hh : h < l.length), l[h].id < id ↔ h < n
def foundQ (l : List Un) (id : Int) (n : Nat) : Bool := match l[n]? with | some u => u.id == id | none => false
def Rising (l : List Un) : Prop := ∀ i j (hi : i < l.length) (hj : j < l.length), i < j → l[i].id < l[j].id
theorem find_is (l : List Un) (id : Int) (h : Rising l) : ∃ n, FindIs l id n := by
  have key : ∀ k, k ≤ l.length → ∃ n, n ≤ k ∧ ∀ h (hh : h < l.length), h < k → (l[h].id < id ↔ h < n) := by
    intro k
    induction k with
    | zero => intro _; exact ⟨0, Nat.le_refl _, fun h hh hk => by omega⟩
    | succ k ih =>
      intro hk
      obtain ⟨n, hn, hp⟩ := ih (by omega)
      by_cases hlt : l[k].id < id
      · refine ⟨k + 1, Nat.le_refl _, fun j hj hjk => ⟨fun _ => by omega, fun _ => ?_⟩⟩
        by_cases e : j = k
        · subst e; exact hlt
        · have := h j k hj (by omega) (by omega)
          omega
      · refine ⟨n, by omega, fun j hj hjk => ?_⟩
        by_cases e : j = k
        · subst e
          exact ⟨fun h => absurd h hlt, fun h => by omega⟩
        · exact hp j hj (by omega)
  obtain ⟨n, hn, hp⟩ := key l.length (Nat.le_refl _)
  exact ⟨n, hn, fun j hj => hp j hj hj⟩
theorem foundQ_lt {l : List Un} {id : Int} {n : Nat} (h : n < l.length) : foundQ l id n = (l[n].id == id) := by simp [foundQ, h]
theorem foundQ_ge {l : List Un} {id : Int} {n : Nat} (h : l.length ≤ n) : foundQ l id n = false := by simp [foundQ, h]
theorem cmpI_lt {a b : Int} : cmpI a b < 0 ↔ a < b := by
  unfold cmpI
  split
  · simp [*]
  · split <;> simp <;> omega
theorem cmpI_eq (a b : Int) : (cmpI a b == 0) = (a == b) := by
  unfold cmpI
  split
  · have : ¬ a = b := by omega
    simp [this]
  · split
    · have : ¬ a = b := by omega
      simp [this]
    · have : a = b := by omega
      simp [this]
set_option maxRecDepth 100000 in
set_option maxHeartbeats 2000000 in
theorem search_any (a : Option Addr) (c : Nat) (l : List Un) (id : Int) (n : Nat) (w : World) (hl : l.length ≤ 64) (hr : UnRow w a l) (hn : FindIs l id n) :
    Calls Try.prog 87 #[.slice a l.length c, .int .i64 id, .func (.func 88) #[] #[]] w fun r w' => r = .returned (.tuple #[.int .i64 n, .bool (foundQ l id n)]) ∧ Below w.heap.size w w' := by
  have HR := Lib.hid hr
  have HN := Lib.hid hn
  have hnl := hn.1
  clear hr hn
  go_enter Try.func87, Try.ntmps87
  go_wp2
  go_loopw [9, 10] (fun iv jv wr => ∃ i j : Nat, i ≤ n ∧ n ≤ j ∧ j ≤ l.length ∧ iv = .int .i64 i ∧ jv = .int .i64 j ∧ Hid (Below w.heap.size w wr)) (fun iv jv _ => (intOf jv).toNat - (intOf iv).toNat)
  case atStart => exact ⟨0, l.length, by omega, hnl, by omega, rfl, rfl, Lib.hid (Below.refl _ _)⟩
  case round =>
    obtain ⟨i, j, hi, hj, hjl, rfl, rfl, HB⟩ := hrel
    by_cases hlt : i < j
    · have hh : (i + j) / 2 < l.length := by omega
      obtain ⟨b, off, rfl, hb, c0, c1, c2, c3, c4, c5⟩ := (HR.out.below HB.out).at hh
      have HC := Lib.hid (findCmp_any l[(i + j) / 2] id wr)
      have HP := Lib.hid (HN.out.2 ((i + j) / 2) hh)
      generalize l[(i + j) / 2] = u at c0 c1 c2 c3 c4 c5 HC HP
      obtain ⟨u0, u1, u2, u3, u4, u5⟩ := u
      unfold unV at HC
      simp only at c0 c1 c2 c3 c4 c5 HC HP
      go_wp2_with fail
      refine HC.out.mono ?_
      rintro r w1 ⟨rfl, hb1⟩
      have HB1 := Lib.hid (HB.out.trans (hb1.mono HB.out.size))
      clear hb1 HC
      have hlt0 := cmpI_lt (a := u0) (b := id)
      by_cases hless : u0 < id
      · have hneg := hlt0.2 hless
        have hn1 := HP.out.1 hless
        generalize cmpI u0 id = z at hneg hlt0
        clear hlt0
        go_wp2
        go_roundw
        case rel => exact ⟨(i + j) / 2 + 1, j, by omega, hj, hjl, by go_num, rfl, HB1⟩
        case measure => simp [intOf]; omega
      · have hneg : ¬ cmpI u0 id < 0 := fun h => hless (hlt0.1 h)
        have hn1 : ¬ (i + j) / 2 < n := fun h => hless (HP.out.2 h)
        generalize cmpI u0 id = z at hneg hlt0
        clear hlt0
        go_wp2
        go_roundw
        case rel => exact ⟨i, (i + j) / 2, hi, by omega, by omega, rfl, by go_num, HB1⟩
        case measure => simp [intOf]; omega
    · obtain rfl : i = n := by omega
      by_cases hin : i < l.length
      · obtain ⟨b, off, rfl, hb, c0, c1, c2, c3, c4, c5⟩ := (HR.out.below HB.out).at hin
        have HC := Lib.hid (findCmp_any l[i] id wr)
        have HF := Lib.hid (foundQ_lt (id := id) hin)
        generalize l[i] = u at c0 c1 c2 c3 c4 c5 HC HF
        obtain ⟨u0, u1, u2, u3, u4, u5⟩ := u
        unfold unV at HC
        simp only at c0 c1 c2 c3 c4 c5 HC HF
        have HE := Lib.hid (cmpI_eq u0 id)
        go_wp2_with fail
        refine HC.out.mono ?_
        rintro r w1 ⟨rfl, hb1⟩
        have HB1 := Lib.hid (HB.out.trans (hb1.mono HB.out.size))
        clear hb1 HC
        generalize cmpI u0 id = z at HE
        go_wp2
        go_ret2
        exact ⟨by rw [HF.out, ← HE.out]; rfl, HB1.out⟩
      · have HF := Lib.hid (foundQ_ge (id := id) (show l.length ≤ i by omega))
        have hd : decide ((i : Int) < (l.length : Int)) = false := by simp; omega
        go_wp2
        go_ret2
        exact ⟨by rw [HF.out]; rfl, HB.out⟩
/-- A table lies at block b: the units (their row at a), the number given out last. -/
structure TabAt (w : World) (b : Nat) (a : Option Addr) (c : Nat) (us : List Un) (g : Int) : Prop where
  c0 : w.cell? ⟨b, 0, none⟩ = some (.slice a us.length c)
  c1 : w.cell? ⟨b, 1, none⟩ = some (.int .i64 g)
  f0 : w.frozen? ⟨b, 0, none⟩ = false
  f1 : w.frozen? ⟨b, 1, none⟩ = false
  row : w.ownsRow 0 35 6 (.slice a us.length c) us.length (recCells (unsI us))
  ap : ∀ x, a = some x → x.block ≠ b
/-- A unit whose fields may be. -/
def UnMay (u : Un) : Prop := mayN 0 u.kind = true ∧ mayN 1 u.owner = true ∧ mayN 2 u.x = true ∧ mayN 3 u.y = true ∧ mayN 4 u.health = true
def TabOk (us : List Un) (g : Int) : Prop := us.length ≤ 64 ∧ Rising us ∧ (∀ u ∈ us, 1 ≤ u.id ∧ u.id ≤ g ∧ UnMay u) ∧ 0 ≤ g ∧ g < 1099511627776
/-- A table lies at block b; the blocks of K, which are there, are none of its. -/
def TabQ (K : Nat → Prop) (b : Nat) (us : List Un) (g : Int) (w : World) : Prop :=
  (∃ a c, TabAt w b a c us g ∧ ¬ K b ∧ ∀ x, a = some x → ¬ K x.block) ∧ (∀ k, K k → k < w.heap.size) ∧ TabOk us g
def TabTo (K : Nat → Prop) (b : Nat) (us : List Un) (g : Int) (w w' : World) : Prop := TabQ K b us g w' ∧ Touch (fun k => ¬ K k) w w'
theorem TabAt.lt {w : World} {b : Nat} {a : Option Addr} {c : Nat} {us : List Un} {g : Int} (h : TabAt w b a c us g) : b < w.heap.size := block_lt_of_cell h.c0
theorem TabAt.urow {w : World} {b : Nat} {a : Option Addr} {c : Nat} {us : List Un} {g : Int} (h : TabAt w b a c us g) : UnRow w a us := RecRow.of_own (unsI_wide us) (by decide) (by rw [unsI_len]; exact h.row)
theorem TabAt.alt {w : World} {b : Nat} {a : Option Addr} {c : Nat} {us : List Un} {g : Int} (h : TabAt w b a c us g) : ∀ x, a = some x → x.block < w.heap.size := fun x hx => by
  subst hx; exact (h.row.lt x.block (by simp [Value.ownBlock])).2
theorem TabAt.touch {S : Nat → Prop} {w w' : World} {b : Nat} {a : Option Addr} {c : Nat} {us : List Un} {g : Int} (h : TabAt w b a c us g) (ht : Touch S w w') (hs : ¬ S b) (ha : ∀ x, a = some x → ¬ S x.block) : TabAt w' b a c us g :=
  ⟨(ht.cell (p := ⟨b, 0, none⟩) h.lt hs).trans h.c0, (ht.cell (p := ⟨b, 1, none⟩) h.lt hs).trans h.c1, (ht.frozen (p := ⟨b, 0, none⟩) h.lt hs).trans h.f0, (ht.frozen (p := ⟨b, 1, none⟩) h.lt hs).trans h.f1,
    own_touchR h.row ht (fun k hk => by
      cases a with
      | none => simp [Value.ownBlock] at hk
      | some x => simp [Value.ownBlock] at hk; subst hk; exact ha x rfl), h.ap⟩
theorem TabAt.below {w w' : World} {b : Nat} {a : Option Addr} {c : Nat} {us : List Un} {g : Int} (h : TabAt w b a c us g) (hb : Below w.heap.size w w') : TabAt w' b a c us g :=
  h.touch (touch_of_below (S := fun _ => False) hb) id (fun _ _ => id)
theorem TabQ.below {K : Nat → Prop} {w w' : World} {b : Nat} {us : List Un} {g : Int} (h : TabQ K b us g w) (hb : Below w.heap.size w w') : TabQ K b us g w' := by
  obtain ⟨⟨a, c, h1, h2, h3⟩, h4, h5⟩ := h
  exact ⟨⟨a, c, h1.below hb, h2, h3⟩, fun k hk => Nat.lt_of_lt_of_le (h4 k hk) hb.size, h5⟩
theorem TabQ.lt {K : Nat → Prop} {w : World} {b : Nat} {us : List Un} {g : Int} (h : TabQ K b us g w) : b < w.heap.size := by obtain ⟨⟨a, c, h1, -⟩, -⟩ := h; exact h1.lt
theorem TabQ.sub {K K' : Nat → Prop} {w : World} {b : Nat} {us : List Un} {g : Int} (h : TabQ K' b us g w) (hs : ∀ k, K k → K' k) : TabQ K b us g w := by
  obtain ⟨⟨a, c, h1, h2, h3⟩, h4, h5⟩ := h
  exact ⟨⟨a, c, h1, fun h => h2 (hs _ h), fun x hx h => h3 x hx (hs _ h)⟩, fun k hk => h4 k (hs k hk), h5⟩
/-- Blocks that are new are none of its. -/
theorem TabQ.grow {K N : Nat → Prop} {w w' : World} {b : Nat} {us : List Un} {g : Int} (h : TabQ K b us g w) (hb : Below w.heap.size w w') (hN : ∀ k, N k → w.heap.size ≤ k ∧ k < w'.heap.size) : TabQ (fun k => K k ∨ N k) b us g w' := by
  obtain ⟨⟨a, c, h1, h2, h3⟩, h4, h5⟩ := h
  have hl := h1.lt
  have hz := hb.size
  refine ⟨⟨a, c, h1.below hb, ?_, fun x hx => ?_⟩, fun k hk => ?_, h5⟩
  · rintro (h | h)
    · exact h2 h
    · have := (hN _ h).1; omega
  · have := h1.alt x hx
    rintro (h | h)
    · exact h3 x hx h
    · have := (hN _ h).1; omega
  · rcases hk with h | h
    · have := h4 k h; omega
    · exact (hN k h).2
theorem TabQ.ok {K : Nat → Prop} {w : World} {b : Nat} {us : List Un} {g : Int} (h : TabQ K b us g w) : TabOk us g := h.2.2
theorem find_any {K : Nat → Prop} (b : Nat) (us : List Un) (g id : Int) (n : Nat) (w : World) (h : TabQ K b us g w) (hn : FindIs us id n) :
    Calls Try.prog 58 #[.pointer (some ⟨b, 0, none⟩), .int .i64 id] w fun r w' => r = .returned (.tuple #[.int .i64 n, .bool (foundQ us id n)]) ∧ Below w.heap.size w w' := by
  obtain ⟨⟨a, c, h1, -⟩, -, hok⟩ := h
  have HS := Lib.hid (search_any a c us id n w hok.1 h1.urow hn)
  have c0 := h1.c0
  clear h1 hok hn
  generalize foundQ us id n = q at HS ⊢
  go_enter Try.func58, Try.ntmps58
  go_wp2_with fail
  refine HS.out.mono ?_
  rintro r w1 ⟨rfl, hb1⟩
  have HB := Lib.hid hb1
  clear hb1
  go_wp2
  go_ret2
  exact ⟨rfl, HB.out⟩
theorem tabNew_any (K : Nat → Prop) (w : World) (hK : ∀ k, K k → k < w.heap.size) : Calls Try.prog 12 #[] w fun r w' => r = .returned (.pointer (some ⟨w.heap.size, 0, none⟩)) ∧ TabQ K w.heap.size [] 0 w' ∧ Below w.heap.size w w' := by
  go_enter Try.func12, Try.ntmps12
  go_wp2
  go_ret
  refine ⟨rfl, ⟨⟨none, 0, ⟨by simp, by simp, frozen_new _ _ _ _, frozen_new _ _ _ _, World.ownsRow_nil _ _ _ _, fun x hx => by cases hx⟩, fun h => by have := hK _ h; omega, fun x hx => by cases hx⟩, fun k hk => by have := hK k hk; simp; omega, by simp, fun i j hi => by simp at hi, by simp, by decide, by decide⟩, (Below.refl _ _).alloc (Nat.le_refl _) _⟩
theorem tabLen_any {K : Nat → Prop} (b : Nat) (us : List Un) (g : Int) (w : World) (h : TabQ K b us g w) :
    Calls Try.prog 52 #[.pointer (some ⟨b, 0, none⟩)] w fun r w' => r = .returned (.int .i64 (us.length : Nat)) ∧ w = w' := by
  obtain ⟨⟨a, c, h1, -⟩, -, hok⟩ := h
  have c0 := h1.c0
  clear h1 hok
  go_enter Try.func52, Try.ntmps52
  go_wp2
  go_ret
  exact ⟨rfl, rfl⟩
theorem tabNext_any {K : Nat → Prop} (b : Nat) (us : List Un) (g : Int) (w : World) (h : TabQ K b us g w) :
    Calls Try.prog 53 #[.pointer (some ⟨b, 0, none⟩)] w fun r w' => r = .returned (.int .i64 (g + 1)) ∧ w = w' := by
  obtain ⟨⟨a, c, h1, -⟩, -, hok⟩ := h
  have c1 := h1.c1
  obtain ⟨-, -, -, hg0, hg1⟩ := hok
  have hw : IntKind.i64.wrap (g + 1) = g + 1 := by rw [IntKind.wrap_i64]; omega
  clear h1
  go_enter Try.func53, Try.ntmps53
  go_wp2
  go_ret
  exact ⟨rfl, rfl⟩
/-- The number of the n-th. -/
def nthN (us : List Un) (n : Int) : Int := if n < 0 then 0 else match us[n.toNat]? with | some u => u.id | none => 0
theorem tabNth_any {K : Nat → Prop} (b : Nat) (us : List Un) (g n : Int) (w : World) (h : TabQ K b us g w) :
    Calls Try.prog 61 #[.pointer (some ⟨b, 0, none⟩), .int .i64 n] w fun r w' => r = .returned (.int .i64 (nthN us n)) ∧ w = w' := by
  obtain ⟨⟨a, c, h1, -⟩, -, hok⟩ := h
  have c0 := h1.c0
  have HR := Lib.hid h1.urow
  have hl := hok.1
  clear h1 hok
  by_cases h0 : n < 0
  · have HQ := Lib.hid (show nthN us n = 0 from if_pos h0)
    have d : decide (n < 0) = true := by simpa using h0
    go_enter Try.func61, Try.ntmps61
    go_wp2
    go_ret
    exact ⟨by rw [HQ.out]; rfl, rfl⟩
  · obtain ⟨m, rfl⟩ := Int.eq_ofNat_of_zero_le (show 0 ≤ n by omega)
    have d : decide ((m : Int) < 0) = false := by simp
    by_cases hm : m < us.length
    · obtain ⟨gb, off, rfl, hb, e0, -⟩ := HR.out.at hm
      have HQ := Lib.hid (show nthN us (m : Int) = us[m].id by simp [nthN, hm]; omega)
      generalize us[m].id = z at e0 HQ
      go_enter Try.func61, Try.ntmps61
      go_wp2
      go_ret
      exact ⟨by rw [HQ.out]; rfl, rfl⟩
    · have HQ := Lib.hid (show nthN us (m : Int) = 0 by simp [nthN, hm])
      go_enter Try.func61, Try.ntmps61
      go_wp2
      go_ret
      exact ⟨by rw [HQ.out]; rfl, rfl⟩
end Go.Proofs.Ytdkokfpbmmjfkaa
