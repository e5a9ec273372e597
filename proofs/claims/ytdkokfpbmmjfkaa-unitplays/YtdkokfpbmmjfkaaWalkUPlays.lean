/-
  The walk of the law UnitPlays.
-/
import Derived.Test.YtdkokfpbmmjfkaaDoes3
import Derived.Test.YtdkokfpbmmjfkaaUnIs
import Derived.Test.YtdkokfpbmmjfkaaRecArgs
namespace Go.Proofs.Ytdkokfpbmmjfkaa
open Go.RowKit
set_option linter.unusedVariables false

/-- The blocks that no table of a law with one box Y has. -/
def KP (n Y k : Nat) : Prop := k < n ∨ k = Y
/-- The law's memory: both tables, the document's in the box Y. -/
structure PlMem (n Y b : Nat) (us : List Un) (g : Int) (a : Option Addr) (c : Nat) (wr : World) : Prop where
  mem : DoMem (KP n Y) b us g a c wr
  y0 : wr.cell? ⟨Y, 0, none⟩ = some (.slice a us.length c)
  y1 : wr.cell? ⟨Y, 1, none⟩ = some (.int .i64 (g + 1))
  z0 : wr.frozen? ⟨Y, 0, none⟩ = false
  z1 : wr.frozen? ⟨Y, 1, none⟩ = false
  far : ∀ x, a = some x → Y < x.block
  lo : n ≤ Y
theorem PlMem.keep {n Y b : Nat} {us : List Un} {g : Int} {a : Option Addr} {c : Nat} {wr w' : World} (h : PlMem n Y b us g a c wr) (hb : Below wr.heap.size wr w') : PlMem n Y b us g a c w' :=
  ⟨h.mem.keep hb, (hb.cell (p := ⟨Y, 0, none⟩) (block_lt_of_cell h.y0)).trans h.y0, (hb.cell (p := ⟨Y, 1, none⟩) (block_lt_of_cell h.y1)).trans h.y1,
    ((touch_of_below (S := fun _ => False) hb).frozen (p := ⟨Y, 0, none⟩) (block_lt_of_cell h.y0) id).trans h.z0, ((touch_of_below (S := fun _ => False) hb).frozen (p := ⟨Y, 1, none⟩) (block_lt_of_cell h.y1) id).trans h.z1, h.far, h.lo⟩
theorem PlMem.does {n Y b : Nat} {us us' : List Un} {g g' : Int} {a a' : Option Addr} {c c' : Nat} {wr w' : World} (h : PlMem n Y b us g a c wr) (h2 : DoMem (KP n Y) b us' g' a' c' w') (ht : Touch (fun k => ¬ KP n Y k) wr w') (ha : a' = a ∨ ∀ x, a' = some x → wr.heap.size ≤ x.block) :
    w'.frozen? ⟨Y, 0, none⟩ = false ∧ w'.frozen? ⟨Y, 1, none⟩ = false ∧ (∃ o0, w'.cell? ⟨Y, 0, none⟩ = some o0) ∧ (∃ o1, w'.cell? ⟨Y, 1, none⟩ = some o1) ∧
    PlMem n Y b us' g' a' c' ((w'.setCell ⟨Y, 0, none⟩ (.slice a' us'.length c')).setCell ⟨Y, 1, none⟩ (.int .i64 (g' + 1))) ∧ Below n wr ((w'.setCell ⟨Y, 0, none⟩ (.slice a' us'.length c')).setCell ⟨Y, 1, none⟩ (.int .i64 (g' + 1))) := by
  have nY : ¬ ¬ KP n Y Y := fun hn => hn (.inr rfl)
  have hY := block_lt_of_cell h.y0
  simp only at hY
  have y0 := (ht.cell (p := ⟨Y, 0, none⟩) hY nY).trans h.y0
  have y1 := (ht.cell (p := ⟨Y, 1, none⟩) hY nY).trans h.y1
  have z0 := (ht.frozen (p := ⟨Y, 0, none⟩) hY nY).trans h.z0
  have z1 := (ht.frozen (p := ⟨Y, 1, none⟩) hY nY).trans h.z1
  have hs := set2r_touch w' Y (.slice a' us'.length c') (.int .i64 (g' + 1))
  unfold set2r at hs
  have far : ∀ x, a' = some x → Y < x.block := fun x hx => by
    rcases ha with e | e
    · exact h.far x (e ▸ hx)
    · have := e x hx; omega
  have hlo := h.lo
  refine ⟨z0, z1, ⟨_, y0⟩, ⟨_, y1⟩, ⟨h2.set hs (fun k hk => .inr hk) (fun x hx e => by have := far x hx; omega), set2_same0 y0, set2_same1 y1, by simpa using z0, by simpa using z1, far, h.lo⟩, ?_⟩
  refine (ht.below (by omega) (fun k hk hn => hn (.inl hk))).trans ((hs.below (B := n) ?_ (fun k hk e => ?_)))
  · have := ht.size; omega
  · omega
/-- A unit's number, looked for by both. -/
theorem unit_both {K : Nat → Prop} (b : Nat) (us : List Un) (g id : Int) (hok : TabOk us g) : ∃ (u : Un) (q : Bool) (f : Int), decide (0 ≤ f) = q ∧
    (∀ W, TabQ K b us g W → Calls Try.prog 14 #[.pointer (some ⟨b, 0, none⟩), .int .i64 id] W fun r w' => r = .returned (.tuple #[unV u, .bool q]) ∧ Below W.heap.size W w') ∧
    ∀ W a c, RT W a c us → Calls Try.prog 16 #[.agg #[.slice a us.length c, .int .i64 (g + 1)], .int .i64 id] W fun r w' => r = .returned (.int .i64 f) ∧ Below W.heap.size W w' := by
  obtain ⟨n, hn⟩ := find_is us id hok.2.1
  cases hq : foundQ us id n
  · refine ⟨⟨0, 0, 0, 0, 0, 0⟩, false, findR us id n, by simp [findR, hq], fun W h => tabUnit_none b us g id n W h hn hq, fun W a c h => refFind_any a c us (g + 1) id n W (by have := hok.1; omega) hok.2.1 h.row hn⟩
  · obtain ⟨hlt, he⟩ := findIs_lt hq
    refine ⟨us[n], true, findR us id n, by simp [findR, hq], fun W h => tabUnit_some b us g id n W h hn hlt he, fun W a c h => refFind_any a c us (g + 1) id n W (by have := hok.1; omega) hok.2.1 h.row hn⟩
/-- Behind the law's call: both tables, and the document's new one in the box B; the old box is still to be written. -/
structure PlMid (n Y b B : Nat) (us : List Un) (g : Int) (a : Option Addr) (c : Nat) (w0 wx : World) : Prop where
  mem : DoMem (KP n Y) b us g a c wx
  b0 : wx.cell? ⟨B, 0, none⟩ = some (.slice a us.length c)
  b1 : wx.cell? ⟨B, 1, none⟩ = some (.int .i64 (g + 1))
  y0 : ∃ o, wx.cell? ⟨Y, 0, none⟩ = some o
  y1 : ∃ o, wx.cell? ⟨Y, 1, none⟩ = some o
  z0 : wx.frozen? ⟨Y, 0, none⟩ = false
  z1 : wx.frozen? ⟨Y, 1, none⟩ = false
  far : ∀ x, a = some x → Y < x.block
  lo : n ≤ Y
  ne : B ≠ Y
  bel : Below n w0 wx
theorem DoMem.sub {K0 K1 : Nat → Prop} {wr : World} {b : Nat} {us : List Un} {g : Int} {a : Option Addr} {c : Nat} (h : DoMem K1 b us g a c wr) (hs : ∀ k, K0 k → K1 k) : DoMem K0 b us g a c wr :=
  ⟨h.tab.sub (fun k hk => hk.elim (fun h => .inl (hs k h)) .inr), h.rt⟩
theorem DoMem.grow {K0 : Nat → Prop} {wr : World} {b : Nat} {us : List Un} {g : Int} {a : Option Addr} {c : Nat} (h : DoMem K0 b us g a c wr) (o : Obj) : DoMem (fun k => K0 k ∨ k = wr.heap.size) b us g a c (wr.alloc o) := by
  have hb : Below wr.heap.size wr (wr.alloc o) := bel_alloc (Below.refl _ _) _
  refine ⟨(h.tab.grow (N := fun k => k = wr.heap.size) hb (fun k hk => by subst hk; simp)).sub (fun k hk => ?_), h.rt.below hb⟩
  rcases hk with (h | h) | h
  · exact .inl (.inl h)
  · exact .inr h
  · exact .inl (.inr h)
theorem plMid_after {n Y b : Nat} {us us' : List Un} {g g' : Int} {a a' : Option Addr} {c c' : Nat} {w0 wr w4 : World} {t : TypeId} (h : PlMem n Y b us g a c wr) (hw : Below n w0 wr) (h2 : DoMem (KP n Y) b us' g' a' c' w4) (ht : Touch (fun k => ¬ KP n Y k) wr w4) (ha : a' = a ∨ ∀ x, a' = some x → wr.heap.size ≤ x.block) :
    PlMid n Y b w4.heap.size us' g' a' c' w0 (w4.alloc (.cells #[.slice a' us'.length c', .int .i64 (g' + 1)] t)) := by
  obtain ⟨z0, z1, ⟨o0, y0⟩, ⟨o1, y1⟩, -, -⟩ := h.does h2 ht ha
  have hY := block_lt_of_cell h.y0
  have hYl := block_lt_of_cell y0
  have hlo := h.lo
  simp only at hY hYl
  have hb : Below w4.heap.size w4 (w4.alloc (.cells #[.slice a' us'.length c', .int .i64 (g' + 1)] t)) := bel_alloc (Below.refl _ _) _
  refine ⟨h2.keep hb, new_cell rfl rfl, new_cell rfl rfl, ⟨_, alloc_cell y0 _⟩, ⟨_, alloc_cell y1 _⟩, (frozen_old _ _ _ hYl).trans z0, (frozen_old _ _ _ hYl).trans z1, fun x hx => ?_, h.lo, by omega, ?_⟩
  · rcases ha with e | e
    · exact h.far x (e ▸ hx)
    · have := e x hx; omega
  · exact (hw.trans (ht.below (by omega) (fun k hk hn => hn (.inl hk)))).alloc (by have := ht.size; omega) _
theorem plMid_before {n Y b : Nat} {us us' : List Un} {g g' : Int} {a a' : Option Addr} {c c' : Nat} {w0 wr w4 : World} {t : TypeId} {o0 o1 : Value} (h : PlMem n Y b us g a c wr) (hw : Below n w0 wr) (h2 : DoMem (fun k => KP n Y k ∨ k = wr.heap.size) b us' g' a' c' w4) (ht : Touch (fun k => ¬ (KP n Y k ∨ k = wr.heap.size)) (wr.alloc (.cells #[o0, o1] t)) w4) (ha : a' = a ∨ ∀ x, a' = some x → (wr.alloc (.cells #[o0, o1] t)).heap.size ≤ x.block) :
    w4.cell? ⟨wr.heap.size, 0, none⟩ = some o0 ∧ w4.cell? ⟨wr.heap.size, 1, none⟩ = some o1 ∧ w4.frozen? ⟨wr.heap.size, 0, none⟩ = false ∧ w4.frozen? ⟨wr.heap.size, 1, none⟩ = false ∧ wr.heap.size < w4.heap.size ∧
    PlMid n Y b wr.heap.size us' g' a' c' w0 ((w4.setCell ⟨wr.heap.size, 0, none⟩ (.slice a' us'.length c')).setCell ⟨wr.heap.size, 1, none⟩ (.int .i64 (g' + 1))) := by
  have nB : ¬ ¬ (KP n Y wr.heap.size ∨ wr.heap.size = wr.heap.size) := fun hn => hn (.inr rfl)
  have nY : ¬ ¬ (KP n Y Y ∨ Y = wr.heap.size) := fun hn => hn (.inl (.inr rfl))
  have hsz : (wr.alloc (.cells #[o0, o1] t)).heap.size = wr.heap.size + 1 := by simp
  have hlt : wr.heap.size < (wr.alloc (.cells #[o0, o1] t)).heap.size := by omega
  have hY := block_lt_of_cell h.y0
  have hlo := h.lo
  simp only at hY
  have hYl : Y < (wr.alloc (.cells #[o0, o1] t)).heap.size := by omega
  have b0 : w4.cell? ⟨wr.heap.size, 0, none⟩ = some o0 := (ht.cell (p := ⟨wr.heap.size, 0, none⟩) hlt nB).trans (by simp)
  have b1 : w4.cell? ⟨wr.heap.size, 1, none⟩ = some o1 := (ht.cell (p := ⟨wr.heap.size, 1, none⟩) hlt nB).trans (by simp)
  have f0 : w4.frozen? ⟨wr.heap.size, 0, none⟩ = false := (ht.frozen (p := ⟨wr.heap.size, 0, none⟩) hlt nB).trans (frozen_new _ _ _ _)
  have f1 : w4.frozen? ⟨wr.heap.size, 1, none⟩ = false := (ht.frozen (p := ⟨wr.heap.size, 1, none⟩) hlt nB).trans (frozen_new _ _ _ _)
  have y0 := (ht.cell (p := ⟨Y, 0, none⟩) hYl nY).trans (alloc_cell h.y0 _)
  have y1 := (ht.cell (p := ⟨Y, 1, none⟩) hYl nY).trans (alloc_cell h.y1 _)
  have z0 := (ht.frozen (p := ⟨Y, 0, none⟩) hYl nY).trans ((frozen_old _ _ _ hY).trans h.z0)
  have z1 := (ht.frozen (p := ⟨Y, 1, none⟩) hYl nY).trans ((frozen_old _ _ _ hY).trans h.z1)
  have hs := set2r_touch w4 wr.heap.size (.slice a' us'.length c') (.int .i64 (g' + 1))
  unfold set2r at hs
  have hlt4 : wr.heap.size < w4.heap.size := by have := ht.size; omega
  have hne : ¬ Y = wr.heap.size := by omega
  refine ⟨b0, b1, f0, f1, hlt4, ⟨(h2.set hs (fun k hk => .inr hk) (fun x hx e => ?_)).sub (fun k hk => .inl hk), set2_same0 b0, set2_same1 b1, ⟨_, (hs.cell (p := ⟨Y, 0, none⟩) (by show Y < _; omega) hne).trans y0⟩, ⟨_, (hs.cell (p := ⟨Y, 1, none⟩) (by show Y < _; omega) hne).trans y1⟩, (hs.frozen (p := ⟨Y, 0, none⟩) (by show Y < _; omega) hne).trans z0, (hs.frozen (p := ⟨Y, 1, none⟩) (by show Y < _; omega) hne).trans z1, fun x hx => ?_, hlo, by omega, ?_⟩⟩
  · rcases ha with e' | e'
    · have := h.mem.rt.row
      have hx2 : a = some x := e' ▸ hx
      have := h.mem.tab.2.1 x.block (.inr (by rw [hx2]; rfl))
      omega
    · have := e' x hx; omega
  · rcases ha with e | e
    · exact h.far x (e ▸ hx)
    · have := e x hx; omega
  · refine ((hw.alloc (by have := hw.size; omega) _).trans (ht.below (by omega) (fun k hk hn => hn (.inl (.inl hk))))).trans (hs.below (by omega) (fun k hk e => by omega))
theorem PlMid.fin {n Y b B : Nat} {us : List Un} {g : Int} {a : Option Addr} {c : Nat} {w0 wx : World} (h : PlMid n Y b B us g a c w0 wx) :
    PlMem n Y b us g a c ((wx.setCell ⟨Y, 0, none⟩ (.slice a us.length c)).setCell ⟨Y, 1, none⟩ (.int .i64 (g + 1))) ∧ Below n w0 ((wx.setCell ⟨Y, 0, none⟩ (.slice a us.length c)).setCell ⟨Y, 1, none⟩ (.int .i64 (g + 1))) := by
  have hs := set2r_touch wx Y (.slice a us.length c) (.int .i64 (g + 1))
  unfold set2r at hs
  obtain ⟨o0, y0⟩ := h.y0
  obtain ⟨o1, y1⟩ := h.y1
  have hlo := h.lo
  refine ⟨⟨h.mem.set hs (fun k hk => .inr hk) (fun x hx e => by have := h.far x hx; omega), set2_same0 y0, set2_same1 y1, by simpa using h.z0, by simpa using h.z1, h.far, h.lo⟩, h.bel.trans (hs.below ?_ (fun k hk e => by omega))⟩
  have := block_lt_of_cell y0
  simp only at this
  omega
theorem keepC {W w' : World} (hb : Below W.heap.size W w') {p q r : Addr} {x y z : Value} (h : W.cell? p = some x ∧ W.cell? q = some y ∧ W.cell? r = some z) : w'.cell? p = some x ∧ w'.cell? q = some y ∧ w'.cell? r = some z :=
  ⟨(hb.cell (block_lt_of_cell h.1)).trans h.1, (hb.cell (block_lt_of_cell h.2.1)).trans h.2.1, (hb.cell (block_lt_of_cell h.2.2)).trans h.2.2⟩
set_option maxRecDepth 100000 in
set_option maxHeartbeats 4000000 in
theorem unitPlays_walk (w : World) (a : Option Addr) (len cap : Nat) (ls : List (List Int)) (h : RecArg 7 w a len cap ls) :
    Calls Try.prog 3 #[.slice a len cap] w fun e w' => e = .returned (.bool true) ∧ Below w.heap.size w w' := by
  obtain ⟨rfl, hlc, hcm, hwide, hrow, -, -⟩ := h
  unfold maxLen at hcm
  have HROW := Lib.hid hrow
  have HAW := Lib.hid (fun W => awake8_any W)
  clear hrow hwide
  go_enter Try.func3, Try.ntmps3
  go_wp2_with fail
  refine (HAW.out _).mono ?_
  rintro e w1 ⟨rfl, hb1⟩
  have HB1 := Lib.hid hb1
  have hs1 := hb1.size
  have HNEW := Lib.hid (tabNew_any (fun k => k < w.heap.size) w1 (fun k hk => by omega))
  clear hb1 HAW
  go_wp2_with fail
  refine HNEW.out.mono ?_
  rintro e w2 ⟨rfl, hq2, hb2⟩
  have HQ2 := Lib.hid hq2
  have HB2 := Lib.hid (HB1.out.trans (hb2.mono HB1.out.size))
  have hs2 := hb2.size
  have HM2 : Hid (PlMem w.heap.size w2.heap.size w1.heap.size [] 0 none 0 (w2.alloc (.cells #[.slice none 0 0, .int .i64 1] 28)) ∧ Below w.heap.size w (w2.alloc (.cells #[.slice none 0 0, .int .i64 1] 28))) := by
    refine Lib.hid ⟨⟨⟨?_, ⟨fun h => by simp [unsI] at h, fun _ => rfl, by simp, by simp [maxLen]⟩⟩, new_cell rfl rfl, new_cell rfl rfl, frozen_new _ _ _ _, frozen_new _ _ _ _, fun x hx => (by cases hx), by omega⟩, HB2.out.alloc (by have := HB2.out.size; omega) _⟩
    refine (HQ2.out.grow (N := fun k => k = w2.heap.size) (bel_alloc (Below.refl _ _) _) (fun k hk => by subst hk; simp)).sub (fun k hk => ?_)
    rcases hk with (h | h) | h
    · exact .inl (by omega)
    · exact .inr h
    · simp at h
  clear hq2 hb2 HNEW HB1 HQ2 HB2
  go_wp2
  generalize w1.heap.size = b at HM2 ⊢
  generalize hY : w2.heap.size = Y at HM2 ⊢
  go_loopw [5] (fun iv wr => ∃ (k : Nat) (us : List Un) (g : Int) (a5 : Option Addr) (c5 : Nat), k ≤ ls.length ∧ k ≤ 120 ∧ iv = .int .i64 k ∧ Hid (PlMem w.heap.size Y b us g a5 c5 wr ∧ Below w.heap.size w wr)) (fun iv _ => 120 - (intOf iv).toNat)
  case atStart => exact ⟨0, [], 0, none, 0, by omega, by omega, rfl, HM2⟩
  case round =>
    obtain ⟨k, us, g, a5, c5, hk, hk30, rfl, HM⟩ := hrel
    by_cases hlt : k < ls.length
    · by_cases hlt2 : k < 120
      · obtain ⟨ab, aoff, rfl, hcell⟩ := RecRow.below (by decide) HROW.out HM.out.2 (by omega)
        have c0 := hcell k hlt 0 (by decide)
        have c1 := hcell k hlt 1 (by decide)
        have c2 := hcell k hlt 2 (by decide)
        have c3 := hcell k hlt 3 (by decide)
        have c4 := hcell k hlt 4 (by decide)
        have c5' := hcell k hlt 5 (by decide)
        have c6 := hcell k hlt 6 (by decide)
        rw [Nat.add_zero] at c0
        have hab := block_lt_of_cell c0
        clear hcell
        generalize ls[k].getD 0 0 = v0 at c0
        generalize ls[k].getD 1 0 = v1 at c1
        generalize ls[k].getD 2 0 = v2 at c2
        generalize ls[k].getD 3 0 = v3 at c3
        generalize ls[k].getD 4 0 = v4 at c4
        generalize hv5 : ls[k].getD 5 0 = v5 at c5'
        have HV5 := Lib.hid hv5
        clear hv5
        generalize ls[k].getD 6 0 = v6 at c6
        have y0 := HM.out.1.y0
        have y1 := HM.out.1.y1
        have hYl := block_lt_of_cell y0
        simp only at hYl hab
        have HD := Lib.hid (does_any (KP w.heap.size Y) b us g a5 c5 wr.drew v0 v1 v2 v3 v4 v5 v6 (HM.out.1.mem.keep (w' := wr.drew) (Below.refl _ wr).drew))
        have HD2 := Lib.hid (does_any (fun k => KP w.heap.size Y k ∨ k = wr.heap.size) b us g a5 c5 (wr.alloc (.cells #[.slice none 0 0, .int .i64 0] 28)).drew v0 v1 v2 v3 v4 v5 v6 ((HM.out.1.mem.grow (.cells #[.slice none 0 0, .int .i64 0] 28)).keep (w' := (wr.alloc (.cells #[.slice none 0 0, .int .i64 0] 28)).drew) (Below.refl _ _).drew))
        have hk0 : (0 : Int) ≤ (k : Int) := by omega
        have hk1 : (k : Int) < (ls.length : Int) := by omega
        have hk2 : (k : Int) < (120 : Int) := by omega
        generalize us.length = un at HD HD2 y0
        go_upto_region 8 with (fail)
        go_cut [6, 7] (fun s6 s7 wx => ∃ (B : Nat) (us : List Un) (g : Int) (a : Option Addr) (c : Nat), s6 = .pointer (some ⟨B, 0, none⟩) ∧ s7 = .bool true ∧ Hid (PlMid w.heap.size Y b B us g a c w wx))
        case first =>
          go_region_with (first
            | (go_at_call 13; (with_reducible refine HD.out.mono ?_); rintro r w4 ⟨us', g', a6, c6', rfl, hm4, ht4, ha4⟩; have HI4 := Lib.hid (plMid_after (t := 28) HM.out.1 HM.out.2 hm4 ht4.drew0 ha4); clear hm4 ht4 ha4)
            | (go_at_call 13; (with_reducible refine HD2.out.mono ?_); rintro r w4 ⟨us', g', a6, c6', rfl, hm4, ht4, ha4⟩; obtain ⟨y0', y1', y2, y3, y4, hi4⟩ := plMid_before HM.out.1 HM.out.2 hm4 ht4.drew0 ha4; have HI4 := Lib.hid hi4; clear hm4 ht4 ha4 hi4))
          all_goals (go_wp2_with fail; go_meet)
          all_goals exact ⟨_, _, _, _, _, rfl, rfl, HI4⟩
        case rest =>
          obtain ⟨B, us', g', a6, c6', rfl, rfl, HMid⟩ := hcut
          clear HD HD2 c0 c1 c2 c3 c4 c5' c6 y0 y1 hYl hab HM2
          obtain ⟨uq, q, f, hfq, hU, hFi⟩ := unit_both (K := KA (KP w.heap.size Y) a6) b us' g' v5 HMid.out.mem.tab.ok
          have HU := Lib.hid hU
          have HFi := Lib.hid hFi
          have HF := Lib.hid HMid.out.fin
          have b0 := HMid.out.b0
          have b1 := HMid.out.b1
          obtain ⟨o0, y0⟩ := HMid.out.y0
          obtain ⟨o1, y1⟩ := HMid.out.y1
          have z0 := HMid.out.z0
          have z1 := HMid.out.z1
          have hne := HMid.out.ne
          have hBl := block_lt_of_cell b0
          have hYl := block_lt_of_cell y0
          simp only at hBl hYl
          have HIS := Lib.hid (fun W hh => is_any (KP w.heap.size Y) b us' g' a6 c6' W hh)
          generalize hul : us'.length = un' at HF b0 HFi HIS
          have HUL := Lib.hid hul
          clear hU hFi HMid hul HM
          cases q
          all_goals
            go_upto_region 10 with (fail)
            generalize (wc.setCell ⟨Y, 0, none⟩ (.slice a6 un' c6')).setCell ⟨Y, 1, none⟩ (.int .i64 (g' + 1)) = W at HF ⊢
            clear b0 b1 y0 y1 z0 z1 hBl hYl hne
            obtain ⟨ab', aoff', he, hcell⟩ := RecRow.below (by decide) HROW.out HF.out.2 (by omega)
            obtain ⟨rfl, rfl⟩ : ab = ab' ∧ aoff = aoff' := by simpa using he
            have c5 := hcell k hlt 5 (by decide)
            have hab := block_lt_of_cell c5
            simp only at hab
            rw [HV5.out] at c5
            clear hcell he
            go_wp2_with fail
            refine (HU.out _ HF.out.1.mem.tab).mono ?_
            rintro r w5 ⟨rfl, hb5⟩
            obtain ⟨u0, u1, u2', u3, u4, u5⟩ := uq
            unfold unV
            simp only
            have hb6 : Below W.heap.size W (w5.alloc (.cells #[.int .i64 u0, .int .i64 u1, .int .i64 u2', .int .i64 u3, .int .i64 u4, .int .i64 u5] 35)) := bel_alloc hb5 _
            have HM6 := Lib.hid (HF.out.1.keep hb6)
            have HB6 := Lib.hid (HF.out.2.trans (hb6.mono HF.out.2.size))
            have d5 := (hb6.cell (p := ⟨ab, aoff + k * 7 + 5, none⟩) hab).trans c5
            clear hb5 hb6 HF HU c5 hab
            go_upto_region 11 with (fail)
            generalize w5.alloc (.cells #[.int .i64 u0, .int .i64 u1, .int .i64 u2', .int .i64 u3, .int .i64 u4, .int .i64 u5] 35) = W6 at HM6 HB6 d5 ⊢
            have y0 := HM6.out.y0
            have y1 := HM6.out.y1
            rw [HUL.out] at y0
            have hYl := block_lt_of_cell y0
            have hab := block_lt_of_cell d5
            simp only at hYl hab
            have HMc := Lib.hid (HM6.out.keep (w' := W6.drew) (Below.refl _ W6).drew)
            have HBc := Lib.hid HB6.out.drew
            clear HM6 HB6
            go_region_held3 (fun w' => w'.cell? ⟨Y, 0, none⟩ = some (.slice a6 un' c6') ∧ w'.cell? ⟨Y, 1, none⟩ = some (.int .i64 (g' + 1)) ∧ w'.cell? ⟨ab, aoff + k * 7 + 5, none⟩ = some (.int .i64 v5))
              (first | (refine keepC hbK ?_; assumption) | exact ⟨y0, y1, d5⟩)
              (first
                | (go_at_call 15; refine (HIS.out _ HMc.out.mem).mono ?_; rintro e wK ⟨rfl, hbK⟩; have HMc := Lib.hid (HMc.out.keep hbK); have HBc := Lib.hid (HBc.out.trans (hbK.mono HBc.out.size)))
                | (go_at_call 16; refine (HFi.out _ _ _ HMc.out.mem.rt).mono ?_; rintro e wK ⟨rfl, hbK⟩; have HMc := Lib.hid (HMc.out.keep hbK); have HBc := Lib.hid (HBc.out.trans (hbK.mono HBc.out.size))))
            all_goals
              have HMK := Lib.hid HMc.out
              have HBK := Lib.hid HBc.out
              go_wp2
              go_roundw
              case rel => exact ⟨k + 1, us', g', a6, c6', by omega, by omega, by go_num, Lib.hid ⟨HMK.out, HBK.out⟩⟩
              case measure => simp [intOf]; omega
      · go_wp2
        go_ret
        exact ⟨rfl, HM.out.2⟩
    · go_wp2
      go_ret
      exact ⟨rfl, HM.out.2⟩
end Go.Proofs.Ytdkokfpbmmjfkaa
