/-
  Layer 9: may a player order it, of these units; the same by the document.
-/
import Derived.Test.YtapiaogmmoofkaaDoes3
namespace Go.Proofs.Ytapiaogmmoofkaa
open Go.RowKit
set_option linter.unusedVariables false

theorem hit_none {K : Nat → Prop} (b : Nat) (us : List Un) (g id pl : Int) (n : Nat) (w : World) (h : TabQ K b us g w) (hn : FindIs us id n) (hq : foundQ us id n = false) :
    Calls Try.prog 69 #[.pointer (some ⟨b, 0, none⟩), .int .i64 id, .int .i64 pl] w fun r w' => r = .returned (.int .i64 9) ∧ Below w.heap.size w w' := by
  have HU := Lib.hid (tabUnit_none b us g id n w h hn hq)
  clear h hn hq
  unfold unV at HU
  simp only at HU
  go_enter Try.func69, Try.ntmps69
  go_wp2_with fail
  refine HU.out.mono ?_
  rintro r w1 ⟨rfl, hb1⟩
  have HB := Lib.hid (bel_alloc hb1 (.cells #[.int .i64 0, .int .i64 0, .int .i64 0, .int .i64 0, .int .i64 0, .int .i64 0] 35))
  clear hb1
  go_wp2
  go_ret
  exact ⟨rfl, HB.out⟩
theorem hit_own {K : Nat → Prop} (b : Nat) (us : List Un) (g id pl : Int) (n : Nat) (w : World) (h : TabQ K b us g w) (hn : FindIs us id n) (hlt : n < us.length) (he : us[n].id = id) (hp : (us[n].owner == pl) = true) :
    Calls Try.prog 69 #[.pointer (some ⟨b, 0, none⟩), .int .i64 id, .int .i64 pl] w fun r w' => r = .returned (.int .i64 13) ∧ Below w.heap.size w w' := by
  have HU := Lib.hid (tabUnit_some b us g id n w h hn hlt he)
  clear h hn he
  generalize us[n] = uu at HU hp
  obtain ⟨u0, u1, u2, u3, u4, u5⟩ := uu
  unfold unV at HU
  simp only at HU hp
  go_enter Try.func69, Try.ntmps69
  go_wp2_with fail
  refine HU.out.mono ?_
  rintro r w1 ⟨rfl, hb1⟩
  have HB := Lib.hid (bel_alloc hb1 (.cells #[.int .i64 u0, .int .i64 u1, .int .i64 u2, .int .i64 u3, .int .i64 u4, .int .i64 u5] 35))
  clear hb1
  go_wp2
  go_ret
  exact ⟨rfl, HB.out⟩
theorem hit_ok {K : Nat → Prop} (b : Nat) (us : List Un) (g id pl : Int) (n : Nat) (w : World) (h : TabQ K b us g w) (hn : FindIs us id n) (hlt : n < us.length) (he : us[n].id = id) (hp : (us[n].owner == pl) = false) :
    Calls Try.prog 69 #[.pointer (some ⟨b, 0, none⟩), .int .i64 id, .int .i64 pl] w fun r w' => r = .returned (.int .i64 0) ∧ Below w.heap.size w w' := by
  have HU := Lib.hid (tabUnit_some b us g id n w h hn hlt he)
  clear h hn he
  generalize us[n] = uu at HU hp
  obtain ⟨u0, u1, u2, u3, u4, u5⟩ := uu
  unfold unV at HU
  simp only at HU hp
  go_enter Try.func69, Try.ntmps69
  go_wp2_with fail
  refine HU.out.mono ?_
  rintro r w1 ⟨rfl, hb1⟩
  have HB := Lib.hid (bel_alloc hb1 (.cells #[.int .i64 u0, .int .i64 u1, .int .i64 u2, .int .i64 u3, .int .i64 u4, .int .i64 u5] 35))
  clear hb1
  go_wp2
  go_ret
  exact ⟨rfl, HB.out⟩
set_option maxRecDepth 100000 in
theorem pv1 {K : Nat → Prop} (b : Nat) (us : List Un) (g : Int) (k : Int) (u p q pl : Int) (w : World) (h : TabQ K b us g w) (n : Nat) (hc : checkN ⟨k, u, p, q⟩ = n) (hn : n ≠ 0) :
    Calls Try.prog 34 #[.agg #[.int .i64 k, .int .i64 u, .int .i64 p, .int .i64 q], .pointer (some ⟨b, 0, none⟩), .int .i64 pl] w fun r w' => r = .returned (.int .i64 (n : Nat)) ∧ Below w.heap.size w w' := by
  have HC := Lib.hid (fun W => ordCheck_any ⟨k, u, p, q⟩ W)
  unfold ordV at HC
  simp only at HC
  have HQ := Lib.hid h
  rw [hc] at HC
  have hnb : ((n : Int) != 0) = true := by simp; omega
  clear hc hn
  clear h
  go_enter Try.func34, Try.ntmps34
  go_wp2_with fail
  refine (HC.out _).mono ?_
  rintro r w1 ⟨rfl, hb1⟩
  have x0 : w1.cell? ⟨w.heap.size, 0, none⟩ = some (.int .i64 k) := (hb1.cell (p := ⟨w.heap.size, 0, none⟩) (by simp)).trans (by simp)
  have x1 : w1.cell? ⟨w.heap.size, 1, none⟩ = some (.int .i64 u) := (hb1.cell (p := ⟨w.heap.size, 1, none⟩) (by simp)).trans (by simp)
  have x2 : w1.cell? ⟨w.heap.size, 2, none⟩ = some (.int .i64 p) := (hb1.cell (p := ⟨w.heap.size, 2, none⟩) (by simp)).trans (by simp)
  have hX := block_lt_of_cell x0
  simp only at hX
  have HB1 := Lib.hid (show Below w.heap.size w w1 from (bel_alloc (Below.refl _ w) _).trans (hb1.mono (by simp)))
  clear hb1 HC
  go_wp2
  go_ret
  exact ⟨rfl, HB1.out⟩
set_option maxRecDepth 100000 in
theorem pv2 {K : Nat → Prop} (b : Nat) (us : List Un) (g : Int) (u p q pl : Int) (w : World) (h : TabQ K b us g w) (hc : checkN ⟨3, u, p, q⟩ = 0) :
    Calls Try.prog 34 #[.agg #[.int .i64 3, .int .i64 u, .int .i64 p, .int .i64 q], .pointer (some ⟨b, 0, none⟩), .int .i64 pl] w fun r w' => r = .returned (.int .i64 0) ∧ Below w.heap.size w w' := by
  have HC := Lib.hid (fun W => ordCheck_any ⟨3, u, p, q⟩ W)
  unfold ordV at HC
  simp only at HC
  have HQ := Lib.hid h
  rw [hc] at HC
  clear hc
  clear h
  go_enter Try.func34, Try.ntmps34
  go_wp2_with fail
  refine (HC.out _).mono ?_
  rintro r w1 ⟨rfl, hb1⟩
  have x0 : w1.cell? ⟨w.heap.size, 0, none⟩ = some (.int .i64 3) := (hb1.cell (p := ⟨w.heap.size, 0, none⟩) (by simp)).trans (by simp)
  have x1 : w1.cell? ⟨w.heap.size, 1, none⟩ = some (.int .i64 u) := (hb1.cell (p := ⟨w.heap.size, 1, none⟩) (by simp)).trans (by simp)
  have x2 : w1.cell? ⟨w.heap.size, 2, none⟩ = some (.int .i64 p) := (hb1.cell (p := ⟨w.heap.size, 2, none⟩) (by simp)).trans (by simp)
  have hX := block_lt_of_cell x0
  simp only at hX
  have HB1 := Lib.hid (show Below w.heap.size w w1 from (bel_alloc (Below.refl _ w) _).trans (hb1.mono (by simp)))
  clear hb1 HC
  go_wp2
  go_ret
  exact ⟨rfl, HB1.out⟩
set_option maxRecDepth 100000 in
theorem pv3 {K : Nat → Prop} (b : Nat) (us : List Un) (g : Int) (k : Int) (u p q pl : Int) (w : World) (h : TabQ K b us g w) (hc : checkN ⟨k, u, p, q⟩ = 0) (hk : (k == 3) = false) (n : Nat) (hn : FindIs us u n) (hq : foundQ us u n = false) :
    Calls Try.prog 34 #[.agg #[.int .i64 k, .int .i64 u, .int .i64 p, .int .i64 q], .pointer (some ⟨b, 0, none⟩), .int .i64 pl] w fun r w' => r = .returned (.int .i64 9) ∧ Below w.heap.size w w' := by
  have HC := Lib.hid (fun W => ordCheck_any ⟨k, u, p, q⟩ W)
  unfold ordV at HC
  simp only at HC
  have HQ := Lib.hid h
  rw [hc] at HC
  have HU := Lib.hid (fun (W : World) (hh : TabQ K b us g W) => tabUnit_none b us g u n W hh hn hq)
  clear hc hn hq
  unfold unV at HU
  simp only at HU
  clear h
  go_enter Try.func34, Try.ntmps34
  go_wp2_with fail
  refine (HC.out _).mono ?_
  rintro r w1 ⟨rfl, hb1⟩
  have x0 : w1.cell? ⟨w.heap.size, 0, none⟩ = some (.int .i64 k) := (hb1.cell (p := ⟨w.heap.size, 0, none⟩) (by simp)).trans (by simp)
  have x1 : w1.cell? ⟨w.heap.size, 1, none⟩ = some (.int .i64 u) := (hb1.cell (p := ⟨w.heap.size, 1, none⟩) (by simp)).trans (by simp)
  have x2 : w1.cell? ⟨w.heap.size, 2, none⟩ = some (.int .i64 p) := (hb1.cell (p := ⟨w.heap.size, 2, none⟩) (by simp)).trans (by simp)
  have hX := block_lt_of_cell x0
  simp only at hX
  have HB1 := Lib.hid (show Below w.heap.size w w1 from (bel_alloc (Below.refl _ w) _).trans (hb1.mono (by simp)))
  clear hb1 HC
  go_wp2_with fail
  refine (HU.out w1 (HQ.out.below HB1.out)).mono ?_
  rintro r w2 ⟨rfl, hb2⟩
  have HB2 := Lib.hid (bel_alloc (HB1.out.trans (hb2.mono HB1.out.size)) (.cells #[.int .i64 0, .int .i64 0, .int .i64 0, .int .i64 0, .int .i64 0, .int .i64 0] 35))
  clear hb2 x0 x1 x2
  go_wp2
  go_ret
  exact ⟨rfl, HB2.out⟩
set_option maxRecDepth 100000 in
theorem pv4 {K : Nat → Prop} (b : Nat) (us : List Un) (g : Int) (k : Int) (u p q pl : Int) (w : World) (h : TabQ K b us g w) (hc : checkN ⟨k, u, p, q⟩ = 0) (hk : (k == 3) = false) (n : Nat) (hn : FindIs us u n) (hlt : n < us.length) (he : us[n].id = u) (hp : (us[n].owner != pl) = true) :
    Calls Try.prog 34 #[.agg #[.int .i64 k, .int .i64 u, .int .i64 p, .int .i64 q], .pointer (some ⟨b, 0, none⟩), .int .i64 pl] w fun r w' => r = .returned (.int .i64 13) ∧ Below w.heap.size w w' := by
  have HC := Lib.hid (fun W => ordCheck_any ⟨k, u, p, q⟩ W)
  unfold ordV at HC
  simp only at HC
  have HQ := Lib.hid h
  rw [hc] at HC
  have HU := Lib.hid (fun (W : World) (hh : TabQ K b us g W) => tabUnit_some b us g u n W hh hn hlt he)
  clear hc hn he
  generalize us[n] = uu at HU hp
  obtain ⟨u0, u1, u2, u3, u4, u5⟩ := uu
  unfold unV at HU
  simp only at HU hp
  clear h
  go_enter Try.func34, Try.ntmps34
  go_wp2_with fail
  refine (HC.out _).mono ?_
  rintro r w1 ⟨rfl, hb1⟩
  have x0 : w1.cell? ⟨w.heap.size, 0, none⟩ = some (.int .i64 k) := (hb1.cell (p := ⟨w.heap.size, 0, none⟩) (by simp)).trans (by simp)
  have x1 : w1.cell? ⟨w.heap.size, 1, none⟩ = some (.int .i64 u) := (hb1.cell (p := ⟨w.heap.size, 1, none⟩) (by simp)).trans (by simp)
  have x2 : w1.cell? ⟨w.heap.size, 2, none⟩ = some (.int .i64 p) := (hb1.cell (p := ⟨w.heap.size, 2, none⟩) (by simp)).trans (by simp)
  have hX := block_lt_of_cell x0
  simp only at hX
  have HB1 := Lib.hid (show Below w.heap.size w w1 from (bel_alloc (Below.refl _ w) _).trans (hb1.mono (by simp)))
  clear hb1 HC
  go_wp2_with fail
  refine (HU.out w1 (HQ.out.below HB1.out)).mono ?_
  rintro r w2 ⟨rfl, hb2⟩
  replace x0 := (hb2.cell (p := ⟨w.heap.size, 0, none⟩) hX).trans x0
  replace x2 := (hb2.cell (p := ⟨w.heap.size, 2, none⟩) hX).trans x2
  have hX2 := block_lt_of_cell x0
  simp only at hX2
  have HB2 := Lib.hid (bel_alloc (HB1.out.trans (hb2.mono HB1.out.size)) (.cells #[.int .i64 u0, .int .i64 u1, .int .i64 u2, .int .i64 u3, .int .i64 u4, .int .i64 u5] 35))
  clear hb2
  go_wp2
  go_ret
  exact ⟨rfl, HB2.out⟩
set_option maxRecDepth 100000 in
theorem pv5 {K : Nat → Prop} (b : Nat) (us : List Un) (g : Int) (k : Int) (u p q pl : Int) (w : World) (h : TabQ K b us g w) (hc : checkN ⟨k, u, p, q⟩ = 0) (hk : (k == 3) = false) (hk2 : (k == 2) = false) (n : Nat) (hn : FindIs us u n) (hlt : n < us.length) (he : us[n].id = u) (hp : (us[n].owner != pl) = false) :
    Calls Try.prog 34 #[.agg #[.int .i64 k, .int .i64 u, .int .i64 p, .int .i64 q], .pointer (some ⟨b, 0, none⟩), .int .i64 pl] w fun r w' => r = .returned (.int .i64 0) ∧ Below w.heap.size w w' := by
  have HC := Lib.hid (fun W => ordCheck_any ⟨k, u, p, q⟩ W)
  unfold ordV at HC
  simp only at HC
  have HQ := Lib.hid h
  rw [hc] at HC
  have HU := Lib.hid (fun (W : World) (hh : TabQ K b us g W) => tabUnit_some b us g u n W hh hn hlt he)
  clear hc hn he
  generalize us[n] = uu at HU hp
  obtain ⟨u0, u1, u2, u3, u4, u5⟩ := uu
  unfold unV at HU
  simp only at HU hp
  clear h
  go_enter Try.func34, Try.ntmps34
  go_wp2_with fail
  refine (HC.out _).mono ?_
  rintro r w1 ⟨rfl, hb1⟩
  have x0 : w1.cell? ⟨w.heap.size, 0, none⟩ = some (.int .i64 k) := (hb1.cell (p := ⟨w.heap.size, 0, none⟩) (by simp)).trans (by simp)
  have x1 : w1.cell? ⟨w.heap.size, 1, none⟩ = some (.int .i64 u) := (hb1.cell (p := ⟨w.heap.size, 1, none⟩) (by simp)).trans (by simp)
  have x2 : w1.cell? ⟨w.heap.size, 2, none⟩ = some (.int .i64 p) := (hb1.cell (p := ⟨w.heap.size, 2, none⟩) (by simp)).trans (by simp)
  have hX := block_lt_of_cell x0
  simp only at hX
  have HB1 := Lib.hid (show Below w.heap.size w w1 from (bel_alloc (Below.refl _ w) _).trans (hb1.mono (by simp)))
  clear hb1 HC
  go_wp2_with fail
  refine (HU.out w1 (HQ.out.below HB1.out)).mono ?_
  rintro r w2 ⟨rfl, hb2⟩
  replace x0 := (hb2.cell (p := ⟨w.heap.size, 0, none⟩) hX).trans x0
  replace x2 := (hb2.cell (p := ⟨w.heap.size, 2, none⟩) hX).trans x2
  have hX2 := block_lt_of_cell x0
  simp only at hX2
  have HB2 := Lib.hid (bel_alloc (HB1.out.trans (hb2.mono HB1.out.size)) (.cells #[.int .i64 u0, .int .i64 u1, .int .i64 u2, .int .i64 u3, .int .i64 u4, .int .i64 u5] 35))
  clear hb2
  go_wp2
  go_ret
  exact ⟨rfl, HB2.out⟩
set_option maxRecDepth 100000 in
theorem pv6 {K : Nat → Prop} (b : Nat) (us : List Un) (g : Int) (u p q pl : Int) (w : World) (h : TabQ K b us g w) (hc : checkN ⟨2, u, p, q⟩ = 0) (n : Nat) (hn : FindIs us u n) (hlt : n < us.length) (he : us[n].id = u) (hp : (us[n].owner != pl) = false) (v : Nat) (hh : ∀ W, TabQ K b us g W → Calls Try.prog 69 #[.pointer (some ⟨b, 0, none⟩), .int .i64 p, .int .i64 pl] W fun r w' => r = .returned (.int .i64 (v : Nat)) ∧ Below W.heap.size W w') :
    Calls Try.prog 34 #[.agg #[.int .i64 2, .int .i64 u, .int .i64 p, .int .i64 q], .pointer (some ⟨b, 0, none⟩), .int .i64 pl] w fun r w' => r = .returned (.int .i64 (v : Nat)) ∧ Below w.heap.size w w' := by
  have HC := Lib.hid (fun W => ordCheck_any ⟨2, u, p, q⟩ W)
  unfold ordV at HC
  simp only at HC
  have HQ := Lib.hid h
  rw [hc] at HC
  have HU := Lib.hid (fun (W : World) (hh : TabQ K b us g W) => tabUnit_some b us g u n W hh hn hlt he)
  clear hc hn he
  generalize us[n] = uu at HU hp
  obtain ⟨u0, u1, u2, u3, u4, u5⟩ := uu
  unfold unV at HU
  simp only at HU hp
  have HH := Lib.hid hh
  clear hh
  clear h
  go_enter Try.func34, Try.ntmps34
  go_wp2_with fail
  refine (HC.out _).mono ?_
  rintro r w1 ⟨rfl, hb1⟩
  have x0 : w1.cell? ⟨w.heap.size, 0, none⟩ = some (.int .i64 2) := (hb1.cell (p := ⟨w.heap.size, 0, none⟩) (by simp)).trans (by simp)
  have x1 : w1.cell? ⟨w.heap.size, 1, none⟩ = some (.int .i64 u) := (hb1.cell (p := ⟨w.heap.size, 1, none⟩) (by simp)).trans (by simp)
  have x2 : w1.cell? ⟨w.heap.size, 2, none⟩ = some (.int .i64 p) := (hb1.cell (p := ⟨w.heap.size, 2, none⟩) (by simp)).trans (by simp)
  have hX := block_lt_of_cell x0
  simp only at hX
  have HB1 := Lib.hid (show Below w.heap.size w w1 from (bel_alloc (Below.refl _ w) _).trans (hb1.mono (by simp)))
  clear hb1 HC
  go_wp2_with fail
  refine (HU.out w1 (HQ.out.below HB1.out)).mono ?_
  rintro r w2 ⟨rfl, hb2⟩
  replace x0 := (hb2.cell (p := ⟨w.heap.size, 0, none⟩) hX).trans x0
  replace x2 := (hb2.cell (p := ⟨w.heap.size, 2, none⟩) hX).trans x2
  have hX2 := block_lt_of_cell x0
  simp only at hX2
  have HB2 := Lib.hid (bel_alloc (HB1.out.trans (hb2.mono HB1.out.size)) (.cells #[.int .i64 u0, .int .i64 u1, .int .i64 u2, .int .i64 u3, .int .i64 u4, .int .i64 u5] 35))
  have HQ2 := Lib.hid (HQ.out.below HB2.out)
  clear hb2
  go_wp2_with fail
  refine (HH.out _ HQ2.out).mono ?_
  rintro r w3 ⟨rfl, hb3⟩
  have HB3 := Lib.hid (HB2.out.trans (hb3.mono HB2.out.size))
  clear hb3
  go_wp2
  go_ret
  exact ⟨rfl, HB3.out⟩
set_option maxRecDepth 100000 in
set_option maxHeartbeats 1000000 in
theorem rv1 (a : Option Addr) (c : Nat) (us : List Un) (nx : Int) (k : Int) (u p q pl : Int) (w : World) (hl : us.length ≤ 64) (hrise : Rising us) (h : RT w a c us) (n : Nat) (hc : checkN ⟨k, u, p, q⟩ = n) (hn : n ≠ 0) :
    Calls Try.prog 35 #[.agg #[.int .i64 k, .int .i64 u, .int .i64 p, .int .i64 q], .agg #[.slice a us.length c, .int .i64 nx], .int .i64 pl] w fun r w' => r = .returned (.int .i64 (n : Nat)) ∧ Below w.heap.size w w' := by
  have HC := Lib.hid (fun W => refOrdCheck_any ⟨k, u, p, q⟩ W)
  unfold ordV at HC
  simp only at HC
  have HR := Lib.hid h.row
  rw [hc] at HC
  have hnb : ((n : Int) != 0) = true := by simp; omega
  clear hc hn
  clear h
  go_enter Try.func35, Try.ntmps35
  go_wp2_with fail
  refine (HC.out _).mono ?_
  rintro r w1 ⟨rfl, hb1⟩
  have hB0 : Below w.heap.size w ((w.alloc (.cells #[.int .i64 k, .int .i64 u, .int .i64 p, .int .i64 q] 63)).alloc (.cells #[.slice a us.length c, .int .i64 nx] 28)) := bel_alloc (bel_alloc (Below.refl _ w) _) _
  have x0 : w1.cell? ⟨w.heap.size, 0, none⟩ = some (.int .i64 k) := (hb1.cell (p := ⟨w.heap.size, 0, none⟩) (by simp; omega)).trans (by repeat' (first | exact new_cell (by first | rfl | (simp; done)) rfl | with_reducible refine alloc_cell ?_ _))
  have x1 : w1.cell? ⟨w.heap.size, 1, none⟩ = some (.int .i64 u) := (hb1.cell (p := ⟨w.heap.size, 1, none⟩) (by simp; omega)).trans (by repeat' (first | exact new_cell (by first | rfl | (simp; done)) rfl | with_reducible refine alloc_cell ?_ _))
  have x2 : w1.cell? ⟨w.heap.size, 2, none⟩ = some (.int .i64 p) := (hb1.cell (p := ⟨w.heap.size, 2, none⟩) (by simp; omega)).trans (by repeat' (first | exact new_cell (by first | rfl | (simp; done)) rfl | with_reducible refine alloc_cell ?_ _))
  have x3 : w1.cell? ⟨w.heap.size, 3, none⟩ = some (.int .i64 q) := (hb1.cell (p := ⟨w.heap.size, 3, none⟩) (by simp; omega)).trans (by repeat' (first | exact new_cell (by first | rfl | (simp; done)) rfl | with_reducible refine alloc_cell ?_ _))
  have t0 : w1.cell? ⟨w.heap.size + 1, 0, none⟩ = some (.slice a us.length c) := (hb1.cell (p := ⟨w.heap.size + 1, 0, none⟩) (by simp)).trans (by repeat' (first | exact new_cell (by first | rfl | (simp; done)) rfl | with_reducible refine alloc_cell ?_ _))
  have t1 : w1.cell? ⟨w.heap.size + 1, 1, none⟩ = some (.int .i64 nx) := (hb1.cell (p := ⟨w.heap.size + 1, 1, none⟩) (by simp)).trans (by repeat' (first | exact new_cell (by first | rfl | (simp; done)) rfl | with_reducible refine alloc_cell ?_ _))
  have hX := block_lt_of_cell x0
  have hT := block_lt_of_cell t0
  simp only at hX hT
  have HB1 := Lib.hid (show Below w.heap.size w w1 from hB0.trans (hb1.mono hB0.size))
  clear hb1 hB0
  go_wp2_with fail
  refine (HC.out _).mono ?_
  rintro r w2 ⟨rfl, hb2⟩
  have HB2 := Lib.hid (HB1.out.trans (hb2.mono HB1.out.size))
  clear hb2
  go_wp2
  go_ret
  exact ⟨rfl, HB2.out⟩
set_option maxRecDepth 100000 in
set_option maxHeartbeats 1000000 in
theorem rv2 (a : Option Addr) (c : Nat) (us : List Un) (nx : Int) (u p q pl : Int) (w : World) (hl : us.length ≤ 64) (hrise : Rising us) (h : RT w a c us) (hc : checkN ⟨3, u, p, q⟩ = 0) :
    Calls Try.prog 35 #[.agg #[.int .i64 3, .int .i64 u, .int .i64 p, .int .i64 q], .agg #[.slice a us.length c, .int .i64 nx], .int .i64 pl] w fun r w' => r = .returned (.int .i64 0) ∧ Below w.heap.size w w' := by
  have HC := Lib.hid (fun W => refOrdCheck_any ⟨3, u, p, q⟩ W)
  unfold ordV at HC
  simp only at HC
  have HR := Lib.hid h.row
  rw [hc] at HC
  clear hc
  clear h
  go_enter Try.func35, Try.ntmps35
  go_wp2_with fail
  refine (HC.out _).mono ?_
  rintro r w1 ⟨rfl, hb1⟩
  have hB0 : Below w.heap.size w ((w.alloc (.cells #[.int .i64 3, .int .i64 u, .int .i64 p, .int .i64 q] 63)).alloc (.cells #[.slice a us.length c, .int .i64 nx] 28)) := bel_alloc (bel_alloc (Below.refl _ w) _) _
  have x0 : w1.cell? ⟨w.heap.size, 0, none⟩ = some (.int .i64 3) := (hb1.cell (p := ⟨w.heap.size, 0, none⟩) (by simp; omega)).trans (by repeat' (first | exact new_cell (by first | rfl | (simp; done)) rfl | with_reducible refine alloc_cell ?_ _))
  have x1 : w1.cell? ⟨w.heap.size, 1, none⟩ = some (.int .i64 u) := (hb1.cell (p := ⟨w.heap.size, 1, none⟩) (by simp; omega)).trans (by repeat' (first | exact new_cell (by first | rfl | (simp; done)) rfl | with_reducible refine alloc_cell ?_ _))
  have x2 : w1.cell? ⟨w.heap.size, 2, none⟩ = some (.int .i64 p) := (hb1.cell (p := ⟨w.heap.size, 2, none⟩) (by simp; omega)).trans (by repeat' (first | exact new_cell (by first | rfl | (simp; done)) rfl | with_reducible refine alloc_cell ?_ _))
  have x3 : w1.cell? ⟨w.heap.size, 3, none⟩ = some (.int .i64 q) := (hb1.cell (p := ⟨w.heap.size, 3, none⟩) (by simp; omega)).trans (by repeat' (first | exact new_cell (by first | rfl | (simp; done)) rfl | with_reducible refine alloc_cell ?_ _))
  have t0 : w1.cell? ⟨w.heap.size + 1, 0, none⟩ = some (.slice a us.length c) := (hb1.cell (p := ⟨w.heap.size + 1, 0, none⟩) (by simp)).trans (by repeat' (first | exact new_cell (by first | rfl | (simp; done)) rfl | with_reducible refine alloc_cell ?_ _))
  have t1 : w1.cell? ⟨w.heap.size + 1, 1, none⟩ = some (.int .i64 nx) := (hb1.cell (p := ⟨w.heap.size + 1, 1, none⟩) (by simp)).trans (by repeat' (first | exact new_cell (by first | rfl | (simp; done)) rfl | with_reducible refine alloc_cell ?_ _))
  have hX := block_lt_of_cell x0
  have hT := block_lt_of_cell t0
  simp only at hX hT
  have HB1 := Lib.hid (show Below w.heap.size w w1 from hB0.trans (hb1.mono hB0.size))
  clear hb1 hB0
  go_wp2_with fail
  refine (HC.out _).mono ?_
  rintro r w2 ⟨rfl, hb2⟩
  have HB2 := Lib.hid (HB1.out.trans (hb2.mono HB1.out.size))
  clear hb2
  go_wp2
  go_ret
  exact ⟨rfl, HB2.out⟩
set_option maxRecDepth 100000 in
set_option maxHeartbeats 1000000 in
theorem rv3 (a : Option Addr) (c : Nat) (us : List Un) (nx : Int) (k : Int) (u p q pl : Int) (w : World) (hl : us.length ≤ 64) (hrise : Rising us) (h : RT w a c us) (hc : checkN ⟨k, u, p, q⟩ = 0) (hk : (k == 3) = false) (n : Nat) (hn : FindIs us u n) (hq : foundQ us u n = false) :
    Calls Try.prog 35 #[.agg #[.int .i64 k, .int .i64 u, .int .i64 p, .int .i64 q], .agg #[.slice a us.length c, .int .i64 nx], .int .i64 pl] w fun r w' => r = .returned (.int .i64 9) ∧ Below w.heap.size w w' := by
  have HC := Lib.hid (fun W => refOrdCheck_any ⟨k, u, p, q⟩ W)
  unfold ordV at HC
  simp only at HC
  have HR := Lib.hid h.row
  rw [hc] at HC
  have HF := Lib.hid (fun W hr => refFind_any a c us nx u n W (by omega) hrise hr hn)
  rw [show findR us u n = -1 by unfold findR; rw [hq]; rfl] at HF
  clear hc hn hq
  clear h
  go_enter Try.func35, Try.ntmps35
  go_wp2_with fail
  refine (HC.out _).mono ?_
  rintro r w1 ⟨rfl, hb1⟩
  have hB0 : Below w.heap.size w ((w.alloc (.cells #[.int .i64 k, .int .i64 u, .int .i64 p, .int .i64 q] 63)).alloc (.cells #[.slice a us.length c, .int .i64 nx] 28)) := bel_alloc (bel_alloc (Below.refl _ w) _) _
  have x0 : w1.cell? ⟨w.heap.size, 0, none⟩ = some (.int .i64 k) := (hb1.cell (p := ⟨w.heap.size, 0, none⟩) (by simp; omega)).trans (by repeat' (first | exact new_cell (by first | rfl | (simp; done)) rfl | with_reducible refine alloc_cell ?_ _))
  have x1 : w1.cell? ⟨w.heap.size, 1, none⟩ = some (.int .i64 u) := (hb1.cell (p := ⟨w.heap.size, 1, none⟩) (by simp; omega)).trans (by repeat' (first | exact new_cell (by first | rfl | (simp; done)) rfl | with_reducible refine alloc_cell ?_ _))
  have x2 : w1.cell? ⟨w.heap.size, 2, none⟩ = some (.int .i64 p) := (hb1.cell (p := ⟨w.heap.size, 2, none⟩) (by simp; omega)).trans (by repeat' (first | exact new_cell (by first | rfl | (simp; done)) rfl | with_reducible refine alloc_cell ?_ _))
  have x3 : w1.cell? ⟨w.heap.size, 3, none⟩ = some (.int .i64 q) := (hb1.cell (p := ⟨w.heap.size, 3, none⟩) (by simp; omega)).trans (by repeat' (first | exact new_cell (by first | rfl | (simp; done)) rfl | with_reducible refine alloc_cell ?_ _))
  have t0 : w1.cell? ⟨w.heap.size + 1, 0, none⟩ = some (.slice a us.length c) := (hb1.cell (p := ⟨w.heap.size + 1, 0, none⟩) (by simp)).trans (by repeat' (first | exact new_cell (by first | rfl | (simp; done)) rfl | with_reducible refine alloc_cell ?_ _))
  have t1 : w1.cell? ⟨w.heap.size + 1, 1, none⟩ = some (.int .i64 nx) := (hb1.cell (p := ⟨w.heap.size + 1, 1, none⟩) (by simp)).trans (by repeat' (first | exact new_cell (by first | rfl | (simp; done)) rfl | with_reducible refine alloc_cell ?_ _))
  have hX := block_lt_of_cell x0
  have hT := block_lt_of_cell t0
  simp only at hX hT
  have HB1 := Lib.hid (show Below w.heap.size w w1 from hB0.trans (hb1.mono hB0.size))
  clear hb1 hB0
  go_wp2_with fail
  refine (HF.out w1 (HR.out.below HB1.out)).mono ?_
  rintro r w2 ⟨rfl, hb2⟩
  have HB2 := Lib.hid (HB1.out.trans (hb2.mono HB1.out.size))
  replace x0 := (hb2.cell (p := ⟨w.heap.size, 0, none⟩) hX).trans x0
  replace x2 := (hb2.cell (p := ⟨w.heap.size, 2, none⟩) hX).trans x2
  replace t0 := (hb2.cell (p := ⟨w.heap.size + 1, 0, none⟩) hT).trans t0
  replace t1 := (hb2.cell (p := ⟨w.heap.size + 1, 1, none⟩) hT).trans t1
  have hX2 := block_lt_of_cell x0
  have hT2 := block_lt_of_cell t0
  simp only at hX2 hT2
  clear hb2
  go_wp2
  go_ret
  exact ⟨rfl, HB2.out⟩
set_option maxRecDepth 100000 in
set_option maxHeartbeats 1000000 in
theorem rv4 (a : Option Addr) (c : Nat) (us : List Un) (nx : Int) (k : Int) (u p q pl : Int) (w : World) (hl : us.length ≤ 64) (hrise : Rising us) (h : RT w a c us) (hc : checkN ⟨k, u, p, q⟩ = 0) (hk : (k == 3) = false) (n : Nat) (hn : FindIs us u n) (hlt : n < us.length) (he : us[n].id = u) (hp : (us[n].owner != pl) = true) :
    Calls Try.prog 35 #[.agg #[.int .i64 k, .int .i64 u, .int .i64 p, .int .i64 q], .agg #[.slice a us.length c, .int .i64 nx], .int .i64 pl] w fun r w' => r = .returned (.int .i64 13) ∧ Below w.heap.size w w' := by
  have HC := Lib.hid (fun W => refOrdCheck_any ⟨k, u, p, q⟩ W)
  unfold ordV at HC
  simp only at HC
  have HR := Lib.hid h.row
  rw [hc] at HC
  have HF := Lib.hid (fun W hr => refFind_any a c us nx u n W (by omega) hrise hr hn)
  rw [show findR us u n = (n : Int) by unfold findR; rw [foundQ_lt hlt]; simp [he]] at HF
  have dn : decide ((n : Int) < 0) = false := by simp
  clear hc hn he
  clear h
  go_enter Try.func35, Try.ntmps35
  go_wp2_with fail
  refine (HC.out _).mono ?_
  rintro r w1 ⟨rfl, hb1⟩
  have hB0 : Below w.heap.size w ((w.alloc (.cells #[.int .i64 k, .int .i64 u, .int .i64 p, .int .i64 q] 63)).alloc (.cells #[.slice a us.length c, .int .i64 nx] 28)) := bel_alloc (bel_alloc (Below.refl _ w) _) _
  have x0 : w1.cell? ⟨w.heap.size, 0, none⟩ = some (.int .i64 k) := (hb1.cell (p := ⟨w.heap.size, 0, none⟩) (by simp; omega)).trans (by repeat' (first | exact new_cell (by first | rfl | (simp; done)) rfl | with_reducible refine alloc_cell ?_ _))
  have x1 : w1.cell? ⟨w.heap.size, 1, none⟩ = some (.int .i64 u) := (hb1.cell (p := ⟨w.heap.size, 1, none⟩) (by simp; omega)).trans (by repeat' (first | exact new_cell (by first | rfl | (simp; done)) rfl | with_reducible refine alloc_cell ?_ _))
  have x2 : w1.cell? ⟨w.heap.size, 2, none⟩ = some (.int .i64 p) := (hb1.cell (p := ⟨w.heap.size, 2, none⟩) (by simp; omega)).trans (by repeat' (first | exact new_cell (by first | rfl | (simp; done)) rfl | with_reducible refine alloc_cell ?_ _))
  have x3 : w1.cell? ⟨w.heap.size, 3, none⟩ = some (.int .i64 q) := (hb1.cell (p := ⟨w.heap.size, 3, none⟩) (by simp; omega)).trans (by repeat' (first | exact new_cell (by first | rfl | (simp; done)) rfl | with_reducible refine alloc_cell ?_ _))
  have t0 : w1.cell? ⟨w.heap.size + 1, 0, none⟩ = some (.slice a us.length c) := (hb1.cell (p := ⟨w.heap.size + 1, 0, none⟩) (by simp)).trans (by repeat' (first | exact new_cell (by first | rfl | (simp; done)) rfl | with_reducible refine alloc_cell ?_ _))
  have t1 : w1.cell? ⟨w.heap.size + 1, 1, none⟩ = some (.int .i64 nx) := (hb1.cell (p := ⟨w.heap.size + 1, 1, none⟩) (by simp)).trans (by repeat' (first | exact new_cell (by first | rfl | (simp; done)) rfl | with_reducible refine alloc_cell ?_ _))
  have hX := block_lt_of_cell x0
  have hT := block_lt_of_cell t0
  simp only at hX hT
  have HB1 := Lib.hid (show Below w.heap.size w w1 from hB0.trans (hb1.mono hB0.size))
  clear hb1 hB0
  go_wp2_with fail
  refine (HF.out w1 (HR.out.below HB1.out)).mono ?_
  rintro r w2 ⟨rfl, hb2⟩
  have HB2 := Lib.hid (HB1.out.trans (hb2.mono HB1.out.size))
  replace x0 := (hb2.cell (p := ⟨w.heap.size, 0, none⟩) hX).trans x0
  replace x2 := (hb2.cell (p := ⟨w.heap.size, 2, none⟩) hX).trans x2
  replace t0 := (hb2.cell (p := ⟨w.heap.size + 1, 0, none⟩) hT).trans t0
  replace t1 := (hb2.cell (p := ⟨w.heap.size + 1, 1, none⟩) hT).trans t1
  have hX2 := block_lt_of_cell x0
  have hT2 := block_lt_of_cell t0
  simp only at hX2 hT2
  obtain ⟨gb, off, rfl, hgb, -, -, e2, -⟩ := (HR.out.below HB2.out).at hlt
  generalize us[n] = uu at e2 hp
  generalize uu.owner = ow at e2 hp
  clear hb2
  go_wp2
  go_ret
  exact ⟨rfl, HB2.out⟩
set_option maxRecDepth 100000 in
set_option maxHeartbeats 1000000 in
theorem rv5 (a : Option Addr) (c : Nat) (us : List Un) (nx : Int) (k : Int) (u p q pl : Int) (w : World) (hl : us.length ≤ 64) (hrise : Rising us) (h : RT w a c us) (hc : checkN ⟨k, u, p, q⟩ = 0) (hk : (k == 3) = false) (hk2 : (k != 2) = true) (n : Nat) (hn : FindIs us u n) (hlt : n < us.length) (he : us[n].id = u) (hp : (us[n].owner != pl) = false) :
    Calls Try.prog 35 #[.agg #[.int .i64 k, .int .i64 u, .int .i64 p, .int .i64 q], .agg #[.slice a us.length c, .int .i64 nx], .int .i64 pl] w fun r w' => r = .returned (.int .i64 0) ∧ Below w.heap.size w w' := by
  have HC := Lib.hid (fun W => refOrdCheck_any ⟨k, u, p, q⟩ W)
  unfold ordV at HC
  simp only at HC
  have HR := Lib.hid h.row
  rw [hc] at HC
  have HF := Lib.hid (fun W hr => refFind_any a c us nx u n W (by omega) hrise hr hn)
  rw [show findR us u n = (n : Int) by unfold findR; rw [foundQ_lt hlt]; simp [he]] at HF
  have dn : decide ((n : Int) < 0) = false := by simp
  clear hc hn he
  clear h
  go_enter Try.func35, Try.ntmps35
  go_wp2_with fail
  refine (HC.out _).mono ?_
  rintro r w1 ⟨rfl, hb1⟩
  have hB0 : Below w.heap.size w ((w.alloc (.cells #[.int .i64 k, .int .i64 u, .int .i64 p, .int .i64 q] 63)).alloc (.cells #[.slice a us.length c, .int .i64 nx] 28)) := bel_alloc (bel_alloc (Below.refl _ w) _) _
  have x0 : w1.cell? ⟨w.heap.size, 0, none⟩ = some (.int .i64 k) := (hb1.cell (p := ⟨w.heap.size, 0, none⟩) (by simp; omega)).trans (by repeat' (first | exact new_cell (by first | rfl | (simp; done)) rfl | with_reducible refine alloc_cell ?_ _))
  have x1 : w1.cell? ⟨w.heap.size, 1, none⟩ = some (.int .i64 u) := (hb1.cell (p := ⟨w.heap.size, 1, none⟩) (by simp; omega)).trans (by repeat' (first | exact new_cell (by first | rfl | (simp; done)) rfl | with_reducible refine alloc_cell ?_ _))
  have x2 : w1.cell? ⟨w.heap.size, 2, none⟩ = some (.int .i64 p) := (hb1.cell (p := ⟨w.heap.size, 2, none⟩) (by simp; omega)).trans (by repeat' (first | exact new_cell (by first | rfl | (simp; done)) rfl | with_reducible refine alloc_cell ?_ _))
  have x3 : w1.cell? ⟨w.heap.size, 3, none⟩ = some (.int .i64 q) := (hb1.cell (p := ⟨w.heap.size, 3, none⟩) (by simp; omega)).trans (by repeat' (first | exact new_cell (by first | rfl | (simp; done)) rfl | with_reducible refine alloc_cell ?_ _))
  have t0 : w1.cell? ⟨w.heap.size + 1, 0, none⟩ = some (.slice a us.length c) := (hb1.cell (p := ⟨w.heap.size + 1, 0, none⟩) (by simp)).trans (by repeat' (first | exact new_cell (by first | rfl | (simp; done)) rfl | with_reducible refine alloc_cell ?_ _))
  have t1 : w1.cell? ⟨w.heap.size + 1, 1, none⟩ = some (.int .i64 nx) := (hb1.cell (p := ⟨w.heap.size + 1, 1, none⟩) (by simp)).trans (by repeat' (first | exact new_cell (by first | rfl | (simp; done)) rfl | with_reducible refine alloc_cell ?_ _))
  have hX := block_lt_of_cell x0
  have hT := block_lt_of_cell t0
  simp only at hX hT
  have HB1 := Lib.hid (show Below w.heap.size w w1 from hB0.trans (hb1.mono hB0.size))
  clear hb1 hB0
  go_wp2_with fail
  refine (HF.out w1 (HR.out.below HB1.out)).mono ?_
  rintro r w2 ⟨rfl, hb2⟩
  have HB2 := Lib.hid (HB1.out.trans (hb2.mono HB1.out.size))
  replace x0 := (hb2.cell (p := ⟨w.heap.size, 0, none⟩) hX).trans x0
  replace x2 := (hb2.cell (p := ⟨w.heap.size, 2, none⟩) hX).trans x2
  replace t0 := (hb2.cell (p := ⟨w.heap.size + 1, 0, none⟩) hT).trans t0
  replace t1 := (hb2.cell (p := ⟨w.heap.size + 1, 1, none⟩) hT).trans t1
  have hX2 := block_lt_of_cell x0
  have hT2 := block_lt_of_cell t0
  simp only at hX2 hT2
  obtain ⟨gb, off, rfl, hgb, -, -, e2, -⟩ := (HR.out.below HB2.out).at hlt
  generalize us[n] = uu at e2 hp
  generalize uu.owner = ow at e2 hp
  clear hb2
  go_wp2
  go_ret
  exact ⟨rfl, HB2.out⟩
set_option maxRecDepth 100000 in
set_option maxHeartbeats 1000000 in
theorem rv6 (a : Option Addr) (c : Nat) (us : List Un) (nx : Int) (u p q pl : Int) (w : World) (hl : us.length ≤ 64) (hrise : Rising us) (h : RT w a c us) (hc : checkN ⟨2, u, p, q⟩ = 0) (n : Nat) (hn : FindIs us u n) (hlt : n < us.length) (he : us[n].id = u) (hp : (us[n].owner != pl) = false) (n2 : Nat) (hn2 : FindIs us p n2) (hq2 : foundQ us p n2 = false) :
    Calls Try.prog 35 #[.agg #[.int .i64 2, .int .i64 u, .int .i64 p, .int .i64 q], .agg #[.slice a us.length c, .int .i64 nx], .int .i64 pl] w fun r w' => r = .returned (.int .i64 9) ∧ Below w.heap.size w w' := by
  have HC := Lib.hid (fun W => refOrdCheck_any ⟨2, u, p, q⟩ W)
  unfold ordV at HC
  simp only at HC
  have HR := Lib.hid h.row
  rw [hc] at HC
  have HF := Lib.hid (fun W hr => refFind_any a c us nx u n W (by omega) hrise hr hn)
  rw [show findR us u n = (n : Int) by unfold findR; rw [foundQ_lt hlt]; simp [he]] at HF
  have dn : decide ((n : Int) < 0) = false := by simp
  clear hc hn he
  have HF2 := Lib.hid (fun W hr => refFind_any a c us nx p n2 W (by omega) hrise hr hn2)
  rw [show findR us p n2 = -1 by unfold findR; rw [hq2]; rfl] at HF2
  clear hn2 hq2
  clear h
  go_enter Try.func35, Try.ntmps35
  go_wp2_with fail
  refine (HC.out _).mono ?_
  rintro r w1 ⟨rfl, hb1⟩
  have hB0 : Below w.heap.size w ((w.alloc (.cells #[.int .i64 2, .int .i64 u, .int .i64 p, .int .i64 q] 63)).alloc (.cells #[.slice a us.length c, .int .i64 nx] 28)) := bel_alloc (bel_alloc (Below.refl _ w) _) _
  have x0 : w1.cell? ⟨w.heap.size, 0, none⟩ = some (.int .i64 2) := (hb1.cell (p := ⟨w.heap.size, 0, none⟩) (by simp; omega)).trans (by repeat' (first | exact new_cell (by first | rfl | (simp; done)) rfl | with_reducible refine alloc_cell ?_ _))
  have x1 : w1.cell? ⟨w.heap.size, 1, none⟩ = some (.int .i64 u) := (hb1.cell (p := ⟨w.heap.size, 1, none⟩) (by simp; omega)).trans (by repeat' (first | exact new_cell (by first | rfl | (simp; done)) rfl | with_reducible refine alloc_cell ?_ _))
  have x2 : w1.cell? ⟨w.heap.size, 2, none⟩ = some (.int .i64 p) := (hb1.cell (p := ⟨w.heap.size, 2, none⟩) (by simp; omega)).trans (by repeat' (first | exact new_cell (by first | rfl | (simp; done)) rfl | with_reducible refine alloc_cell ?_ _))
  have x3 : w1.cell? ⟨w.heap.size, 3, none⟩ = some (.int .i64 q) := (hb1.cell (p := ⟨w.heap.size, 3, none⟩) (by simp; omega)).trans (by repeat' (first | exact new_cell (by first | rfl | (simp; done)) rfl | with_reducible refine alloc_cell ?_ _))
  have t0 : w1.cell? ⟨w.heap.size + 1, 0, none⟩ = some (.slice a us.length c) := (hb1.cell (p := ⟨w.heap.size + 1, 0, none⟩) (by simp)).trans (by repeat' (first | exact new_cell (by first | rfl | (simp; done)) rfl | with_reducible refine alloc_cell ?_ _))
  have t1 : w1.cell? ⟨w.heap.size + 1, 1, none⟩ = some (.int .i64 nx) := (hb1.cell (p := ⟨w.heap.size + 1, 1, none⟩) (by simp)).trans (by repeat' (first | exact new_cell (by first | rfl | (simp; done)) rfl | with_reducible refine alloc_cell ?_ _))
  have hX := block_lt_of_cell x0
  have hT := block_lt_of_cell t0
  simp only at hX hT
  have HB1 := Lib.hid (show Below w.heap.size w w1 from hB0.trans (hb1.mono hB0.size))
  clear hb1 hB0
  go_wp2_with fail
  refine (HF.out w1 (HR.out.below HB1.out)).mono ?_
  rintro r w2 ⟨rfl, hb2⟩
  have HB2 := Lib.hid (HB1.out.trans (hb2.mono HB1.out.size))
  replace x0 := (hb2.cell (p := ⟨w.heap.size, 0, none⟩) hX).trans x0
  replace x2 := (hb2.cell (p := ⟨w.heap.size, 2, none⟩) hX).trans x2
  replace t0 := (hb2.cell (p := ⟨w.heap.size + 1, 0, none⟩) hT).trans t0
  replace t1 := (hb2.cell (p := ⟨w.heap.size + 1, 1, none⟩) hT).trans t1
  have hX2 := block_lt_of_cell x0
  have hT2 := block_lt_of_cell t0
  simp only at hX2 hT2
  obtain ⟨gb, off, rfl, hgb, -, -, e2, -⟩ := (HR.out.below HB2.out).at hlt
  generalize us[n] = uu at e2 hp
  generalize uu.owner = ow at e2 hp
  clear hb2
  go_wp2_with fail
  refine (HF2.out w2 (HR.out.below HB2.out)).mono ?_
  rintro r w3 ⟨rfl, hb3⟩
  have HB3 := Lib.hid (HB2.out.trans (hb3.mono HB2.out.size))
  replace t0 := (hb3.cell (p := ⟨w.heap.size + 1, 0, none⟩) hT2).trans t0
  have hT3 := block_lt_of_cell t0
  simp only at hT3
  clear hb3
  go_wp2
  go_ret
  exact ⟨rfl, HB3.out⟩
set_option maxRecDepth 100000 in
set_option maxHeartbeats 1000000 in
theorem rv7 (a : Option Addr) (c : Nat) (us : List Un) (nx : Int) (u p q pl : Int) (w : World) (hl : us.length ≤ 64) (hrise : Rising us) (h : RT w a c us) (hc : checkN ⟨2, u, p, q⟩ = 0) (n : Nat) (hn : FindIs us u n) (hlt : n < us.length) (he : us[n].id = u) (hp : (us[n].owner != pl) = false) (n2 : Nat) (hn2 : FindIs us p n2) (hlt2 : n2 < us.length) (he2 : us[n2].id = p) (hp2 : (us[n2].owner == pl) = true) :
    Calls Try.prog 35 #[.agg #[.int .i64 2, .int .i64 u, .int .i64 p, .int .i64 q], .agg #[.slice a us.length c, .int .i64 nx], .int .i64 pl] w fun r w' => r = .returned (.int .i64 13) ∧ Below w.heap.size w w' := by
  have HC := Lib.hid (fun W => refOrdCheck_any ⟨2, u, p, q⟩ W)
  unfold ordV at HC
  simp only at HC
  have HR := Lib.hid h.row
  rw [hc] at HC
  have HF := Lib.hid (fun W hr => refFind_any a c us nx u n W (by omega) hrise hr hn)
  rw [show findR us u n = (n : Int) by unfold findR; rw [foundQ_lt hlt]; simp [he]] at HF
  have dn : decide ((n : Int) < 0) = false := by simp
  clear hc hn he
  have HF2 := Lib.hid (fun W hr => refFind_any a c us nx p n2 W (by omega) hrise hr hn2)
  rw [show findR us p n2 = (n2 : Int) by unfold findR; rw [foundQ_lt hlt2]; simp [he2]] at HF2
  have dn2 : decide ((n2 : Int) < 0) = false := by simp
  clear hn2 he2
  clear h
  go_enter Try.func35, Try.ntmps35
  go_wp2_with fail
  refine (HC.out _).mono ?_
  rintro r w1 ⟨rfl, hb1⟩
  have hB0 : Below w.heap.size w ((w.alloc (.cells #[.int .i64 2, .int .i64 u, .int .i64 p, .int .i64 q] 63)).alloc (.cells #[.slice a us.length c, .int .i64 nx] 28)) := bel_alloc (bel_alloc (Below.refl _ w) _) _
  have x0 : w1.cell? ⟨w.heap.size, 0, none⟩ = some (.int .i64 2) := (hb1.cell (p := ⟨w.heap.size, 0, none⟩) (by simp; omega)).trans (by repeat' (first | exact new_cell (by first | rfl | (simp; done)) rfl | with_reducible refine alloc_cell ?_ _))
  have x1 : w1.cell? ⟨w.heap.size, 1, none⟩ = some (.int .i64 u) := (hb1.cell (p := ⟨w.heap.size, 1, none⟩) (by simp; omega)).trans (by repeat' (first | exact new_cell (by first | rfl | (simp; done)) rfl | with_reducible refine alloc_cell ?_ _))
  have x2 : w1.cell? ⟨w.heap.size, 2, none⟩ = some (.int .i64 p) := (hb1.cell (p := ⟨w.heap.size, 2, none⟩) (by simp; omega)).trans (by repeat' (first | exact new_cell (by first | rfl | (simp; done)) rfl | with_reducible refine alloc_cell ?_ _))
  have x3 : w1.cell? ⟨w.heap.size, 3, none⟩ = some (.int .i64 q) := (hb1.cell (p := ⟨w.heap.size, 3, none⟩) (by simp; omega)).trans (by repeat' (first | exact new_cell (by first | rfl | (simp; done)) rfl | with_reducible refine alloc_cell ?_ _))
  have t0 : w1.cell? ⟨w.heap.size + 1, 0, none⟩ = some (.slice a us.length c) := (hb1.cell (p := ⟨w.heap.size + 1, 0, none⟩) (by simp)).trans (by repeat' (first | exact new_cell (by first | rfl | (simp; done)) rfl | with_reducible refine alloc_cell ?_ _))
  have t1 : w1.cell? ⟨w.heap.size + 1, 1, none⟩ = some (.int .i64 nx) := (hb1.cell (p := ⟨w.heap.size + 1, 1, none⟩) (by simp)).trans (by repeat' (first | exact new_cell (by first | rfl | (simp; done)) rfl | with_reducible refine alloc_cell ?_ _))
  have hX := block_lt_of_cell x0
  have hT := block_lt_of_cell t0
  simp only at hX hT
  have HB1 := Lib.hid (show Below w.heap.size w w1 from hB0.trans (hb1.mono hB0.size))
  clear hb1 hB0
  go_wp2_with fail
  refine (HF.out w1 (HR.out.below HB1.out)).mono ?_
  rintro r w2 ⟨rfl, hb2⟩
  have HB2 := Lib.hid (HB1.out.trans (hb2.mono HB1.out.size))
  replace x0 := (hb2.cell (p := ⟨w.heap.size, 0, none⟩) hX).trans x0
  replace x2 := (hb2.cell (p := ⟨w.heap.size, 2, none⟩) hX).trans x2
  replace t0 := (hb2.cell (p := ⟨w.heap.size + 1, 0, none⟩) hT).trans t0
  replace t1 := (hb2.cell (p := ⟨w.heap.size + 1, 1, none⟩) hT).trans t1
  have hX2 := block_lt_of_cell x0
  have hT2 := block_lt_of_cell t0
  simp only at hX2 hT2
  obtain ⟨gb, off, rfl, hgb, -, -, e2, -⟩ := (HR.out.below HB2.out).at hlt
  generalize us[n] = uu at e2 hp
  generalize uu.owner = ow at e2 hp
  clear hb2
  go_wp2_with fail
  refine (HF2.out w2 (HR.out.below HB2.out)).mono ?_
  rintro r w3 ⟨rfl, hb3⟩
  have HB3 := Lib.hid (HB2.out.trans (hb3.mono HB2.out.size))
  replace t0 := (hb3.cell (p := ⟨w.heap.size + 1, 0, none⟩) hT2).trans t0
  have hT3 := block_lt_of_cell t0
  simp only at hT3
  obtain ⟨gb2, off2, e', hgb2, -, -, f2, -⟩ := (HR.out.below HB3.out).at hlt2
  cases e'
  generalize us[n2] = uv at f2 hp2
  generalize uv.owner = ow2 at f2 hp2
  clear hb3
  go_wp2
  go_ret
  exact ⟨rfl, HB3.out⟩
set_option maxRecDepth 100000 in
set_option maxHeartbeats 1000000 in
theorem rv8 (a : Option Addr) (c : Nat) (us : List Un) (nx : Int) (u p q pl : Int) (w : World) (hl : us.length ≤ 64) (hrise : Rising us) (h : RT w a c us) (hc : checkN ⟨2, u, p, q⟩ = 0) (n : Nat) (hn : FindIs us u n) (hlt : n < us.length) (he : us[n].id = u) (hp : (us[n].owner != pl) = false) (n2 : Nat) (hn2 : FindIs us p n2) (hlt2 : n2 < us.length) (he2 : us[n2].id = p) (hp2 : (us[n2].owner == pl) = false) :
    Calls Try.prog 35 #[.agg #[.int .i64 2, .int .i64 u, .int .i64 p, .int .i64 q], .agg #[.slice a us.length c, .int .i64 nx], .int .i64 pl] w fun r w' => r = .returned (.int .i64 0) ∧ Below w.heap.size w w' := by
  have HC := Lib.hid (fun W => refOrdCheck_any ⟨2, u, p, q⟩ W)
  unfold ordV at HC
  simp only at HC
  have HR := Lib.hid h.row
  rw [hc] at HC
  have HF := Lib.hid (fun W hr => refFind_any a c us nx u n W (by omega) hrise hr hn)
  rw [show findR us u n = (n : Int) by unfold findR; rw [foundQ_lt hlt]; simp [he]] at HF
  have dn : decide ((n : Int) < 0) = false := by simp
  clear hc hn he
  have HF2 := Lib.hid (fun W hr => refFind_any a c us nx p n2 W (by omega) hrise hr hn2)
  rw [show findR us p n2 = (n2 : Int) by unfold findR; rw [foundQ_lt hlt2]; simp [he2]] at HF2
  have dn2 : decide ((n2 : Int) < 0) = false := by simp
  clear hn2 he2
  clear h
  go_enter Try.func35, Try.ntmps35
  go_wp2_with fail
  refine (HC.out _).mono ?_
  rintro r w1 ⟨rfl, hb1⟩
  have hB0 : Below w.heap.size w ((w.alloc (.cells #[.int .i64 2, .int .i64 u, .int .i64 p, .int .i64 q] 63)).alloc (.cells #[.slice a us.length c, .int .i64 nx] 28)) := bel_alloc (bel_alloc (Below.refl _ w) _) _
  have x0 : w1.cell? ⟨w.heap.size, 0, none⟩ = some (.int .i64 2) := (hb1.cell (p := ⟨w.heap.size, 0, none⟩) (by simp; omega)).trans (by repeat' (first | exact new_cell (by first | rfl | (simp; done)) rfl | with_reducible refine alloc_cell ?_ _))
  have x1 : w1.cell? ⟨w.heap.size, 1, none⟩ = some (.int .i64 u) := (hb1.cell (p := ⟨w.heap.size, 1, none⟩) (by simp; omega)).trans (by repeat' (first | exact new_cell (by first | rfl | (simp; done)) rfl | with_reducible refine alloc_cell ?_ _))
  have x2 : w1.cell? ⟨w.heap.size, 2, none⟩ = some (.int .i64 p) := (hb1.cell (p := ⟨w.heap.size, 2, none⟩) (by simp; omega)).trans (by repeat' (first | exact new_cell (by first | rfl | (simp; done)) rfl | with_reducible refine alloc_cell ?_ _))
  have x3 : w1.cell? ⟨w.heap.size, 3, none⟩ = some (.int .i64 q) := (hb1.cell (p := ⟨w.heap.size, 3, none⟩) (by simp; omega)).trans (by repeat' (first | exact new_cell (by first | rfl | (simp; done)) rfl | with_reducible refine alloc_cell ?_ _))
  have t0 : w1.cell? ⟨w.heap.size + 1, 0, none⟩ = some (.slice a us.length c) := (hb1.cell (p := ⟨w.heap.size + 1, 0, none⟩) (by simp)).trans (by repeat' (first | exact new_cell (by first | rfl | (simp; done)) rfl | with_reducible refine alloc_cell ?_ _))
  have t1 : w1.cell? ⟨w.heap.size + 1, 1, none⟩ = some (.int .i64 nx) := (hb1.cell (p := ⟨w.heap.size + 1, 1, none⟩) (by simp)).trans (by repeat' (first | exact new_cell (by first | rfl | (simp; done)) rfl | with_reducible refine alloc_cell ?_ _))
  have hX := block_lt_of_cell x0
  have hT := block_lt_of_cell t0
  simp only at hX hT
  have HB1 := Lib.hid (show Below w.heap.size w w1 from hB0.trans (hb1.mono hB0.size))
  clear hb1 hB0
  go_wp2_with fail
  refine (HF.out w1 (HR.out.below HB1.out)).mono ?_
  rintro r w2 ⟨rfl, hb2⟩
  have HB2 := Lib.hid (HB1.out.trans (hb2.mono HB1.out.size))
  replace x0 := (hb2.cell (p := ⟨w.heap.size, 0, none⟩) hX).trans x0
  replace x2 := (hb2.cell (p := ⟨w.heap.size, 2, none⟩) hX).trans x2
  replace t0 := (hb2.cell (p := ⟨w.heap.size + 1, 0, none⟩) hT).trans t0
  replace t1 := (hb2.cell (p := ⟨w.heap.size + 1, 1, none⟩) hT).trans t1
  have hX2 := block_lt_of_cell x0
  have hT2 := block_lt_of_cell t0
  simp only at hX2 hT2
  obtain ⟨gb, off, rfl, hgb, -, -, e2, -⟩ := (HR.out.below HB2.out).at hlt
  generalize us[n] = uu at e2 hp
  generalize uu.owner = ow at e2 hp
  clear hb2
  go_wp2_with fail
  refine (HF2.out w2 (HR.out.below HB2.out)).mono ?_
  rintro r w3 ⟨rfl, hb3⟩
  have HB3 := Lib.hid (HB2.out.trans (hb3.mono HB2.out.size))
  replace t0 := (hb3.cell (p := ⟨w.heap.size + 1, 0, none⟩) hT2).trans t0
  have hT3 := block_lt_of_cell t0
  simp only at hT3
  obtain ⟨gb2, off2, e', hgb2, -, -, f2, -⟩ := (HR.out.below HB3.out).at hlt2
  cases e'
  generalize us[n2] = uv at f2 hp2
  generalize uv.owner = ow2 at f2 hp2
  clear hb3
  go_wp2
  go_ret
  exact ⟨rfl, HB3.out⟩
end Go.Proofs.Ytapiaogmmoofkaa
