/-
  PROVED: for every order, every list of calls and every player, the law OrderChecks answers true, and all read afterwards as before. No condition of our own.
-/
import Derived.Test.YthggfjjiohdbmaaDoes1
import Derived.Test.YthggfjjiohdbmaaOrdTidy
import Derived.Test.YthggfjjiohdbmaaAwake9
import Derived.Test.YthggfjjiohdbmaaRecArgs
import Derived.WalkKit
import Derived.ProofKit
import Derived.OpenShut
import Derived.ShutString
import Derived.ChangeOld
import Derived.Below
import Derived.SliceStrings
namespace Go.Proofs.Ythggfjjiohdbmaa
open Go.RowKit
set_option linter.unusedVariables false

theorem rem_run (q n : Nat) (hn : n ≤ 64) (h0 : ¬ n = 0) (hq : q ≤ 255) (W : World) : (binOp .rem 3 (.int .i64 q) (.int .i64 n)).run Try.prog W = .ok (.int .i64 ((q % n : Nat) : Int)) W := by
  have m3 : (q : Int).tmod (n : Int) = ((q % n : Nat) : Int) := by rw [Int.tmod_eq_emod_of_nonneg (by omega)]; exact (Int.natCast_emod _ _).symm
  have hlt : q % n < n := Nat.mod_lt _ (by omega)
  have m5 : IntKind.i64.wrap ((q % n : Nat) : Int) = ((q % n : Nat) : Int) := by rw [IntKind.wrap_i64]; omega
  have m4 : ((n : Int) == 0) = false := by simp; omega
  have m6 : ¬ (n : Int) = 0 := by omega
  go_simp
def DoesPost (K0 : Nat → Prop) (b : Nat) (a : Option Addr) (w : World) (r : Ending) (w' : World) : Prop := ∃ us' g' a' c', r = .returned (.tuple #[.agg #[.slice a' us'.length c', .int .i64 (g' + 1)], .bool true]) ∧ DoMem K0 b us' g' a' c' w' ∧ Touch (fun k => ¬ K0 k) w w' ∧ (a' = a ∨ ∀ x, a' = some x → w.heap.size ≤ x.block)
/-- The boxes of Does: the document's table, the call, the answer. -/
structure DBox (B : Nat) (a : Option Addr) (n c : Nat) (nx : Int) (v : List Int) (W : World) : Prop where
  t0 : W.cell? ⟨B, 0, none⟩ = some (.slice a n c)
  t1 : W.cell? ⟨B, 1, none⟩ = some (.int .i64 nx)
  s : ∀ j, j < 7 → W.cell? ⟨B + 1, j, none⟩ = some (.int .i64 (v.getD j 0))
  r0 : W.cell? ⟨B + 2, 0, none⟩ = some (.slice none 0 0)
  r1 : W.cell? ⟨B + 2, 1, none⟩ = some (.int .i64 0)
  z0 : W.frozen? ⟨B + 2, 0, none⟩ = false
  z1 : W.frozen? ⟨B + 2, 1, none⟩ = false
theorem DBox.touch {S : Nat → Prop} {B : Nat} {a : Option Addr} {n c : Nat} {nx : Int} {v : List Int} {W W' : World} (h : DBox B a n c nx v W) (ht : Touch S W W') (hS : ∀ k, B ≤ k → k < B + 3 → ¬ S k) : DBox B a n c nx v W' := by
  have n0 := hS B (by omega) (by omega)
  have n1 := hS (B + 1) (by omega) (by omega)
  have n2 := hS (B + 2) (by omega) (by omega)
  exact ⟨(ht.cell (p := ⟨B, 0, none⟩) (block_lt_of_cell h.t0) n0).trans h.t0, (ht.cell (p := ⟨B, 1, none⟩) (block_lt_of_cell h.t1) n0).trans h.t1, fun j hj => (ht.cell (p := ⟨B + 1, j, none⟩) (block_lt_of_cell (h.s j hj)) n1).trans (h.s j hj), (ht.cell (p := ⟨B + 2, 0, none⟩) (block_lt_of_cell h.r0) n2).trans h.r0, (ht.cell (p := ⟨B + 2, 1, none⟩) (block_lt_of_cell h.r1) n2).trans h.r1,
    (ht.frozen (p := ⟨B + 2, 0, none⟩) (block_lt_of_cell h.r0) n2).trans h.z0, (ht.frozen (p := ⟨B + 2, 1, none⟩) (block_lt_of_cell h.r1) n2).trans h.z1⟩
theorem DBox.below {B : Nat} {a : Option Addr} {n c : Nat} {nx : Int} {v : List Int} {W W' : World} (h : DBox B a n c nx v W) (hb : Below W.heap.size W W') : DBox B a n c nx v W' := h.touch (touch_of_below (S := fun _ => False) hb) (fun _ _ _ => id)
theorem dbox_new (w : World) (a : Option Addr) (n c : Nat) (nx ak an af aa ab ax ay : Int) : DBox w.heap.size a n c nx [ak, an, af, aa, ab, ax, ay] (((w.alloc (.cells #[.slice a n c, .int .i64 nx] 30)).alloc (.cells #[.int .i64 ak, .int .i64 an, .int .i64 af, .int .i64 aa, .int .i64 ab, .int .i64 ax, .int .i64 ay] 34)).alloc (.cells #[.slice none 0 0, .int .i64 0] 30)) := by
  refine ⟨by repeat' (first | exact new_cell (by first | rfl | (simp; done)) rfl | with_reducible refine alloc_cell ?_ _), by repeat' (first | exact new_cell (by first | rfl | (simp; done)) rfl | with_reducible refine alloc_cell ?_ _), fun j hj => ?_, by repeat' (first | exact new_cell (by first | rfl | (simp; done)) rfl | with_reducible refine alloc_cell ?_ _), by repeat' (first | exact new_cell (by first | rfl | (simp; done)) rfl | with_reducible refine alloc_cell ?_ _), ?_, ?_⟩
  · refine alloc_cell (new_cell (by simp) ?_) _
    have : j = 0 ∨ j = 1 ∨ j = 2 ∨ j = 3 ∨ j = 4 ∨ j = 5 ∨ j = 6 := by omega
    rcases this with rfl | rfl | rfl | rfl | rfl | rfl | rfl <;> rfl
  · rw [show w.heap.size + 2 = ((w.alloc (.cells #[.slice a n c, .int .i64 nx] 30)).alloc (.cells #[.int .i64 ak, .int .i64 an, .int .i64 af, .int .i64 aa, .int .i64 ab, .int .i64 ax, .int .i64 ay] 34)).heap.size by simp]; exact frozen_new _ _ _ _
  · rw [show w.heap.size + 2 = ((w.alloc (.cells #[.slice a n c, .int .i64 nx] 30)).alloc (.cells #[.int .i64 ak, .int .i64 an, .int .i64 af, .int .i64 aa, .int .i64 ab, .int .i64 ax, .int .i64 ay] 34)).heap.size by simp]; exact frozen_new _ _ _ _
set_option maxRecDepth 100000 in
set_option maxHeartbeats 4000000 in
theorem does_1 (K0 : Nat → Prop) (b : Nat) (us : List Un) (g : Int) (a : Option Addr) (c : Nat) (w : World) (an af aa ab ax ay : Int) (h : DoMem K0 b us g a c w) :
    Calls Try.prog 6 #[.pointer (some ⟨b, 0, none⟩), .agg #[.slice a us.length c, .int .i64 (g + 1)], .agg #[.int .i64 1, .int .i64 an, .int .i64 af, .int .i64 aa, .int .i64 ab, .int .i64 ax, .int .i64 ay]] w (DoesPost K0 b a w) := by
  have hA3 : Below w.heap.size w (((w.alloc (.cells #[.slice a us.length c, .int .i64 (g + 1)] 30)).alloc (.cells #[.int .i64 1, .int .i64 an, .int .i64 af, .int .i64 aa, .int .i64 ab, .int .i64 ax, .int .i64 ay] 34)).alloc (.cells #[.slice none 0 0, .int .i64 0] 30)) := bel_alloc (bel_alloc (bel_alloc (Below.refl _ _) _) _) _
  have HQ3 := Lib.hid (show TabQ (KB K0 a w.heap.size) b us g (((w.alloc (.cells #[.slice a us.length c, .int .i64 (g + 1)] 30)).alloc (.cells #[.int .i64 1, .int .i64 an, .int .i64 af, .int .i64 aa, .int .i64 ab, .int .i64 ax, .int .i64 ay] 34)).alloc (.cells #[.slice none 0 0, .int .i64 0] 30)) from h.tab.grow (N := fun k => w.heap.size ≤ k ∧ k < w.heap.size + 3) hA3 (fun k hk => ⟨hk.1, by simp; omega⟩))
  have HD3 := Lib.hid (dbox_new w a us.length c (g + 1) 1 an af aa ab ax ay)
  have HB3 := Lib.hid (show Touch (fun k => ¬ K0 k) w (((w.alloc (.cells #[.slice a us.length c, .int .i64 (g + 1)] 30)).alloc (.cells #[.int .i64 1, .int .i64 an, .int .i64 af, .int .i64 aa, .int .i64 ab, .int .i64 ax, .int .i64 ay] 34)).alloc (.cells #[.slice none 0 0, .int .i64 0] 30)) from touch_of_below hA3)
  have HR3 := Lib.hid (h.rt.below hA3)
  have HAB := Lib.hid (show ∀ x, a = some x → x.block < w.heap.size from fun x hx => h.tab.2.1 _ (.inr (by rw [hx]; rfl)))
  have HW0 := Lib.hid (show ∀ k, K0 k → k < w.heap.size from fun k hk => h.tab.2.1 k (.inl hk))
  have h64 := h.tab.ok.1
  have hc1 := h.rt.len
  have hc2 := h.rt.cap
  unfold maxLen at hc2
  have HOK := Lib.hid h.tab.ok
  have HBO := Lib.hid (fun (idv : Int) => spawn_both (K := KB K0 a w.heap.size) b us g aa ab ax ay HOK.out)
  generalize hpost : DoesPost K0 b a w = Post
  have HPOST := Lib.hid hpost
  clear hA3 h hpost
  generalize hn : us.length = n at HQ3 HD3 HB3 HR3 h64 hc1 ⊢
  have HN := Lib.hid hn
  clear hn
  by_cases h0 : n = 0
  · subst h0
    obtain ⟨us', g', z, hk1, hk2⟩ := HBO.out 0
    have hn := HN.out
    simp only [hn] at hk2
    clear hn
    have HK1 := Lib.hid hk1
    have HK2 := Lib.hid hk2
    have hself : (z == z) = true := by simp
    clear hk1 hk2 HBO
    go_enter Try.func6, Try.ntmps6
    go_wp2_with fail
    refine (HK1.out _ HQ3.out).mono ?_
    rintro r w2 ⟨rfl, hq2, ht2⟩
    have HQ2 := Lib.hid hq2
    have HD2 := Lib.hid (HD3.out.touch ht2 (fun k h1 h2 hn => hn (.inr ⟨h1, h2⟩)))
    have HB2 := Lib.hid (HB3.out.trans (ht2.mono fun k _ h1 h2 => h1 (.inl (.inl h2))))
    have HR2 := Lib.hid (show RT w2 a c us from ⟨HR3.out.row.touch ht2 (fun x hx hn => hn (.inl (.inr (by rw [hx]; rfl)))), HR3.out.nil, HR3.out.len, HR3.out.cap⟩)
    clear hq2 ht2 HK1
    have t0 := HD2.out.t0
    have t1 := HD2.out.t1
    have s2 := HD2.out.s 2 (by decide)
    have s3 := HD2.out.s 3 (by decide)
    have s4 := HD2.out.s 4 (by decide)
    have s5 := HD2.out.s 5 (by decide)
    have s6 := HD2.out.s 6 (by decide)
    simp only [List.getD_cons_succ, List.getD_cons_zero] at s2 s3 s4 s5 s6
    have b0 := block_lt_of_cell t0
    have b1 := block_lt_of_cell s2
    simp only at b0 b1
    go_wp2_with fail
    refine (HK2.out w2 a c HR2.out).mono ?_
    rintro r w3 ⟨a5, c5, rfl, p2, p3, p4, p5, p6, p7⟩
    have HD4 := Lib.hid (HD2.out.below p7)
    have HFIN := Lib.hid (fun x0 x1 o => does_fin HQ2.out p2 p3 p4 p5 p6 p7 HB2.out HW0.out HAB.out x0 x1 o)
    have r0 := HD4.out.r0
    have r1 := HD4.out.r1
    have z0 := HD4.out.z0
    have z1 := HD4.out.z1
    have b2 := block_lt_of_cell r0
    simp only at b2
    have HFR0 := Lib.hid (fun x y o => alloc_cell (set2_same0 (x := x) (y := y) r0) o)
    have HFR1 := Lib.hid (fun x y o => alloc_cell (set2_same1 (x := x) (y := y) r1) o)
    clear p2 p3 p4 p5 p6 p7 HK2 HD2 HQ2 HR2 t0 t1 s2 s3 s4 s5 s6
    go_wp2
    have fr0 := HFR0.out (.slice a5 us'.length c5) (.int .i64 (g' + 1)) (.cells #[.slice a5 us'.length c5, .int .i64 (g' + 1)] 30)
    have fr1 := HFR1.out (.slice a5 us'.length c5) (.int .i64 (g' + 1)) (.cells #[.slice a5 us'.length c5, .int .i64 (g' + 1)] 30)
    have hfin := HFIN.out (.slice a5 us'.length c5) (.int .i64 (g' + 1)) (.cells #[.slice a5 us'.length c5, .int .i64 (g' + 1)] 30)
    rw [← HPOST.out]
    exact bodyPost_ret (v := .tuple #[.agg #[.slice a5 us'.length c5, .int .i64 (g' + 1)], .bool true]) (by simp [results, Try.results6, go_sem, fr0, fr1]) rfl ⟨us', g', a5, c5, rfl, hfin.1, hfin.2.1, hfin.2.2.imp id (fun h x hx => Nat.le_trans HB2.out.size (h x hx))⟩
  · have d0 : decide ((0 : Int) < (n : Int)) = true := by simp; omega
    obtain ⟨q5, hq5, eq5⟩ := andM an 255 255 rfl (by decide)
    have hmod : q5 % n < n := Nat.mod_lt _ (by omega)
    obtain ⟨gb, off, rfl, hgb, e0, -⟩ := HR3.out.row.at (i := q5 % n) (by rw [HN.out]; exact hmod)
    generalize us[q5 % n]'(by rw [HN.out]; exact hmod) = uu at e0
    generalize uu.id = idv at e0
    obtain ⟨us', g', z, hk1, hk2⟩ := HBO.out 0
    have hn := HN.out
    simp only [hn] at hk2
    clear hn
    have HK1 := Lib.hid hk1
    have HK2 := Lib.hid hk2
    have hself : (z == z) = true := by simp
    clear hk1 hk2 HBO
    go_enter Try.func6, Try.ntmps6
    have m1 : (0 : Int) ≤ ((q5 % n : Nat) : Int) := by omega
    have m2 : ((q5 % n : Nat) : Int) < (n : Int) := by omega
    have hrem := rem_run q5 n h64 h0 hq5
    have hmE : (q5 : Int) % (n : Int) = ((q5 % n : Nat) : Int) := (Int.natCast_emod _ _).symm
    have hmT : (q5 : Int).tmod (n : Int) = ((q5 % n : Nat) : Int) := by rw [Int.tmod_eq_emod_of_nonneg (by omega)]; exact hmE
    generalize q5 % n = m5 at hrem e0 m1 m2 hmod hmE hmT
    go_upto_region 3 with (fail)
    have t0 := HD3.out.t0
    have s1 := HD3.out.s 1 (by decide)
    simp only [List.getD_cons_succ, List.getD_cons_zero] at s1
    generalize ((w.alloc (.cells #[.slice (some ⟨gb, off, none⟩) n c, .int .i64 (g + 1)] 30)).alloc (.cells #[.int .i64 1, .int .i64 an, .int .i64 af, .int .i64 aa, .int .i64 ab, .int .i64 ax, .int .i64 ay] 34)).alloc (.cells #[.slice none 0 0, .int .i64 0] 30) = Wq at HQ3 HD3 HB3 HR3 e0 t0 s1 hgb ⊢
    go_quiet (fail)
    clear hrem m1 m2 e0 t0 s1 eq5 hmE hmT
    have HQ3 : Hid (TabQ (KB K0 (some ⟨gb, off, none⟩) w.heap.size) b us g (Wq.drewN nq)) := Lib.hid (HQ3.out.below ⟨rfl, rfl, rfl, Nat.le_refl _, fun _ _ => rfl⟩)
    have HD3 : Hid (DBox w.heap.size (some ⟨gb, off, none⟩) n c (g + 1) [1, an, af, aa, ab, ax, ay] (Wq.drewN nq)) := Lib.hid (HD3.out.below ⟨rfl, rfl, rfl, Nat.le_refl _, fun _ _ => rfl⟩)
    have HB3 : Hid (Touch (fun k => ¬ K0 k) w (Wq.drewN nq)) := Lib.hid ⟨HB3.out.os, HB3.out.tape, HB3.out.output, HB3.out.size, HB3.out.block⟩
    have HR3 : Hid (RT (Wq.drewN nq) (some ⟨gb, off, none⟩) c us) := Lib.hid (HR3.out.below ⟨rfl, rfl, rfl, Nat.le_refl _, fun _ _ => rfl⟩)
    generalize Wq.drewN nq = Wp at HQ3 HD3 HB3 HR3 ⊢
    have s0 := HD3.out.s 0 (by decide)
    have s2 := HD3.out.s 2 (by decide)
    have s3 := HD3.out.s 3 (by decide)
    have s4 := HD3.out.s 4 (by decide)
    have s5 := HD3.out.s 5 (by decide)
    have s6 := HD3.out.s 6 (by decide)
    simp only [List.getD_cons_succ, List.getD_cons_zero] at s0 s2 s3 s4 s5 s6
    have t0 := HD3.out.t0
    have r0 := HD3.out.r0
    have hs1 := block_lt_of_cell s2
    have ht0 := block_lt_of_cell t0
    have hr0 := block_lt_of_cell r0
    simp only at hs1 ht0 hr0
    go_wp2_with fail
    clear s0 s2 s3 s4 s5 s6 t0 r0 hs1 ht0 hr0
    refine (HK1.out _ HQ3.out).mono ?_
    rintro r w2 ⟨rfl, hq2, ht2⟩
    have HQ2 := Lib.hid hq2
    have HD2 := Lib.hid (HD3.out.touch ht2 (fun k h1 h2 hn => hn (.inr ⟨h1, h2⟩)))
    have HB2 := Lib.hid (HB3.out.trans (ht2.mono fun k _ h1 h2 => h1 (.inl (.inl h2))))
    have HR2 := Lib.hid (show RT w2 (some ⟨gb, off, none⟩) c us from ⟨HR3.out.row.touch ht2 (fun x hx hn => hn (.inl (.inr (by cases hx; rfl)))), HR3.out.nil, HR3.out.len, HR3.out.cap⟩)
    clear hq2 ht2 HK1
    have t0 := HD2.out.t0
    have t1 := HD2.out.t1
    have s2 := HD2.out.s 2 (by decide)
    have s3 := HD2.out.s 3 (by decide)
    have s4 := HD2.out.s 4 (by decide)
    have s5 := HD2.out.s 5 (by decide)
    have s6 := HD2.out.s 6 (by decide)
    simp only [List.getD_cons_succ, List.getD_cons_zero] at s2 s3 s4 s5 s6
    have b0 := block_lt_of_cell t0
    have b1 := block_lt_of_cell s2
    simp only at b0 b1
    go_wp2_with fail
    refine (HK2.out w2 _ c HR2.out).mono ?_
    rintro r w3 ⟨a5, c5, rfl, p2, p3, p4, p5, p6, p7⟩
    have HD4 := Lib.hid (HD2.out.below p7)
    have HFIN := Lib.hid (fun x0 x1 o => does_fin HQ2.out p2 p3 p4 p5 p6 p7 HB2.out HW0.out HAB.out x0 x1 o)
    have r0 := HD4.out.r0
    have r1 := HD4.out.r1
    have z0 := HD4.out.z0
    have z1 := HD4.out.z1
    have b2 := block_lt_of_cell r0
    simp only at b2
    have HFR0 := Lib.hid (fun x y o => alloc_cell (set2_same0 (x := x) (y := y) r0) o)
    have HFR1 := Lib.hid (fun x y o => alloc_cell (set2_same1 (x := x) (y := y) r1) o)
    clear p2 p3 p4 p5 p6 p7 HK2 HD2 HQ2 HR2 t0 t1 s2 s3 s4 s5 s6
    go_wp2
    have fr0 := HFR0.out (.slice a5 us'.length c5) (.int .i64 (g' + 1)) (.cells #[.slice a5 us'.length c5, .int .i64 (g' + 1)] 30)
    have fr1 := HFR1.out (.slice a5 us'.length c5) (.int .i64 (g' + 1)) (.cells #[.slice a5 us'.length c5, .int .i64 (g' + 1)] 30)
    have hfin := HFIN.out (.slice a5 us'.length c5) (.int .i64 (g' + 1)) (.cells #[.slice a5 us'.length c5, .int .i64 (g' + 1)] 30)
    rw [← HPOST.out]
    exact bodyPost_ret (v := .tuple #[.agg #[.slice a5 us'.length c5, .int .i64 (g' + 1)], .bool true]) (by simp [results, Try.results6, go_sem, fr0, fr1]) rfl ⟨us', g', a5, c5, rfl, hfin.1, hfin.2.1, hfin.2.2.imp id (fun h x hx => Nat.le_trans HB2.out.size (h x hx))⟩
set_option maxRecDepth 100000 in
set_option maxHeartbeats 4000000 in
theorem does_2 (K0 : Nat → Prop) (b : Nat) (us : List Un) (g : Int) (a : Option Addr) (c : Nat) (w : World) (an af aa ab ax ay : Int) (h : DoMem K0 b us g a c w) :
    Calls Try.prog 6 #[.pointer (some ⟨b, 0, none⟩), .agg #[.slice a us.length c, .int .i64 (g + 1)], .agg #[.int .i64 2, .int .i64 an, .int .i64 af, .int .i64 aa, .int .i64 ab, .int .i64 ax, .int .i64 ay]] w (DoesPost K0 b a w) := by
  have hA3 : Below w.heap.size w (((w.alloc (.cells #[.slice a us.length c, .int .i64 (g + 1)] 30)).alloc (.cells #[.int .i64 2, .int .i64 an, .int .i64 af, .int .i64 aa, .int .i64 ab, .int .i64 ax, .int .i64 ay] 34)).alloc (.cells #[.slice none 0 0, .int .i64 0] 30)) := bel_alloc (bel_alloc (bel_alloc (Below.refl _ _) _) _) _
  have HQ3 := Lib.hid (show TabQ (KB K0 a w.heap.size) b us g (((w.alloc (.cells #[.slice a us.length c, .int .i64 (g + 1)] 30)).alloc (.cells #[.int .i64 2, .int .i64 an, .int .i64 af, .int .i64 aa, .int .i64 ab, .int .i64 ax, .int .i64 ay] 34)).alloc (.cells #[.slice none 0 0, .int .i64 0] 30)) from h.tab.grow (N := fun k => w.heap.size ≤ k ∧ k < w.heap.size + 3) hA3 (fun k hk => ⟨hk.1, by simp; omega⟩))
  have HD3 := Lib.hid (dbox_new w a us.length c (g + 1) 2 an af aa ab ax ay)
  have HB3 := Lib.hid (show Touch (fun k => ¬ K0 k) w (((w.alloc (.cells #[.slice a us.length c, .int .i64 (g + 1)] 30)).alloc (.cells #[.int .i64 2, .int .i64 an, .int .i64 af, .int .i64 aa, .int .i64 ab, .int .i64 ax, .int .i64 ay] 34)).alloc (.cells #[.slice none 0 0, .int .i64 0] 30)) from touch_of_below hA3)
  have HR3 := Lib.hid (h.rt.below hA3)
  have HAB := Lib.hid (show ∀ x, a = some x → x.block < w.heap.size from fun x hx => h.tab.2.1 _ (.inr (by rw [hx]; rfl)))
  have HW0 := Lib.hid (show ∀ k, K0 k → k < w.heap.size from fun k hk => h.tab.2.1 k (.inl hk))
  have h64 := h.tab.ok.1
  have hc1 := h.rt.len
  have hc2 := h.rt.cap
  unfold maxLen at hc2
  have HOK := Lib.hid h.tab.ok
  have HBO := Lib.hid (fun (idv : Int) => kill_both (K := KB K0 a w.heap.size) b us g idv HOK.out)
  generalize hpost : DoesPost K0 b a w = Post
  have HPOST := Lib.hid hpost
  clear hA3 h hpost
  generalize hn : us.length = n at HQ3 HD3 HB3 HR3 h64 hc1 ⊢
  have HN := Lib.hid hn
  clear hn
  by_cases h0 : n = 0
  · subst h0
    obtain ⟨us', q, hk1, hk2⟩ := HBO.out ay
    have hn := HN.out
    simp only [hn] at hk2
    clear hn
    have HK1 := Lib.hid hk1
    have HK2 := Lib.hid hk2
    have hself : (q == q) = true := by simp
    clear hk1 hk2 HBO
    go_enter Try.func6, Try.ntmps6
    go_wp2_with fail
    refine (HK1.out _ HQ3.out).mono ?_
    rintro r w2 ⟨rfl, hq2, ht2⟩
    have HQ2 := Lib.hid hq2
    have HD2 := Lib.hid (HD3.out.touch ht2 (fun k h1 h2 hn => hn (.inr ⟨h1, h2⟩)))
    have HB2 := Lib.hid (HB3.out.trans (ht2.mono fun k _ h1 h2 => h1 (.inl (.inl h2))))
    have HR2 := Lib.hid (show RT w2 a c us from ⟨HR3.out.row.touch ht2 (fun x hx hn => hn (.inl (.inr (by rw [hx]; rfl)))), HR3.out.nil, HR3.out.len, HR3.out.cap⟩)
    clear hq2 ht2 HK1
    have t0 := HD2.out.t0
    have t1 := HD2.out.t1
    have s2 := HD2.out.s 2 (by decide)
    have s3 := HD2.out.s 3 (by decide)
    have s4 := HD2.out.s 4 (by decide)
    have s5 := HD2.out.s 5 (by decide)
    have s6 := HD2.out.s 6 (by decide)
    simp only [List.getD_cons_succ, List.getD_cons_zero] at s2 s3 s4 s5 s6
    have b0 := block_lt_of_cell t0
    have b1 := block_lt_of_cell s2
    simp only at b0 b1
    go_wp2_with fail
    refine (HK2.out w2 a c HR2.out).mono ?_
    rintro r w3 ⟨a5, c5, rfl, p2, p3, p4, p5, p6, p7⟩
    have HD4 := Lib.hid (HD2.out.below p7)
    have HFIN := Lib.hid (fun x0 x1 o => does_fin HQ2.out p2 p3 p4 p5 p6 p7 HB2.out HW0.out HAB.out x0 x1 o)
    have r0 := HD4.out.r0
    have r1 := HD4.out.r1
    have z0 := HD4.out.z0
    have z1 := HD4.out.z1
    have b2 := block_lt_of_cell r0
    simp only at b2
    have HFR0 := Lib.hid (fun x y o => alloc_cell (set2_same0 (x := x) (y := y) r0) o)
    have HFR1 := Lib.hid (fun x y o => alloc_cell (set2_same1 (x := x) (y := y) r1) o)
    clear p2 p3 p4 p5 p6 p7 HK2 HD2 HQ2 HR2 t0 t1 s2 s3 s4 s5 s6
    go_wp2
    have fr0 := HFR0.out (.slice a5 us'.length c5) (.int .i64 (g + 1)) (.cells #[.slice a5 us'.length c5, .int .i64 (g + 1)] 30)
    have fr1 := HFR1.out (.slice a5 us'.length c5) (.int .i64 (g + 1)) (.cells #[.slice a5 us'.length c5, .int .i64 (g + 1)] 30)
    have hfin := HFIN.out (.slice a5 us'.length c5) (.int .i64 (g + 1)) (.cells #[.slice a5 us'.length c5, .int .i64 (g + 1)] 30)
    rw [← HPOST.out]
    exact bodyPost_ret (v := .tuple #[.agg #[.slice a5 us'.length c5, .int .i64 (g + 1)], .bool true]) (by simp [results, Try.results6, go_sem, fr0, fr1]) rfl ⟨us', g, a5, c5, rfl, hfin.1, hfin.2.1, hfin.2.2.imp id (fun h x hx => Nat.le_trans HB2.out.size (h x hx))⟩
  · have d0 : decide ((0 : Int) < (n : Int)) = true := by simp; omega
    obtain ⟨q5, hq5, eq5⟩ := andM an 255 255 rfl (by decide)
    have hmod : q5 % n < n := Nat.mod_lt _ (by omega)
    obtain ⟨gb, off, rfl, hgb, e0, -⟩ := HR3.out.row.at (i := q5 % n) (by rw [HN.out]; exact hmod)
    generalize us[q5 % n]'(by rw [HN.out]; exact hmod) = uu at e0
    generalize uu.id = idv at e0
    obtain ⟨us', q, hk1, hk2⟩ := HBO.out idv
    have hn := HN.out
    simp only [hn] at hk2
    clear hn
    have HK1 := Lib.hid hk1
    have HK2 := Lib.hid hk2
    have hself : (q == q) = true := by simp
    clear hk1 hk2 HBO
    go_enter Try.func6, Try.ntmps6
    have m1 : (0 : Int) ≤ ((q5 % n : Nat) : Int) := by omega
    have m2 : ((q5 % n : Nat) : Int) < (n : Int) := by omega
    have hrem := rem_run q5 n h64 h0 hq5
    have hmE : (q5 : Int) % (n : Int) = ((q5 % n : Nat) : Int) := (Int.natCast_emod _ _).symm
    have hmT : (q5 : Int).tmod (n : Int) = ((q5 % n : Nat) : Int) := by rw [Int.tmod_eq_emod_of_nonneg (by omega)]; exact hmE
    generalize q5 % n = m5 at hrem e0 m1 m2 hmod hmE hmT
    go_upto_region 3 with (fail)
    have t0 := HD3.out.t0
    have s1 := HD3.out.s 1 (by decide)
    simp only [List.getD_cons_succ, List.getD_cons_zero] at s1
    generalize ((w.alloc (.cells #[.slice (some ⟨gb, off, none⟩) n c, .int .i64 (g + 1)] 30)).alloc (.cells #[.int .i64 2, .int .i64 an, .int .i64 af, .int .i64 aa, .int .i64 ab, .int .i64 ax, .int .i64 ay] 34)).alloc (.cells #[.slice none 0 0, .int .i64 0] 30) = Wq at HQ3 HD3 HB3 HR3 e0 t0 s1 hgb ⊢
    go_quiet (fail)
    clear hrem m1 m2 e0 t0 s1 eq5 hmE hmT
    have HQ3 : Hid (TabQ (KB K0 (some ⟨gb, off, none⟩) w.heap.size) b us g (Wq.drewN nq)) := Lib.hid (HQ3.out.below ⟨rfl, rfl, rfl, Nat.le_refl _, fun _ _ => rfl⟩)
    have HD3 : Hid (DBox w.heap.size (some ⟨gb, off, none⟩) n c (g + 1) [2, an, af, aa, ab, ax, ay] (Wq.drewN nq)) := Lib.hid (HD3.out.below ⟨rfl, rfl, rfl, Nat.le_refl _, fun _ _ => rfl⟩)
    have HB3 : Hid (Touch (fun k => ¬ K0 k) w (Wq.drewN nq)) := Lib.hid ⟨HB3.out.os, HB3.out.tape, HB3.out.output, HB3.out.size, HB3.out.block⟩
    have HR3 : Hid (RT (Wq.drewN nq) (some ⟨gb, off, none⟩) c us) := Lib.hid (HR3.out.below ⟨rfl, rfl, rfl, Nat.le_refl _, fun _ _ => rfl⟩)
    generalize Wq.drewN nq = Wp at HQ3 HD3 HB3 HR3 ⊢
    have s0 := HD3.out.s 0 (by decide)
    have s2 := HD3.out.s 2 (by decide)
    have s3 := HD3.out.s 3 (by decide)
    have s4 := HD3.out.s 4 (by decide)
    have s5 := HD3.out.s 5 (by decide)
    have s6 := HD3.out.s 6 (by decide)
    simp only [List.getD_cons_succ, List.getD_cons_zero] at s0 s2 s3 s4 s5 s6
    have t0 := HD3.out.t0
    have r0 := HD3.out.r0
    have hs1 := block_lt_of_cell s2
    have ht0 := block_lt_of_cell t0
    have hr0 := block_lt_of_cell r0
    simp only at hs1 ht0 hr0
    go_wp2_with fail
    clear s0 s2 s3 s4 s5 s6 t0 r0 hs1 ht0 hr0
    refine (HK1.out _ HQ3.out).mono ?_
    rintro r w2 ⟨rfl, hq2, ht2⟩
    have HQ2 := Lib.hid hq2
    have HD2 := Lib.hid (HD3.out.touch ht2 (fun k h1 h2 hn => hn (.inr ⟨h1, h2⟩)))
    have HB2 := Lib.hid (HB3.out.trans (ht2.mono fun k _ h1 h2 => h1 (.inl (.inl h2))))
    have HR2 := Lib.hid (show RT w2 (some ⟨gb, off, none⟩) c us from ⟨HR3.out.row.touch ht2 (fun x hx hn => hn (.inl (.inr (by cases hx; rfl)))), HR3.out.nil, HR3.out.len, HR3.out.cap⟩)
    clear hq2 ht2 HK1
    have t0 := HD2.out.t0
    have t1 := HD2.out.t1
    have s2 := HD2.out.s 2 (by decide)
    have s3 := HD2.out.s 3 (by decide)
    have s4 := HD2.out.s 4 (by decide)
    have s5 := HD2.out.s 5 (by decide)
    have s6 := HD2.out.s 6 (by decide)
    simp only [List.getD_cons_succ, List.getD_cons_zero] at s2 s3 s4 s5 s6
    have b0 := block_lt_of_cell t0
    have b1 := block_lt_of_cell s2
    simp only at b0 b1
    go_wp2_with fail
    refine (HK2.out w2 _ c HR2.out).mono ?_
    rintro r w3 ⟨a5, c5, rfl, p2, p3, p4, p5, p6, p7⟩
    have HD4 := Lib.hid (HD2.out.below p7)
    have HFIN := Lib.hid (fun x0 x1 o => does_fin HQ2.out p2 p3 p4 p5 p6 p7 HB2.out HW0.out HAB.out x0 x1 o)
    have r0 := HD4.out.r0
    have r1 := HD4.out.r1
    have z0 := HD4.out.z0
    have z1 := HD4.out.z1
    have b2 := block_lt_of_cell r0
    simp only at b2
    have HFR0 := Lib.hid (fun x y o => alloc_cell (set2_same0 (x := x) (y := y) r0) o)
    have HFR1 := Lib.hid (fun x y o => alloc_cell (set2_same1 (x := x) (y := y) r1) o)
    clear p2 p3 p4 p5 p6 p7 HK2 HD2 HQ2 HR2 t0 t1 s2 s3 s4 s5 s6
    go_wp2
    have fr0 := HFR0.out (.slice a5 us'.length c5) (.int .i64 (g + 1)) (.cells #[.slice a5 us'.length c5, .int .i64 (g + 1)] 30)
    have fr1 := HFR1.out (.slice a5 us'.length c5) (.int .i64 (g + 1)) (.cells #[.slice a5 us'.length c5, .int .i64 (g + 1)] 30)
    have hfin := HFIN.out (.slice a5 us'.length c5) (.int .i64 (g + 1)) (.cells #[.slice a5 us'.length c5, .int .i64 (g + 1)] 30)
    rw [← HPOST.out]
    exact bodyPost_ret (v := .tuple #[.agg #[.slice a5 us'.length c5, .int .i64 (g + 1)], .bool true]) (by simp [results, Try.results6, go_sem, fr0, fr1]) rfl ⟨us', g, a5, c5, rfl, hfin.1, hfin.2.1, hfin.2.2.imp id (fun h x hx => Nat.le_trans HB2.out.size (h x hx))⟩
set_option maxRecDepth 100000 in
set_option maxHeartbeats 4000000 in
theorem does_3 (K0 : Nat → Prop) (b : Nat) (us : List Un) (g : Int) (a : Option Addr) (c : Nat) (w : World) (an af aa ab ax ay : Int) (h : DoMem K0 b us g a c w) :
    Calls Try.prog 6 #[.pointer (some ⟨b, 0, none⟩), .agg #[.slice a us.length c, .int .i64 (g + 1)], .agg #[.int .i64 3, .int .i64 an, .int .i64 af, .int .i64 aa, .int .i64 ab, .int .i64 ax, .int .i64 ay]] w (DoesPost K0 b a w) := by
  have hA3 : Below w.heap.size w (((w.alloc (.cells #[.slice a us.length c, .int .i64 (g + 1)] 30)).alloc (.cells #[.int .i64 3, .int .i64 an, .int .i64 af, .int .i64 aa, .int .i64 ab, .int .i64 ax, .int .i64 ay] 34)).alloc (.cells #[.slice none 0 0, .int .i64 0] 30)) := bel_alloc (bel_alloc (bel_alloc (Below.refl _ _) _) _) _
  have HQ3 := Lib.hid (show TabQ (KB K0 a w.heap.size) b us g (((w.alloc (.cells #[.slice a us.length c, .int .i64 (g + 1)] 30)).alloc (.cells #[.int .i64 3, .int .i64 an, .int .i64 af, .int .i64 aa, .int .i64 ab, .int .i64 ax, .int .i64 ay] 34)).alloc (.cells #[.slice none 0 0, .int .i64 0] 30)) from h.tab.grow (N := fun k => w.heap.size ≤ k ∧ k < w.heap.size + 3) hA3 (fun k hk => ⟨hk.1, by simp; omega⟩))
  have HD3 := Lib.hid (dbox_new w a us.length c (g + 1) 3 an af aa ab ax ay)
  have HB3 := Lib.hid (show Touch (fun k => ¬ K0 k) w (((w.alloc (.cells #[.slice a us.length c, .int .i64 (g + 1)] 30)).alloc (.cells #[.int .i64 3, .int .i64 an, .int .i64 af, .int .i64 aa, .int .i64 ab, .int .i64 ax, .int .i64 ay] 34)).alloc (.cells #[.slice none 0 0, .int .i64 0] 30)) from touch_of_below hA3)
  have HR3 := Lib.hid (h.rt.below hA3)
  have HAB := Lib.hid (show ∀ x, a = some x → x.block < w.heap.size from fun x hx => h.tab.2.1 _ (.inr (by rw [hx]; rfl)))
  have HW0 := Lib.hid (show ∀ k, K0 k → k < w.heap.size from fun k hk => h.tab.2.1 k (.inl hk))
  have h64 := h.tab.ok.1
  have hc1 := h.rt.len
  have hc2 := h.rt.cap
  unfold maxLen at hc2
  have HOK := Lib.hid h.tab.ok
  have HBO := Lib.hid (fun (idv : Int) => set_both (K := KB K0 a w.heap.size) b us g idv af ax HOK.out)
  generalize hpost : DoesPost K0 b a w = Post
  have HPOST := Lib.hid hpost
  clear hA3 h hpost
  generalize hn : us.length = n at HQ3 HD3 HB3 HR3 h64 hc1 ⊢
  have HN := Lib.hid hn
  clear hn
  by_cases h0 : n = 0
  · subst h0
    obtain ⟨us', q, hk1, hk2⟩ := HBO.out ay
    have hn := HN.out
    simp only [hn] at hk2
    clear hn
    have HK1 := Lib.hid hk1
    have HK2 := Lib.hid hk2
    have hself : (q == q) = true := by simp
    clear hk1 hk2 HBO
    go_enter Try.func6, Try.ntmps6
    go_wp2_with fail
    refine (HK1.out _ HQ3.out).mono ?_
    rintro r w2 ⟨rfl, hq2, ht2⟩
    have HQ2 := Lib.hid hq2
    have HD2 := Lib.hid (HD3.out.touch ht2 (fun k h1 h2 hn => hn (.inr ⟨h1, h2⟩)))
    have HB2 := Lib.hid (HB3.out.trans (ht2.mono fun k _ h1 h2 => h1 (.inl (.inl h2))))
    have HR2 := Lib.hid (show RT w2 a c us from ⟨HR3.out.row.touch ht2 (fun x hx hn => hn (.inl (.inr (by rw [hx]; rfl)))), HR3.out.nil, HR3.out.len, HR3.out.cap⟩)
    clear hq2 ht2 HK1
    have t0 := HD2.out.t0
    have t1 := HD2.out.t1
    have s2 := HD2.out.s 2 (by decide)
    have s3 := HD2.out.s 3 (by decide)
    have s4 := HD2.out.s 4 (by decide)
    have s5 := HD2.out.s 5 (by decide)
    have s6 := HD2.out.s 6 (by decide)
    simp only [List.getD_cons_succ, List.getD_cons_zero] at s2 s3 s4 s5 s6
    have b0 := block_lt_of_cell t0
    have b1 := block_lt_of_cell s2
    simp only at b0 b1
    go_wp2_with fail
    refine (HK2.out w2 a c HR2.out).mono ?_
    rintro r w3 ⟨a5, c5, rfl, p2, p3, p4, p5, p6, p7⟩
    have HD4 := Lib.hid (HD2.out.below p7)
    have HFIN := Lib.hid (fun x0 x1 o => does_fin HQ2.out p2 p3 p4 p5 p6 p7 HB2.out HW0.out HAB.out x0 x1 o)
    have r0 := HD4.out.r0
    have r1 := HD4.out.r1
    have z0 := HD4.out.z0
    have z1 := HD4.out.z1
    have b2 := block_lt_of_cell r0
    simp only at b2
    have HFR0 := Lib.hid (fun x y o => alloc_cell (set2_same0 (x := x) (y := y) r0) o)
    have HFR1 := Lib.hid (fun x y o => alloc_cell (set2_same1 (x := x) (y := y) r1) o)
    clear p2 p3 p4 p5 p6 p7 HK2 HD2 HQ2 HR2 t0 t1 s2 s3 s4 s5 s6
    go_wp2
    have fr0 := HFR0.out (.slice a5 us'.length c5) (.int .i64 (g + 1)) (.cells #[.slice a5 us'.length c5, .int .i64 (g + 1)] 30)
    have fr1 := HFR1.out (.slice a5 us'.length c5) (.int .i64 (g + 1)) (.cells #[.slice a5 us'.length c5, .int .i64 (g + 1)] 30)
    have hfin := HFIN.out (.slice a5 us'.length c5) (.int .i64 (g + 1)) (.cells #[.slice a5 us'.length c5, .int .i64 (g + 1)] 30)
    rw [← HPOST.out]
    exact bodyPost_ret (v := .tuple #[.agg #[.slice a5 us'.length c5, .int .i64 (g + 1)], .bool true]) (by simp [results, Try.results6, go_sem, fr0, fr1]) rfl ⟨us', g, a5, c5, rfl, hfin.1, hfin.2.1, hfin.2.2.imp id (fun h x hx => Nat.le_trans HB2.out.size (h x hx))⟩
  · have d0 : decide ((0 : Int) < (n : Int)) = true := by simp; omega
    obtain ⟨q5, hq5, eq5⟩ := andM an 255 255 rfl (by decide)
    have hmod : q5 % n < n := Nat.mod_lt _ (by omega)
    obtain ⟨gb, off, rfl, hgb, e0, -⟩ := HR3.out.row.at (i := q5 % n) (by rw [HN.out]; exact hmod)
    generalize us[q5 % n]'(by rw [HN.out]; exact hmod) = uu at e0
    generalize uu.id = idv at e0
    obtain ⟨us', q, hk1, hk2⟩ := HBO.out idv
    have hn := HN.out
    simp only [hn] at hk2
    clear hn
    have HK1 := Lib.hid hk1
    have HK2 := Lib.hid hk2
    have hself : (q == q) = true := by simp
    clear hk1 hk2 HBO
    go_enter Try.func6, Try.ntmps6
    have m1 : (0 : Int) ≤ ((q5 % n : Nat) : Int) := by omega
    have m2 : ((q5 % n : Nat) : Int) < (n : Int) := by omega
    have hrem := rem_run q5 n h64 h0 hq5
    have hmE : (q5 : Int) % (n : Int) = ((q5 % n : Nat) : Int) := (Int.natCast_emod _ _).symm
    have hmT : (q5 : Int).tmod (n : Int) = ((q5 % n : Nat) : Int) := by rw [Int.tmod_eq_emod_of_nonneg (by omega)]; exact hmE
    generalize q5 % n = m5 at hrem e0 m1 m2 hmod hmE hmT
    go_upto_region 3 with (fail)
    have t0 := HD3.out.t0
    have s1 := HD3.out.s 1 (by decide)
    simp only [List.getD_cons_succ, List.getD_cons_zero] at s1
    generalize ((w.alloc (.cells #[.slice (some ⟨gb, off, none⟩) n c, .int .i64 (g + 1)] 30)).alloc (.cells #[.int .i64 3, .int .i64 an, .int .i64 af, .int .i64 aa, .int .i64 ab, .int .i64 ax, .int .i64 ay] 34)).alloc (.cells #[.slice none 0 0, .int .i64 0] 30) = Wq at HQ3 HD3 HB3 HR3 e0 t0 s1 hgb ⊢
    go_quiet (fail)
    clear hrem m1 m2 e0 t0 s1 eq5 hmE hmT
    have HQ3 : Hid (TabQ (KB K0 (some ⟨gb, off, none⟩) w.heap.size) b us g (Wq.drewN nq)) := Lib.hid (HQ3.out.below ⟨rfl, rfl, rfl, Nat.le_refl _, fun _ _ => rfl⟩)
    have HD3 : Hid (DBox w.heap.size (some ⟨gb, off, none⟩) n c (g + 1) [3, an, af, aa, ab, ax, ay] (Wq.drewN nq)) := Lib.hid (HD3.out.below ⟨rfl, rfl, rfl, Nat.le_refl _, fun _ _ => rfl⟩)
    have HB3 : Hid (Touch (fun k => ¬ K0 k) w (Wq.drewN nq)) := Lib.hid ⟨HB3.out.os, HB3.out.tape, HB3.out.output, HB3.out.size, HB3.out.block⟩
    have HR3 : Hid (RT (Wq.drewN nq) (some ⟨gb, off, none⟩) c us) := Lib.hid (HR3.out.below ⟨rfl, rfl, rfl, Nat.le_refl _, fun _ _ => rfl⟩)
    generalize Wq.drewN nq = Wp at HQ3 HD3 HB3 HR3 ⊢
    have s0 := HD3.out.s 0 (by decide)
    have s2 := HD3.out.s 2 (by decide)
    have s3 := HD3.out.s 3 (by decide)
    have s4 := HD3.out.s 4 (by decide)
    have s5 := HD3.out.s 5 (by decide)
    have s6 := HD3.out.s 6 (by decide)
    simp only [List.getD_cons_succ, List.getD_cons_zero] at s0 s2 s3 s4 s5 s6
    have t0 := HD3.out.t0
    have r0 := HD3.out.r0
    have hs1 := block_lt_of_cell s2
    have ht0 := block_lt_of_cell t0
    have hr0 := block_lt_of_cell r0
    simp only at hs1 ht0 hr0
    go_wp2_with fail
    clear s0 s2 s3 s4 s5 s6 t0 r0 hs1 ht0 hr0
    refine (HK1.out _ HQ3.out).mono ?_
    rintro r w2 ⟨rfl, hq2, ht2⟩
    have HQ2 := Lib.hid hq2
    have HD2 := Lib.hid (HD3.out.touch ht2 (fun k h1 h2 hn => hn (.inr ⟨h1, h2⟩)))
    have HB2 := Lib.hid (HB3.out.trans (ht2.mono fun k _ h1 h2 => h1 (.inl (.inl h2))))
    have HR2 := Lib.hid (show RT w2 (some ⟨gb, off, none⟩) c us from ⟨HR3.out.row.touch ht2 (fun x hx hn => hn (.inl (.inr (by cases hx; rfl)))), HR3.out.nil, HR3.out.len, HR3.out.cap⟩)
    clear hq2 ht2 HK1
    have t0 := HD2.out.t0
    have t1 := HD2.out.t1
    have s2 := HD2.out.s 2 (by decide)
    have s3 := HD2.out.s 3 (by decide)
    have s4 := HD2.out.s 4 (by decide)
    have s5 := HD2.out.s 5 (by decide)
    have s6 := HD2.out.s 6 (by decide)
    simp only [List.getD_cons_succ, List.getD_cons_zero] at s2 s3 s4 s5 s6
    have b0 := block_lt_of_cell t0
    have b1 := block_lt_of_cell s2
    simp only at b0 b1
    go_wp2_with fail
    refine (HK2.out w2 _ c HR2.out).mono ?_
    rintro r w3 ⟨a5, c5, rfl, p2, p3, p4, p5, p6, p7⟩
    have HD4 := Lib.hid (HD2.out.below p7)
    have HFIN := Lib.hid (fun x0 x1 o => does_fin HQ2.out p2 p3 p4 p5 p6 p7 HB2.out HW0.out HAB.out x0 x1 o)
    have r0 := HD4.out.r0
    have r1 := HD4.out.r1
    have z0 := HD4.out.z0
    have z1 := HD4.out.z1
    have b2 := block_lt_of_cell r0
    simp only at b2
    have HFR0 := Lib.hid (fun x y o => alloc_cell (set2_same0 (x := x) (y := y) r0) o)
    have HFR1 := Lib.hid (fun x y o => alloc_cell (set2_same1 (x := x) (y := y) r1) o)
    clear p2 p3 p4 p5 p6 p7 HK2 HD2 HQ2 HR2 t0 t1 s2 s3 s4 s5 s6
    go_wp2
    have fr0 := HFR0.out (.slice a5 us'.length c5) (.int .i64 (g + 1)) (.cells #[.slice a5 us'.length c5, .int .i64 (g + 1)] 30)
    have fr1 := HFR1.out (.slice a5 us'.length c5) (.int .i64 (g + 1)) (.cells #[.slice a5 us'.length c5, .int .i64 (g + 1)] 30)
    have hfin := HFIN.out (.slice a5 us'.length c5) (.int .i64 (g + 1)) (.cells #[.slice a5 us'.length c5, .int .i64 (g + 1)] 30)
    rw [← HPOST.out]
    exact bodyPost_ret (v := .tuple #[.agg #[.slice a5 us'.length c5, .int .i64 (g + 1)], .bool true]) (by simp [results, Try.results6, go_sem, fr0, fr1]) rfl ⟨us', g, a5, c5, rfl, hfin.1, hfin.2.1, hfin.2.2.imp id (fun h x hx => Nat.le_trans HB2.out.size (h x hx))⟩
set_option maxRecDepth 100000 in
set_option maxHeartbeats 4000000 in
theorem does_4 (K0 : Nat → Prop) (b : Nat) (us : List Un) (g : Int) (a : Option Addr) (c : Nat) (w : World) (an af aa ab ax ay : Int) (h : DoMem K0 b us g a c w) :
    Calls Try.prog 6 #[.pointer (some ⟨b, 0, none⟩), .agg #[.slice a us.length c, .int .i64 (g + 1)], .agg #[.int .i64 4, .int .i64 an, .int .i64 af, .int .i64 aa, .int .i64 ab, .int .i64 ax, .int .i64 ay]] w (DoesPost K0 b a w) := by
  have hA3 : Below w.heap.size w (((w.alloc (.cells #[.slice a us.length c, .int .i64 (g + 1)] 30)).alloc (.cells #[.int .i64 4, .int .i64 an, .int .i64 af, .int .i64 aa, .int .i64 ab, .int .i64 ax, .int .i64 ay] 34)).alloc (.cells #[.slice none 0 0, .int .i64 0] 30)) := bel_alloc (bel_alloc (bel_alloc (Below.refl _ _) _) _) _
  have HQ3 := Lib.hid (show TabQ (KB K0 a w.heap.size) b us g (((w.alloc (.cells #[.slice a us.length c, .int .i64 (g + 1)] 30)).alloc (.cells #[.int .i64 4, .int .i64 an, .int .i64 af, .int .i64 aa, .int .i64 ab, .int .i64 ax, .int .i64 ay] 34)).alloc (.cells #[.slice none 0 0, .int .i64 0] 30)) from h.tab.grow (N := fun k => w.heap.size ≤ k ∧ k < w.heap.size + 3) hA3 (fun k hk => ⟨hk.1, by simp; omega⟩))
  have HD3 := Lib.hid (dbox_new w a us.length c (g + 1) 4 an af aa ab ax ay)
  have HB3 := Lib.hid (show Touch (fun k => ¬ K0 k) w (((w.alloc (.cells #[.slice a us.length c, .int .i64 (g + 1)] 30)).alloc (.cells #[.int .i64 4, .int .i64 an, .int .i64 af, .int .i64 aa, .int .i64 ab, .int .i64 ax, .int .i64 ay] 34)).alloc (.cells #[.slice none 0 0, .int .i64 0] 30)) from touch_of_below hA3)
  have HR3 := Lib.hid (h.rt.below hA3)
  have HAB := Lib.hid (show ∀ x, a = some x → x.block < w.heap.size from fun x hx => h.tab.2.1 _ (.inr (by rw [hx]; rfl)))
  have HW0 := Lib.hid (show ∀ k, K0 k → k < w.heap.size from fun k hk => h.tab.2.1 k (.inl hk))
  have h64 := h.tab.ok.1
  have hc1 := h.rt.len
  have hc2 := h.rt.cap
  unfold maxLen at hc2
  have HOK := Lib.hid h.tab.ok
  have HBO := Lib.hid (fun (idv : Int) => kill_both (K := KB K0 a w.heap.size) b us g idv HOK.out)
  generalize hpost : DoesPost K0 b a w = Post
  have HPOST := Lib.hid hpost
  clear hA3 h hpost
  generalize hn : us.length = n at HQ3 HD3 HB3 HR3 h64 hc1 ⊢
  have HN := Lib.hid hn
  clear hn
  by_cases h0 : n = 0
  · subst h0
    obtain ⟨us', q, hk1, hk2⟩ := HBO.out ax
    have hn := HN.out
    simp only [hn] at hk2
    clear hn
    have HK1 := Lib.hid hk1
    have HK2 := Lib.hid hk2
    have hself : (q == q) = true := by simp
    clear hk1 hk2 HBO
    go_enter Try.func6, Try.ntmps6
    go_wp2_with fail
    refine (HK1.out _ HQ3.out).mono ?_
    rintro r w2 ⟨rfl, hq2, ht2⟩
    have HQ2 := Lib.hid hq2
    have HD2 := Lib.hid (HD3.out.touch ht2 (fun k h1 h2 hn => hn (.inr ⟨h1, h2⟩)))
    have HB2 := Lib.hid (HB3.out.trans (ht2.mono fun k _ h1 h2 => h1 (.inl (.inl h2))))
    have HR2 := Lib.hid (show RT w2 a c us from ⟨HR3.out.row.touch ht2 (fun x hx hn => hn (.inl (.inr (by rw [hx]; rfl)))), HR3.out.nil, HR3.out.len, HR3.out.cap⟩)
    clear hq2 ht2 HK1
    have t0 := HD2.out.t0
    have t1 := HD2.out.t1
    have s2 := HD2.out.s 2 (by decide)
    have s3 := HD2.out.s 3 (by decide)
    have s4 := HD2.out.s 4 (by decide)
    have s5 := HD2.out.s 5 (by decide)
    have s6 := HD2.out.s 6 (by decide)
    simp only [List.getD_cons_succ, List.getD_cons_zero] at s2 s3 s4 s5 s6
    have b0 := block_lt_of_cell t0
    have b1 := block_lt_of_cell s2
    simp only at b0 b1
    go_wp2_with fail
    refine (HK2.out w2 a c HR2.out).mono ?_
    rintro r w3 ⟨a5, c5, rfl, p2, p3, p4, p5, p6, p7⟩
    have HD4 := Lib.hid (HD2.out.below p7)
    have HFIN := Lib.hid (fun x0 x1 o => does_fin HQ2.out p2 p3 p4 p5 p6 p7 HB2.out HW0.out HAB.out x0 x1 o)
    have r0 := HD4.out.r0
    have r1 := HD4.out.r1
    have z0 := HD4.out.z0
    have z1 := HD4.out.z1
    have b2 := block_lt_of_cell r0
    simp only at b2
    have HFR0 := Lib.hid (fun x y o => alloc_cell (set2_same0 (x := x) (y := y) r0) o)
    have HFR1 := Lib.hid (fun x y o => alloc_cell (set2_same1 (x := x) (y := y) r1) o)
    clear p2 p3 p4 p5 p6 p7 HK2 HD2 HQ2 HR2 t0 t1 s2 s3 s4 s5 s6
    go_wp2
    have fr0 := HFR0.out (.slice a5 us'.length c5) (.int .i64 (g + 1)) (.cells #[.slice a5 us'.length c5, .int .i64 (g + 1)] 30)
    have fr1 := HFR1.out (.slice a5 us'.length c5) (.int .i64 (g + 1)) (.cells #[.slice a5 us'.length c5, .int .i64 (g + 1)] 30)
    have hfin := HFIN.out (.slice a5 us'.length c5) (.int .i64 (g + 1)) (.cells #[.slice a5 us'.length c5, .int .i64 (g + 1)] 30)
    rw [← HPOST.out]
    exact bodyPost_ret (v := .tuple #[.agg #[.slice a5 us'.length c5, .int .i64 (g + 1)], .bool true]) (by simp [results, Try.results6, go_sem, fr0, fr1]) rfl ⟨us', g, a5, c5, rfl, hfin.1, hfin.2.1, hfin.2.2.imp id (fun h x hx => Nat.le_trans HB2.out.size (h x hx))⟩
  · have d0 : decide ((0 : Int) < (n : Int)) = true := by simp; omega
    obtain ⟨us', q, hk1, hk2⟩ := HBO.out ax
    have hn := HN.out
    simp only [hn] at hk2
    clear hn
    have HK1 := Lib.hid hk1
    have HK2 := Lib.hid hk2
    have hself : (q == q) = true := by simp
    clear hk1 hk2 HBO
    go_enter Try.func6, Try.ntmps6
    go_wp2_with fail
    refine (HK1.out _ HQ3.out).mono ?_
    rintro r w2 ⟨rfl, hq2, ht2⟩
    have HQ2 := Lib.hid hq2
    have HD2 := Lib.hid (HD3.out.touch ht2 (fun k h1 h2 hn => hn (.inr ⟨h1, h2⟩)))
    have HB2 := Lib.hid (HB3.out.trans (ht2.mono fun k _ h1 h2 => h1 (.inl (.inl h2))))
    have HR2 := Lib.hid (show RT w2 a c us from ⟨HR3.out.row.touch ht2 (fun x hx hn => hn (.inl (.inr (by rw [hx]; rfl)))), HR3.out.nil, HR3.out.len, HR3.out.cap⟩)
    clear hq2 ht2 HK1
    have t0 := HD2.out.t0
    have t1 := HD2.out.t1
    have s2 := HD2.out.s 2 (by decide)
    have s3 := HD2.out.s 3 (by decide)
    have s4 := HD2.out.s 4 (by decide)
    have s5 := HD2.out.s 5 (by decide)
    have s6 := HD2.out.s 6 (by decide)
    simp only [List.getD_cons_succ, List.getD_cons_zero] at s2 s3 s4 s5 s6
    have b0 := block_lt_of_cell t0
    have b1 := block_lt_of_cell s2
    simp only at b0 b1
    go_wp2_with fail
    refine (HK2.out w2 a c HR2.out).mono ?_
    rintro r w3 ⟨a5, c5, rfl, p2, p3, p4, p5, p6, p7⟩
    have HD4 := Lib.hid (HD2.out.below p7)
    have HFIN := Lib.hid (fun x0 x1 o => does_fin HQ2.out p2 p3 p4 p5 p6 p7 HB2.out HW0.out HAB.out x0 x1 o)
    have r0 := HD4.out.r0
    have r1 := HD4.out.r1
    have z0 := HD4.out.z0
    have z1 := HD4.out.z1
    have b2 := block_lt_of_cell r0
    simp only at b2
    have HFR0 := Lib.hid (fun x y o => alloc_cell (set2_same0 (x := x) (y := y) r0) o)
    have HFR1 := Lib.hid (fun x y o => alloc_cell (set2_same1 (x := x) (y := y) r1) o)
    clear p2 p3 p4 p5 p6 p7 HK2 HD2 HQ2 HR2 t0 t1 s2 s3 s4 s5 s6
    go_wp2
    have fr0 := HFR0.out (.slice a5 us'.length c5) (.int .i64 (g + 1)) (.cells #[.slice a5 us'.length c5, .int .i64 (g + 1)] 30)
    have fr1 := HFR1.out (.slice a5 us'.length c5) (.int .i64 (g + 1)) (.cells #[.slice a5 us'.length c5, .int .i64 (g + 1)] 30)
    have hfin := HFIN.out (.slice a5 us'.length c5) (.int .i64 (g + 1)) (.cells #[.slice a5 us'.length c5, .int .i64 (g + 1)] 30)
    rw [← HPOST.out]
    exact bodyPost_ret (v := .tuple #[.agg #[.slice a5 us'.length c5, .int .i64 (g + 1)], .bool true]) (by simp [results, Try.results6, go_sem, fr0, fr1]) rfl ⟨us', g, a5, c5, rfl, hfin.1, hfin.2.1, hfin.2.2.imp id (fun h x hx => Nat.le_trans HB2.out.size (h x hx))⟩
set_option maxRecDepth 100000 in
set_option maxHeartbeats 4000000 in
theorem does_5 (K0 : Nat → Prop) (b : Nat) (us : List Un) (g : Int) (a : Option Addr) (c : Nat) (w : World) (an af aa ab ax ay : Int) (h : DoMem K0 b us g a c w) :
    Calls Try.prog 6 #[.pointer (some ⟨b, 0, none⟩), .agg #[.slice a us.length c, .int .i64 (g + 1)], .agg #[.int .i64 5, .int .i64 an, .int .i64 af, .int .i64 aa, .int .i64 ab, .int .i64 ax, .int .i64 ay]] w (DoesPost K0 b a w) := by
  have hA3 : Below w.heap.size w (((w.alloc (.cells #[.slice a us.length c, .int .i64 (g + 1)] 30)).alloc (.cells #[.int .i64 5, .int .i64 an, .int .i64 af, .int .i64 aa, .int .i64 ab, .int .i64 ax, .int .i64 ay] 34)).alloc (.cells #[.slice none 0 0, .int .i64 0] 30)) := bel_alloc (bel_alloc (bel_alloc (Below.refl _ _) _) _) _
  have HQ3 := Lib.hid (show TabQ (KB K0 a w.heap.size) b us g (((w.alloc (.cells #[.slice a us.length c, .int .i64 (g + 1)] 30)).alloc (.cells #[.int .i64 5, .int .i64 an, .int .i64 af, .int .i64 aa, .int .i64 ab, .int .i64 ax, .int .i64 ay] 34)).alloc (.cells #[.slice none 0 0, .int .i64 0] 30)) from h.tab.grow (N := fun k => w.heap.size ≤ k ∧ k < w.heap.size + 3) hA3 (fun k hk => ⟨hk.1, by simp; omega⟩))
  have HD3 := Lib.hid (dbox_new w a us.length c (g + 1) 5 an af aa ab ax ay)
  have HB3 := Lib.hid (show Touch (fun k => ¬ K0 k) w (((w.alloc (.cells #[.slice a us.length c, .int .i64 (g + 1)] 30)).alloc (.cells #[.int .i64 5, .int .i64 an, .int .i64 af, .int .i64 aa, .int .i64 ab, .int .i64 ax, .int .i64 ay] 34)).alloc (.cells #[.slice none 0 0, .int .i64 0] 30)) from touch_of_below hA3)
  have HR3 := Lib.hid (h.rt.below hA3)
  have HAB := Lib.hid (show ∀ x, a = some x → x.block < w.heap.size from fun x hx => h.tab.2.1 _ (.inr (by rw [hx]; rfl)))
  have HW0 := Lib.hid (show ∀ k, K0 k → k < w.heap.size from fun k hk => h.tab.2.1 k (.inl hk))
  have h64 := h.tab.ok.1
  have hc1 := h.rt.len
  have hc2 := h.rt.cap
  unfold maxLen at hc2
  have HOK := Lib.hid h.tab.ok
  have HBO := Lib.hid (fun (idv : Int) => set_both (K := KB K0 a w.heap.size) b us g idv af ax HOK.out)
  generalize hpost : DoesPost K0 b a w = Post
  have HPOST := Lib.hid hpost
  clear hA3 h hpost
  generalize hn : us.length = n at HQ3 HD3 HB3 HR3 h64 hc1 ⊢
  have HN := Lib.hid hn
  clear hn
  by_cases h0 : n = 0
  · subst h0
    obtain ⟨us', q, hk1, hk2⟩ := HBO.out ay
    have hn := HN.out
    simp only [hn] at hk2
    clear hn
    have HK1 := Lib.hid hk1
    have HK2 := Lib.hid hk2
    have hself : (q == q) = true := by simp
    clear hk1 hk2 HBO
    go_enter Try.func6, Try.ntmps6
    go_wp2_with fail
    refine (HK1.out _ HQ3.out).mono ?_
    rintro r w2 ⟨rfl, hq2, ht2⟩
    have HQ2 := Lib.hid hq2
    have HD2 := Lib.hid (HD3.out.touch ht2 (fun k h1 h2 hn => hn (.inr ⟨h1, h2⟩)))
    have HB2 := Lib.hid (HB3.out.trans (ht2.mono fun k _ h1 h2 => h1 (.inl (.inl h2))))
    have HR2 := Lib.hid (show RT w2 a c us from ⟨HR3.out.row.touch ht2 (fun x hx hn => hn (.inl (.inr (by rw [hx]; rfl)))), HR3.out.nil, HR3.out.len, HR3.out.cap⟩)
    clear hq2 ht2 HK1
    have t0 := HD2.out.t0
    have t1 := HD2.out.t1
    have s2 := HD2.out.s 2 (by decide)
    have s3 := HD2.out.s 3 (by decide)
    have s4 := HD2.out.s 4 (by decide)
    have s5 := HD2.out.s 5 (by decide)
    have s6 := HD2.out.s 6 (by decide)
    simp only [List.getD_cons_succ, List.getD_cons_zero] at s2 s3 s4 s5 s6
    have b0 := block_lt_of_cell t0
    have b1 := block_lt_of_cell s2
    simp only at b0 b1
    go_wp2_with fail
    refine (HK2.out w2 a c HR2.out).mono ?_
    rintro r w3 ⟨a5, c5, rfl, p2, p3, p4, p5, p6, p7⟩
    have HD4 := Lib.hid (HD2.out.below p7)
    have HFIN := Lib.hid (fun x0 x1 o => does_fin HQ2.out p2 p3 p4 p5 p6 p7 HB2.out HW0.out HAB.out x0 x1 o)
    have r0 := HD4.out.r0
    have r1 := HD4.out.r1
    have z0 := HD4.out.z0
    have z1 := HD4.out.z1
    have b2 := block_lt_of_cell r0
    simp only at b2
    have HFR0 := Lib.hid (fun x y o => alloc_cell (set2_same0 (x := x) (y := y) r0) o)
    have HFR1 := Lib.hid (fun x y o => alloc_cell (set2_same1 (x := x) (y := y) r1) o)
    clear p2 p3 p4 p5 p6 p7 HK2 HD2 HQ2 HR2 t0 t1 s2 s3 s4 s5 s6
    go_wp2
    have fr0 := HFR0.out (.slice a5 us'.length c5) (.int .i64 (g + 1)) (.cells #[.slice a5 us'.length c5, .int .i64 (g + 1)] 30)
    have fr1 := HFR1.out (.slice a5 us'.length c5) (.int .i64 (g + 1)) (.cells #[.slice a5 us'.length c5, .int .i64 (g + 1)] 30)
    have hfin := HFIN.out (.slice a5 us'.length c5) (.int .i64 (g + 1)) (.cells #[.slice a5 us'.length c5, .int .i64 (g + 1)] 30)
    rw [← HPOST.out]
    exact bodyPost_ret (v := .tuple #[.agg #[.slice a5 us'.length c5, .int .i64 (g + 1)], .bool true]) (by simp [results, Try.results6, go_sem, fr0, fr1]) rfl ⟨us', g, a5, c5, rfl, hfin.1, hfin.2.1, hfin.2.2.imp id (fun h x hx => Nat.le_trans HB2.out.size (h x hx))⟩
  · have d0 : decide ((0 : Int) < (n : Int)) = true := by simp; omega
    obtain ⟨us', q, hk1, hk2⟩ := HBO.out ay
    have hn := HN.out
    simp only [hn] at hk2
    clear hn
    have HK1 := Lib.hid hk1
    have HK2 := Lib.hid hk2
    have hself : (q == q) = true := by simp
    clear hk1 hk2 HBO
    go_enter Try.func6, Try.ntmps6
    go_wp2_with fail
    refine (HK1.out _ HQ3.out).mono ?_
    rintro r w2 ⟨rfl, hq2, ht2⟩
    have HQ2 := Lib.hid hq2
    have HD2 := Lib.hid (HD3.out.touch ht2 (fun k h1 h2 hn => hn (.inr ⟨h1, h2⟩)))
    have HB2 := Lib.hid (HB3.out.trans (ht2.mono fun k _ h1 h2 => h1 (.inl (.inl h2))))
    have HR2 := Lib.hid (show RT w2 a c us from ⟨HR3.out.row.touch ht2 (fun x hx hn => hn (.inl (.inr (by rw [hx]; rfl)))), HR3.out.nil, HR3.out.len, HR3.out.cap⟩)
    clear hq2 ht2 HK1
    have t0 := HD2.out.t0
    have t1 := HD2.out.t1
    have s2 := HD2.out.s 2 (by decide)
    have s3 := HD2.out.s 3 (by decide)
    have s4 := HD2.out.s 4 (by decide)
    have s5 := HD2.out.s 5 (by decide)
    have s6 := HD2.out.s 6 (by decide)
    simp only [List.getD_cons_succ, List.getD_cons_zero] at s2 s3 s4 s5 s6
    have b0 := block_lt_of_cell t0
    have b1 := block_lt_of_cell s2
    simp only at b0 b1
    go_wp2_with fail
    refine (HK2.out w2 a c HR2.out).mono ?_
    rintro r w3 ⟨a5, c5, rfl, p2, p3, p4, p5, p6, p7⟩
    have HD4 := Lib.hid (HD2.out.below p7)
    have HFIN := Lib.hid (fun x0 x1 o => does_fin HQ2.out p2 p3 p4 p5 p6 p7 HB2.out HW0.out HAB.out x0 x1 o)
    have r0 := HD4.out.r0
    have r1 := HD4.out.r1
    have z0 := HD4.out.z0
    have z1 := HD4.out.z1
    have b2 := block_lt_of_cell r0
    simp only at b2
    have HFR0 := Lib.hid (fun x y o => alloc_cell (set2_same0 (x := x) (y := y) r0) o)
    have HFR1 := Lib.hid (fun x y o => alloc_cell (set2_same1 (x := x) (y := y) r1) o)
    clear p2 p3 p4 p5 p6 p7 HK2 HD2 HQ2 HR2 t0 t1 s2 s3 s4 s5 s6
    go_wp2
    have fr0 := HFR0.out (.slice a5 us'.length c5) (.int .i64 (g + 1)) (.cells #[.slice a5 us'.length c5, .int .i64 (g + 1)] 30)
    have fr1 := HFR1.out (.slice a5 us'.length c5) (.int .i64 (g + 1)) (.cells #[.slice a5 us'.length c5, .int .i64 (g + 1)] 30)
    have hfin := HFIN.out (.slice a5 us'.length c5) (.int .i64 (g + 1)) (.cells #[.slice a5 us'.length c5, .int .i64 (g + 1)] 30)
    rw [← HPOST.out]
    exact bodyPost_ret (v := .tuple #[.agg #[.slice a5 us'.length c5, .int .i64 (g + 1)], .bool true]) (by simp [results, Try.results6, go_sem, fr0, fr1]) rfl ⟨us', g, a5, c5, rfl, hfin.1, hfin.2.1, hfin.2.2.imp id (fun h x hx => Nat.le_trans HB2.out.size (h x hx))⟩
end Go.Proofs.Ythggfjjiohdbmaa
namespace Go.Proofs.Ythggfjjiohdbmaa
open Go.RowKit
set_option linter.unusedVariables false

set_option maxRecDepth 100000 in
set_option maxHeartbeats 4000000 in
theorem does_other (K0 : Nat → Prop) (b : Nat) (us : List Un) (g : Int) (a : Option Addr) (c : Nat) (w : World) (ak an af aa ab ax ay : Int) (h : DoMem K0 b us g a c w) (n1 : ak ≠ 1) (n2 : ak ≠ 2) (n3 : ak ≠ 3) (n4 : ak ≠ 4) (n5 : ak ≠ 5) :
    Calls Try.prog 6 #[.pointer (some ⟨b, 0, none⟩), .agg #[.slice a us.length c, .int .i64 (g + 1)], .agg #[.int .i64 ak, .int .i64 an, .int .i64 af, .int .i64 aa, .int .i64 ab, .int .i64 ax, .int .i64 ay]] w (DoesPost K0 b a w) := by
  have HFIN0 := Lib.hid (show ∀ W, Below w.heap.size w W → DoesPost K0 b a w (.returned (.tuple #[.agg #[.slice a us.length c, .int .i64 (g + 1)], .bool true])) W from fun W hb => ⟨us, g, a, c, rfl, h.keep hb, touch_of_below hb, .inl rfl⟩)
  have HR := Lib.hid h.rt
  have h64 := h.tab.ok.1
  have hc1 := h.rt.len
  have hc2 := h.rt.cap
  unfold maxLen at hc2
  have k1 : (ak == 1) = false := by simpa using n1
  have k2 : (ak == 2) = false := by simpa using n2
  have k3 : (ak == 3) = false := by simpa using n3
  have k4 : (ak == 4) = false := by simpa using n4
  have k5 : (ak == 5) = false := by simpa using n5
  generalize hn : us.length = n at HFIN0 h64 hc1 ⊢
  have HN := Lib.hid hn
  generalize hpost : DoesPost K0 b a w = Post at HFIN0 ⊢
  have HFIN := HFIN0
  clear h hn hpost n1 n2 n3 n4 n5 HFIN0
  by_cases h0 : n = 0
  · subst h0
    go_enter Try.func6, Try.ntmps6
    go_wp2
    exact bodyPost_ret (v := .tuple #[.agg #[.slice a 0 c, .int .i64 (g + 1)], .bool true]) (by simp [results, Try.results6, go_sem]) rfl (HFIN.out _ (bel_alloc (bel_alloc (bel_alloc (Below.refl _ _) _) _) _))
  · have d0 : decide ((0 : Int) < (n : Int)) = true := by simp; omega
    by_cases hk : ak < 4
    · have dk : decide (ak < 4) = true := by simpa using hk
      obtain ⟨q5, hq5, eq5⟩ := andM an 255 255 rfl (by decide)
      have hmod : q5 % n < n := Nat.mod_lt _ (by omega)
      have hA3 : Below w.heap.size w (((w.alloc (.cells #[.slice a n c, .int .i64 (g + 1)] 30)).alloc (.cells #[.int .i64 ak, .int .i64 an, .int .i64 af, .int .i64 aa, .int .i64 ab, .int .i64 ax, .int .i64 ay] 34)).alloc (.cells #[.slice none 0 0, .int .i64 0] 30)) := bel_alloc (bel_alloc (bel_alloc (Below.refl _ _) _) _) _
      have HD3 := Lib.hid (dbox_new w a n c (g + 1) ak an af aa ab ax ay)
      obtain ⟨gb, off, rfl, hgb, e0, -⟩ := (HR.out.row.below hA3).at (i := q5 % n) (by rw [HN.out]; exact hmod)
      generalize us[q5 % n]'(by rw [HN.out]; exact hmod) = uu at e0
      generalize uu.id = idv at e0
      have HB3 := Lib.hid hA3
      clear hA3 hk
      go_enter Try.func6, Try.ntmps6
      have m1 : (0 : Int) ≤ ((q5 % n : Nat) : Int) := by omega
      have m2 : ((q5 % n : Nat) : Int) < (n : Int) := by omega
      have hrem := rem_run q5 n h64 h0 hq5
      have hmE : (q5 : Int) % (n : Int) = ((q5 % n : Nat) : Int) := (Int.natCast_emod _ _).symm
      have hmT : (q5 : Int).tmod (n : Int) = ((q5 % n : Nat) : Int) := by rw [Int.tmod_eq_emod_of_nonneg (by omega)]; exact hmE
      generalize q5 % n = m5 at hrem e0 m1 m2 hmod hmE hmT
      go_upto_region 3 with (fail)
      have t0 := HD3.out.t0
      have s1 := HD3.out.s 1 (by decide)
      simp only [List.getD_cons_succ, List.getD_cons_zero] at s1
      generalize ((w.alloc (.cells #[.slice (some ⟨gb, off, none⟩) n c, .int .i64 (g + 1)] 30)).alloc (.cells #[.int .i64 ak, .int .i64 an, .int .i64 af, .int .i64 aa, .int .i64 ab, .int .i64 ax, .int .i64 ay] 34)).alloc (.cells #[.slice none 0 0, .int .i64 0] 30) = Wq at HD3 HB3 e0 t0 s1 hgb ⊢
      go_quiet (fail)
      clear hrem m1 m2 e0 t0 s1 eq5 hmE hmT
      have HD3 : Hid (DBox w.heap.size (some ⟨gb, off, none⟩) n c (g + 1) [ak, an, af, aa, ab, ax, ay] (Wq.drewN nq)) := Lib.hid (HD3.out.below ⟨rfl, rfl, rfl, Nat.le_refl _, fun _ _ => rfl⟩)
      have HB3 : Hid (Below w.heap.size w (Wq.drewN nq)) := Lib.hid ⟨HB3.out.os, HB3.out.tape, HB3.out.output, HB3.out.size, HB3.out.block⟩
      generalize Wq.drewN nq = Wp at HD3 HB3 ⊢
      have s0 := HD3.out.s 0 (by decide)
      simp only [List.getD_cons_zero] at s0
      have t0 := HD3.out.t0
      have t1 := HD3.out.t1
      have r0 := HD3.out.r0
      have r1 := HD3.out.r1
      have z0 := HD3.out.z0
      have z1 := HD3.out.z1
      have hs0 := block_lt_of_cell s0
      have ht0 := block_lt_of_cell t0
      have hr0 := block_lt_of_cell r0
      simp only at hs0 ht0 hr0
      have fr0 := set2_same0 (x := .slice (some ⟨gb, off, none⟩) n c) (y := .int .i64 (g + 1)) r0
      have fr1 := set2_same1 (x := .slice (some ⟨gb, off, none⟩) n c) (y := .int .i64 (g + 1)) r1
      have HFR0 := Lib.hid fr0
      have HFR1 := Lib.hid fr1
      have HBF := Lib.hid (set2r_below HB3.out (show w.heap.size ≤ w.heap.size + 2 by omega) (.slice (some ⟨gb, off, none⟩) n c) (.int .i64 (g + 1)))
      unfold set2r at HBF
      clear fr0 fr1 HB3 HD3
      go_wp2
      have fr0 := HFR0.out
      have fr1 := HFR1.out
      exact bodyPost_ret (v := .tuple #[.agg #[.slice (some ⟨gb, off, none⟩) n c, .int .i64 (g + 1)], .bool true]) (by simp [results, Try.results6, go_sem, fr0, fr1]) rfl (HFIN.out _ HBF.out)
    · have dk : decide (ak < 4) = false := by simpa using hk
      clear hk
      go_enter Try.func6, Try.ntmps6
      go_wp2
      exact bodyPost_ret (v := .tuple #[.agg #[.slice a n c, .int .i64 (g + 1)], .bool true]) (by simp [results, Try.results6, go_sem]) rfl (HFIN.out _ (bel_alloc (bel_alloc (bel_alloc (Below.refl _ _) _) _) _))
theorem does_any (K0 : Nat → Prop) (b : Nat) (us : List Un) (g : Int) (a : Option Addr) (c : Nat) (w : World) (ak an af aa ab ax ay : Int) (h : DoMem K0 b us g a c w) :
    Calls Try.prog 6 #[.pointer (some ⟨b, 0, none⟩), .agg #[.slice a us.length c, .int .i64 (g + 1)], .agg #[.int .i64 ak, .int .i64 an, .int .i64 af, .int .i64 aa, .int .i64 ab, .int .i64 ax, .int .i64 ay]] w (DoesPost K0 b a w) := by
  by_cases h1 : ak = 1
  · subst h1; exact does_1 K0 b us g a c w an af aa ab ax ay h
  by_cases h2 : ak = 2
  · subst h2; exact does_2 K0 b us g a c w an af aa ab ax ay h
  by_cases h3 : ak = 3
  · subst h3; exact does_3 K0 b us g a c w an af aa ab ax ay h
  by_cases h4 : ak = 4
  · subst h4; exact does_4 K0 b us g a c w an af aa ab ax ay h
  by_cases h5 : ak = 5
  · subst h5; exact does_5 K0 b us g a c w an af aa ab ax ay h
  exact does_other K0 b us g a c w ak an af aa ab ax ay h h1 h2 h3 h4 h5
end Go.Proofs.Ythggfjjiohdbmaa
namespace Go.Proofs.Ythggfjjiohdbmaa
open Go.RowKit
set_option linter.unusedVariables false

theorem hit_none {K : Nat → Prop} (b : Nat) (us : List Un) (g id pl : Int) (n : Nat) (w : World) (h : TabQ K b us g w) (hn : FindIs us id n) (hq : foundQ us id n = false) :
    Calls Try.prog 25 #[.pointer (some ⟨b, 0, none⟩), .int .i64 id, .int .i64 pl] w fun r w' => r = .returned (.int .i64 9) ∧ Below w.heap.size w w' := by
  have HU := Lib.hid (tabUnit_none b us g id n w h hn hq)
  clear h hn hq
  unfold unV at HU
  simp only at HU
  go_enter Try.func25, Try.ntmps25
  go_wp2_with fail
  refine HU.out.mono ?_
  rintro r w1 ⟨rfl, hb1⟩
  have HB := Lib.hid (bel_alloc hb1 (.cells #[.int .i64 0, .int .i64 0, .int .i64 0, .int .i64 0, .int .i64 0, .int .i64 0] 61))
  clear hb1
  go_wp2
  go_ret
  exact ⟨rfl, HB.out⟩
theorem hit_own {K : Nat → Prop} (b : Nat) (us : List Un) (g id pl : Int) (n : Nat) (w : World) (h : TabQ K b us g w) (hn : FindIs us id n) (hlt : n < us.length) (he : us[n].id = id) (hp : (us[n].owner == pl) = true) :
    Calls Try.prog 25 #[.pointer (some ⟨b, 0, none⟩), .int .i64 id, .int .i64 pl] w fun r w' => r = .returned (.int .i64 13) ∧ Below w.heap.size w w' := by
  have HU := Lib.hid (tabUnit_some b us g id n w h hn hlt he)
  clear h hn he
  generalize us[n] = uu at HU hp
  obtain ⟨u0, u1, u2, u3, u4, u5⟩ := uu
  unfold unV at HU
  simp only at HU hp
  go_enter Try.func25, Try.ntmps25
  go_wp2_with fail
  refine HU.out.mono ?_
  rintro r w1 ⟨rfl, hb1⟩
  have HB := Lib.hid (bel_alloc hb1 (.cells #[.int .i64 u0, .int .i64 u1, .int .i64 u2, .int .i64 u3, .int .i64 u4, .int .i64 u5] 61))
  clear hb1
  go_wp2
  go_ret
  exact ⟨rfl, HB.out⟩
theorem hit_ok {K : Nat → Prop} (b : Nat) (us : List Un) (g id pl : Int) (n : Nat) (w : World) (h : TabQ K b us g w) (hn : FindIs us id n) (hlt : n < us.length) (he : us[n].id = id) (hp : (us[n].owner == pl) = false) :
    Calls Try.prog 25 #[.pointer (some ⟨b, 0, none⟩), .int .i64 id, .int .i64 pl] w fun r w' => r = .returned (.int .i64 0) ∧ Below w.heap.size w w' := by
  have HU := Lib.hid (tabUnit_some b us g id n w h hn hlt he)
  clear h hn he
  generalize us[n] = uu at HU hp
  obtain ⟨u0, u1, u2, u3, u4, u5⟩ := uu
  unfold unV at HU
  simp only at HU hp
  go_enter Try.func25, Try.ntmps25
  go_wp2_with fail
  refine HU.out.mono ?_
  rintro r w1 ⟨rfl, hb1⟩
  have HB := Lib.hid (bel_alloc hb1 (.cells #[.int .i64 u0, .int .i64 u1, .int .i64 u2, .int .i64 u3, .int .i64 u4, .int .i64 u5] 61))
  clear hb1
  go_wp2
  go_ret
  exact ⟨rfl, HB.out⟩
set_option maxRecDepth 100000 in
theorem pv1 {K : Nat → Prop} (b : Nat) (us : List Un) (g : Int) (k : Int) (u p q pl : Int) (w : World) (h : TabQ K b us g w) (n : Nat) (hc : checkN ⟨k, u, p, q⟩ = n) (hn : n ≠ 0) :
    Calls Try.prog 9 #[.agg #[.int .i64 k, .int .i64 u, .int .i64 p, .int .i64 q], .pointer (some ⟨b, 0, none⟩), .int .i64 pl] w fun r w' => r = .returned (.int .i64 (n : Nat)) ∧ Below w.heap.size w w' := by
  have HC := Lib.hid (fun W => ordCheck_any ⟨k, u, p, q⟩ W)
  unfold ordV at HC
  simp only at HC
  have HQ := Lib.hid h
  rw [hc] at HC
  have hnb : ((n : Int) != 0) = true := by simp; omega
  clear hc hn
  clear h
  go_enter Try.func9, Try.ntmps9
  go_wp2_with fail
  refine (HC.out _).mono ?_
  rintro r w1 ⟨rfl, hb1⟩
  have x0 : w1.cell? ⟨w.heap.size, 0, none⟩ = some (.int .i64 k) := (hb1.cell (p := ⟨w.heap.size, 0, none⟩) (by simp)).trans (by simp)
  have x1 : w1.cell? ⟨w.heap.size, 1, none⟩ = some (.int .i64 u) := (hb1.cell (p := ⟨w.heap.size, 1, none⟩) (by simp)).trans (by simp)
  have x2 : w1.cell? ⟨w.heap.size, 2, none⟩ = some (.int .i64 p) := (hb1.cell (p := ⟨w.heap.size, 2, none⟩) (by simp)).trans (by simp)
  have hX := block_lt_of_cell x0
  simp only at hX
  have HB1 := Lib.hid (show Below w.heap.size w w1 from (bel_alloc (Below.refl _ w) _).trans (hb1.mono (by simp)))
  clear hb1 HC
  go_wp2
  go_ret
  exact ⟨rfl, HB1.out⟩
set_option maxRecDepth 100000 in
theorem pv2 {K : Nat → Prop} (b : Nat) (us : List Un) (g : Int) (u p q pl : Int) (w : World) (h : TabQ K b us g w) (hc : checkN ⟨3, u, p, q⟩ = 0) :
    Calls Try.prog 9 #[.agg #[.int .i64 3, .int .i64 u, .int .i64 p, .int .i64 q], .pointer (some ⟨b, 0, none⟩), .int .i64 pl] w fun r w' => r = .returned (.int .i64 0) ∧ Below w.heap.size w w' := by
  have HC := Lib.hid (fun W => ordCheck_any ⟨3, u, p, q⟩ W)
  unfold ordV at HC
  simp only at HC
  have HQ := Lib.hid h
  rw [hc] at HC
  clear hc
  clear h
  go_enter Try.func9, Try.ntmps9
  go_wp2_with fail
  refine (HC.out _).mono ?_
  rintro r w1 ⟨rfl, hb1⟩
  have x0 : w1.cell? ⟨w.heap.size, 0, none⟩ = some (.int .i64 3) := (hb1.cell (p := ⟨w.heap.size, 0, none⟩) (by simp)).trans (by simp)
  have x1 : w1.cell? ⟨w.heap.size, 1, none⟩ = some (.int .i64 u) := (hb1.cell (p := ⟨w.heap.size, 1, none⟩) (by simp)).trans (by simp)
  have x2 : w1.cell? ⟨w.heap.size, 2, none⟩ = some (.int .i64 p) := (hb1.cell (p := ⟨w.heap.size, 2, none⟩) (by simp)).trans (by simp)
  have hX := block_lt_of_cell x0
  simp only at hX
  have HB1 := Lib.hid (show Below w.heap.size w w1 from (bel_alloc (Below.refl _ w) _).trans (hb1.mono (by simp)))
  clear hb1 HC
  go_wp2
  go_ret
  exact ⟨rfl, HB1.out⟩
set_option maxRecDepth 100000 in
theorem pv3 {K : Nat → Prop} (b : Nat) (us : List Un) (g : Int) (k : Int) (u p q pl : Int) (w : World) (h : TabQ K b us g w) (hc : checkN ⟨k, u, p, q⟩ = 0) (hk : (k == 3) = false) (n : Nat) (hn : FindIs us u n) (hq : foundQ us u n = false) :
    Calls Try.prog 9 #[.agg #[.int .i64 k, .int .i64 u, .int .i64 p, .int .i64 q], .pointer (some ⟨b, 0, none⟩), .int .i64 pl] w fun r w' => r = .returned (.int .i64 9) ∧ Below w.heap.size w w' := by
  have HC := Lib.hid (fun W => ordCheck_any ⟨k, u, p, q⟩ W)
  unfold ordV at HC
  simp only at HC
  have HQ := Lib.hid h
  rw [hc] at HC
  have HU := Lib.hid (fun (W : World) (hh : TabQ K b us g W) => tabUnit_none b us g u n W hh hn hq)
  clear hc hn hq
  unfold unV at HU
  simp only at HU
  clear h
  go_enter Try.func9, Try.ntmps9
  go_wp2_with fail
  refine (HC.out _).mono ?_
  rintro r w1 ⟨rfl, hb1⟩
  have x0 : w1.cell? ⟨w.heap.size, 0, none⟩ = some (.int .i64 k) := (hb1.cell (p := ⟨w.heap.size, 0, none⟩) (by simp)).trans (by simp)
  have x1 : w1.cell? ⟨w.heap.size, 1, none⟩ = some (.int .i64 u) := (hb1.cell (p := ⟨w.heap.size, 1, none⟩) (by simp)).trans (by simp)
  have x2 : w1.cell? ⟨w.heap.size, 2, none⟩ = some (.int .i64 p) := (hb1.cell (p := ⟨w.heap.size, 2, none⟩) (by simp)).trans (by simp)
  have hX := block_lt_of_cell x0
  simp only at hX
  have HB1 := Lib.hid (show Below w.heap.size w w1 from (bel_alloc (Below.refl _ w) _).trans (hb1.mono (by simp)))
  clear hb1 HC
  go_wp2_with fail
  refine (HU.out w1 (HQ.out.below HB1.out)).mono ?_
  rintro r w2 ⟨rfl, hb2⟩
  have HB2 := Lib.hid (bel_alloc (HB1.out.trans (hb2.mono HB1.out.size)) (.cells #[.int .i64 0, .int .i64 0, .int .i64 0, .int .i64 0, .int .i64 0, .int .i64 0] 61))
  clear hb2 x0 x1 x2
  go_wp2
  go_ret
  exact ⟨rfl, HB2.out⟩
set_option maxRecDepth 100000 in
theorem pv4 {K : Nat → Prop} (b : Nat) (us : List Un) (g : Int) (k : Int) (u p q pl : Int) (w : World) (h : TabQ K b us g w) (hc : checkN ⟨k, u, p, q⟩ = 0) (hk : (k == 3) = false) (n : Nat) (hn : FindIs us u n) (hlt : n < us.length) (he : us[n].id = u) (hp : (us[n].owner != pl) = true) :
    Calls Try.prog 9 #[.agg #[.int .i64 k, .int .i64 u, .int .i64 p, .int .i64 q], .pointer (some ⟨b, 0, none⟩), .int .i64 pl] w fun r w' => r = .returned (.int .i64 13) ∧ Below w.heap.size w w' := by
  have HC := Lib.hid (fun W => ordCheck_any ⟨k, u, p, q⟩ W)
  unfold ordV at HC
  simp only at HC
  have HQ := Lib.hid h
  rw [hc] at HC
  have HU := Lib.hid (fun (W : World) (hh : TabQ K b us g W) => tabUnit_some b us g u n W hh hn hlt he)
  clear hc hn he
  generalize us[n] = uu at HU hp
  obtain ⟨u0, u1, u2, u3, u4, u5⟩ := uu
  unfold unV at HU
  simp only at HU hp
  clear h
  go_enter Try.func9, Try.ntmps9
  go_wp2_with fail
  refine (HC.out _).mono ?_
  rintro r w1 ⟨rfl, hb1⟩
  have x0 : w1.cell? ⟨w.heap.size, 0, none⟩ = some (.int .i64 k) := (hb1.cell (p := ⟨w.heap.size, 0, none⟩) (by simp)).trans (by simp)
  have x1 : w1.cell? ⟨w.heap.size, 1, none⟩ = some (.int .i64 u) := (hb1.cell (p := ⟨w.heap.size, 1, none⟩) (by simp)).trans (by simp)
  have x2 : w1.cell? ⟨w.heap.size, 2, none⟩ = some (.int .i64 p) := (hb1.cell (p := ⟨w.heap.size, 2, none⟩) (by simp)).trans (by simp)
  have hX := block_lt_of_cell x0
  simp only at hX
  have HB1 := Lib.hid (show Below w.heap.size w w1 from (bel_alloc (Below.refl _ w) _).trans (hb1.mono (by simp)))
  clear hb1 HC
  go_wp2_with fail
  refine (HU.out w1 (HQ.out.below HB1.out)).mono ?_
  rintro r w2 ⟨rfl, hb2⟩
  replace x0 := (hb2.cell (p := ⟨w.heap.size, 0, none⟩) hX).trans x0
  replace x2 := (hb2.cell (p := ⟨w.heap.size, 2, none⟩) hX).trans x2
  have hX2 := block_lt_of_cell x0
  simp only at hX2
  have HB2 := Lib.hid (bel_alloc (HB1.out.trans (hb2.mono HB1.out.size)) (.cells #[.int .i64 u0, .int .i64 u1, .int .i64 u2, .int .i64 u3, .int .i64 u4, .int .i64 u5] 61))
  clear hb2
  go_wp2
  go_ret
  exact ⟨rfl, HB2.out⟩
set_option maxRecDepth 100000 in
theorem pv5 {K : Nat → Prop} (b : Nat) (us : List Un) (g : Int) (k : Int) (u p q pl : Int) (w : World) (h : TabQ K b us g w) (hc : checkN ⟨k, u, p, q⟩ = 0) (hk : (k == 3) = false) (hk2 : (k == 2) = false) (n : Nat) (hn : FindIs us u n) (hlt : n < us.length) (he : us[n].id = u) (hp : (us[n].owner != pl) = false) :
    Calls Try.prog 9 #[.agg #[.int .i64 k, .int .i64 u, .int .i64 p, .int .i64 q], .pointer (some ⟨b, 0, none⟩), .int .i64 pl] w fun r w' => r = .returned (.int .i64 0) ∧ Below w.heap.size w w' := by
  have HC := Lib.hid (fun W => ordCheck_any ⟨k, u, p, q⟩ W)
  unfold ordV at HC
  simp only at HC
  have HQ := Lib.hid h
  rw [hc] at HC
  have HU := Lib.hid (fun (W : World) (hh : TabQ K b us g W) => tabUnit_some b us g u n W hh hn hlt he)
  clear hc hn he
  generalize us[n] = uu at HU hp
  obtain ⟨u0, u1, u2, u3, u4, u5⟩ := uu
  unfold unV at HU
  simp only at HU hp
  clear h
  go_enter Try.func9, Try.ntmps9
  go_wp2_with fail
  refine (HC.out _).mono ?_
  rintro r w1 ⟨rfl, hb1⟩
  have x0 : w1.cell? ⟨w.heap.size, 0, none⟩ = some (.int .i64 k) := (hb1.cell (p := ⟨w.heap.size, 0, none⟩) (by simp)).trans (by simp)
  have x1 : w1.cell? ⟨w.heap.size, 1, none⟩ = some (.int .i64 u) := (hb1.cell (p := ⟨w.heap.size, 1, none⟩) (by simp)).trans (by simp)
  have x2 : w1.cell? ⟨w.heap.size, 2, none⟩ = some (.int .i64 p) := (hb1.cell (p := ⟨w.heap.size, 2, none⟩) (by simp)).trans (by simp)
  have hX := block_lt_of_cell x0
  simp only at hX
  have HB1 := Lib.hid (show Below w.heap.size w w1 from (bel_alloc (Below.refl _ w) _).trans (hb1.mono (by simp)))
  clear hb1 HC
  go_wp2_with fail
  refine (HU.out w1 (HQ.out.below HB1.out)).mono ?_
  rintro r w2 ⟨rfl, hb2⟩
  replace x0 := (hb2.cell (p := ⟨w.heap.size, 0, none⟩) hX).trans x0
  replace x2 := (hb2.cell (p := ⟨w.heap.size, 2, none⟩) hX).trans x2
  have hX2 := block_lt_of_cell x0
  simp only at hX2
  have HB2 := Lib.hid (bel_alloc (HB1.out.trans (hb2.mono HB1.out.size)) (.cells #[.int .i64 u0, .int .i64 u1, .int .i64 u2, .int .i64 u3, .int .i64 u4, .int .i64 u5] 61))
  clear hb2
  go_wp2
  go_ret
  exact ⟨rfl, HB2.out⟩
set_option maxRecDepth 100000 in
theorem pv6 {K : Nat → Prop} (b : Nat) (us : List Un) (g : Int) (u p q pl : Int) (w : World) (h : TabQ K b us g w) (hc : checkN ⟨2, u, p, q⟩ = 0) (n : Nat) (hn : FindIs us u n) (hlt : n < us.length) (he : us[n].id = u) (hp : (us[n].owner != pl) = false) (v : Nat) (hh : ∀ W, TabQ K b us g W → Calls Try.prog 25 #[.pointer (some ⟨b, 0, none⟩), .int .i64 p, .int .i64 pl] W fun r w' => r = .returned (.int .i64 (v : Nat)) ∧ Below W.heap.size W w') :
    Calls Try.prog 9 #[.agg #[.int .i64 2, .int .i64 u, .int .i64 p, .int .i64 q], .pointer (some ⟨b, 0, none⟩), .int .i64 pl] w fun r w' => r = .returned (.int .i64 (v : Nat)) ∧ Below w.heap.size w w' := by
  have HC := Lib.hid (fun W => ordCheck_any ⟨2, u, p, q⟩ W)
  unfold ordV at HC
  simp only at HC
  have HQ := Lib.hid h
  rw [hc] at HC
  have HU := Lib.hid (fun (W : World) (hh : TabQ K b us g W) => tabUnit_some b us g u n W hh hn hlt he)
  clear hc hn he
  generalize us[n] = uu at HU hp
  obtain ⟨u0, u1, u2, u3, u4, u5⟩ := uu
  unfold unV at HU
  simp only at HU hp
  have HH := Lib.hid hh
  clear hh
  clear h
  go_enter Try.func9, Try.ntmps9
  go_wp2_with fail
  refine (HC.out _).mono ?_
  rintro r w1 ⟨rfl, hb1⟩
  have x0 : w1.cell? ⟨w.heap.size, 0, none⟩ = some (.int .i64 2) := (hb1.cell (p := ⟨w.heap.size, 0, none⟩) (by simp)).trans (by simp)
  have x1 : w1.cell? ⟨w.heap.size, 1, none⟩ = some (.int .i64 u) := (hb1.cell (p := ⟨w.heap.size, 1, none⟩) (by simp)).trans (by simp)
  have x2 : w1.cell? ⟨w.heap.size, 2, none⟩ = some (.int .i64 p) := (hb1.cell (p := ⟨w.heap.size, 2, none⟩) (by simp)).trans (by simp)
  have hX := block_lt_of_cell x0
  simp only at hX
  have HB1 := Lib.hid (show Below w.heap.size w w1 from (bel_alloc (Below.refl _ w) _).trans (hb1.mono (by simp)))
  clear hb1 HC
  go_wp2_with fail
  refine (HU.out w1 (HQ.out.below HB1.out)).mono ?_
  rintro r w2 ⟨rfl, hb2⟩
  replace x0 := (hb2.cell (p := ⟨w.heap.size, 0, none⟩) hX).trans x0
  replace x2 := (hb2.cell (p := ⟨w.heap.size, 2, none⟩) hX).trans x2
  have hX2 := block_lt_of_cell x0
  simp only at hX2
  have HB2 := Lib.hid (bel_alloc (HB1.out.trans (hb2.mono HB1.out.size)) (.cells #[.int .i64 u0, .int .i64 u1, .int .i64 u2, .int .i64 u3, .int .i64 u4, .int .i64 u5] 61))
  have HQ2 := Lib.hid (HQ.out.below HB2.out)
  clear hb2
  go_wp2_with fail
  refine (HH.out _ HQ2.out).mono ?_
  rintro r w3 ⟨rfl, hb3⟩
  have HB3 := Lib.hid (HB2.out.trans (hb3.mono HB2.out.size))
  clear hb3
  go_wp2
  go_ret
  exact ⟨rfl, HB3.out⟩
set_option maxRecDepth 100000 in
set_option maxHeartbeats 1000000 in
theorem rv1 (a : Option Addr) (c : Nat) (us : List Un) (nx : Int) (k : Int) (u p q pl : Int) (w : World) (hl : us.length ≤ 64) (hrise : Rising us) (h : RT w a c us) (n : Nat) (hc : checkN ⟨k, u, p, q⟩ = n) (hn : n ≠ 0) :
    Calls Try.prog 10 #[.agg #[.int .i64 k, .int .i64 u, .int .i64 p, .int .i64 q], .agg #[.slice a us.length c, .int .i64 nx], .int .i64 pl] w fun r w' => r = .returned (.int .i64 (n : Nat)) ∧ Below w.heap.size w w' := by
  have HC := Lib.hid (fun W => refOrdCheck_any ⟨k, u, p, q⟩ W)
  unfold ordV at HC
  simp only at HC
  have HR := Lib.hid h.row
  rw [hc] at HC
  have hnb : ((n : Int) != 0) = true := by simp; omega
  clear hc hn
  clear h
  go_enter Try.func10, Try.ntmps10
  go_wp2_with fail
  refine (HC.out _).mono ?_
  rintro r w1 ⟨rfl, hb1⟩
  have hB0 : Below w.heap.size w ((w.alloc (.cells #[.int .i64 k, .int .i64 u, .int .i64 p, .int .i64 q] 38)).alloc (.cells #[.slice a us.length c, .int .i64 nx] 30)) := bel_alloc (bel_alloc (Below.refl _ w) _) _
  have x0 : w1.cell? ⟨w.heap.size, 0, none⟩ = some (.int .i64 k) := (hb1.cell (p := ⟨w.heap.size, 0, none⟩) (by simp; omega)).trans (by repeat' (first | exact new_cell (by first | rfl | (simp; done)) rfl | with_reducible refine alloc_cell ?_ _))
  have x1 : w1.cell? ⟨w.heap.size, 1, none⟩ = some (.int .i64 u) := (hb1.cell (p := ⟨w.heap.size, 1, none⟩) (by simp; omega)).trans (by repeat' (first | exact new_cell (by first | rfl | (simp; done)) rfl | with_reducible refine alloc_cell ?_ _))
  have x2 : w1.cell? ⟨w.heap.size, 2, none⟩ = some (.int .i64 p) := (hb1.cell (p := ⟨w.heap.size, 2, none⟩) (by simp; omega)).trans (by repeat' (first | exact new_cell (by first | rfl | (simp; done)) rfl | with_reducible refine alloc_cell ?_ _))
  have x3 : w1.cell? ⟨w.heap.size, 3, none⟩ = some (.int .i64 q) := (hb1.cell (p := ⟨w.heap.size, 3, none⟩) (by simp; omega)).trans (by repeat' (first | exact new_cell (by first | rfl | (simp; done)) rfl | with_reducible refine alloc_cell ?_ _))
  have t0 : w1.cell? ⟨w.heap.size + 1, 0, none⟩ = some (.slice a us.length c) := (hb1.cell (p := ⟨w.heap.size + 1, 0, none⟩) (by simp)).trans (by repeat' (first | exact new_cell (by first | rfl | (simp; done)) rfl | with_reducible refine alloc_cell ?_ _))
  have t1 : w1.cell? ⟨w.heap.size + 1, 1, none⟩ = some (.int .i64 nx) := (hb1.cell (p := ⟨w.heap.size + 1, 1, none⟩) (by simp)).trans (by repeat' (first | exact new_cell (by first | rfl | (simp; done)) rfl | with_reducible refine alloc_cell ?_ _))
  have hX := block_lt_of_cell x0
  have hT := block_lt_of_cell t0
  simp only at hX hT
  have HB1 := Lib.hid (show Below w.heap.size w w1 from hB0.trans (hb1.mono hB0.size))
  clear hb1 hB0
  go_wp2_with fail
  refine (HC.out _).mono ?_
  rintro r w2 ⟨rfl, hb2⟩
  have HB2 := Lib.hid (HB1.out.trans (hb2.mono HB1.out.size))
  clear hb2
  go_wp2
  go_ret
  exact ⟨rfl, HB2.out⟩
set_option maxRecDepth 100000 in
set_option maxHeartbeats 1000000 in
theorem rv2 (a : Option Addr) (c : Nat) (us : List Un) (nx : Int) (u p q pl : Int) (w : World) (hl : us.length ≤ 64) (hrise : Rising us) (h : RT w a c us) (hc : checkN ⟨3, u, p, q⟩ = 0) :
    Calls Try.prog 10 #[.agg #[.int .i64 3, .int .i64 u, .int .i64 p, .int .i64 q], .agg #[.slice a us.length c, .int .i64 nx], .int .i64 pl] w fun r w' => r = .returned (.int .i64 0) ∧ Below w.heap.size w w' := by
  have HC := Lib.hid (fun W => refOrdCheck_any ⟨3, u, p, q⟩ W)
  unfold ordV at HC
  simp only at HC
  have HR := Lib.hid h.row
  rw [hc] at HC
  clear hc
  clear h
  go_enter Try.func10, Try.ntmps10
  go_wp2_with fail
  refine (HC.out _).mono ?_
  rintro r w1 ⟨rfl, hb1⟩
  have hB0 : Below w.heap.size w ((w.alloc (.cells #[.int .i64 3, .int .i64 u, .int .i64 p, .int .i64 q] 38)).alloc (.cells #[.slice a us.length c, .int .i64 nx] 30)) := bel_alloc (bel_alloc (Below.refl _ w) _) _
  have x0 : w1.cell? ⟨w.heap.size, 0, none⟩ = some (.int .i64 3) := (hb1.cell (p := ⟨w.heap.size, 0, none⟩) (by simp; omega)).trans (by repeat' (first | exact new_cell (by first | rfl | (simp; done)) rfl | with_reducible refine alloc_cell ?_ _))
  have x1 : w1.cell? ⟨w.heap.size, 1, none⟩ = some (.int .i64 u) := (hb1.cell (p := ⟨w.heap.size, 1, none⟩) (by simp; omega)).trans (by repeat' (first | exact new_cell (by first | rfl | (simp; done)) rfl | with_reducible refine alloc_cell ?_ _))
  have x2 : w1.cell? ⟨w.heap.size, 2, none⟩ = some (.int .i64 p) := (hb1.cell (p := ⟨w.heap.size, 2, none⟩) (by simp; omega)).trans (by repeat' (first | exact new_cell (by first | rfl | (simp; done)) rfl | with_reducible refine alloc_cell ?_ _))
  have x3 : w1.cell? ⟨w.heap.size, 3, none⟩ = some (.int .i64 q) := (hb1.cell (p := ⟨w.heap.size, 3, none⟩) (by simp; omega)).trans (by repeat' (first | exact new_cell (by first | rfl | (simp; done)) rfl | with_reducible refine alloc_cell ?_ _))
  have t0 : w1.cell? ⟨w.heap.size + 1, 0, none⟩ = some (.slice a us.length c) := (hb1.cell (p := ⟨w.heap.size + 1, 0, none⟩) (by simp)).trans (by repeat' (first | exact new_cell (by first | rfl | (simp; done)) rfl | with_reducible refine alloc_cell ?_ _))
  have t1 : w1.cell? ⟨w.heap.size + 1, 1, none⟩ = some (.int .i64 nx) := (hb1.cell (p := ⟨w.heap.size + 1, 1, none⟩) (by simp)).trans (by repeat' (first | exact new_cell (by first | rfl | (simp; done)) rfl | with_reducible refine alloc_cell ?_ _))
  have hX := block_lt_of_cell x0
  have hT := block_lt_of_cell t0
  simp only at hX hT
  have HB1 := Lib.hid (show Below w.heap.size w w1 from hB0.trans (hb1.mono hB0.size))
  clear hb1 hB0
  go_wp2_with fail
  refine (HC.out _).mono ?_
  rintro r w2 ⟨rfl, hb2⟩
  have HB2 := Lib.hid (HB1.out.trans (hb2.mono HB1.out.size))
  clear hb2
  go_wp2
  go_ret
  exact ⟨rfl, HB2.out⟩
set_option maxRecDepth 100000 in
set_option maxHeartbeats 1000000 in
theorem rv3 (a : Option Addr) (c : Nat) (us : List Un) (nx : Int) (k : Int) (u p q pl : Int) (w : World) (hl : us.length ≤ 64) (hrise : Rising us) (h : RT w a c us) (hc : checkN ⟨k, u, p, q⟩ = 0) (hk : (k == 3) = false) (n : Nat) (hn : FindIs us u n) (hq : foundQ us u n = false) :
    Calls Try.prog 10 #[.agg #[.int .i64 k, .int .i64 u, .int .i64 p, .int .i64 q], .agg #[.slice a us.length c, .int .i64 nx], .int .i64 pl] w fun r w' => r = .returned (.int .i64 9) ∧ Below w.heap.size w w' := by
  have HC := Lib.hid (fun W => refOrdCheck_any ⟨k, u, p, q⟩ W)
  unfold ordV at HC
  simp only at HC
  have HR := Lib.hid h.row
  rw [hc] at HC
  have HF := Lib.hid (fun W hr => refFind_any a c us nx u n W (by omega) hrise hr hn)
  rw [show findR us u n = -1 by unfold findR; rw [hq]; rfl] at HF
  clear hc hn hq
  clear h
  go_enter Try.func10, Try.ntmps10
  go_wp2_with fail
  refine (HC.out _).mono ?_
  rintro r w1 ⟨rfl, hb1⟩
  have hB0 : Below w.heap.size w ((w.alloc (.cells #[.int .i64 k, .int .i64 u, .int .i64 p, .int .i64 q] 38)).alloc (.cells #[.slice a us.length c, .int .i64 nx] 30)) := bel_alloc (bel_alloc (Below.refl _ w) _) _
  have x0 : w1.cell? ⟨w.heap.size, 0, none⟩ = some (.int .i64 k) := (hb1.cell (p := ⟨w.heap.size, 0, none⟩) (by simp; omega)).trans (by repeat' (first | exact new_cell (by first | rfl | (simp; done)) rfl | with_reducible refine alloc_cell ?_ _))
  have x1 : w1.cell? ⟨w.heap.size, 1, none⟩ = some (.int .i64 u) := (hb1.cell (p := ⟨w.heap.size, 1, none⟩) (by simp; omega)).trans (by repeat' (first | exact new_cell (by first | rfl | (simp; done)) rfl | with_reducible refine alloc_cell ?_ _))
  have x2 : w1.cell? ⟨w.heap.size, 2, none⟩ = some (.int .i64 p) := (hb1.cell (p := ⟨w.heap.size, 2, none⟩) (by simp; omega)).trans (by repeat' (first | exact new_cell (by first | rfl | (simp; done)) rfl | with_reducible refine alloc_cell ?_ _))
  have x3 : w1.cell? ⟨w.heap.size, 3, none⟩ = some (.int .i64 q) := (hb1.cell (p := ⟨w.heap.size, 3, none⟩) (by simp; omega)).trans (by repeat' (first | exact new_cell (by first | rfl | (simp; done)) rfl | with_reducible refine alloc_cell ?_ _))
  have t0 : w1.cell? ⟨w.heap.size + 1, 0, none⟩ = some (.slice a us.length c) := (hb1.cell (p := ⟨w.heap.size + 1, 0, none⟩) (by simp)).trans (by repeat' (first | exact new_cell (by first | rfl | (simp; done)) rfl | with_reducible refine alloc_cell ?_ _))
  have t1 : w1.cell? ⟨w.heap.size + 1, 1, none⟩ = some (.int .i64 nx) := (hb1.cell (p := ⟨w.heap.size + 1, 1, none⟩) (by simp)).trans (by repeat' (first | exact new_cell (by first | rfl | (simp; done)) rfl | with_reducible refine alloc_cell ?_ _))
  have hX := block_lt_of_cell x0
  have hT := block_lt_of_cell t0
  simp only at hX hT
  have HB1 := Lib.hid (show Below w.heap.size w w1 from hB0.trans (hb1.mono hB0.size))
  clear hb1 hB0
  go_wp2_with fail
  refine (HF.out w1 (HR.out.below HB1.out)).mono ?_
  rintro r w2 ⟨rfl, hb2⟩
  have HB2 := Lib.hid (HB1.out.trans (hb2.mono HB1.out.size))
  replace x0 := (hb2.cell (p := ⟨w.heap.size, 0, none⟩) hX).trans x0
  replace x2 := (hb2.cell (p := ⟨w.heap.size, 2, none⟩) hX).trans x2
  replace t0 := (hb2.cell (p := ⟨w.heap.size + 1, 0, none⟩) hT).trans t0
  replace t1 := (hb2.cell (p := ⟨w.heap.size + 1, 1, none⟩) hT).trans t1
  have hX2 := block_lt_of_cell x0
  have hT2 := block_lt_of_cell t0
  simp only at hX2 hT2
  clear hb2
  go_wp2
  go_ret
  exact ⟨rfl, HB2.out⟩
set_option maxRecDepth 100000 in
set_option maxHeartbeats 1000000 in
theorem rv4 (a : Option Addr) (c : Nat) (us : List Un) (nx : Int) (k : Int) (u p q pl : Int) (w : World) (hl : us.length ≤ 64) (hrise : Rising us) (h : RT w a c us) (hc : checkN ⟨k, u, p, q⟩ = 0) (hk : (k == 3) = false) (n : Nat) (hn : FindIs us u n) (hlt : n < us.length) (he : us[n].id = u) (hp : (us[n].owner != pl) = true) :
    Calls Try.prog 10 #[.agg #[.int .i64 k, .int .i64 u, .int .i64 p, .int .i64 q], .agg #[.slice a us.length c, .int .i64 nx], .int .i64 pl] w fun r w' => r = .returned (.int .i64 13) ∧ Below w.heap.size w w' := by
  have HC := Lib.hid (fun W => refOrdCheck_any ⟨k, u, p, q⟩ W)
  unfold ordV at HC
  simp only at HC
  have HR := Lib.hid h.row
  rw [hc] at HC
  have HF := Lib.hid (fun W hr => refFind_any a c us nx u n W (by omega) hrise hr hn)
  rw [show findR us u n = (n : Int) by unfold findR; rw [foundQ_lt hlt]; simp [he]] at HF
  have dn : decide ((n : Int) < 0) = false := by simp
  clear hc hn he
  clear h
  go_enter Try.func10, Try.ntmps10
  go_wp2_with fail
  refine (HC.out _).mono ?_
  rintro r w1 ⟨rfl, hb1⟩
  have hB0 : Below w.heap.size w ((w.alloc (.cells #[.int .i64 k, .int .i64 u, .int .i64 p, .int .i64 q] 38)).alloc (.cells #[.slice a us.length c, .int .i64 nx] 30)) := bel_alloc (bel_alloc (Below.refl _ w) _) _
  have x0 : w1.cell? ⟨w.heap.size, 0, none⟩ = some (.int .i64 k) := (hb1.cell (p := ⟨w.heap.size, 0, none⟩) (by simp; omega)).trans (by repeat' (first | exact new_cell (by first | rfl | (simp; done)) rfl | with_reducible refine alloc_cell ?_ _))
  have x1 : w1.cell? ⟨w.heap.size, 1, none⟩ = some (.int .i64 u) := (hb1.cell (p := ⟨w.heap.size, 1, none⟩) (by simp; omega)).trans (by repeat' (first | exact new_cell (by first | rfl | (simp; done)) rfl | with_reducible refine alloc_cell ?_ _))
  have x2 : w1.cell? ⟨w.heap.size, 2, none⟩ = some (.int .i64 p) := (hb1.cell (p := ⟨w.heap.size, 2, none⟩) (by simp; omega)).trans (by repeat' (first | exact new_cell (by first | rfl | (simp; done)) rfl | with_reducible refine alloc_cell ?_ _))
  have x3 : w1.cell? ⟨w.heap.size, 3, none⟩ = some (.int .i64 q) := (hb1.cell (p := ⟨w.heap.size, 3, none⟩) (by simp; omega)).trans (by repeat' (first | exact new_cell (by first | rfl | (simp; done)) rfl | with_reducible refine alloc_cell ?_ _))
  have t0 : w1.cell? ⟨w.heap.size + 1, 0, none⟩ = some (.slice a us.length c) := (hb1.cell (p := ⟨w.heap.size + 1, 0, none⟩) (by simp)).trans (by repeat' (first | exact new_cell (by first | rfl | (simp; done)) rfl | with_reducible refine alloc_cell ?_ _))
  have t1 : w1.cell? ⟨w.heap.size + 1, 1, none⟩ = some (.int .i64 nx) := (hb1.cell (p := ⟨w.heap.size + 1, 1, none⟩) (by simp)).trans (by repeat' (first | exact new_cell (by first | rfl | (simp; done)) rfl | with_reducible refine alloc_cell ?_ _))
  have hX := block_lt_of_cell x0
  have hT := block_lt_of_cell t0
  simp only at hX hT
  have HB1 := Lib.hid (show Below w.heap.size w w1 from hB0.trans (hb1.mono hB0.size))
  clear hb1 hB0
  go_wp2_with fail
  refine (HF.out w1 (HR.out.below HB1.out)).mono ?_
  rintro r w2 ⟨rfl, hb2⟩
  have HB2 := Lib.hid (HB1.out.trans (hb2.mono HB1.out.size))
  replace x0 := (hb2.cell (p := ⟨w.heap.size, 0, none⟩) hX).trans x0
  replace x2 := (hb2.cell (p := ⟨w.heap.size, 2, none⟩) hX).trans x2
  replace t0 := (hb2.cell (p := ⟨w.heap.size + 1, 0, none⟩) hT).trans t0
  replace t1 := (hb2.cell (p := ⟨w.heap.size + 1, 1, none⟩) hT).trans t1
  have hX2 := block_lt_of_cell x0
  have hT2 := block_lt_of_cell t0
  simp only at hX2 hT2
  obtain ⟨gb, off, rfl, hgb, -, -, e2, -⟩ := (HR.out.below HB2.out).at hlt
  generalize us[n] = uu at e2 hp
  generalize uu.owner = ow at e2 hp
  clear hb2
  go_wp2
  go_ret
  exact ⟨rfl, HB2.out⟩
set_option maxRecDepth 100000 in
set_option maxHeartbeats 1000000 in
theorem rv5 (a : Option Addr) (c : Nat) (us : List Un) (nx : Int) (k : Int) (u p q pl : Int) (w : World) (hl : us.length ≤ 64) (hrise : Rising us) (h : RT w a c us) (hc : checkN ⟨k, u, p, q⟩ = 0) (hk : (k == 3) = false) (hk2 : (k != 2) = true) (n : Nat) (hn : FindIs us u n) (hlt : n < us.length) (he : us[n].id = u) (hp : (us[n].owner != pl) = false) :
    Calls Try.prog 10 #[.agg #[.int .i64 k, .int .i64 u, .int .i64 p, .int .i64 q], .agg #[.slice a us.length c, .int .i64 nx], .int .i64 pl] w fun r w' => r = .returned (.int .i64 0) ∧ Below w.heap.size w w' := by
  have HC := Lib.hid (fun W => refOrdCheck_any ⟨k, u, p, q⟩ W)
  unfold ordV at HC
  simp only at HC
  have HR := Lib.hid h.row
  rw [hc] at HC
  have HF := Lib.hid (fun W hr => refFind_any a c us nx u n W (by omega) hrise hr hn)
  rw [show findR us u n = (n : Int) by unfold findR; rw [foundQ_lt hlt]; simp [he]] at HF
  have dn : decide ((n : Int) < 0) = false := by simp
  clear hc hn he
  clear h
  go_enter Try.func10, Try.ntmps10
  go_wp2_with fail
  refine (HC.out _).mono ?_
  rintro r w1 ⟨rfl, hb1⟩
  have hB0 : Below w.heap.size w ((w.alloc (.cells #[.int .i64 k, .int .i64 u, .int .i64 p, .int .i64 q] 38)).alloc (.cells #[.slice a us.length c, .int .i64 nx] 30)) := bel_alloc (bel_alloc (Below.refl _ w) _) _
  have x0 : w1.cell? ⟨w.heap.size, 0, none⟩ = some (.int .i64 k) := (hb1.cell (p := ⟨w.heap.size, 0, none⟩) (by simp; omega)).trans (by repeat' (first | exact new_cell (by first | rfl | (simp; done)) rfl | with_reducible refine alloc_cell ?_ _))
  have x1 : w1.cell? ⟨w.heap.size, 1, none⟩ = some (.int .i64 u) := (hb1.cell (p := ⟨w.heap.size, 1, none⟩) (by simp; omega)).trans (by repeat' (first | exact new_cell (by first | rfl | (simp; done)) rfl | with_reducible refine alloc_cell ?_ _))
  have x2 : w1.cell? ⟨w.heap.size, 2, none⟩ = some (.int .i64 p) := (hb1.cell (p := ⟨w.heap.size, 2, none⟩) (by simp; omega)).trans (by repeat' (first | exact new_cell (by first | rfl | (simp; done)) rfl | with_reducible refine alloc_cell ?_ _))
  have x3 : w1.cell? ⟨w.heap.size, 3, none⟩ = some (.int .i64 q) := (hb1.cell (p := ⟨w.heap.size, 3, none⟩) (by simp; omega)).trans (by repeat' (first | exact new_cell (by first | rfl | (simp; done)) rfl | with_reducible refine alloc_cell ?_ _))
  have t0 : w1.cell? ⟨w.heap.size + 1, 0, none⟩ = some (.slice a us.length c) := (hb1.cell (p := ⟨w.heap.size + 1, 0, none⟩) (by simp)).trans (by repeat' (first | exact new_cell (by first | rfl | (simp; done)) rfl | with_reducible refine alloc_cell ?_ _))
  have t1 : w1.cell? ⟨w.heap.size + 1, 1, none⟩ = some (.int .i64 nx) := (hb1.cell (p := ⟨w.heap.size + 1, 1, none⟩) (by simp)).trans (by repeat' (first | exact new_cell (by first | rfl | (simp; done)) rfl | with_reducible refine alloc_cell ?_ _))
  have hX := block_lt_of_cell x0
  have hT := block_lt_of_cell t0
  simp only at hX hT
  have HB1 := Lib.hid (show Below w.heap.size w w1 from hB0.trans (hb1.mono hB0.size))
  clear hb1 hB0
  go_wp2_with fail
  refine (HF.out w1 (HR.out.below HB1.out)).mono ?_
  rintro r w2 ⟨rfl, hb2⟩
  have HB2 := Lib.hid (HB1.out.trans (hb2.mono HB1.out.size))
  replace x0 := (hb2.cell (p := ⟨w.heap.size, 0, none⟩) hX).trans x0
  replace x2 := (hb2.cell (p := ⟨w.heap.size, 2, none⟩) hX).trans x2
  replace t0 := (hb2.cell (p := ⟨w.heap.size + 1, 0, none⟩) hT).trans t0
  replace t1 := (hb2.cell (p := ⟨w.heap.size + 1, 1, none⟩) hT).trans t1
  have hX2 := block_lt_of_cell x0
  have hT2 := block_lt_of_cell t0
  simp only at hX2 hT2
  obtain ⟨gb, off, rfl, hgb, -, -, e2, -⟩ := (HR.out.below HB2.out).at hlt
  generalize us[n] = uu at e2 hp
  generalize uu.owner = ow at e2 hp
  clear hb2
  go_wp2
  go_ret
  exact ⟨rfl, HB2.out⟩
set_option maxRecDepth 100000 in
set_option maxHeartbeats 1000000 in
theorem rv6 (a : Option Addr) (c : Nat) (us : List Un) (nx : Int) (u p q pl : Int) (w : World) (hl : us.length ≤ 64) (hrise : Rising us) (h : RT w a c us) (hc : checkN ⟨2, u, p, q⟩ = 0) (n : Nat) (hn : FindIs us u n) (hlt : n < us.length) (he : us[n].id = u) (hp : (us[n].owner != pl) = false) (n2 : Nat) (hn2 : FindIs us p n2) (hq2 : foundQ us p n2 = false) :
    Calls Try.prog 10 #[.agg #[.int .i64 2, .int .i64 u, .int .i64 p, .int .i64 q], .agg #[.slice a us.length c, .int .i64 nx], .int .i64 pl] w fun r w' => r = .returned (.int .i64 9) ∧ Below w.heap.size w w' := by
  have HC := Lib.hid (fun W => refOrdCheck_any ⟨2, u, p, q⟩ W)
  unfold ordV at HC
  simp only at HC
  have HR := Lib.hid h.row
  rw [hc] at HC
  have HF := Lib.hid (fun W hr => refFind_any a c us nx u n W (by omega) hrise hr hn)
  rw [show findR us u n = (n : Int) by unfold findR; rw [foundQ_lt hlt]; simp [he]] at HF
  have dn : decide ((n : Int) < 0) = false := by simp
  clear hc hn he
  have HF2 := Lib.hid (fun W hr => refFind_any a c us nx p n2 W (by omega) hrise hr hn2)
  rw [show findR us p n2 = -1 by unfold findR; rw [hq2]; rfl] at HF2
  clear hn2 hq2
  clear h
  go_enter Try.func10, Try.ntmps10
  go_wp2_with fail
  refine (HC.out _).mono ?_
  rintro r w1 ⟨rfl, hb1⟩
  have hB0 : Below w.heap.size w ((w.alloc (.cells #[.int .i64 2, .int .i64 u, .int .i64 p, .int .i64 q] 38)).alloc (.cells #[.slice a us.length c, .int .i64 nx] 30)) := bel_alloc (bel_alloc (Below.refl _ w) _) _
  have x0 : w1.cell? ⟨w.heap.size, 0, none⟩ = some (.int .i64 2) := (hb1.cell (p := ⟨w.heap.size, 0, none⟩) (by simp; omega)).trans (by repeat' (first | exact new_cell (by first | rfl | (simp; done)) rfl | with_reducible refine alloc_cell ?_ _))
  have x1 : w1.cell? ⟨w.heap.size, 1, none⟩ = some (.int .i64 u) := (hb1.cell (p := ⟨w.heap.size, 1, none⟩) (by simp; omega)).trans (by repeat' (first | exact new_cell (by first | rfl | (simp; done)) rfl | with_reducible refine alloc_cell ?_ _))
  have x2 : w1.cell? ⟨w.heap.size, 2, none⟩ = some (.int .i64 p) := (hb1.cell (p := ⟨w.heap.size, 2, none⟩) (by simp; omega)).trans (by repeat' (first | exact new_cell (by first | rfl | (simp; done)) rfl | with_reducible refine alloc_cell ?_ _))
  have x3 : w1.cell? ⟨w.heap.size, 3, none⟩ = some (.int .i64 q) := (hb1.cell (p := ⟨w.heap.size, 3, none⟩) (by simp; omega)).trans (by repeat' (first | exact new_cell (by first | rfl | (simp; done)) rfl | with_reducible refine alloc_cell ?_ _))
  have t0 : w1.cell? ⟨w.heap.size + 1, 0, none⟩ = some (.slice a us.length c) := (hb1.cell (p := ⟨w.heap.size + 1, 0, none⟩) (by simp)).trans (by repeat' (first | exact new_cell (by first | rfl | (simp; done)) rfl | with_reducible refine alloc_cell ?_ _))
  have t1 : w1.cell? ⟨w.heap.size + 1, 1, none⟩ = some (.int .i64 nx) := (hb1.cell (p := ⟨w.heap.size + 1, 1, none⟩) (by simp)).trans (by repeat' (first | exact new_cell (by first | rfl | (simp; done)) rfl | with_reducible refine alloc_cell ?_ _))
  have hX := block_lt_of_cell x0
  have hT := block_lt_of_cell t0
  simp only at hX hT
  have HB1 := Lib.hid (show Below w.heap.size w w1 from hB0.trans (hb1.mono hB0.size))
  clear hb1 hB0
  go_wp2_with fail
  refine (HF.out w1 (HR.out.below HB1.out)).mono ?_
  rintro r w2 ⟨rfl, hb2⟩
  have HB2 := Lib.hid (HB1.out.trans (hb2.mono HB1.out.size))
  replace x0 := (hb2.cell (p := ⟨w.heap.size, 0, none⟩) hX).trans x0
  replace x2 := (hb2.cell (p := ⟨w.heap.size, 2, none⟩) hX).trans x2
  replace t0 := (hb2.cell (p := ⟨w.heap.size + 1, 0, none⟩) hT).trans t0
  replace t1 := (hb2.cell (p := ⟨w.heap.size + 1, 1, none⟩) hT).trans t1
  have hX2 := block_lt_of_cell x0
  have hT2 := block_lt_of_cell t0
  simp only at hX2 hT2
  obtain ⟨gb, off, rfl, hgb, -, -, e2, -⟩ := (HR.out.below HB2.out).at hlt
  generalize us[n] = uu at e2 hp
  generalize uu.owner = ow at e2 hp
  clear hb2
  go_wp2_with fail
  refine (HF2.out w2 (HR.out.below HB2.out)).mono ?_
  rintro r w3 ⟨rfl, hb3⟩
  have HB3 := Lib.hid (HB2.out.trans (hb3.mono HB2.out.size))
  replace t0 := (hb3.cell (p := ⟨w.heap.size + 1, 0, none⟩) hT2).trans t0
  have hT3 := block_lt_of_cell t0
  simp only at hT3
  clear hb3
  go_wp2
  go_ret
  exact ⟨rfl, HB3.out⟩
set_option maxRecDepth 100000 in
set_option maxHeartbeats 1000000 in
theorem rv7 (a : Option Addr) (c : Nat) (us : List Un) (nx : Int) (u p q pl : Int) (w : World) (hl : us.length ≤ 64) (hrise : Rising us) (h : RT w a c us) (hc : checkN ⟨2, u, p, q⟩ = 0) (n : Nat) (hn : FindIs us u n) (hlt : n < us.length) (he : us[n].id = u) (hp : (us[n].owner != pl) = false) (n2 : Nat) (hn2 : FindIs us p n2) (hlt2 : n2 < us.length) (he2 : us[n2].id = p) (hp2 : (us[n2].owner == pl) = true) :
    Calls Try.prog 10 #[.agg #[.int .i64 2, .int .i64 u, .int .i64 p, .int .i64 q], .agg #[.slice a us.length c, .int .i64 nx], .int .i64 pl] w fun r w' => r = .returned (.int .i64 13) ∧ Below w.heap.size w w' := by
  have HC := Lib.hid (fun W => refOrdCheck_any ⟨2, u, p, q⟩ W)
  unfold ordV at HC
  simp only at HC
  have HR := Lib.hid h.row
  rw [hc] at HC
  have HF := Lib.hid (fun W hr => refFind_any a c us nx u n W (by omega) hrise hr hn)
  rw [show findR us u n = (n : Int) by unfold findR; rw [foundQ_lt hlt]; simp [he]] at HF
  have dn : decide ((n : Int) < 0) = false := by simp
  clear hc hn he
  have HF2 := Lib.hid (fun W hr => refFind_any a c us nx p n2 W (by omega) hrise hr hn2)
  rw [show findR us p n2 = (n2 : Int) by unfold findR; rw [foundQ_lt hlt2]; simp [he2]] at HF2
  have dn2 : decide ((n2 : Int) < 0) = false := by simp
  clear hn2 he2
  clear h
  go_enter Try.func10, Try.ntmps10
  go_wp2_with fail
  refine (HC.out _).mono ?_
  rintro r w1 ⟨rfl, hb1⟩
  have hB0 : Below w.heap.size w ((w.alloc (.cells #[.int .i64 2, .int .i64 u, .int .i64 p, .int .i64 q] 38)).alloc (.cells #[.slice a us.length c, .int .i64 nx] 30)) := bel_alloc (bel_alloc (Below.refl _ w) _) _
  have x0 : w1.cell? ⟨w.heap.size, 0, none⟩ = some (.int .i64 2) := (hb1.cell (p := ⟨w.heap.size, 0, none⟩) (by simp; omega)).trans (by repeat' (first | exact new_cell (by first | rfl | (simp; done)) rfl | with_reducible refine alloc_cell ?_ _))
  have x1 : w1.cell? ⟨w.heap.size, 1, none⟩ = some (.int .i64 u) := (hb1.cell (p := ⟨w.heap.size, 1, none⟩) (by simp; omega)).trans (by repeat' (first | exact new_cell (by first | rfl | (simp; done)) rfl | with_reducible refine alloc_cell ?_ _))
  have x2 : w1.cell? ⟨w.heap.size, 2, none⟩ = some (.int .i64 p) := (hb1.cell (p := ⟨w.heap.size, 2, none⟩) (by simp; omega)).trans (by repeat' (first | exact new_cell (by first | rfl | (simp; done)) rfl | with_reducible refine alloc_cell ?_ _))
  have x3 : w1.cell? ⟨w.heap.size, 3, none⟩ = some (.int .i64 q) := (hb1.cell (p := ⟨w.heap.size, 3, none⟩) (by simp; omega)).trans (by repeat' (first | exact new_cell (by first | rfl | (simp; done)) rfl | with_reducible refine alloc_cell ?_ _))
  have t0 : w1.cell? ⟨w.heap.size + 1, 0, none⟩ = some (.slice a us.length c) := (hb1.cell (p := ⟨w.heap.size + 1, 0, none⟩) (by simp)).trans (by repeat' (first | exact new_cell (by first | rfl | (simp; done)) rfl | with_reducible refine alloc_cell ?_ _))
  have t1 : w1.cell? ⟨w.heap.size + 1, 1, none⟩ = some (.int .i64 nx) := (hb1.cell (p := ⟨w.heap.size + 1, 1, none⟩) (by simp)).trans (by repeat' (first | exact new_cell (by first | rfl | (simp; done)) rfl | with_reducible refine alloc_cell ?_ _))
  have hX := block_lt_of_cell x0
  have hT := block_lt_of_cell t0
  simp only at hX hT
  have HB1 := Lib.hid (show Below w.heap.size w w1 from hB0.trans (hb1.mono hB0.size))
  clear hb1 hB0
  go_wp2_with fail
  refine (HF.out w1 (HR.out.below HB1.out)).mono ?_
  rintro r w2 ⟨rfl, hb2⟩
  have HB2 := Lib.hid (HB1.out.trans (hb2.mono HB1.out.size))
  replace x0 := (hb2.cell (p := ⟨w.heap.size, 0, none⟩) hX).trans x0
  replace x2 := (hb2.cell (p := ⟨w.heap.size, 2, none⟩) hX).trans x2
  replace t0 := (hb2.cell (p := ⟨w.heap.size + 1, 0, none⟩) hT).trans t0
  replace t1 := (hb2.cell (p := ⟨w.heap.size + 1, 1, none⟩) hT).trans t1
  have hX2 := block_lt_of_cell x0
  have hT2 := block_lt_of_cell t0
  simp only at hX2 hT2
  obtain ⟨gb, off, rfl, hgb, -, -, e2, -⟩ := (HR.out.below HB2.out).at hlt
  generalize us[n] = uu at e2 hp
  generalize uu.owner = ow at e2 hp
  clear hb2
  go_wp2_with fail
  refine (HF2.out w2 (HR.out.below HB2.out)).mono ?_
  rintro r w3 ⟨rfl, hb3⟩
  have HB3 := Lib.hid (HB2.out.trans (hb3.mono HB2.out.size))
  replace t0 := (hb3.cell (p := ⟨w.heap.size + 1, 0, none⟩) hT2).trans t0
  have hT3 := block_lt_of_cell t0
  simp only at hT3
  obtain ⟨gb2, off2, e', hgb2, -, -, f2, -⟩ := (HR.out.below HB3.out).at hlt2
  cases e'
  generalize us[n2] = uv at f2 hp2
  generalize uv.owner = ow2 at f2 hp2
  clear hb3
  go_wp2
  go_ret
  exact ⟨rfl, HB3.out⟩
set_option maxRecDepth 100000 in
set_option maxHeartbeats 1000000 in
theorem rv8 (a : Option Addr) (c : Nat) (us : List Un) (nx : Int) (u p q pl : Int) (w : World) (hl : us.length ≤ 64) (hrise : Rising us) (h : RT w a c us) (hc : checkN ⟨2, u, p, q⟩ = 0) (n : Nat) (hn : FindIs us u n) (hlt : n < us.length) (he : us[n].id = u) (hp : (us[n].owner != pl) = false) (n2 : Nat) (hn2 : FindIs us p n2) (hlt2 : n2 < us.length) (he2 : us[n2].id = p) (hp2 : (us[n2].owner == pl) = false) :
    Calls Try.prog 10 #[.agg #[.int .i64 2, .int .i64 u, .int .i64 p, .int .i64 q], .agg #[.slice a us.length c, .int .i64 nx], .int .i64 pl] w fun r w' => r = .returned (.int .i64 0) ∧ Below w.heap.size w w' := by
  have HC := Lib.hid (fun W => refOrdCheck_any ⟨2, u, p, q⟩ W)
  unfold ordV at HC
  simp only at HC
  have HR := Lib.hid h.row
  rw [hc] at HC
  have HF := Lib.hid (fun W hr => refFind_any a c us nx u n W (by omega) hrise hr hn)
  rw [show findR us u n = (n : Int) by unfold findR; rw [foundQ_lt hlt]; simp [he]] at HF
  have dn : decide ((n : Int) < 0) = false := by simp
  clear hc hn he
  have HF2 := Lib.hid (fun W hr => refFind_any a c us nx p n2 W (by omega) hrise hr hn2)
  rw [show findR us p n2 = (n2 : Int) by unfold findR; rw [foundQ_lt hlt2]; simp [he2]] at HF2
  have dn2 : decide ((n2 : Int) < 0) = false := by simp
  clear hn2 he2
  clear h
  go_enter Try.func10, Try.ntmps10
  go_wp2_with fail
  refine (HC.out _).mono ?_
  rintro r w1 ⟨rfl, hb1⟩
  have hB0 : Below w.heap.size w ((w.alloc (.cells #[.int .i64 2, .int .i64 u, .int .i64 p, .int .i64 q] 38)).alloc (.cells #[.slice a us.length c, .int .i64 nx] 30)) := bel_alloc (bel_alloc (Below.refl _ w) _) _
  have x0 : w1.cell? ⟨w.heap.size, 0, none⟩ = some (.int .i64 2) := (hb1.cell (p := ⟨w.heap.size, 0, none⟩) (by simp; omega)).trans (by repeat' (first | exact new_cell (by first | rfl | (simp; done)) rfl | with_reducible refine alloc_cell ?_ _))
  have x1 : w1.cell? ⟨w.heap.size, 1, none⟩ = some (.int .i64 u) := (hb1.cell (p := ⟨w.heap.size, 1, none⟩) (by simp; omega)).trans (by repeat' (first | exact new_cell (by first | rfl | (simp; done)) rfl | with_reducible refine alloc_cell ?_ _))
  have x2 : w1.cell? ⟨w.heap.size, 2, none⟩ = some (.int .i64 p) := (hb1.cell (p := ⟨w.heap.size, 2, none⟩) (by simp; omega)).trans (by repeat' (first | exact new_cell (by first | rfl | (simp; done)) rfl | with_reducible refine alloc_cell ?_ _))
  have x3 : w1.cell? ⟨w.heap.size, 3, none⟩ = some (.int .i64 q) := (hb1.cell (p := ⟨w.heap.size, 3, none⟩) (by simp; omega)).trans (by repeat' (first | exact new_cell (by first | rfl | (simp; done)) rfl | with_reducible refine alloc_cell ?_ _))
  have t0 : w1.cell? ⟨w.heap.size + 1, 0, none⟩ = some (.slice a us.length c) := (hb1.cell (p := ⟨w.heap.size + 1, 0, none⟩) (by simp)).trans (by repeat' (first | exact new_cell (by first | rfl | (simp; done)) rfl | with_reducible refine alloc_cell ?_ _))
  have t1 : w1.cell? ⟨w.heap.size + 1, 1, none⟩ = some (.int .i64 nx) := (hb1.cell (p := ⟨w.heap.size + 1, 1, none⟩) (by simp)).trans (by repeat' (first | exact new_cell (by first | rfl | (simp; done)) rfl | with_reducible refine alloc_cell ?_ _))
  have hX := block_lt_of_cell x0
  have hT := block_lt_of_cell t0
  simp only at hX hT
  have HB1 := Lib.hid (show Below w.heap.size w w1 from hB0.trans (hb1.mono hB0.size))
  clear hb1 hB0
  go_wp2_with fail
  refine (HF.out w1 (HR.out.below HB1.out)).mono ?_
  rintro r w2 ⟨rfl, hb2⟩
  have HB2 := Lib.hid (HB1.out.trans (hb2.mono HB1.out.size))
  replace x0 := (hb2.cell (p := ⟨w.heap.size, 0, none⟩) hX).trans x0
  replace x2 := (hb2.cell (p := ⟨w.heap.size, 2, none⟩) hX).trans x2
  replace t0 := (hb2.cell (p := ⟨w.heap.size + 1, 0, none⟩) hT).trans t0
  replace t1 := (hb2.cell (p := ⟨w.heap.size + 1, 1, none⟩) hT).trans t1
  have hX2 := block_lt_of_cell x0
  have hT2 := block_lt_of_cell t0
  simp only at hX2 hT2
  obtain ⟨gb, off, rfl, hgb, -, -, e2, -⟩ := (HR.out.below HB2.out).at hlt
  generalize us[n] = uu at e2 hp
  generalize uu.owner = ow at e2 hp
  clear hb2
  go_wp2_with fail
  refine (HF2.out w2 (HR.out.below HB2.out)).mono ?_
  rintro r w3 ⟨rfl, hb3⟩
  have HB3 := Lib.hid (HB2.out.trans (hb3.mono HB2.out.size))
  replace t0 := (hb3.cell (p := ⟨w.heap.size + 1, 0, none⟩) hT2).trans t0
  have hT3 := block_lt_of_cell t0
  simp only at hT3
  obtain ⟨gb2, off2, e', hgb2, -, -, f2, -⟩ := (HR.out.below HB3.out).at hlt2
  cases e'
  generalize us[n2] = uv at f2 hp2
  generalize uv.owner = ow2 at f2 hp2
  clear hb3
  go_wp2
  go_ret
  exact ⟨rfl, HB3.out⟩
end Go.Proofs.Ythggfjjiohdbmaa
namespace Go.Proofs.Ythggfjjiohdbmaa
open Go.RowKit
set_option linter.unusedVariables false

theorem found_lt {us : List Un} {id : Int} {n : Nat} (h : foundQ us id n = true) : ∃ hlt : n < us.length, us[n].id = id := by
  by_cases hlt : n < us.length
  · rw [foundQ_lt hlt] at h; exact ⟨hlt, by simpa using h⟩
  · rw [foundQ_ge (by omega)] at h; simp at h
theorem valid_both {K : Nat → Prop} (b : Nat) (us : List Un) (g : Int) (k u p q pl : Int) (hok : TabOk us g) : ∃ v : Nat,
    (∀ W, TabQ K b us g W → Calls Try.prog 9 #[.agg #[.int .i64 k, .int .i64 u, .int .i64 p, .int .i64 q], .pointer (some ⟨b, 0, none⟩), .int .i64 pl] W fun r w' => r = .returned (.int .i64 (v : Nat)) ∧ Below W.heap.size W w') ∧
    (∀ W a c nx, RT W a c us → Calls Try.prog 10 #[.agg #[.int .i64 k, .int .i64 u, .int .i64 p, .int .i64 q], .agg #[.slice a us.length c, .int .i64 nx], .int .i64 pl] W fun r w' => r = .returned (.int .i64 (v : Nat)) ∧ Below W.heap.size W w') := by
  by_cases hc : checkN ⟨k, u, p, q⟩ = 0
  case neg => exact ⟨_, fun W h => pv1 b us g k u p q pl W h _ rfl hc, fun W a c nx h => rv1 a c us nx k u p q pl W hok.1 hok.2.1 h _ rfl hc⟩
  by_cases hk : k = 3
  · subst hk
    exact ⟨0, fun W h => pv2 b us g u p q pl W h hc, fun W a c nx h => rv2 a c us nx u p q pl W hok.1 hok.2.1 h hc⟩
  have hkb : (k == 3) = false := by simp [hk]
  obtain ⟨n, hn⟩ := find_is us u hok.2.1
  cases hq : foundQ us u n with
  | false => exact ⟨9, fun W h => pv3 b us g k u p q pl W h hc hkb n hn hq, fun W a c nx h => rv3 a c us nx k u p q pl W hok.1 hok.2.1 h hc hkb n hn hq⟩
  | true =>
    obtain ⟨hlt, he⟩ := found_lt hq
    cases hp : (us[n].owner != pl) with
    | true => exact ⟨13, fun W h => pv4 b us g k u p q pl W h hc hkb n hn hlt he hp, fun W a c nx h => rv4 a c us nx k u p q pl W hok.1 hok.2.1 h hc hkb n hn hlt he hp⟩
    | false =>
      by_cases hk2 : k = 2
      case neg => exact ⟨0, fun W h => pv5 b us g k u p q pl W h hc hkb (by simp [hk2]) n hn hlt he hp, fun W a c nx h => rv5 a c us nx k u p q pl W hok.1 hok.2.1 h hc hkb (by simp [hk2]) n hn hlt he hp⟩
      subst hk2
      obtain ⟨n2, hn2⟩ := find_is us p hok.2.1
      cases hq2 : foundQ us p n2 with
      | false => exact ⟨9, fun W h => pv6 b us g u p q pl W h hc n hn hlt he hp 9 (fun W h => hit_none b us g p pl n2 W h hn2 hq2), fun W a c nx h => rv6 a c us nx u p q pl W hok.1 hok.2.1 h hc n hn hlt he hp n2 hn2 hq2⟩
      | true =>
        obtain ⟨hlt2, he2⟩ := found_lt hq2
        cases hp2 : (us[n2].owner == pl) with
        | true => exact ⟨13, fun W h => pv6 b us g u p q pl W h hc n hn hlt he hp 13 (fun W h => hit_own b us g p pl n2 W h hn2 hlt2 he2 hp2), fun W a c nx h => rv7 a c us nx u p q pl W hok.1 hok.2.1 h hc n hn hlt he hp n2 hn2 hlt2 he2 hp2⟩
        | false => exact ⟨0, fun W h => pv6 b us g u p q pl W h hc n hn hlt he hp 0 (fun W h => hit_ok b us g p pl n2 W h hn2 hlt2 he2 hp2), fun W a c nx h => rv8 a c us nx u p q pl W hok.1 hok.2.1 h hc n hn hlt he hp n2 hn2 hlt2 he2 hp2⟩
end Go.Proofs.Ythggfjjiohdbmaa
namespace Go.Proofs.Ythggfjjiohdbmaa
open Go.RowKit
set_option linter.unusedVariables false

/-- The law's own blocks, which no table has. -/
def KC (n X Y k : Nat) : Prop := k < n ∨ k = X ∨ k = Y
theorem keep6 {W w' : World} (hb : Below W.heap.size W w') {X Y : Nat} {x y z u x' y' : Value} (h : (W.cell? ⟨X, 0, none⟩ = some x ∧ W.cell? ⟨X, 1, none⟩ = some y ∧ W.cell? ⟨X, 2, none⟩ = some z ∧ W.cell? ⟨X, 3, none⟩ = some u) ∧ (W.cell? ⟨Y, 0, none⟩ = some x' ∧ W.cell? ⟨Y, 1, none⟩ = some y')) :
    (w'.cell? ⟨X, 0, none⟩ = some x ∧ w'.cell? ⟨X, 1, none⟩ = some y ∧ w'.cell? ⟨X, 2, none⟩ = some z ∧ w'.cell? ⟨X, 3, none⟩ = some u) ∧ (w'.cell? ⟨Y, 0, none⟩ = some x' ∧ w'.cell? ⟨Y, 1, none⟩ = some y') := by
  have hX := block_lt_of_cell h.1.1
  have hY := block_lt_of_cell h.2.1
  exact ⟨⟨(hb.cell (p := ⟨X, 0, none⟩) hX).trans h.1.1, (hb.cell (p := ⟨X, 1, none⟩) hX).trans h.1.2.1, (hb.cell (p := ⟨X, 2, none⟩) hX).trans h.1.2.2.1, (hb.cell (p := ⟨X, 3, none⟩) hX).trans h.1.2.2.2⟩,
    (hb.cell (p := ⟨Y, 0, none⟩) hY).trans h.2.1, (hb.cell (p := ⟨Y, 1, none⟩) hY).trans h.2.2⟩
/-- The law's memory: both tables, the order's box X, the document's box Y. -/
structure ChkMem (n X Y b : Nat) (v : List Int) (us : List Un) (g : Int) (a : Option Addr) (c : Nat) (wr : World) : Prop where
  mem : DoMem (KC n X Y) b us g a c wr
  x : ∀ j, j < 4 → wr.cell? ⟨X, j, none⟩ = some (.int .i64 (v.getD j 0))
  y0 : wr.cell? ⟨Y, 0, none⟩ = some (.slice a us.length c)
  y1 : wr.cell? ⟨Y, 1, none⟩ = some (.int .i64 (g + 1))
  z0 : wr.frozen? ⟨Y, 0, none⟩ = false
  z1 : wr.frozen? ⟨Y, 1, none⟩ = false
  far : ∀ x, a = some x → Y < x.block
  lo : n ≤ Y ∧ X ≠ Y
theorem ChkMem.keep {n X Y b : Nat} {v : List Int} {us : List Un} {g : Int} {a : Option Addr} {c : Nat} {wr w' : World} (h : ChkMem n X Y b v us g a c wr) (hb : Below wr.heap.size wr w') : ChkMem n X Y b v us g a c w' :=
  ⟨h.mem.keep hb, fun j hj => (hb.cell (p := ⟨X, j, none⟩) (block_lt_of_cell (h.x j hj))).trans (h.x j hj), (hb.cell (p := ⟨Y, 0, none⟩) (block_lt_of_cell h.y0)).trans h.y0, (hb.cell (p := ⟨Y, 1, none⟩) (block_lt_of_cell h.y1)).trans h.y1,
    ((touch_of_below (S := fun _ => False) hb).frozen (p := ⟨Y, 0, none⟩) (block_lt_of_cell h.y0) id).trans h.z0, ((touch_of_below (S := fun _ => False) hb).frozen (p := ⟨Y, 1, none⟩) (block_lt_of_cell h.y1) id).trans h.z1, h.far, h.lo⟩
theorem ChkMem.does {n X Y b : Nat} {v : List Int} {us us' : List Un} {g g' : Int} {a a' : Option Addr} {c c' : Nat} {wr w' : World} (h : ChkMem n X Y b v us g a c wr) (h2 : DoMem (KC n X Y) b us' g' a' c' w') (ht : Touch (fun k => ¬ KC n X Y k) wr w') (ha : a' = a ∨ ∀ x, a' = some x → wr.heap.size ≤ x.block) :
    w'.frozen? ⟨Y, 0, none⟩ = false ∧ w'.frozen? ⟨Y, 1, none⟩ = false ∧ (∃ o0, w'.cell? ⟨Y, 0, none⟩ = some o0) ∧ (∃ o1, w'.cell? ⟨Y, 1, none⟩ = some o1) ∧
    ChkMem n X Y b v us' g' a' c' ((w'.setCell ⟨Y, 0, none⟩ (.slice a' us'.length c')).setCell ⟨Y, 1, none⟩ (.int .i64 (g' + 1))) ∧ Below n wr ((w'.setCell ⟨Y, 0, none⟩ (.slice a' us'.length c')).setCell ⟨Y, 1, none⟩ (.int .i64 (g' + 1))) := by
  have nY : ¬ ¬ KC n X Y Y := fun hn => hn (.inr (.inr rfl))
  have nX : ¬ ¬ KC n X Y X := fun hn => hn (.inr (.inl rfl))
  have hY := block_lt_of_cell h.y0
  simp only at hY
  have y0 := (ht.cell (p := ⟨Y, 0, none⟩) hY nY).trans h.y0
  have y1 := (ht.cell (p := ⟨Y, 1, none⟩) hY nY).trans h.y1
  have z0 := (ht.frozen (p := ⟨Y, 0, none⟩) hY nY).trans h.z0
  have z1 := (ht.frozen (p := ⟨Y, 1, none⟩) hY nY).trans h.z1
  have hs := set2r_touch w' Y (.slice a' us'.length c') (.int .i64 (g' + 1))
  unfold set2r at hs
  have far : ∀ x, a' = some x → Y < x.block := fun x hx => by
    rcases ha with e | e
    · exact h.far x (e ▸ hx)
    · have := e x hx; omega
  have hlo := h.lo
  refine ⟨z0, z1, ⟨_, y0⟩, ⟨_, y1⟩, ⟨h2.set hs (fun k hk => .inr (.inr hk)) (fun x hx e => by have := far x hx; omega), fun j hj => ?_, set2_same0 y0, set2_same1 y1, by simpa using z0, by simpa using z1, far, h.lo⟩, ?_⟩
  · have e := (ht.cell (p := ⟨X, j, none⟩) (block_lt_of_cell (h.x j hj)) nX).trans (h.x j hj)
    exact (hs.cell (p := ⟨X, j, none⟩) (block_lt_of_cell e) (fun e => hlo.2 e)).trans e
  · refine (ht.below (by omega) (fun k hk hn => hn (.inl hk))).trans ((hs.below (B := n) ?_ (fun k hk e => ?_)))
    · have := ht.size; omega
    · omega
set_option maxRecDepth 100000 in
set_option maxHeartbeats 4000000 in
theorem orderChecks_walk (w : World) (ok ou oa ob pl : Int) (a : Option Addr) (len cap : Nat) (ls : List (List Int)) (h : RecArg 7 w a len cap ls) :
    Calls Try.prog 3 #[.agg #[.int .i64 ok, .int .i64 ou, .int .i64 oa, .int .i64 ob], .slice a len cap, .int .i64 pl] w fun e w' => e = .returned (.bool true) ∧ Below w.heap.size w w' := by
  obtain ⟨rfl, hlc, hcm, hwide, hrow, -, -⟩ := h
  unfold maxLen at hcm
  have HROW := Lib.hid hrow
  have HAW := Lib.hid (fun W => awake9_any W)
  clear hrow hwide
  go_enter Try.func3, Try.ntmps3
  go_wp2_with fail
  refine (HAW.out _).mono ?_
  rintro e w1 ⟨rfl, hb1⟩
  have x0 : w1.cell? ⟨w.heap.size, 0, none⟩ = some (.int .i64 ok) := (hb1.cell (p := ⟨w.heap.size, 0, none⟩) (by simp)).trans (by simp)
  have x1 : w1.cell? ⟨w.heap.size, 1, none⟩ = some (.int .i64 ou) := (hb1.cell (p := ⟨w.heap.size, 1, none⟩) (by simp)).trans (by simp)
  have x2 : w1.cell? ⟨w.heap.size, 2, none⟩ = some (.int .i64 oa) := (hb1.cell (p := ⟨w.heap.size, 2, none⟩) (by simp)).trans (by simp)
  have x3 : w1.cell? ⟨w.heap.size, 3, none⟩ = some (.int .i64 ob) := (hb1.cell (p := ⟨w.heap.size, 3, none⟩) (by simp)).trans (by simp)
  have hX := block_lt_of_cell x0
  simp only at hX
  have HB1 := Lib.hid (show Below w.heap.size w w1 from (bel_alloc (Below.refl _ w) _).trans (hb1.mono (by simp)))
  have HX := Lib.hid (show (w1.cell? ⟨w.heap.size, 0, none⟩ = some (.int .i64 ok) ∧ w1.cell? ⟨w.heap.size, 1, none⟩ = some (.int .i64 ou) ∧ w1.cell? ⟨w.heap.size, 2, none⟩ = some (.int .i64 oa) ∧ w1.cell? ⟨w.heap.size, 3, none⟩ = some (.int .i64 ob)) from ⟨x0, x1, x2, x3⟩)
  have HNEW := Lib.hid (tabNew_any (fun k => k < w.heap.size + 1) w1 (fun k hk => by omega))
  clear hb1 HAW x0 x1 x2 x3
  go_wp2_with fail
  refine HNEW.out.mono ?_
  rintro e w2 ⟨rfl, hq2, hb2⟩
  have HQ2 := Lib.hid hq2
  have HB2 := Lib.hid (HB1.out.trans (hb2.mono HB1.out.size))
  have HX2 := Lib.hid (show ∀ j, j < 4 → w2.cell? ⟨w.heap.size, j, none⟩ = some (.int .i64 ([ok, ou, oa, ob].getD j 0)) from fun j hj => by
    have e : j = 0 ∨ j = 1 ∨ j = 2 ∨ j = 3 := by omega
    rcases e with rfl | rfl | rfl | rfl
    · exact (hb2.cell (p := ⟨w.heap.size, 0, none⟩) hX).trans HX.out.1
    · exact (hb2.cell (p := ⟨w.heap.size, 1, none⟩) hX).trans HX.out.2.1
    · exact (hb2.cell (p := ⟨w.heap.size, 2, none⟩) hX).trans HX.out.2.2.1
    · exact (hb2.cell (p := ⟨w.heap.size, 3, none⟩) hX).trans HX.out.2.2.2)
  have hs2 := hb2.size
  have HM2 : Hid (ChkMem w.heap.size w.heap.size w2.heap.size w1.heap.size [ok, ou, oa, ob] [] 0 none 0 (w2.alloc (.cells #[.slice none 0 0, .int .i64 1] 30)) ∧ Below w.heap.size w (w2.alloc (.cells #[.slice none 0 0, .int .i64 1] 30))) := by
    refine Lib.hid ⟨⟨⟨?_, ⟨fun h => by simp [unsI] at h, fun _ => rfl, by simp, by simp [maxLen]⟩⟩, fun j hj => alloc_cell (HX2.out j hj) _, new_cell rfl rfl, new_cell rfl rfl, frozen_new _ _ _ _, frozen_new _ _ _ _, fun x hx => (by cases hx), by omega, by omega⟩, HB2.out.alloc (by have := HB2.out.size; omega) _⟩
    refine (HQ2.out.grow (N := fun k => k = w2.heap.size) (bel_alloc (Below.refl _ _) _) (fun k hk => by subst hk; simp)).sub (fun k hk => ?_)
    rcases hk with (h | h | h) | h
    · exact .inl (by omega)
    · exact .inl (by omega)
    · exact .inr h
    · simp at h
  clear hq2 hb2 HNEW HB1 HQ2 HB2 HX2 HX
  go_wp2
  generalize w1.heap.size = b at HM2 ⊢
  generalize hY : w2.heap.size = Y at HM2 ⊢
  go_loopw [9] (fun iv wr => ∃ (k : Nat) (us : List Un) (g : Int) (a5 : Option Addr) (c5 : Nat), k ≤ ls.length ∧ k ≤ 30 ∧ iv = .int .i64 k ∧ Hid (ChkMem w.heap.size w.heap.size Y b [ok, ou, oa, ob] us g a5 c5 wr ∧ Below w.heap.size w wr)) (fun iv _ => 30 - (intOf iv).toNat)
  case atStart => exact ⟨0, [], 0, none, 0, by omega, by omega, rfl, HM2⟩
  case round =>
    obtain ⟨k, us, g, a5, c5, hk, hk30, rfl, HM⟩ := hrel
    by_cases hlt : k < ls.length
    · by_cases hlt2 : k < 30
      · obtain ⟨ab, aoff, rfl, hcell⟩ := RecRow.below (by decide) HROW.out HM.out.2 (by omega)
        have c0 := hcell k hlt 0 (by decide)
        have c1 := hcell k hlt 1 (by decide)
        have c2 := hcell k hlt 2 (by decide)
        have c3 := hcell k hlt 3 (by decide)
        have c4 := hcell k hlt 4 (by decide)
        have c5' := hcell k hlt 5 (by decide)
        have c6 := hcell k hlt 6 (by decide)
        rw [Nat.add_zero] at c0
        have hab := block_lt_of_cell c0
        clear hcell
        generalize ls[k].getD 0 0 = v0 at c0
        generalize ls[k].getD 1 0 = v1 at c1
        generalize ls[k].getD 2 0 = v2 at c2
        generalize ls[k].getD 3 0 = v3 at c3
        generalize ls[k].getD 4 0 = v4 at c4
        generalize ls[k].getD 5 0 = v5 at c5'
        generalize ls[k].getD 6 0 = v6 at c6
        have y0 := HM.out.1.y0
        have y1 := HM.out.1.y1
        have hYl := block_lt_of_cell y0
        simp only at hYl hab
        have HMD := Lib.hid (HM.out.1.keep (w' := wr.drew) (Below.refl _ wr).drew)
        have HD := Lib.hid (does_any (KC w.heap.size w.heap.size Y) b us g a5 c5 wr.drew v0 v1 v2 v3 v4 v5 v6 HMD.out.mem)
        have HBD := Lib.hid HM.out.2.drew
        clear HM
        have hk0 : (0 : Int) ≤ (k : Int) := by omega
        have hk1 : (k : Int) < (ls.length : Int) := by omega
        have hk2 : (k : Int) < (30 : Int) := by omega
        generalize us.length = un at HD y0
        go_upto_region 8 with (fail)
        go_region_law (first
          | (go_simp; go_at_call 6; refine HD.out.mono ?_; rintro e w4 ⟨us', g', a6, c6', rfl, hm4, ht4, ha4⟩; obtain ⟨z0, z1, ⟨o0, y0'⟩, ⟨o1, y1'⟩, hm5, hb5⟩ := HMD.out.does hm4 ht4 ha4; have HM5 := Lib.hid (show _ ∧ Below w.heap.size w _ from ⟨hm5, HBD.out.trans hb5⟩); have hY4 := block_lt_of_cell y0'; simp only at hY4; clear hm4 ht4 ha4 hm5 hb5))
        all_goals
          go_wp2
          go_roundw
          case rel => exact ⟨k + 1, us', g', a6, c6', by omega, by omega, by go_num, HM5⟩
          case measure => simp [intOf]; omega
      · have hk2 : decide ((k : Int) < (30 : Int)) = false := by simp; omega
        have hk1 : decide ((k : Int) < (ls.length : Int)) = true := by simp; omega
        obtain ⟨v, hv1, hv2⟩ := valid_both (K := KA (KC w.heap.size w.heap.size Y) a5) b us g ok ou oa ob pl HM.out.1.mem.tab.ok
        have HV1 := Lib.hid hv1
        have HV2 := Lib.hid hv2
        have HC1 := Lib.hid (fun W => ordCheck_any ⟨ok, ou, oa, ob⟩ W)
        have HC2 := Lib.hid (fun W => refOrdCheck_any ⟨ok, ou, oa, ob⟩ W)
        unfold ordV at HC1 HC2
        simp only at HC1 HC2
        generalize checkN ⟨ok, ou, oa, ob⟩ = cn at HC1 HC2
        clear hv1 hv2
        have x0 := HM.out.1.x 0 (by decide)
        have x1 := HM.out.1.x 1 (by decide)
        have x2 := HM.out.1.x 2 (by decide)
        have x3 := HM.out.1.x 3 (by decide)
        simp only [List.getD_cons_succ, List.getD_cons_zero] at x0 x1 x2 x3
        have y0 := HM.out.1.y0
        have y1 := HM.out.1.y1
        have hXl := block_lt_of_cell x0
        have hYl := block_lt_of_cell y0
        simp only at hXl hYl
        have HMc := Lib.hid (HM.out.1.keep (w' := wr.drew) (Below.refl _ wr).drew)
        have HBc := Lib.hid HM.out.2.drew
        clear HM
        generalize hul : us.length = un at HV2 y0
        have HUL := Lib.hid hul
        clear hul
        go_upto_region 9 with (fail)
        go_region_held3 (fun w' => (w'.cell? ⟨w.heap.size, 0, none⟩ = some (.int .i64 ok) ∧ w'.cell? ⟨w.heap.size, 1, none⟩ = some (.int .i64 ou) ∧ w'.cell? ⟨w.heap.size, 2, none⟩ = some (.int .i64 oa) ∧ w'.cell? ⟨w.heap.size, 3, none⟩ = some (.int .i64 ob)) ∧ (w'.cell? ⟨Y, 0, none⟩ = some (.slice a5 un c5) ∧ w'.cell? ⟨Y, 1, none⟩ = some (.int .i64 (g + 1))))
          (first | (refine keep6 hbK ?_; assumption) | exact ⟨⟨x0, x1, x2, x3⟩, y0, y1⟩)
          (first
            | (go_at_call 7; refine (HC1.out _).mono ?_; rintro e wK ⟨rfl, hbK⟩; have HMc := Lib.hid (HMc.out.keep hbK); have HBc := Lib.hid (HBc.out.trans (hbK.mono HBc.out.size)))
            | (go_at_call 8; refine (HC2.out _).mono ?_; rintro e wK ⟨rfl, hbK⟩; have HMc := Lib.hid (HMc.out.keep hbK); have HBc := Lib.hid (HBc.out.trans (hbK.mono HBc.out.size)))
            | (go_at_call 9; refine (HV1.out _ HMc.out.mem.tab).mono ?_; rintro e wK ⟨rfl, hbK⟩; have HMc := Lib.hid (HMc.out.keep hbK); have HBc := Lib.hid (HBc.out.trans (hbK.mono HBc.out.size)))
            | (go_at_call 10; refine (HV2.out _ _ _ _ HMc.out.mem.rt).mono ?_; rintro e wK ⟨rfl, hbK⟩; have HMc := Lib.hid (HMc.out.keep hbK); have HBc := Lib.hid (HBc.out.trans (hbK.mono HBc.out.size))))
        all_goals
          have HBK := Lib.hid HBc.out
          go_wp2
          go_ret
          exact ⟨rfl, HBK.out⟩
    · have hk1 : decide ((k : Int) < (ls.length : Int)) = false := by simp; omega
      obtain ⟨v, hv1, hv2⟩ := valid_both (K := KA (KC w.heap.size w.heap.size Y) a5) b us g ok ou oa ob pl HM.out.1.mem.tab.ok
      have HV1 := Lib.hid hv1
      have HV2 := Lib.hid hv2
      have HC1 := Lib.hid (fun W => ordCheck_any ⟨ok, ou, oa, ob⟩ W)
      have HC2 := Lib.hid (fun W => refOrdCheck_any ⟨ok, ou, oa, ob⟩ W)
      unfold ordV at HC1 HC2
      simp only at HC1 HC2
      generalize checkN ⟨ok, ou, oa, ob⟩ = cn at HC1 HC2
      clear hv1 hv2
      have x0 := HM.out.1.x 0 (by decide)
      have x1 := HM.out.1.x 1 (by decide)
      have x2 := HM.out.1.x 2 (by decide)
      have x3 := HM.out.1.x 3 (by decide)
      simp only [List.getD_cons_succ, List.getD_cons_zero] at x0 x1 x2 x3
      have y0 := HM.out.1.y0
      have y1 := HM.out.1.y1
      have hXl := block_lt_of_cell x0
      have hYl := block_lt_of_cell y0
      simp only at hXl hYl
      have HMc := Lib.hid (HM.out.1.keep (w' := wr.drew) (Below.refl _ wr).drew)
      have HBc := Lib.hid HM.out.2.drew
      clear HM
      generalize hul : us.length = un at HV2 y0
      have HUL := Lib.hid hul
      clear hul
      go_upto_region 9 with (fail)
      go_region_held3 (fun w' => (w'.cell? ⟨w.heap.size, 0, none⟩ = some (.int .i64 ok) ∧ w'.cell? ⟨w.heap.size, 1, none⟩ = some (.int .i64 ou) ∧ w'.cell? ⟨w.heap.size, 2, none⟩ = some (.int .i64 oa) ∧ w'.cell? ⟨w.heap.size, 3, none⟩ = some (.int .i64 ob)) ∧ (w'.cell? ⟨Y, 0, none⟩ = some (.slice a5 un c5) ∧ w'.cell? ⟨Y, 1, none⟩ = some (.int .i64 (g + 1))))
        (first | (refine keep6 hbK ?_; assumption) | exact ⟨⟨x0, x1, x2, x3⟩, y0, y1⟩)
        (first
          | (go_at_call 7; refine (HC1.out _).mono ?_; rintro e wK ⟨rfl, hbK⟩; have HMc := Lib.hid (HMc.out.keep hbK); have HBc := Lib.hid (HBc.out.trans (hbK.mono HBc.out.size)))
          | (go_at_call 8; refine (HC2.out _).mono ?_; rintro e wK ⟨rfl, hbK⟩; have HMc := Lib.hid (HMc.out.keep hbK); have HBc := Lib.hid (HBc.out.trans (hbK.mono HBc.out.size)))
          | (go_at_call 9; refine (HV1.out _ HMc.out.mem.tab).mono ?_; rintro e wK ⟨rfl, hbK⟩; have HMc := Lib.hid (HMc.out.keep hbK); have HBc := Lib.hid (HBc.out.trans (hbK.mono HBc.out.size)))
          | (go_at_call 10; refine (HV2.out _ _ _ _ HMc.out.mem.rt).mono ?_; rintro e wK ⟨rfl, hbK⟩; have HMc := Lib.hid (HMc.out.keep hbK); have HBc := Lib.hid (HBc.out.trans (hbK.mono HBc.out.size))))
      all_goals
        have HBK := Lib.hid HBc.out
        go_wp2
        go_ret
        exact ⟨rfl, HBK.out⟩
end Go.Proofs.Ythggfjjiohdbmaa
namespace Go.Proofs.Ythggfjjiohdbmaa
open Go.RowKit
set_option linter.unusedVariables false

theorem ord_of {H : Type} {enc : TypeId × Value → H} {w : World} {base : Nat} {sp : Nat → Bool} {held : Bool} {v : Value} {d : DataW H} {p : List MemPlace} (hv : ∃ cs, v = .agg cs ∧ cs.size = Try.prog.cellsOf 23) (h : DataW.Trod enc Try.prog w base sp held 23 v d p) :
    ∃ k u a b : Int, v = .agg #[.int .i64 k, .int .i64 u, .int .i64 a, .int .i64 b] := by
  obtain ⟨cs, rfl, hsz⟩ := hv
  have cS : Try.prog.cellsOf 23 = 4 := by kernel_rfl
  have c_int : Try.prog.cellsOf 3 = 1 := by kernel_rfl
  have c_int64 : Try.prog.cellsOf 2 = 1 := by kernel_rfl
  rw [cS] at hsz
  obtain ⟨l⟩ := cs
  obtain ⟨v0, v1, v2, v3, rfl⟩ := list_4 (l := l) hsz
  obtain ⟨fuel, ht⟩ := h
  obtain ⟨ys, n', hn', hy, hlen, hyl, hf⟩ := DataW.trod_struct Try.underlying23 ht
  obtain ⟨y0, y1, y2, y3, rfl⟩ := list_4 (show ys.length = 4 by simpa using hyl)
  have g0 : DataW.trod enc Try.prog w base sp held n' 3 [v0] = some y0 := by simpa [c_int, Value.cells] using hf 0 _ rfl
  have g1 : DataW.trod enc Try.prog w base sp held n' 2 [v1] = some y1 := by simpa [c_int64, Value.cells] using hf 1 _ rfl
  have g2 : DataW.trod enc Try.prog w base sp held n' 2 [v2] = some y2 := by simpa [c_int64, Value.cells] using hf 2 _ rfl
  have g3 : DataW.trod enc Try.prog w base sp held n' 2 [v3] = some y3 := by simpa [c_int64, Value.cells] using hf 3 _ rfl
  obtain ⟨k0, q0, _, wf0⟩ := DataW.trod_int Try.underlying3 g0
  obtain ⟨k1, q1, _, wf1⟩ := DataW.trod_int Try.underlying2 g1
  obtain ⟨k2, q2, _, wf2⟩ := DataW.trod_int Try.underlying2 g2
  obtain ⟨k3, q3, _, wf3⟩ := DataW.trod_int Try.underlying2 g3
  simp only [List.cons.injEq, and_true] at q0 q1 q2 q3
  subst q0 q1 q2 q3
  exact ⟨k0, k1, k2, k3, rfl⟩
end Go.Proofs.Ythggfjjiohdbmaa
namespace Go.Proofs.Ythggfjjiohdbmaa.orderChecks
open Go.ChangeShapes Go.WideShapes Go.ChangeAt Go.RowKit
open Go.ChangeMaps (open_string shut_string)
set_option linter.unusedVariables false
theorem walk (w : World) (k u p q : Int) (a0 : Option Addr) (len0 cap0 : Nat) (m0 : List (List Int)) (w0 : RecArg 7 w a0 len0 cap0 m0) (pl : Int) (w2 : (Lit.int .i64 pl).wf = true) :
    Calls Try.prog 3 #[.agg #[.int .i64 k, .int .i64 u, .int .i64 p, .int .i64 q], .slice a0 len0 cap0, .int .i64 pl] w fun e w' => e = .returned (.bool true) ∧ Below w.heap.size w w' :=
  orderChecks_walk w k u p q pl a0 len0 cap0 m0 w0

/-! ### THE ROW's STEP -/
theorem own : ownKnob Try.prog.godebug = none := by kernel_rfl
theorem laidOut : laidOutB Try.prog = true := by kernel_rfl
set_option maxRecDepth 100000 in
theorem lifted (os : Os) (started : os.Started) (H : Type) (enc : TypeId × Value → H) :
    ReturnsInHanded {} Try.checked os 3 .any (Rows.orderChecksSpec.pre6 enc Try.prog Try.f3 Rows.orderChecksRow.domain false) (Rows.orderChecksSpec.post enc Try.prog Try.f3 false true false false) := by
  refine returnsInHanded_of_change (C := Try.checked) own started (by kernel_rfl) Try.func3
    (ChangeSpec.witness6 (enc := enc) (C := Try.checked) false ⟨#[], #[.agg #[.int .i64 0, .int .i64 0, .int .i64 0, .int .i64 0], .slice none 0 0, .int .i64 0], []⟩ 8 (by kernel_rfl) (by kernel_rfl) (by kernel_rfl) (by kernel_rfl)) ?_
  intro W base args ds gs before hval0 hW hcnd _
  have hval : ∀ (j : Nat) t v, Try.f3.params[j]? = some t → args[j]? = some v → Value.okWide Try.prog W .any base t v := hval0
  have hW' := hW
  obtain ⟨p, q, hA0, hV, rfl, hfz, hnd⟩ := hW
  have hA : DataW.TrodAll enc Try.prog W 0 (fun _ => true) true Try.f3.params.toList args.toList ds p := hA0
  rw [Try.params3] at hA hval
  obtain ⟨v0, vs0, d0, ds0, p0, q0, hargs, rfl, rfl, h0, r0⟩ := trodAll_cons hA
  obtain ⟨v1, vs1, d1, ds1, p1, q1, rfl, rfl, rfl, h1, r1⟩ := trodAll_cons r0
  obtain ⟨v2, vs2, d2, ds2, p2, q2, rfl, rfl, rfl, h2, r2⟩ := trodAll_cons r1
  obtain ⟨rfl, rfl, rfl⟩ := trodAll_nil r2
  obtain rfl : args = #[v0, v1, v2] := by cases args; simp_all
  obtain ⟨rfl, rfl⟩ := trodVars_none hV
  have k0 := h0
  have lt0 : ∀ x ∈ p0, x.block < W.heap.size := by obtain ⟨m, hm⟩ := k0; exact DataW.trod_lt m _ _ _ hm
  obtain ⟨ka0, kb0, kc0, kd0, rfl⟩ := ord_of (okWide_struct Try.underlying23 (hval 0 23 v0 rfl rfl)) h0
  have k1 := h1
  have lt1 : ∀ x ∈ p1, x.block < W.heap.size := by obtain ⟨m, hm⟩ := k1; exact DataW.trod_lt m _ _ _ hm
  obtain ⟨a1, len1, cap1, rfl⟩ := okWide_slice Try.underlying24 (hval 1 24 v1 rfl rfl)
  obtain ⟨m1, w1⟩ : ∃ m, RecArg 7 W a1 len1 cap1 m := by
    obtain ⟨fuel, hf⟩ := h1
    exact acts8_of hf
  have k2 := h2
  have lt2 : ∀ x ∈ p2, x.block < W.heap.size := by obtain ⟨m, hm⟩ := k2; exact DataW.trod_lt m _ _ _ hm
  obtain ⟨a2, rfl, rfl, rfl, w2⟩ := open_int Try.underlying2 (hval 2 2 v2 rfl rfl) h2
  clear hA0 hval0
  refine (walk W ka0 kb0 kc0 kd0 a1 len1 cap1 m1 w1 a2 w2).mono fun e W' ⟨he, bel⟩ => ?_
  subst he
  exact ⟨_, rfl, _, _, _, [], _, [], hW', trodAll_mk1 (shut_bool Try.underlying4 _), (trodAll_cons_mk (Below.trod laidOut (by kernel_rfl) (of_decide_eq_true (by kernel_rfl)) k0 bel lt0) (trodAll_cons_mk (Below.trod laidOut (by kernel_rfl) (of_decide_eq_true (by kernel_rfl)) k1 bel lt1) (trodAll_cons_mk (Below.trod laidOut (by kernel_rfl) (of_decide_eq_true (by kernel_rfl)) k2 bel lt2) trodAll_mk0))), rfl, bel.frame _, fun h => by cases h⟩

theorem over : Rows.orderChecksRow.holds Try.pinned (OpenSpec.ofChange Rows.orderChecksSpec) :=
  OpenClaim.holds_of_wide 3 Try.f3 rfl rfl rfl rfl rfl rfl rfl ⟨rfl, rfl, rfl, rfl, rfl⟩ rfl rfl rfl rfl rfl (by kernel_rfl) Try.func3 (by kernel_rfl)
    (of_decide_eq_true (by kernel_rfl)) (by unfold Func.isWrapper; first | (rw [if_pos (by decide +kernel)]; kernel_rfl) | (rw [if_neg (by decide +kernel)]; exact ⟨rfl, rfl⟩))
    (fun os started H enc _ => lifted os started H enc)

end Go.Proofs.Ythggfjjiohdbmaa.orderChecks
namespace Go.Proofs.Ythggfjjiohdbmaa
theorem orderChecks_proved : Rows.OrderChecksSaid := orderChecks.over
end Go.Proofs.Ythggfjjiohdbmaa
