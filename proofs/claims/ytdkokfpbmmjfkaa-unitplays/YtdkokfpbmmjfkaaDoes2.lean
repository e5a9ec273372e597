/-
  Layer 8: the law's own call on both.
-/
import Derived.Test.YtdkokfpbmmjfkaaDoes1
import Derived.Test.YtdkokfpbmmjfkaaOrdTidy
namespace Go.Proofs.Ytdkokfpbmmjfkaa
open Go.RowKit
set_option linter.unusedVariables false

theorem rem_run (q n : Nat) (hn : n ≤ 64) (h0 : ¬ n = 0) (hq : q ≤ 255) (W : World) : (binOp .rem 3 (.int .i64 q) (.int .i64 n)).run Try.prog W = .ok (.int .i64 ((q % n : Nat) : Int)) W := by
  have m3 : (q : Int).tmod (n : Int) = ((q % n : Nat) : Int) := by rw [Int.tmod_eq_emod_of_nonneg (by omega)]; exact (Int.natCast_emod _ _).symm
  have hlt : q % n < n := Nat.mod_lt _ (by omega)
  have m5 : IntKind.i64.wrap ((q % n : Nat) : Int) = ((q % n : Nat) : Int) := by rw [IntKind.wrap_i64]; omega
  have m4 : ((n : Int) == 0) = false := by simp; omega
  have m6 : ¬ (n : Int) = 0 := by omega
  go_simp
def DoesPost (K0 : Nat → Prop) (b : Nat) (a : Option Addr) (w : World) (r : Ending) (w' : World) : Prop := ∃ us' g' a' c', r = .returned (.tuple #[.agg #[.slice a' us'.length c', .int .i64 (g' + 1)], .bool true]) ∧ DoMem K0 b us' g' a' c' w' ∧ Touch (fun k => ¬ K0 k) w w' ∧ (a' = a ∨ ∀ x, a' = some x → w.heap.size ≤ x.block)
/-- The boxes of Does: the document's table, the call, the answer. -/
structure DBox (B : Nat) (a : Option Addr) (n c : Nat) (nx : Int) (v : List Int) (W : World) : Prop where
  t0 : W.cell? ⟨B, 0, none⟩ = some (.slice a n c)
  t1 : W.cell? ⟨B, 1, none⟩ = some (.int .i64 nx)
  s : ∀ j, j < 7 → W.cell? ⟨B + 1, j, none⟩ = some (.int .i64 (v.getD j 0))
  r0 : W.cell? ⟨B + 2, 0, none⟩ = some (.slice none 0 0)
  r1 : W.cell? ⟨B + 2, 1, none⟩ = some (.int .i64 0)
  z0 : W.frozen? ⟨B + 2, 0, none⟩ = false
  z1 : W.frozen? ⟨B + 2, 1, none⟩ = false
theorem DBox.touch {S : Nat → Prop} {B : Nat} {a : Option Addr} {n c : Nat} {nx : Int} {v : List Int} {W W' : World} (h : DBox B a n c nx v W) (ht : Touch S W W') (hS : ∀ k, B ≤ k → k < B + 3 → ¬ S k) : DBox B a n c nx v W' := by
  have n0 := hS B (by omega) (by omega)
  have n1 := hS (B + 1) (by omega) (by omega)
  have n2 := hS (B + 2) (by omega) (by omega)
  exact ⟨(ht.cell (p := ⟨B, 0, none⟩) (block_lt_of_cell h.t0) n0).trans h.t0, (ht.cell (p := ⟨B, 1, none⟩) (block_lt_of_cell h.t1) n0).trans h.t1, fun j hj => (ht.cell (p := ⟨B + 1, j, none⟩) (block_lt_of_cell (h.s j hj)) n1).trans (h.s j hj), (ht.cell (p := ⟨B + 2, 0, none⟩) (block_lt_of_cell h.r0) n2).trans h.r0, (ht.cell (p := ⟨B + 2, 1, none⟩) (block_lt_of_cell h.r1) n2).trans h.r1,
    (ht.frozen (p := ⟨B + 2, 0, none⟩) (block_lt_of_cell h.r0) n2).trans h.z0, (ht.frozen (p := ⟨B + 2, 1, none⟩) (block_lt_of_cell h.r1) n2).trans h.z1⟩
theorem DBox.below {B : Nat} {a : Option Addr} {n c : Nat} {nx : Int} {v : List Int} {W W' : World} (h : DBox B a n c nx v W) (hb : Below W.heap.size W W') : DBox B a n c nx v W' := h.touch (touch_of_below (S := fun _ => False) hb) (fun _ _ _ => id)
theorem dbox_new (w : World) (a : Option Addr) (n c : Nat) (nx ak an af aa ab ax ay : Int) : DBox w.heap.size a n c nx [ak, an, af, aa, ab, ax, ay] (((w.alloc (.cells #[.slice a n c, .int .i64 nx] 28)).alloc (.cells #[.int .i64 ak, .int .i64 an, .int .i64 af, .int .i64 aa, .int .i64 ab, .int .i64 ax, .int .i64 ay] 32)).alloc (.cells #[.slice none 0 0, .int .i64 0] 28)) := by
  refine ⟨by repeat' (first | exact new_cell (by first | rfl | (simp; done)) rfl | with_reducible refine alloc_cell ?_ _), by repeat' (first | exact new_cell (by first | rfl | (simp; done)) rfl | with_reducible refine alloc_cell ?_ _), fun j hj => ?_, by repeat' (first | exact new_cell (by first | rfl | (simp; done)) rfl | with_reducible refine alloc_cell ?_ _), by repeat' (first | exact new_cell (by first | rfl | (simp; done)) rfl | with_reducible refine alloc_cell ?_ _), ?_, ?_⟩
  · refine alloc_cell (new_cell (by simp) ?_) _
    have : j = 0 ∨ j = 1 ∨ j = 2 ∨ j = 3 ∨ j = 4 ∨ j = 5 ∨ j = 6 := by omega
    rcases this with rfl | rfl | rfl | rfl | rfl | rfl | rfl <;> rfl
  · rw [show w.heap.size + 2 = ((w.alloc (.cells #[.slice a n c, .int .i64 nx] 28)).alloc (.cells #[.int .i64 ak, .int .i64 an, .int .i64 af, .int .i64 aa, .int .i64 ab, .int .i64 ax, .int .i64 ay] 32)).heap.size by simp]; exact frozen_new _ _ _ _
  · rw [show w.heap.size + 2 = ((w.alloc (.cells #[.slice a n c, .int .i64 nx] 28)).alloc (.cells #[.int .i64 ak, .int .i64 an, .int .i64 af, .int .i64 aa, .int .i64 ab, .int .i64 ax, .int .i64 ay] 32)).heap.size by simp]; exact frozen_new _ _ _ _
set_option maxRecDepth 100000 in
set_option maxHeartbeats 4000000 in
theorem does_1 (K0 : Nat → Prop) (b : Nat) (us : List Un) (g : Int) (a : Option Addr) (c : Nat) (w : World) (an af aa ab ax ay : Int) (h : DoMem K0 b us g a c w) :
    Calls Try.prog 13 #[.pointer (some ⟨b, 0, none⟩), .agg #[.slice a us.length c, .int .i64 (g + 1)], .agg #[.int .i64 1, .int .i64 an, .int .i64 af, .int .i64 aa, .int .i64 ab, .int .i64 ax, .int .i64 ay]] w (DoesPost K0 b a w) := by
  have hA3 : Below w.heap.size w (((w.alloc (.cells #[.slice a us.length c, .int .i64 (g + 1)] 28)).alloc (.cells #[.int .i64 1, .int .i64 an, .int .i64 af, .int .i64 aa, .int .i64 ab, .int .i64 ax, .int .i64 ay] 32)).alloc (.cells #[.slice none 0 0, .int .i64 0] 28)) := bel_alloc (bel_alloc (bel_alloc (Below.refl _ _) _) _) _
  have HQ3 := Lib.hid (show TabQ (KB K0 a w.heap.size) b us g (((w.alloc (.cells #[.slice a us.length c, .int .i64 (g + 1)] 28)).alloc (.cells #[.int .i64 1, .int .i64 an, .int .i64 af, .int .i64 aa, .int .i64 ab, .int .i64 ax, .int .i64 ay] 32)).alloc (.cells #[.slice none 0 0, .int .i64 0] 28)) from h.tab.grow (N := fun k => w.heap.size ≤ k ∧ k < w.heap.size + 3) hA3 (fun k hk => ⟨hk.1, by simp; omega⟩))
  have HD3 := Lib.hid (dbox_new w a us.length c (g + 1) 1 an af aa ab ax ay)
  have HB3 := Lib.hid (show Touch (fun k => ¬ K0 k) w (((w.alloc (.cells #[.slice a us.length c, .int .i64 (g + 1)] 28)).alloc (.cells #[.int .i64 1, .int .i64 an, .int .i64 af, .int .i64 aa, .int .i64 ab, .int .i64 ax, .int .i64 ay] 32)).alloc (.cells #[.slice none 0 0, .int .i64 0] 28)) from touch_of_below hA3)
  have HR3 := Lib.hid (h.rt.below hA3)
  have HAB := Lib.hid (show ∀ x, a = some x → x.block < w.heap.size from fun x hx => h.tab.2.1 _ (.inr (by rw [hx]; rfl)))
  have HW0 := Lib.hid (show ∀ k, K0 k → k < w.heap.size from fun k hk => h.tab.2.1 k (.inl hk))
  have h64 := h.tab.ok.1
  have hc1 := h.rt.len
  have hc2 := h.rt.cap
  unfold maxLen at hc2
  have HOK := Lib.hid h.tab.ok
  have HBO := Lib.hid (fun (idv : Int) => spawn_both (K := KB K0 a w.heap.size) b us g aa ab ax ay HOK.out)
  generalize hpost : DoesPost K0 b a w = Post
  have HPOST := Lib.hid hpost
  clear hA3 h hpost
  generalize hn : us.length = n at HQ3 HD3 HB3 HR3 h64 hc1 ⊢
  have HN := Lib.hid hn
  clear hn
  by_cases h0 : n = 0
  · subst h0
    obtain ⟨us', g', z, hk1, hk2⟩ := HBO.out 0
    have hn := HN.out
    simp only [hn] at hk2
    clear hn
    have HK1 := Lib.hid hk1
    have HK2 := Lib.hid hk2
    have hself : (z == z) = true := by simp
    clear hk1 hk2 HBO
    go_enter Try.func13, Try.ntmps13
    go_wp2_with fail
    refine (HK1.out _ HQ3.out).mono ?_
    rintro r w2 ⟨rfl, hq2, ht2⟩
    have HQ2 := Lib.hid hq2
    have HD2 := Lib.hid (HD3.out.touch ht2 (fun k h1 h2 hn => hn (.inr ⟨h1, h2⟩)))
    have HB2 := Lib.hid (HB3.out.trans (ht2.mono fun k _ h1 h2 => h1 (.inl (.inl h2))))
    have HR2 := Lib.hid (show RT w2 a c us from ⟨HR3.out.row.touch ht2 (fun x hx hn => hn (.inl (.inr (by rw [hx]; rfl)))), HR3.out.nil, HR3.out.len, HR3.out.cap⟩)
    clear hq2 ht2 HK1
    have t0 := HD2.out.t0
    have t1 := HD2.out.t1
    have s2 := HD2.out.s 2 (by decide)
    have s3 := HD2.out.s 3 (by decide)
    have s4 := HD2.out.s 4 (by decide)
    have s5 := HD2.out.s 5 (by decide)
    have s6 := HD2.out.s 6 (by decide)
    simp only [List.getD_cons_succ, List.getD_cons_zero] at s2 s3 s4 s5 s6
    have b0 := block_lt_of_cell t0
    have b1 := block_lt_of_cell s2
    simp only at b0 b1
    go_wp2_with fail
    refine (HK2.out w2 a c HR2.out).mono ?_
    rintro r w3 ⟨a5, c5, rfl, p2, p3, p4, p5, p6, p7⟩
    have HD4 := Lib.hid (HD2.out.below p7)
    have HFIN := Lib.hid (fun x0 x1 o => does_fin HQ2.out p2 p3 p4 p5 p6 p7 HB2.out HW0.out HAB.out x0 x1 o)
    have r0 := HD4.out.r0
    have r1 := HD4.out.r1
    have z0 := HD4.out.z0
    have z1 := HD4.out.z1
    have b2 := block_lt_of_cell r0
    simp only at b2
    have HFR0 := Lib.hid (fun x y o => alloc_cell (set2_same0 (x := x) (y := y) r0) o)
    have HFR1 := Lib.hid (fun x y o => alloc_cell (set2_same1 (x := x) (y := y) r1) o)
    clear p2 p3 p4 p5 p6 p7 HK2 HD2 HQ2 HR2 t0 t1 s2 s3 s4 s5 s6
    go_wp2
    have fr0 := HFR0.out (.slice a5 us'.length c5) (.int .i64 (g' + 1)) (.cells #[.slice a5 us'.length c5, .int .i64 (g' + 1)] 28)
    have fr1 := HFR1.out (.slice a5 us'.length c5) (.int .i64 (g' + 1)) (.cells #[.slice a5 us'.length c5, .int .i64 (g' + 1)] 28)
    have hfin := HFIN.out (.slice a5 us'.length c5) (.int .i64 (g' + 1)) (.cells #[.slice a5 us'.length c5, .int .i64 (g' + 1)] 28)
    rw [← HPOST.out]
    exact bodyPost_ret (v := .tuple #[.agg #[.slice a5 us'.length c5, .int .i64 (g' + 1)], .bool true]) (by simp [results, Try.results13, go_sem, fr0, fr1]) rfl ⟨us', g', a5, c5, rfl, hfin.1, hfin.2.1, hfin.2.2.imp id (fun h x hx => Nat.le_trans HB2.out.size (h x hx))⟩
  · have d0 : decide ((0 : Int) < (n : Int)) = true := by simp; omega
    obtain ⟨q5, hq5, eq5⟩ := andM an 255 255 rfl (by decide)
    have hmod : q5 % n < n := Nat.mod_lt _ (by omega)
    obtain ⟨gb, off, rfl, hgb, e0, -⟩ := HR3.out.row.at (i := q5 % n) (by rw [HN.out]; exact hmod)
    generalize us[q5 % n]'(by rw [HN.out]; exact hmod) = uu at e0
    generalize uu.id = idv at e0
    obtain ⟨us', g', z, hk1, hk2⟩ := HBO.out 0
    have hn := HN.out
    simp only [hn] at hk2
    clear hn
    have HK1 := Lib.hid hk1
    have HK2 := Lib.hid hk2
    have hself : (z == z) = true := by simp
    clear hk1 hk2 HBO
    go_enter Try.func13, Try.ntmps13
    have m1 : (0 : Int) ≤ ((q5 % n : Nat) : Int) := by omega
    have m2 : ((q5 % n : Nat) : Int) < (n : Int) := by omega
    have hrem := rem_run q5 n h64 h0 hq5
    have hmE : (q5 : Int) % (n : Int) = ((q5 % n : Nat) : Int) := (Int.natCast_emod _ _).symm
    have hmT : (q5 : Int).tmod (n : Int) = ((q5 % n : Nat) : Int) := by rw [Int.tmod_eq_emod_of_nonneg (by omega)]; exact hmE
    generalize q5 % n = m5 at hrem e0 m1 m2 hmod hmE hmT
    go_upto_region 3 with (fail)
    have t0 := HD3.out.t0
    have s1 := HD3.out.s 1 (by decide)
    simp only [List.getD_cons_succ, List.getD_cons_zero] at s1
    generalize ((w.alloc (.cells #[.slice (some ⟨gb, off, none⟩) n c, .int .i64 (g + 1)] 28)).alloc (.cells #[.int .i64 1, .int .i64 an, .int .i64 af, .int .i64 aa, .int .i64 ab, .int .i64 ax, .int .i64 ay] 32)).alloc (.cells #[.slice none 0 0, .int .i64 0] 28) = Wq at HQ3 HD3 HB3 HR3 e0 t0 s1 hgb ⊢
    go_quiet (fail)
    clear hrem m1 m2 e0 t0 s1 eq5 hmE hmT
    have HQ3 : Hid (TabQ (KB K0 (some ⟨gb, off, none⟩) w.heap.size) b us g (Wq.drewN nq)) := Lib.hid (HQ3.out.below ⟨rfl, rfl, rfl, Nat.le_refl _, fun _ _ => rfl⟩)
    have HD3 : Hid (DBox w.heap.size (some ⟨gb, off, none⟩) n c (g + 1) [1, an, af, aa, ab, ax, ay] (Wq.drewN nq)) := Lib.hid (HD3.out.below ⟨rfl, rfl, rfl, Nat.le_refl _, fun _ _ => rfl⟩)
    have HB3 : Hid (Touch (fun k => ¬ K0 k) w (Wq.drewN nq)) := Lib.hid ⟨HB3.out.os, HB3.out.tape, HB3.out.output, HB3.out.size, HB3.out.block⟩
    have HR3 : Hid (RT (Wq.drewN nq) (some ⟨gb, off, none⟩) c us) := Lib.hid (HR3.out.below ⟨rfl, rfl, rfl, Nat.le_refl _, fun _ _ => rfl⟩)
    generalize Wq.drewN nq = Wp at HQ3 HD3 HB3 HR3 ⊢
    have s0 := HD3.out.s 0 (by decide)
    have s2 := HD3.out.s 2 (by decide)
    have s3 := HD3.out.s 3 (by decide)
    have s4 := HD3.out.s 4 (by decide)
    have s5 := HD3.out.s 5 (by decide)
    have s6 := HD3.out.s 6 (by decide)
    simp only [List.getD_cons_succ, List.getD_cons_zero] at s0 s2 s3 s4 s5 s6
    have t0 := HD3.out.t0
    have r0 := HD3.out.r0
    have hs1 := block_lt_of_cell s2
    have ht0 := block_lt_of_cell t0
    have hr0 := block_lt_of_cell r0
    simp only at hs1 ht0 hr0
    go_wp2_with fail
    clear s0 s2 s3 s4 s5 s6 t0 r0 hs1 ht0 hr0
    refine (HK1.out _ HQ3.out).mono ?_
    rintro r w2 ⟨rfl, hq2, ht2⟩
    have HQ2 := Lib.hid hq2
    have HD2 := Lib.hid (HD3.out.touch ht2 (fun k h1 h2 hn => hn (.inr ⟨h1, h2⟩)))
    have HB2 := Lib.hid (HB3.out.trans (ht2.mono fun k _ h1 h2 => h1 (.inl (.inl h2))))
    have HR2 := Lib.hid (show RT w2 (some ⟨gb, off, none⟩) c us from ⟨HR3.out.row.touch ht2 (fun x hx hn => hn (.inl (.inr (by cases hx; rfl)))), HR3.out.nil, HR3.out.len, HR3.out.cap⟩)
    clear hq2 ht2 HK1
    have t0 := HD2.out.t0
    have t1 := HD2.out.t1
    have s2 := HD2.out.s 2 (by decide)
    have s3 := HD2.out.s 3 (by decide)
    have s4 := HD2.out.s 4 (by decide)
    have s5 := HD2.out.s 5 (by decide)
    have s6 := HD2.out.s 6 (by decide)
    simp only [List.getD_cons_succ, List.getD_cons_zero] at s2 s3 s4 s5 s6
    have b0 := block_lt_of_cell t0
    have b1 := block_lt_of_cell s2
    simp only at b0 b1
    go_wp2_with fail
    refine (HK2.out w2 _ c HR2.out).mono ?_
    rintro r w3 ⟨a5, c5, rfl, p2, p3, p4, p5, p6, p7⟩
    have HD4 := Lib.hid (HD2.out.below p7)
    have HFIN := Lib.hid (fun x0 x1 o => does_fin HQ2.out p2 p3 p4 p5 p6 p7 HB2.out HW0.out HAB.out x0 x1 o)
    have r0 := HD4.out.r0
    have r1 := HD4.out.r1
    have z0 := HD4.out.z0
    have z1 := HD4.out.z1
    have b2 := block_lt_of_cell r0
    simp only at b2
    have HFR0 := Lib.hid (fun x y o => alloc_cell (set2_same0 (x := x) (y := y) r0) o)
    have HFR1 := Lib.hid (fun x y o => alloc_cell (set2_same1 (x := x) (y := y) r1) o)
    clear p2 p3 p4 p5 p6 p7 HK2 HD2 HQ2 HR2 t0 t1 s2 s3 s4 s5 s6
    go_wp2
    have fr0 := HFR0.out (.slice a5 us'.length c5) (.int .i64 (g' + 1)) (.cells #[.slice a5 us'.length c5, .int .i64 (g' + 1)] 28)
    have fr1 := HFR1.out (.slice a5 us'.length c5) (.int .i64 (g' + 1)) (.cells #[.slice a5 us'.length c5, .int .i64 (g' + 1)] 28)
    have hfin := HFIN.out (.slice a5 us'.length c5) (.int .i64 (g' + 1)) (.cells #[.slice a5 us'.length c5, .int .i64 (g' + 1)] 28)
    rw [← HPOST.out]
    exact bodyPost_ret (v := .tuple #[.agg #[.slice a5 us'.length c5, .int .i64 (g' + 1)], .bool true]) (by simp [results, Try.results13, go_sem, fr0, fr1]) rfl ⟨us', g', a5, c5, rfl, hfin.1, hfin.2.1, hfin.2.2.imp id (fun h x hx => Nat.le_trans HB2.out.size (h x hx))⟩
set_option maxRecDepth 100000 in
set_option maxHeartbeats 4000000 in
theorem does_2 (K0 : Nat → Prop) (b : Nat) (us : List Un) (g : Int) (a : Option Addr) (c : Nat) (w : World) (an af aa ab ax ay : Int) (h : DoMem K0 b us g a c w) :
    Calls Try.prog 13 #[.pointer (some ⟨b, 0, none⟩), .agg #[.slice a us.length c, .int .i64 (g + 1)], .agg #[.int .i64 2, .int .i64 an, .int .i64 af, .int .i64 aa, .int .i64 ab, .int .i64 ax, .int .i64 ay]] w (DoesPost K0 b a w) := by
  have hA3 : Below w.heap.size w (((w.alloc (.cells #[.slice a us.length c, .int .i64 (g + 1)] 28)).alloc (.cells #[.int .i64 2, .int .i64 an, .int .i64 af, .int .i64 aa, .int .i64 ab, .int .i64 ax, .int .i64 ay] 32)).alloc (.cells #[.slice none 0 0, .int .i64 0] 28)) := bel_alloc (bel_alloc (bel_alloc (Below.refl _ _) _) _) _
  have HQ3 := Lib.hid (show TabQ (KB K0 a w.heap.size) b us g (((w.alloc (.cells #[.slice a us.length c, .int .i64 (g + 1)] 28)).alloc (.cells #[.int .i64 2, .int .i64 an, .int .i64 af, .int .i64 aa, .int .i64 ab, .int .i64 ax, .int .i64 ay] 32)).alloc (.cells #[.slice none 0 0, .int .i64 0] 28)) from h.tab.grow (N := fun k => w.heap.size ≤ k ∧ k < w.heap.size + 3) hA3 (fun k hk => ⟨hk.1, by simp; omega⟩))
  have HD3 := Lib.hid (dbox_new w a us.length c (g + 1) 2 an af aa ab ax ay)
  have HB3 := Lib.hid (show Touch (fun k => ¬ K0 k) w (((w.alloc (.cells #[.slice a us.length c, .int .i64 (g + 1)] 28)).alloc (.cells #[.int .i64 2, .int .i64 an, .int .i64 af, .int .i64 aa, .int .i64 ab, .int .i64 ax, .int .i64 ay] 32)).alloc (.cells #[.slice none 0 0, .int .i64 0] 28)) from touch_of_below hA3)
  have HR3 := Lib.hid (h.rt.below hA3)
  have HAB := Lib.hid (show ∀ x, a = some x → x.block < w.heap.size from fun x hx => h.tab.2.1 _ (.inr (by rw [hx]; rfl)))
  have HW0 := Lib.hid (show ∀ k, K0 k → k < w.heap.size from fun k hk => h.tab.2.1 k (.inl hk))
  have h64 := h.tab.ok.1
  have hc1 := h.rt.len
  have hc2 := h.rt.cap
  unfold maxLen at hc2
  have HOK := Lib.hid h.tab.ok
  have HBO := Lib.hid (fun (idv : Int) => kill_both (K := KB K0 a w.heap.size) b us g idv HOK.out)
  generalize hpost : DoesPost K0 b a w = Post
  have HPOST := Lib.hid hpost
  clear hA3 h hpost
  generalize hn : us.length = n at HQ3 HD3 HB3 HR3 h64 hc1 ⊢
  have HN := Lib.hid hn
  clear hn
  by_cases h0 : n = 0
  · subst h0
    obtain ⟨us', q, hk1, hk2⟩ := HBO.out ay
    have hn := HN.out
    simp only [hn] at hk2
    clear hn
    have HK1 := Lib.hid hk1
    have HK2 := Lib.hid hk2
    have hself : (q == q) = true := by simp
    clear hk1 hk2 HBO
    go_enter Try.func13, Try.ntmps13
    go_wp2_with fail
    refine (HK1.out _ HQ3.out).mono ?_
    rintro r w2 ⟨rfl, hq2, ht2⟩
    have HQ2 := Lib.hid hq2
    have HD2 := Lib.hid (HD3.out.touch ht2 (fun k h1 h2 hn => hn (.inr ⟨h1, h2⟩)))
    have HB2 := Lib.hid (HB3.out.trans (ht2.mono fun k _ h1 h2 => h1 (.inl (.inl h2))))
    have HR2 := Lib.hid (show RT w2 a c us from ⟨HR3.out.row.touch ht2 (fun x hx hn => hn (.inl (.inr (by rw [hx]; rfl)))), HR3.out.nil, HR3.out.len, HR3.out.cap⟩)
    clear hq2 ht2 HK1
    have t0 := HD2.out.t0
    have t1 := HD2.out.t1
    have s2 := HD2.out.s 2 (by decide)
    have s3 := HD2.out.s 3 (by decide)
    have s4 := HD2.out.s 4 (by decide)
    have s5 := HD2.out.s 5 (by decide)
    have s6 := HD2.out.s 6 (by decide)
    simp only [List.getD_cons_succ, List.getD_cons_zero] at s2 s3 s4 s5 s6
    have b0 := block_lt_of_cell t0
    have b1 := block_lt_of_cell s2
    simp only at b0 b1
    go_wp2_with fail
    refine (HK2.out w2 a c HR2.out).mono ?_
    rintro r w3 ⟨a5, c5, rfl, p2, p3, p4, p5, p6, p7⟩
    have HD4 := Lib.hid (HD2.out.below p7)
    have HFIN := Lib.hid (fun x0 x1 o => does_fin HQ2.out p2 p3 p4 p5 p6 p7 HB2.out HW0.out HAB.out x0 x1 o)
    have r0 := HD4.out.r0
    have r1 := HD4.out.r1
    have z0 := HD4.out.z0
    have z1 := HD4.out.z1
    have b2 := block_lt_of_cell r0
    simp only at b2
    have HFR0 := Lib.hid (fun x y o => alloc_cell (set2_same0 (x := x) (y := y) r0) o)
    have HFR1 := Lib.hid (fun x y o => alloc_cell (set2_same1 (x := x) (y := y) r1) o)
    clear p2 p3 p4 p5 p6 p7 HK2 HD2 HQ2 HR2 t0 t1 s2 s3 s4 s5 s6
    go_wp2
    have fr0 := HFR0.out (.slice a5 us'.length c5) (.int .i64 (g + 1)) (.cells #[.slice a5 us'.length c5, .int .i64 (g + 1)] 28)
    have fr1 := HFR1.out (.slice a5 us'.length c5) (.int .i64 (g + 1)) (.cells #[.slice a5 us'.length c5, .int .i64 (g + 1)] 28)
    have hfin := HFIN.out (.slice a5 us'.length c5) (.int .i64 (g + 1)) (.cells #[.slice a5 us'.length c5, .int .i64 (g + 1)] 28)
    rw [← HPOST.out]
    exact bodyPost_ret (v := .tuple #[.agg #[.slice a5 us'.length c5, .int .i64 (g + 1)], .bool true]) (by simp [results, Try.results13, go_sem, fr0, fr1]) rfl ⟨us', g, a5, c5, rfl, hfin.1, hfin.2.1, hfin.2.2.imp id (fun h x hx => Nat.le_trans HB2.out.size (h x hx))⟩
  · have d0 : decide ((0 : Int) < (n : Int)) = true := by simp; omega
    obtain ⟨q5, hq5, eq5⟩ := andM an 255 255 rfl (by decide)
    have hmod : q5 % n < n := Nat.mod_lt _ (by omega)
    obtain ⟨gb, off, rfl, hgb, e0, -⟩ := HR3.out.row.at (i := q5 % n) (by rw [HN.out]; exact hmod)
    generalize us[q5 % n]'(by rw [HN.out]; exact hmod) = uu at e0
    generalize uu.id = idv at e0
    obtain ⟨us', q, hk1, hk2⟩ := HBO.out idv
    have hn := HN.out
    simp only [hn] at hk2
    clear hn
    have HK1 := Lib.hid hk1
    have HK2 := Lib.hid hk2
    have hself : (q == q) = true := by simp
    clear hk1 hk2 HBO
    go_enter Try.func13, Try.ntmps13
    have m1 : (0 : Int) ≤ ((q5 % n : Nat) : Int) := by omega
    have m2 : ((q5 % n : Nat) : Int) < (n : Int) := by omega
    have hrem := rem_run q5 n h64 h0 hq5
    have hmE : (q5 : Int) % (n : Int) = ((q5 % n : Nat) : Int) := (Int.natCast_emod _ _).symm
    have hmT : (q5 : Int).tmod (n : Int) = ((q5 % n : Nat) : Int) := by rw [Int.tmod_eq_emod_of_nonneg (by omega)]; exact hmE
    generalize q5 % n = m5 at hrem e0 m1 m2 hmod hmE hmT
    go_upto_region 3 with (fail)
    have t0 := HD3.out.t0
    have s1 := HD3.out.s 1 (by decide)
    simp only [List.getD_cons_succ, List.getD_cons_zero] at s1
    generalize ((w.alloc (.cells #[.slice (some ⟨gb, off, none⟩) n c, .int .i64 (g + 1)] 28)).alloc (.cells #[.int .i64 2, .int .i64 an, .int .i64 af, .int .i64 aa, .int .i64 ab, .int .i64 ax, .int .i64 ay] 32)).alloc (.cells #[.slice none 0 0, .int .i64 0] 28) = Wq at HQ3 HD3 HB3 HR3 e0 t0 s1 hgb ⊢
    go_quiet (fail)
    clear hrem m1 m2 e0 t0 s1 eq5 hmE hmT
    have HQ3 : Hid (TabQ (KB K0 (some ⟨gb, off, none⟩) w.heap.size) b us g (Wq.drewN nq)) := Lib.hid (HQ3.out.below ⟨rfl, rfl, rfl, Nat.le_refl _, fun _ _ => rfl⟩)
    have HD3 : Hid (DBox w.heap.size (some ⟨gb, off, none⟩) n c (g + 1) [2, an, af, aa, ab, ax, ay] (Wq.drewN nq)) := Lib.hid (HD3.out.below ⟨rfl, rfl, rfl, Nat.le_refl _, fun _ _ => rfl⟩)
    have HB3 : Hid (Touch (fun k => ¬ K0 k) w (Wq.drewN nq)) := Lib.hid ⟨HB3.out.os, HB3.out.tape, HB3.out.output, HB3.out.size, HB3.out.block⟩
    have HR3 : Hid (RT (Wq.drewN nq) (some ⟨gb, off, none⟩) c us) := Lib.hid (HR3.out.below ⟨rfl, rfl, rfl, Nat.le_refl _, fun _ _ => rfl⟩)
    generalize Wq.drewN nq = Wp at HQ3 HD3 HB3 HR3 ⊢
    have s0 := HD3.out.s 0 (by decide)
    have s2 := HD3.out.s 2 (by decide)
    have s3 := HD3.out.s 3 (by decide)
    have s4 := HD3.out.s 4 (by decide)
    have s5 := HD3.out.s 5 (by decide)
    have s6 := HD3.out.s 6 (by decide)
    simp only [List.getD_cons_succ, List.getD_cons_zero] at s0 s2 s3 s4 s5 s6
    have t0 := HD3.out.t0
    have r0 := HD3.out.r0
    have hs1 := block_lt_of_cell s2
    have ht0 := block_lt_of_cell t0
    have hr0 := block_lt_of_cell r0
    simp only at hs1 ht0 hr0
    go_wp2_with fail
    clear s0 s2 s3 s4 s5 s6 t0 r0 hs1 ht0 hr0
    refine (HK1.out _ HQ3.out).mono ?_
    rintro r w2 ⟨rfl, hq2, ht2⟩
    have HQ2 := Lib.hid hq2
    have HD2 := Lib.hid (HD3.out.touch ht2 (fun k h1 h2 hn => hn (.inr ⟨h1, h2⟩)))
    have HB2 := Lib.hid (HB3.out.trans (ht2.mono fun k _ h1 h2 => h1 (.inl (.inl h2))))
    have HR2 := Lib.hid (show RT w2 (some ⟨gb, off, none⟩) c us from ⟨HR3.out.row.touch ht2 (fun x hx hn => hn (.inl (.inr (by cases hx; rfl)))), HR3.out.nil, HR3.out.len, HR3.out.cap⟩)
    clear hq2 ht2 HK1
    have t0 := HD2.out.t0
    have t1 := HD2.out.t1
    have s2 := HD2.out.s 2 (by decide)
    have s3 := HD2.out.s 3 (by decide)
    have s4 := HD2.out.s 4 (by decide)
    have s5 := HD2.out.s 5 (by decide)
    have s6 := HD2.out.s 6 (by decide)
    simp only [List.getD_cons_succ, List.getD_cons_zero] at s2 s3 s4 s5 s6
    have b0 := block_lt_of_cell t0
    have b1 := block_lt_of_cell s2
    simp only at b0 b1
    go_wp2_with fail
    refine (HK2.out w2 _ c HR2.out).mono ?_
    rintro r w3 ⟨a5, c5, rfl, p2, p3, p4, p5, p6, p7⟩
    have HD4 := Lib.hid (HD2.out.below p7)
    have HFIN := Lib.hid (fun x0 x1 o => does_fin HQ2.out p2 p3 p4 p5 p6 p7 HB2.out HW0.out HAB.out x0 x1 o)
    have r0 := HD4.out.r0
    have r1 := HD4.out.r1
    have z0 := HD4.out.z0
    have z1 := HD4.out.z1
    have b2 := block_lt_of_cell r0
    simp only at b2
    have HFR0 := Lib.hid (fun x y o => alloc_cell (set2_same0 (x := x) (y := y) r0) o)
    have HFR1 := Lib.hid (fun x y o => alloc_cell (set2_same1 (x := x) (y := y) r1) o)
    clear p2 p3 p4 p5 p6 p7 HK2 HD2 HQ2 HR2 t0 t1 s2 s3 s4 s5 s6
    go_wp2
    have fr0 := HFR0.out (.slice a5 us'.length c5) (.int .i64 (g + 1)) (.cells #[.slice a5 us'.length c5, .int .i64 (g + 1)] 28)
    have fr1 := HFR1.out (.slice a5 us'.length c5) (.int .i64 (g + 1)) (.cells #[.slice a5 us'.length c5, .int .i64 (g + 1)] 28)
    have hfin := HFIN.out (.slice a5 us'.length c5) (.int .i64 (g + 1)) (.cells #[.slice a5 us'.length c5, .int .i64 (g + 1)] 28)
    rw [← HPOST.out]
    exact bodyPost_ret (v := .tuple #[.agg #[.slice a5 us'.length c5, .int .i64 (g + 1)], .bool true]) (by simp [results, Try.results13, go_sem, fr0, fr1]) rfl ⟨us', g, a5, c5, rfl, hfin.1, hfin.2.1, hfin.2.2.imp id (fun h x hx => Nat.le_trans HB2.out.size (h x hx))⟩
set_option maxRecDepth 100000 in
set_option maxHeartbeats 4000000 in
theorem does_3 (K0 : Nat → Prop) (b : Nat) (us : List Un) (g : Int) (a : Option Addr) (c : Nat) (w : World) (an af aa ab ax ay : Int) (h : DoMem K0 b us g a c w) :
    Calls Try.prog 13 #[.pointer (some ⟨b, 0, none⟩), .agg #[.slice a us.length c, .int .i64 (g + 1)], .agg #[.int .i64 3, .int .i64 an, .int .i64 af, .int .i64 aa, .int .i64 ab, .int .i64 ax, .int .i64 ay]] w (DoesPost K0 b a w) := by
  have hA3 : Below w.heap.size w (((w.alloc (.cells #[.slice a us.length c, .int .i64 (g + 1)] 28)).alloc (.cells #[.int .i64 3, .int .i64 an, .int .i64 af, .int .i64 aa, .int .i64 ab, .int .i64 ax, .int .i64 ay] 32)).alloc (.cells #[.slice none 0 0, .int .i64 0] 28)) := bel_alloc (bel_alloc (bel_alloc (Below.refl _ _) _) _) _
  have HQ3 := Lib.hid (show TabQ (KB K0 a w.heap.size) b us g (((w.alloc (.cells #[.slice a us.length c, .int .i64 (g + 1)] 28)).alloc (.cells #[.int .i64 3, .int .i64 an, .int .i64 af, .int .i64 aa, .int .i64 ab, .int .i64 ax, .int .i64 ay] 32)).alloc (.cells #[.slice none 0 0, .int .i64 0] 28)) from h.tab.grow (N := fun k => w.heap.size ≤ k ∧ k < w.heap.size + 3) hA3 (fun k hk => ⟨hk.1, by simp; omega⟩))
  have HD3 := Lib.hid (dbox_new w a us.length c (g + 1) 3 an af aa ab ax ay)
  have HB3 := Lib.hid (show Touch (fun k => ¬ K0 k) w (((w.alloc (.cells #[.slice a us.length c, .int .i64 (g + 1)] 28)).alloc (.cells #[.int .i64 3, .int .i64 an, .int .i64 af, .int .i64 aa, .int .i64 ab, .int .i64 ax, .int .i64 ay] 32)).alloc (.cells #[.slice none 0 0, .int .i64 0] 28)) from touch_of_below hA3)
  have HR3 := Lib.hid (h.rt.below hA3)
  have HAB := Lib.hid (show ∀ x, a = some x → x.block < w.heap.size from fun x hx => h.tab.2.1 _ (.inr (by rw [hx]; rfl)))
  have HW0 := Lib.hid (show ∀ k, K0 k → k < w.heap.size from fun k hk => h.tab.2.1 k (.inl hk))
  have h64 := h.tab.ok.1
  have hc1 := h.rt.len
  have hc2 := h.rt.cap
  unfold maxLen at hc2
  have HOK := Lib.hid h.tab.ok
  have HBO := Lib.hid (fun (idv : Int) => set_both (K := KB K0 a w.heap.size) b us g idv af ax HOK.out)
  generalize hpost : DoesPost K0 b a w = Post
  have HPOST := Lib.hid hpost
  clear hA3 h hpost
  generalize hn : us.length = n at HQ3 HD3 HB3 HR3 h64 hc1 ⊢
  have HN := Lib.hid hn
  clear hn
  by_cases h0 : n = 0
  · subst h0
    obtain ⟨us', q, hk1, hk2⟩ := HBO.out ay
    have hn := HN.out
    simp only [hn] at hk2
    clear hn
    have HK1 := Lib.hid hk1
    have HK2 := Lib.hid hk2
    have hself : (q == q) = true := by simp
    clear hk1 hk2 HBO
    go_enter Try.func13, Try.ntmps13
    go_wp2_with fail
    refine (HK1.out _ HQ3.out).mono ?_
    rintro r w2 ⟨rfl, hq2, ht2⟩
    have HQ2 := Lib.hid hq2
    have HD2 := Lib.hid (HD3.out.touch ht2 (fun k h1 h2 hn => hn (.inr ⟨h1, h2⟩)))
    have HB2 := Lib.hid (HB3.out.trans (ht2.mono fun k _ h1 h2 => h1 (.inl (.inl h2))))
    have HR2 := Lib.hid (show RT w2 a c us from ⟨HR3.out.row.touch ht2 (fun x hx hn => hn (.inl (.inr (by rw [hx]; rfl)))), HR3.out.nil, HR3.out.len, HR3.out.cap⟩)
    clear hq2 ht2 HK1
    have t0 := HD2.out.t0
    have t1 := HD2.out.t1
    have s2 := HD2.out.s 2 (by decide)
    have s3 := HD2.out.s 3 (by decide)
    have s4 := HD2.out.s 4 (by decide)
    have s5 := HD2.out.s 5 (by decide)
    have s6 := HD2.out.s 6 (by decide)
    simp only [List.getD_cons_succ, List.getD_cons_zero] at s2 s3 s4 s5 s6
    have b0 := block_lt_of_cell t0
    have b1 := block_lt_of_cell s2
    simp only at b0 b1
    go_wp2_with fail
    refine (HK2.out w2 a c HR2.out).mono ?_
    rintro r w3 ⟨a5, c5, rfl, p2, p3, p4, p5, p6, p7⟩
    have HD4 := Lib.hid (HD2.out.below p7)
    have HFIN := Lib.hid (fun x0 x1 o => does_fin HQ2.out p2 p3 p4 p5 p6 p7 HB2.out HW0.out HAB.out x0 x1 o)
    have r0 := HD4.out.r0
    have r1 := HD4.out.r1
    have z0 := HD4.out.z0
    have z1 := HD4.out.z1
    have b2 := block_lt_of_cell r0
    simp only at b2
    have HFR0 := Lib.hid (fun x y o => alloc_cell (set2_same0 (x := x) (y := y) r0) o)
    have HFR1 := Lib.hid (fun x y o => alloc_cell (set2_same1 (x := x) (y := y) r1) o)
    clear p2 p3 p4 p5 p6 p7 HK2 HD2 HQ2 HR2 t0 t1 s2 s3 s4 s5 s6
    go_wp2
    have fr0 := HFR0.out (.slice a5 us'.length c5) (.int .i64 (g + 1)) (.cells #[.slice a5 us'.length c5, .int .i64 (g + 1)] 28)
    have fr1 := HFR1.out (.slice a5 us'.length c5) (.int .i64 (g + 1)) (.cells #[.slice a5 us'.length c5, .int .i64 (g + 1)] 28)
    have hfin := HFIN.out (.slice a5 us'.length c5) (.int .i64 (g + 1)) (.cells #[.slice a5 us'.length c5, .int .i64 (g + 1)] 28)
    rw [← HPOST.out]
    exact bodyPost_ret (v := .tuple #[.agg #[.slice a5 us'.length c5, .int .i64 (g + 1)], .bool true]) (by simp [results, Try.results13, go_sem, fr0, fr1]) rfl ⟨us', g, a5, c5, rfl, hfin.1, hfin.2.1, hfin.2.2.imp id (fun h x hx => Nat.le_trans HB2.out.size (h x hx))⟩
  · have d0 : decide ((0 : Int) < (n : Int)) = true := by simp; omega
    obtain ⟨q5, hq5, eq5⟩ := andM an 255 255 rfl (by decide)
    have hmod : q5 % n < n := Nat.mod_lt _ (by omega)
    obtain ⟨gb, off, rfl, hgb, e0, -⟩ := HR3.out.row.at (i := q5 % n) (by rw [HN.out]; exact hmod)
    generalize us[q5 % n]'(by rw [HN.out]; exact hmod) = uu at e0
    generalize uu.id = idv at e0
    obtain ⟨us', q, hk1, hk2⟩ := HBO.out idv
    have hn := HN.out
    simp only [hn] at hk2
    clear hn
    have HK1 := Lib.hid hk1
    have HK2 := Lib.hid hk2
    have hself : (q == q) = true := by simp
    clear hk1 hk2 HBO
    go_enter Try.func13, Try.ntmps13
    have m1 : (0 : Int) ≤ ((q5 % n : Nat) : Int) := by omega
    have m2 : ((q5 % n : Nat) : Int) < (n : Int) := by omega
    have hrem := rem_run q5 n h64 h0 hq5
    have hmE : (q5 : Int) % (n : Int) = ((q5 % n : Nat) : Int) := (Int.natCast_emod _ _).symm
    have hmT : (q5 : Int).tmod (n : Int) = ((q5 % n : Nat) : Int) := by rw [Int.tmod_eq_emod_of_nonneg (by omega)]; exact hmE
    generalize q5 % n = m5 at hrem e0 m1 m2 hmod hmE hmT
    go_upto_region 3 with (fail)
    have t0 := HD3.out.t0
    have s1 := HD3.out.s 1 (by decide)
    simp only [List.getD_cons_succ, List.getD_cons_zero] at s1
    generalize ((w.alloc (.cells #[.slice (some ⟨gb, off, none⟩) n c, .int .i64 (g + 1)] 28)).alloc (.cells #[.int .i64 3, .int .i64 an, .int .i64 af, .int .i64 aa, .int .i64 ab, .int .i64 ax, .int .i64 ay] 32)).alloc (.cells #[.slice none 0 0, .int .i64 0] 28) = Wq at HQ3 HD3 HB3 HR3 e0 t0 s1 hgb ⊢
    go_quiet (fail)
    clear hrem m1 m2 e0 t0 s1 eq5 hmE hmT
    have HQ3 : Hid (TabQ (KB K0 (some ⟨gb, off, none⟩) w.heap.size) b us g (Wq.drewN nq)) := Lib.hid (HQ3.out.below ⟨rfl, rfl, rfl, Nat.le_refl _, fun _ _ => rfl⟩)
    have HD3 : Hid (DBox w.heap.size (some ⟨gb, off, none⟩) n c (g + 1) [3, an, af, aa, ab, ax, ay] (Wq.drewN nq)) := Lib.hid (HD3.out.below ⟨rfl, rfl, rfl, Nat.le_refl _, fun _ _ => rfl⟩)
    have HB3 : Hid (Touch (fun k => ¬ K0 k) w (Wq.drewN nq)) := Lib.hid ⟨HB3.out.os, HB3.out.tape, HB3.out.output, HB3.out.size, HB3.out.block⟩
    have HR3 : Hid (RT (Wq.drewN nq) (some ⟨gb, off, none⟩) c us) := Lib.hid (HR3.out.below ⟨rfl, rfl, rfl, Nat.le_refl _, fun _ _ => rfl⟩)
    generalize Wq.drewN nq = Wp at HQ3 HD3 HB3 HR3 ⊢
    have s0 := HD3.out.s 0 (by decide)
    have s2 := HD3.out.s 2 (by decide)
    have s3 := HD3.out.s 3 (by decide)
    have s4 := HD3.out.s 4 (by decide)
    have s5 := HD3.out.s 5 (by decide)
    have s6 := HD3.out.s 6 (by decide)
    simp only [List.getD_cons_succ, List.getD_cons_zero] at s0 s2 s3 s4 s5 s6
    have t0 := HD3.out.t0
    have r0 := HD3.out.r0
    have hs1 := block_lt_of_cell s2
    have ht0 := block_lt_of_cell t0
    have hr0 := block_lt_of_cell r0
    simp only at hs1 ht0 hr0
    go_wp2_with fail
    clear s0 s2 s3 s4 s5 s6 t0 r0 hs1 ht0 hr0
    refine (HK1.out _ HQ3.out).mono ?_
    rintro r w2 ⟨rfl, hq2, ht2⟩
    have HQ2 := Lib.hid hq2
    have HD2 := Lib.hid (HD3.out.touch ht2 (fun k h1 h2 hn => hn (.inr ⟨h1, h2⟩)))
    have HB2 := Lib.hid (HB3.out.trans (ht2.mono fun k _ h1 h2 => h1 (.inl (.inl h2))))
    have HR2 := Lib.hid (show RT w2 (some ⟨gb, off, none⟩) c us from ⟨HR3.out.row.touch ht2 (fun x hx hn => hn (.inl (.inr (by cases hx; rfl)))), HR3.out.nil, HR3.out.len, HR3.out.cap⟩)
    clear hq2 ht2 HK1
    have t0 := HD2.out.t0
    have t1 := HD2.out.t1
    have s2 := HD2.out.s 2 (by decide)
    have s3 := HD2.out.s 3 (by decide)
    have s4 := HD2.out.s 4 (by decide)
    have s5 := HD2.out.s 5 (by decide)
    have s6 := HD2.out.s 6 (by decide)
    simp only [List.getD_cons_succ, List.getD_cons_zero] at s2 s3 s4 s5 s6
    have b0 := block_lt_of_cell t0
    have b1 := block_lt_of_cell s2
    simp only at b0 b1
    go_wp2_with fail
    refine (HK2.out w2 _ c HR2.out).mono ?_
    rintro r w3 ⟨a5, c5, rfl, p2, p3, p4, p5, p6, p7⟩
    have HD4 := Lib.hid (HD2.out.below p7)
    have HFIN := Lib.hid (fun x0 x1 o => does_fin HQ2.out p2 p3 p4 p5 p6 p7 HB2.out HW0.out HAB.out x0 x1 o)
    have r0 := HD4.out.r0
    have r1 := HD4.out.r1
    have z0 := HD4.out.z0
    have z1 := HD4.out.z1
    have b2 := block_lt_of_cell r0
    simp only at b2
    have HFR0 := Lib.hid (fun x y o => alloc_cell (set2_same0 (x := x) (y := y) r0) o)
    have HFR1 := Lib.hid (fun x y o => alloc_cell (set2_same1 (x := x) (y := y) r1) o)
    clear p2 p3 p4 p5 p6 p7 HK2 HD2 HQ2 HR2 t0 t1 s2 s3 s4 s5 s6
    go_wp2
    have fr0 := HFR0.out (.slice a5 us'.length c5) (.int .i64 (g + 1)) (.cells #[.slice a5 us'.length c5, .int .i64 (g + 1)] 28)
    have fr1 := HFR1.out (.slice a5 us'.length c5) (.int .i64 (g + 1)) (.cells #[.slice a5 us'.length c5, .int .i64 (g + 1)] 28)
    have hfin := HFIN.out (.slice a5 us'.length c5) (.int .i64 (g + 1)) (.cells #[.slice a5 us'.length c5, .int .i64 (g + 1)] 28)
    rw [← HPOST.out]
    exact bodyPost_ret (v := .tuple #[.agg #[.slice a5 us'.length c5, .int .i64 (g + 1)], .bool true]) (by simp [results, Try.results13, go_sem, fr0, fr1]) rfl ⟨us', g, a5, c5, rfl, hfin.1, hfin.2.1, hfin.2.2.imp id (fun h x hx => Nat.le_trans HB2.out.size (h x hx))⟩
set_option maxRecDepth 100000 in
set_option maxHeartbeats 4000000 in
theorem does_4 (K0 : Nat → Prop) (b : Nat) (us : List Un) (g : Int) (a : Option Addr) (c : Nat) (w : World) (an af aa ab ax ay : Int) (h : DoMem K0 b us g a c w) :
    Calls Try.prog 13 #[.pointer (some ⟨b, 0, none⟩), .agg #[.slice a us.length c, .int .i64 (g + 1)], .agg #[.int .i64 4, .int .i64 an, .int .i64 af, .int .i64 aa, .int .i64 ab, .int .i64 ax, .int .i64 ay]] w (DoesPost K0 b a w) := by
  have hA3 : Below w.heap.size w (((w.alloc (.cells #[.slice a us.length c, .int .i64 (g + 1)] 28)).alloc (.cells #[.int .i64 4, .int .i64 an, .int .i64 af, .int .i64 aa, .int .i64 ab, .int .i64 ax, .int .i64 ay] 32)).alloc (.cells #[.slice none 0 0, .int .i64 0] 28)) := bel_alloc (bel_alloc (bel_alloc (Below.refl _ _) _) _) _
  have HQ3 := Lib.hid (show TabQ (KB K0 a w.heap.size) b us g (((w.alloc (.cells #[.slice a us.length c, .int .i64 (g + 1)] 28)).alloc (.cells #[.int .i64 4, .int .i64 an, .int .i64 af, .int .i64 aa, .int .i64 ab, .int .i64 ax, .int .i64 ay] 32)).alloc (.cells #[.slice none 0 0, .int .i64 0] 28)) from h.tab.grow (N := fun k => w.heap.size ≤ k ∧ k < w.heap.size + 3) hA3 (fun k hk => ⟨hk.1, by simp; omega⟩))
  have HD3 := Lib.hid (dbox_new w a us.length c (g + 1) 4 an af aa ab ax ay)
  have HB3 := Lib.hid (show Touch (fun k => ¬ K0 k) w (((w.alloc (.cells #[.slice a us.length c, .int .i64 (g + 1)] 28)).alloc (.cells #[.int .i64 4, .int .i64 an, .int .i64 af, .int .i64 aa, .int .i64 ab, .int .i64 ax, .int .i64 ay] 32)).alloc (.cells #[.slice none 0 0, .int .i64 0] 28)) from touch_of_below hA3)
  have HR3 := Lib.hid (h.rt.below hA3)
  have HAB := Lib.hid (show ∀ x, a = some x → x.block < w.heap.size from fun x hx => h.tab.2.1 _ (.inr (by rw [hx]; rfl)))
  have HW0 := Lib.hid (show ∀ k, K0 k → k < w.heap.size from fun k hk => h.tab.2.1 k (.inl hk))
  have h64 := h.tab.ok.1
  have hc1 := h.rt.len
  have hc2 := h.rt.cap
  unfold maxLen at hc2
  have HOK := Lib.hid h.tab.ok
  have HBO := Lib.hid (fun (idv : Int) => kill_both (K := KB K0 a w.heap.size) b us g idv HOK.out)
  generalize hpost : DoesPost K0 b a w = Post
  have HPOST := Lib.hid hpost
  clear hA3 h hpost
  generalize hn : us.length = n at HQ3 HD3 HB3 HR3 h64 hc1 ⊢
  have HN := Lib.hid hn
  clear hn
  by_cases h0 : n = 0
  · subst h0
    obtain ⟨us', q, hk1, hk2⟩ := HBO.out ax
    have hn := HN.out
    simp only [hn] at hk2
    clear hn
    have HK1 := Lib.hid hk1
    have HK2 := Lib.hid hk2
    have hself : (q == q) = true := by simp
    clear hk1 hk2 HBO
    go_enter Try.func13, Try.ntmps13
    go_wp2_with fail
    refine (HK1.out _ HQ3.out).mono ?_
    rintro r w2 ⟨rfl, hq2, ht2⟩
    have HQ2 := Lib.hid hq2
    have HD2 := Lib.hid (HD3.out.touch ht2 (fun k h1 h2 hn => hn (.inr ⟨h1, h2⟩)))
    have HB2 := Lib.hid (HB3.out.trans (ht2.mono fun k _ h1 h2 => h1 (.inl (.inl h2))))
    have HR2 := Lib.hid (show RT w2 a c us from ⟨HR3.out.row.touch ht2 (fun x hx hn => hn (.inl (.inr (by rw [hx]; rfl)))), HR3.out.nil, HR3.out.len, HR3.out.cap⟩)
    clear hq2 ht2 HK1
    have t0 := HD2.out.t0
    have t1 := HD2.out.t1
    have s2 := HD2.out.s 2 (by decide)
    have s3 := HD2.out.s 3 (by decide)
    have s4 := HD2.out.s 4 (by decide)
    have s5 := HD2.out.s 5 (by decide)
    have s6 := HD2.out.s 6 (by decide)
    simp only [List.getD_cons_succ, List.getD_cons_zero] at s2 s3 s4 s5 s6
    have b0 := block_lt_of_cell t0
    have b1 := block_lt_of_cell s2
    simp only at b0 b1
    go_wp2_with fail
    refine (HK2.out w2 a c HR2.out).mono ?_
    rintro r w3 ⟨a5, c5, rfl, p2, p3, p4, p5, p6, p7⟩
    have HD4 := Lib.hid (HD2.out.below p7)
    have HFIN := Lib.hid (fun x0 x1 o => does_fin HQ2.out p2 p3 p4 p5 p6 p7 HB2.out HW0.out HAB.out x0 x1 o)
    have r0 := HD4.out.r0
    have r1 := HD4.out.r1
    have z0 := HD4.out.z0
    have z1 := HD4.out.z1
    have b2 := block_lt_of_cell r0
    simp only at b2
    have HFR0 := Lib.hid (fun x y o => alloc_cell (set2_same0 (x := x) (y := y) r0) o)
    have HFR1 := Lib.hid (fun x y o => alloc_cell (set2_same1 (x := x) (y := y) r1) o)
    clear p2 p3 p4 p5 p6 p7 HK2 HD2 HQ2 HR2 t0 t1 s2 s3 s4 s5 s6
    go_wp2
    have fr0 := HFR0.out (.slice a5 us'.length c5) (.int .i64 (g + 1)) (.cells #[.slice a5 us'.length c5, .int .i64 (g + 1)] 28)
    have fr1 := HFR1.out (.slice a5 us'.length c5) (.int .i64 (g + 1)) (.cells #[.slice a5 us'.length c5, .int .i64 (g + 1)] 28)
    have hfin := HFIN.out (.slice a5 us'.length c5) (.int .i64 (g + 1)) (.cells #[.slice a5 us'.length c5, .int .i64 (g + 1)] 28)
    rw [← HPOST.out]
    exact bodyPost_ret (v := .tuple #[.agg #[.slice a5 us'.length c5, .int .i64 (g + 1)], .bool true]) (by simp [results, Try.results13, go_sem, fr0, fr1]) rfl ⟨us', g, a5, c5, rfl, hfin.1, hfin.2.1, hfin.2.2.imp id (fun h x hx => Nat.le_trans HB2.out.size (h x hx))⟩
  · have d0 : decide ((0 : Int) < (n : Int)) = true := by simp; omega
    obtain ⟨us', q, hk1, hk2⟩ := HBO.out ax
    have hn := HN.out
    simp only [hn] at hk2
    clear hn
    have HK1 := Lib.hid hk1
    have HK2 := Lib.hid hk2
    have hself : (q == q) = true := by simp
    clear hk1 hk2 HBO
    go_enter Try.func13, Try.ntmps13
    go_wp2_with fail
    refine (HK1.out _ HQ3.out).mono ?_
    rintro r w2 ⟨rfl, hq2, ht2⟩
    have HQ2 := Lib.hid hq2
    have HD2 := Lib.hid (HD3.out.touch ht2 (fun k h1 h2 hn => hn (.inr ⟨h1, h2⟩)))
    have HB2 := Lib.hid (HB3.out.trans (ht2.mono fun k _ h1 h2 => h1 (.inl (.inl h2))))
    have HR2 := Lib.hid (show RT w2 a c us from ⟨HR3.out.row.touch ht2 (fun x hx hn => hn (.inl (.inr (by rw [hx]; rfl)))), HR3.out.nil, HR3.out.len, HR3.out.cap⟩)
    clear hq2 ht2 HK1
    have t0 := HD2.out.t0
    have t1 := HD2.out.t1
    have s2 := HD2.out.s 2 (by decide)
    have s3 := HD2.out.s 3 (by decide)
    have s4 := HD2.out.s 4 (by decide)
    have s5 := HD2.out.s 5 (by decide)
    have s6 := HD2.out.s 6 (by decide)
    simp only [List.getD_cons_succ, List.getD_cons_zero] at s2 s3 s4 s5 s6
    have b0 := block_lt_of_cell t0
    have b1 := block_lt_of_cell s2
    simp only at b0 b1
    go_wp2_with fail
    refine (HK2.out w2 a c HR2.out).mono ?_
    rintro r w3 ⟨a5, c5, rfl, p2, p3, p4, p5, p6, p7⟩
    have HD4 := Lib.hid (HD2.out.below p7)
    have HFIN := Lib.hid (fun x0 x1 o => does_fin HQ2.out p2 p3 p4 p5 p6 p7 HB2.out HW0.out HAB.out x0 x1 o)
    have r0 := HD4.out.r0
    have r1 := HD4.out.r1
    have z0 := HD4.out.z0
    have z1 := HD4.out.z1
    have b2 := block_lt_of_cell r0
    simp only at b2
    have HFR0 := Lib.hid (fun x y o => alloc_cell (set2_same0 (x := x) (y := y) r0) o)
    have HFR1 := Lib.hid (fun x y o => alloc_cell (set2_same1 (x := x) (y := y) r1) o)
    clear p2 p3 p4 p5 p6 p7 HK2 HD2 HQ2 HR2 t0 t1 s2 s3 s4 s5 s6
    go_wp2
    have fr0 := HFR0.out (.slice a5 us'.length c5) (.int .i64 (g + 1)) (.cells #[.slice a5 us'.length c5, .int .i64 (g + 1)] 28)
    have fr1 := HFR1.out (.slice a5 us'.length c5) (.int .i64 (g + 1)) (.cells #[.slice a5 us'.length c5, .int .i64 (g + 1)] 28)
    have hfin := HFIN.out (.slice a5 us'.length c5) (.int .i64 (g + 1)) (.cells #[.slice a5 us'.length c5, .int .i64 (g + 1)] 28)
    rw [← HPOST.out]
    exact bodyPost_ret (v := .tuple #[.agg #[.slice a5 us'.length c5, .int .i64 (g + 1)], .bool true]) (by simp [results, Try.results13, go_sem, fr0, fr1]) rfl ⟨us', g, a5, c5, rfl, hfin.1, hfin.2.1, hfin.2.2.imp id (fun h x hx => Nat.le_trans HB2.out.size (h x hx))⟩
set_option maxRecDepth 100000 in
set_option maxHeartbeats 4000000 in
theorem does_5 (K0 : Nat → Prop) (b : Nat) (us : List Un) (g : Int) (a : Option Addr) (c : Nat) (w : World) (an af aa ab ax ay : Int) (h : DoMem K0 b us g a c w) :
    Calls Try.prog 13 #[.pointer (some ⟨b, 0, none⟩), .agg #[.slice a us.length c, .int .i64 (g + 1)], .agg #[.int .i64 5, .int .i64 an, .int .i64 af, .int .i64 aa, .int .i64 ab, .int .i64 ax, .int .i64 ay]] w (DoesPost K0 b a w) := by
  have hA3 : Below w.heap.size w (((w.alloc (.cells #[.slice a us.length c, .int .i64 (g + 1)] 28)).alloc (.cells #[.int .i64 5, .int .i64 an, .int .i64 af, .int .i64 aa, .int .i64 ab, .int .i64 ax, .int .i64 ay] 32)).alloc (.cells #[.slice none 0 0, .int .i64 0] 28)) := bel_alloc (bel_alloc (bel_alloc (Below.refl _ _) _) _) _
  have HQ3 := Lib.hid (show TabQ (KB K0 a w.heap.size) b us g (((w.alloc (.cells #[.slice a us.length c, .int .i64 (g + 1)] 28)).alloc (.cells #[.int .i64 5, .int .i64 an, .int .i64 af, .int .i64 aa, .int .i64 ab, .int .i64 ax, .int .i64 ay] 32)).alloc (.cells #[.slice none 0 0, .int .i64 0] 28)) from h.tab.grow (N := fun k => w.heap.size ≤ k ∧ k < w.heap.size + 3) hA3 (fun k hk => ⟨hk.1, by simp; omega⟩))
  have HD3 := Lib.hid (dbox_new w a us.length c (g + 1) 5 an af aa ab ax ay)
  have HB3 := Lib.hid (show Touch (fun k => ¬ K0 k) w (((w.alloc (.cells #[.slice a us.length c, .int .i64 (g + 1)] 28)).alloc (.cells #[.int .i64 5, .int .i64 an, .int .i64 af, .int .i64 aa, .int .i64 ab, .int .i64 ax, .int .i64 ay] 32)).alloc (.cells #[.slice none 0 0, .int .i64 0] 28)) from touch_of_below hA3)
  have HR3 := Lib.hid (h.rt.below hA3)
  have HAB := Lib.hid (show ∀ x, a = some x → x.block < w.heap.size from fun x hx => h.tab.2.1 _ (.inr (by rw [hx]; rfl)))
  have HW0 := Lib.hid (show ∀ k, K0 k → k < w.heap.size from fun k hk => h.tab.2.1 k (.inl hk))
  have h64 := h.tab.ok.1
  have hc1 := h.rt.len
  have hc2 := h.rt.cap
  unfold maxLen at hc2
  have HOK := Lib.hid h.tab.ok
  have HBO := Lib.hid (fun (idv : Int) => set_both (K := KB K0 a w.heap.size) b us g idv af ax HOK.out)
  generalize hpost : DoesPost K0 b a w = Post
  have HPOST := Lib.hid hpost
  clear hA3 h hpost
  generalize hn : us.length = n at HQ3 HD3 HB3 HR3 h64 hc1 ⊢
  have HN := Lib.hid hn
  clear hn
  by_cases h0 : n = 0
  · subst h0
    obtain ⟨us', q, hk1, hk2⟩ := HBO.out ay
    have hn := HN.out
    simp only [hn] at hk2
    clear hn
    have HK1 := Lib.hid hk1
    have HK2 := Lib.hid hk2
    have hself : (q == q) = true := by simp
    clear hk1 hk2 HBO
    go_enter Try.func13, Try.ntmps13
    go_wp2_with fail
    refine (HK1.out _ HQ3.out).mono ?_
    rintro r w2 ⟨rfl, hq2, ht2⟩
    have HQ2 := Lib.hid hq2
    have HD2 := Lib.hid (HD3.out.touch ht2 (fun k h1 h2 hn => hn (.inr ⟨h1, h2⟩)))
    have HB2 := Lib.hid (HB3.out.trans (ht2.mono fun k _ h1 h2 => h1 (.inl (.inl h2))))
    have HR2 := Lib.hid (show RT w2 a c us from ⟨HR3.out.row.touch ht2 (fun x hx hn => hn (.inl (.inr (by rw [hx]; rfl)))), HR3.out.nil, HR3.out.len, HR3.out.cap⟩)
    clear hq2 ht2 HK1
    have t0 := HD2.out.t0
    have t1 := HD2.out.t1
    have s2 := HD2.out.s 2 (by decide)
    have s3 := HD2.out.s 3 (by decide)
    have s4 := HD2.out.s 4 (by decide)
    have s5 := HD2.out.s 5 (by decide)
    have s6 := HD2.out.s 6 (by decide)
    simp only [List.getD_cons_succ, List.getD_cons_zero] at s2 s3 s4 s5 s6
    have b0 := block_lt_of_cell t0
    have b1 := block_lt_of_cell s2
    simp only at b0 b1
    go_wp2_with fail
    refine (HK2.out w2 a c HR2.out).mono ?_
    rintro r w3 ⟨a5, c5, rfl, p2, p3, p4, p5, p6, p7⟩
    have HD4 := Lib.hid (HD2.out.below p7)
    have HFIN := Lib.hid (fun x0 x1 o => does_fin HQ2.out p2 p3 p4 p5 p6 p7 HB2.out HW0.out HAB.out x0 x1 o)
    have r0 := HD4.out.r0
    have r1 := HD4.out.r1
    have z0 := HD4.out.z0
    have z1 := HD4.out.z1
    have b2 := block_lt_of_cell r0
    simp only at b2
    have HFR0 := Lib.hid (fun x y o => alloc_cell (set2_same0 (x := x) (y := y) r0) o)
    have HFR1 := Lib.hid (fun x y o => alloc_cell (set2_same1 (x := x) (y := y) r1) o)
    clear p2 p3 p4 p5 p6 p7 HK2 HD2 HQ2 HR2 t0 t1 s2 s3 s4 s5 s6
    go_wp2
    have fr0 := HFR0.out (.slice a5 us'.length c5) (.int .i64 (g + 1)) (.cells #[.slice a5 us'.length c5, .int .i64 (g + 1)] 28)
    have fr1 := HFR1.out (.slice a5 us'.length c5) (.int .i64 (g + 1)) (.cells #[.slice a5 us'.length c5, .int .i64 (g + 1)] 28)
    have hfin := HFIN.out (.slice a5 us'.length c5) (.int .i64 (g + 1)) (.cells #[.slice a5 us'.length c5, .int .i64 (g + 1)] 28)
    rw [← HPOST.out]
    exact bodyPost_ret (v := .tuple #[.agg #[.slice a5 us'.length c5, .int .i64 (g + 1)], .bool true]) (by simp [results, Try.results13, go_sem, fr0, fr1]) rfl ⟨us', g, a5, c5, rfl, hfin.1, hfin.2.1, hfin.2.2.imp id (fun h x hx => Nat.le_trans HB2.out.size (h x hx))⟩
  · have d0 : decide ((0 : Int) < (n : Int)) = true := by simp; omega
    obtain ⟨us', q, hk1, hk2⟩ := HBO.out ay
    have hn := HN.out
    simp only [hn] at hk2
    clear hn
    have HK1 := Lib.hid hk1
    have HK2 := Lib.hid hk2
    have hself : (q == q) = true := by simp
    clear hk1 hk2 HBO
    go_enter Try.func13, Try.ntmps13
    go_wp2_with fail
    refine (HK1.out _ HQ3.out).mono ?_
    rintro r w2 ⟨rfl, hq2, ht2⟩
    have HQ2 := Lib.hid hq2
    have HD2 := Lib.hid (HD3.out.touch ht2 (fun k h1 h2 hn => hn (.inr ⟨h1, h2⟩)))
    have HB2 := Lib.hid (HB3.out.trans (ht2.mono fun k _ h1 h2 => h1 (.inl (.inl h2))))
    have HR2 := Lib.hid (show RT w2 a c us from ⟨HR3.out.row.touch ht2 (fun x hx hn => hn (.inl (.inr (by rw [hx]; rfl)))), HR3.out.nil, HR3.out.len, HR3.out.cap⟩)
    clear hq2 ht2 HK1
    have t0 := HD2.out.t0
    have t1 := HD2.out.t1
    have s2 := HD2.out.s 2 (by decide)
    have s3 := HD2.out.s 3 (by decide)
    have s4 := HD2.out.s 4 (by decide)
    have s5 := HD2.out.s 5 (by decide)
    have s6 := HD2.out.s 6 (by decide)
    simp only [List.getD_cons_succ, List.getD_cons_zero] at s2 s3 s4 s5 s6
    have b0 := block_lt_of_cell t0
    have b1 := block_lt_of_cell s2
    simp only at b0 b1
    go_wp2_with fail
    refine (HK2.out w2 a c HR2.out).mono ?_
    rintro r w3 ⟨a5, c5, rfl, p2, p3, p4, p5, p6, p7⟩
    have HD4 := Lib.hid (HD2.out.below p7)
    have HFIN := Lib.hid (fun x0 x1 o => does_fin HQ2.out p2 p3 p4 p5 p6 p7 HB2.out HW0.out HAB.out x0 x1 o)
    have r0 := HD4.out.r0
    have r1 := HD4.out.r1
    have z0 := HD4.out.z0
    have z1 := HD4.out.z1
    have b2 := block_lt_of_cell r0
    simp only at b2
    have HFR0 := Lib.hid (fun x y o => alloc_cell (set2_same0 (x := x) (y := y) r0) o)
    have HFR1 := Lib.hid (fun x y o => alloc_cell (set2_same1 (x := x) (y := y) r1) o)
    clear p2 p3 p4 p5 p6 p7 HK2 HD2 HQ2 HR2 t0 t1 s2 s3 s4 s5 s6
    go_wp2
    have fr0 := HFR0.out (.slice a5 us'.length c5) (.int .i64 (g + 1)) (.cells #[.slice a5 us'.length c5, .int .i64 (g + 1)] 28)
    have fr1 := HFR1.out (.slice a5 us'.length c5) (.int .i64 (g + 1)) (.cells #[.slice a5 us'.length c5, .int .i64 (g + 1)] 28)
    have hfin := HFIN.out (.slice a5 us'.length c5) (.int .i64 (g + 1)) (.cells #[.slice a5 us'.length c5, .int .i64 (g + 1)] 28)
    rw [← HPOST.out]
    exact bodyPost_ret (v := .tuple #[.agg #[.slice a5 us'.length c5, .int .i64 (g + 1)], .bool true]) (by simp [results, Try.results13, go_sem, fr0, fr1]) rfl ⟨us', g, a5, c5, rfl, hfin.1, hfin.2.1, hfin.2.2.imp id (fun h x hx => Nat.le_trans HB2.out.size (h x hx))⟩
end Go.Proofs.Ytdkokfpbmmjfkaa
