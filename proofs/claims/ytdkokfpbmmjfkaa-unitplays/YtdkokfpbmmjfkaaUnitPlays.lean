/-
  PROVED: for every list of calls, the law UnitPlays answers true, and all read afterwards as before. No condition of our own.
-/
import Derived.Test.YtdkokfpbmmjfkaaDoes1
import Derived.Test.YtdkokfpbmmjfkaaOrdTidy
import Derived.Test.YtdkokfpbmmjfkaaUnit2
import Derived.Test.YtdkokfpbmmjfkaaOrdPut
import Derived.Test.YtdkokfpbmmjfkaaOrdText
import Derived.Test.YtdkokfpbmmjfkaaAwake8
import Derived.Test.YtdkokfpbmmjfkaaRecArgs
import Derived.WalkKit
import Derived.ProofKit
import Derived.OpenShut
import Derived.ShutString
import Derived.ChangeOld
import Derived.Below
import Derived.SliceStrings
namespace Go.Proofs.Ytdkokfpbmmjfkaa
open Go.RowKit
set_option linter.unusedVariables false

theorem rem_run (q n : Nat) (hn : n ≤ 64) (h0 : ¬ n = 0) (hq : q ≤ 255) (W : World) : (binOp .rem 3 (.int .i64 q) (.int .i64 n)).run Try.prog W = .ok (.int .i64 ((q % n : Nat) : Int)) W := by
  have m3 : (q : Int).tmod (n : Int) = ((q % n : Nat) : Int) := by rw [Int.tmod_eq_emod_of_nonneg (by omega)]; exact (Int.natCast_emod _ _).symm
  have hlt : q % n < n := Nat.mod_lt _ (by omega)
  have m5 : IntKind.i64.wrap ((q % n : Nat) : Int) = ((q % n : Nat) : Int) := by rw [IntKind.wrap_i64]; omega
  have m4 : ((n : Int) == 0) = false := by simp; omega
  have m6 : ¬ (n : Int) = 0 := by omega
  go_simp
def DoesPost (K0 : Nat → Prop) (b : Nat) (a : Option Addr) (w : World) (r : Ending) (w' : World) : Prop := ∃ us' g' a' c', r = .returned (.tuple #[.agg #[.slice a' us'.length c', .int .i64 (g' + 1)], .bool true]) ∧ DoMem K0 b us' g' a' c' w' ∧ Touch (fun k => ¬ K0 k) w w' ∧ (a' = a ∨ ∀ x, a' = some x → w.heap.size ≤ x.block)
/-- The boxes of Does: the document's table, the call, the answer. -/
structure DBox (B : Nat) (a : Option Addr) (n c : Nat) (nx : Int) (v : List Int) (W : World) : Prop where
  t0 : W.cell? ⟨B, 0, none⟩ = some (.slice a n c)
  t1 : W.cell? ⟨B, 1, none⟩ = some (.int .i64 nx)
  s : ∀ j, j < 7 → W.cell? ⟨B + 1, j, none⟩ = some (.int .i64 (v.getD j 0))
  r0 : W.cell? ⟨B + 2, 0, none⟩ = some (.slice none 0 0)
  r1 : W.cell? ⟨B + 2, 1, none⟩ = some (.int .i64 0)
  z0 : W.frozen? ⟨B + 2, 0, none⟩ = false
  z1 : W.frozen? ⟨B + 2, 1, none⟩ = false
theorem DBox.touch {S : Nat → Prop} {B : Nat} {a : Option Addr} {n c : Nat} {nx : Int} {v : List Int} {W W' : World} (h : DBox B a n c nx v W) (ht : Touch S W W') (hS : ∀ k, B ≤ k → k < B + 3 → ¬ S k) : DBox B a n c nx v W' := by
  have n0 := hS B (by omega) (by omega)
  have n1 := hS (B + 1) (by omega) (by omega)
  have n2 := hS (B + 2) (by omega) (by omega)
  exact ⟨(ht.cell (p := ⟨B, 0, none⟩) (block_lt_of_cell h.t0) n0).trans h.t0, (ht.cell (p := ⟨B, 1, none⟩) (block_lt_of_cell h.t1) n0).trans h.t1, fun j hj => (ht.cell (p := ⟨B + 1, j, none⟩) (block_lt_of_cell (h.s j hj)) n1).trans (h.s j hj), (ht.cell (p := ⟨B + 2, 0, none⟩) (block_lt_of_cell h.r0) n2).trans h.r0, (ht.cell (p := ⟨B + 2, 1, none⟩) (block_lt_of_cell h.r1) n2).trans h.r1,
    (ht.frozen (p := ⟨B + 2, 0, none⟩) (block_lt_of_cell h.r0) n2).trans h.z0, (ht.frozen (p := ⟨B + 2, 1, none⟩) (block_lt_of_cell h.r1) n2).trans h.z1⟩
theorem DBox.below {B : Nat} {a : Option Addr} {n c : Nat} {nx : Int} {v : List Int} {W W' : World} (h : DBox B a n c nx v W) (hb : Below W.heap.size W W') : DBox B a n c nx v W' := h.touch (touch_of_below (S := fun _ => False) hb) (fun _ _ _ => id)
theorem dbox_new (w : World) (a : Option Addr) (n c : Nat) (nx ak an af aa ab ax ay : Int) : DBox w.heap.size a n c nx [ak, an, af, aa, ab, ax, ay] (((w.alloc (.cells #[.slice a n c, .int .i64 nx] 28)).alloc (.cells #[.int .i64 ak, .int .i64 an, .int .i64 af, .int .i64 aa, .int .i64 ab, .int .i64 ax, .int .i64 ay] 32)).alloc (.cells #[.slice none 0 0, .int .i64 0] 28)) := by
  refine ⟨by repeat' (first | exact new_cell (by first | rfl | (simp; done)) rfl | with_reducible refine alloc_cell ?_ _), by repeat' (first | exact new_cell (by first | rfl | (simp; done)) rfl | with_reducible refine alloc_cell ?_ _), fun j hj => ?_, by repeat' (first | exact new_cell (by first | rfl | (simp; done)) rfl | with_reducible refine alloc_cell ?_ _), by repeat' (first | exact new_cell (by first | rfl | (simp; done)) rfl | with_reducible refine alloc_cell ?_ _), ?_, ?_⟩
  · refine alloc_cell (new_cell (by simp) ?_) _
    have : j = 0 ∨ j = 1 ∨ j = 2 ∨ j = 3 ∨ j = 4 ∨ j = 5 ∨ j = 6 := by omega
    rcases this with rfl | rfl | rfl | rfl | rfl | rfl | rfl <;> rfl
  · rw [show w.heap.size + 2 = ((w.alloc (.cells #[.slice a n c, .int .i64 nx] 28)).alloc (.cells #[.int .i64 ak, .int .i64 an, .int .i64 af, .int .i64 aa, .int .i64 ab, .int .i64 ax, .int .i64 ay] 32)).heap.size by simp]; exact frozen_new _ _ _ _
  · rw [show w.heap.size + 2 = ((w.alloc (.cells #[.slice a n c, .int .i64 nx] 28)).alloc (.cells #[.int .i64 ak, .int .i64 an, .int .i64 af, .int .i64 aa, .int .i64 ab, .int .i64 ax, .int .i64 ay] 32)).heap.size by simp]; exact frozen_new _ _ _ _
set_option maxRecDepth 100000 in
set_option maxHeartbeats 4000000 in
theorem does_1 (K0 : Nat → Prop) (b : Nat) (us : List Un) (g : Int) (a : Option Addr) (c : Nat) (w : World) (an af aa ab ax ay : Int) (h : DoMem K0 b us g a c w) :
    Calls Try.prog 13 #[.pointer (some ⟨b, 0, none⟩), .agg #[.slice a us.length c, .int .i64 (g + 1)], .agg #[.int .i64 1, .int .i64 an, .int .i64 af, .int .i64 aa, .int .i64 ab, .int .i64 ax, .int .i64 ay]] w (DoesPost K0 b a w) := by
  have hA3 : Below w.heap.size w (((w.alloc (.cells #[.slice a us.length c, .int .i64 (g + 1)] 28)).alloc (.cells #[.int .i64 1, .int .i64 an, .int .i64 af, .int .i64 aa, .int .i64 ab, .int .i64 ax, .int .i64 ay] 32)).alloc (.cells #[.slice none 0 0, .int .i64 0] 28)) := bel_alloc (bel_alloc (bel_alloc (Below.refl _ _) _) _) _
  have HQ3 := Lib.hid (show TabQ (KB K0 a w.heap.size) b us g (((w.alloc (.cells #[.slice a us.length c, .int .i64 (g + 1)] 28)).alloc (.cells #[.int .i64 1, .int .i64 an, .int .i64 af, .int .i64 aa, .int .i64 ab, .int .i64 ax, .int .i64 ay] 32)).alloc (.cells #[.slice none 0 0, .int .i64 0] 28)) from h.tab.grow (N := fun k => w.heap.size ≤ k ∧ k < w.heap.size + 3) hA3 (fun k hk => ⟨hk.1, by simp; omega⟩))
  have HD3 := Lib.hid (dbox_new w a us.length c (g + 1) 1 an af aa ab ax ay)
  have HB3 := Lib.hid (show Touch (fun k => ¬ K0 k) w (((w.alloc (.cells #[.slice a us.length c, .int .i64 (g + 1)] 28)).alloc (.cells #[.int .i64 1, .int .i64 an, .int .i64 af, .int .i64 aa, .int .i64 ab, .int .i64 ax, .int .i64 ay] 32)).alloc (.cells #[.slice none 0 0, .int .i64 0] 28)) from touch_of_below hA3)
  have HR3 := Lib.hid (h.rt.below hA3)
  have HAB := Lib.hid (show ∀ x, a = some x → x.block < w.heap.size from fun x hx => h.tab.2.1 _ (.inr (by rw [hx]; rfl)))
  have HW0 := Lib.hid (show ∀ k, K0 k → k < w.heap.size from fun k hk => h.tab.2.1 k (.inl hk))
  have h64 := h.tab.ok.1
  have hc1 := h.rt.len
  have hc2 := h.rt.cap
  unfold maxLen at hc2
  have HOK := Lib.hid h.tab.ok
  have HBO := Lib.hid (fun (idv : Int) => spawn_both (K := KB K0 a w.heap.size) b us g aa ab ax ay HOK.out)
  generalize hpost : DoesPost K0 b a w = Post
  have HPOST := Lib.hid hpost
  clear hA3 h hpost
  generalize hn : us.length = n at HQ3 HD3 HB3 HR3 h64 hc1 ⊢
  have HN := Lib.hid hn
  clear hn
  by_cases h0 : n = 0
  · subst h0
    obtain ⟨us', g', z, hk1, hk2⟩ := HBO.out 0
    have hn := HN.out
    simp only [hn] at hk2
    clear hn
    have HK1 := Lib.hid hk1
    have HK2 := Lib.hid hk2
    have hself : (z == z) = true := by simp
    clear hk1 hk2 HBO
    go_enter Try.func13, Try.ntmps13
    go_wp2_with fail
    refine (HK1.out _ HQ3.out).mono ?_
    rintro r w2 ⟨rfl, hq2, ht2⟩
    have HQ2 := Lib.hid hq2
    have HD2 := Lib.hid (HD3.out.touch ht2 (fun k h1 h2 hn => hn (.inr ⟨h1, h2⟩)))
    have HB2 := Lib.hid (HB3.out.trans (ht2.mono fun k _ h1 h2 => h1 (.inl (.inl h2))))
    have HR2 := Lib.hid (show RT w2 a c us from ⟨HR3.out.row.touch ht2 (fun x hx hn => hn (.inl (.inr (by rw [hx]; rfl)))), HR3.out.nil, HR3.out.len, HR3.out.cap⟩)
    clear hq2 ht2 HK1
    have t0 := HD2.out.t0
    have t1 := HD2.out.t1
    have s2 := HD2.out.s 2 (by decide)
    have s3 := HD2.out.s 3 (by decide)
    have s4 := HD2.out.s 4 (by decide)
    have s5 := HD2.out.s 5 (by decide)
    have s6 := HD2.out.s 6 (by decide)
    simp only [List.getD_cons_succ, List.getD_cons_zero] at s2 s3 s4 s5 s6
    have b0 := block_lt_of_cell t0
    have b1 := block_lt_of_cell s2
    simp only at b0 b1
    go_wp2_with fail
    refine (HK2.out w2 a c HR2.out).mono ?_
    rintro r w3 ⟨a5, c5, rfl, p2, p3, p4, p5, p6, p7⟩
    have HD4 := Lib.hid (HD2.out.below p7)
    have HFIN := Lib.hid (fun x0 x1 o => does_fin HQ2.out p2 p3 p4 p5 p6 p7 HB2.out HW0.out HAB.out x0 x1 o)
    have r0 := HD4.out.r0
    have r1 := HD4.out.r1
    have z0 := HD4.out.z0
    have z1 := HD4.out.z1
    have b2 := block_lt_of_cell r0
    simp only at b2
    have HFR0 := Lib.hid (fun x y o => alloc_cell (set2_same0 (x := x) (y := y) r0) o)
    have HFR1 := Lib.hid (fun x y o => alloc_cell (set2_same1 (x := x) (y := y) r1) o)
    clear p2 p3 p4 p5 p6 p7 HK2 HD2 HQ2 HR2 t0 t1 s2 s3 s4 s5 s6
    go_wp2
    have fr0 := HFR0.out (.slice a5 us'.length c5) (.int .i64 (g' + 1)) (.cells #[.slice a5 us'.length c5, .int .i64 (g' + 1)] 28)
    have fr1 := HFR1.out (.slice a5 us'.length c5) (.int .i64 (g' + 1)) (.cells #[.slice a5 us'.length c5, .int .i64 (g' + 1)] 28)
    have hfin := HFIN.out (.slice a5 us'.length c5) (.int .i64 (g' + 1)) (.cells #[.slice a5 us'.length c5, .int .i64 (g' + 1)] 28)
    rw [← HPOST.out]
    exact bodyPost_ret (v := .tuple #[.agg #[.slice a5 us'.length c5, .int .i64 (g' + 1)], .bool true]) (by simp [results, Try.results13, go_sem, fr0, fr1]) rfl ⟨us', g', a5, c5, rfl, hfin.1, hfin.2.1, hfin.2.2.imp id (fun h x hx => Nat.le_trans HB2.out.size (h x hx))⟩
  · have d0 : decide ((0 : Int) < (n : Int)) = true := by simp; omega
    obtain ⟨q5, hq5, eq5⟩ := andM an 255 255 rfl (by decide)
    have hmod : q5 % n < n := Nat.mod_lt _ (by omega)
    obtain ⟨gb, off, rfl, hgb, e0, -⟩ := HR3.out.row.at (i := q5 % n) (by rw [HN.out]; exact hmod)
    generalize us[q5 % n]'(by rw [HN.out]; exact hmod) = uu at e0
    generalize uu.id = idv at e0
    obtain ⟨us', g', z, hk1, hk2⟩ := HBO.out 0
    have hn := HN.out
    simp only [hn] at hk2
    clear hn
    have HK1 := Lib.hid hk1
    have HK2 := Lib.hid hk2
    have hself : (z == z) = true := by simp
    clear hk1 hk2 HBO
    go_enter Try.func13, Try.ntmps13
    have m1 : (0 : Int) ≤ ((q5 % n : Nat) : Int) := by omega
    have m2 : ((q5 % n : Nat) : Int) < (n : Int) := by omega
    have hrem := rem_run q5 n h64 h0 hq5
    have hmE : (q5 : Int) % (n : Int) = ((q5 % n : Nat) : Int) := (Int.natCast_emod _ _).symm
    have hmT : (q5 : Int).tmod (n : Int) = ((q5 % n : Nat) : Int) := by rw [Int.tmod_eq_emod_of_nonneg (by omega)]; exact hmE
    generalize q5 % n = m5 at hrem e0 m1 m2 hmod hmE hmT
    go_upto_region 3 with (fail)
    have t0 := HD3.out.t0
    have s1 := HD3.out.s 1 (by decide)
    simp only [List.getD_cons_succ, List.getD_cons_zero] at s1
    generalize ((w.alloc (.cells #[.slice (some ⟨gb, off, none⟩) n c, .int .i64 (g + 1)] 28)).alloc (.cells #[.int .i64 1, .int .i64 an, .int .i64 af, .int .i64 aa, .int .i64 ab, .int .i64 ax, .int .i64 ay] 32)).alloc (.cells #[.slice none 0 0, .int .i64 0] 28) = Wq at HQ3 HD3 HB3 HR3 e0 t0 s1 hgb ⊢
    go_quiet (fail)
    clear hrem m1 m2 e0 t0 s1 eq5 hmE hmT
    have HQ3 : Hid (TabQ (KB K0 (some ⟨gb, off, none⟩) w.heap.size) b us g (Wq.drewN nq)) := Lib.hid (HQ3.out.below ⟨rfl, rfl, rfl, Nat.le_refl _, fun _ _ => rfl⟩)
    have HD3 : Hid (DBox w.heap.size (some ⟨gb, off, none⟩) n c (g + 1) [1, an, af, aa, ab, ax, ay] (Wq.drewN nq)) := Lib.hid (HD3.out.below ⟨rfl, rfl, rfl, Nat.le_refl _, fun _ _ => rfl⟩)
    have HB3 : Hid (Touch (fun k => ¬ K0 k) w (Wq.drewN nq)) := Lib.hid ⟨HB3.out.os, HB3.out.tape, HB3.out.output, HB3.out.size, HB3.out.block⟩
    have HR3 : Hid (RT (Wq.drewN nq) (some ⟨gb, off, none⟩) c us) := Lib.hid (HR3.out.below ⟨rfl, rfl, rfl, Nat.le_refl _, fun _ _ => rfl⟩)
    generalize Wq.drewN nq = Wp at HQ3 HD3 HB3 HR3 ⊢
    have s0 := HD3.out.s 0 (by decide)
    have s2 := HD3.out.s 2 (by decide)
    have s3 := HD3.out.s 3 (by decide)
    have s4 := HD3.out.s 4 (by decide)
    have s5 := HD3.out.s 5 (by decide)
    have s6 := HD3.out.s 6 (by decide)
    simp only [List.getD_cons_succ, List.getD_cons_zero] at s0 s2 s3 s4 s5 s6
    have t0 := HD3.out.t0
    have r0 := HD3.out.r0
    have hs1 := block_lt_of_cell s2
    have ht0 := block_lt_of_cell t0
    have hr0 := block_lt_of_cell r0
    simp only at hs1 ht0 hr0
    go_wp2_with fail
    clear s0 s2 s3 s4 s5 s6 t0 r0 hs1 ht0 hr0
    refine (HK1.out _ HQ3.out).mono ?_
    rintro r w2 ⟨rfl, hq2, ht2⟩
    have HQ2 := Lib.hid hq2
    have HD2 := Lib.hid (HD3.out.touch ht2 (fun k h1 h2 hn => hn (.inr ⟨h1, h2⟩)))
    have HB2 := Lib.hid (HB3.out.trans (ht2.mono fun k _ h1 h2 => h1 (.inl (.inl h2))))
    have HR2 := Lib.hid (show RT w2 (some ⟨gb, off, none⟩) c us from ⟨HR3.out.row.touch ht2 (fun x hx hn => hn (.inl (.inr (by cases hx; rfl)))), HR3.out.nil, HR3.out.len, HR3.out.cap⟩)
    clear hq2 ht2 HK1
    have t0 := HD2.out.t0
    have t1 := HD2.out.t1
    have s2 := HD2.out.s 2 (by decide)
    have s3 := HD2.out.s 3 (by decide)
    have s4 := HD2.out.s 4 (by decide)
    have s5 := HD2.out.s 5 (by decide)
    have s6 := HD2.out.s 6 (by decide)
    simp only [List.getD_cons_succ, List.getD_cons_zero] at s2 s3 s4 s5 s6
    have b0 := block_lt_of_cell t0
    have b1 := block_lt_of_cell s2
    simp only at b0 b1
    go_wp2_with fail
    refine (HK2.out w2 _ c HR2.out).mono ?_
    rintro r w3 ⟨a5, c5, rfl, p2, p3, p4, p5, p6, p7⟩
    have HD4 := Lib.hid (HD2.out.below p7)
    have HFIN := Lib.hid (fun x0 x1 o => does_fin HQ2.out p2 p3 p4 p5 p6 p7 HB2.out HW0.out HAB.out x0 x1 o)
    have r0 := HD4.out.r0
    have r1 := HD4.out.r1
    have z0 := HD4.out.z0
    have z1 := HD4.out.z1
    have b2 := block_lt_of_cell r0
    simp only at b2
    have HFR0 := Lib.hid (fun x y o => alloc_cell (set2_same0 (x := x) (y := y) r0) o)
    have HFR1 := Lib.hid (fun x y o => alloc_cell (set2_same1 (x := x) (y := y) r1) o)
    clear p2 p3 p4 p5 p6 p7 HK2 HD2 HQ2 HR2 t0 t1 s2 s3 s4 s5 s6
    go_wp2
    have fr0 := HFR0.out (.slice a5 us'.length c5) (.int .i64 (g' + 1)) (.cells #[.slice a5 us'.length c5, .int .i64 (g' + 1)] 28)
    have fr1 := HFR1.out (.slice a5 us'.length c5) (.int .i64 (g' + 1)) (.cells #[.slice a5 us'.length c5, .int .i64 (g' + 1)] 28)
    have hfin := HFIN.out (.slice a5 us'.length c5) (.int .i64 (g' + 1)) (.cells #[.slice a5 us'.length c5, .int .i64 (g' + 1)] 28)
    rw [← HPOST.out]
    exact bodyPost_ret (v := .tuple #[.agg #[.slice a5 us'.length c5, .int .i64 (g' + 1)], .bool true]) (by simp [results, Try.results13, go_sem, fr0, fr1]) rfl ⟨us', g', a5, c5, rfl, hfin.1, hfin.2.1, hfin.2.2.imp id (fun h x hx => Nat.le_trans HB2.out.size (h x hx))⟩
set_option maxRecDepth 100000 in
set_option maxHeartbeats 4000000 in
theorem does_2 (K0 : Nat → Prop) (b : Nat) (us : List Un) (g : Int) (a : Option Addr) (c : Nat) (w : World) (an af aa ab ax ay : Int) (h : DoMem K0 b us g a c w) :
    Calls Try.prog 13 #[.pointer (some ⟨b, 0, none⟩), .agg #[.slice a us.length c, .int .i64 (g + 1)], .agg #[.int .i64 2, .int .i64 an, .int .i64 af, .int .i64 aa, .int .i64 ab, .int .i64 ax, .int .i64 ay]] w (DoesPost K0 b a w) := by
  have hA3 : Below w.heap.size w (((w.alloc (.cells #[.slice a us.length c, .int .i64 (g + 1)] 28)).alloc (.cells #[.int .i64 2, .int .i64 an, .int .i64 af, .int .i64 aa, .int .i64 ab, .int .i64 ax, .int .i64 ay] 32)).alloc (.cells #[.slice none 0 0, .int .i64 0] 28)) := bel_alloc (bel_alloc (bel_alloc (Below.refl _ _) _) _) _
  have HQ3 := Lib.hid (show TabQ (KB K0 a w.heap.size) b us g (((w.alloc (.cells #[.slice a us.length c, .int .i64 (g + 1)] 28)).alloc (.cells #[.int .i64 2, .int .i64 an, .int .i64 af, .int .i64 aa, .int .i64 ab, .int .i64 ax, .int .i64 ay] 32)).alloc (.cells #[.slice none 0 0, .int .i64 0] 28)) from h.tab.grow (N := fun k => w.heap.size ≤ k ∧ k < w.heap.size + 3) hA3 (fun k hk => ⟨hk.1, by simp; omega⟩))
  have HD3 := Lib.hid (dbox_new w a us.length c (g + 1) 2 an af aa ab ax ay)
  have HB3 := Lib.hid (show Touch (fun k => ¬ K0 k) w (((w.alloc (.cells #[.slice a us.length c, .int .i64 (g + 1)] 28)).alloc (.cells #[.int .i64 2, .int .i64 an, .int .i64 af, .int .i64 aa, .int .i64 ab, .int .i64 ax, .int .i64 ay] 32)).alloc (.cells #[.slice none 0 0, .int .i64 0] 28)) from touch_of_below hA3)
  have HR3 := Lib.hid (h.rt.below hA3)
  have HAB := Lib.hid (show ∀ x, a = some x → x.block < w.heap.size from fun x hx => h.tab.2.1 _ (.inr (by rw [hx]; rfl)))
  have HW0 := Lib.hid (show ∀ k, K0 k → k < w.heap.size from fun k hk => h.tab.2.1 k (.inl hk))
  have h64 := h.tab.ok.1
  have hc1 := h.rt.len
  have hc2 := h.rt.cap
  unfold maxLen at hc2
  have HOK := Lib.hid h.tab.ok
  have HBO := Lib.hid (fun (idv : Int) => kill_both (K := KB K0 a w.heap.size) b us g idv HOK.out)
  generalize hpost : DoesPost K0 b a w = Post
  have HPOST := Lib.hid hpost
  clear hA3 h hpost
  generalize hn : us.length = n at HQ3 HD3 HB3 HR3 h64 hc1 ⊢
  have HN := Lib.hid hn
  clear hn
  by_cases h0 : n = 0
  · subst h0
    obtain ⟨us', q, hk1, hk2⟩ := HBO.out ay
    have hn := HN.out
    simp only [hn] at hk2
    clear hn
    have HK1 := Lib.hid hk1
    have HK2 := Lib.hid hk2
    have hself : (q == q) = true := by simp
    clear hk1 hk2 HBO
    go_enter Try.func13, Try.ntmps13
    go_wp2_with fail
    refine (HK1.out _ HQ3.out).mono ?_
    rintro r w2 ⟨rfl, hq2, ht2⟩
    have HQ2 := Lib.hid hq2
    have HD2 := Lib.hid (HD3.out.touch ht2 (fun k h1 h2 hn => hn (.inr ⟨h1, h2⟩)))
    have HB2 := Lib.hid (HB3.out.trans (ht2.mono fun k _ h1 h2 => h1 (.inl (.inl h2))))
    have HR2 := Lib.hid (show RT w2 a c us from ⟨HR3.out.row.touch ht2 (fun x hx hn => hn (.inl (.inr (by rw [hx]; rfl)))), HR3.out.nil, HR3.out.len, HR3.out.cap⟩)
    clear hq2 ht2 HK1
    have t0 := HD2.out.t0
    have t1 := HD2.out.t1
    have s2 := HD2.out.s 2 (by decide)
    have s3 := HD2.out.s 3 (by decide)
    have s4 := HD2.out.s 4 (by decide)
    have s5 := HD2.out.s 5 (by decide)
    have s6 := HD2.out.s 6 (by decide)
    simp only [List.getD_cons_succ, List.getD_cons_zero] at s2 s3 s4 s5 s6
    have b0 := block_lt_of_cell t0
    have b1 := block_lt_of_cell s2
    simp only at b0 b1
    go_wp2_with fail
    refine (HK2.out w2 a c HR2.out).mono ?_
    rintro r w3 ⟨a5, c5, rfl, p2, p3, p4, p5, p6, p7⟩
    have HD4 := Lib.hid (HD2.out.below p7)
    have HFIN := Lib.hid (fun x0 x1 o => does_fin HQ2.out p2 p3 p4 p5 p6 p7 HB2.out HW0.out HAB.out x0 x1 o)
    have r0 := HD4.out.r0
    have r1 := HD4.out.r1
    have z0 := HD4.out.z0
    have z1 := HD4.out.z1
    have b2 := block_lt_of_cell r0
    simp only at b2
    have HFR0 := Lib.hid (fun x y o => alloc_cell (set2_same0 (x := x) (y := y) r0) o)
    have HFR1 := Lib.hid (fun x y o => alloc_cell (set2_same1 (x := x) (y := y) r1) o)
    clear p2 p3 p4 p5 p6 p7 HK2 HD2 HQ2 HR2 t0 t1 s2 s3 s4 s5 s6
    go_wp2
    have fr0 := HFR0.out (.slice a5 us'.length c5) (.int .i64 (g + 1)) (.cells #[.slice a5 us'.length c5, .int .i64 (g + 1)] 28)
    have fr1 := HFR1.out (.slice a5 us'.length c5) (.int .i64 (g + 1)) (.cells #[.slice a5 us'.length c5, .int .i64 (g + 1)] 28)
    have hfin := HFIN.out (.slice a5 us'.length c5) (.int .i64 (g + 1)) (.cells #[.slice a5 us'.length c5, .int .i64 (g + 1)] 28)
    rw [← HPOST.out]
    exact bodyPost_ret (v := .tuple #[.agg #[.slice a5 us'.length c5, .int .i64 (g + 1)], .bool true]) (by simp [results, Try.results13, go_sem, fr0, fr1]) rfl ⟨us', g, a5, c5, rfl, hfin.1, hfin.2.1, hfin.2.2.imp id (fun h x hx => Nat.le_trans HB2.out.size (h x hx))⟩
  · have d0 : decide ((0 : Int) < (n : Int)) = true := by simp; omega
    obtain ⟨q5, hq5, eq5⟩ := andM an 255 255 rfl (by decide)
    have hmod : q5 % n < n := Nat.mod_lt _ (by omega)
    obtain ⟨gb, off, rfl, hgb, e0, -⟩ := HR3.out.row.at (i := q5 % n) (by rw [HN.out]; exact hmod)
    generalize us[q5 % n]'(by rw [HN.out]; exact hmod) = uu at e0
    generalize uu.id = idv at e0
    obtain ⟨us', q, hk1, hk2⟩ := HBO.out idv
    have hn := HN.out
    simp only [hn] at hk2
    clear hn
    have HK1 := Lib.hid hk1
    have HK2 := Lib.hid hk2
    have hself : (q == q) = true := by simp
    clear hk1 hk2 HBO
    go_enter Try.func13, Try.ntmps13
    have m1 : (0 : Int) ≤ ((q5 % n : Nat) : Int) := by omega
    have m2 : ((q5 % n : Nat) : Int) < (n : Int) := by omega
    have hrem := rem_run q5 n h64 h0 hq5
    have hmE : (q5 : Int) % (n : Int) = ((q5 % n : Nat) : Int) := (Int.natCast_emod _ _).symm
    have hmT : (q5 : Int).tmod (n : Int) = ((q5 % n : Nat) : Int) := by rw [Int.tmod_eq_emod_of_nonneg (by omega)]; exact hmE
    generalize q5 % n = m5 at hrem e0 m1 m2 hmod hmE hmT
    go_upto_region 3 with (fail)
    have t0 := HD3.out.t0
    have s1 := HD3.out.s 1 (by decide)
    simp only [List.getD_cons_succ, List.getD_cons_zero] at s1
    generalize ((w.alloc (.cells #[.slice (some ⟨gb, off, none⟩) n c, .int .i64 (g + 1)] 28)).alloc (.cells #[.int .i64 2, .int .i64 an, .int .i64 af, .int .i64 aa, .int .i64 ab, .int .i64 ax, .int .i64 ay] 32)).alloc (.cells #[.slice none 0 0, .int .i64 0] 28) = Wq at HQ3 HD3 HB3 HR3 e0 t0 s1 hgb ⊢
    go_quiet (fail)
    clear hrem m1 m2 e0 t0 s1 eq5 hmE hmT
    have HQ3 : Hid (TabQ (KB K0 (some ⟨gb, off, none⟩) w.heap.size) b us g (Wq.drewN nq)) := Lib.hid (HQ3.out.below ⟨rfl, rfl, rfl, Nat.le_refl _, fun _ _ => rfl⟩)
    have HD3 : Hid (DBox w.heap.size (some ⟨gb, off, none⟩) n c (g + 1) [2, an, af, aa, ab, ax, ay] (Wq.drewN nq)) := Lib.hid (HD3.out.below ⟨rfl, rfl, rfl, Nat.le_refl _, fun _ _ => rfl⟩)
    have HB3 : Hid (Touch (fun k => ¬ K0 k) w (Wq.drewN nq)) := Lib.hid ⟨HB3.out.os, HB3.out.tape, HB3.out.output, HB3.out.size, HB3.out.block⟩
    have HR3 : Hid (RT (Wq.drewN nq) (some ⟨gb, off, none⟩) c us) := Lib.hid (HR3.out.below ⟨rfl, rfl, rfl, Nat.le_refl _, fun _ _ => rfl⟩)
    generalize Wq.drewN nq = Wp at HQ3 HD3 HB3 HR3 ⊢
    have s0 := HD3.out.s 0 (by decide)
    have s2 := HD3.out.s 2 (by decide)
    have s3 := HD3.out.s 3 (by decide)
    have s4 := HD3.out.s 4 (by decide)
    have s5 := HD3.out.s 5 (by decide)
    have s6 := HD3.out.s 6 (by decide)
    simp only [List.getD_cons_succ, List.getD_cons_zero] at s0 s2 s3 s4 s5 s6
    have t0 := HD3.out.t0
    have r0 := HD3.out.r0
    have hs1 := block_lt_of_cell s2
    have ht0 := block_lt_of_cell t0
    have hr0 := block_lt_of_cell r0
    simp only at hs1 ht0 hr0
    go_wp2_with fail
    clear s0 s2 s3 s4 s5 s6 t0 r0 hs1 ht0 hr0
    refine (HK1.out _ HQ3.out).mono ?_
    rintro r w2 ⟨rfl, hq2, ht2⟩
    have HQ2 := Lib.hid hq2
    have HD2 := Lib.hid (HD3.out.touch ht2 (fun k h1 h2 hn => hn (.inr ⟨h1, h2⟩)))
    have HB2 := Lib.hid (HB3.out.trans (ht2.mono fun k _ h1 h2 => h1 (.inl (.inl h2))))
    have HR2 := Lib.hid (show RT w2 (some ⟨gb, off, none⟩) c us from ⟨HR3.out.row.touch ht2 (fun x hx hn => hn (.inl (.inr (by cases hx; rfl)))), HR3.out.nil, HR3.out.len, HR3.out.cap⟩)
    clear hq2 ht2 HK1
    have t0 := HD2.out.t0
    have t1 := HD2.out.t1
    have s2 := HD2.out.s 2 (by decide)
    have s3 := HD2.out.s 3 (by decide)
    have s4 := HD2.out.s 4 (by decide)
    have s5 := HD2.out.s 5 (by decide)
    have s6 := HD2.out.s 6 (by decide)
    simp only [List.getD_cons_succ, List.getD_cons_zero] at s2 s3 s4 s5 s6
    have b0 := block_lt_of_cell t0
    have b1 := block_lt_of_cell s2
    simp only at b0 b1
    go_wp2_with fail
    refine (HK2.out w2 _ c HR2.out).mono ?_
    rintro r w3 ⟨a5, c5, rfl, p2, p3, p4, p5, p6, p7⟩
    have HD4 := Lib.hid (HD2.out.below p7)
    have HFIN := Lib.hid (fun x0 x1 o => does_fin HQ2.out p2 p3 p4 p5 p6 p7 HB2.out HW0.out HAB.out x0 x1 o)
    have r0 := HD4.out.r0
    have r1 := HD4.out.r1
    have z0 := HD4.out.z0
    have z1 := HD4.out.z1
    have b2 := block_lt_of_cell r0
    simp only at b2
    have HFR0 := Lib.hid (fun x y o => alloc_cell (set2_same0 (x := x) (y := y) r0) o)
    have HFR1 := Lib.hid (fun x y o => alloc_cell (set2_same1 (x := x) (y := y) r1) o)
    clear p2 p3 p4 p5 p6 p7 HK2 HD2 HQ2 HR2 t0 t1 s2 s3 s4 s5 s6
    go_wp2
    have fr0 := HFR0.out (.slice a5 us'.length c5) (.int .i64 (g + 1)) (.cells #[.slice a5 us'.length c5, .int .i64 (g + 1)] 28)
    have fr1 := HFR1.out (.slice a5 us'.length c5) (.int .i64 (g + 1)) (.cells #[.slice a5 us'.length c5, .int .i64 (g + 1)] 28)
    have hfin := HFIN.out (.slice a5 us'.length c5) (.int .i64 (g + 1)) (.cells #[.slice a5 us'.length c5, .int .i64 (g + 1)] 28)
    rw [← HPOST.out]
    exact bodyPost_ret (v := .tuple #[.agg #[.slice a5 us'.length c5, .int .i64 (g + 1)], .bool true]) (by simp [results, Try.results13, go_sem, fr0, fr1]) rfl ⟨us', g, a5, c5, rfl, hfin.1, hfin.2.1, hfin.2.2.imp id (fun h x hx => Nat.le_trans HB2.out.size (h x hx))⟩
set_option maxRecDepth 100000 in
set_option maxHeartbeats 4000000 in
theorem does_3 (K0 : Nat → Prop) (b : Nat) (us : List Un) (g : Int) (a : Option Addr) (c : Nat) (w : World) (an af aa ab ax ay : Int) (h : DoMem K0 b us g a c w) :
    Calls Try.prog 13 #[.pointer (some ⟨b, 0, none⟩), .agg #[.slice a us.length c, .int .i64 (g + 1)], .agg #[.int .i64 3, .int .i64 an, .int .i64 af, .int .i64 aa, .int .i64 ab, .int .i64 ax, .int .i64 ay]] w (DoesPost K0 b a w) := by
  have hA3 : Below w.heap.size w (((w.alloc (.cells #[.slice a us.length c, .int .i64 (g + 1)] 28)).alloc (.cells #[.int .i64 3, .int .i64 an, .int .i64 af, .int .i64 aa, .int .i64 ab, .int .i64 ax, .int .i64 ay] 32)).alloc (.cells #[.slice none 0 0, .int .i64 0] 28)) := bel_alloc (bel_alloc (bel_alloc (Below.refl _ _) _) _) _
  have HQ3 := Lib.hid (show TabQ (KB K0 a w.heap.size) b us g (((w.alloc (.cells #[.slice a us.length c, .int .i64 (g + 1)] 28)).alloc (.cells #[.int .i64 3, .int .i64 an, .int .i64 af, .int .i64 aa, .int .i64 ab, .int .i64 ax, .int .i64 ay] 32)).alloc (.cells #[.slice none 0 0, .int .i64 0] 28)) from h.tab.grow (N := fun k => w.heap.size ≤ k ∧ k < w.heap.size + 3) hA3 (fun k hk => ⟨hk.1, by simp; omega⟩))
  have HD3 := Lib.hid (dbox_new w a us.length c (g + 1) 3 an af aa ab ax ay)
  have HB3 := Lib.hid (show Touch (fun k => ¬ K0 k) w (((w.alloc (.cells #[.slice a us.length c, .int .i64 (g + 1)] 28)).alloc (.cells #[.int .i64 3, .int .i64 an, .int .i64 af, .int .i64 aa, .int .i64 ab, .int .i64 ax, .int .i64 ay] 32)).alloc (.cells #[.slice none 0 0, .int .i64 0] 28)) from touch_of_below hA3)
  have HR3 := Lib.hid (h.rt.below hA3)
  have HAB := Lib.hid (show ∀ x, a = some x → x.block < w.heap.size from fun x hx => h.tab.2.1 _ (.inr (by rw [hx]; rfl)))
  have HW0 := Lib.hid (show ∀ k, K0 k → k < w.heap.size from fun k hk => h.tab.2.1 k (.inl hk))
  have h64 := h.tab.ok.1
  have hc1 := h.rt.len
  have hc2 := h.rt.cap
  unfold maxLen at hc2
  have HOK := Lib.hid h.tab.ok
  have HBO := Lib.hid (fun (idv : Int) => set_both (K := KB K0 a w.heap.size) b us g idv af ax HOK.out)
  generalize hpost : DoesPost K0 b a w = Post
  have HPOST := Lib.hid hpost
  clear hA3 h hpost
  generalize hn : us.length = n at HQ3 HD3 HB3 HR3 h64 hc1 ⊢
  have HN := Lib.hid hn
  clear hn
  by_cases h0 : n = 0
  · subst h0
    obtain ⟨us', q, hk1, hk2⟩ := HBO.out ay
    have hn := HN.out
    simp only [hn] at hk2
    clear hn
    have HK1 := Lib.hid hk1
    have HK2 := Lib.hid hk2
    have hself : (q == q) = true := by simp
    clear hk1 hk2 HBO
    go_enter Try.func13, Try.ntmps13
    go_wp2_with fail
    refine (HK1.out _ HQ3.out).mono ?_
    rintro r w2 ⟨rfl, hq2, ht2⟩
    have HQ2 := Lib.hid hq2
    have HD2 := Lib.hid (HD3.out.touch ht2 (fun k h1 h2 hn => hn (.inr ⟨h1, h2⟩)))
    have HB2 := Lib.hid (HB3.out.trans (ht2.mono fun k _ h1 h2 => h1 (.inl (.inl h2))))
    have HR2 := Lib.hid (show RT w2 a c us from ⟨HR3.out.row.touch ht2 (fun x hx hn => hn (.inl (.inr (by rw [hx]; rfl)))), HR3.out.nil, HR3.out.len, HR3.out.cap⟩)
    clear hq2 ht2 HK1
    have t0 := HD2.out.t0
    have t1 := HD2.out.t1
    have s2 := HD2.out.s 2 (by decide)
    have s3 := HD2.out.s 3 (by decide)
    have s4 := HD2.out.s 4 (by decide)
    have s5 := HD2.out.s 5 (by decide)
    have s6 := HD2.out.s 6 (by decide)
    simp only [List.getD_cons_succ, List.getD_cons_zero] at s2 s3 s4 s5 s6
    have b0 := block_lt_of_cell t0
    have b1 := block_lt_of_cell s2
    simp only at b0 b1
    go_wp2_with fail
    refine (HK2.out w2 a c HR2.out).mono ?_
    rintro r w3 ⟨a5, c5, rfl, p2, p3, p4, p5, p6, p7⟩
    have HD4 := Lib.hid (HD2.out.below p7)
    have HFIN := Lib.hid (fun x0 x1 o => does_fin HQ2.out p2 p3 p4 p5 p6 p7 HB2.out HW0.out HAB.out x0 x1 o)
    have r0 := HD4.out.r0
    have r1 := HD4.out.r1
    have z0 := HD4.out.z0
    have z1 := HD4.out.z1
    have b2 := block_lt_of_cell r0
    simp only at b2
    have HFR0 := Lib.hid (fun x y o => alloc_cell (set2_same0 (x := x) (y := y) r0) o)
    have HFR1 := Lib.hid (fun x y o => alloc_cell (set2_same1 (x := x) (y := y) r1) o)
    clear p2 p3 p4 p5 p6 p7 HK2 HD2 HQ2 HR2 t0 t1 s2 s3 s4 s5 s6
    go_wp2
    have fr0 := HFR0.out (.slice a5 us'.length c5) (.int .i64 (g + 1)) (.cells #[.slice a5 us'.length c5, .int .i64 (g + 1)] 28)
    have fr1 := HFR1.out (.slice a5 us'.length c5) (.int .i64 (g + 1)) (.cells #[.slice a5 us'.length c5, .int .i64 (g + 1)] 28)
    have hfin := HFIN.out (.slice a5 us'.length c5) (.int .i64 (g + 1)) (.cells #[.slice a5 us'.length c5, .int .i64 (g + 1)] 28)
    rw [← HPOST.out]
    exact bodyPost_ret (v := .tuple #[.agg #[.slice a5 us'.length c5, .int .i64 (g + 1)], .bool true]) (by simp [results, Try.results13, go_sem, fr0, fr1]) rfl ⟨us', g, a5, c5, rfl, hfin.1, hfin.2.1, hfin.2.2.imp id (fun h x hx => Nat.le_trans HB2.out.size (h x hx))⟩
  · have d0 : decide ((0 : Int) < (n : Int)) = true := by simp; omega
    obtain ⟨q5, hq5, eq5⟩ := andM an 255 255 rfl (by decide)
    have hmod : q5 % n < n := Nat.mod_lt _ (by omega)
    obtain ⟨gb, off, rfl, hgb, e0, -⟩ := HR3.out.row.at (i := q5 % n) (by rw [HN.out]; exact hmod)
    generalize us[q5 % n]'(by rw [HN.out]; exact hmod) = uu at e0
    generalize uu.id = idv at e0
    obtain ⟨us', q, hk1, hk2⟩ := HBO.out idv
    have hn := HN.out
    simp only [hn] at hk2
    clear hn
    have HK1 := Lib.hid hk1
    have HK2 := Lib.hid hk2
    have hself : (q == q) = true := by simp
    clear hk1 hk2 HBO
    go_enter Try.func13, Try.ntmps13
    have m1 : (0 : Int) ≤ ((q5 % n : Nat) : Int) := by omega
    have m2 : ((q5 % n : Nat) : Int) < (n : Int) := by omega
    have hrem := rem_run q5 n h64 h0 hq5
    have hmE : (q5 : Int) % (n : Int) = ((q5 % n : Nat) : Int) := (Int.natCast_emod _ _).symm
    have hmT : (q5 : Int).tmod (n : Int) = ((q5 % n : Nat) : Int) := by rw [Int.tmod_eq_emod_of_nonneg (by omega)]; exact hmE
    generalize q5 % n = m5 at hrem e0 m1 m2 hmod hmE hmT
    go_upto_region 3 with (fail)
    have t0 := HD3.out.t0
    have s1 := HD3.out.s 1 (by decide)
    simp only [List.getD_cons_succ, List.getD_cons_zero] at s1
    generalize ((w.alloc (.cells #[.slice (some ⟨gb, off, none⟩) n c, .int .i64 (g + 1)] 28)).alloc (.cells #[.int .i64 3, .int .i64 an, .int .i64 af, .int .i64 aa, .int .i64 ab, .int .i64 ax, .int .i64 ay] 32)).alloc (.cells #[.slice none 0 0, .int .i64 0] 28) = Wq at HQ3 HD3 HB3 HR3 e0 t0 s1 hgb ⊢
    go_quiet (fail)
    clear hrem m1 m2 e0 t0 s1 eq5 hmE hmT
    have HQ3 : Hid (TabQ (KB K0 (some ⟨gb, off, none⟩) w.heap.size) b us g (Wq.drewN nq)) := Lib.hid (HQ3.out.below ⟨rfl, rfl, rfl, Nat.le_refl _, fun _ _ => rfl⟩)
    have HD3 : Hid (DBox w.heap.size (some ⟨gb, off, none⟩) n c (g + 1) [3, an, af, aa, ab, ax, ay] (Wq.drewN nq)) := Lib.hid (HD3.out.below ⟨rfl, rfl, rfl, Nat.le_refl _, fun _ _ => rfl⟩)
    have HB3 : Hid (Touch (fun k => ¬ K0 k) w (Wq.drewN nq)) := Lib.hid ⟨HB3.out.os, HB3.out.tape, HB3.out.output, HB3.out.size, HB3.out.block⟩
    have HR3 : Hid (RT (Wq.drewN nq) (some ⟨gb, off, none⟩) c us) := Lib.hid (HR3.out.below ⟨rfl, rfl, rfl, Nat.le_refl _, fun _ _ => rfl⟩)
    generalize Wq.drewN nq = Wp at HQ3 HD3 HB3 HR3 ⊢
    have s0 := HD3.out.s 0 (by decide)
    have s2 := HD3.out.s 2 (by decide)
    have s3 := HD3.out.s 3 (by decide)
    have s4 := HD3.out.s 4 (by decide)
    have s5 := HD3.out.s 5 (by decide)
    have s6 := HD3.out.s 6 (by decide)
    simp only [List.getD_cons_succ, List.getD_cons_zero] at s0 s2 s3 s4 s5 s6
    have t0 := HD3.out.t0
    have r0 := HD3.out.r0
    have hs1 := block_lt_of_cell s2
    have ht0 := block_lt_of_cell t0
    have hr0 := block_lt_of_cell r0
    simp only at hs1 ht0 hr0
    go_wp2_with fail
    clear s0 s2 s3 s4 s5 s6 t0 r0 hs1 ht0 hr0
    refine (HK1.out _ HQ3.out).mono ?_
    rintro r w2 ⟨rfl, hq2, ht2⟩
    have HQ2 := Lib.hid hq2
    have HD2 := Lib.hid (HD3.out.touch ht2 (fun k h1 h2 hn => hn (.inr ⟨h1, h2⟩)))
    have HB2 := Lib.hid (HB3.out.trans (ht2.mono fun k _ h1 h2 => h1 (.inl (.inl h2))))
    have HR2 := Lib.hid (show RT w2 (some ⟨gb, off, none⟩) c us from ⟨HR3.out.row.touch ht2 (fun x hx hn => hn (.inl (.inr (by cases hx; rfl)))), HR3.out.nil, HR3.out.len, HR3.out.cap⟩)
    clear hq2 ht2 HK1
    have t0 := HD2.out.t0
    have t1 := HD2.out.t1
    have s2 := HD2.out.s 2 (by decide)
    have s3 := HD2.out.s 3 (by decide)
    have s4 := HD2.out.s 4 (by decide)
    have s5 := HD2.out.s 5 (by decide)
    have s6 := HD2.out.s 6 (by decide)
    simp only [List.getD_cons_succ, List.getD_cons_zero] at s2 s3 s4 s5 s6
    have b0 := block_lt_of_cell t0
    have b1 := block_lt_of_cell s2
    simp only at b0 b1
    go_wp2_with fail
    refine (HK2.out w2 _ c HR2.out).mono ?_
    rintro r w3 ⟨a5, c5, rfl, p2, p3, p4, p5, p6, p7⟩
    have HD4 := Lib.hid (HD2.out.below p7)
    have HFIN := Lib.hid (fun x0 x1 o => does_fin HQ2.out p2 p3 p4 p5 p6 p7 HB2.out HW0.out HAB.out x0 x1 o)
    have r0 := HD4.out.r0
    have r1 := HD4.out.r1
    have z0 := HD4.out.z0
    have z1 := HD4.out.z1
    have b2 := block_lt_of_cell r0
    simp only at b2
    have HFR0 := Lib.hid (fun x y o => alloc_cell (set2_same0 (x := x) (y := y) r0) o)
    have HFR1 := Lib.hid (fun x y o => alloc_cell (set2_same1 (x := x) (y := y) r1) o)
    clear p2 p3 p4 p5 p6 p7 HK2 HD2 HQ2 HR2 t0 t1 s2 s3 s4 s5 s6
    go_wp2
    have fr0 := HFR0.out (.slice a5 us'.length c5) (.int .i64 (g + 1)) (.cells #[.slice a5 us'.length c5, .int .i64 (g + 1)] 28)
    have fr1 := HFR1.out (.slice a5 us'.length c5) (.int .i64 (g + 1)) (.cells #[.slice a5 us'.length c5, .int .i64 (g + 1)] 28)
    have hfin := HFIN.out (.slice a5 us'.length c5) (.int .i64 (g + 1)) (.cells #[.slice a5 us'.length c5, .int .i64 (g + 1)] 28)
    rw [← HPOST.out]
    exact bodyPost_ret (v := .tuple #[.agg #[.slice a5 us'.length c5, .int .i64 (g + 1)], .bool true]) (by simp [results, Try.results13, go_sem, fr0, fr1]) rfl ⟨us', g, a5, c5, rfl, hfin.1, hfin.2.1, hfin.2.2.imp id (fun h x hx => Nat.le_trans HB2.out.size (h x hx))⟩
set_option maxRecDepth 100000 in
set_option maxHeartbeats 4000000 in
theorem does_4 (K0 : Nat → Prop) (b : Nat) (us : List Un) (g : Int) (a : Option Addr) (c : Nat) (w : World) (an af aa ab ax ay : Int) (h : DoMem K0 b us g a c w) :
    Calls Try.prog 13 #[.pointer (some ⟨b, 0, none⟩), .agg #[.slice a us.length c, .int .i64 (g + 1)], .agg #[.int .i64 4, .int .i64 an, .int .i64 af, .int .i64 aa, .int .i64 ab, .int .i64 ax, .int .i64 ay]] w (DoesPost K0 b a w) := by
  have hA3 : Below w.heap.size w (((w.alloc (.cells #[.slice a us.length c, .int .i64 (g + 1)] 28)).alloc (.cells #[.int .i64 4, .int .i64 an, .int .i64 af, .int .i64 aa, .int .i64 ab, .int .i64 ax, .int .i64 ay] 32)).alloc (.cells #[.slice none 0 0, .int .i64 0] 28)) := bel_alloc (bel_alloc (bel_alloc (Below.refl _ _) _) _) _
  have HQ3 := Lib.hid (show TabQ (KB K0 a w.heap.size) b us g (((w.alloc (.cells #[.slice a us.length c, .int .i64 (g + 1)] 28)).alloc (.cells #[.int .i64 4, .int .i64 an, .int .i64 af, .int .i64 aa, .int .i64 ab, .int .i64 ax, .int .i64 ay] 32)).alloc (.cells #[.slice none 0 0, .int .i64 0] 28)) from h.tab.grow (N := fun k => w.heap.size ≤ k ∧ k < w.heap.size + 3) hA3 (fun k hk => ⟨hk.1, by simp; omega⟩))
  have HD3 := Lib.hid (dbox_new w a us.length c (g + 1) 4 an af aa ab ax ay)
  have HB3 := Lib.hid (show Touch (fun k => ¬ K0 k) w (((w.alloc (.cells #[.slice a us.length c, .int .i64 (g + 1)] 28)).alloc (.cells #[.int .i64 4, .int .i64 an, .int .i64 af, .int .i64 aa, .int .i64 ab, .int .i64 ax, .int .i64 ay] 32)).alloc (.cells #[.slice none 0 0, .int .i64 0] 28)) from touch_of_below hA3)
  have HR3 := Lib.hid (h.rt.below hA3)
  have HAB := Lib.hid (show ∀ x, a = some x → x.block < w.heap.size from fun x hx => h.tab.2.1 _ (.inr (by rw [hx]; rfl)))
  have HW0 := Lib.hid (show ∀ k, K0 k → k < w.heap.size from fun k hk => h.tab.2.1 k (.inl hk))
  have h64 := h.tab.ok.1
  have hc1 := h.rt.len
  have hc2 := h.rt.cap
  unfold maxLen at hc2
  have HOK := Lib.hid h.tab.ok
  have HBO := Lib.hid (fun (idv : Int) => kill_both (K := KB K0 a w.heap.size) b us g idv HOK.out)
  generalize hpost : DoesPost K0 b a w = Post
  have HPOST := Lib.hid hpost
  clear hA3 h hpost
  generalize hn : us.length = n at HQ3 HD3 HB3 HR3 h64 hc1 ⊢
  have HN := Lib.hid hn
  clear hn
  by_cases h0 : n = 0
  · subst h0
    obtain ⟨us', q, hk1, hk2⟩ := HBO.out ax
    have hn := HN.out
    simp only [hn] at hk2
    clear hn
    have HK1 := Lib.hid hk1
    have HK2 := Lib.hid hk2
    have hself : (q == q) = true := by simp
    clear hk1 hk2 HBO
    go_enter Try.func13, Try.ntmps13
    go_wp2_with fail
    refine (HK1.out _ HQ3.out).mono ?_
    rintro r w2 ⟨rfl, hq2, ht2⟩
    have HQ2 := Lib.hid hq2
    have HD2 := Lib.hid (HD3.out.touch ht2 (fun k h1 h2 hn => hn (.inr ⟨h1, h2⟩)))
    have HB2 := Lib.hid (HB3.out.trans (ht2.mono fun k _ h1 h2 => h1 (.inl (.inl h2))))
    have HR2 := Lib.hid (show RT w2 a c us from ⟨HR3.out.row.touch ht2 (fun x hx hn => hn (.inl (.inr (by rw [hx]; rfl)))), HR3.out.nil, HR3.out.len, HR3.out.cap⟩)
    clear hq2 ht2 HK1
    have t0 := HD2.out.t0
    have t1 := HD2.out.t1
    have s2 := HD2.out.s 2 (by decide)
    have s3 := HD2.out.s 3 (by decide)
    have s4 := HD2.out.s 4 (by decide)
    have s5 := HD2.out.s 5 (by decide)
    have s6 := HD2.out.s 6 (by decide)
    simp only [List.getD_cons_succ, List.getD_cons_zero] at s2 s3 s4 s5 s6
    have b0 := block_lt_of_cell t0
    have b1 := block_lt_of_cell s2
    simp only at b0 b1
    go_wp2_with fail
    refine (HK2.out w2 a c HR2.out).mono ?_
    rintro r w3 ⟨a5, c5, rfl, p2, p3, p4, p5, p6, p7⟩
    have HD4 := Lib.hid (HD2.out.below p7)
    have HFIN := Lib.hid (fun x0 x1 o => does_fin HQ2.out p2 p3 p4 p5 p6 p7 HB2.out HW0.out HAB.out x0 x1 o)
    have r0 := HD4.out.r0
    have r1 := HD4.out.r1
    have z0 := HD4.out.z0
    have z1 := HD4.out.z1
    have b2 := block_lt_of_cell r0
    simp only at b2
    have HFR0 := Lib.hid (fun x y o => alloc_cell (set2_same0 (x := x) (y := y) r0) o)
    have HFR1 := Lib.hid (fun x y o => alloc_cell (set2_same1 (x := x) (y := y) r1) o)
    clear p2 p3 p4 p5 p6 p7 HK2 HD2 HQ2 HR2 t0 t1 s2 s3 s4 s5 s6
    go_wp2
    have fr0 := HFR0.out (.slice a5 us'.length c5) (.int .i64 (g + 1)) (.cells #[.slice a5 us'.length c5, .int .i64 (g + 1)] 28)
    have fr1 := HFR1.out (.slice a5 us'.length c5) (.int .i64 (g + 1)) (.cells #[.slice a5 us'.length c5, .int .i64 (g + 1)] 28)
    have hfin := HFIN.out (.slice a5 us'.length c5) (.int .i64 (g + 1)) (.cells #[.slice a5 us'.length c5, .int .i64 (g + 1)] 28)
    rw [← HPOST.out]
    exact bodyPost_ret (v := .tuple #[.agg #[.slice a5 us'.length c5, .int .i64 (g + 1)], .bool true]) (by simp [results, Try.results13, go_sem, fr0, fr1]) rfl ⟨us', g, a5, c5, rfl, hfin.1, hfin.2.1, hfin.2.2.imp id (fun h x hx => Nat.le_trans HB2.out.size (h x hx))⟩
  · have d0 : decide ((0 : Int) < (n : Int)) = true := by simp; omega
    obtain ⟨us', q, hk1, hk2⟩ := HBO.out ax
    have hn := HN.out
    simp only [hn] at hk2
    clear hn
    have HK1 := Lib.hid hk1
    have HK2 := Lib.hid hk2
    have hself : (q == q) = true := by simp
    clear hk1 hk2 HBO
    go_enter Try.func13, Try.ntmps13
    go_wp2_with fail
    refine (HK1.out _ HQ3.out).mono ?_
    rintro r w2 ⟨rfl, hq2, ht2⟩
    have HQ2 := Lib.hid hq2
    have HD2 := Lib.hid (HD3.out.touch ht2 (fun k h1 h2 hn => hn (.inr ⟨h1, h2⟩)))
    have HB2 := Lib.hid (HB3.out.trans (ht2.mono fun k _ h1 h2 => h1 (.inl (.inl h2))))
    have HR2 := Lib.hid (show RT w2 a c us from ⟨HR3.out.row.touch ht2 (fun x hx hn => hn (.inl (.inr (by rw [hx]; rfl)))), HR3.out.nil, HR3.out.len, HR3.out.cap⟩)
    clear hq2 ht2 HK1
    have t0 := HD2.out.t0
    have t1 := HD2.out.t1
    have s2 := HD2.out.s 2 (by decide)
    have s3 := HD2.out.s 3 (by decide)
    have s4 := HD2.out.s 4 (by decide)
    have s5 := HD2.out.s 5 (by decide)
    have s6 := HD2.out.s 6 (by decide)
    simp only [List.getD_cons_succ, List.getD_cons_zero] at s2 s3 s4 s5 s6
    have b0 := block_lt_of_cell t0
    have b1 := block_lt_of_cell s2
    simp only at b0 b1
    go_wp2_with fail
    refine (HK2.out w2 a c HR2.out).mono ?_
    rintro r w3 ⟨a5, c5, rfl, p2, p3, p4, p5, p6, p7⟩
    have HD4 := Lib.hid (HD2.out.below p7)
    have HFIN := Lib.hid (fun x0 x1 o => does_fin HQ2.out p2 p3 p4 p5 p6 p7 HB2.out HW0.out HAB.out x0 x1 o)
    have r0 := HD4.out.r0
    have r1 := HD4.out.r1
    have z0 := HD4.out.z0
    have z1 := HD4.out.z1
    have b2 := block_lt_of_cell r0
    simp only at b2
    have HFR0 := Lib.hid (fun x y o => alloc_cell (set2_same0 (x := x) (y := y) r0) o)
    have HFR1 := Lib.hid (fun x y o => alloc_cell (set2_same1 (x := x) (y := y) r1) o)
    clear p2 p3 p4 p5 p6 p7 HK2 HD2 HQ2 HR2 t0 t1 s2 s3 s4 s5 s6
    go_wp2
    have fr0 := HFR0.out (.slice a5 us'.length c5) (.int .i64 (g + 1)) (.cells #[.slice a5 us'.length c5, .int .i64 (g + 1)] 28)
    have fr1 := HFR1.out (.slice a5 us'.length c5) (.int .i64 (g + 1)) (.cells #[.slice a5 us'.length c5, .int .i64 (g + 1)] 28)
    have hfin := HFIN.out (.slice a5 us'.length c5) (.int .i64 (g + 1)) (.cells #[.slice a5 us'.length c5, .int .i64 (g + 1)] 28)
    rw [← HPOST.out]
    exact bodyPost_ret (v := .tuple #[.agg #[.slice a5 us'.length c5, .int .i64 (g + 1)], .bool true]) (by simp [results, Try.results13, go_sem, fr0, fr1]) rfl ⟨us', g, a5, c5, rfl, hfin.1, hfin.2.1, hfin.2.2.imp id (fun h x hx => Nat.le_trans HB2.out.size (h x hx))⟩
set_option maxRecDepth 100000 in
set_option maxHeartbeats 4000000 in
theorem does_5 (K0 : Nat → Prop) (b : Nat) (us : List Un) (g : Int) (a : Option Addr) (c : Nat) (w : World) (an af aa ab ax ay : Int) (h : DoMem K0 b us g a c w) :
    Calls Try.prog 13 #[.pointer (some ⟨b, 0, none⟩), .agg #[.slice a us.length c, .int .i64 (g + 1)], .agg #[.int .i64 5, .int .i64 an, .int .i64 af, .int .i64 aa, .int .i64 ab, .int .i64 ax, .int .i64 ay]] w (DoesPost K0 b a w) := by
  have hA3 : Below w.heap.size w (((w.alloc (.cells #[.slice a us.length c, .int .i64 (g + 1)] 28)).alloc (.cells #[.int .i64 5, .int .i64 an, .int .i64 af, .int .i64 aa, .int .i64 ab, .int .i64 ax, .int .i64 ay] 32)).alloc (.cells #[.slice none 0 0, .int .i64 0] 28)) := bel_alloc (bel_alloc (bel_alloc (Below.refl _ _) _) _) _
  have HQ3 := Lib.hid (show TabQ (KB K0 a w.heap.size) b us g (((w.alloc (.cells #[.slice a us.length c, .int .i64 (g + 1)] 28)).alloc (.cells #[.int .i64 5, .int .i64 an, .int .i64 af, .int .i64 aa, .int .i64 ab, .int .i64 ax, .int .i64 ay] 32)).alloc (.cells #[.slice none 0 0, .int .i64 0] 28)) from h.tab.grow (N := fun k => w.heap.size ≤ k ∧ k < w.heap.size + 3) hA3 (fun k hk => ⟨hk.1, by simp; omega⟩))
  have HD3 := Lib.hid (dbox_new w a us.length c (g + 1) 5 an af aa ab ax ay)
  have HB3 := Lib.hid (show Touch (fun k => ¬ K0 k) w (((w.alloc (.cells #[.slice a us.length c, .int .i64 (g + 1)] 28)).alloc (.cells #[.int .i64 5, .int .i64 an, .int .i64 af, .int .i64 aa, .int .i64 ab, .int .i64 ax, .int .i64 ay] 32)).alloc (.cells #[.slice none 0 0, .int .i64 0] 28)) from touch_of_below hA3)
  have HR3 := Lib.hid (h.rt.below hA3)
  have HAB := Lib.hid (show ∀ x, a = some x → x.block < w.heap.size from fun x hx => h.tab.2.1 _ (.inr (by rw [hx]; rfl)))
  have HW0 := Lib.hid (show ∀ k, K0 k → k < w.heap.size from fun k hk => h.tab.2.1 k (.inl hk))
  have h64 := h.tab.ok.1
  have hc1 := h.rt.len
  have hc2 := h.rt.cap
  unfold maxLen at hc2
  have HOK := Lib.hid h.tab.ok
  have HBO := Lib.hid (fun (idv : Int) => set_both (K := KB K0 a w.heap.size) b us g idv af ax HOK.out)
  generalize hpost : DoesPost K0 b a w = Post
  have HPOST := Lib.hid hpost
  clear hA3 h hpost
  generalize hn : us.length = n at HQ3 HD3 HB3 HR3 h64 hc1 ⊢
  have HN := Lib.hid hn
  clear hn
  by_cases h0 : n = 0
  · subst h0
    obtain ⟨us', q, hk1, hk2⟩ := HBO.out ay
    have hn := HN.out
    simp only [hn] at hk2
    clear hn
    have HK1 := Lib.hid hk1
    have HK2 := Lib.hid hk2
    have hself : (q == q) = true := by simp
    clear hk1 hk2 HBO
    go_enter Try.func13, Try.ntmps13
    go_wp2_with fail
    refine (HK1.out _ HQ3.out).mono ?_
    rintro r w2 ⟨rfl, hq2, ht2⟩
    have HQ2 := Lib.hid hq2
    have HD2 := Lib.hid (HD3.out.touch ht2 (fun k h1 h2 hn => hn (.inr ⟨h1, h2⟩)))
    have HB2 := Lib.hid (HB3.out.trans (ht2.mono fun k _ h1 h2 => h1 (.inl (.inl h2))))
    have HR2 := Lib.hid (show RT w2 a c us from ⟨HR3.out.row.touch ht2 (fun x hx hn => hn (.inl (.inr (by rw [hx]; rfl)))), HR3.out.nil, HR3.out.len, HR3.out.cap⟩)
    clear hq2 ht2 HK1
    have t0 := HD2.out.t0
    have t1 := HD2.out.t1
    have s2 := HD2.out.s 2 (by decide)
    have s3 := HD2.out.s 3 (by decide)
    have s4 := HD2.out.s 4 (by decide)
    have s5 := HD2.out.s 5 (by decide)
    have s6 := HD2.out.s 6 (by decide)
    simp only [List.getD_cons_succ, List.getD_cons_zero] at s2 s3 s4 s5 s6
    have b0 := block_lt_of_cell t0
    have b1 := block_lt_of_cell s2
    simp only at b0 b1
    go_wp2_with fail
    refine (HK2.out w2 a c HR2.out).mono ?_
    rintro r w3 ⟨a5, c5, rfl, p2, p3, p4, p5, p6, p7⟩
    have HD4 := Lib.hid (HD2.out.below p7)
    have HFIN := Lib.hid (fun x0 x1 o => does_fin HQ2.out p2 p3 p4 p5 p6 p7 HB2.out HW0.out HAB.out x0 x1 o)
    have r0 := HD4.out.r0
    have r1 := HD4.out.r1
    have z0 := HD4.out.z0
    have z1 := HD4.out.z1
    have b2 := block_lt_of_cell r0
    simp only at b2
    have HFR0 := Lib.hid (fun x y o => alloc_cell (set2_same0 (x := x) (y := y) r0) o)
    have HFR1 := Lib.hid (fun x y o => alloc_cell (set2_same1 (x := x) (y := y) r1) o)
    clear p2 p3 p4 p5 p6 p7 HK2 HD2 HQ2 HR2 t0 t1 s2 s3 s4 s5 s6
    go_wp2
    have fr0 := HFR0.out (.slice a5 us'.length c5) (.int .i64 (g + 1)) (.cells #[.slice a5 us'.length c5, .int .i64 (g + 1)] 28)
    have fr1 := HFR1.out (.slice a5 us'.length c5) (.int .i64 (g + 1)) (.cells #[.slice a5 us'.length c5, .int .i64 (g + 1)] 28)
    have hfin := HFIN.out (.slice a5 us'.length c5) (.int .i64 (g + 1)) (.cells #[.slice a5 us'.length c5, .int .i64 (g + 1)] 28)
    rw [← HPOST.out]
    exact bodyPost_ret (v := .tuple #[.agg #[.slice a5 us'.length c5, .int .i64 (g + 1)], .bool true]) (by simp [results, Try.results13, go_sem, fr0, fr1]) rfl ⟨us', g, a5, c5, rfl, hfin.1, hfin.2.1, hfin.2.2.imp id (fun h x hx => Nat.le_trans HB2.out.size (h x hx))⟩
  · have d0 : decide ((0 : Int) < (n : Int)) = true := by simp; omega
    obtain ⟨us', q, hk1, hk2⟩ := HBO.out ay
    have hn := HN.out
    simp only [hn] at hk2
    clear hn
    have HK1 := Lib.hid hk1
    have HK2 := Lib.hid hk2
    have hself : (q == q) = true := by simp
    clear hk1 hk2 HBO
    go_enter Try.func13, Try.ntmps13
    go_wp2_with fail
    refine (HK1.out _ HQ3.out).mono ?_
    rintro r w2 ⟨rfl, hq2, ht2⟩
    have HQ2 := Lib.hid hq2
    have HD2 := Lib.hid (HD3.out.touch ht2 (fun k h1 h2 hn => hn (.inr ⟨h1, h2⟩)))
    have HB2 := Lib.hid (HB3.out.trans (ht2.mono fun k _ h1 h2 => h1 (.inl (.inl h2))))
    have HR2 := Lib.hid (show RT w2 a c us from ⟨HR3.out.row.touch ht2 (fun x hx hn => hn (.inl (.inr (by rw [hx]; rfl)))), HR3.out.nil, HR3.out.len, HR3.out.cap⟩)
    clear hq2 ht2 HK1
    have t0 := HD2.out.t0
    have t1 := HD2.out.t1
    have s2 := HD2.out.s 2 (by decide)
    have s3 := HD2.out.s 3 (by decide)
    have s4 := HD2.out.s 4 (by decide)
    have s5 := HD2.out.s 5 (by decide)
    have s6 := HD2.out.s 6 (by decide)
    simp only [List.getD_cons_succ, List.getD_cons_zero] at s2 s3 s4 s5 s6
    have b0 := block_lt_of_cell t0
    have b1 := block_lt_of_cell s2
    simp only at b0 b1
    go_wp2_with fail
    refine (HK2.out w2 a c HR2.out).mono ?_
    rintro r w3 ⟨a5, c5, rfl, p2, p3, p4, p5, p6, p7⟩
    have HD4 := Lib.hid (HD2.out.below p7)
    have HFIN := Lib.hid (fun x0 x1 o => does_fin HQ2.out p2 p3 p4 p5 p6 p7 HB2.out HW0.out HAB.out x0 x1 o)
    have r0 := HD4.out.r0
    have r1 := HD4.out.r1
    have z0 := HD4.out.z0
    have z1 := HD4.out.z1
    have b2 := block_lt_of_cell r0
    simp only at b2
    have HFR0 := Lib.hid (fun x y o => alloc_cell (set2_same0 (x := x) (y := y) r0) o)
    have HFR1 := Lib.hid (fun x y o => alloc_cell (set2_same1 (x := x) (y := y) r1) o)
    clear p2 p3 p4 p5 p6 p7 HK2 HD2 HQ2 HR2 t0 t1 s2 s3 s4 s5 s6
    go_wp2
    have fr0 := HFR0.out (.slice a5 us'.length c5) (.int .i64 (g + 1)) (.cells #[.slice a5 us'.length c5, .int .i64 (g + 1)] 28)
    have fr1 := HFR1.out (.slice a5 us'.length c5) (.int .i64 (g + 1)) (.cells #[.slice a5 us'.length c5, .int .i64 (g + 1)] 28)
    have hfin := HFIN.out (.slice a5 us'.length c5) (.int .i64 (g + 1)) (.cells #[.slice a5 us'.length c5, .int .i64 (g + 1)] 28)
    rw [← HPOST.out]
    exact bodyPost_ret (v := .tuple #[.agg #[.slice a5 us'.length c5, .int .i64 (g + 1)], .bool true]) (by simp [results, Try.results13, go_sem, fr0, fr1]) rfl ⟨us', g, a5, c5, rfl, hfin.1, hfin.2.1, hfin.2.2.imp id (fun h x hx => Nat.le_trans HB2.out.size (h x hx))⟩
end Go.Proofs.Ytdkokfpbmmjfkaa
namespace Go.Proofs.Ytdkokfpbmmjfkaa
open Go.RowKit
set_option linter.unusedVariables false

set_option maxRecDepth 100000 in
set_option maxHeartbeats 4000000 in
theorem does_other (K0 : Nat → Prop) (b : Nat) (us : List Un) (g : Int) (a : Option Addr) (c : Nat) (w : World) (ak an af aa ab ax ay : Int) (h : DoMem K0 b us g a c w) (n1 : ak ≠ 1) (n2 : ak ≠ 2) (n3 : ak ≠ 3) (n4 : ak ≠ 4) (n5 : ak ≠ 5) :
    Calls Try.prog 13 #[.pointer (some ⟨b, 0, none⟩), .agg #[.slice a us.length c, .int .i64 (g + 1)], .agg #[.int .i64 ak, .int .i64 an, .int .i64 af, .int .i64 aa, .int .i64 ab, .int .i64 ax, .int .i64 ay]] w (DoesPost K0 b a w) := by
  have HFIN0 := Lib.hid (show ∀ W, Below w.heap.size w W → DoesPost K0 b a w (.returned (.tuple #[.agg #[.slice a us.length c, .int .i64 (g + 1)], .bool true])) W from fun W hb => ⟨us, g, a, c, rfl, h.keep hb, touch_of_below hb, .inl rfl⟩)
  have HR := Lib.hid h.rt
  have h64 := h.tab.ok.1
  have hc1 := h.rt.len
  have hc2 := h.rt.cap
  unfold maxLen at hc2
  have k1 : (ak == 1) = false := by simpa using n1
  have k2 : (ak == 2) = false := by simpa using n2
  have k3 : (ak == 3) = false := by simpa using n3
  have k4 : (ak == 4) = false := by simpa using n4
  have k5 : (ak == 5) = false := by simpa using n5
  generalize hn : us.length = n at HFIN0 h64 hc1 ⊢
  have HN := Lib.hid hn
  generalize hpost : DoesPost K0 b a w = Post at HFIN0 ⊢
  have HFIN := HFIN0
  clear h hn hpost n1 n2 n3 n4 n5 HFIN0
  by_cases h0 : n = 0
  · subst h0
    go_enter Try.func13, Try.ntmps13
    go_wp2
    exact bodyPost_ret (v := .tuple #[.agg #[.slice a 0 c, .int .i64 (g + 1)], .bool true]) (by simp [results, Try.results13, go_sem]) rfl (HFIN.out _ (bel_alloc (bel_alloc (bel_alloc (Below.refl _ _) _) _) _))
  · have d0 : decide ((0 : Int) < (n : Int)) = true := by simp; omega
    by_cases hk : ak < 4
    · have dk : decide (ak < 4) = true := by simpa using hk
      obtain ⟨q5, hq5, eq5⟩ := andM an 255 255 rfl (by decide)
      have hmod : q5 % n < n := Nat.mod_lt _ (by omega)
      have hA3 : Below w.heap.size w (((w.alloc (.cells #[.slice a n c, .int .i64 (g + 1)] 28)).alloc (.cells #[.int .i64 ak, .int .i64 an, .int .i64 af, .int .i64 aa, .int .i64 ab, .int .i64 ax, .int .i64 ay] 32)).alloc (.cells #[.slice none 0 0, .int .i64 0] 28)) := bel_alloc (bel_alloc (bel_alloc (Below.refl _ _) _) _) _
      have HD3 := Lib.hid (dbox_new w a n c (g + 1) ak an af aa ab ax ay)
      obtain ⟨gb, off, rfl, hgb, e0, -⟩ := (HR.out.row.below hA3).at (i := q5 % n) (by rw [HN.out]; exact hmod)
      generalize us[q5 % n]'(by rw [HN.out]; exact hmod) = uu at e0
      generalize uu.id = idv at e0
      have HB3 := Lib.hid hA3
      clear hA3 hk
      go_enter Try.func13, Try.ntmps13
      have m1 : (0 : Int) ≤ ((q5 % n : Nat) : Int) := by omega
      have m2 : ((q5 % n : Nat) : Int) < (n : Int) := by omega
      have hrem := rem_run q5 n h64 h0 hq5
      have hmE : (q5 : Int) % (n : Int) = ((q5 % n : Nat) : Int) := (Int.natCast_emod _ _).symm
      have hmT : (q5 : Int).tmod (n : Int) = ((q5 % n : Nat) : Int) := by rw [Int.tmod_eq_emod_of_nonneg (by omega)]; exact hmE
      generalize q5 % n = m5 at hrem e0 m1 m2 hmod hmE hmT
      go_upto_region 3 with (fail)
      have t0 := HD3.out.t0
      have s1 := HD3.out.s 1 (by decide)
      simp only [List.getD_cons_succ, List.getD_cons_zero] at s1
      generalize ((w.alloc (.cells #[.slice (some ⟨gb, off, none⟩) n c, .int .i64 (g + 1)] 28)).alloc (.cells #[.int .i64 ak, .int .i64 an, .int .i64 af, .int .i64 aa, .int .i64 ab, .int .i64 ax, .int .i64 ay] 32)).alloc (.cells #[.slice none 0 0, .int .i64 0] 28) = Wq at HD3 HB3 e0 t0 s1 hgb ⊢
      go_quiet (fail)
      clear hrem m1 m2 e0 t0 s1 eq5 hmE hmT
      have HD3 : Hid (DBox w.heap.size (some ⟨gb, off, none⟩) n c (g + 1) [ak, an, af, aa, ab, ax, ay] (Wq.drewN nq)) := Lib.hid (HD3.out.below ⟨rfl, rfl, rfl, Nat.le_refl _, fun _ _ => rfl⟩)
      have HB3 : Hid (Below w.heap.size w (Wq.drewN nq)) := Lib.hid ⟨HB3.out.os, HB3.out.tape, HB3.out.output, HB3.out.size, HB3.out.block⟩
      generalize Wq.drewN nq = Wp at HD3 HB3 ⊢
      have s0 := HD3.out.s 0 (by decide)
      simp only [List.getD_cons_zero] at s0
      have t0 := HD3.out.t0
      have t1 := HD3.out.t1
      have r0 := HD3.out.r0
      have r1 := HD3.out.r1
      have z0 := HD3.out.z0
      have z1 := HD3.out.z1
      have hs0 := block_lt_of_cell s0
      have ht0 := block_lt_of_cell t0
      have hr0 := block_lt_of_cell r0
      simp only at hs0 ht0 hr0
      have fr0 := set2_same0 (x := .slice (some ⟨gb, off, none⟩) n c) (y := .int .i64 (g + 1)) r0
      have fr1 := set2_same1 (x := .slice (some ⟨gb, off, none⟩) n c) (y := .int .i64 (g + 1)) r1
      have HFR0 := Lib.hid fr0
      have HFR1 := Lib.hid fr1
      have HBF := Lib.hid (set2r_below HB3.out (show w.heap.size ≤ w.heap.size + 2 by omega) (.slice (some ⟨gb, off, none⟩) n c) (.int .i64 (g + 1)))
      unfold set2r at HBF
      clear fr0 fr1 HB3 HD3
      go_wp2
      have fr0 := HFR0.out
      have fr1 := HFR1.out
      exact bodyPost_ret (v := .tuple #[.agg #[.slice (some ⟨gb, off, none⟩) n c, .int .i64 (g + 1)], .bool true]) (by simp [results, Try.results13, go_sem, fr0, fr1]) rfl (HFIN.out _ HBF.out)
    · have dk : decide (ak < 4) = false := by simpa using hk
      clear hk
      go_enter Try.func13, Try.ntmps13
      go_wp2
      exact bodyPost_ret (v := .tuple #[.agg #[.slice a n c, .int .i64 (g + 1)], .bool true]) (by simp [results, Try.results13, go_sem]) rfl (HFIN.out _ (bel_alloc (bel_alloc (bel_alloc (Below.refl _ _) _) _) _))
theorem does_any (K0 : Nat → Prop) (b : Nat) (us : List Un) (g : Int) (a : Option Addr) (c : Nat) (w : World) (ak an af aa ab ax ay : Int) (h : DoMem K0 b us g a c w) :
    Calls Try.prog 13 #[.pointer (some ⟨b, 0, none⟩), .agg #[.slice a us.length c, .int .i64 (g + 1)], .agg #[.int .i64 ak, .int .i64 an, .int .i64 af, .int .i64 aa, .int .i64 ab, .int .i64 ax, .int .i64 ay]] w (DoesPost K0 b a w) := by
  by_cases h1 : ak = 1
  · subst h1; exact does_1 K0 b us g a c w an af aa ab ax ay h
  by_cases h2 : ak = 2
  · subst h2; exact does_2 K0 b us g a c w an af aa ab ax ay h
  by_cases h3 : ak = 3
  · subst h3; exact does_3 K0 b us g a c w an af aa ab ax ay h
  by_cases h4 : ak = 4
  · subst h4; exact does_4 K0 b us g a c w an af aa ab ax ay h
  by_cases h5 : ak = 5
  · subst h5; exact does_5 K0 b us g a c w an af aa ab ax ay h
  exact does_other K0 b us g a c w ak an af aa ab ax ay h h1 h2 h3 h4 h5
end Go.Proofs.Ytdkokfpbmmjfkaa
namespace Go.Proofs.Ytdkokfpbmmjfkaa
open Go.RowKit
set_option linter.unusedVariables false

/-- A unit's bytes behind one of the number `last`. -/
def unB (last : Int) (u : Un) : List UInt8 := numsB [(u.id - last).toNat] ++ intsB u.ints.tail
def unsB : Int → List Un → List UInt8
  | _, [] => []
  | last, u :: l => unB last u ++ unsB u.id l
/-- The number of the last of them; `last` where there is none. -/
def lastId (last : Int) : List Un → Int
  | [] => last
  | u :: l => lastId u.id l
def tabB (us : List Un) (g : Int) : List UInt8 := numsB [(g + 1).toNat] ++ countsB [(us.length : Int)] ++ unsB 0 us
theorem unsB_append (last : Int) (l : List Un) (u : Un) : unsB last (l ++ [u]) = unsB last l ++ unB (lastId last l) u := by
  induction l generalizing last with
  | nil => simp [unsB, lastId]
  | cons x l ih => simp [unsB, lastId, ih]
theorem lastId_append (last : Int) (l : List Un) (u : Un) : lastId last (l ++ [u]) = u.id := by
  induction l generalizing last with
  | nil => rfl
  | cons x l ih => simp [lastId, ih]
theorem unsB_snoc (l : List Un) (k : Nat) (h : k < l.length) : unsB 0 (l.take (k + 1)) = unsB 0 (l.take k) ++ unB (lastId 0 (l.take k)) l[k] := by
  rw [List.take_succ_eq_append_getElem h, unsB_append]
theorem lastId_snoc (l : List Un) (k : Nat) (h : k < l.length) : lastId 0 (l.take (k + 1)) = l[k].id := by
  rw [List.take_succ_eq_append_getElem h, lastId_append]
/-- In a table the last number is below the next one's, and none is below 0. -/
theorem lastId_lt {us : List Un} {g : Int} (h : TabOk us g) (k : Nat) (hk : k < us.length) : 0 ≤ lastId 0 (us.take k) ∧ lastId 0 (us.take k) < us[k].id := by
  cases k with
  | zero =>
    have := (h.2.2.1 _ (List.getElem_mem hk)).1
    simp [lastId]; omega
  | succ k =>
    rw [lastId_snoc us k (by omega)]
    have h1 := (h.2.2.1 _ (List.getElem_mem (show k < us.length by omega))).1
    have h2 := h.2.1 k (k + 1) (by omega) hk (by omega)
    exact ⟨by omega, h2⟩
end Go.Proofs.Ytdkokfpbmmjfkaa
namespace Go.Proofs.Ytdkokfpbmmjfkaa
open Go.RowKit
set_option linter.unusedVariables false

theorem intRow5 {k : IntKind} {w : World} {g : Nat} {x y z u v : Int} (h1 : w.cell? ⟨g, 1, none⟩ = some (.int k x)) (h2 : w.cell? ⟨g, 2, none⟩ = some (.int k y)) (h3 : w.cell? ⟨g, 3, none⟩ = some (.int k z)) (h4 : w.cell? ⟨g, 4, none⟩ = some (.int k u)) (h5 : w.cell? ⟨g, 5, none⟩ = some (.int k v)) : IntRow k w (some ⟨g, 1, none⟩) [x, y, z, u, v] := fun _ => ⟨g, 1, rfl, fun i hi => by
  have e : i = 0 ∨ i = 1 ∨ i = 2 ∨ i = 3 ∨ i = 4 := by simp at hi; omega
  rcases e with rfl | rfl | rfl | rfl | rfl
  · exact h1
  · exact h2
  · exact h3
  · exact h4
  · exact h5⟩
/-- Six cells of a box. -/
def Six (Y : Nat) (u0 u1 u2 u3 u4 u5 : Int) (W : World) : Prop := W.cell? ⟨Y, 0, none⟩ = some (.int .i64 u0) ∧ W.cell? ⟨Y, 1, none⟩ = some (.int .i64 u1) ∧ W.cell? ⟨Y, 2, none⟩ = some (.int .i64 u2) ∧ W.cell? ⟨Y, 3, none⟩ = some (.int .i64 u3) ∧ W.cell? ⟨Y, 4, none⟩ = some (.int .i64 u4) ∧ W.cell? ⟨Y, 5, none⟩ = some (.int .i64 u5)
theorem Six.keep {S : Nat → Prop} {Y : Nat} {u0 u1 u2 u3 u4 u5 : Int} {W w' : World} (ht : Touch (fun k => ¬ S k) W w') (hg : S Y) (h : Six Y u0 u1 u2 u3 u4 u5 W) : Six Y u0 u1 u2 u3 u4 u5 w' :=
  ⟨keep_cell ht hg h.1, keep_cell ht hg h.2.1, keep_cell ht hg h.2.2.1, keep_cell ht hg h.2.2.2.1, keep_cell ht hg h.2.2.2.2.1, keep_cell ht hg h.2.2.2.2.2⟩
theorem Six.alloc {Y : Nat} {u0 u1 u2 u3 u4 u5 : Int} {W : World} (o : Obj) (h : Six Y u0 u1 u2 u3 u4 u5 W) : Six Y u0 u1 u2 u3 u4 u5 (W.alloc o) :=
  ⟨alloc_cell h.1 o, alloc_cell h.2.1 o, alloc_cell h.2.2.1 o, alloc_cell h.2.2.2.1 o, alloc_cell h.2.2.2.2.1 o, alloc_cell h.2.2.2.2.2 o⟩
theorem Six.row {Y : Nat} {u0 u1 u2 u3 u4 u5 : Int} {W : World} (h : Six Y u0 u1 u2 u3 u4 u5 W) : IntRow .i64 W (some ⟨Y, 1, none⟩) [u1, u2, u3, u4, u5] := intRow5 h.2.1 h.2.2.1 h.2.2.2.1 h.2.2.2.2.1 h.2.2.2.2.2
theorem unB_len {last : Int} {u : Un} (h1 : u.id - last < 18446744073709551616) (hm : UnMay u) : (unB last u).length ≤ 60 := by
  have e2 := numsB_len [(u.id - last).toNat] (by intro x hx; simp at hx; omega)
  have e3 := intsB_len2 (ns := u.ints.tail) (by
    obtain ⟨m0, m1, m2, m3, m4⟩ := hm
    simp [mayN] at m0 m1 m2 m3 m4
    intro x hx
    simp [Un.ints] at hx
    unfold B64
    rcases hx with rfl | rfl | rfl | rfl | rfl <;> omega)
  have e4 : u.ints.tail.length = 5 := rfl
  unfold unB
  simp only [List.length_append]
  rw [e4] at e3
  simp at e2
  omega
theorem unsB_len {us : List Un} {g : Int} (h : TabOk us g) (k : Nat) (hk : k ≤ us.length) : (unsB 0 (us.take k)).length ≤ 60 * k := by
  induction k with
  | zero => simp [unsB]
  | succ k ih =>
    have h1 := ih (by omega)
    have h2 := lastId_lt h k (by omega)
    have h3 := h.2.2.1 _ (List.getElem_mem (show k < us.length by omega))
    have h4 := unB_len (last := lastId 0 (us.take k)) (u := us[k]) (by have := h.2.2.2.2; omega) h3.2.2
    rw [unsB_snoc us k (by omega), List.length_append]
    omega
set_option maxRecDepth 100000 in
set_option maxHeartbeats 4000000 in
theorem tabText_any {K : Nat → Prop} (b : Nat) (us : List Un) (g : Int) (w : World) (h : TabQ K b us g w) :
    Calls Try.prog 23 #[.pointer (some ⟨b, 0, none⟩)] w fun r w' => r = .returned (.string (bs (tabB us g))) ∧ Below w.heap.size w w' := by
  have HNX := Lib.hid (fun (W : World) (hb : Below w.heap.size w W) => tabNext_any b us g W (h.below hb))
  obtain ⟨⟨a, c, h1, -⟩, -, hok⟩ := h
  have c0 := h1.c0
  have HOK := Lib.hid hok
  have HAT := Lib.hid h1
  have HST := Lib.hid (OutQ.start (K := fun k => k < w.heap.size) w 93 (fun k hk => hk))
  have hbl := block_lt_of_cell c0
  simp only at hbl
  clear h1 hok
  have y0 : (w.alloc (.cells #[.slice none 0 0] 93)).cell? ⟨b, 0, none⟩ = some (.slice a us.length c) := alloc_cell c0 _
  have hg0 := HOK.out.2.2.2.1
  have hg1 := HOK.out.2.2.2.2
  have hwu : IntKind.u64.wrap (g + 1) = g + 1 := by rw [IntKind.wrap_u64]; omega
  have HU := Lib.hid (show (((g + 1).toNat : Nat) : Int) = g + 1 by omega)
  have h64 := HOK.out.1
  generalize hul : us.length = n at c0 y0 h64
  have HN := Lib.hid hul
  clear hul
  have HN1 := Lib.hid (show ∀ x ∈ [(g + 1).toNat], x < 18446744073709551616 by intro x hx; simp at hx; omega)
  have HL1 := Lib.hid (show ([] : List UInt8).length + 10 * [(g + 1).toNat].length ≤ 1000000000 by simp)
  have HN2 := Lib.hid (show ∀ x ∈ [(n : Int)], x ≤ 9223372036854775807 by intro x hx; simp at hx; omega)
  have HL2 := Lib.hid (show ([] ++ numsB [(g + 1).toNat]).length + 10 * [(n : Int)].length ≤ 1000000000 by
    have h2 := numsB_len [(g + 1).toNat] HN1.out
    simp at h2; simp; omega)
  have HB0 := Lib.hid (bel_alloc (Below.refl _ w) (.cells #[.slice none 0 0] 93))
  go_enter Try.func23, Try.ntmps23
  go_wp2_with fail
  have hX : w.heap.size < (w.alloc (.cells #[.slice none 0 0] 93)).heap.size := by simp
  generalize w.alloc (.cells #[.slice none 0 0] 93) = W0 at HST HB0 y0 hX ⊢
  have HSZ := Lib.hid HB0.out.size
  go_region_held3 (fun w' => w'.cell? ⟨b, 0, none⟩ = some (.slice a n c))
    (first | (refine keep_cell HT2.out (.inl (.inl hbl)) ?_; assumption) | (refine keep_cell HT1.out (.inl hbl) ?_; assumption) | (refine alloc_cell ?_ _; assumption) | (refine drew_cell (alloc_cell ?_ _); assumption) | exact y0)
    (first
      | (go_at_call 53; refine (HNX.out _ (by repeat' (first | exact HB0.out | refine Below.drew ?_ | refine bel_alloc ?_ _))).mono ?_; rintro r wK ⟨rfl, rfl⟩)
      | (go_at_call 68; refine (outNum_q HST.out [(g + 1).toNat] HL1.out HN1.out (by repeat' (first | exact Below.refl _ _ | refine Below.drew ?_ | refine bel_alloc ?_ _)) _ 0 1 1 rfl (intRow1 (by show _ = some (Value.int .u64 (((g + 1).toNat : Nat) : Int)); rw [HU.out]; repeat' (first | exact new_cell (by first | rfl | (simp; done)) rfl | exact .inr ⟨by first | omega | (simp; done) | (simp; omega), by first | omega | (simp; done) | (simp; omega)⟩ | exact .inl (.inr ⟨by first | omega | (simp; done) | (simp; omega), by first | omega | (simp; done) | (simp; omega)⟩) | with_reducible refine drew_cell ?_ | with_reducible refine alloc_cell ?_ _ | with_reducible refine keep_cell HT1.out ?_ ?_))) (.inr (by first | omega | (simp; done) | (simp; omega)))).mono ?_; rintro r wA ⟨rfl, ho, ht⟩; have HO1 := Lib.hid ho; have HT1 := Lib.hid ht; clear ho ht)
      | (go_at_call 69; refine (outCount_q HO1.out [(n : Int)] HL2.out HN2.out (by repeat' (first | exact Below.refl _ _ | refine Below.drew ?_ | refine bel_alloc ?_ _)) _ 0 1 1 rfl (intRow1 (by repeat' (first | exact new_cell (by first | rfl | (simp; done)) rfl | exact .inr ⟨by first | omega | (simp; done) | (simp; omega), by first | omega | (simp; done) | (simp; omega)⟩ | exact .inl (.inr ⟨by first | omega | (simp; done) | (simp; omega), by first | omega | (simp; done) | (simp; omega)⟩) | with_reducible refine drew_cell ?_ | with_reducible refine alloc_cell ?_ _ | with_reducible refine keep_cell HT1.out ?_ ?_))) (by first | exact .inr (by first | omega | (simp; done) | (simp; omega)) | exact .inl (.inr ⟨by first | omega | (simp; done) | (simp; omega), by first | omega | (simp; done) | (simp; omega)⟩))).mono ?_; rintro r wB ⟨rfl, ho, ht⟩; have HO2 := Lib.hid ho; have HT2 := Lib.hid ht; clear ho ht))
  all_goals
    have HW := Lib.hid (show Touch (fun k => ¬ k < w.heap.size) W0 wB from (touchKK (K := fun k => k < w.heap.size) (wp := W0) (by repeat' (first | exact Below.refl _ _ | refine Below.drew ?_ | refine bel_alloc ?_ _)) HT1.out).trans (touchKK (K := fun k => k < w.heap.size) (wp := wA) (by repeat' (first | exact Below.refl _ _ | refine Below.drew ?_ | refine bel_alloc ?_ _)) (HT2.out.mono fun k _ h1 h2 => h1 (h2.elim (fun h => .inl (.inl h)) .inr))))
    have HBB := Lib.hid (HB0.out.trans (HW.out.below HSZ.out (fun k hk h => h hk)))
    have HQ := Lib.hid (HO2.out.sub (K := fun k => k < w.heap.size) (fun k hk => .inl (.inl hk)))
    have HROW := Lib.hid (show UnRow w a us from RecRow.of_own (unsI_wide us) (by decide) (by rw [unsI_len]; exact HAT.out.row))
    clear HO1 HO2 HT1 HT2 HW HNX HAT HSZ HB0 HST HL1 HL2 HN1 HN2 y0
    generalize W0.heap.size = s1
    generalize wA.heap.size = s2
    rw [List.nil_append] at HQ
    go_wp2
    go_loopw [4, 24] (fun av iv wr => ∃ k : Nat, k ≤ n ∧ iv = .int .i64 k ∧ av = .int .i64 (lastId 0 (us.take k)) ∧ Hid (OutQ (fun k => k < w.heap.size) w.heap.size (numsB [(g + 1).toNat] ++ countsB [(n : Int)] ++ unsB 0 (us.take k)) wr) ∧ Hid (Below w.heap.size w wr)) (fun _ iv _ => n - (intOf iv).toNat)
    case atStart => exact ⟨0, by omega, rfl, by simp [lastId], Lib.hid (by simpa [unsB] using HQ.out), HBB⟩
    case round =>
      obtain ⟨k, hk, rfl, rfl, HO, HB⟩ := hrel
      by_cases hlt : k < n
      · have hlu : k < us.length := by rw [HN.out]; exact hlt
        have HS := Lib.hid (unsB_snoc us k hlu)
        have HLI := Lib.hid (lastId_snoc us k hlu)
        have HLT := Lib.hid (lastId_lt HOK.out k hlu)
        have HUK := Lib.hid (HOK.out.2.2.1 _ (List.getElem_mem hlu))
        have HLN : Hid ((numsB [(g + 1).toNat] ++ countsB [(n : Int)] ++ unsB 0 (us.take k)).length ≤ 5000) := Lib.hid (by
          have h1 := numsB_len [(g + 1).toNat] (by intro x hx; simp at hx; omega)
          have h2 := countsB_len (ns := [(n : Int)]) (by intro x hx; simp at hx; omega)
          have h3 := unsB_len HOK.out k (by omega)
          simp only [List.length_append]
          simp at h1 h2
          omega)
        obtain ⟨gb, off, rfl, hgb, c0', c1, c2, c3, c4, c5⟩ := (HROW.out.below HB.out).at hlu
        generalize us[k] = u at c0' c1 c2 c3 c4 c5 HS HLI HLT HUK
        generalize hla : lastId 0 (us.take k) = la at HS HLT ⊢
        clear hla
        obtain ⟨u0, u1, u2, u3, u4, u5⟩ := u
        simp only at c0' c1 c2 c3 c4 c5
        have b0 := HLT.out
        have b1 := HUK.out.2.1
        simp only at b0 b1
        have hwi : IntKind.i64.wrap (u0 - la) = u0 - la := by rw [IntKind.wrap_i64]; omega
        have hwv : IntKind.u64.wrap (u0 - la) = u0 - la := by rw [IntKind.wrap_u64]; omega
        have HU2 := Lib.hid (show (((u0 - la).toNat : Nat) : Int) = u0 - la by omega)
        have hk0 : (0 : Int) ≤ (k : Int) := by omega
        have hk1 : (k : Int) < (n : Int) := by omega
        have HN3 := Lib.hid (show ∀ x ∈ [(u0 - la).toNat], x < 18446744073709551616 by intro x hx; simp at hx; omega)
        have HN4 := Lib.hid (show ∀ x ∈ [u1, u2, u3, u4, u5], -9223372036854775808 ≤ x ∧ x ≤ 9223372036854775807 by
          obtain ⟨m0, m1, m2, m3, m4⟩ := HUK.out.2.2
          simp [mayN] at m0 m1 m2 m3 m4
          intro x hx
          simp at hx
          rcases hx with rfl | rfl | rfl | rfl | rfl <;> omega)
        generalize hLE : numsB [(g + 1).toNat] ++ countsB [(n : Int)] ++ unsB 0 (us.take k) = L at HO HLN
        have HLE := Lib.hid hLE
        clear hLE b0 b1
        have HL3 := Lib.hid (show L.length + 10 * [(u0 - la).toNat].length ≤ 1000000000 by have := HLN.out; simp; omega)
        have HL4 := Lib.hid (show (L ++ numsB [(u0 - la).toNat]).length + 10 * [u1, u2, u3, u4, u5].length ≤ 1000000000 by
          have := HLN.out; have h2 := numsB_len [(u0 - la).toNat] HN3.out; simp at h2; simp; omega)
        go_upto_region 7 with (fail)
        have HO0 := Lib.hid (HO.out.add (.cells #[.int .i64 u0, .int .i64 u1, .int .i64 u2, .int .i64 u3, .int .i64 u4, .int .i64 u5] 35))
        have HBW := Lib.hid (bel_alloc (Below.refl _ wr) (.cells #[.int .i64 u0, .int .i64 u1, .int .i64 u2, .int .i64 u3, .int .i64 u4, .int .i64 u5] 35))
        have HSX : Six wr.heap.size u0 u1 u2 u3 u4 u5 (wr.alloc (.cells #[.int .i64 u0, .int .i64 u1, .int .i64 u2, .int .i64 u3, .int .i64 u4, .int .i64 u5] 35)) := ⟨by simp, by simp, by simp, by simp, by simp, by simp⟩
        clear HO c0' c1 c2 c3 c4 c5
        generalize wr.alloc (.cells #[.int .i64 u0, .int .i64 u1, .int .i64 u2, .int .i64 u3, .int .i64 u4, .int .i64 u5] 35) = W1 at HO0 HBW HSX ⊢
        generalize hY : wr.heap.size = Y at HO0 HSX ⊢
        have HY := Lib.hid hY
        clear hY
        have x0 := HSX.1
        go_region_held3 (fun w' => w'.cell? ⟨Y, 0, none⟩ = some (.int .i64 u0) ∧ w'.cell? ⟨Y, 1, none⟩ = some (.int .i64 u1) ∧ w'.cell? ⟨Y, 2, none⟩ = some (.int .i64 u2) ∧ w'.cell? ⟨Y, 3, none⟩ = some (.int .i64 u3) ∧ w'.cell? ⟨Y, 4, none⟩ = some (.int .i64 u4) ∧ w'.cell? ⟨Y, 5, none⟩ = some (.int .i64 u5))
          (first | (refine Six.keep HT2.out (.inl (.inl (.inr rfl))) ?_; assumption) | (refine Six.keep HT1.out (.inl (.inr rfl)) ?_; assumption) | (refine Six.alloc _ ?_; assumption) | (refine Six.alloc (W := World.drew _) _ ?_; assumption) | exact HSX)
          (first
            | (go_at_call 68; refine (outNum_q HO0.out [(u0 - la).toNat] HL3.out HN3.out (by repeat' (first | exact Below.refl _ _ | refine Below.drew ?_ | refine bel_alloc ?_ _)) _ 0 1 1 rfl (intRow1 (by show _ = some (Value.int .u64 (((u0 - la).toNat : Nat) : Int)); rw [HU2.out]; repeat' (first | exact new_cell (by first | rfl | (simp; done)) rfl | exact .inr ⟨by first | omega | (simp; done) | (simp; omega), by first | omega | (simp; done) | (simp; omega)⟩ | exact .inl (.inr ⟨by first | omega | (simp; done) | (simp; omega), by first | omega | (simp; done) | (simp; omega)⟩) | with_reducible refine drew_cell ?_ | with_reducible refine alloc_cell ?_ _ | with_reducible refine keep_cell HT1.out ?_ ?_))) (.inr (by first | omega | (simp; done) | (simp; omega)))).mono ?_; rintro r wA ⟨rfl, ho, ht⟩; have HO1 := Lib.hid ho; have HT1 := Lib.hid ht; clear ho ht)
            | (go_at_call 70; refine (outInt_q HO1.out [u1, u2, u3, u4, u5] HL4.out HN4.out (by repeat' (first | exact Below.refl _ _ | refine Below.drew ?_ | refine bel_alloc ?_ _)) Y 1 5 5 rfl (Six.row (u0 := u0) (by assumption)) (.inl (.inl (.inr rfl)))).mono ?_; rintro r wB ⟨rfl, ho, ht⟩; have HO2 := Lib.hid ho; have HT2 := Lib.hid ht; clear ho ht))
        all_goals
          have x0' : wB.cell? ⟨Y, 0, none⟩ = some (.int .i64 u0) := (show Six Y u0 u1 u2 u3 u4 u5 wB by assumption).1
          have hYl := block_lt_of_cell x0'
          simp only at hYl
          have HW := Lib.hid (show Touch (fun k => ¬ k < w.heap.size) W1 wB from (touchKK (K := fun k => k < w.heap.size) (wp := W1) (by repeat' (first | exact Below.refl _ _ | refine Below.drew ?_ | refine bel_alloc ?_ _)) (HT1.out.mono fun k _ h1 h2 => h1 (h2.elim (fun h => .inl (.inl h)) .inr))).trans
            (touchKK (K := fun k => k < w.heap.size) (wp := wA) (by repeat' (first | exact Below.refl _ _ | refine Below.drew ?_ | refine bel_alloc ?_ _)) (HT2.out.mono fun k _ h1 h2 => h1 (h2.elim (fun h => .inl (.inl (.inl h))) .inr))))
          have HQ2 := Lib.hid (HO2.out.sub (K := fun k => k < w.heap.size) (fun k hk => .inl (.inl (.inl hk))))
          have HB2 := Lib.hid (HB.out.trans ((HBW.out.mono HB.out.size).trans (HW.out.below (by have := HB.out.size; have := HBW.out.size; omega) (fun k hk h => h hk))))
          clear HO1 HO2 HT1 HT2 HW HO0 HBW
          go_wp2
          go_roundw
          case rel => exact ⟨k + 1, by omega, by go_num, by rw [HLI.out], Lib.hid (by rw [HS.out, ← List.append_assoc, HLE.out]; unfold unB; rw [← List.append_assoc]; exact HQ2.out), HB2⟩
          case measure => simp [intOf]; omega
      · obtain rfl : k = n := by omega
        have HE := Lib.hid (show numsB [(g + 1).toNat] ++ countsB [(k : Int)] ++ unsB 0 (us.take k) = tabB us g by unfold tabB; rw [HN.out, ← HN.out, List.take_length])
        rw [HE.out] at HO
        have HTX := Lib.hid (outText_q HO.out)
        go_wp2_with fail
        refine HTX.out.mono ?_
        rintro r w2 ⟨rfl, rfl⟩
        go_wp2
        go_ret
        exact ⟨rfl, HB.out⟩
end Go.Proofs.Ytdkokfpbmmjfkaa
namespace Go.Proofs.Ytdkokfpbmmjfkaa
open Go.RowKit
set_option linter.unusedVariables false

theorem index5_any (a b c d e : Int) (j : Nat) (hj : j < 5) : ∀ w : World, (Instr.index 33 (.agg #[.int .i64 a, .int .i64 b, .int .i64 c, .int .i64 d, .int .i64 e]) (.int .i64 (j : Int))).run Try.prog w = .ok (.int .i64 ([a, b, c, d, e].getD j 0)) w := by
  have h : j = 0 ∨ j = 1 ∨ j = 2 ∨ j = 3 ∨ j = 4 := by omega
  rcases h with rfl | rfl | rfl | rfl | rfl
  · exact index5_0 a b c d e
  · exact index5_1 a b c d e
  · exact index5_2 a b c d e
  · exact index5_3 a b c d e
  · exact index5_4 a b c d e
theorem intsB_snoc5 (l : List Int) (j : Nat) (h : j < l.length) : intsB (l.take (j + 1)) = intsB (l.take j) ++ numB (zig (l.getD j 0)) := by
  have e : l.getD j 0 = l[j] := by simp [h]
  rw [intsB_snoc l j h, e]
theorem keep2c {W w' : World} (hb : Below W.heap.size W w') {X : Nat} {x y : Value} (h : W.cell? ⟨X, 0, none⟩ = some x ∧ W.cell? ⟨X, 1, none⟩ = some y) : w'.cell? ⟨X, 0, none⟩ = some x ∧ w'.cell? ⟨X, 1, none⟩ = some y := by
  have hX := block_lt_of_cell h.1
  exact ⟨(hb.cell (p := ⟨X, 0, none⟩) hX).trans h.1, (hb.cell (p := ⟨X, 1, none⟩) hX).trans h.2⟩
set_option maxRecDepth 100000 in
set_option maxHeartbeats 4000000 in
theorem refTabText_any (a : Option Addr) (c : Nat) (us : List Un) (g : Int) (w : World) (hok : TabOk us g) (h : RT w a c us) :
    Calls Try.prog 60 #[.agg #[.slice a us.length c, .int .i64 (g + 1)]] w fun r w' => r = .returned (.string (bs (tabB us g))) ∧ Below w.heap.size w w' := by
  have HOK := Lib.hid hok
  have HROW := Lib.hid h.row
  have hg0 := hok.2.2.2.1
  have hg1 := hok.2.2.2.2
  have h64 := hok.1
  generalize hul : us.length = n at h64 ⊢
  have HN := Lib.hid hul
  clear hul h hok
  have hwu : IntKind.u64.wrap (g + 1) = g + 1 := by rw [IntKind.wrap_u64]; omega
  have HU := Lib.hid (show (((g + 1).toNat : Nat) : Int) = g + 1 by omega)
  have hc1 := fun W => refNum_any (g + 1).toNat W (by omega)
  rw [HU.out] at hc1
  have hc2 := fun W => refCount_any (n : Int) W (by omega) (by omega)
  have s1 : (bs (numB (g + 1).toNat)).size ≤ 10 := by rw [bs_size]; exact numB_ten (by omega)
  have s2 : (bs (numB ((n : Int)).toNat)).size ≤ 10 := by rw [bs_size]; exact numB_ten (by omega)
  have HJ := Lib.hid (show bs (numB (g + 1).toNat) ++ bs (numB ((n : Int)).toNat) = bs (numsB [(g + 1).toNat] ++ countsB [(n : Int)]) by simp [numsB, countsB, bs_append])
  generalize bs (numB (g + 1).toNat) = A1 at hc1 HJ s1
  generalize bs (numB ((n : Int)).toNat) = A2 at hc2 HJ s2
  have v1 : ∀ W, (Op.stringOp .add A1 A2).run Try.prog W = .ok (.string (A1 ++ A2)) W := fun W => run_string_add_sum W _ _ (by omega)
  have HC1 := Lib.hid hc1
  have HC2 := Lib.hid hc2
  clear hc1 hc2 s1 s2
  have HBc := Lib.hid (bel_alloc (Below.refl _ w) (.cells #[.slice a n c, .int .i64 (g + 1)] 28)).drew
  have x0 : (w.alloc (.cells #[.slice a n c, .int .i64 (g + 1)] 28)).cell? ⟨w.heap.size, 0, none⟩ = some (.slice a n c) := by simp
  have x1 : (w.alloc (.cells #[.slice a n c, .int .i64 (g + 1)] 28)).cell? ⟨w.heap.size, 1, none⟩ = some (.int .i64 (g + 1)) := by simp
  go_enter Try.func60, Try.ntmps60
  go_wp2_with fail
  generalize w.alloc (.cells #[.slice a n c, .int .i64 (g + 1)] 28) = W0 at HBc x0 x1 ⊢
  generalize hX : w.heap.size = X at x0 x1 ⊢
  have HX := Lib.hid hX
  clear hX
  go_region_held3 (fun w' => w'.cell? ⟨X, 0, none⟩ = some (.slice a n c) ∧ w'.cell? ⟨X, 1, none⟩ = some (.int .i64 (g + 1)))
    (first | (refine keep2c hbK ?_; assumption) | exact ⟨x0, x1⟩)
    (first
      | (go_at_call 79; (with_reducible refine (HC1.out _).mono ?_); rintro e wK ⟨rfl, hbK⟩; have HBc := Lib.hid (HBc.out.trans (hbK.mono HBc.out.size)))
      | (go_at_call 78; (with_reducible refine (HC2.out _).mono ?_); rintro e wK ⟨rfl, hbK⟩; have HBc := Lib.hid (HBc.out.trans (hbK.mono HBc.out.size))))
  all_goals
    have HB1 := Lib.hid HBc.out
    have x0' : wK.cell? ⟨X, 0, none⟩ = some (.slice a n c) := (show wK.cell? ⟨X, 0, none⟩ = some (.slice a n c) ∧ wK.cell? ⟨X, 1, none⟩ = some (.int .i64 (g + 1)) by assumption).1
    have hXl := block_lt_of_cell x0'
    simp only at hXl
    rw [HJ.out]
    clear v1 HC1 HC2 HBc x0 x1 HJ
    go_wp2
    go_loopw [3, 4, 21] (fun sv av iv wr => ∃ k : Nat, k ≤ n ∧ iv = .int .i64 k ∧ av = .int .i64 (lastId 0 (us.take k)) ∧ sv = .string (bs (numsB [(g + 1).toNat] ++ countsB [(n : Int)] ++ unsB 0 (us.take k))) ∧ Hid (Below w.heap.size w wr)) (fun _ _ iv _ => n - (intOf iv).toNat)
    case atStart => exact ⟨0, by omega, rfl, by simp [lastId], by simp [unsB], HB1⟩
    case round =>
      obtain ⟨k, hk, rfl, rfl, rfl, HB⟩ := hrel
      by_cases hlt : k < n
      · have hlu : k < us.length := by rw [HN.out]; exact hlt
        have HS := Lib.hid (unsB_snoc us k hlu)
        have HLI := Lib.hid (lastId_snoc us k hlu)
        have HLT := Lib.hid (lastId_lt HOK.out k hlu)
        have HUK := Lib.hid (HOK.out.2.2.1 _ (List.getElem_mem hlu))
        have HLN : Hid ((numsB [(g + 1).toNat] ++ countsB [(n : Int)] ++ unsB 0 (us.take k)).length ≤ 5000) := Lib.hid (by
          have h1 := numsB_len [(g + 1).toNat] (by intro x hx; simp at hx; omega)
          have h2 := countsB_len (ns := [(n : Int)]) (by intro x hx; simp at hx; omega)
          have h3 := unsB_len HOK.out k (by omega)
          simp only [List.length_append]
          simp at h1 h2
          omega)
        obtain ⟨gb, off, rfl, hgb, c0', c1, c2, c3, c4, c5⟩ := (HROW.out.below HB.out).at hlu
        generalize us[k] = u at c0' c1 c2 c3 c4 c5 HS HLI HLT HUK
        generalize hla : lastId 0 (us.take k) = la at HS HLT ⊢
        clear hla
        obtain ⟨u0, u1, u2, u3, u4, u5⟩ := u
        simp only at c0' c1 c2 c3 c4 c5
        have b0 := HLT.out
        have b1 := HUK.out.2.1
        simp only at b0 b1
        have hwi : IntKind.i64.wrap (u0 - la) = u0 - la := by rw [IntKind.wrap_i64]; omega
        have hwv : IntKind.u64.wrap (u0 - la) = u0 - la := by rw [IntKind.wrap_u64]; omega
        have HU2 := Lib.hid (show (((u0 - la).toNat : Nat) : Int) = u0 - la by omega)
        have hk0 : (0 : Int) ≤ (k : Int) := by omega
        have hk1 : (k : Int) < (n : Int) := by omega
        have HN4 := Lib.hid (show ∀ x ∈ [u1, u2, u3, u4, u5], B64 x by
          obtain ⟨m0, m1, m2, m3, m4⟩ := HUK.out.2.2
          simp [mayN] at m0 m1 m2 m3 m4
          intro x hx
          simp at hx
          unfold B64
          rcases hx with rfl | rfl | rfl | rfl | rfl <;> omega)
        have hc3 := fun W => refNum_any (u0 - la).toNat W (by omega)
        rw [HU2.out] at hc3
        have HC3 := Lib.hid hc3
        generalize hLE : numsB [(g + 1).toNat] ++ countsB [(n : Int)] ++ unsB 0 (us.take k) = L at HLN
        have HLE := Lib.hid hLE
        have s3 : (bs (numB (u0 - la).toNat)).size ≤ 10 := by rw [bs_size]; exact numB_ten (by omega)
        have s4 : (bs L).size ≤ 5000 := by rw [bs_size]; exact HLN.out
        have HJ2 := Lib.hid (show bs L ++ bs (numB (u0 - la).toNat) = bs (L ++ numsB [(u0 - la).toNat]) by simp [numsB, bs_append])
        have HML := Lib.hid (show (L ++ numsB [(u0 - la).toNat]).length ≤ 5010 by
          have h2 := numsB_len [(u0 - la).toNat] (by intro x hx; simp at hx; omega)
          have := HLN.out
          simp at h2; simp; omega)
        generalize hM : L ++ numsB [(u0 - la).toNat] = M at HJ2 HML
        have HM := Lib.hid hM
        generalize bs (numB (u0 - la).toNat) = A3 at HC3 HJ2 s3
        generalize bs L = S0 at HJ2 s4 ⊢
        have v2 : ∀ W, (Op.stringOp .add S0 A3).run Try.prog W = .ok (.string (S0 ++ A3)) W := fun W => run_string_add_sum W _ _ (by omega)
        clear hLE hM hc3 b0 b1 s3 s4
        have HBA := Lib.hid (bel_alloc HB.out (.cells #[.int .i64 u0, .int .i64 u1, .int .i64 u2, .int .i64 u3, .int .i64 u4, .int .i64 u5] 113))
        go_wp2_with fail
        refine (HC3.out _).mono ?_
        rintro r w2 ⟨rfl, hb2⟩
        have q0 : w2.cell? ⟨wr.heap.size, 0, none⟩ = some (.int .i64 u0) := (hb2.cell (p := ⟨wr.heap.size, 0, none⟩) (by simp)).trans (by simp)
        have q1 : w2.cell? ⟨wr.heap.size, 1, none⟩ = some (.int .i64 u1) := (hb2.cell (p := ⟨wr.heap.size, 1, none⟩) (by simp)).trans (by simp)
        have q2 : w2.cell? ⟨wr.heap.size, 2, none⟩ = some (.int .i64 u2) := (hb2.cell (p := ⟨wr.heap.size, 2, none⟩) (by simp)).trans (by simp)
        have q3 : w2.cell? ⟨wr.heap.size, 3, none⟩ = some (.int .i64 u3) := (hb2.cell (p := ⟨wr.heap.size, 3, none⟩) (by simp)).trans (by simp)
        have q4 : w2.cell? ⟨wr.heap.size, 4, none⟩ = some (.int .i64 u4) := (hb2.cell (p := ⟨wr.heap.size, 4, none⟩) (by simp)).trans (by simp)
        have q5 : w2.cell? ⟨wr.heap.size, 5, none⟩ = some (.int .i64 u5) := (hb2.cell (p := ⟨wr.heap.size, 5, none⟩) (by simp)).trans (by simp)
        have hYl := block_lt_of_cell q0
        simp only at hYl
        have HB2 := Lib.hid (HBA.out.trans (hb2.mono HBA.out.size))
        generalize wr.heap.size = Y at q0 q1 q2 q3 q4 q5 hYl ⊢
        clear hb2 HC3 HBA c0' c1 c2 c3 c4 c5
        have HI5 := Lib.hid (index5_any u1 u2 u3 u4 u5)
        have HSN := Lib.hid (fun j (hj : j < 5) => intsB_snoc5 [u1, u2, u3, u4, u5] j hj)
        have HFB := Lib.hid (fun j (hj : j < 5) => HN4.out _ (show [u1, u2, u3, u4, u5].getD j 0 ∈ [u1, u2, u3, u4, u5] by
          have e : j = 0 ∨ j = 1 ∨ j = 2 ∨ j = 3 ∨ j = 4 := by omega
          rcases e with rfl | rfl | rfl | rfl | rfl <;> simp))
        have HFL := Lib.hid (fun j (hj : j ≤ 5) => show (intsB ([u1, u2, u3, u4, u5].take j)).length ≤ 50 by
          have h1 := intsB_len2 (ns := [u1, u2, u3, u4, u5].take j) (fun x hx => HN4.out x (List.mem_of_mem_take hx))
          have h2 := List.length_take_le j [u1, u2, u3, u4, u5]
          omega)
        have HT5 := Lib.hid (show [u1, u2, u3, u4, u5].take 5 = [u1, u2, u3, u4, u5] from rfl)
        generalize hF : [u1, u2, u3, u4, u5] = F at HI5 HSN HFB HFL HT5
        have HF := Lib.hid hF
        clear hF
        go_wp2
        rw [HJ2.out]
        clear v2
        go_loopw [3, 35] (fun sv jv wr => ∃ j : Nat, j ≤ 5 ∧ jv = .int .i64 j ∧ sv = .string (bs (M ++ intsB (F.take j))) ∧ Hid (Below w.heap.size w wr) ∧ wr.cell? ⟨Y, 0, none⟩ = some (.int .i64 u0)) (fun _ jv _ => 5 - (intOf jv).toNat)
        case atStart => exact ⟨0, by omega, rfl, by simp [intsB, numsB], HB2, q0⟩
        case round =>
          obtain ⟨j, hj, rfl, rfl, HB3, q0'⟩ := hrel
          have hYl3 := block_lt_of_cell q0'
          simp only at hYl3
          by_cases hlt5 : j < 5
          · have hix := HI5.out j hlt5
            have HSJ := Lib.hid (HSN.out j hlt5)
            have fb := HFB.out j hlt5
            have fl := HFL.out j hj
            have ml := HML.out
            generalize F.getD j 0 = f at hix HSJ fb
            have hc4 := fun W => refInt_any f W fb.1 fb.2
            have s5 : (bs (numB (zig f))).size ≤ 10 := by rw [bs_size]; exact numB_ten (zig_lt fb.1 fb.2)
            have s6 : (bs (M ++ intsB (F.take j))).size ≤ 5060 := by rw [bs_size, List.length_append]; omega
            have HJ3 := Lib.hid (show bs (M ++ intsB (F.take j)) ++ bs (numB (zig f)) = bs (M ++ intsB (F.take (j + 1))) by rw [HSJ.out, ← List.append_assoc, bs_append])
            generalize bs (numB (zig f)) = A5 at hc4 s5 HJ3
            generalize bs (M ++ intsB (F.take j)) = S5 at s6 HJ3 ⊢
            have v3 : ∀ W, (Op.stringOp .add S5 A5).run Try.prog W = .ok (.string (S5 ++ A5)) W := fun W => run_string_add_sum W _ _ (by omega)
            have HC4 := Lib.hid hc4
            clear hc4 s5 s6 fb fl ml
            have hj0 : (0 : Int) ≤ (j : Int) := by omega
            have hj1 : (j : Int) < (5 : Int) := by omega
            go_wp2_with fail
            refine (HC4.out _).mono ?_
            rintro r w6 ⟨rfl, hb6⟩
            have q6 : w6.cell? ⟨Y, 0, none⟩ = some (.int .i64 u0) := (hb6.cell (p := ⟨Y, 0, none⟩) hYl3).trans q0'
            have HB6 := Lib.hid (HB3.out.trans (hb6.mono HB3.out.size))
            clear hb6 HC4
            go_wp2
            go_roundw
            case rel => exact ⟨j + 1, by omega, by go_num, by rw [HJ3.out], HB6, q6⟩
            case measure => simp [intOf]; omega
          · obtain rfl : j = 5 := by omega
            have HEN := Lib.hid (show M ++ intsB (F.take 5) = numsB [(g + 1).toNat] ++ countsB [(n : Int)] ++ unsB 0 (us.take (k + 1)) by
              rw [HT5.out, HS.out, ← List.append_assoc, HLE.out, ← HM.out, ← HF.out, List.append_assoc]; rfl)
            rw [HEN.out]
            go_wp2
            go_roundw
            case rel => exact ⟨k + 1, by omega, by go_num, by rw [HLI.out], rfl, HB3⟩
            case measure => simp [intOf]; omega
      · obtain rfl : k = n := by omega
        have HE := Lib.hid (show numsB [(g + 1).toNat] ++ countsB [(k : Int)] ++ unsB 0 (us.take k) = tabB us g by unfold tabB; rw [HN.out, ← HN.out, List.take_length])
        rw [HE.out]
        go_wp2
        go_ret
        exact ⟨rfl, HB.out⟩
end Go.Proofs.Ytdkokfpbmmjfkaa
namespace Go.Proofs.Ytdkokfpbmmjfkaa
open Go.RowKit
set_option linter.unusedVariables false

theorem find_at {us : List Un} (h : Rising us) (k : Nat) (hk : k < us.length) : FindIs us us[k].id k := by
  refine ⟨by omega, fun j hj => ⟨fun hlt => ?_, fun hlt => h j k hj hk hlt⟩⟩
  rcases Nat.lt_trichotomy j k with e | e | e
  · exact e
  · subst e; omega
  · have := h k j hk hj e; omega
set_option maxRecDepth 100000 in
set_option maxHeartbeats 4000000 in
theorem is_any (K0 : Nat → Prop) (b : Nat) (us : List Un) (g : Int) (a : Option Addr) (c : Nat) (w : World) (h : DoMem K0 b us g a c w) :
    Calls Try.prog 15 #[.pointer (some ⟨b, 0, none⟩), .agg #[.slice a us.length c, .int .i64 (g + 1)]] w fun r w' => r = .returned (.int .i64 0) ∧ Below w.heap.size w w' := by
  have hok := h.tab.ok
  have HOK := Lib.hid hok
  have h64 := hok.1
  have hg0 := hok.2.2.2.1
  have hg1 := hok.2.2.2.2
  have HLE := Lib.hid (fun W (hh : DoMem K0 b us g a c W) => tabLen_any b us g W hh.tab)
  have HNX := Lib.hid (fun W (hh : DoMem K0 b us g a c W) => tabNext_any b us g W hh.tab)
  have HTX := Lib.hid (fun W (hh : DoMem K0 b us g a c W) => tabText_any b us g W hh.tab)
  have HRX := Lib.hid (fun W (hh : DoMem K0 b us g a c W) => refTabText_any a c us g W hok hh.rt)
  have HNT := Lib.hid (fun k W (hh : DoMem K0 b us g a c W) => tabNth_any b us g k W hh.tab)
  have HAL := Lib.hid (fun W (hh : DoMem K0 b us g a c W) => tabAll_any b us g W hh.tab)
  have HM0 := Lib.hid h
  have n1 : nthN us (-1) = 0 := by simp [nthN]
  have n2 : nthN us (us.length : Int) = 0 := by simp [nthN]
  have HN1 := Lib.hid (HNT.out (-1))
  have HN2 := Lib.hid (HNT.out (us.length : Int))
  rw [n1] at HN1
  rw [n2] at HN2
  clear h hok n1 n2
  generalize bs (tabB us g) = T at HTX HRX
  generalize hul : us.length = n at HLE HRX HAL HN2 h64 ⊢
  have HN := Lib.hid hul
  clear hul
  have HM1 := Lib.hid (HM0.out.keep (bel_alloc (Below.refl _ w) (.cells #[.slice a n c, .int .i64 (g + 1)] 28)))
  have HB1 := Lib.hid (bel_alloc (Below.refl _ w) (.cells #[.slice a n c, .int .i64 (g + 1)] 28))
  have x0 : (w.alloc (.cells #[.slice a n c, .int .i64 (g + 1)] 28)).cell? ⟨w.heap.size, 0, none⟩ = some (.slice a n c) := by simp
  have x1 : (w.alloc (.cells #[.slice a n c, .int .i64 (g + 1)] 28)).cell? ⟨w.heap.size, 1, none⟩ = some (.int .i64 (g + 1)) := by simp
  go_enter Try.func15, Try.ntmps15
  go_wp2_with fail
  refine (HAL.out _ HM1.out).mono ?_
  rintro r w1 ⟨a', c', rfl, hr1, hb1⟩
  have HR1 := Lib.hid hr1
  obtain ⟨y0, y1⟩ := keep2c hb1 ⟨x0, x1⟩
  have HMc := Lib.hid ((HM1.out.keep hb1).keep (w' := w1.drew) (Below.refl _ w1).drew)
  have HBc := Lib.hid (HB1.out.trans (hb1.mono HB1.out.size)).drew
  have HRc := Lib.hid (show UnRow w1.drew a' us from hr1)
  have hXl := block_lt_of_cell y0
  simp only at hXl
  clear hr1 hb1 x0 x1 HM1 HB1 HAL HR1
  generalize w.heap.size = X at y0 y1 hXl ⊢
  go_upto_region 2 with (fail)
  go_region_held3 (fun w' => w'.cell? ⟨X, 0, none⟩ = some (.slice a n c) ∧ w'.cell? ⟨X, 1, none⟩ = some (.int .i64 (g + 1)))
    (first | (refine keep2c hbK ?_; assumption) | assumption | exact ⟨y0, y1⟩)
    (first
      | (go_at_call 52; refine (HLE.out _ HMc.out).mono ?_; rintro e wK ⟨rfl, rfl⟩)
      | (go_at_call 53; refine (HNX.out _ HMc.out).mono ?_; rintro e wK ⟨rfl, rfl⟩)
      | (go_at_call 61; (first | with_reducible refine (HN1.out _ HMc.out).mono ?_ | with_reducible refine (HN2.out _ HMc.out).mono ?_ | refine (HN2.out _ HMc.out).mono ?_); rintro e wK ⟨rfl, rfl⟩)
      | (go_at_call 23; refine (HTX.out _ HMc.out).mono ?_; rintro e wK ⟨rfl, hbK⟩; have HRc := Lib.hid (UnRow.below HRc.out hbK); have HMc := Lib.hid (HMc.out.keep hbK); have HBc := Lib.hid (HBc.out.trans (hbK.mono HBc.out.size)))
      | (go_at_call 60; refine (HRX.out _ HMc.out).mono ?_; rintro e wK ⟨rfl, hbK⟩; have HRc := Lib.hid (UnRow.below HRc.out hbK); have HMc := Lib.hid (HMc.out.keep hbK); have HBc := Lib.hid (HBc.out.trans (hbK.mono HBc.out.size))))
  all_goals
    have z0 : wK.cell? ⟨X, 0, none⟩ = some (.slice a n c) := (show wK.cell? ⟨X, 0, none⟩ = some (.slice a n c) ∧ wK.cell? ⟨X, 1, none⟩ = some (.int .i64 (g + 1)) by assumption).1
    have hzl := block_lt_of_cell z0
    simp only at hzl
    have HMz := Lib.hid HMc.out
    have HBz := Lib.hid HBc.out
    have HRz := Lib.hid HRc.out
    clear HLE HNX HTX HRX HN1 HN2 y0 y1 hXl HM0
    go_wp2
    go_loopw [55] (fun iv wr => ∃ k : Nat, k ≤ n ∧ iv = .int .i64 k ∧ Hid (DoMem K0 b us g a c wr) ∧ Hid (Below w.heap.size w wr) ∧ Hid (UnRow wr a' us)) (fun iv _ => n - (intOf iv).toNat)
    case atStart => exact ⟨0, by omega, rfl, HMz, HBz, HRz⟩
    case round =>
      obtain ⟨k, hk, rfl, HM, HB, HR⟩ := hrel
      by_cases hlt : k < n
      · have hlu : k < us.length := by rw [HN.out]; exact hlt
        obtain ⟨gb, off, rfl, hgb, c0, c1, c2, c3, c4, c5⟩ := HM.out.rt.row.at hlu
        obtain ⟨gb', off', rfl, hgb', d0, d1, d2, d3, d4, d5⟩ := HR.out.at hlu
        have hun := fun W (hh : DoMem K0 b us g (some ⟨gb, off, none⟩) c W) => tabUnit_some b us g us[k].id k W hh.tab (find_at HOK.out.2.1 k hlu) hlu rfl
        have hnt := fun W (hh : DoMem K0 b us g (some ⟨gb, off, none⟩) c W) => HNT.out (k : Int) W hh
        rw [show nthN us (k : Int) = us[k].id by simp [nthN, hlu]; omega] at hnt
        have hne := run_neq us[k] us[k]
        rw [show unQ us[k] us[k] = true from (unQ_iff _ _).2 rfl] at hne
        generalize us[k] = u at c0 c1 c2 c3 c4 c5 d0 d1 d2 d3 d4 d5 hun hnt hne
        obtain ⟨u0, u1, u2, u3, u4, u5⟩ := u
        unfold unV at hun hne
        simp only [Bool.not_true] at c0 c1 c2 c3 c4 c5 d0 d1 d2 d3 d4 d5 hun hnt hne
        have HUN := Lib.hid hun
        have HNH := Lib.hid hnt
        have hk0 : (0 : Int) ≤ (k : Int) := by omega
        have hk1 : (k : Int) < (n : Int) := by omega
        have HM1 := Lib.hid (HM.out.keep (bel_alloc (Below.refl _ wr) (.cells #[.int .i64 u0, .int .i64 u1, .int .i64 u2, .int .i64 u3, .int .i64 u4, .int .i64 u5] 113)))
        have HB1 := Lib.hid (bel_alloc HB.out (.cells #[.int .i64 u0, .int .i64 u1, .int .i64 u2, .int .i64 u3, .int .i64 u4, .int .i64 u5] 113))
        have HR1 := Lib.hid (HR.out.below (bel_alloc (Below.refl _ wr) (.cells #[.int .i64 u0, .int .i64 u1, .int .i64 u2, .int .i64 u3, .int .i64 u4, .int .i64 u5] 113)))
        clear hun hnt HM HB HR HNT
        go_wp2_with fail
        refine (HUN.out _ HM1.out).mono ?_
        rintro r w2 ⟨rfl, hb2⟩
        have p0 : w2.cell? ⟨wr.heap.size, 0, none⟩ = some (.int .i64 u0) := (hb2.cell (p := ⟨wr.heap.size, 0, none⟩) (by simp)).trans (by simp)
        have p1 : w2.cell? ⟨wr.heap.size, 1, none⟩ = some (.int .i64 u1) := (hb2.cell (p := ⟨wr.heap.size, 1, none⟩) (by simp)).trans (by simp)
        have p2 : w2.cell? ⟨wr.heap.size, 2, none⟩ = some (.int .i64 u2) := (hb2.cell (p := ⟨wr.heap.size, 2, none⟩) (by simp)).trans (by simp)
        have p3 : w2.cell? ⟨wr.heap.size, 3, none⟩ = some (.int .i64 u3) := (hb2.cell (p := ⟨wr.heap.size, 3, none⟩) (by simp)).trans (by simp)
        have p4 : w2.cell? ⟨wr.heap.size, 4, none⟩ = some (.int .i64 u4) := (hb2.cell (p := ⟨wr.heap.size, 4, none⟩) (by simp)).trans (by simp)
        have p5 : w2.cell? ⟨wr.heap.size, 5, none⟩ = some (.int .i64 u5) := (hb2.cell (p := ⟨wr.heap.size, 5, none⟩) (by simp)).trans (by simp)
        have e0 := hb2.cell (p := ⟨gb', off' + k * 6, none⟩) (by simp; omega) |>.trans (alloc_cell d0 (.cells #[.int .i64 u0, .int .i64 u1, .int .i64 u2, .int .i64 u3, .int .i64 u4, .int .i64 u5] 113))
        have e1 := hb2.cell (p := ⟨gb', off' + k * 6 + 1, none⟩) (by simp; omega) |>.trans (alloc_cell d1 (.cells #[.int .i64 u0, .int .i64 u1, .int .i64 u2, .int .i64 u3, .int .i64 u4, .int .i64 u5] 113))
        have e2 := hb2.cell (p := ⟨gb', off' + k * 6 + 2, none⟩) (by simp; omega) |>.trans (alloc_cell d2 (.cells #[.int .i64 u0, .int .i64 u1, .int .i64 u2, .int .i64 u3, .int .i64 u4, .int .i64 u5] 113))
        have e3 := hb2.cell (p := ⟨gb', off' + k * 6 + 3, none⟩) (by simp; omega) |>.trans (alloc_cell d3 (.cells #[.int .i64 u0, .int .i64 u1, .int .i64 u2, .int .i64 u3, .int .i64 u4, .int .i64 u5] 113))
        have e4 := hb2.cell (p := ⟨gb', off' + k * 6 + 4, none⟩) (by simp; omega) |>.trans (alloc_cell d4 (.cells #[.int .i64 u0, .int .i64 u1, .int .i64 u2, .int .i64 u3, .int .i64 u4, .int .i64 u5] 113))
        have e5 := hb2.cell (p := ⟨gb', off' + k * 6 + 5, none⟩) (by simp; omega) |>.trans (alloc_cell d5 (.cells #[.int .i64 u0, .int .i64 u1, .int .i64 u2, .int .i64 u3, .int .i64 u4, .int .i64 u5] 113))
        have HM2 := Lib.hid ((HM1.out.keep hb2).keep (bel_alloc (Below.refl _ w2) (.cells #[.int .i64 u0, .int .i64 u1, .int .i64 u2, .int .i64 u3, .int .i64 u4, .int .i64 u5] 35)))
        have HB2 := Lib.hid (bel_alloc (HB1.out.trans (hb2.mono HB1.out.size)) (.cells #[.int .i64 u0, .int .i64 u1, .int .i64 u2, .int .i64 u3, .int .i64 u4, .int .i64 u5] 35))
        have HR2 := Lib.hid ((HR1.out.below hb2).below (bel_alloc (Below.refl _ w2) (.cells #[.int .i64 u0, .int .i64 u1, .int .i64 u2, .int .i64 u3, .int .i64 u4, .int .i64 u5] 35)))
        have hYl := block_lt_of_cell p0
        have hgl := block_lt_of_cell e0
        simp only at hYl hgl
        generalize wr.heap.size = Y at p0 p1 p2 p3 p4 p5 hYl ⊢
        clear hb2 HUN HM1 HB1 HR1 c0 c1 c2 c3 c4 c5 d0 d1 d2 d3 d4 d5
        go_upto_region 8 with (fail)
        have HM3 := Lib.hid (HM2.out.keep (w' := (w2.alloc (.cells #[.int .i64 u0, .int .i64 u1, .int .i64 u2, .int .i64 u3, .int .i64 u4, .int .i64 u5] 35)).drew) (Below.refl _ (w2.alloc (.cells #[.int .i64 u0, .int .i64 u1, .int .i64 u2, .int .i64 u3, .int .i64 u4, .int .i64 u5] 35))).drew)
        have HB3 := Lib.hid HB2.out.drew
        have HR3 := Lib.hid (show UnRow (w2.alloc (.cells #[.int .i64 u0, .int .i64 u1, .int .i64 u2, .int .i64 u3, .int .i64 u4, .int .i64 u5] 35)).drew (some ⟨gb', off', none⟩) us from HR2.out)
        have S1 : (w2.alloc (.cells #[.int .i64 u0, .int .i64 u1, .int .i64 u2, .int .i64 u3, .int .i64 u4, .int .i64 u5] 35)).cell? ⟨Y, 0, none⟩ = some (.int .i64 u0) ∧ (w2.alloc (.cells #[.int .i64 u0, .int .i64 u1, .int .i64 u2, .int .i64 u3, .int .i64 u4, .int .i64 u5] 35)).cell? ⟨Y, 1, none⟩ = some (.int .i64 u1) ∧ (w2.alloc (.cells #[.int .i64 u0, .int .i64 u1, .int .i64 u2, .int .i64 u3, .int .i64 u4, .int .i64 u5] 35)).cell? ⟨Y, 2, none⟩ = some (.int .i64 u2) ∧ (w2.alloc (.cells #[.int .i64 u0, .int .i64 u1, .int .i64 u2, .int .i64 u3, .int .i64 u4, .int .i64 u5] 35)).cell? ⟨Y, 3, none⟩ = some (.int .i64 u3) ∧ (w2.alloc (.cells #[.int .i64 u0, .int .i64 u1, .int .i64 u2, .int .i64 u3, .int .i64 u4, .int .i64 u5] 35)).cell? ⟨Y, 4, none⟩ = some (.int .i64 u4) ∧ (w2.alloc (.cells #[.int .i64 u0, .int .i64 u1, .int .i64 u2, .int .i64 u3, .int .i64 u4, .int .i64 u5] 35)).cell? ⟨Y, 5, none⟩ = some (.int .i64 u5) := ⟨alloc_cell p0 _, alloc_cell p1 _, alloc_cell p2 _, alloc_cell p3 _, alloc_cell p4 _, alloc_cell p5 _⟩
        have S2 : (w2.alloc (.cells #[.int .i64 u0, .int .i64 u1, .int .i64 u2, .int .i64 u3, .int .i64 u4, .int .i64 u5] 35)).cell? ⟨gb', off' + k * 6, none⟩ = some (.int .i64 u0) ∧ (w2.alloc (.cells #[.int .i64 u0, .int .i64 u1, .int .i64 u2, .int .i64 u3, .int .i64 u4, .int .i64 u5] 35)).cell? ⟨gb', off' + k * 6 + 1, none⟩ = some (.int .i64 u1) ∧ (w2.alloc (.cells #[.int .i64 u0, .int .i64 u1, .int .i64 u2, .int .i64 u3, .int .i64 u4, .int .i64 u5] 35)).cell? ⟨gb', off' + k * 6 + 2, none⟩ = some (.int .i64 u2) ∧ (w2.alloc (.cells #[.int .i64 u0, .int .i64 u1, .int .i64 u2, .int .i64 u3, .int .i64 u4, .int .i64 u5] 35)).cell? ⟨gb', off' + k * 6 + 3, none⟩ = some (.int .i64 u3) ∧ (w2.alloc (.cells #[.int .i64 u0, .int .i64 u1, .int .i64 u2, .int .i64 u3, .int .i64 u4, .int .i64 u5] 35)).cell? ⟨gb', off' + k * 6 + 4, none⟩ = some (.int .i64 u4) ∧ (w2.alloc (.cells #[.int .i64 u0, .int .i64 u1, .int .i64 u2, .int .i64 u3, .int .i64 u4, .int .i64 u5] 35)).cell? ⟨gb', off' + k * 6 + 5, none⟩ = some (.int .i64 u5) := ⟨alloc_cell e0 _, alloc_cell e1 _, alloc_cell e2 _, alloc_cell e3 _, alloc_cell e4 _, alloc_cell e5 _⟩
        have S3 : (w2.alloc (.cells #[.int .i64 u0, .int .i64 u1, .int .i64 u2, .int .i64 u3, .int .i64 u4, .int .i64 u5] 35)).cell? ⟨w2.heap.size, 0, none⟩ = some (.int .i64 u0) ∧ (w2.alloc (.cells #[.int .i64 u0, .int .i64 u1, .int .i64 u2, .int .i64 u3, .int .i64 u4, .int .i64 u5] 35)).cell? ⟨w2.heap.size, 1, none⟩ = some (.int .i64 u1) ∧ (w2.alloc (.cells #[.int .i64 u0, .int .i64 u1, .int .i64 u2, .int .i64 u3, .int .i64 u4, .int .i64 u5] 35)).cell? ⟨w2.heap.size, 2, none⟩ = some (.int .i64 u2) ∧ (w2.alloc (.cells #[.int .i64 u0, .int .i64 u1, .int .i64 u2, .int .i64 u3, .int .i64 u4, .int .i64 u5] 35)).cell? ⟨w2.heap.size, 3, none⟩ = some (.int .i64 u3) ∧ (w2.alloc (.cells #[.int .i64 u0, .int .i64 u1, .int .i64 u2, .int .i64 u3, .int .i64 u4, .int .i64 u5] 35)).cell? ⟨w2.heap.size, 4, none⟩ = some (.int .i64 u4) ∧ (w2.alloc (.cells #[.int .i64 u0, .int .i64 u1, .int .i64 u2, .int .i64 u3, .int .i64 u4, .int .i64 u5] 35)).cell? ⟨w2.heap.size, 5, none⟩ = some (.int .i64 u5) := ⟨by simp, by simp, by simp, by simp, by simp, by simp⟩
        clear p0 p1 p2 p3 p4 p5 e0 e1 e2 e3 e4 e5 HM2 HB2 HR2
        generalize w2.alloc (.cells #[.int .i64 u0, .int .i64 u1, .int .i64 u2, .int .i64 u3, .int .i64 u4, .int .i64 u5] 35) = W3 at S1 S2 S3 HM3 HB3 HR3 ⊢
        generalize w2.heap.size = Z at S3 ⊢
        go_region_held3 (fun w' => (w'.cell? ⟨Y, 0, none⟩ = some (.int .i64 u0) ∧ w'.cell? ⟨Y, 1, none⟩ = some (.int .i64 u1) ∧ w'.cell? ⟨Y, 2, none⟩ = some (.int .i64 u2) ∧ w'.cell? ⟨Y, 3, none⟩ = some (.int .i64 u3) ∧ w'.cell? ⟨Y, 4, none⟩ = some (.int .i64 u4) ∧ w'.cell? ⟨Y, 5, none⟩ = some (.int .i64 u5)) ∧ (w'.cell? ⟨gb', off' + k * 6, none⟩ = some (.int .i64 u0) ∧ w'.cell? ⟨gb', off' + k * 6 + 1, none⟩ = some (.int .i64 u1) ∧ w'.cell? ⟨gb', off' + k * 6 + 2, none⟩ = some (.int .i64 u2) ∧ w'.cell? ⟨gb', off' + k * 6 + 3, none⟩ = some (.int .i64 u3) ∧ w'.cell? ⟨gb', off' + k * 6 + 4, none⟩ = some (.int .i64 u4) ∧ w'.cell? ⟨gb', off' + k * 6 + 5, none⟩ = some (.int .i64 u5)) ∧ (w'.cell? ⟨Z, 0, none⟩ = some (.int .i64 u0) ∧ w'.cell? ⟨Z, 1, none⟩ = some (.int .i64 u1) ∧ w'.cell? ⟨Z, 2, none⟩ = some (.int .i64 u2) ∧ w'.cell? ⟨Z, 3, none⟩ = some (.int .i64 u3) ∧ w'.cell? ⟨Z, 4, none⟩ = some (.int .i64 u4) ∧ w'.cell? ⟨Z, 5, none⟩ = some (.int .i64 u5)))
          (first | assumption | exact ⟨S1, S2, S3⟩)
          (first | (go_at_call 61; refine (HNH.out _ HM3.out).mono ?_; rintro e wK ⟨rfl, rfl⟩))
        all_goals
          go_wp2
          go_roundw
          case rel => exact ⟨k + 1, by omega, by go_num, HM3, HB3, HR3⟩
          case measure => simp [intOf]; omega
      · obtain rfl : k = n := by omega
        go_wp2
        go_ret
        exact ⟨rfl, HB.out⟩
end Go.Proofs.Ytdkokfpbmmjfkaa
namespace Go.Proofs.Ytdkokfpbmmjfkaa
open Go.RowKit
set_option linter.unusedVariables false

/-- The blocks that no table of a law with one box Y has. -/
def KP (n Y k : Nat) : Prop := k < n ∨ k = Y
/-- The law's memory: both tables, the document's in the box Y. -/
structure PlMem (n Y b : Nat) (us : List Un) (g : Int) (a : Option Addr) (c : Nat) (wr : World) : Prop where
  mem : DoMem (KP n Y) b us g a c wr
  y0 : wr.cell? ⟨Y, 0, none⟩ = some (.slice a us.length c)
  y1 : wr.cell? ⟨Y, 1, none⟩ = some (.int .i64 (g + 1))
  z0 : wr.frozen? ⟨Y, 0, none⟩ = false
  z1 : wr.frozen? ⟨Y, 1, none⟩ = false
  far : ∀ x, a = some x → Y < x.block
  lo : n ≤ Y
theorem PlMem.keep {n Y b : Nat} {us : List Un} {g : Int} {a : Option Addr} {c : Nat} {wr w' : World} (h : PlMem n Y b us g a c wr) (hb : Below wr.heap.size wr w') : PlMem n Y b us g a c w' :=
  ⟨h.mem.keep hb, (hb.cell (p := ⟨Y, 0, none⟩) (block_lt_of_cell h.y0)).trans h.y0, (hb.cell (p := ⟨Y, 1, none⟩) (block_lt_of_cell h.y1)).trans h.y1,
    ((touch_of_below (S := fun _ => False) hb).frozen (p := ⟨Y, 0, none⟩) (block_lt_of_cell h.y0) id).trans h.z0, ((touch_of_below (S := fun _ => False) hb).frozen (p := ⟨Y, 1, none⟩) (block_lt_of_cell h.y1) id).trans h.z1, h.far, h.lo⟩
theorem PlMem.does {n Y b : Nat} {us us' : List Un} {g g' : Int} {a a' : Option Addr} {c c' : Nat} {wr w' : World} (h : PlMem n Y b us g a c wr) (h2 : DoMem (KP n Y) b us' g' a' c' w') (ht : Touch (fun k => ¬ KP n Y k) wr w') (ha : a' = a ∨ ∀ x, a' = some x → wr.heap.size ≤ x.block) :
    w'.frozen? ⟨Y, 0, none⟩ = false ∧ w'.frozen? ⟨Y, 1, none⟩ = false ∧ (∃ o0, w'.cell? ⟨Y, 0, none⟩ = some o0) ∧ (∃ o1, w'.cell? ⟨Y, 1, none⟩ = some o1) ∧
    PlMem n Y b us' g' a' c' ((w'.setCell ⟨Y, 0, none⟩ (.slice a' us'.length c')).setCell ⟨Y, 1, none⟩ (.int .i64 (g' + 1))) ∧ Below n wr ((w'.setCell ⟨Y, 0, none⟩ (.slice a' us'.length c')).setCell ⟨Y, 1, none⟩ (.int .i64 (g' + 1))) := by
  have nY : ¬ ¬ KP n Y Y := fun hn => hn (.inr rfl)
  have hY := block_lt_of_cell h.y0
  simp only at hY
  have y0 := (ht.cell (p := ⟨Y, 0, none⟩) hY nY).trans h.y0
  have y1 := (ht.cell (p := ⟨Y, 1, none⟩) hY nY).trans h.y1
  have z0 := (ht.frozen (p := ⟨Y, 0, none⟩) hY nY).trans h.z0
  have z1 := (ht.frozen (p := ⟨Y, 1, none⟩) hY nY).trans h.z1
  have hs := set2r_touch w' Y (.slice a' us'.length c') (.int .i64 (g' + 1))
  unfold set2r at hs
  have far : ∀ x, a' = some x → Y < x.block := fun x hx => by
    rcases ha with e | e
    · exact h.far x (e ▸ hx)
    · have := e x hx; omega
  have hlo := h.lo
  refine ⟨z0, z1, ⟨_, y0⟩, ⟨_, y1⟩, ⟨h2.set hs (fun k hk => .inr hk) (fun x hx e => by have := far x hx; omega), set2_same0 y0, set2_same1 y1, by simpa using z0, by simpa using z1, far, h.lo⟩, ?_⟩
  refine (ht.below (by omega) (fun k hk hn => hn (.inl hk))).trans ((hs.below (B := n) ?_ (fun k hk e => ?_)))
  · have := ht.size; omega
  · omega
/-- A unit's number, looked for by both. -/
theorem unit_both {K : Nat → Prop} (b : Nat) (us : List Un) (g id : Int) (hok : TabOk us g) : ∃ (u : Un) (q : Bool) (f : Int), decide (0 ≤ f) = q ∧
    (∀ W, TabQ K b us g W → Calls Try.prog 14 #[.pointer (some ⟨b, 0, none⟩), .int .i64 id] W fun r w' => r = .returned (.tuple #[unV u, .bool q]) ∧ Below W.heap.size W w') ∧
    ∀ W a c, RT W a c us → Calls Try.prog 16 #[.agg #[.slice a us.length c, .int .i64 (g + 1)], .int .i64 id] W fun r w' => r = .returned (.int .i64 f) ∧ Below W.heap.size W w' := by
  obtain ⟨n, hn⟩ := find_is us id hok.2.1
  cases hq : foundQ us id n
  · refine ⟨⟨0, 0, 0, 0, 0, 0⟩, false, findR us id n, by simp [findR, hq], fun W h => tabUnit_none b us g id n W h hn hq, fun W a c h => refFind_any a c us (g + 1) id n W (by have := hok.1; omega) hok.2.1 h.row hn⟩
  · obtain ⟨hlt, he⟩ := findIs_lt hq
    refine ⟨us[n], true, findR us id n, by simp [findR, hq], fun W h => tabUnit_some b us g id n W h hn hlt he, fun W a c h => refFind_any a c us (g + 1) id n W (by have := hok.1; omega) hok.2.1 h.row hn⟩
/-- Behind the law's call: both tables, and the document's new one in the box B; the old box is still to be written. -/
structure PlMid (n Y b B : Nat) (us : List Un) (g : Int) (a : Option Addr) (c : Nat) (w0 wx : World) : Prop where
  mem : DoMem (KP n Y) b us g a c wx
  b0 : wx.cell? ⟨B, 0, none⟩ = some (.slice a us.length c)
  b1 : wx.cell? ⟨B, 1, none⟩ = some (.int .i64 (g + 1))
  y0 : ∃ o, wx.cell? ⟨Y, 0, none⟩ = some o
  y1 : ∃ o, wx.cell? ⟨Y, 1, none⟩ = some o
  z0 : wx.frozen? ⟨Y, 0, none⟩ = false
  z1 : wx.frozen? ⟨Y, 1, none⟩ = false
  far : ∀ x, a = some x → Y < x.block
  lo : n ≤ Y
  ne : B ≠ Y
  bel : Below n w0 wx
theorem DoMem.sub {K0 K1 : Nat → Prop} {wr : World} {b : Nat} {us : List Un} {g : Int} {a : Option Addr} {c : Nat} (h : DoMem K1 b us g a c wr) (hs : ∀ k, K0 k → K1 k) : DoMem K0 b us g a c wr :=
  ⟨h.tab.sub (fun k hk => hk.elim (fun h => .inl (hs k h)) .inr), h.rt⟩
theorem DoMem.grow {K0 : Nat → Prop} {wr : World} {b : Nat} {us : List Un} {g : Int} {a : Option Addr} {c : Nat} (h : DoMem K0 b us g a c wr) (o : Obj) : DoMem (fun k => K0 k ∨ k = wr.heap.size) b us g a c (wr.alloc o) := by
  have hb : Below wr.heap.size wr (wr.alloc o) := bel_alloc (Below.refl _ _) _
  refine ⟨(h.tab.grow (N := fun k => k = wr.heap.size) hb (fun k hk => by subst hk; simp)).sub (fun k hk => ?_), h.rt.below hb⟩
  rcases hk with (h | h) | h
  · exact .inl (.inl h)
  · exact .inr h
  · exact .inl (.inr h)
theorem plMid_after {n Y b : Nat} {us us' : List Un} {g g' : Int} {a a' : Option Addr} {c c' : Nat} {w0 wr w4 : World} {t : TypeId} (h : PlMem n Y b us g a c wr) (hw : Below n w0 wr) (h2 : DoMem (KP n Y) b us' g' a' c' w4) (ht : Touch (fun k => ¬ KP n Y k) wr w4) (ha : a' = a ∨ ∀ x, a' = some x → wr.heap.size ≤ x.block) :
    PlMid n Y b w4.heap.size us' g' a' c' w0 (w4.alloc (.cells #[.slice a' us'.length c', .int .i64 (g' + 1)] t)) := by
  obtain ⟨z0, z1, ⟨o0, y0⟩, ⟨o1, y1⟩, -, -⟩ := h.does h2 ht ha
  have hY := block_lt_of_cell h.y0
  have hYl := block_lt_of_cell y0
  have hlo := h.lo
  simp only at hY hYl
  have hb : Below w4.heap.size w4 (w4.alloc (.cells #[.slice a' us'.length c', .int .i64 (g' + 1)] t)) := bel_alloc (Below.refl _ _) _
  refine ⟨h2.keep hb, new_cell rfl rfl, new_cell rfl rfl, ⟨_, alloc_cell y0 _⟩, ⟨_, alloc_cell y1 _⟩, (frozen_old _ _ _ hYl).trans z0, (frozen_old _ _ _ hYl).trans z1, fun x hx => ?_, h.lo, by omega, ?_⟩
  · rcases ha with e | e
    · exact h.far x (e ▸ hx)
    · have := e x hx; omega
  · exact (hw.trans (ht.below (by omega) (fun k hk hn => hn (.inl hk)))).alloc (by have := ht.size; omega) _
theorem plMid_before {n Y b : Nat} {us us' : List Un} {g g' : Int} {a a' : Option Addr} {c c' : Nat} {w0 wr w4 : World} {t : TypeId} {o0 o1 : Value} (h : PlMem n Y b us g a c wr) (hw : Below n w0 wr) (h2 : DoMem (fun k => KP n Y k ∨ k = wr.heap.size) b us' g' a' c' w4) (ht : Touch (fun k => ¬ (KP n Y k ∨ k = wr.heap.size)) (wr.alloc (.cells #[o0, o1] t)) w4) (ha : a' = a ∨ ∀ x, a' = some x → (wr.alloc (.cells #[o0, o1] t)).heap.size ≤ x.block) :
    w4.cell? ⟨wr.heap.size, 0, none⟩ = some o0 ∧ w4.cell? ⟨wr.heap.size, 1, none⟩ = some o1 ∧ w4.frozen? ⟨wr.heap.size, 0, none⟩ = false ∧ w4.frozen? ⟨wr.heap.size, 1, none⟩ = false ∧ wr.heap.size < w4.heap.size ∧
    PlMid n Y b wr.heap.size us' g' a' c' w0 ((w4.setCell ⟨wr.heap.size, 0, none⟩ (.slice a' us'.length c')).setCell ⟨wr.heap.size, 1, none⟩ (.int .i64 (g' + 1))) := by
  have nB : ¬ ¬ (KP n Y wr.heap.size ∨ wr.heap.size = wr.heap.size) := fun hn => hn (.inr rfl)
  have nY : ¬ ¬ (KP n Y Y ∨ Y = wr.heap.size) := fun hn => hn (.inl (.inr rfl))
  have hsz : (wr.alloc (.cells #[o0, o1] t)).heap.size = wr.heap.size + 1 := by simp
  have hlt : wr.heap.size < (wr.alloc (.cells #[o0, o1] t)).heap.size := by omega
  have hY := block_lt_of_cell h.y0
  have hlo := h.lo
  simp only at hY
  have hYl : Y < (wr.alloc (.cells #[o0, o1] t)).heap.size := by omega
  have b0 : w4.cell? ⟨wr.heap.size, 0, none⟩ = some o0 := (ht.cell (p := ⟨wr.heap.size, 0, none⟩) hlt nB).trans (by simp)
  have b1 : w4.cell? ⟨wr.heap.size, 1, none⟩ = some o1 := (ht.cell (p := ⟨wr.heap.size, 1, none⟩) hlt nB).trans (by simp)
  have f0 : w4.frozen? ⟨wr.heap.size, 0, none⟩ = false := (ht.frozen (p := ⟨wr.heap.size, 0, none⟩) hlt nB).trans (frozen_new _ _ _ _)
  have f1 : w4.frozen? ⟨wr.heap.size, 1, none⟩ = false := (ht.frozen (p := ⟨wr.heap.size, 1, none⟩) hlt nB).trans (frozen_new _ _ _ _)
  have y0 := (ht.cell (p := ⟨Y, 0, none⟩) hYl nY).trans (alloc_cell h.y0 _)
  have y1 := (ht.cell (p := ⟨Y, 1, none⟩) hYl nY).trans (alloc_cell h.y1 _)
  have z0 := (ht.frozen (p := ⟨Y, 0, none⟩) hYl nY).trans ((frozen_old _ _ _ hY).trans h.z0)
  have z1 := (ht.frozen (p := ⟨Y, 1, none⟩) hYl nY).trans ((frozen_old _ _ _ hY).trans h.z1)
  have hs := set2r_touch w4 wr.heap.size (.slice a' us'.length c') (.int .i64 (g' + 1))
  unfold set2r at hs
  have hlt4 : wr.heap.size < w4.heap.size := by have := ht.size; omega
  have hne : ¬ Y = wr.heap.size := by omega
  refine ⟨b0, b1, f0, f1, hlt4, ⟨(h2.set hs (fun k hk => .inr hk) (fun x hx e => ?_)).sub (fun k hk => .inl hk), set2_same0 b0, set2_same1 b1, ⟨_, (hs.cell (p := ⟨Y, 0, none⟩) (by show Y < _; omega) hne).trans y0⟩, ⟨_, (hs.cell (p := ⟨Y, 1, none⟩) (by show Y < _; omega) hne).trans y1⟩, (hs.frozen (p := ⟨Y, 0, none⟩) (by show Y < _; omega) hne).trans z0, (hs.frozen (p := ⟨Y, 1, none⟩) (by show Y < _; omega) hne).trans z1, fun x hx => ?_, hlo, by omega, ?_⟩⟩
  · rcases ha with e' | e'
    · have := h.mem.rt.row
      have hx2 : a = some x := e' ▸ hx
      have := h.mem.tab.2.1 x.block (.inr (by rw [hx2]; rfl))
      omega
    · have := e' x hx; omega
  · rcases ha with e | e
    · exact h.far x (e ▸ hx)
    · have := e x hx; omega
  · refine ((hw.alloc (by have := hw.size; omega) _).trans (ht.below (by omega) (fun k hk hn => hn (.inl (.inl hk))))).trans (hs.below (by omega) (fun k hk e => by omega))
theorem PlMid.fin {n Y b B : Nat} {us : List Un} {g : Int} {a : Option Addr} {c : Nat} {w0 wx : World} (h : PlMid n Y b B us g a c w0 wx) :
    PlMem n Y b us g a c ((wx.setCell ⟨Y, 0, none⟩ (.slice a us.length c)).setCell ⟨Y, 1, none⟩ (.int .i64 (g + 1))) ∧ Below n w0 ((wx.setCell ⟨Y, 0, none⟩ (.slice a us.length c)).setCell ⟨Y, 1, none⟩ (.int .i64 (g + 1))) := by
  have hs := set2r_touch wx Y (.slice a us.length c) (.int .i64 (g + 1))
  unfold set2r at hs
  obtain ⟨o0, y0⟩ := h.y0
  obtain ⟨o1, y1⟩ := h.y1
  have hlo := h.lo
  refine ⟨⟨h.mem.set hs (fun k hk => .inr hk) (fun x hx e => by have := h.far x hx; omega), set2_same0 y0, set2_same1 y1, by simpa using h.z0, by simpa using h.z1, h.far, h.lo⟩, h.bel.trans (hs.below ?_ (fun k hk e => by omega))⟩
  have := block_lt_of_cell y0
  simp only at this
  omega
theorem keepC {W w' : World} (hb : Below W.heap.size W w') {p q r : Addr} {x y z : Value} (h : W.cell? p = some x ∧ W.cell? q = some y ∧ W.cell? r = some z) : w'.cell? p = some x ∧ w'.cell? q = some y ∧ w'.cell? r = some z :=
  ⟨(hb.cell (block_lt_of_cell h.1)).trans h.1, (hb.cell (block_lt_of_cell h.2.1)).trans h.2.1, (hb.cell (block_lt_of_cell h.2.2)).trans h.2.2⟩
set_option maxRecDepth 100000 in
set_option maxHeartbeats 4000000 in
theorem unitPlays_walk (w : World) (a : Option Addr) (len cap : Nat) (ls : List (List Int)) (h : RecArg 7 w a len cap ls) :
    Calls Try.prog 3 #[.slice a len cap] w fun e w' => e = .returned (.bool true) ∧ Below w.heap.size w w' := by
  obtain ⟨rfl, hlc, hcm, hwide, hrow, -, -⟩ := h
  unfold maxLen at hcm
  have HROW := Lib.hid hrow
  have HAW := Lib.hid (fun W => awake8_any W)
  clear hrow hwide
  go_enter Try.func3, Try.ntmps3
  go_wp2_with fail
  refine (HAW.out _).mono ?_
  rintro e w1 ⟨rfl, hb1⟩
  have HB1 := Lib.hid hb1
  have hs1 := hb1.size
  have HNEW := Lib.hid (tabNew_any (fun k => k < w.heap.size) w1 (fun k hk => by omega))
  clear hb1 HAW
  go_wp2_with fail
  refine HNEW.out.mono ?_
  rintro e w2 ⟨rfl, hq2, hb2⟩
  have HQ2 := Lib.hid hq2
  have HB2 := Lib.hid (HB1.out.trans (hb2.mono HB1.out.size))
  have hs2 := hb2.size
  have HM2 : Hid (PlMem w.heap.size w2.heap.size w1.heap.size [] 0 none 0 (w2.alloc (.cells #[.slice none 0 0, .int .i64 1] 28)) ∧ Below w.heap.size w (w2.alloc (.cells #[.slice none 0 0, .int .i64 1] 28))) := by
    refine Lib.hid ⟨⟨⟨?_, ⟨fun h => by simp [unsI] at h, fun _ => rfl, by simp, by simp [maxLen]⟩⟩, new_cell rfl rfl, new_cell rfl rfl, frozen_new _ _ _ _, frozen_new _ _ _ _, fun x hx => (by cases hx), by omega⟩, HB2.out.alloc (by have := HB2.out.size; omega) _⟩
    refine (HQ2.out.grow (N := fun k => k = w2.heap.size) (bel_alloc (Below.refl _ _) _) (fun k hk => by subst hk; simp)).sub (fun k hk => ?_)
    rcases hk with (h | h) | h
    · exact .inl (by omega)
    · exact .inr h
    · simp at h
  clear hq2 hb2 HNEW HB1 HQ2 HB2
  go_wp2
  generalize w1.heap.size = b at HM2 ⊢
  generalize hY : w2.heap.size = Y at HM2 ⊢
  go_loopw [5] (fun iv wr => ∃ (k : Nat) (us : List Un) (g : Int) (a5 : Option Addr) (c5 : Nat), k ≤ ls.length ∧ k ≤ 120 ∧ iv = .int .i64 k ∧ Hid (PlMem w.heap.size Y b us g a5 c5 wr ∧ Below w.heap.size w wr)) (fun iv _ => 120 - (intOf iv).toNat)
  case atStart => exact ⟨0, [], 0, none, 0, by omega, by omega, rfl, HM2⟩
  case round =>
    obtain ⟨k, us, g, a5, c5, hk, hk30, rfl, HM⟩ := hrel
    by_cases hlt : k < ls.length
    · by_cases hlt2 : k < 120
      · obtain ⟨ab, aoff, rfl, hcell⟩ := RecRow.below (by decide) HROW.out HM.out.2 (by omega)
        have c0 := hcell k hlt 0 (by decide)
        have c1 := hcell k hlt 1 (by decide)
        have c2 := hcell k hlt 2 (by decide)
        have c3 := hcell k hlt 3 (by decide)
        have c4 := hcell k hlt 4 (by decide)
        have c5' := hcell k hlt 5 (by decide)
        have c6 := hcell k hlt 6 (by decide)
        rw [Nat.add_zero] at c0
        have hab := block_lt_of_cell c0
        clear hcell
        generalize ls[k].getD 0 0 = v0 at c0
        generalize ls[k].getD 1 0 = v1 at c1
        generalize ls[k].getD 2 0 = v2 at c2
        generalize ls[k].getD 3 0 = v3 at c3
        generalize ls[k].getD 4 0 = v4 at c4
        generalize hv5 : ls[k].getD 5 0 = v5 at c5'
        have HV5 := Lib.hid hv5
        clear hv5
        generalize ls[k].getD 6 0 = v6 at c6
        have y0 := HM.out.1.y0
        have y1 := HM.out.1.y1
        have hYl := block_lt_of_cell y0
        simp only at hYl hab
        have HD := Lib.hid (does_any (KP w.heap.size Y) b us g a5 c5 wr.drew v0 v1 v2 v3 v4 v5 v6 (HM.out.1.mem.keep (w' := wr.drew) (Below.refl _ wr).drew))
        have HD2 := Lib.hid (does_any (fun k => KP w.heap.size Y k ∨ k = wr.heap.size) b us g a5 c5 (wr.alloc (.cells #[.slice none 0 0, .int .i64 0] 28)).drew v0 v1 v2 v3 v4 v5 v6 ((HM.out.1.mem.grow (.cells #[.slice none 0 0, .int .i64 0] 28)).keep (w' := (wr.alloc (.cells #[.slice none 0 0, .int .i64 0] 28)).drew) (Below.refl _ _).drew))
        have hk0 : (0 : Int) ≤ (k : Int) := by omega
        have hk1 : (k : Int) < (ls.length : Int) := by omega
        have hk2 : (k : Int) < (120 : Int) := by omega
        generalize us.length = un at HD HD2 y0
        go_upto_region 8 with (fail)
        go_cut [6, 7] (fun s6 s7 wx => ∃ (B : Nat) (us : List Un) (g : Int) (a : Option Addr) (c : Nat), s6 = .pointer (some ⟨B, 0, none⟩) ∧ s7 = .bool true ∧ Hid (PlMid w.heap.size Y b B us g a c w wx))
        case first =>
          go_region_with (first
            | (go_at_call 13; (with_reducible refine HD.out.mono ?_); rintro r w4 ⟨us', g', a6, c6', rfl, hm4, ht4, ha4⟩; have HI4 := Lib.hid (plMid_after (t := 28) HM.out.1 HM.out.2 hm4 ht4.drew0 ha4); clear hm4 ht4 ha4)
            | (go_at_call 13; (with_reducible refine HD2.out.mono ?_); rintro r w4 ⟨us', g', a6, c6', rfl, hm4, ht4, ha4⟩; obtain ⟨y0', y1', y2, y3, y4, hi4⟩ := plMid_before HM.out.1 HM.out.2 hm4 ht4.drew0 ha4; have HI4 := Lib.hid hi4; clear hm4 ht4 ha4 hi4))
          all_goals (go_wp2_with fail; go_meet)
          all_goals exact ⟨_, _, _, _, _, rfl, rfl, HI4⟩
        case rest =>
          obtain ⟨B, us', g', a6, c6', rfl, rfl, HMid⟩ := hcut
          clear HD HD2 c0 c1 c2 c3 c4 c5' c6 y0 y1 hYl hab HM2
          obtain ⟨uq, q, f, hfq, hU, hFi⟩ := unit_both (K := KA (KP w.heap.size Y) a6) b us' g' v5 HMid.out.mem.tab.ok
          have HU := Lib.hid hU
          have HFi := Lib.hid hFi
          have HF := Lib.hid HMid.out.fin
          have b0 := HMid.out.b0
          have b1 := HMid.out.b1
          obtain ⟨o0, y0⟩ := HMid.out.y0
          obtain ⟨o1, y1⟩ := HMid.out.y1
          have z0 := HMid.out.z0
          have z1 := HMid.out.z1
          have hne := HMid.out.ne
          have hBl := block_lt_of_cell b0
          have hYl := block_lt_of_cell y0
          simp only at hBl hYl
          have HIS := Lib.hid (fun W hh => is_any (KP w.heap.size Y) b us' g' a6 c6' W hh)
          generalize hul : us'.length = un' at HF b0 HFi HIS
          have HUL := Lib.hid hul
          clear hU hFi HMid hul HM
          cases q
          all_goals
            go_upto_region 10 with (fail)
            generalize (wc.setCell ⟨Y, 0, none⟩ (.slice a6 un' c6')).setCell ⟨Y, 1, none⟩ (.int .i64 (g' + 1)) = W at HF ⊢
            clear b0 b1 y0 y1 z0 z1 hBl hYl hne
            obtain ⟨ab', aoff', he, hcell⟩ := RecRow.below (by decide) HROW.out HF.out.2 (by omega)
            obtain ⟨rfl, rfl⟩ : ab = ab' ∧ aoff = aoff' := by simpa using he
            have c5 := hcell k hlt 5 (by decide)
            have hab := block_lt_of_cell c5
            simp only at hab
            rw [HV5.out] at c5
            clear hcell he
            go_wp2_with fail
            refine (HU.out _ HF.out.1.mem.tab).mono ?_
            rintro r w5 ⟨rfl, hb5⟩
            obtain ⟨u0, u1, u2', u3, u4, u5⟩ := uq
            unfold unV
            simp only
            have hb6 : Below W.heap.size W (w5.alloc (.cells #[.int .i64 u0, .int .i64 u1, .int .i64 u2', .int .i64 u3, .int .i64 u4, .int .i64 u5] 35)) := bel_alloc hb5 _
            have HM6 := Lib.hid (HF.out.1.keep hb6)
            have HB6 := Lib.hid (HF.out.2.trans (hb6.mono HF.out.2.size))
            have d5 := (hb6.cell (p := ⟨ab, aoff + k * 7 + 5, none⟩) hab).trans c5
            clear hb5 hb6 HF HU c5 hab
            go_upto_region 11 with (fail)
            generalize w5.alloc (.cells #[.int .i64 u0, .int .i64 u1, .int .i64 u2', .int .i64 u3, .int .i64 u4, .int .i64 u5] 35) = W6 at HM6 HB6 d5 ⊢
            have y0 := HM6.out.y0
            have y1 := HM6.out.y1
            rw [HUL.out] at y0
            have hYl := block_lt_of_cell y0
            have hab := block_lt_of_cell d5
            simp only at hYl hab
            have HMc := Lib.hid (HM6.out.keep (w' := W6.drew) (Below.refl _ W6).drew)
            have HBc := Lib.hid HB6.out.drew
            clear HM6 HB6
            go_region_held3 (fun w' => w'.cell? ⟨Y, 0, none⟩ = some (.slice a6 un' c6') ∧ w'.cell? ⟨Y, 1, none⟩ = some (.int .i64 (g' + 1)) ∧ w'.cell? ⟨ab, aoff + k * 7 + 5, none⟩ = some (.int .i64 v5))
              (first | (refine keepC hbK ?_; assumption) | exact ⟨y0, y1, d5⟩)
              (first
                | (go_at_call 15; refine (HIS.out _ HMc.out.mem).mono ?_; rintro e wK ⟨rfl, hbK⟩; have HMc := Lib.hid (HMc.out.keep hbK); have HBc := Lib.hid (HBc.out.trans (hbK.mono HBc.out.size)))
                | (go_at_call 16; refine (HFi.out _ _ _ HMc.out.mem.rt).mono ?_; rintro e wK ⟨rfl, hbK⟩; have HMc := Lib.hid (HMc.out.keep hbK); have HBc := Lib.hid (HBc.out.trans (hbK.mono HBc.out.size))))
            all_goals
              have HMK := Lib.hid HMc.out
              have HBK := Lib.hid HBc.out
              go_wp2
              go_roundw
              case rel => exact ⟨k + 1, us', g', a6, c6', by omega, by omega, by go_num, Lib.hid ⟨HMK.out, HBK.out⟩⟩
              case measure => simp [intOf]; omega
      · go_wp2
        go_ret
        exact ⟨rfl, HM.out.2⟩
    · go_wp2
      go_ret
      exact ⟨rfl, HM.out.2⟩
end Go.Proofs.Ytdkokfpbmmjfkaa
namespace Go.Proofs.Ytdkokfpbmmjfkaa.unitPlays
open Go.ChangeShapes Go.WideShapes Go.ChangeAt Go.RowKit
open Go.ChangeMaps (open_string shut_string)
set_option linter.unusedVariables false
theorem walk (w : World) (a0 : Option Addr) (len0 cap0 : Nat) (m0 : List (List Int)) (w0 : RecArg 7 w a0 len0 cap0 m0) :
    Calls Try.prog 3 #[.slice a0 len0 cap0] w fun e w' => e = .returned (.bool true) ∧ Below w.heap.size w w' :=
  unitPlays_walk w a0 len0 cap0 m0 w0

/-! ### THE ROW's STEP -/
theorem own : ownKnob Try.prog.godebug = none := by kernel_rfl
theorem laidOut : laidOutB Try.prog = true := by kernel_rfl
set_option maxRecDepth 100000 in
theorem lifted (os : Os) (started : os.Started) (H : Type) (enc : TypeId × Value → H) :
    ReturnsInHanded {} Try.checked os 3 .any (Rows.unitPlaysSpec.pre6 enc Try.prog Try.f3 Rows.unitPlaysRow.domain false) (Rows.unitPlaysSpec.post enc Try.prog Try.f3 false true false false) := by
  refine returnsInHanded_of_change (C := Try.checked) own started (by kernel_rfl) Try.func3
    (ChangeSpec.witness6 (enc := enc) (C := Try.checked) false ⟨#[], #[.slice none 0 0], []⟩ 8 (by kernel_rfl) (by kernel_rfl) (by kernel_rfl) (by kernel_rfl)) ?_
  intro W base args ds gs before hval0 hW hcnd _
  have hval : ∀ (j : Nat) t v, Try.f3.params[j]? = some t → args[j]? = some v → Value.okWide Try.prog W .any base t v := hval0
  have hW' := hW
  obtain ⟨p, q, hA0, hV, rfl, hfz, hnd⟩ := hW
  have hA : DataW.TrodAll enc Try.prog W 0 (fun _ => true) true Try.f3.params.toList args.toList ds p := hA0
  rw [Try.params3] at hA hval
  obtain ⟨v0, vs0, d0, ds0, p0, q0, hargs, rfl, rfl, h0, r0⟩ := trodAll_cons hA
  obtain ⟨rfl, rfl, rfl⟩ := trodAll_nil r0
  obtain rfl : args = #[v0] := by cases args; simp_all
  obtain ⟨rfl, rfl⟩ := trodVars_none hV
  have k0 := h0
  have lt0 : ∀ x ∈ p0, x.block < W.heap.size := by obtain ⟨m, hm⟩ := k0; exact DataW.trod_lt m _ _ _ hm
  obtain ⟨a0, len0, cap0, rfl⟩ := okWide_slice Try.underlying22 (hval 0 22 v0 rfl rfl)
  obtain ⟨m0, w0⟩ : ∃ m, RecArg 7 W a0 len0 cap0 m := by
    obtain ⟨fuel, hf⟩ := h0
    exact acts8_of hf
  clear hA0 hval0
  refine (walk W a0 len0 cap0 m0 w0).mono fun e W' ⟨he, bel⟩ => ?_
  subst he
  exact ⟨_, rfl, _, _, _, [], _, [], hW', trodAll_mk1 (shut_bool Try.underlying4 _), (trodAll_cons_mk (Below.trod laidOut (by kernel_rfl) (of_decide_eq_true (by kernel_rfl)) k0 bel lt0) trodAll_mk0), rfl, bel.frame _, fun h => by cases h⟩

theorem over : Rows.unitPlaysRow.holds Try.pinned (OpenSpec.ofChange Rows.unitPlaysSpec) :=
  OpenClaim.holds_of_wide 3 Try.f3 rfl rfl rfl rfl rfl rfl rfl ⟨rfl, rfl, rfl, rfl, rfl⟩ rfl rfl rfl rfl rfl (by kernel_rfl) Try.func3 (by kernel_rfl)
    (of_decide_eq_true (by kernel_rfl)) (by unfold Func.isWrapper; first | (rw [if_pos (by decide +kernel)]; kernel_rfl) | (rw [if_neg (by decide +kernel)]; exact ⟨rfl, rfl⟩))
    (fun os started H enc _ => lifted os started H enc)

end Go.Proofs.Ytdkokfpbmmjfkaa.unitPlays
namespace Go.Proofs.Ytdkokfpbmmjfkaa
theorem unitPlays_proved : Rows.UnitPlaysSaid := unitPlays.over
end Go.Proofs.Ytdkokfpbmmjfkaa
