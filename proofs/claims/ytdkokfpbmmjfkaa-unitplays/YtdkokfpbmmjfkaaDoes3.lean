/-
  Layer 8: the law's own call on both, whatever it is.
-/
import Derived.Test.YtdkokfpbmmjfkaaDoes2
namespace Go.Proofs.Ytdkokfpbmmjfkaa
open Go.RowKit
set_option linter.unusedVariables false

set_option maxRecDepth 100000 in
set_option maxHeartbeats 4000000 in
theorem does_other (K0 : Nat → Prop) (b : Nat) (us : List Un) (g : Int) (a : Option Addr) (c : Nat) (w : World) (ak an af aa ab ax ay : Int) (h : DoMem K0 b us g a c w) (n1 : ak ≠ 1) (n2 : ak ≠ 2) (n3 : ak ≠ 3) (n4 : ak ≠ 4) (n5 : ak ≠ 5) :
    Calls Try.prog 13 #[.pointer (some ⟨b, 0, none⟩), .agg #[.slice a us.length c, .int .i64 (g + 1)], .agg #[.int .i64 ak, .int .i64 an, .int .i64 af, .int .i64 aa, .int .i64 ab, .int .i64 ax, .int .i64 ay]] w (DoesPost K0 b a w) := by
  have HFIN0 := Lib.hid (show ∀ W, Below w.heap.size w W → DoesPost K0 b a w (.returned (.tuple #[.agg #[.slice a us.length c, .int .i64 (g + 1)], .bool true])) W from fun W hb => ⟨us, g, a, c, rfl, h.keep hb, touch_of_below hb, .inl rfl⟩)
  have HR := Lib.hid h.rt
  have h64 := h.tab.ok.1
  have hc1 := h.rt.len
  have hc2 := h.rt.cap
  unfold maxLen at hc2
  have k1 : (ak == 1) = false := by simpa using n1
  have k2 : (ak == 2) = false := by simpa using n2
  have k3 : (ak == 3) = false := by simpa using n3
  have k4 : (ak == 4) = false := by simpa using n4
  have k5 : (ak == 5) = false := by simpa using n5
  generalize hn : us.length = n at HFIN0 h64 hc1 ⊢
  have HN := Lib.hid hn
  generalize hpost : DoesPost K0 b a w = Post at HFIN0 ⊢
  have HFIN := HFIN0
  clear h hn hpost n1 n2 n3 n4 n5 HFIN0
  by_cases h0 : n = 0
  · subst h0
    go_enter Try.func13, Try.ntmps13
    go_wp2
    exact bodyPost_ret (v := .tuple #[.agg #[.slice a 0 c, .int .i64 (g + 1)], .bool true]) (by simp [results, Try.results13, go_sem]) rfl (HFIN.out _ (bel_alloc (bel_alloc (bel_alloc (Below.refl _ _) _) _) _))
  · have d0 : decide ((0 : Int) < (n : Int)) = true := by simp; omega
    by_cases hk : ak < 4
    · have dk : decide (ak < 4) = true := by simpa using hk
      obtain ⟨q5, hq5, eq5⟩ := andM an 255 255 rfl (by decide)
      have hmod : q5 % n < n := Nat.mod_lt _ (by omega)
      have hA3 : Below w.heap.size w (((w.alloc (.cells #[.slice a n c, .int .i64 (g + 1)] 28)).alloc (.cells #[.int .i64 ak, .int .i64 an, .int .i64 af, .int .i64 aa, .int .i64 ab, .int .i64 ax, .int .i64 ay] 32)).alloc (.cells #[.slice none 0 0, .int .i64 0] 28)) := bel_alloc (bel_alloc (bel_alloc (Below.refl _ _) _) _) _
      have HD3 := Lib.hid (dbox_new w a n c (g + 1) ak an af aa ab ax ay)
      obtain ⟨gb, off, rfl, hgb, e0, -⟩ := (HR.out.row.below hA3).at (i := q5 % n) (by rw [HN.out]; exact hmod)
      generalize us[q5 % n]'(by rw [HN.out]; exact hmod) = uu at e0
      generalize uu.id = idv at e0
      have HB3 := Lib.hid hA3
      clear hA3 hk
      go_enter Try.func13, Try.ntmps13
      have m1 : (0 : Int) ≤ ((q5 % n : Nat) : Int) := by omega
      have m2 : ((q5 % n : Nat) : Int) < (n : Int) := by omega
      have hrem := rem_run q5 n h64 h0 hq5
      have hmE : (q5 : Int) % (n : Int) = ((q5 % n : Nat) : Int) := (Int.natCast_emod _ _).symm
      have hmT : (q5 : Int).tmod (n : Int) = ((q5 % n : Nat) : Int) := by rw [Int.tmod_eq_emod_of_nonneg (by omega)]; exact hmE
      generalize q5 % n = m5 at hrem e0 m1 m2 hmod hmE hmT
      go_upto_region 3 with (fail)
      have t0 := HD3.out.t0
      have s1 := HD3.out.s 1 (by decide)
      simp only [List.getD_cons_succ, List.getD_cons_zero] at s1
      generalize ((w.alloc (.cells #[.slice (some ⟨gb, off, none⟩) n c, .int .i64 (g + 1)] 28)).alloc (.cells #[.int .i64 ak, .int .i64 an, .int .i64 af, .int .i64 aa, .int .i64 ab, .int .i64 ax, .int .i64 ay] 32)).alloc (.cells #[.slice none 0 0, .int .i64 0] 28) = Wq at HD3 HB3 e0 t0 s1 hgb ⊢
      go_quiet (fail)
      clear hrem m1 m2 e0 t0 s1 eq5 hmE hmT
      have HD3 : Hid (DBox w.heap.size (some ⟨gb, off, none⟩) n c (g + 1) [ak, an, af, aa, ab, ax, ay] (Wq.drewN nq)) := Lib.hid (HD3.out.below ⟨rfl, rfl, rfl, Nat.le_refl _, fun _ _ => rfl⟩)
      have HB3 : Hid (Below w.heap.size w (Wq.drewN nq)) := Lib.hid ⟨HB3.out.os, HB3.out.tape, HB3.out.output, HB3.out.size, HB3.out.block⟩
      generalize Wq.drewN nq = Wp at HD3 HB3 ⊢
      have s0 := HD3.out.s 0 (by decide)
      simp only [List.getD_cons_zero] at s0
      have t0 := HD3.out.t0
      have t1 := HD3.out.t1
      have r0 := HD3.out.r0
      have r1 := HD3.out.r1
      have z0 := HD3.out.z0
      have z1 := HD3.out.z1
      have hs0 := block_lt_of_cell s0
      have ht0 := block_lt_of_cell t0
      have hr0 := block_lt_of_cell r0
      simp only at hs0 ht0 hr0
      have fr0 := set2_same0 (x := .slice (some ⟨gb, off, none⟩) n c) (y := .int .i64 (g + 1)) r0
      have fr1 := set2_same1 (x := .slice (some ⟨gb, off, none⟩) n c) (y := .int .i64 (g + 1)) r1
      have HFR0 := Lib.hid fr0
      have HFR1 := Lib.hid fr1
      have HBF := Lib.hid (set2r_below HB3.out (show w.heap.size ≤ w.heap.size + 2 by omega) (.slice (some ⟨gb, off, none⟩) n c) (.int .i64 (g + 1)))
      unfold set2r at HBF
      clear fr0 fr1 HB3 HD3
      go_wp2
      have fr0 := HFR0.out
      have fr1 := HFR1.out
      exact bodyPost_ret (v := .tuple #[.agg #[.slice (some ⟨gb, off, none⟩) n c, .int .i64 (g + 1)], .bool true]) (by simp [results, Try.results13, go_sem, fr0, fr1]) rfl (HFIN.out _ HBF.out)
    · have dk : decide (ak < 4) = false := by simpa using hk
      clear hk
      go_enter Try.func13, Try.ntmps13
      go_wp2
      exact bodyPost_ret (v := .tuple #[.agg #[.slice a n c, .int .i64 (g + 1)], .bool true]) (by simp [results, Try.results13, go_sem]) rfl (HFIN.out _ (bel_alloc (bel_alloc (bel_alloc (Below.refl _ _) _) _) _))
theorem does_any (K0 : Nat → Prop) (b : Nat) (us : List Un) (g : Int) (a : Option Addr) (c : Nat) (w : World) (ak an af aa ab ax ay : Int) (h : DoMem K0 b us g a c w) :
    Calls Try.prog 13 #[.pointer (some ⟨b, 0, none⟩), .agg #[.slice a us.length c, .int .i64 (g + 1)], .agg #[.int .i64 ak, .int .i64 an, .int .i64 af, .int .i64 aa, .int .i64 ab, .int .i64 ax, .int .i64 ay]] w (DoesPost K0 b a w) := by
  by_cases h1 : ak = 1
  · subst h1; exact does_1 K0 b us g a c w an af aa ab ax ay h
  by_cases h2 : ak = 2
  · subst h2; exact does_2 K0 b us g a c w an af aa ab ax ay h
  by_cases h3 : ak = 3
  · subst h3; exact does_3 K0 b us g a c w an af aa ab ax ay h
  by_cases h4 : ak = 4
  · subst h4; exact does_4 K0 b us g a c w an af aa ab ax ay h
  by_cases h5 : ak = 5
  · subst h5; exact does_5 K0 b us g a c w an af aa ab ax ay h
  exact does_other K0 b us g a c w ak an af aa ab ax ay h h1 h2 h3 h4 h5
end Go.Proofs.Ytdkokfpbmmjfkaa
