/-
  Layer 18: Check: may a change be?
-/
import Derived.Test.YtcbadcbnknmdnaaDoorRos5
namespace Go.Proofs.YtcbadcbnknmdnaaDoor
open Go.RowKit
set_option linter.unusedVariables false

/-- What a check reads: its roster's box and its change's. -/
structure RckMem (w : World) (n : Nat) (e : Int) (k p : Int) (v : Value) (wr : World) : Prop where
  r0 : wr.cell? ⟨w.heap.size, 0, none⟩ = some (.int .u32 (n : Int))
  r1 : wr.cell? ⟨w.heap.size, 1, none⟩ = some (.int .i64 e)
  c0 : wr.cell? ⟨w.heap.size + 1, 0, none⟩ = some (.int .i64 k)
  c1 : wr.cell? ⟨w.heap.size + 1, 1, none⟩ = some (.int .i64 p)
  c2 : wr.cell? ⟨w.heap.size + 1, 2, none⟩ = some v
  bel : Below w.heap.size w wr
theorem RckMem.lt {w : World} {n : Nat} {e k p : Int} {v : Value} {wr : World} (h : RckMem w n e k p v wr) : w.heap.size + 1 < wr.heap.size := block_lt_of_cell h.c0
theorem RckMem.keep {w : World} {n : Nat} {e k p : Int} {v : Value} {wr w' : World} (h : RckMem w n e k p v wr) (hb : Below wr.heap.size wr w') : RckMem w n e k p v w' := by
  have hl := h.lt
  exact ⟨(hb.cell (p := ⟨w.heap.size, 0, none⟩) (show w.heap.size < wr.heap.size by omega)).trans h.r0, (hb.cell (p := ⟨w.heap.size, 1, none⟩) (show w.heap.size < wr.heap.size by omega)).trans h.r1, (hb.cell (p := ⟨w.heap.size + 1, 0, none⟩) hl).trans h.c0, (hb.cell (p := ⟨w.heap.size + 1, 1, none⟩) hl).trans h.c1, (hb.cell (p := ⟨w.heap.size + 1, 2, none⟩) hl).trans h.c2, h.bel.trans (hb.mono h.bel.size)⟩
theorem RckMem.new (w : World) (n : Nat) (e k p : Int) (v : Value) : RckMem w n e k p v ((w.alloc (.cells #[.int .u32 (n : Int), .int .i64 e] 27)).alloc (.cells #[.int .i64 k, .int .i64 p, v] 34)) := by
  have e1 : (w.alloc (.cells #[.int .u32 (n : Int), .int .i64 e] 27)).heap.size = w.heap.size + 1 := by simp
  exact ⟨alloc_cell (new_cell rfl rfl) _, alloc_cell (new_cell rfl rfl) _, new_cell e1.symm rfl, new_cell e1.symm rfl, new_cell e1.symm rfl, bel_alloc (bel_alloc (Below.refl _ _) _) _⟩
def ChkPost (n : Nat) (c : Chg) (w : World) (r : Ending) (w' : World) : Prop := r = .returned (.int .i64 (chk n c)) ∧ Below w.heap.size w w'
def chV (k p : Int) (a : Option Addr) (N c : Nat) : Value := .agg #[.int .i64 k, .int .i64 p, .slice a N c]
set_option maxRecDepth 100000 in
set_option maxHeartbeats 4000000 in
theorem rcheck_any (n : Nat) (e k p : Int) (a : Option Addr) (c : Nat) (V : List Int) (w : World) (hn : n < 4294967296) (hr : IntRow .i64 w a V) (hl : V.length ≤ 1000) : Calls Tryd.prog 9 #[rosV n e, chV k p a V.length c] w (ChkPost n ⟨k, p, V⟩ w) := by
  have HPL := Lib.hid (fun W => player_any p W)
  have HHAS := Lib.hid (fun W => rhas_any n e p W hn)
  have HMO := Lib.hid (fun W (hW : Below w.heap.size w W) => rmost_any n e p a c V W hn (hr.below hW) hl)
  have HM := Lib.hid (RckMem.new w n e k p (.slice a V.length c))
  have HF : Hid (∀ z W, chk n ⟨k, p, V⟩ = z → Below w.heap.size w W → ChkPost n ⟨k, p, V⟩ w (.returned (.int .i64 z)) W) := Lib.hid fun z W h1 h2 => ⟨by rw [h1], h2⟩
  generalize hPost : ChkPost n ⟨k, p, V⟩ w = Post at HF ⊢
  clear hPost hr
  unfold rosV at HHAS HMO ⊢
  unfold chV
  by_cases hk : k < 1 ∨ 3 < k
  · have HZ := Lib.hid (show chk n ⟨k, p, V⟩ = 7 by simp only [chk]; rw [if_pos hk])
    rcases hk with hk | hk
    all_goals
      go_enter Tryd.func9, Tryd.ntmps9
      go_wp2
      first | exact HF.out _ _ HZ.out HM.out.bel | (go_ret; exact HF.out _ _ HZ.out HM.out.bel)
  · by_cases hin : 0 ≤ p ∧ p < 32
    · rw [inR_iff.2 hin] at HPL
      cases hh : hasP n p with
      | false =>
        rw [hh] at HHAS
        by_cases h1 : k = 1
        · subst h1
          by_cases hz : 0 < V.length
          · have HZ := Lib.hid (show chk n ⟨1, p, V⟩ = 4 by simp only [chk]; rw [if_neg (by omega), if_pos (by omega)])
            have hz1 : (0 : Int) < (V.length : Int) := by omega
            clear hk hin
            go_enter Tryd.func9, Tryd.ntmps9
            go_wp2_with (go_at_call 32; refine (HPL.out _).mono ?_; rintro r w1 ⟨rfl, rfl⟩)
            first | exact HF.out _ _ HZ.out HM.out.bel | (go_ret; exact HF.out _ _ HZ.out HM.out.bel)
          · have HZ := Lib.hid (show chk n ⟨1, p, V⟩ = 0 by simp only [chk]; rw [if_neg (by omega), if_neg (by omega), if_pos trivial, hh]; rfl)
            have hz1 : (V.length : Int) ≤ 0 := by omega
            clear hk hin hz
            go_enter Tryd.func9, Tryd.ntmps9
            go_wp2_with (go_at_call 32; refine (HPL.out _).mono ?_; rintro r w1 ⟨rfl, rfl⟩)
            refine (HHAS.out _).mono ?_
            rintro r w1 ⟨rfl, hb1⟩
            have HM1 := Lib.hid (HM.out.keep hb1)
            have r0 := HM1.out.r0
            have r1 := HM1.out.r1
            have c0 := HM1.out.c0
            have c1 := HM1.out.c1
            have hlt := HM1.out.lt
            clear hb1
            go_wp2
            first | exact HF.out _ _ HZ.out HM1.out.bel | (go_ret; exact HF.out _ _ HZ.out HM1.out.bel)
        · by_cases h0 : p = 0
          · subst h0
            have HZ := Lib.hid (show chk n ⟨k, 0, V⟩ = 4 by simp only [chk]; rw [if_neg (by omega), if_pos (by simp [h1])])
            obtain rfl | rfl : k = 2 ∨ k = 3 := by omega
            all_goals
              clear hk hin
              go_enter Tryd.func9, Tryd.ntmps9
              go_wp2_with (go_at_call 32; refine (HPL.out _).mono ?_; rintro r w1 ⟨rfl, rfl⟩)
              first | exact HF.out _ _ HZ.out HM.out.bel | (go_ret; exact HF.out _ _ HZ.out HM.out.bel)
          · have hp0 : (p == 0) = false := by rw [beq_eq_false_iff_ne]; exact h0
            by_cases h2 : k = 2 ∧ 0 < V.length
            · have HZ := Lib.hid (show chk n ⟨k, p, V⟩ = 4 by simp only [chk]; rw [if_neg (by omega), if_pos (by omega)])
              obtain ⟨rfl, h2⟩ := h2
              have hz1 : (0 : Int) < (V.length : Int) := by omega
              clear hk hin
              go_enter Tryd.func9, Tryd.ntmps9
              go_wp2_with (go_at_call 32; refine (HPL.out _).mono ?_; rintro r w1 ⟨rfl, rfl⟩)
              first | exact HF.out _ _ HZ.out HM.out.bel | (go_ret; exact HF.out _ _ HZ.out HM.out.bel)
            · have HZ := Lib.hid (show chk n ⟨k, p, V⟩ = 13 by simp only [chk]; rw [if_neg (by omega), if_neg (by omega), if_neg h1, if_pos hh])
              obtain ⟨rfl, hz1⟩ | rfl : (k = 2 ∧ (V.length : Int) ≤ 0) ∨ k = 3 := by omega
              all_goals
                clear hk hin h2
                go_enter Tryd.func9, Tryd.ntmps9
                go_wp2_with (go_at_call 32; refine (HPL.out _).mono ?_; rintro r w1 ⟨rfl, rfl⟩)
                refine (HHAS.out _).mono ?_
                rintro r w1 ⟨rfl, hb1⟩
                have HM1 := Lib.hid (HM.out.keep hb1)
                have r0 := HM1.out.r0
                have r1 := HM1.out.r1
                have c0 := HM1.out.c0
                have c1 := HM1.out.c1
                have hlt := HM1.out.lt
                clear hb1
                go_wp2
                first | exact HF.out _ _ HZ.out HM1.out.bel | (go_ret; exact HF.out _ _ HZ.out HM1.out.bel)
      | true =>
        rw [hh] at HHAS
        by_cases h1 : k = 1
        · subst h1
          by_cases hz : 0 < V.length
          · have HZ := Lib.hid (show chk n ⟨1, p, V⟩ = 4 by simp only [chk]; rw [if_neg (by omega), if_pos (by omega)])
            have hz1 : (0 : Int) < (V.length : Int) := by omega
            clear hk hin
            go_enter Tryd.func9, Tryd.ntmps9
            go_wp2_with (go_at_call 32; refine (HPL.out _).mono ?_; rintro r w1 ⟨rfl, rfl⟩)
            first | exact HF.out _ _ HZ.out HM.out.bel | (go_ret; exact HF.out _ _ HZ.out HM.out.bel)
          · have HZ := Lib.hid (show chk n ⟨1, p, V⟩ = 10 by simp only [chk]; rw [if_neg (by omega), if_neg (by omega), if_pos trivial, hh]; rfl)
            have hz1 : (V.length : Int) ≤ 0 := by omega
            clear hk hin hz
            go_enter Tryd.func9, Tryd.ntmps9
            go_wp2_with (go_at_call 32; refine (HPL.out _).mono ?_; rintro r w1 ⟨rfl, rfl⟩)
            refine (HHAS.out _).mono ?_
            rintro r w1 ⟨rfl, hb1⟩
            have HM1 := Lib.hid (HM.out.keep hb1)
            clear hb1
            go_wp2
            first | exact HF.out _ _ HZ.out HM1.out.bel | (go_ret; exact HF.out _ _ HZ.out HM1.out.bel)
        · by_cases h0 : p = 0
          · subst h0
            have HZ := Lib.hid (show chk n ⟨k, 0, V⟩ = 4 by simp only [chk]; rw [if_neg (by omega), if_pos (by simp [h1])])
            obtain rfl | rfl : k = 2 ∨ k = 3 := by omega
            all_goals
              clear hk hin
              go_enter Tryd.func9, Tryd.ntmps9
              go_wp2_with (go_at_call 32; refine (HPL.out _).mono ?_; rintro r w1 ⟨rfl, rfl⟩)
              first | exact HF.out _ _ HZ.out HM.out.bel | (go_ret; exact HF.out _ _ HZ.out HM.out.bel)
          · have hp0 : (p == 0) = false := by rw [beq_eq_false_iff_ne]; exact h0
            by_cases h2 : k = 2 ∧ 0 < V.length
            · have HZ := Lib.hid (show chk n ⟨k, p, V⟩ = 4 by simp only [chk]; rw [if_neg (by omega), if_pos (by omega)])
              obtain ⟨rfl, h2⟩ := h2
              have hz1 : (0 : Int) < (V.length : Int) := by omega
              clear hk hin
              go_enter Tryd.func9, Tryd.ntmps9
              go_wp2_with (go_at_call 32; refine (HPL.out _).mono ?_; rintro r w1 ⟨rfl, rfl⟩)
              first | exact HF.out _ _ HZ.out HM.out.bel | (go_ret; exact HF.out _ _ HZ.out HM.out.bel)
            · obtain ⟨rfl, hz1⟩ | rfl : (k = 2 ∧ (V.length : Int) ≤ 0) ∨ k = 3 := by omega
              · have HZ := Lib.hid (show chk n ⟨2, p, V⟩ = 0 by simp only [chk]; rw [if_neg (by omega), if_neg (by omega), if_neg h1, if_neg (by rw [hh]; decide), if_neg (by omega)])
                clear hk hin h2
                go_enter Tryd.func9, Tryd.ntmps9
                go_wp2_with (go_at_call 32; refine (HPL.out _).mono ?_; rintro r w1 ⟨rfl, rfl⟩)
                refine (HHAS.out _).mono ?_
                rintro r w1 ⟨rfl, hb1⟩
                have HM1 := Lib.hid (HM.out.keep hb1)
                have r0 := HM1.out.r0
                have r1 := HM1.out.r1
                have c0 := HM1.out.c0
                have c1 := HM1.out.c1
                have hlt := HM1.out.lt
                clear hb1
                go_wp2
                first | exact HF.out _ _ HZ.out HM1.out.bel | (go_ret; exact HF.out _ _ HZ.out HM1.out.bel)
              · have HZ := Lib.hid (show chk n ⟨3, p, V⟩ = if mostP n p V = false then 15 else 0 by simp only [chk]; rw [if_neg (by omega), if_neg (by omega), if_neg h1, if_neg (by rw [hh]; decide)]; simp)
                clear hk hin h2
                generalize mostP n p V = q at HZ HMO
                cases q
                all_goals
                  simp only [Bool.true_eq_false, if_false, if_true] at HZ
                  go_enter Tryd.func9, Tryd.ntmps9
                  go_wp2_with (go_at_call 32; refine (HPL.out _).mono ?_; rintro r w1 ⟨rfl, rfl⟩)
                  refine (HHAS.out _).mono ?_
                  rintro r w1 ⟨rfl, hb1⟩
                  have HM1 := Lib.hid (HM.out.keep hb1)
                  have r0 := HM1.out.r0
                  have r1 := HM1.out.r1
                  have c0 := HM1.out.c0
                  have c1 := HM1.out.c1
                  have c2 := HM1.out.c2
                  have hlt := HM1.out.lt
                  clear hb1
                  go_wp2_with fail
                  refine (HMO.out _ HM1.out.bel).mono ?_
                  rintro r w2 ⟨rfl, hb2⟩
                  have HM2 := Lib.hid (HM1.out.keep hb2)
                  clear hb2 r0 r1 c0 c1 c2 hlt
                  go_wp2
                  first | exact HF.out _ _ HZ.out HM2.out.bel | (go_ret; exact HF.out _ _ HZ.out HM2.out.bel)
    · have e0 : inR p = false := by
        cases hq : inR p with
        | false => rfl
        | true => exact absurd (inR_iff.1 hq) hin
      rw [e0] at HPL
      have HZ := Lib.hid (show chk n ⟨k, p, V⟩ = 4 by simp only [chk]; rw [if_neg (by omega), if_pos (by omega)])
      obtain rfl | rfl | rfl : k = 1 ∨ k = 2 ∨ k = 3 := by omega
      all_goals
        clear hk hin
        go_enter Tryd.func9, Tryd.ntmps9
        go_wp2_with (go_at_call 32; refine (HPL.out _).mono ?_; rintro r w1 ⟨rfl, rfl⟩)
        first | exact HF.out _ _ HZ.out HM.out.bel | (go_ret; exact HF.out _ _ HZ.out HM.out.bel)
end Go.Proofs.YtcbadcbnknmdnaaDoor
