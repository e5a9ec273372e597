/-
  The walk of the law FragAll.
-/
import Derived.Test.YtfkhfincggligaaFrag8
import Derived.Test.YtfkhfincggligaaFew
namespace Go.Proofs.Ytfkhfincggligaa
open Go.RowKit
set_option linter.unusedVariables false

theorem own_str {B : Nat} {a : Option Addr} {c : Nat} {ms : List (List UInt8)} {w : World} (h : OwnV 9 1 B a c (ms.map strCells1) w) (h0 : 0 < ms.length) : ∃ gb, a = some ⟨gb, 0, none⟩ ∧ gb < w.heap.size ∧ ∀ i (hi : i < ms.length), w.cell? ⟨gb, i, none⟩ = some (.string (bs ms[i])) := by
  have hlen : (ms.map strCells1).length = ms.length := by simp
  rcases h.1.2 with ⟨-, h00⟩ | ⟨g, cap, cur, hv, -, hg, hnc, -, hsz, htk⟩
  · omega
  · have hr := h.row (str_wide _) (by rw [hlen]; exact h0)
    obtain ⟨b, off, e1, hc⟩ := hr
    simp only [Value.slice.injEq] at hv
    rw [hv.1] at e1
    simp only [Option.some.injEq, Addr.mk.injEq] at e1
    obtain ⟨rfl, rfl, -⟩ := e1
    refine ⟨g, hv.1, (Array.getElem?_eq_some_iff.1 hg).1, fun i hi => ?_⟩
    have h1 := hc i (by rw [hlen]; exact hi) 0 (by decide)
    rw [Nat.zero_add, Nat.mul_one, Nat.add_zero] at h1
    rw [h1]
    simp [strCells1]
/-- The parts of some messages, and these, each in a row of its own. -/
structure FaMem (w : World) (ms : List (List UInt8)) (a : Option Addr) (c : Nat) (a2 : Option Addr) (c2 : Nat) (ps : List Pt) (wr : World) : Prop where
  r1 : OwnV 34 2 0 a c (ps.map ptCells) wr
  r2 : OwnV 9 1 0 a2 c2 (ms.map strCells1) wr
  n1 : ∀ x, a = some x → w.heap.size ≤ x.block
  n2 : ∀ x, a2 = some x → w.heap.size ≤ x.block
  dj : ∀ x y, a = some x → a2 = some y → x.block ≠ y.block
  bel : Below w.heap.size w wr
theorem FaMem.keep {w : World} {ms : List (List UInt8)} {a a2 : Option Addr} {c c2 : Nat} {ps : List Pt} {wr w' : World} (h : FaMem w ms a c a2 c2 ps wr) (hb : Below wr.heap.size wr w') : FaMem w ms a c a2 c2 ps w' :=
  ⟨h.r1.touch (touch_of_below (S := fun _ => False) hb) (fun _ _ => id), h.r2.touch (touch_of_below (S := fun _ => False) hb) (fun _ _ => id), h.n1, h.n2, h.dj, h.bel.trans (hb.mono h.bel.size)⟩
theorem map_none {a : Option Addr} {P : Nat → Prop} (h : ∀ x, a = some x → P x.block) (k : Nat) (e : a.map (·.block) = some k) : P k := by
  cases a with
  | none => simp at e
  | some y => simp at e; subst e; exact h y rfl
theorem FaMem.parts {w : World} {ms : List (List UInt8)} {a a2 a' : Option Addr} {c c2 c' : Nat} {ps ps' : List Pt} {wr w' : World} (h : FaMem w ms a c a2 c2 ps wr) (ho : OwnV 34 2 0 a' c' (ps'.map ptCells) w') (ht : Touch (fun k => a.map (·.block) = some k) wr w') (hn : ∀ x, a' = some x → a.map (·.block) = some x.block ∨ wr.heap.size ≤ x.block) : FaMem w ms a' c' a2 c2 ps' w' := by
  have hs := h.bel.size
  refine ⟨ho, h.r2.touch ht (fun y hy e => map_none (P := fun k => k = y.block → False) (fun x hx e => h.dj x y hx hy e) _ e rfl), fun x hx => ?_, h.n2, fun x y hx hy => ?_, h.bel.trans (ht.below hs fun k hk e => by have := map_none (P := fun k => w.heap.size ≤ k) h.n1 k e; omega)⟩
  · rcases hn x hx with e | e
    · exact map_none (P := fun k => w.heap.size ≤ k) h.n1 _ e
    · omega
  · rcases hn x hx with e | e
    · exact map_none (P := fun k => k ≠ y.block) (fun z hz => h.dj z y hz hy) _ e
    · have := h.r2.lt y hy; omega
theorem FaMem.texts {w : World} {ms ms' : List (List UInt8)} {a a2 a' : Option Addr} {c c2 c' : Nat} {ps : List Pt} {wr w' : World} (h : FaMem w ms a c a2 c2 ps wr) (ho : OwnV 9 1 0 a' c' (ms'.map strCells1) w') (ht : Touch (fun k => a2.map (·.block) = some k) wr w') (hn : ∀ x, a' = some x → a2.map (·.block) = some x.block ∨ wr.heap.size ≤ x.block) : FaMem w ms' a c a' c' ps w' := by
  have hs := h.bel.size
  refine ⟨h.r1.touch ht (fun y hy e => map_none (P := fun k => y.block = k → False) (fun x hx e => h.dj y x hy hx e) _ e rfl), ho, h.n1, fun x hx => ?_, fun x y hx hy => ?_, h.bel.trans (ht.below hs fun k hk e => by have := map_none (P := fun k => w.heap.size ≤ k) h.n2 k e; omega)⟩
  · rcases hn x hx with e | e
    · exact map_none (P := fun k => w.heap.size ≤ k) h.n2 _ e
    · omega
  · rcases hn y hy with e | e
    · exact map_none (P := fun k => x.block ≠ k) (fun z hz => h.dj x z hx hz) _ e
    · have := h.r1.lt x hx; omega
theorem parts_snoc (ms : List (List UInt8)) (m : List UInt8) : partsOf (ms ++ [m]) = partsOf ms ++ cutL m := by simp [partsOf]
/-- All that the first loop knows. -/
structure FaIn (w : World) (k n : Nat) (ms : List (List UInt8)) (a : Option Addr) (c : Nat) (a2 : Option Addr) (c2 : Nat) (wr : World) : Prop where
  hn : (partsOf ms).length = n
  hk : ms.length = k
  sz : ∀ m ∈ ms, m.length ≤ 700
  mem : FaMem w ms a c a2 c2 (partsOf ms) wr
theorem parts_text (ms : List (List UInt8)) : ∀ p ∈ partsOf ms, p.text.length ≤ 1000000 := by
  intro p hp
  unfold partsOf at hp
  obtain ⟨x, hx, hpx⟩ := List.mem_flatten.1 hp
  obtain ⟨m, -, rfl⟩ := List.mem_map.1 hx
  obtain ⟨i, hi, rfl⟩ := List.getElem_of_mem hpx
  have := cutL_text m i hi
  omega
set_option maxRecDepth 100000 in
set_option maxHeartbeats 2000000 in
theorem fragAll_walk (w : World) (a0 : Option Addr) (cap : Nat) (ss : List ByteArray) (hrow : StrRow w a0 ss) :
    Calls Try.prog 5 #[.slice a0 ss.length cap] w fun e w' => e = .returned (.bool true) ∧ Below w.heap.size w w' := by
  have HAW := Lib.hid (fun W => awake12_any W)
  obtain ⟨hlm, hsz, hcells⟩ := hrow
  unfold maxLen at hlm
  have HSZ := Lib.hid hsz
  have HCE := Lib.hid hcells
  clear hsz hcells
  go_enter Try.func5, Try.ntmps5
  go_wp2_with fail
  refine (HAW.out _).mono ?_
  rintro r w1 ⟨rfl, hb1⟩
  have HM0 : Hid (FaIn w 0 0 [] none 0 none 0 w1) := Lib.hid ⟨rfl, rfl, (fun m hm => by simp at hm), ⟨⟨World.ownsRow_nil _ _ _ _, (fun x hx => by cases hx)⟩, ⟨World.ownsRow_nil _ _ _ _, (fun x hx => by cases hx)⟩, (fun x hx => by cases hx), (fun x hx => by cases hx), (fun x y hx => by cases hx), hb1⟩⟩
  clear hb1 HAW
  go_wp2
  go_loopw [3, 4, 5] (fun lv tv iv wr => ∃ (k n : Nat) (ms : List (List UInt8)) (a : Option Addr) (c : Nat) (a2 : Option Addr) (c2 : Nat), k ≤ 8 ∧ n ≤ 4 * k ∧ lv = .slice a n c ∧ tv = .slice a2 k c2 ∧ iv = .int .i64 k ∧ Hid (FaIn w k n ms a c a2 c2 wr)) (fun _ _ iv _ => 8 - (intOf iv).toNat)
  case atStart => exact ⟨0, 0, [], none, 0, none, 0, by omega, by omega, rfl, rfl, rfl, HM0⟩
  case round =>
    obtain ⟨k, n, ms, a, c, a2, c2, hk, hn, rfl, rfl, rfl, HM⟩ := hrel
    by_cases hgo : k < ss.length ∧ k < 8
    · obtain ⟨hlt, h8⟩ := hgo
      obtain ⟨gb, off, rfl, hc⟩ := HCE.out (by omega)
      have c0 := hc k hlt
      have hgl : gb < w.heap.size := block_lt_of_cell c0
      have d0 : wr.cell? ⟨gb, off + k, none⟩ = some (.string ss[k]) := (HM.out.mem.bel.cell (p := ⟨gb, off + k, none⟩) hgl).trans c0
      have hgr : gb < wr.heap.size := block_lt_of_cell d0
      obtain ⟨m, e0, hml⟩ := any_list ss[k] 700
      have HCUT := Lib.hid (fun W => cut_any ss[k] 700 W (HSZ.out k hlt) (by decide))
      rw [e0] at HCUT
      have HFC := Lib.hid (fun W => fragCut_any m W (by omega))
      clear c0 hc e0
      generalize ss[k] = s0 at d0 HCUT
      have hi0 : (0 : Int) ≤ (k : Int) := by omega
      have hi1 : (k : Int) < (ss.length : Int) := by omega
      have hi2 : (k : Int) < 8 := by omega
      have hmm : moreN m.length + 1 ≤ 4 := by unfold moreN; omega
      go_wp2_with fail
      refine (HCUT.out _).mono ?_
      rintro r w' ⟨rfl, rfl⟩
      clear HCUT d0
      go_wp2_with fail
      refine (HFC.out _).mono ?_
      rintro r w2 ⟨fa, fc, rfl, hpm⟩
      have HM2 := Lib.hid (HM.out.mem.keep hpm.bel)
      obtain ⟨g, rfl, hg, hgB, -⟩ := own_part hpm.row (by rw [cutL_len]; omega)
      have hvr := hpm.row.row (pt_wide _) (by rw [List.length_map, cutL_len]; omega)
      obtain ⟨g', off', e1, hvc⟩ := hvr
      simp only [Option.some.injEq, Addr.mk.injEq] at e1
      obtain ⟨rfl, rfl, -⟩ := e1
      obtain ⟨a3, c3, w3, hrun, ho, hto, hnw⟩ := own_app (T := 23) ptTy Try.underlying23 HM2.out.r1 g 0 (moreN m.length + 1) fc ((cutL m).map ptCells) (pt_wide _) (by rw [List.length_map, cutL_len]) hvc (by rw [List.length_map, HM.out.hn]; omega) n (by rw [List.length_map]; exact HM.out.hn)
      rw [← List.map_append] at ho
      have HRUN := Lib.hid hrun
      have HM3 := Lib.hid (HM2.out.parts ho hto hnw)
      obtain ⟨a4, c4, w4, hrun2, ho2, hto2, hnw2⟩ := str_one HM3.out.r2 m (by rw [HM.out.hk]; omega) k HM.out.hk
      have HRUN2 := Lib.hid hrun2
      have HM4 : Hid (FaIn w (k + 1) (n + (moreN m.length + 1)) (ms ++ [m]) a3 c3 a4 c4 w4) := Lib.hid ⟨by rw [parts_snoc, List.length_append, HM.out.hn, cutL_len], by rw [List.length_append, HM.out.hk]; rfl, (fun x hx => by
        rcases List.mem_append.1 hx with hx | hx
        · exact HM.out.sz x hx
        · simp at hx; subst hx; exact hml), by rw [parts_snoc]; exact HM3.out.texts ho2 hto2 hnw2⟩
      clear hrun ho hto hnw hrun2 ho2 hto2 hnw2 hvc hpm hg hgB HM2 HM3 HM HFC
      generalize moreN m.length + 1 = q at hmm HRUN HM4 ⊢
      go_wp2_with (first | (at_builtin; refine wpList_append_run _ rfl (.tmp 37) (.tmp 38) 23 23 rfl _ _ rfl rfl (.slice a3 (n + q) c3) w3 HRUN.out ?_) | (at_builtin; refine wpList_append_run _ rfl (.tmp 40) (.tmp 42) 47 47 rfl _ _ rfl rfl (.slice a4 (k + 1) c4) w4 HRUN2.out ?_))
      go_roundw
      case rel => exact ⟨k + 1, n + q, ms ++ [m], a3, c3, a4, c4, by omega, by omega, rfl, rfl, by go_num, HM4⟩
      case measure => simp [intOf] <;> omega
    · have hend : ((ss.length : Int) ≤ (k : Int)) ∨ ((k : Int) < (ss.length : Int) ∧ (8 : Int) ≤ (k : Int)) := by omega
      have HAF := Lib.hid (parts_after ms (fun m hm => by have := HM.out.sz m hm; omega))
      have HJ0 := Lib.hid (JAt.start wr)
      have hA : Below wr.heap.size wr (wr.alloc (.cells #[.int .i64 0, .slice none 0 0] 32)) := bel_alloc (Below.refl _ _) _
      have HMa := Lib.hid (HM.out.mem.keep hA)
      have HLT1 := Lib.hid HM.out.mem.r1.lt
      have HLT2 := Lib.hid HM.out.mem.r2.lt
      have HALL := Lib.hid (joAll_any wr.heap.size (.slice none 0 0) (partsOf ms) a c _ HJ0.out (HMa.out.r1.row (pt_wide _)) (fun x hx => ⟨by have := HLT1.out x hx; omega, by simp [Value.ownBlock]⟩) (by rw [HM.out.hn]; omega) (parts_text ms) HAF.out.2)
      rw [HAF.out.1] at HALL
      simp only [HM.out.hn] at HALL
      have hbw := HM.out.mem.bel.size
      have HMK := Lib.hid HM.out.hk
      clear hA hgo HJ0
      rcases hend with hend | ⟨hend, hend2⟩
      all_goals
        go_wp2_with fail
        generalize wr.alloc (.cells #[.int .i64 0, .slice none 0 0] 32) = W1 at HMa HALL ⊢
        refine HALL.out.mono ?_
        rintro r w5 ⟨a5, c5, v5, rfl, hall⟩
        have hr2 := HMa.out.r2.touch hall.tch (fun x hx e => by
          rcases e with e | e
          · have := HLT2.out x hx; omega
          · simp [Value.ownBlock] at e)
        have HR2 := Lib.hid hr2
        have HR5 := Lib.hid hall.row
        have HB5 := Lib.hid (HMa.out.bel.trans (hall.tch.below HMa.out.bel.size (fun j hj e => by
          rcases e with e | e
          · omega
          · simp [Value.ownBlock] at e)))
        rw [show ms.length = k from HMK.out]
        clear hall hr2 HMa HALL HLT1 HLT2 HAF HM
        go_wp2
        go_loopw [60] (fun iv wx => ∃ j : Nat, j ≤ k ∧ iv = .int .i64 j ∧ Hid (OwnV 9 1 0 a2 c2 (ms.map strCells1) wx ∧ OwnV 9 1 0 a5 c5 (ms.map strCells1) wx ∧ Below w.heap.size w wx)) (fun iv _ => k - (intOf iv).toNat)
        case atStart => exact ⟨0, Nat.zero_le _, rfl, Lib.hid ⟨HR2.out, HR5.out, HB5.out⟩⟩
        case round =>
          obtain ⟨j, hj, rfl, HX⟩ := hrel
          by_cases hjk : j < k
          · obtain ⟨g2, rfl, hg2, hc2⟩ := own_str HX.out.1 (by rw [HMK.out]; omega)
            obtain ⟨g5, rfl, hg5, hc5⟩ := own_str HX.out.2.1 (by rw [HMK.out]; omega)
            have x2 := hc2 j (by rw [HMK.out]; exact hjk)
            have x5 := hc5 j (by rw [HMK.out]; exact hjk)
            generalize ms[j]'(by rw [HMK.out]; exact hjk) = mj at x2 x5
            have hsm := str_eq (bs mj)
            have hj0 : (0 : Int) ≤ (j : Int) := by omega
            have hj1 : (j : Int) < (k : Int) := by omega
            clear hc2 hc5
            go_upto_region 21 with (fail)
            go_quiet (fail)
            have HX2 : Hid (OwnV 9 1 0 (some ⟨g2, 0, none⟩) c2 (ms.map strCells1) (wr.drewN nq) ∧ OwnV 9 1 0 (some ⟨g5, 0, none⟩) c5 (ms.map strCells1) (wr.drewN nq) ∧ Below w.heap.size w (wr.drewN nq)) := Lib.hid ⟨HX.out.1, HX.out.2.1, ⟨HX.out.2.2.os, HX.out.2.2.tape, HX.out.2.2.output, HX.out.2.2.size, HX.out.2.2.block⟩⟩
            go_wp2
            go_roundw
            case rel => exact ⟨j + 1, by omega, by go_num, HX2⟩
            case measure => simp [intOf] <;> omega
          · obtain rfl : j = k := by omega
            have HB := Lib.hid HX.out.2.2
            go_wp2
            go_ret
            exact ⟨rfl, HB.out⟩
end Go.Proofs.Ytfkhfincggligaa
