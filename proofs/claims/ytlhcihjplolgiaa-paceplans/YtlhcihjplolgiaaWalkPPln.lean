/-
  The walk of the law PacePlans.
-/
import Derived.Test.YtlhcihjplolgiaaPace12
import Derived.Test.YtlhcihjplolgiaaPace14
import Derived.Test.YtlhcihjplolgiaaPlanM
import Derived.Test.YtlhcihjplolgiaaVals17
import Derived.Test.YtlhcihjplolgiaaWalkPStd
import Derived.Deep.DeepCutAuto
import Derived.Deep.CutBlock
namespace Go.Proofs.Ytlhcihjplolgiaa
open Go.RowKit
set_option linter.unusedVariables false

structure PlS (w W : World) (X : Nat) (a : Option Addr) (c : Nat) (L : List Sp) (a9 : Option Addr) (c9 : Nat) (a10 : Option Addr) (A : List Sp) (s : Int) : Prop where
  plan : PlanAt W X a c L
  r9 : FRow W a9 L
  k9 : L.length ≤ c9
  r10 : FRow W a10 A
  rise : Rise A
  rest : Rest17 A L s
  s0 : 0 ≤ s
  bel : Below w.heap.size w W
  wX : w.heap.size ≤ X
  wa : ∀ x, a = some x → w.heap.size ≤ x.block
  n9 : ∀ x, a9 = some x → x.block ≠ X ∧ ∀ y, a = some y → y.block ≠ x.block
  n10 : ∀ x, a10 = some x → x.block ≠ X ∧ ∀ y, a = some y → y.block ≠ x.block
theorem PlS.keep {w W W' : World} {X : Nat} {a : Option Addr} {c : Nat} {L : List Sp} {a9 : Option Addr} {c9 : Nat} {a10 : Option Addr} {A : List Sp} {s : Int} (h : PlS w W X a c L a9 c9 a10 A s) (hb : Below W.heap.size W W') : PlS w W' X a c L a9 c9 a10 A s :=
  ⟨h.plan.keep hb, h.r9.below hb, h.k9, h.r10.below hb, h.rise, h.rest, h.s0, h.bel.trans (hb.mono h.bel.size), h.wX, h.wa, h.n9, h.n10⟩
theorem keep2t {S : Nat → Prop} {w w' : World} (ht : Touch S w w') {P o o' : Nat} {u v : Value} (hP : ¬ S P) (h : w.cell? ⟨P, o, none⟩ = some u ∧ w.cell? ⟨P, o', none⟩ = some v) : w'.cell? ⟨P, o, none⟩ = some u ∧ w'.cell? ⟨P, o', none⟩ = some v :=
  ⟨(ht.cell (p := ⟨P, o, none⟩) (show P < w.heap.size from block_lt_of_cell h.1) hP).trans h.1, (ht.cell (p := ⟨P, o', none⟩) (show P < w.heap.size from block_lt_of_cell h.1) hP).trans h.2⟩
theorem map_ne {a : Option Addr} {b : Nat} (h : ∀ y, a = some y → y.block ≠ b) : ¬ a.map (·.block) = some b := fun e => map_none (P := fun k => k ≠ b) h _ e rfl
/-- One pace more: the plan first, then the two lists. -/
theorem PlS.change {w W W1 W2 W3 : World} {X : Nat} {a a' : Option Addr} {c c' : Nat} {L : List Sp} {a9 a9' : Option Addr} {c9 c9' : Nat} {a10 a10' : Option Addr} {c10' : Nat} {A : List Sp} {s : Int} {x : Sp} (h : PlS w W X a c L a9 c9 a10 A s) (hx : lastF L < x.f)
    (hp : PlanAt W1 X a' c' (L ++ [x])) (ha : ∀ y, a' = some y → a.map (·.block) = some y.block ∨ W.heap.size ≤ y.block) (ht : Touch (fun j => j = X ∨ a.map (·.block) = some j) W W1)
    (h9 : NewV 96 3 W1 a9' c9' ((L ++ [x]).map spC) W2) (h10 : NewV 96 3 W2 a10' c10' ((A ++ [x]).map spC) W3) : PlS w W3 X a' c' (L ++ [x]) a9' c9' a10' (A ++ [x]) s := by
  have hs1 := ht.size
  have hs2 := h9.2.size
  have hXl : X < W1.heap.size := hp.lt
  have hb := h9.2.trans (h10.2.mono hs2)
  have hal : ∀ y, a' = some y → y.block < W1.heap.size := fun y hy => hp.row.lt y hy
  have hlen : ((L ++ [x]).map spC).length = (L ++ [x]).length := by simp
  refine ⟨hp.keep hb, ?_, ?_, h10.1.row (sp_wide _), rise_snoc h.rise (by have := rest_pos h.rest; omega) x (by rw [← rest_last h.rest]; exact hx), rest17_snoc h.rest x, h.s0, ?_, h.wX, fun y hy => ?_, fun y hy => ?_, fun y hy => ?_⟩
  · exact FRow.below (h9.1.row (sp_wide _)) h10.2
  · rcases h9.1.1.2 with ⟨-, h0⟩ | ⟨g, cap, cur, hv, -, -, hn, -⟩
    · rw [hlen] at h0; omega
    · simp only [Value.slice.injEq] at hv
      rw [hlen] at hn; omega
  · refine h.bel.trans ((ht.below h.bel.size fun k hk e => ?_).trans (hb.mono (by have := h.bel.size; omega)))
    rcases e with e | e
    · have := h.wX; omega
    · have := map_none (P := fun j => w.heap.size ≤ j) h.wa _ e; omega
  · rcases ha y hy with e | e
    · exact map_none (P := fun j => w.heap.size ≤ j) h.wa _ e
    · have := h.bel.size; omega
  · have h1 := h9.1.2 y hy
    exact ⟨by omega, fun z hz => by have := hal z hz; omega⟩
  · have h1 := h10.1.2 y hy
    exact ⟨by omega, fun z hz => by have := hal z hz; omega⟩
/-- The first ones go. -/
theorem PlS.forget {w W W1 : World} {X g : Nat} {c : Nat} {L : List Sp} {a9 a9' : Option Addr} {c9 c9' : Nat} {a10 : Option Addr} {A : List Sp} {s turn : Int} {k : Nat} (h : PlS w W X (some ⟨g, 0, none⟩) c L a9 c9 a10 A s) (hk : IsPlace L turn k)
    (hp : PlanAt W1 X (some ⟨g, 0, none⟩) c (L.drop k)) (ht : Touch (fun j => j = X ∨ j = g) W W1) (h9 : FRow W1 a9' (L.drop k)) (hc9 : (L.drop k).length ≤ c9') (hb9 : ∀ x', a9' = some x' → ∃ x, a9 = some x ∧ x.block = x'.block) : PlS w W1 X (some ⟨g, 0, none⟩) c (L.drop k) a9' c9' a10 A (max s turn) := by
  refine ⟨hp, h9, hc9, ?_, h.rise, rest_drop h.rest hk, by have := h.s0; omega, h.bel.trans (ht.below h.bel.size fun j hj e => ?_), h.wX, h.wa, fun x hx => ?_, h.n10⟩
  · refine h.r10.touch ht (fun x hx e => ?_)
    have := h.n10 x hx
    rcases e with e | e
    · exact this.1 e
    · exact this.2 _ rfl e.symm
  · rcases e with e | e
    · have := h.wX; omega
    · have := h.wa _ rfl; simp only at this; omega
  · obtain ⟨y, hy, hyx⟩ := hb9 x hx
    have := h.n9 y hy
    rw [hyx] at this; exact this
set_option maxRecDepth 100000 in
theorem right17_fix (a b : Int) : ∃ t d : Int, mayP t d = true ∧ ∀ w, Calls Try.prog 43 #[.int .i64 a, .int .i64 b] w fun r w' => r = .returned (.agg #[.int .i64 t, .int .i64 d]) ∧ Below w.heap.size w w' := by
  obtain ⟨x, hx, e1⟩ := and17 63 63 (by decide) (by decide) a
  obtain ⟨y, hy, e2⟩ := and17 255 255 (by decide) (by decide) b
  refine ⟨1 + (x : Int), 1 + (y : Int) % 6, by rw [mayP_iff]; omega, fun w => ?_⟩
  have i0 : (0 : Int) ≤ (x : Int) := by omega
  have i1 : (x : Int) ≤ 63 := by omega
  have j0 : (0 : Int) ≤ (y : Int) := by omega
  have j1 : (y : Int) ≤ 255 := by omega
  have k0 : (0 : Int) ≤ (y : Int) % 6 := by omega
  have k1 : (y : Int) % 6 ≤ 5 := by omega
  clear hx hy
  go_enter Try.func43, Try.ntmps43
  go_wp2
  exact bodyPost_ret (v := .agg #[.int .i64 (1 + (x : Int)), .int .i64 (1 + (y : Int) % 6)]) (by simp [results, Try.results43, go_sem]) rfl ⟨rfl, by repeat (first | exact Below.refl _ _ | refine Below.setCell ?_ (by simp) _ | refine bel_alloc ?_ _ | refine bel17_drew ?_)⟩
def PlI (w W : World) (X i : Nat) (v9 v10 v11 : Value) : Prop := ∃ (a : Option Addr) (c : Nat) (L : List Sp) (a9 : Option Addr) (c9 : Nat) (a10 : Option Addr) (c10 : Nat) (A : List Sp) (s : Int), v9 = .slice a9 L.length c9 ∧ v10 = .slice a10 A.length c10 ∧ v11 = .int .i64 s ∧ PlS w W X a c L a9 c9 a10 A s ∧ 0 ≤ lastF L ∧ lastF L ≤ 31 * (i : Int) ∧ A.length ≤ i + 1
set_option maxRecDepth 100000 in
set_option maxHeartbeats 20000000 in
theorem pacePlans_walk (w : World) (x y : Int) (a0 : Option Addr) (len cap : Nat) (ls : List (List Value)) (wa : ValArg 5 acts17R w a0 len cap ls) : Calls Try.prog 11 #[.int .i64 x, .int .i64 y, .slice a0 len cap] w fun r w' => r = .returned (.bool true) ∧ Below w.heap.size w w' := by
  have HAW := Lib.hid (awake17_any w)
  obtain ⟨rfl, h1, h2, h3, h4⟩ := wa
  have HV := Lib.hid h3
  have HP := Lib.hid h4
  unfold maxLen at h2
  obtain ⟨t, d, hmay, hright⟩ := right17_fix x y
  have HRI := Lib.hid hright
  have HMAY := Lib.hid hmay
  clear h3 h4 hright hmay
  go_enter Try.func11, Try.ntmps11
  go_wp2_with fail
  refine HAW.out.mono ?_
  rintro r w1 ⟨rfl, hb1⟩
  have HB1 := Lib.hid hb1
  clear hb1 HAW
  go_wp2_with fail
  refine (HRI.out _).mono ?_
  rintro r w2 ⟨rfl, hb2⟩
  have HB2 := Lib.hid (HB1.out.trans (hb2.mono HB1.out.size))
  clear hb2 HB1
  go_wp2_with fail
  refine (begin17_any t d w2).mono ?_
  rintro r w3 hbeg
  obtain ⟨X, pa, pc, rfl, hpl, hX, hpa, hb3⟩ : ∃ b a c, r = .returned (.tuple #[.pointer (some ⟨b, 0, none⟩), .int .i64 0]) ∧ PlanAt w3 b a c [⟨0, t, d⟩] ∧ w2.heap.size ≤ b ∧ (∀ x, a = some x → w2.heap.size ≤ x.block) ∧ Below w2.heap.size w2 w3 := by
    rcases hbeg with ⟨-, b, a, c, h⟩ | ⟨h, -⟩
    · exact ⟨b, a, c, h⟩
    · rw [HMAY.out] at h; cases h
  have HPL := Lib.hid hpl
  have HPA := Lib.hid hpa
  have HB3 := Lib.hid (HB2.out.trans (hb3.mono HB2.out.size))
  have hs2 := HB2.out.size
  clear hbeg hpl hpa hb3
  go_wp2_with fail
  refine (HRI.out _).mono ?_
  rintro r w4 ⟨rfl, hb4⟩
  have HPL4 := Lib.hid (HPL.out.keep hb4)
  have HB4 := Lib.hid (HB3.out.trans (hb4.mono HB3.out.size))
  have hpal : ∀ z, pa = some z → z.block < w4.heap.size := fun z hz => HPL4.out.row.lt z hz
  have hXl : X < w4.heap.size := HPL4.out.lt
  have hA : Below w4.heap.size w4 (w4.alloc (.cells #[.int .i64 0, .int .i64 t, .int .i64 d] 96)) := bel_alloc (Below.refl _ _) _
  have HI := Lib.hid (show PlI w (w4.alloc (.cells #[.int .i64 0, .int .i64 t, .int .i64 d] 96)) X 0 (.slice (some ⟨w4.heap.size, 0, none⟩) 1 1) (.slice (some ⟨w4.heap.size, 0, none⟩) 1 1) (.int .i64 0) from ⟨pa, pc, [⟨0, t, d⟩], some ⟨w4.heap.size, 0, none⟩, 1, some ⟨w4.heap.size, 0, none⟩, 1, [⟨0, t, d⟩], 0, rfl, rfl, rfl, ⟨HPL4.out.keep hA, lit17 0 t d _ rfl, by simp, lit17 0 t d _ rfl, rise_one _, rest_self _ (by simp) 0, by omega, HB4.out.trans (hA.mono HB4.out.size), by omega, fun z hz => by have := HPA.out z hz; omega, fun z hz => by cases hz; exact ⟨by simp only; omega, fun q hq => by have := hpal q hq; simp only; omega⟩, fun z hz => by cases hz; exact ⟨by simp only; omega, fun q hq => by have := hpal q hq; simp only; omega⟩⟩, by simp [lastF], by simp [lastF], by simp⟩)
  clear hA hb4 HPL HPL4 HPA HB2 HB3 HB4 hpal
  go_upto_region 9 with (fail)
  generalize w4.alloc (.cells #[.int .i64 0, .int .i64 t, .int .i64 d] 96) = W5 at HI ⊢
  generalize (.slice (some ⟨w4.heap.size, 0, none⟩) 1 1 : Value) = V9 at HI ⊢
  go_wp2
  go_loopw [9, 10, 11, 12] (fun v9 v10 v11 v12 wr => ∃ i : Nat, i ≤ ls.length ∧ i ≤ 60 ∧ v12 = .int .i64 (i : Int) ∧ Hid (PlI w wr X i v9 v10 v11)) (fun _ _ _ v12 _ => 60 - (intOf v12).toNat)
  case atStart => exact ⟨0, by omega, by omega, rfl, HI⟩
  case round =>
    obtain ⟨i, hi, hi60, rfl, HS⟩ := hrel
    have i0 : (0 : Int) ≤ (i : Int) := by omega
    have i60 : (i : Int) ≤ 60 := by omega
    by_cases hlt : i < ls.length ∧ i < 60
    · obtain ⟨g1, g2⟩ := hlt
      have i1 : (i : Int) < (ls.length : Int) := by omega
      have i2 : (i : Int) < 60 := by omega
      obtain ⟨ab, off, rfl, hcell⟩ := HV.out (show 0 < ls.length by omega)
      obtain ⟨k0, k1, k2, k3, k4, hk, wf0, wf1, wf2, wf3⟩ := HP.out ls[i] (List.getElem_mem g1)
      have hx : ∀ W, Below w.heap.size w W → ∀ j u, j < 5 → [Value.int .i64 k0, .int .i64 k1, .int .i64 k2, .int .i64 k3, .bool k4][j]? = some u → W.cell? ⟨ab, off + i * 5 + j, none⟩ = some u := fun W hb j u hj hu => by
        have h0 := hcell i g1 j hj
        rw [hk, hu] at h0
        exact (hb.cell (p := ⟨ab, off + i * 5 + j, none⟩) (block_lt_of_cell h0)).trans h0
      have hbw : Below w.heap.size w wr := by obtain ⟨a, c, L, a9, c9, a10, c10, A, s, -, -, -, h, -⟩ := HS.out; exact h.bel
      have d0 := hx wr hbw 0 _ (by omega) rfl
      have d1 := hx wr hbw 1 _ (by omega) rfl
      have d2 := hx wr hbw 2 _ (by omega) rfl
      have d3 := hx wr hbw 3 _ (by omega) rfl
      have d4 := hx wr hbw 4 _ (by omega) rfl
      simp only [Nat.add_zero] at d0
      clear hx hbw hk hcell
      go_upto_region 13 with (fail)
      have HI2 : Hid (PlI w (wr.alloc (.cells #[.int .i64 k0, .int .i64 k1, .int .i64 k2, .int .i64 k3, .bool k4] 99)) X i u9 u10 u11) := Lib.hid (by
        obtain ⟨a, c, L, a9, c9, a10, c10, A, s, e1, e2, e3, h, h5⟩ := HS.out
        exact ⟨a, c, L, a9, c9, a10, c10, A, s, e1, e2, e3, h.keep (bel_alloc (Below.refl _ _) _), h5⟩)
      have b0 : (wr.alloc (.cells #[.int .i64 k0, .int .i64 k1, .int .i64 k2, .int .i64 k3, .bool k4] 99)).cell? ⟨wr.heap.size, 0, none⟩ = some (.int .i64 k0) := new_cell rfl rfl
      have b1 : (wr.alloc (.cells #[.int .i64 k0, .int .i64 k1, .int .i64 k2, .int .i64 k3, .bool k4] 99)).cell? ⟨wr.heap.size, 1, none⟩ = some (.int .i64 k1) := new_cell rfl rfl
      have b2 : (wr.alloc (.cells #[.int .i64 k0, .int .i64 k1, .int .i64 k2, .int .i64 k3, .bool k4] 99)).cell? ⟨wr.heap.size, 2, none⟩ = some (.int .i64 k2) := new_cell rfl rfl
      have b3 : (wr.alloc (.cells #[.int .i64 k0, .int .i64 k1, .int .i64 k2, .int .i64 k3, .bool k4] 99)).cell? ⟨wr.heap.size, 3, none⟩ = some (.int .i64 k3) := new_cell rfl rfl
      have b4 : (wr.alloc (.cells #[.int .i64 k0, .int .i64 k1, .int .i64 k2, .int .i64 k3, .bool k4] 99)).cell? ⟨wr.heap.size, 4, none⟩ = some (.bool k4) := new_cell rfl rfl
      clear HS d0 d1 d2 d3 d4
      generalize wr.alloc (.cells #[.int .i64 k0, .int .i64 k1, .int .i64 k2, .int .i64 k3, .bool k4] 99) = W1 at HI2 b0 b1 b2 b3 b4 ⊢
      generalize wr.heap.size = B at b0 b1 b2 b3 b4 ⊢
      go_upto_block 2 with (fail)
      go_cut [9, 10, 11] (fun v9 v10 v11 wx => Hid (PlI w wx X (i + 1) v9 v10 v11))
      case first =>
        obtain ⟨a, c, L, a9, c9, a10, c10, A, s, rfl, rfl, rfl, hps, hf0, hf1, hal⟩ := HI2.out
        have HPS := Lib.hid hps
        have HAL := Lib.hid hal
        obtain ⟨hLp, hLA⟩ := rest_pos hps.rest
        have hrise := Lib.hid (rest_rise hps.rise hps.rest)
        have HLL := Lib.hid (rest_last hps.rest)
        clear HI2 hps
        by_cases hk1 : k0 = 1
        · subst hk1
          obtain ⟨z, hz, e1⟩ := and17 31 31 (by decide) (by decide) k1
          obtain ⟨T, D, -, hri⟩ := right17_fix k2 k3
          have HR2 := Lib.hid hri
          obtain ⟨n, hn⟩ : ∃ n, L.length = n + 1 := ⟨L.length - 1, by omega⟩
          obtain ⟨gb, go, e2, hgb, l0, -, -⟩ := HPS.out.r9.at (k := L.length - 1) (by omega)
          have hnl : L.length - 1 = n := by omega
          rw [← lastF_eq hLp, hnl] at l0
          have HN := Lib.hid hn
          subst e2
          generalize hF : lastF L = F at l0 hf0 hf1
          have HF := Lib.hid hF
          have z0 : (0 : Int) ≤ (z : Int) := by omega
          have z1 : (z : Int) ≤ 31 := by omega
          have n0 : (0 : Int) ≤ (n : Int) := by omega
          have n1 : (n : Int) < (L.length : Int) := by omega
          have n2 : (L.length : Int) ≤ 1000 := by have := HAL.out; omega
          have u1 : IntKind.i64.wrap ((L.length : Int) - 1) = (n : Int) := by rw [IntKind.wrap_i64]; omega
          have u2 : IntKind.i64.wrap (F + (z : Int)) = F + (z : Int) := by rw [IntKind.wrap_i64]; omega
          have u3 : IntKind.i64.wrap (F + (z : Int) - 8) = F + (z : Int) - 8 := by rw [IntKind.wrap_i64]; omega
          clear hF hri hn hnl hz
          go_wp2_with fail
          go_quiet (fail)
          go_wp2_with fail
          refine (HR2.out _).mono ?_
          rintro r w3 ⟨rfl, hb3⟩
          have hbb : Below W1.heap.size W1 w3 := (bel17_drewN (Below.refl W1.heap.size W1) _).trans hb3
          have HPS3 := Lib.hid (HPS.out.keep hbb)
          obtain ⟨b2, b3⟩ := keep2p hbb (And.intro b2 b3)
          have b4 := (hbb.cell (block_lt_of_cell b4)).trans b4
          have hXl := HPS3.out.plan.lt
          have hBl : B < w3.heap.size := block_lt_of_cell b2
          have HAL3 := Lib.hid (fun (y : Addr) (hy : a = some y) => HPS3.out.plan.row.lt y hy)
          clear hb3 hbb HPS b0 b1 l0 u1 u2 u3 HR2
          cases k4 with
          | false =>
            go_wp2_with fail
            have HPS4 := Lib.hid (HPS3.out.keep (show Below w3.heap.size w3 (w3.alloc (.cells #[.int .i64 T, .int .i64 D] 82)) from by repeat (first | exact Below.refl _ _ | refine Below.setCell ?_ (by simp) _ | refine bel_alloc ?_ _)))
            have HQ4 : Hid ((w3.alloc (.cells #[.int .i64 T, .int .i64 D] 82)).cell? ⟨w3.heap.size, 0, none⟩ = some (.int .i64 T) ∧ (w3.alloc (.cells #[.int .i64 T, .int .i64 D] 82)).cell? ⟨w3.heap.size, 1, none⟩ = some (.int .i64 D)) := Lib.hid (by first | exact ⟨new_cell rfl rfl, new_cell rfl rfl⟩ | exact ⟨(World.cell?_setCell_other _ _ _ _ (by simp)).trans (World.cell?_setCell_same _ _ _ (new_cell rfl rfl)), World.cell?_setCell_same _ _ _ ((World.cell?_setCell_other _ _ _ _ (by simp)).trans (new_cell rfl rfl))⟩)
            generalize w3.alloc (.cells #[.int .i64 T, .int .i64 D] 82) = W4 at HPS4 HQ4 ⊢
            generalize w3.heap.size = P at HQ4 hXl HAL3 hBl ⊢
            refine (change17_any X a c L _ _ _ _ HPS4.out.plan (by omega)).mono ?_
            rintro r W5 hch
            rcases hch with ⟨hm, rfl, hb5⟩ | ⟨hm, hle, rfl, hb5⟩ | ⟨hm, hlt, rfl, a', c', hp5, ha5, ht5⟩
            · have HMF := Lib.hid hm
              have HPS5 := Lib.hid (HPS4.out.keep hb5)
              obtain ⟨q0, q1⟩ := keep2p hb5 HQ4.out
              clear hm hb5
              go_wp2_with fail
              refine (refChange17_any (some ⟨gb, go, none⟩) c9 L _ _ _ _ HPS5.out.r9 (by omega) hLp).mono ?_
              rintro r W6 hrc
              obtain ⟨rfl, hb6⟩ : r = .returned (.tuple #[.slice (some ⟨gb, go, none⟩) L.length c9, .int .i64 4]) ∧ Below W5.heap.size W5 W6 := by
                rcases hrc with ⟨-, q1, q2⟩ | ⟨q, -⟩ | ⟨q, -⟩
                · exact ⟨q1, q2⟩
                · rw [HMF.out] at q; cases q
                · rw [HMF.out] at q; cases q
              have HPS6 := Lib.hid (HPS5.out.keep hb6)
              obtain ⟨q0, q1⟩ := keep2p hb6 (And.intro q0 q1)
              clear hrc hb6
              go_wp2_with fail
              refine (refChange17_any a10 c10 A _ _ _ _ HPS6.out.r10 (by omega) (by omega)).mono ?_
              rintro r W7 hrc
              obtain ⟨rfl, hb7⟩ : r = .returned (.tuple #[.slice a10 A.length c10, .int .i64 4]) ∧ Below W6.heap.size W6 W7 := by
                rcases hrc with ⟨-, q1, q2⟩ | ⟨q, -⟩ | ⟨q, -⟩
                · exact ⟨q1, q2⟩
                · rw [HMF.out] at q; cases q
                · rw [HMF.out] at q; cases q
              have HPS7 := Lib.hid (HPS6.out.keep hb7)
              clear hrc hb7
              go_wp2_with fail
              go_meet
              exact Lib.hid ⟨a, c, L, some ⟨gb, go, none⟩, c9, a10, c10, A, s, rfl, rfl, rfl, HPS7.out, by rw [HF.out]; omega, by rw [HF.out]; omega, by have := HAL.out; omega⟩
            · have HMF := Lib.hid hm
              have HLE := Lib.hid hle
              have HPS5 := Lib.hid (HPS4.out.keep hb5)
              obtain ⟨q0, q1⟩ := keep2p hb5 HQ4.out
              clear hm hb5 hle
              go_wp2_with fail
              refine (refChange17_any (some ⟨gb, go, none⟩) c9 L _ _ _ _ HPS5.out.r9 (by omega) hLp).mono ?_
              rintro r W6 hrc
              obtain ⟨rfl, hb6⟩ : r = .returned (.tuple #[.slice (some ⟨gb, go, none⟩) L.length c9, .int .i64 11]) ∧ Below W5.heap.size W5 W6 := by
                rcases hrc with ⟨q, -⟩ | ⟨-, -, q1, q2⟩ | ⟨-, q, -⟩
                · rw [HMF.out] at q; cases q
                · exact ⟨q1, q2⟩
                · have := HLE.out; omega
              have HPS6 := Lib.hid (HPS5.out.keep hb6)
              obtain ⟨q0, q1⟩ := keep2p hb6 (And.intro q0 q1)
              clear hrc hb6
              go_wp2_with fail
              refine (refChange17_any a10 c10 A _ _ _ _ HPS6.out.r10 (by omega) (by omega)).mono ?_
              rintro r W7 hrc
              obtain ⟨rfl, hb7⟩ : r = .returned (.tuple #[.slice a10 A.length c10, .int .i64 11]) ∧ Below W6.heap.size W6 W7 := by
                rcases hrc with ⟨q, -⟩ | ⟨-, -, q1, q2⟩ | ⟨-, q, -⟩
                · rw [HMF.out] at q; cases q
                · exact ⟨q1, q2⟩
                · have := HLE.out; have := HLL.out; omega
              have HPS7 := Lib.hid (HPS6.out.keep hb7)
              clear hrc hb7
              go_wp2_with fail
              go_meet
              exact Lib.hid ⟨a, c, L, some ⟨gb, go, none⟩, c9, a10, c10, A, s, rfl, rfl, rfl, HPS7.out, by rw [HF.out]; omega, by rw [HF.out]; omega, by have := HAL.out; omega⟩
            · have HMF := Lib.hid hm
              have HLT := Lib.hid hlt
              have HP5 := Lib.hid hp5
              have HA5 := Lib.hid ha5
              have HT5 := Lib.hid ht5
              obtain ⟨q0, q1⟩ := keep2t ht5 (fun e => by rcases e with e | e; omega; exact map_ne (fun q hq => by have := HAL3.out q hq; omega) e) HQ4.out
              have HF9 := Lib.hid (show FRow W5 (some ⟨gb, go, none⟩) L from HPS4.out.r9.touch ht5 (fun q hq e => by
                have := HPS4.out.n9 q hq
                rcases e with e | e
                · exact this.1 e
                · exact map_ne this.2 e))
              have HF10 := Lib.hid (show FRow W5 a10 A from HPS4.out.r10.touch ht5 (fun q hq e => by
                have := HPS4.out.n10 q hq
                rcases e with e | e
                · exact this.1 e
                · exact map_ne this.2 e))
              clear hm hlt hp5 ha5 ht5
              go_wp2_with fail
              refine (refChange17_any (some ⟨gb, go, none⟩) c9 L _ _ _ _ HF9.out (by omega) hLp).mono ?_
              rintro r W6 hrc
              obtain ⟨a9', c9', rfl, hn9⟩ : ∃ a' c', r = .returned (.tuple #[.slice a' (L.length + 1) c', .int .i64 0]) ∧ NewV 96 3 W5 a' c' ((L ++ [(⟨_, _, _⟩ : Sp)]).map spC) W6 := by
                rcases hrc with ⟨q, -⟩ | ⟨-, q, -⟩ | ⟨-, -, q⟩
                · rw [HMF.out] at q; cases q
                · have := HLT.out; omega
                · exact q
              have HN9 := Lib.hid hn9
              have HF106 := Lib.hid (HF10.out.below hn9.2)
              obtain ⟨q0, q1⟩ := keep2p hn9.2 (And.intro q0 q1)
              clear hrc hn9
              go_wp2_with fail
              refine (refChange17_any a10 c10 A _ _ _ _ HF106.out (by omega) (by omega)).mono ?_
              rintro r W7 hrc
              obtain ⟨a10', c10', rfl, hn10⟩ : ∃ a' c', r = .returned (.tuple #[.slice a' (A.length + 1) c', .int .i64 0]) ∧ NewV 96 3 W6 a' c' ((A ++ [(⟨_, _, _⟩ : Sp)]).map spC) W7 := by
                rcases hrc with ⟨q, -⟩ | ⟨-, q, -⟩ | ⟨-, -, q⟩
                · rw [HMF.out] at q; cases q
                · have := HLT.out; have := HLL.out; omega
                · exact q
              have HPS7 := Lib.hid (HPS4.out.change HLT.out HP5.out HA5.out HT5.out HN9.out hn10)
              clear hrc hn10
              go_wp2_with fail
              go_meet
              exact Lib.hid ⟨a', c', L ++ [(⟨_, _, _⟩ : Sp)], a9', c9', a10', c10', A ++ [(⟨_, _, _⟩ : Sp)], s, by simp, by simp, rfl, HPS7.out, by rw [lastF_snoc]; have hl := HLT.out; rw [HF.out] at hl; simp only; omega, by rw [lastF_snoc]; have hl := HLT.out; rw [HF.out] at hl; simp only; omega, by have := HAL.out; simp; omega⟩
          | true =>
            go_wp2_with fail
            have HPS4 := Lib.hid (HPS3.out.keep (show Below w3.heap.size w3 (w3.alloc (.cells #[.int .i64 k2, .int .i64 k3] 82)) from by repeat (first | exact Below.refl _ _ | refine Below.setCell ?_ (by simp) _ | refine bel_alloc ?_ _)))
            have HQ4 : Hid ((w3.alloc (.cells #[.int .i64 k2, .int .i64 k3] 82)).cell? ⟨w3.heap.size, 0, none⟩ = some (.int .i64 k2) ∧ (w3.alloc (.cells #[.int .i64 k2, .int .i64 k3] 82)).cell? ⟨w3.heap.size, 1, none⟩ = some (.int .i64 k3)) := Lib.hid (by first | exact ⟨new_cell rfl rfl, new_cell rfl rfl⟩ | exact ⟨(World.cell?_setCell_other _ _ _ _ (by simp)).trans (World.cell?_setCell_same _ _ _ (new_cell rfl rfl)), World.cell?_setCell_same _ _ _ ((World.cell?_setCell_other _ _ _ _ (by simp)).trans (new_cell rfl rfl))⟩)
            generalize w3.alloc (.cells #[.int .i64 k2, .int .i64 k3] 82) = W4 at HPS4 HQ4 ⊢
            generalize w3.heap.size = P at HQ4 hXl HAL3 hBl ⊢
            refine (change17_any X a c L _ _ _ _ HPS4.out.plan (by omega)).mono ?_
            rintro r W5 hch
            rcases hch with ⟨hm, rfl, hb5⟩ | ⟨hm, hle, rfl, hb5⟩ | ⟨hm, hlt, rfl, a', c', hp5, ha5, ht5⟩
            · have HMF := Lib.hid hm
              have HPS5 := Lib.hid (HPS4.out.keep hb5)
              obtain ⟨q0, q1⟩ := keep2p hb5 HQ4.out
              clear hm hb5
              go_wp2_with fail
              refine (refChange17_any (some ⟨gb, go, none⟩) c9 L _ _ _ _ HPS5.out.r9 (by omega) hLp).mono ?_
              rintro r W6 hrc
              obtain ⟨rfl, hb6⟩ : r = .returned (.tuple #[.slice (some ⟨gb, go, none⟩) L.length c9, .int .i64 4]) ∧ Below W5.heap.size W5 W6 := by
                rcases hrc with ⟨-, q1, q2⟩ | ⟨q, -⟩ | ⟨q, -⟩
                · exact ⟨q1, q2⟩
                · rw [HMF.out] at q; cases q
                · rw [HMF.out] at q; cases q
              have HPS6 := Lib.hid (HPS5.out.keep hb6)
              obtain ⟨q0, q1⟩ := keep2p hb6 (And.intro q0 q1)
              clear hrc hb6
              go_wp2_with fail
              refine (refChange17_any a10 c10 A _ _ _ _ HPS6.out.r10 (by omega) (by omega)).mono ?_
              rintro r W7 hrc
              obtain ⟨rfl, hb7⟩ : r = .returned (.tuple #[.slice a10 A.length c10, .int .i64 4]) ∧ Below W6.heap.size W6 W7 := by
                rcases hrc with ⟨-, q1, q2⟩ | ⟨q, -⟩ | ⟨q, -⟩
                · exact ⟨q1, q2⟩
                · rw [HMF.out] at q; cases q
                · rw [HMF.out] at q; cases q
              have HPS7 := Lib.hid (HPS6.out.keep hb7)
              clear hrc hb7
              go_wp2_with fail
              go_meet
              exact Lib.hid ⟨a, c, L, some ⟨gb, go, none⟩, c9, a10, c10, A, s, rfl, rfl, rfl, HPS7.out, by rw [HF.out]; omega, by rw [HF.out]; omega, by have := HAL.out; omega⟩
            · have HMF := Lib.hid hm
              have HLE := Lib.hid hle
              have HPS5 := Lib.hid (HPS4.out.keep hb5)
              obtain ⟨q0, q1⟩ := keep2p hb5 HQ4.out
              clear hm hb5 hle
              go_wp2_with fail
              refine (refChange17_any (some ⟨gb, go, none⟩) c9 L _ _ _ _ HPS5.out.r9 (by omega) hLp).mono ?_
              rintro r W6 hrc
              obtain ⟨rfl, hb6⟩ : r = .returned (.tuple #[.slice (some ⟨gb, go, none⟩) L.length c9, .int .i64 11]) ∧ Below W5.heap.size W5 W6 := by
                rcases hrc with ⟨q, -⟩ | ⟨-, -, q1, q2⟩ | ⟨-, q, -⟩
                · rw [HMF.out] at q; cases q
                · exact ⟨q1, q2⟩
                · have := HLE.out; omega
              have HPS6 := Lib.hid (HPS5.out.keep hb6)
              obtain ⟨q0, q1⟩ := keep2p hb6 (And.intro q0 q1)
              clear hrc hb6
              go_wp2_with fail
              refine (refChange17_any a10 c10 A _ _ _ _ HPS6.out.r10 (by omega) (by omega)).mono ?_
              rintro r W7 hrc
              obtain ⟨rfl, hb7⟩ : r = .returned (.tuple #[.slice a10 A.length c10, .int .i64 11]) ∧ Below W6.heap.size W6 W7 := by
                rcases hrc with ⟨q, -⟩ | ⟨-, -, q1, q2⟩ | ⟨-, q, -⟩
                · rw [HMF.out] at q; cases q
                · exact ⟨q1, q2⟩
                · have := HLE.out; have := HLL.out; omega
              have HPS7 := Lib.hid (HPS6.out.keep hb7)
              clear hrc hb7
              go_wp2_with fail
              go_meet
              exact Lib.hid ⟨a, c, L, some ⟨gb, go, none⟩, c9, a10, c10, A, s, rfl, rfl, rfl, HPS7.out, by rw [HF.out]; omega, by rw [HF.out]; omega, by have := HAL.out; omega⟩
            · have HMF := Lib.hid hm
              have HLT := Lib.hid hlt
              have HP5 := Lib.hid hp5
              have HA5 := Lib.hid ha5
              have HT5 := Lib.hid ht5
              obtain ⟨q0, q1⟩ := keep2t ht5 (fun e => by rcases e with e | e; omega; exact map_ne (fun q hq => by have := HAL3.out q hq; omega) e) HQ4.out
              have HF9 := Lib.hid (show FRow W5 (some ⟨gb, go, none⟩) L from HPS4.out.r9.touch ht5 (fun q hq e => by
                have := HPS4.out.n9 q hq
                rcases e with e | e
                · exact this.1 e
                · exact map_ne this.2 e))
              have HF10 := Lib.hid (show FRow W5 a10 A from HPS4.out.r10.touch ht5 (fun q hq e => by
                have := HPS4.out.n10 q hq
                rcases e with e | e
                · exact this.1 e
                · exact map_ne this.2 e))
              clear hm hlt hp5 ha5 ht5
              go_wp2_with fail
              refine (refChange17_any (some ⟨gb, go, none⟩) c9 L _ _ _ _ HF9.out (by omega) hLp).mono ?_
              rintro r W6 hrc
              obtain ⟨a9', c9', rfl, hn9⟩ : ∃ a' c', r = .returned (.tuple #[.slice a' (L.length + 1) c', .int .i64 0]) ∧ NewV 96 3 W5 a' c' ((L ++ [(⟨_, _, _⟩ : Sp)]).map spC) W6 := by
                rcases hrc with ⟨q, -⟩ | ⟨-, q, -⟩ | ⟨-, -, q⟩
                · rw [HMF.out] at q; cases q
                · have := HLT.out; omega
                · exact q
              have HN9 := Lib.hid hn9
              have HF106 := Lib.hid (HF10.out.below hn9.2)
              obtain ⟨q0, q1⟩ := keep2p hn9.2 (And.intro q0 q1)
              clear hrc hn9
              go_wp2_with fail
              refine (refChange17_any a10 c10 A _ _ _ _ HF106.out (by omega) (by omega)).mono ?_
              rintro r W7 hrc
              obtain ⟨a10', c10', rfl, hn10⟩ : ∃ a' c', r = .returned (.tuple #[.slice a' (A.length + 1) c', .int .i64 0]) ∧ NewV 96 3 W6 a' c' ((A ++ [(⟨_, _, _⟩ : Sp)]).map spC) W7 := by
                rcases hrc with ⟨q, -⟩ | ⟨-, q, -⟩ | ⟨-, -, q⟩
                · rw [HMF.out] at q; cases q
                · have := HLT.out; have := HLL.out; omega
                · exact q
              have HPS7 := Lib.hid (HPS4.out.change HLT.out HP5.out HA5.out HT5.out HN9.out hn10)
              clear hrc hn10
              go_wp2_with fail
              go_meet
              exact Lib.hid ⟨a', c', L ++ [(⟨_, _, _⟩ : Sp)], a9', c9', a10', c10', A ++ [(⟨_, _, _⟩ : Sp)], s, by simp, by simp, rfl, HPS7.out, by rw [lastF_snoc]; have hl := HLT.out; rw [HF.out] at hl; simp only; omega, by rw [lastF_snoc]; have hl := HLT.out; rw [HF.out] at hl; simp only; omega, by have := HAL.out; simp; omega⟩
        · by_cases hk2 : k0 = 2
          · subst hk2
            obtain ⟨z, hz, e1⟩ := and17 255 255 (by decide) (by decide) k1
            obtain ⟨g, rfl⟩ := own_isg HPS.out.plan.row (by simpa using hLp)
            obtain ⟨k, hk⟩ := isPlace_ex hLp hrise.out (z : Int)
            have HK := Lib.hid hk
            have HFO := Lib.hid (forget17_any X g c (z : Int) L k hk hrise.out W1 HPS.out.plan)
            have z0 : (0 : Int) ≤ (z : Int) := by omega
            have z1 : (z : Int) ≤ 255 := by omega
            clear hk hz
            go_wp2_with fail
            refine HFO.out.mono ?_
            rintro r W5 ⟨rfl, hp5, ht5⟩
            have HP5 := Lib.hid hp5
            have HT5 := Lib.hid ht5
            have HF9 := Lib.hid (show FRow W5 a9 L from HPS.out.r9.touch ht5 (fun q hq e => by
              have := HPS.out.n9 q hq
              rcases e with e | e
              · exact this.1 e
              · exact this.2 _ rfl e.symm))
            clear hp5 ht5 HFO
            go_wp2_with fail
            refine (refForget17_any a9 c9 L (z : Int) k HK.out W5 HF9.out (by have := HAL.out; omega) HPS.out.k9).mono ?_
            rintro r W6 ⟨⟨a9', c9', rfl, HR9⟩, rfl⟩
            have HPS6 := Lib.hid (HPS.out.forget (a9' := a9') (c9' := c9') HK.out HP5.out HT5.out HR9.out.1 (by simpa using HR9.out.2.1) HR9.out.2.2)
            have HLD := Lib.hid (lastF_drop HK.out.1)
            clear HR9
            go_wp2_with fail
            go_meet
            exact Lib.hid ⟨_, c, L.drop k, a9', c9', a10, c10, A, max s (z : Int), by simp, rfl, rfl, HPS6.out, by rw [HLD.out]; omega, by rw [HLD.out]; omega, by have := HAL.out; omega⟩
          · go_wp2_with fail
            go_meet
            exact Lib.hid ⟨a, c, L, a9, c9, a10, c10, A, s, rfl, rfl, rfl, HPS.out, by omega, by omega, by have := HAL.out; omega⟩
      case rest =>
        obtain ⟨a, c, L, a9, c9, a10, c10, A, s, rfl, rfl, rfl, hps, hf0, hf1, hal⟩ := hcut.out
        have HPS := Lib.hid hps
        have HF01 := Lib.hid (show 0 ≤ lastF L ∧ lastF L ≤ 31 * ((i + 1 : Nat) : Int) ∧ A.length ≤ i + 1 + 1 from ⟨hf0, hf1, hal⟩)
        obtain ⟨hLp, hLA⟩ := rest_pos hps.rest
        have HRISE := Lib.hid (rest_rise hps.rise hps.rest)
        obtain ⟨n, hn⟩ : ∃ n, L.length = n + 1 := ⟨L.length - 1, by omega⟩
        obtain ⟨gb, go, e2, hgb, l0, -, -⟩ := HPS.out.r9.at (k := L.length - 1) (by omega)
        have hnl : L.length - 1 = n := by omega
        rw [← lastF_eq hLp, hnl] at l0
        have HLA := Lib.hid (fun W (h : PlanAt W X a c L) => (last17_any X a c L W h).mono (R' := fun r w' => r = .returned (.int .i64 (lastF L)) ∧ ∃ m, w' = W.drewN m) fun r w' h' => by rw [lastF_eq h.pos]; exact h')
        subst e2
        generalize lastF L = F at l0 HLA
        have n0 : (0 : Int) ≤ (n : Int) := by omega
        have n1 : (n : Int) < (L.length : Int) := by omega
        have n2 : (L.length : Int) ≤ 1000 := by omega
        have u1 : IntKind.i64.wrap ((L.length : Int) - 1) = (n : Int) := by rw [IntKind.wrap_i64]; omega
        have hL1000 : L.length ≤ 1000 := by omega
        have hA1000 : A.length ≤ 1000 := by omega
        clear hcut hps hf0 hf1 hal hn hnl
        go_upto_region 33 with (fail)
        go_quiet ((go_at_call 58; exact Calls.quiet_of (HLA.out _ (HPS.out.plan.keep (bel17_drewN (Below.refl _ _) _)))))
        go_wp2_with fail
        generalize hW2 : World.drewN _ _ = W2
        have HPS2 := Lib.hid (show PlS w W2 X a c L (some ⟨gb, go, none⟩) c9 a10 A s by rw [← hW2]; exact HPS.out.keep (bel17_drewN (Below.refl _ _) _))
        clear hW2 HLA HPS u1 l0 n0 n1 n2 hgb
        go_loopw [25] (fun v25 wx => ∃ j : Nat, j ≤ 43 ∧ v25 = .int .i64 (7 * (j : Int)) ∧ Hid (PlS w wx X a c L (some ⟨gb, go, none⟩) c9 a10 A s)) (fun v25 _ => 301 - (intOf v25).toNat)
        case atStart => exact ⟨0, by omega, by simp, HPS2⟩
        case round =>
          clear HPS2
          obtain ⟨j, hj, rfl, HPS⟩ := hrel
          have j0 : (0 : Int) ≤ 7 * (j : Int) := by omega
          by_cases hj42 : j ≤ 42
          · have j1 : 7 * (j : Int) < 300 := by omega
            obtain ⟨k, hk⟩ := isPlace_ex hLp HRISE.out (7 * (j : Int))
            have HAT := Lib.hid (fun W h => at17_any X (7 * (j : Int)) a c L k hk HRISE.out W h)
            have HRA := Lib.hid (fun W h => refAt17_any (some ⟨gb, go, none⟩) c9 L (7 * (j : Int)) k hk W h hL1000)
            have HAA : Hid (s ≤ 7 * (j : Int) → ∀ W, FRow W a10 A → Calls Try.prog 60 #[.slice a10 A.length c10, .int .i64 (7 * (j : Int))] W fun r w' => r = .returned (.agg #[.int .i64 (L[k]'hk.1).t, .int .i64 (L[k]'hk.1).d]) ∧ Below W.heap.size W w') := Lib.hid (fun hs W h => by
              obtain ⟨k', hk', e⟩ := rest_place HPS.out.rise HPS.out.rest hs hk
              rw [← e]
              exact refAt17_any a10 c10 A (7 * (j : Int)) k' hk' W h hA1000)
            generalize (L[k]'hk.1).t = vt at HAT HRA HAA
            generalize (L[k]'hk.1).d = vd at HAT HRA HAA
            clear hk
            go_wp2_with fail
            refine (HAT.out _ HPS.out.plan).mono ?_
            rintro r y1 ⟨rfl, hb1⟩
            have HPS1 := Lib.hid (HPS.out.keep hb1)
            clear hb1 HPS
            go_wp2_with fail
            refine (HRA.out _ HPS1.out.r9).mono ?_
            rintro r y2 ⟨rfl, hb2⟩
            have HPS2 := Lib.hid (HPS1.out.keep hb2)
            clear hb2 HPS1
            by_cases hs : s ≤ 7 * (j : Int)
            · have HAS := Lib.hid (HAA.out hs)
              go_wp2_with fail
              refine (HAT.out _ HPS2.out.plan).mono ?_
              rintro r y3 ⟨rfl, hb3⟩
              have HPS3 := Lib.hid (HPS2.out.keep hb3)
              clear hb3 HPS2
              go_wp2_with fail
              refine (HAS.out _ HPS3.out.r10).mono ?_
              rintro r y4 ⟨rfl, hb4⟩
              have HPS4 := Lib.hid (HPS3.out.keep hb4)
              clear hb4 HPS3
              go_wp2
              go_roundw
              case rel => exact ⟨j + 1, by omega, by rw [show 7 * ((j + 1 : Nat) : Int) = 7 * (j : Int) + 7 by omega], HPS4⟩
              case measure => simp [intOf] <;> omega
            · have hs' : 7 * (j : Int) < s := by omega
              go_wp2
              go_roundw
              case rel => exact ⟨j + 1, by omega, by rw [show 7 * ((j + 1 : Nat) : Int) = 7 * (j : Int) + 7 by omega], HPS2⟩
              case measure => simp [intOf] <;> omega
          · obtain rfl : j = 43 := by omega
            have j2 : (300 : Int) ≤ 7 * ((43 : Nat) : Int) := by omega
            clear hj42
            go_wp2
            go_roundw
            case rel => exact ⟨i + 1, by omega, by omega, by go_num, Lib.hid ⟨a, c, L, _, c9, a10, c10, A, s, rfl, rfl, rfl, HPS.out, HF01.out.1, HF01.out.2.1, HF01.out.2.2⟩⟩
            case measure => simp [intOf] <;> omega
    · have hex : (ls.length : Int) ≤ (i : Int) ∨ ((i : Int) < (ls.length : Int) ∧ 60 ≤ (i : Int)) := by omega
      have HB : Hid (Below w.heap.size w wr) := Lib.hid (by obtain ⟨a, c, L, a9, c9, a10, c10, A, s, -, -, -, h, -⟩ := HS.out; exact h.bel)
      clear hlt HS
      rcases hex with hex | ⟨hex, hex2⟩
      all_goals
        go_wp2
        go_ret
        exact ⟨rfl, HB.out⟩
end Go.Proofs.Ytlhcihjplolgiaa
