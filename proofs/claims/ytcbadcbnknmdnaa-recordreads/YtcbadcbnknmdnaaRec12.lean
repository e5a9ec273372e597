/-
  Layer 20: who plays behind a record, and whether it may be.
-/
import Derived.Test.YtcbadcbnknmdnaaRec11
namespace Go.Proofs.Ytcbadcbnknmdnaa
open Go.RowKit
set_option linter.unusedVariables false

theorem chs_small {m : List Chg} (h : ChsDom m) : ChSmall m := ⟨by have := h.1; omega, fun c hc => by have := (h.2 c hc).2.2.2.2.1; omega⟩
set_option maxRecDepth 100000 in
set_option maxHeartbeats 2000000 in
theorem recRoster_any (R : Rec) (a : Option Addr) (n c : Nat) (ls : List (List Value)) (a2 : Option Addr) (n2 c2 : Nat) (m : Nat) (e : Int) (w : World) (hm : m < 4294967296) (he : 0 ≤ e ∧ e ≤ 1000000) (hr : VRow 3 w a ls ∧ ChIs w ls R.ch) (hn : n = R.ch.length) (hd : ChsDom R.ch) :
    Calls Try.prog 24 #[recV R.t a n c R.tk R.dl a2 n2 c2, rosV m e] w (WithPost m e R.ch w) := by
  have HR := Lib.hid (fun W (hW : Below w.heap.size w W) => show VRow 3 W a ls ∧ ChIs W ls R.ch from ⟨VRow.k (K := fun k => k < w.heap.size) (by decide) hr.2.wide hr.1 (fun h0 x hx => by
    obtain ⟨b, off, y, m, e, hb, -⟩ := ch_at hr.1 hr.2 (k := 0) (by have := hr.2.1; omega)
    rw [hx] at e; cases e; exact hb) (touch_of_below hW), hr.2.below hW⟩)
  have hsm := chs_small hd
  have hn8 : n ≤ 8 := by rw [hn]; exact hd.1
  obtain ⟨t, ch, tk, dl, pl⟩ := R
  simp only at hn hsm HR ⊢
  have HWI := Lib.hid (fun W (h : VRow 3 W a ls ∧ ChIs W ls ch) => rwith_any m e a c ls ch W hm he h.1 h.2 hsm n hn.symm)
  have HF : Hid (∀ n' e' z W, withP m e ch = (n', e', z) → Below w.heap.size w W → WithPost m e ch w (.returned (.tuple #[.agg #[.int .u32 (n' : Nat), .int .i64 e'], .int .i64 z])) W) := Lib.hid (fun n' e' z W h1 h2 => by unfold WithPost; rw [h1]; exact ⟨rfl, h2⟩)
  generalize hPost : WithPost m e ch w = Post at HF ⊢
  clear hPost
  unfold WithPost at HWI
  generalize withP m e ch = T at HWI HF
  obtain ⟨n', e', z⟩ := T
  have e1 : (w.alloc (.cells #[.int .i64 t, .slice a n c, .int .i64 tk, .int .i64 dl, .slice a2 n2 c2] 34)).heap.size = w.heap.size + 1 := by simp
  have e2 : ((w.alloc (.cells #[.int .i64 t, .slice a n c, .int .i64 tk, .int .i64 dl, .slice a2 n2 c2] 34)).alloc (.cells #[.int .u32 (m : Int), .int .i64 e] 28)).heap.size = w.heap.size + 1 + 1 := by simp
  have HA := Lib.hid (bel_alloc (bel_alloc (bel_alloc (Below.refl _ w) (.cells #[.int .i64 t, .slice a n c, .int .i64 tk, .int .i64 dl, .slice a2 n2 c2] 34)) (.cells #[.int .u32 (m : Int), .int .i64 e] 28)) (.cells #[.int .u32 0, .int .i64 0] 28))
  have x1 : (((w.alloc (.cells #[.int .i64 t, .slice a n c, .int .i64 tk, .int .i64 dl, .slice a2 n2 c2] 34)).alloc (.cells #[.int .u32 (m : Int), .int .i64 e] 28)).alloc (.cells #[.int .u32 0, .int .i64 0] 28)).cell? ⟨w.heap.size, 1, none⟩ = some (.slice a n c) := alloc_cell (alloc_cell (new_cell rfl rfl) _) _
  have y0 : (((w.alloc (.cells #[.int .i64 t, .slice a n c, .int .i64 tk, .int .i64 dl, .slice a2 n2 c2] 34)).alloc (.cells #[.int .u32 (m : Int), .int .i64 e] 28)).alloc (.cells #[.int .u32 0, .int .i64 0] 28)).cell? ⟨w.heap.size + 1, 0, none⟩ = some (.int .u32 (m : Int)) := alloc_cell (new_cell e1.symm rfl) _
  have y1 : (((w.alloc (.cells #[.int .i64 t, .slice a n c, .int .i64 tk, .int .i64 dl, .slice a2 n2 c2] 34)).alloc (.cells #[.int .u32 (m : Int), .int .i64 e] 28)).alloc (.cells #[.int .u32 0, .int .i64 0] 28)).cell? ⟨w.heap.size + 1, 1, none⟩ = some (.int .i64 e) := alloc_cell (new_cell e1.symm rfl) _
  have z0 : (((w.alloc (.cells #[.int .i64 t, .slice a n c, .int .i64 tk, .int .i64 dl, .slice a2 n2 c2] 34)).alloc (.cells #[.int .u32 (m : Int), .int .i64 e] 28)).alloc (.cells #[.int .u32 0, .int .i64 0] 28)).cell? ⟨w.heap.size + 1 + 1, 0, none⟩ = some (.int .u32 0) := new_cell e2.symm rfl
  have z1 : (((w.alloc (.cells #[.int .i64 t, .slice a n c, .int .i64 tk, .int .i64 dl, .slice a2 n2 c2] 34)).alloc (.cells #[.int .u32 (m : Int), .int .i64 e] 28)).alloc (.cells #[.int .u32 0, .int .i64 0] 28)).cell? ⟨w.heap.size + 1 + 1, 1, none⟩ = some (.int .i64 0) := new_cell e2.symm rfl
  have f0 : (((w.alloc (.cells #[.int .i64 t, .slice a n c, .int .i64 tk, .int .i64 dl, .slice a2 n2 c2] 34)).alloc (.cells #[.int .u32 (m : Int), .int .i64 e] 28)).alloc (.cells #[.int .u32 0, .int .i64 0] 28)).frozen? ⟨w.heap.size + 1 + 1, 0, none⟩ = false := by rw [← e2]; exact frozen_new _ _ _ _
  have f1 : (((w.alloc (.cells #[.int .i64 t, .slice a n c, .int .i64 tk, .int .i64 dl, .slice a2 n2 c2] 34)).alloc (.cells #[.int .u32 (m : Int), .int .i64 e] 28)).alloc (.cells #[.int .u32 0, .int .i64 0] 28)).frozen? ⟨w.heap.size + 1 + 1, 1, none⟩ = false := by rw [← e2]; exact frozen_new _ _ _ _
  have HZ := Lib.hid (And.intro z0 (And.intro z1 (And.intro f0 f1)))
  have hni : ¬ (8 : Int) < (n : Int) := by omega
  have hnd : decide ((8 : Int) < (n : Int)) = false := decide_eq_false hni
  unfold recV rosV
  unfold rosV at HWI
  simp only at HWI
  clear hr hn hsm hd z0 z1 f0 f1 e1 e2 he
  have HNN := Lib.hid hn8
  go_enter Try.func24, Try.ntmps24
  go_upto_region 1 with (fail)
  generalize ((w.alloc (.cells #[.int .i64 t, .slice a n c, .int .i64 tk, .int .i64 dl, .slice a2 n2 c2] 34)).alloc (.cells #[.int .u32 (m : Int), .int .i64 e] 28)).alloc (.cells #[.int .u32 0, .int .i64 0] 28) = W0 at HA x1 y0 y1 HZ ⊢
  generalize hZB : w.heap.size + 1 + 1 = ZB at HZ ⊢
  have HZB := Lib.hid hZB
  clear hZB
  generalize w.heap.size + 1 = Y at y0 y1 ⊢
  generalize hXB : w.heap.size = X at x1 ⊢
  have HXB := Lib.hid hXB
  clear hXB
  have hX := block_lt_of_cell x1
  have hY := block_lt_of_cell y0
  simp only at hX hY
  go_wp2_with fail
  refine (HWI.out _ (HR.out _ (by rw [HXB.out]; exact HXB.out ▸ HA.out))).mono ?_
  rintro r w1 ⟨rfl, hb1⟩
  obtain ⟨z0, z1, f0, f1⟩ := HZ.out
  have hZ := block_lt_of_cell z0
  have z0 := (hb1.cell hZ).trans z0
  have z1 := (hb1.cell (p := ⟨ZB, 1, none⟩) hZ).trans z1
  have f0 := (hb1.frozen (p := ⟨ZB, 0, none⟩) hZ).trans f0
  have f1 := (hb1.frozen (p := ⟨ZB, 1, none⟩) hZ).trans f1
  have hZ := block_lt_of_cell z0
  simp only at hZ
  have HB := Lib.hid (show Below w.heap.size w ((w1.setCell ⟨ZB, 0, none⟩ (.int .u32 (n' : Int))).setCell ⟨ZB, 1, none⟩ (.int .i64 e')) from by
    have h1 : Below w.heap.size w w1 := HA.out.trans (hb1.mono HA.out.size)
    have hle : w.heap.size ≤ ZB := by rw [← HZB.out]; omega
    exact (h1.setCell (p := ⟨ZB, 0, none⟩) hle _).setCell (p := ⟨ZB, 1, none⟩) hle _)
  clear hb1 HWI x1 y0 y1 hX hY HZ
  go_wp2
  exact bodyPost_ret (v := .tuple #[.agg #[.int .u32 (n' : Int), .int .i64 e'], .int .i64 z]) (by simp [results, Try.results24, go_sem, z0, z1]) rfl (HF.out n' e' z _ rfl HB.out)
theorem keep7c {w w' : World} {X Z : Nat} {x0 x1 x2 x3 x4 z0 z1 : Value} (hb : Below w.heap.size w w') (h : (w.cell? ⟨X, 0, none⟩ = some x0 ∧ w.cell? ⟨X, 1, none⟩ = some x1 ∧ w.cell? ⟨X, 2, none⟩ = some x2) ∧ (w.cell? ⟨X, 3, none⟩ = some x3 ∧ w.cell? ⟨X, 4, none⟩ = some x4) ∧ (w.cell? ⟨Z, 0, none⟩ = some z0 ∧ w.cell? ⟨Z, 1, none⟩ = some z1)) :
    (w'.cell? ⟨X, 0, none⟩ = some x0 ∧ w'.cell? ⟨X, 1, none⟩ = some x1 ∧ w'.cell? ⟨X, 2, none⟩ = some x2) ∧ (w'.cell? ⟨X, 3, none⟩ = some x3 ∧ w'.cell? ⟨X, 4, none⟩ = some x4) ∧ (w'.cell? ⟨Z, 0, none⟩ = some z0 ∧ w'.cell? ⟨Z, 1, none⟩ = some z1) :=
  ⟨keep3r hb h.1, ⟨(hb.cell (block_lt_of_cell h.2.1.1)).trans h.2.1.1, (hb.cell (block_lt_of_cell h.2.1.2)).trans h.2.1.2⟩, ⟨(hb.cell (block_lt_of_cell h.2.2.1)).trans h.2.2.1, (hb.cell (block_lt_of_cell h.2.2.2)).trans h.2.2.2⟩⟩
set_option maxRecDepth 100000 in
set_option maxHeartbeats 1000000 in
theorem recCheck_turn (R : Rec) (a : Option Addr) (n c : Nat) (a2 : Option Addr) (n2 c2 : Nat) (m : Nat) (e next : Int) (w : World) (hne : R.t ≠ next) :
    Calls Try.prog 16 #[recV R.t a n c R.tk R.dl a2 n2 c2, .int .i64 next, rosV m e] w fun r w' => r = .returned (.int .i64 12) ∧ Below w.heap.size w w' := by
  obtain ⟨t, ch, tk, dl, pl⟩ := R
  simp only at hne ⊢
  have hnb : (t == next) = false := by rw [beq_eq_false_iff_ne]; exact hne
  have hnc : (t != next) = true := by rw [bne_iff_ne]; exact hne
  have HA := Lib.hid (bel_alloc (bel_alloc (Below.refl _ w) (.cells #[.int .i64 t, .slice a n c, .int .i64 tk, .int .i64 dl, .slice a2 n2 c2] 34)) (.cells #[.int .u32 (m : Int), .int .i64 e] 28))
  unfold recV rosV
  go_enter Try.func16, Try.ntmps16
  go_wp2
  go_ret
  exact ⟨rfl, HA.out⟩
set_option maxRecDepth 100000 in
set_option maxHeartbeats 4000000 in
theorem recCheck_any (R : Rec) (a : Option Addr) (n c : Nat) (ls : List (List Value)) (a2 : Option Addr) (n2 c2 : Nat) (ls2 : List (List Value)) (m : Nat) (e : Int) (w : World) (m' : Nat) (e' z res : Int) (hm : m < 4294967296) (he : 0 ≤ e ∧ e ≤ 1000000) (hr : RecIs w R a ls a2 ls2) (hn : n = R.ch.length) (hn2 : n2 = R.pl.length) (hb2 : n2 ≤ 1000) (hd : ChsDom R.ch) (hdp : ∀ q ∈ R.pl, BatchDom q.l)
    (hp : (R.tk = 0 ∧ R.dl = 0) ∨ mayP R.tk R.dl = true) (hw : withP m e R.ch = (m', e', z)) (hres : (z ≠ 0 ∧ res = z) ∨ (z = 0 ∧ plP R.pl = lstP m' ∧ res = 0) ∨ (z = 0 ∧ plP R.pl ≠ lstP m' ∧ res = 13)) :
    Calls Try.prog 16 #[recV R.t a n c R.tk R.dl a2 n2 c2, .int .i64 R.t, rosV m e] w fun r w' => r = .returned (.int .i64 res) ∧ Below w.heap.size w w' := by
  have hm' : m' < 4294967296 := by have := withP_lt hm e R.ch; rw [hw] at this; exact this
  have HR := Lib.hid (fun W (hW : Below w.heap.size w W) => hr.below hW)
  have HCP := Lib.hid (fun W => checkPace_any R a n c a2 n2 c2 W hp)
  have HRO := Lib.hid (fun W (h : VRow 3 W a ls ∧ ChIs W ls R.ch) => recRoster_any R a n c ls a2 n2 c2 m e W hm he h hn hd)
  have HALL := Lib.hid (fun W => rall_any m' e' W hm')
  have HPB := Lib.hid (fun ax cx W (h1 : VRow 2 W a2 ls2 ∧ PlIs W ls2 R.pl) (h2 : IntRow .i64 W ax (lstP m')) => playedBy_any R a n c a2 n2 c2 ls2 ax (lenP m') cx (lstP m') W h1 h2 hn2 rfl hb2 (by have := lenP_le m'; omega))
  have HWC := Lib.hid (fun (heq : plP R.pl = lstP m') W (h1 : VRow 2 W a2 ls2 ∧ PlIs W ls2 R.pl) => worldCheck_any R.pl a2 n2 c2 ls2 W h1 hn2 hb2 hdp (fun k hk => by
    have hk' : k < (lstP m').length := by rw [← heq]; unfold plP; rw [List.length_map]; exact hk
    have h9 := lstP_prv m' k hk'
    have e1 : (lstP m')[k] = R.pl[k].p := by
      have h8 : (lstP m')[k]? = some R.pl[k].p := by rw [← heq]; unfold plP; simp [hk]
      rw [List.getElem?_eq_getElem hk'] at h8
      simpa using h8
    rw [e1] at h9
    rw [heq]
    exact h9))
  unfold WithPost at HRO
  simp only [hw] at HRO
  unfold RAllPost at HALL
  have HQ : Hid (∀ b : Bool, decide (plP R.pl = lstP m') = b → (b = true ↔ plP R.pl = lstP m')) := Lib.hid (fun b h => by rw [← h]; simp)
  have HRES := Lib.hid hres
  obtain ⟨t, ch, tk, dl, pl⟩ := R
  simp only at HR HCP HRO HPB HWC HQ HRES ⊢
  have e1 : (w.alloc (.cells #[.int .i64 t, .slice a n c, .int .i64 tk, .int .i64 dl, .slice a2 n2 c2] 34)).heap.size = w.heap.size + 1 := by simp
  have HA := Lib.hid (bel_alloc (bel_alloc (Below.refl _ w) (.cells #[.int .i64 t, .slice a n c, .int .i64 tk, .int .i64 dl, .slice a2 n2 c2] 34)) (.cells #[.int .u32 (m : Int), .int .i64 e] 28))
  have HX : Hid (Cs ((w.alloc (.cells #[.int .i64 t, .slice a n c, .int .i64 tk, .int .i64 dl, .slice a2 n2 c2] 34)).alloc (.cells #[.int .u32 (m : Int), .int .i64 e] 28)) w.heap.size [.int .i64 t, .slice a n c, .int .i64 tk, .int .i64 dl, .slice a2 n2 c2] ∧ Cs ((w.alloc (.cells #[.int .i64 t, .slice a n c, .int .i64 tk, .int .i64 dl, .slice a2 n2 c2] 34)).alloc (.cells #[.int .u32 (m : Int), .int .i64 e] 28)) (w.heap.size + 1) [.int .u32 (m : Int), .int .i64 e]) := Lib.hid ⟨(Cs.new rfl rfl).below (bel_alloc (Below.refl _ _) _), Cs.new e1.symm rfl⟩
  unfold recV rosV at *
  clear hr hn hn2 hd hdp hp hw hres he hm hm' e1
  simp only [show (lstP m').length = lenP m' from rfl] at HALL
  go_enter Try.func16, Try.ntmps16
  go_upto_region 1 with (fail)
  generalize (w.alloc (.cells #[.int .i64 t, .slice a n c, .int .i64 tk, .int .i64 dl, .slice a2 n2 c2] 34)).alloc (.cells #[.int .u32 (m : Int), .int .i64 e] 28) = W0 at HX HA ⊢
  generalize w.heap.size + 1 = Y at HX ⊢
  generalize w.heap.size = X at HX ⊢
  have x0 : W0.cell? ⟨X, 0, none⟩ = some (.int .i64 t) := HX.out.1 0 (by simp)
  have x1 : W0.cell? ⟨X, 1, none⟩ = some (.slice a n c) := HX.out.1 1 (by simp)
  have x2 : W0.cell? ⟨X, 2, none⟩ = some (.int .i64 tk) := HX.out.1 2 (by simp)
  have x3 : W0.cell? ⟨X, 3, none⟩ = some (.int .i64 dl) := HX.out.1 3 (by simp)
  have x4 : W0.cell? ⟨X, 4, none⟩ = some (.slice a2 n2 c2) := HX.out.1 4 (by simp)
  have hX := block_lt_of_cell x0
  simp only at hX
  go_wp2_with fail
  refine (HCP.out _).mono ?_
  rintro r w1 ⟨rfl, hb1⟩
  have HX1 := Lib.hid (And.intro (HX.out.1.below hb1) (HX.out.2.below hb1))
  have HB1 := Lib.hid (HA.out.trans (hb1.mono HA.out.size))
  clear x0 x1 x2 x3 x4 hX hb1 HX HA HCP
  have x0 : w1.cell? ⟨X, 0, none⟩ = some (.int .i64 t) := HX1.out.1 0 (by simp)
  have x1 : w1.cell? ⟨X, 1, none⟩ = some (.slice a n c) := HX1.out.1 1 (by simp)
  have x2 : w1.cell? ⟨X, 2, none⟩ = some (.int .i64 tk) := HX1.out.1 2 (by simp)
  have x3 : w1.cell? ⟨X, 3, none⟩ = some (.int .i64 dl) := HX1.out.1 3 (by simp)
  have x4 : w1.cell? ⟨X, 4, none⟩ = some (.slice a2 n2 c2) := HX1.out.1 4 (by simp)
  have y0 : w1.cell? ⟨Y, 0, none⟩ = some (.int .u32 (m : Int)) := HX1.out.2 0 (by simp)
  have y1 : w1.cell? ⟨Y, 1, none⟩ = some (.int .i64 e) := HX1.out.2 1 (by simp)
  have hX := block_lt_of_cell x0
  have hY := block_lt_of_cell y0
  simp only at hX hY
  go_wp2_with fail
  refine (HRO.out _ (HR.out _ HB1.out).1).mono ?_
  rintro r w2 ⟨rfl, hb2⟩
  have HX2 := Lib.hid (HX1.out.1.below hb2)
  have HB2 := Lib.hid (HB1.out.trans (hb2.mono HB1.out.size))
  clear x0 x1 x2 x3 x4 y0 y1 hX hY hb2 HX1 HB1 HRO
  have hA := bel_alloc (Below.refl _ w2) (.cells #[.int .u32 (m' : Int), .int .i64 e'] 28)
  have HX3 := Lib.hid (HX2.out.below hA)
  have HB3 := Lib.hid (HB2.out.trans (hA.mono HB2.out.size))
  have HZ3 : Hid (Cs (w2.alloc (.cells #[.int .u32 (m' : Int), .int .i64 e'] 28)) w2.heap.size [.int .u32 (m' : Int), .int .i64 e']) := Lib.hid (Cs.new rfl rfl)
  clear hA HX2 HB2
  rcases HRES.out with ⟨hz, rfl⟩ | hr2
  · have hzb : (res == 0) = false := by rw [beq_eq_false_iff_ne]; exact hz
    have hzc : (res != 0) = true := by rw [bne_iff_ne]; exact hz
    clear HRES
    go_wp2
    go_ret
    exact ⟨rfl, HB3.out⟩
  · obtain ⟨rfl, hr3⟩ : z = 0 ∧ ((plP pl = lstP m' ∧ res = 0) ∨ (plP pl ≠ lstP m' ∧ res = 13)) := by
      rcases hr2 with ⟨h1, h2, h3⟩ | ⟨h1, h2, h3⟩
      · exact ⟨h1, .inl ⟨h2, h3⟩⟩
      · exact ⟨h1, .inr ⟨h2, h3⟩⟩
    clear HRES
    obtain ⟨bb, hbb⟩ : ∃ bb : Bool, decide (plP pl = lstP m') = bb := ⟨_, rfl⟩
    have hiff := HQ.out bb hbb
    have HCASE : Hid ((bb = true ∧ plP pl = lstP m' ∧ res = 0) ∨ (bb = false ∧ res = 13)) := Lib.hid (by
      rcases hr3 with ⟨h1, h2⟩ | ⟨h1, h2⟩
      · exact .inl ⟨hiff.2 h1, h1, h2⟩
      · refine .inr ⟨?_, h2⟩
        cases bb
        · rfl
        · exact absurd (hiff.1 rfl) h1)
    rw [hbb] at HPB
    clear hbb hiff hr3 HQ hr2
    go_upto_region 9 with (fail)
    generalize w2.alloc (.cells #[.int .u32 (m' : Int), .int .i64 e'] 28) = W3 at HX3 HB3 HZ3 ⊢
    generalize w2.heap.size = Z at HZ3 ⊢
    have x0 : W3.cell? ⟨X, 0, none⟩ = some (.int .i64 t) := HX3.out 0 (by simp)
    have x1 : W3.cell? ⟨X, 1, none⟩ = some (.slice a n c) := HX3.out 1 (by simp)
    have x2 : W3.cell? ⟨X, 2, none⟩ = some (.int .i64 tk) := HX3.out 2 (by simp)
    have x3 : W3.cell? ⟨X, 3, none⟩ = some (.int .i64 dl) := HX3.out 3 (by simp)
    have x4 : W3.cell? ⟨X, 4, none⟩ = some (.slice a2 n2 c2) := HX3.out 4 (by simp)
    have z0 : W3.cell? ⟨Z, 0, none⟩ = some (.int .u32 (m' : Int)) := HZ3.out 0 (by simp)
    have z1 : W3.cell? ⟨Z, 1, none⟩ = some (.int .i64 e') := HZ3.out 1 (by simp)
    have hX := block_lt_of_cell x0
    have hZ := block_lt_of_cell z0
    simp only at hX hZ
    have HB := Lib.hid HB3.out.drew
    go_region_held3 (fun w' => (w'.cell? ⟨X, 0, none⟩ = some (.int .i64 t) ∧ w'.cell? ⟨X, 1, none⟩ = some (.slice a n c) ∧ w'.cell? ⟨X, 2, none⟩ = some (.int .i64 tk)) ∧ (w'.cell? ⟨X, 3, none⟩ = some (.int .i64 dl) ∧ w'.cell? ⟨X, 4, none⟩ = some (.slice a2 n2 c2)) ∧ (w'.cell? ⟨Z, 0, none⟩ = some (.int .u32 (m' : Int)) ∧ w'.cell? ⟨Z, 1, none⟩ = some (.int .i64 e')))
      (first | (refine keep7c hbK ?_; assumption) | assumption | exact ⟨⟨x0, x1, x2⟩, ⟨x3, x4⟩, z0, z1⟩)
      (first
        | (go_at_call 40; refine (HALL.out _).mono ?_; rintro r wK ⟨ax, cx, rfl, HLA, hbK⟩; have HB := Lib.hid (HB.out.trans (hbK.mono HB.out.size)))
        | (go_at_call 43; refine (HPB.out _ _ _ (HR.out _ HB.out).2 (act_row rfl HLA.out).1).mono ?_; rintro r wK ⟨rfl, hbK⟩; have HB := Lib.hid (HB.out.trans (hbK.mono HB.out.size))))
    all_goals
      have hS : (wK.cell? ⟨X, 0, none⟩ = some (.int .i64 t) ∧ wK.cell? ⟨X, 1, none⟩ = some (.slice a n c) ∧ wK.cell? ⟨X, 2, none⟩ = some (.int .i64 tk)) ∧ (wK.cell? ⟨X, 3, none⟩ = some (.int .i64 dl) ∧ wK.cell? ⟨X, 4, none⟩ = some (.slice a2 n2 c2)) ∧ (wK.cell? ⟨Z, 0, none⟩ = some (.int .u32 (m' : Int)) ∧ wK.cell? ⟨Z, 1, none⟩ = some (.int .i64 e')) := by assumption
      have x4 := hS.2.1.2
      have hX := block_lt_of_cell x4
      simp only at hX
      have HBK := Lib.hid HB.out
      have HR2 := Lib.hid (HR.out _ HB.out).2
      clear hS HB HX3 HB3 HZ3 HPB HALL
      rcases HCASE.out with ⟨rfl, heq, rfl⟩ | ⟨rfl, rfl⟩
      · have HEQ := Lib.hid heq
        clear heq HCASE
        go_wp2_with fail
        refine (HWC.out HEQ.out _ HR2.out).mono ?_
        rintro r w9 ⟨rfl, hb9⟩
        have HB9 := Lib.hid (HBK.out.trans (hb9.mono HBK.out.size))
        clear hb9
        go_wp2
        go_ret
        exact ⟨rfl, HB9.out⟩
      · clear HCASE
        go_wp2
        go_ret
        exact ⟨rfl, HBK.out⟩
end Go.Proofs.Ytcbadcbnknmdnaa
