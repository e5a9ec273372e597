/-
  Layer 20: the parts of a record's Check.
-/
import Derived.Test.YtcbadcbnknmdnaaRec10
import Derived.Test.YtcbadcbnknmdnaaRosR4
import Derived.Test.YtcbadcbnknmdnaaPace2
namespace Go.Proofs.Ytcbadcbnknmdnaa
open Go.RowKit
set_option linter.unusedVariables false

theorem lstK_pairwise (p k : Nat) : (lstK p k).Pairwise (· < ·) := by
  unfold lstK
  rw [List.pairwise_map]
  exact ((List.pairwise_lt_range (n := k)).filter _).imp (fun h => by show (Int.ofNat _) < (Int.ofNat _); simpa using h)
def prvI (L : List Int) : Nat → Int
  | 0 => -1
  | k + 1 => L.getD k (-1)
theorem lstP_prv (n k : Nat) (h : k < (lstP n).length) : 0 ≤ (lstP n)[k] ∧ (lstP n)[k] < 32 ∧ prvI (lstP n) k < (lstP n)[k] := by
  have hm := mem_lstK.1 (show (lstP n)[k] ∈ lstK n 32 from List.getElem_mem h)
  refine ⟨hm.1, by simpa using hm.2.1, ?_⟩
  cases k with
  | zero => simp only [prvI]; omega
  | succ k =>
    have := List.pairwise_iff_getElem.1 (lstK_pairwise n 32) k (k + 1) (by unfold lstP at h; omega) h (by omega)
    simp only [prvI]
    rw [List.getD_eq_getElem?_getD, List.getElem?_eq_getElem (show k < (lstP n).length by omega)]
    exact this
def plP (pl : List Pl) : List Int := pl.map (·.p)
set_option maxRecDepth 100000 in
set_option maxHeartbeats 1000000 in
theorem checkPace_any (R : Rec) (a : Option Addr) (n c : Nat) (a2 : Option Addr) (n2 c2 : Nat) (w : World) (hp : (R.tk = 0 ∧ R.dl = 0) ∨ mayP R.tk R.dl = true) :
    Calls Try.prog 42 #[recV R.t a n c R.tk R.dl a2 n2 c2] w fun r w' => r = .returned (.int .i64 0) ∧ Below w.heap.size w w' := by
  obtain ⟨t, ch, tk, dl, pl⟩ := R
  simp only at hp ⊢
  have HA := Lib.hid (bel_alloc (Below.refl _ w) (.cells #[.int .i64 t, .slice a n c, .int .i64 tk, .int .i64 dl, .slice a2 n2 c2] 34))
  have HX : Hid (Cs (w.alloc (.cells #[.int .i64 t, .slice a n c, .int .i64 tk, .int .i64 dl, .slice a2 n2 c2] 34)) w.heap.size [.int .i64 t, .slice a n c, .int .i64 tk, .int .i64 dl, .slice a2 n2 c2]) := Lib.hid (Cs.new rfl rfl)
  have HPC := Lib.hid (fun W => pcheck17_any tk dl W)
  unfold recV
  by_cases hz : tk = 0 ∧ dl = 0
  · obtain ⟨rfl, rfl⟩ := hz
    clear hp
    go_enter Try.func42, Try.ntmps42
    go_upto_region 1 with (fail)
    generalize w.alloc (.cells #[.int .i64 t, .slice a n c, .int .i64 0, .int .i64 0, .slice a2 n2 c2] 34) = W0 at HA HX ⊢
    generalize w.heap.size = X at HX ⊢
    have x2 : W0.cell? ⟨X, 2, none⟩ = some (.int .i64 0) := HX.out 2 (by simp)
    have x3 : W0.cell? ⟨X, 3, none⟩ = some (.int .i64 0) := HX.out 3 (by simp)
    have hX := block_lt_of_cell x2
    simp only at hX
    go_wp2
    go_ret
    exact ⟨rfl, HA.out⟩
  · have hm : mayP tk dl = true := hp.resolve_left hz
    have htk : ¬ tk = 0 := by
      have h1 := hm
      unfold mayP at h1
      simp only [Bool.and_eq_true, decide_eq_true_eq] at h1
      omega
    have htb : (tk == 0) = false := by rw [beq_eq_false_iff_ne]; exact htk
    simp only [hm, if_true] at HPC
    clear hp hm hz
    go_enter Try.func42, Try.ntmps42
    go_upto_region 1 with (fail)
    generalize w.alloc (.cells #[.int .i64 t, .slice a n c, .int .i64 tk, .int .i64 dl, .slice a2 n2 c2] 34) = W0 at HA HX ⊢
    generalize w.heap.size = X at HX ⊢
    have x2 : W0.cell? ⟨X, 2, none⟩ = some (.int .i64 tk) := HX.out 2 (by simp)
    have x3 : W0.cell? ⟨X, 3, none⟩ = some (.int .i64 dl) := HX.out 3 (by simp)
    have hX := block_lt_of_cell x2
    simp only at hX
    go_wp2_with fail
    with_reducible refine (HPC.out _).mono ?_
    rintro r w1 ⟨rfl, rfl⟩
    have HB := Lib.hid (HA.out.trans ((bel_alloc (Below.refl _ W0) (.cells #[.int .i64 tk, .int .i64 dl] 31)).mono HA.out.size))
    go_wp2
    go_ret
    exact ⟨rfl, HB.out⟩
set_option maxRecDepth 100000 in
set_option maxHeartbeats 2000000 in
theorem playedBy_any (R : Rec) (a : Option Addr) (n c : Nat) (a2 : Option Addr) (n2 c2 : Nat) (ls2 : List (List Value)) (ax : Option Addr) (N cx : Nat) (L : List Int) (w : World) (hr : VRow 2 w a2 ls2 ∧ PlIs w ls2 R.pl) (hl : IntRow .i64 w ax L) (hn2 : n2 = R.pl.length) (hN : N = L.length) (hb : n2 ≤ 1000) (hb2 : N ≤ 1000) :
    Calls Try.prog 43 #[recV R.t a n c R.tk R.dl a2 n2 c2, .slice ax N cx] w fun r w' => r = .returned (.bool (decide (plP R.pl = L))) ∧ Below w.heap.size w w' := by
  have HR := Lib.hid (fun W (hW : Below w.heap.size w W) => show VRow 2 W a2 ls2 ∧ PlIs W ls2 R.pl from ⟨VRow.k (K := fun k => k < w.heap.size) (by decide) hr.2.wide hr.1 (fun h0 x hx => by
    obtain ⟨b, off, y, m, e, hb, -⟩ := pl_at hr.1 hr.2 (k := 0) (by have := hr.2.1; omega)
    rw [hx] at e; cases e; exact hb) (touch_of_below hW), hr.2.below hW⟩)
  have HL := Lib.hid (fun W (hW : Below w.heap.size w W) => hl.below hW)
  obtain ⟨t, ch, tk, dl, pl⟩ := R
  simp only at hn2 HR ⊢
  have HN2 := Lib.hid hn2
  have HN := Lib.hid hN
  have HA := Lib.hid (bel_alloc (Below.refl _ w) (.cells #[.int .i64 t, .slice a n c, .int .i64 tk, .int .i64 dl, .slice a2 n2 c2] 34))
  have HX : Hid (Cs (w.alloc (.cells #[.int .i64 t, .slice a n c, .int .i64 tk, .int .i64 dl, .slice a2 n2 c2] 34)) w.heap.size [.int .i64 t, .slice a n c, .int .i64 tk, .int .i64 dl, .slice a2 n2 c2]) := Lib.hid (Cs.new rfl rfl)
  have HQ : Hid (∀ q : Bool, (q = true ↔ plP pl = L) → decide (plP pl = L) = q) := Lib.hid (fun q h => by cases q <;> simp_all)
  generalize decide (plP pl = L) = res at HQ ⊢
  unfold recV
  clear hr hl hn2 hN
  go_enter Try.func43, Try.ntmps43
  go_upto_region 1 with (fail)
  generalize w.alloc (.cells #[.int .i64 t, .slice a n c, .int .i64 tk, .int .i64 dl, .slice a2 n2 c2] 34) = W0 at HA HX ⊢
  generalize w.heap.size = X at HX ⊢
  have x4 : W0.cell? ⟨X, 4, none⟩ = some (.slice a2 n2 c2) := HX.out 4 (by simp)
  have hX := block_lt_of_cell x4
  simp only at hX
  by_cases hNN : n2 = N
  · subst hNN
    go_wp2
    clear x4 hX
    go_loopw [16] (fun i wr => ∃ k : Nat, k ≤ n2 ∧ i = .int .i64 k ∧ Hid (Below w.heap.size w wr ∧ (plP pl).take k = L.take k)) (fun i _ => n2 - (intOf i).toNat)
    case atStart => exact ⟨0, by omega, rfl, Lib.hid ⟨HA.out, rfl⟩⟩
    case round =>
      clear HA HX
      obtain ⟨k, hk, rfl, HM⟩ := hrel
      have hk0 : (0 : Int) ≤ (k : Int) := by omega
      by_cases hlt : k < n2
      · have hk1 : (k : Int) < (n2 : Int) := by omega
        have hkp : k < pl.length := by have := HN2.out; omega
        have hkl : k < L.length := by have := HN.out; omega
        have h1 := HR.out _ HM.out.1
        obtain ⟨g1, o1, v1, m1, rfl, hg1, c0, c1, act1⟩ := pl_at h1.1 h1.2 hkp
        obtain ⟨g2, o2, rfl, hc2⟩ := HL.out _ HM.out.1 (by omega)
        have d0 := hc2 k hkl
        have hg2 := block_lt_of_cell d0
        simp only at hg2
        have HT1 := Lib.hid (show (plP pl).take (k + 1) = (plP pl).take k ++ [pl[k].p] by rw [List.take_succ_eq_append_getElem (show k < (plP pl).length by unfold plP; rw [List.length_map]; exact hkp)]; unfold plP; simp)
        have HT2 := Lib.hid (List.take_succ_eq_append_getElem hkl)
        have HK1 := Lib.hid (show (plP pl)[k]? = some pl[k].p by unfold plP; simp [hkp])
        have HK2 := Lib.hid (show L[k]? = some L[k] by simp [hkl])
        generalize L[k] = y at d0 HT2 HK2
        generalize pl[k] = q at c0 c1 HT1 HK1
        obtain ⟨qp, ql⟩ := q
        simp only at c0 c1 HT1 HK1
        have hA1 := bel_alloc (Below.refl _ wr) (.cells #[.int .i64 qp, .slice v1 ql.length m1] 52)
        have HA1 := Lib.hid (HM.out.1.trans (hA1.mono HM.out.1.size))
        clear act1 h1 hc2 hA1
        by_cases he : qp = y
        · subst he
          have HM2 := Lib.hid (And.intro HA1.out.drew (show (plP pl).take (k + 1) = L.take (k + 1) by rw [HT1.out, HT2.out, HM.out.2]))
          go_upto_region 6 with (fail)
          go_quiet (fail)
          have HM3 := Lib.hid (And.intro (bel18_drewN HA1.out nq) HM2.out.2)
          clear HM2 HA1 HM
          go_wp2
          go_roundw
          case rel => exact ⟨k + 1, by omega, by go_num, HM3⟩
          case measure => simp [intOf] <;> omega
        · have hyb : (qp == y) = false := by rw [beq_eq_false_iff_ne]; exact he
          have hyc : (qp != y) = true := by rw [bne_iff_ne]; exact he
          have hres : res = false := HQ.out false ⟨fun h => (by cases h), fun h => by
            have h1 := HK1.out
            rw [h] at h1
            have h2 := HK2.out
            rw [h1] at h2
            exact absurd (by simpa using h2) he⟩
          subst hres
          go_upto_region 6 with (fail)
          go_quiet (fail)
          have HM3 := Lib.hid (bel18_drewN HA1.out nq)
          clear HA1 HM
          go_wp2
          go_ret
          exact ⟨rfl, HM3.out⟩
      · obtain rfl : k = n2 := by omega
        have hk1 : (k : Int) ≤ (k : Int) := by omega
        have hres : res = true := HQ.out true ⟨fun _ => by
          have := HM.out.2
          rwa [List.take_of_length_le (by unfold plP; rw [List.length_map]; have := HN2.out; omega), List.take_of_length_le (by have := HN.out; omega)] at this, fun _ => rfl⟩
        subst hres
        go_wp2
        go_ret
        exact ⟨rfl, HM.out.1⟩
  · have hnb : ((n2 : Int) == (N : Int)) = false := by rw [beq_eq_false_iff_ne]; omega
    have hnc : ((n2 : Int) != (N : Int)) = true := by rw [bne_iff_ne]; omega
    have hni : ¬ (n2 : Int) = (N : Int) := by omega
    have hres : res = false := HQ.out false ⟨fun h => (by cases h), fun h => absurd (by rw [HN2.out, HN.out, ← h]; unfold plP; simp) hNN⟩
    subst hres
    go_wp2
    go_ret
    exact ⟨rfl, HA.out⟩
set_option maxRecDepth 100000 in
set_option maxHeartbeats 2000000 in
theorem worldCheck_any (pl : List Pl) (a2 : Option Addr) (n2 c2 : Nat) (ls2 : List (List Value)) (w : World) (hr : VRow 2 w a2 ls2 ∧ PlIs w ls2 pl) (hn2 : n2 = pl.length) (hb : n2 ≤ 1000) (hd : ∀ q ∈ pl, BatchDom q.l) (ho : ∀ k (h : k < pl.length), 0 ≤ pl[k].p ∧ pl[k].p < 32 ∧ prvI (plP pl) k < pl[k].p) :
    Calls Try.prog 44 #[.slice a2 n2 c2] w fun r w' => r = .returned (.int .i64 0) ∧ Below w.heap.size w w' := by
  have HR := Lib.hid (fun W (hW : Below w.heap.size w W) => show VRow 2 W a2 ls2 ∧ PlIs W ls2 pl from ⟨VRow.k (K := fun k => k < w.heap.size) (by decide) hr.2.wide hr.1 (fun h0 x hx => by
    obtain ⟨b, off, y, m, e, hb, -⟩ := pl_at hr.1 hr.2 (k := 0) (by have := hr.2.1; omega)
    rw [hx] at e; cases e; exact hb) (touch_of_below hW), hr.2.below hW⟩)
  have HN2 := Lib.hid hn2
  have HD := Lib.hid hd
  have HO := Lib.hid ho
  clear hr hn2 hd ho
  go_enter Try.func44, Try.ntmps44
  go_wp2
  go_loopw [3, 9] (fun v i wr => ∃ k : Nat, k ≤ n2 ∧ i = .int .i64 k ∧ v = .int .i64 (prvI (plP pl) k) ∧ Hid (Below w.heap.size w wr)) (fun _ i _ => n2 - (intOf i).toNat)
  case atStart => exact ⟨0, by omega, rfl, rfl, Lib.hid (Below.refl _ _)⟩
  case round =>
    obtain ⟨k, hk, rfl, rfl, HM⟩ := hrel
    have hk0 : (0 : Int) ≤ (k : Int) := by omega
    by_cases hlt : k < n2
    · have hk1 : (k : Int) < (n2 : Int) := by omega
      have hkp : k < pl.length := by have := HN2.out; omega
      have h1 := HR.out _ HM.out
      obtain ⟨g1, o1, v1, m1, rfl, hg1, c0, c1, act1⟩ := pl_at h1.1 h1.2 hkp
      obtain ⟨p1, p2, p3⟩ := HO.out k hkp
      have HDQ := Lib.hid (HD.out _ (List.getElem_mem hkp))
      have HNX : Hid (prvI (plP pl) (k + 1) = pl[k].p) := Lib.hid (by unfold prvI plP; simp [hkp])
      generalize pl[k] = q at c0 c1 act1 p1 p2 p3 HDQ HNX
      generalize prvI (plP pl) k = pr at p3 ⊢
      obtain ⟨qp, ql⟩ := q
      simp only at c0 c1 act1 p1 p2 p3 HDQ HNX
      have HBC := Lib.hid (fun W (hW : OrdRow W v1 ql) => batchCheck_any v1 m1 ql W (by have := HDQ.out.1; omega) hW)
      rw [batchN_of HDQ.out] at HBC
      have hA1 := bel_alloc (Below.refl _ wr) (.cells #[.int .i64 qp, .slice v1 ql.length m1] 52)
      have HOR := Lib.hid (act1.1.below hA1)
      have HA1 := Lib.hid (HM.out.trans (hA1.mono HM.out.size))
      have hP : wr.heap.size < (wr.alloc (.cells #[.int .i64 qp, .slice v1 ql.length m1] 52)).heap.size := by simp
      have y0 : (wr.alloc (.cells #[.int .i64 qp, .slice v1 ql.length m1] 52)).cell? ⟨wr.heap.size, 0, none⟩ = some (.int .i64 qp) := new_cell rfl rfl
      have HY := Lib.hid y0
      clear act1 h1 hA1
      go_wp2_with fail
      refine (HBC.out _ HOR.out).mono ?_
      rintro r w2 ⟨rfl, hb2⟩
      have y0' := (hb2.cell hP).trans HY.out
      have HM2 := Lib.hid (HA1.out.trans (hb2.mono HA1.out.size))
      have hP2 := block_lt_of_cell y0'
      simp only at hP2
      clear hb2 HBC HOR HA1 HM c0 c1 y0 hP
      go_wp2
      go_roundw
      case rel => exact ⟨k + 1, by omega, by go_num, by rw [HNX.out], HM2⟩
      case measure => simp [intOf] <;> omega
    · obtain rfl : k = n2 := by omega
      have hk1 : (k : Int) ≤ (k : Int) := by omega
      go_wp2
      go_ret
      exact ⟨rfl, HM.out⟩
end Go.Proofs.Ytcbadcbnknmdnaa
