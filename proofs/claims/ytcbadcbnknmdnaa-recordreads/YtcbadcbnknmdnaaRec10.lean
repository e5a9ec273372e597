/-
  Layer 20: the law's own: a record is the document's.
-/
import Derived.Test.YtcbadcbnknmdnaaRec9
import Derived.Test.YtcbadcbnknmdnaaRosR4
import Derived.Test.YtcbadcbnknmdnaaRosL3
namespace Go.Proofs.Ytcbadcbnknmdnaa
open Go.RowKit
set_option linter.unusedVariables false

theorem RecIs.below {w W : World} {R : Rec} {a a2 : Option Addr} {ls ls2 : List (List Value)} (h : RecIs w R a ls a2 ls2) (hb : Below w.heap.size w W) : RecIs W R a ls a2 ls2 := h.k h.inK (touch_of_below hb)
theorem Cs.below {W W' : World} {C : Nat} {vs : List Value} (h : Cs W C vs) (hb : Below W.heap.size W W') : Cs W' C vs := h.touch (touch_of_below (S := fun _ => False) hb) id
theorem ordSame_eq (a : Option Addr) (c : Nat) (l : List Ord) (b : Option Addr) (d : Nat) (w : World) (hl : l.length ≤ 100000) (hr : OrdRow w a l) (hs : OrdRow w b l) : Calls Try.prog 51 #[.slice a l.length c, .slice b l.length d] w fun r w' => r = .returned (.int .i64 0) ∧ Below w.heap.size w w' := by
  refine (ordSame_any a c l b d l w hl hl hr hs).mono ?_
  rintro r w' ⟨n, rfl, -, h, hb⟩
  exact ⟨by rw [h.2 rfl], hb⟩
/-- What a round of the second loop reads. -/
structure Sm (w : World) (X P g2 o : Nat) (vs : List Value) (q : Pl) (x1 x2 : Option Addr) (n1 n2 : Nat) (W : World) : Prop where
  x : Cs W X vs
  p : Cs W P [.int .i64 q.p, .slice x2 q.l.length n2]
  r : W.cell? ⟨g2, o, none⟩ = some (.int .i64 q.p) ∧ W.cell? ⟨g2, o + 1, none⟩ = some (.slice x1 q.l.length n1)
  o1 : OrdRow W x1 q.l
  o2 : OrdRow W x2 q.l
  bel : Below w.heap.size w W
theorem Sm.keep {w : World} {X P g2 o : Nat} {vs : List Value} {q : Pl} {x1 x2 : Option Addr} {n1 n2 : Nat} {W W' : World} (h : Sm w X P g2 o vs q x1 x2 n1 n2 W) (hb : Below W.heap.size W W') : Sm w X P g2 o vs q x1 x2 n1 n2 W' :=
  ⟨h.x.below hb, h.p.below hb, ⟨(hb.cell (block_lt_of_cell h.r.1)).trans h.r.1, (hb.cell (block_lt_of_cell h.r.2)).trans h.r.2⟩, h.o1.below hb, h.o2.below hb, h.bel.trans (hb.mono h.bel.size)⟩
set_option maxRecDepth 100000 in
set_option maxHeartbeats 4000000 in
theorem recSame_any (R : Rec) (a : Option Addr) (n c : Nat) (ls : List (List Value)) (a2 : Option Addr) (n2 c2 : Nat) (ls2 : List (List Value)) (b : Option Addr) (d : Nat) (ms : List (List Value)) (b2 : Option Addr) (d2 : Nat) (ms2 : List (List Value)) (w : World) (hr : RecIs w R a ls a2 ls2) (hs : RecIs w R b ms b2 ms2) (hn : n = R.ch.length) (hn2 : n2 = R.pl.length) (hv : ∀ q ∈ R.ch, q.v.length ≤ 1000) (hp : ∀ q ∈ R.pl, q.l.length ≤ 1000) (hnb : n ≤ 1000) (hnb2 : n2 ≤ 1000) :
    Calls Try.prog 19 #[recV R.t a n c R.tk R.dl a2 n2 c2, recV R.t b n d R.tk R.dl b2 n2 d2] w fun r w' => r = .returned (.int .i64 0) ∧ Below w.heap.size w w' := by
  have HR := Lib.hid (fun W (hW : Below w.heap.size w W) => hr.below hW)
  have HS := Lib.hid (fun W (hW : Below w.heap.size w W) => hs.below hW)
  obtain ⟨t, ch, tk, dl, pl⟩ := R
  simp only at hn hn2 hv hp HR HS ⊢
  have HN := Lib.hid hn
  have HN2 := Lib.hid hn2
  have HV := Lib.hid hv
  have HP := Lib.hid hp
  have e1 : (w.alloc (.cells #[.int .i64 t, .slice a n c, .int .i64 tk, .int .i64 dl, .slice a2 n2 c2] 34)).heap.size = w.heap.size + 1 := by simp
  have hA : Below w.heap.size w ((w.alloc (.cells #[.int .i64 t, .slice a n c, .int .i64 tk, .int .i64 dl, .slice a2 n2 c2] 34)).alloc (.cells #[.int .i64 t, .slice b n d, .int .i64 tk, .int .i64 dl, .slice b2 n2 d2] 46)) := bel_alloc (bel_alloc (Below.refl _ _) _) _
  have HX : Hid (Cs ((w.alloc (.cells #[.int .i64 t, .slice a n c, .int .i64 tk, .int .i64 dl, .slice a2 n2 c2] 34)).alloc (.cells #[.int .i64 t, .slice b n d, .int .i64 tk, .int .i64 dl, .slice b2 n2 d2] 46)) w.heap.size [.int .i64 t, .slice a n c, .int .i64 tk, .int .i64 dl, .slice a2 n2 c2] ∧ Cs ((w.alloc (.cells #[.int .i64 t, .slice a n c, .int .i64 tk, .int .i64 dl, .slice a2 n2 c2] 34)).alloc (.cells #[.int .i64 t, .slice b n d, .int .i64 tk, .int .i64 dl, .slice b2 n2 d2] 46)) (w.heap.size + 1) [.int .i64 t, .slice b n d, .int .i64 tk, .int .i64 dl, .slice b2 n2 d2]) := Lib.hid ⟨(Cs.new rfl rfl).below (bel_alloc (Below.refl _ _) _), Cs.new e1.symm rfl⟩
  have HB := Lib.hid hA
  unfold recV
  clear hr hs hA hn hn2 e1 hv hp
  go_enter Try.func19, Try.ntmps19
  go_upto_region 1 with (fail)
  generalize (w.alloc (.cells #[.int .i64 t, .slice a n c, .int .i64 tk, .int .i64 dl, .slice a2 n2 c2] 34)).alloc (.cells #[.int .i64 t, .slice b n d, .int .i64 tk, .int .i64 dl, .slice b2 n2 d2] 46) = W0 at HX HB ⊢
  generalize w.heap.size + 1 = Y at HX ⊢
  generalize w.heap.size = X at HX ⊢
  have x0 : W0.cell? ⟨X, 0, none⟩ = some (.int .i64 t) := HX.out.1 0 (by simp)
  have x1 : W0.cell? ⟨X, 1, none⟩ = some (.slice a n c) := HX.out.1 1 (by simp)
  have x2 : W0.cell? ⟨X, 2, none⟩ = some (.int .i64 tk) := HX.out.1 2 (by simp)
  have x3 : W0.cell? ⟨X, 3, none⟩ = some (.int .i64 dl) := HX.out.1 3 (by simp)
  have x4 : W0.cell? ⟨X, 4, none⟩ = some (.slice a2 n2 c2) := HX.out.1 4 (by simp)
  have y0 : W0.cell? ⟨Y, 0, none⟩ = some (.int .i64 t) := HX.out.2 0 (by simp)
  have y1 : W0.cell? ⟨Y, 1, none⟩ = some (.slice b n d) := HX.out.2 1 (by simp)
  have y2 : W0.cell? ⟨Y, 2, none⟩ = some (.int .i64 tk) := HX.out.2 2 (by simp)
  have y3 : W0.cell? ⟨Y, 3, none⟩ = some (.int .i64 dl) := HX.out.2 3 (by simp)
  have y4 : W0.cell? ⟨Y, 4, none⟩ = some (.slice b2 n2 d2) := HX.out.2 4 (by simp)
  have hX := block_lt_of_cell x0
  have hY := block_lt_of_cell y0
  simp only at hX hY
  go_wp2
  clear x0 x1 x2 x3 x4 y0 y1 y2 y3 y4 hX hY
  go_loopw [43] (fun i wr => ∃ j : Nat, j ≤ n ∧ i = .int .i64 j ∧ Hid (Below w.heap.size w wr ∧ Cs wr X [.int .i64 t, .slice a n c, .int .i64 tk, .int .i64 dl, .slice a2 n2 c2] ∧ Cs wr Y [.int .i64 t, .slice b n d, .int .i64 tk, .int .i64 dl, .slice b2 n2 d2])) (fun i _ => n - (intOf i).toNat)
  case atStart => exact ⟨0, by omega, rfl, Lib.hid ⟨HB.out, HX.out.1, HX.out.2⟩⟩
  case round =>
    clear HB HX
    obtain ⟨j, hj, rfl, HM⟩ := hrel
    have hi0 : (0 : Int) ≤ (j : Int) := by omega
    by_cases hlt : j < n
    · have hi1 : (j : Int) < (n : Int) := by omega
      have hjc : j < ch.length := by have := HN.out; omega
      have h1 := HR.out _ HM.out.1
      have h2 := HS.out _ HM.out.1
      obtain ⟨g1, o1, v1, n1, rfl, hg1, c0, c1, c2', act1, -⟩ := ch_at h1.1.1 h1.1.2 hjc
      obtain ⟨g2, o2, v2, m1, rfl, hg2, d0, d1, d2', act2, -⟩ := ch_at h2.1.1 h2.1.2 hjc
      have HVQ := Lib.hid (HV.out _ (List.getElem_mem hjc))
      generalize ch[j] = q at c0 c1 c2' d0 d1 d2' act1 act2 HVQ
      obtain ⟨qk, qp, qv⟩ := q
      simp only at c0 c1 c2' d0 d1 d2' act1 act2
      have HSA := Lib.hid (fun W (hW : Below wr.heap.size wr W) => same18_any v1 v2 n1 m1 qv W ((act_row rfl act1).1.below hW) ((act_row rfl act2).1.below hW) qv.length rfl HVQ.out)
      have x1 : wr.cell? ⟨X, 1, none⟩ = some (.slice (some ⟨g1, o1, none⟩) n c) := HM.out.2.1 1 (by simp)
      have hX := block_lt_of_cell x1
      simp only at hX
      have hA1 := bel_alloc (Below.refl _ wr) (.cells #[.int .i64 qk, .int .i64 qp, .slice v2 qv.length m1] 105)
      have hA2 := bel_alloc hA1 (.cells #[.int .i64 qk, .int .i64 qp, .slice v1 qv.length n1] 97)
      have HA2 := Lib.hid hA2
      clear act1 act2 h1 h2 hA1 hA2
      go_wp2_with fail
      refine (HSA.out _ HA2.out).mono ?_
      rintro r w2 ⟨rfl, hb2⟩
      have hbel := HA2.out.trans (hb2.mono HA2.out.size)
      have HM2 := Lib.hid (And.intro (HM.out.1.trans (hbel.mono HM.out.1.size)) (And.intro (HM.out.2.1.below hbel) (HM.out.2.2.below hbel)))
      clear hb2 hbel HA2 HSA HM c0 c1 c2' d0 d1 d2' x1 hX
      go_wp2
      go_roundw
      case rel => exact ⟨j + 1, by omega, by go_num, HM2⟩
      case measure => simp [intOf] <;> omega
    · obtain rfl : j = n := by omega
      have hi1 : (j : Int) ≤ (j : Int) := by omega
      have y4 : wr.cell? ⟨Y, 4, none⟩ = some (.slice b2 n2 d2) := HM.out.2.2 4 (by simp)
      have hY := block_lt_of_cell y4
      simp only at hY
      go_wp2
      clear y4 hY
      go_loopw [77] (fun i wr => ∃ k : Nat, k ≤ n2 ∧ i = .int .i64 k ∧ Hid (Below w.heap.size w wr ∧ Cs wr X [.int .i64 t, .slice a j c, .int .i64 tk, .int .i64 dl, .slice a2 n2 c2])) (fun i _ => n2 - (intOf i).toNat)
      case atStart => exact ⟨0, by omega, rfl, Lib.hid ⟨HM.out.1, HM.out.2.1⟩⟩
      case round =>
        clear HM
        obtain ⟨k, hk, rfl, HM⟩ := hrel
        have hk0 : (0 : Int) ≤ (k : Int) := by omega
        by_cases hlt2 : k < n2
        · have hk1 : (k : Int) < (n2 : Int) := by omega
          have hkp : k < pl.length := by have := HN2.out; omega
          have h1 := HR.out _ HM.out.1
          have h2 := HS.out _ HM.out.1
          obtain ⟨g1, o1, v1, n1, rfl, hg1, c0, c1, act1⟩ := pl_at h1.2.1 h1.2.2 hkp
          obtain ⟨g2, o2, v2, m1, rfl, hg2, d0, d1, act2⟩ := pl_at h2.2.1 h2.2.2 hkp
          have HPQ := Lib.hid (HP.out _ (List.getElem_mem hkp))
          generalize pl[k] = q at c0 c1 d0 d1 act1 act2 HPQ
          have hA1 := bel_alloc (Below.refl _ wr) (.cells #[.int .i64 q.p, .slice v2 q.l.length m1] 109)
          have HC : Hid (Sm w X wr.heap.size g1 (o1 + k * 2) [.int .i64 t, .slice a j c, .int .i64 tk, .int .i64 dl, .slice (some ⟨g1, o1, none⟩) n2 c2] q v1 v2 n1 m1 (wr.alloc (.cells #[.int .i64 q.p, .slice v2 q.l.length m1] 109))) := Lib.hid ⟨HM.out.2.below hA1, Cs.new rfl rfl, ⟨alloc_cell c0 _, alloc_cell c1 _⟩, act1.1.below hA1, act2.1.below hA1, HM.out.1.trans (hA1.mono HM.out.1.size)⟩
          have HSA := Lib.hid (fun W (h1 : OrdRow W v1 q.l) (h2 : OrdRow W v2 q.l) => ordSame_eq v1 n1 q.l v2 m1 W (by have := HPQ.out; omega) h1 h2)
          obtain ⟨qp, ql⟩ := q
          simp only at c0 c1 d0 d1 HSA
          clear act1 act2 h1 h2 hA1
          go_upto_region 13 with (fail)
          generalize wr.alloc (.cells #[.int .i64 qp, .slice v2 ql.length m1] 109) = W5 at HC ⊢
          generalize wr.heap.size = P at HC ⊢
          clear c0 c1 d0 d1
          · refine wp_region_c18 (C := fun W => Sm w X P g1 (o1 + k * 2) [.int .i64 t, .slice a j c, .int .i64 tk, .int .i64 dl, .slice (some ⟨g1, o1, none⟩) n2 c2] ⟨qp, ql⟩ v1 v2 n1 m1 W) (by kernel_rfl) (by kernel_rfl) (HC.out.keep (Below.refl _ _).drew) ?_
            repeat
              (refine wpQuiet_step (fun K hK => ?_)
               go_simp
               first
                 | (refine hK _ ?_; clear hK K)
                 | (apply Exists.intro
                    refine ⟨fun W hW => ?_, hK _ ?_⟩
                    (first
                      | (go_at_call 51; exact (HSA.out W hW.o1 hW.o2).mono fun r W' h => ⟨h.1, hW.keep h.2⟩)
                      | (have z4 : W.cell? ⟨X, 4, none⟩ = some (.slice (some ⟨g1, o1, none⟩) n2 c2) := hW.x 4 (by simp); have z5 : W.cell? ⟨P, 0, none⟩ = some (.int .i64 qp) := hW.p 0 (by simp); have z6 : W.cell? ⟨P, 1, none⟩ = some (.slice v2 ql.length m1) := hW.p 1 (by simp); have z7 := hW.r.1; have z8 := hW.r.2; simp only at z7 z8; clear hW; go_simp; first | exact ⟨rfl, rfl⟩ | exact rfl | trivial))
                    clear hK K))
            refine wpQuiet_nil ?_
            intro W6 hW6
            have HM2 := Lib.hid (And.intro hW6.bel hW6.x)
            clear hW6 HC HM HSA
            go_wp2
            go_roundw
            case rel => exact ⟨k + 1, by omega, by go_num, HM2⟩
            case measure => simp [intOf] <;> omega
        · obtain rfl : k = n2 := by omega
          have hk1 : (k : Int) ≤ (k : Int) := by omega
          go_wp2
          go_ret
          exact ⟨rfl, HM.out.1⟩
end Go.Proofs.Ytcbadcbnknmdnaa
