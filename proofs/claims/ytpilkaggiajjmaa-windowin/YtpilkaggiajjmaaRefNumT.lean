/-
  The document's own way to take a number: what it comes to.
-/
import Derived.Test.YtpilkaggiajjmaaRefTake
import Derived.BigQuiet
import Derived.Deep.Cut
import Derived.LoopN
namespace Go.Proofs.Ytpilkaggiajjmaa
open Go.RowKit
set_option linter.unusedVariables false

/-- The memory of a call that takes a number, behind k bytes. -/
structure TakeW (w wr : World) (l : List UInt8) (x : Value) : Prop where
  c0 : wr.cell? ⟨w.heap.size, 0, none⟩ = some (.string (bs l))
  c1 : wr.cell? ⟨w.heap.size, 1, none⟩ = some x
  f0 : wr.frozen? ⟨w.heap.size, 0, none⟩ = false
  f1 : wr.frozen? ⟨w.heap.size, 1, none⟩ = false
  r0 : wr.cell? ⟨w.heap.size + 1, 0, none⟩ = some (.string ⟨#[]⟩)
  r1 : wr.cell? ⟨w.heap.size + 1, 1, none⟩ = some (.int .i64 0)
  g0 : wr.frozen? ⟨w.heap.size + 1, 0, none⟩ = false
  g1 : wr.frozen? ⟨w.heap.size + 1, 1, none⟩ = false
  sz : w.heap.size + 1 < wr.heap.size
  bel : Below w.heap.size w wr
theorem TakeW.keep {w wr w' : World} {l : List UInt8} {x : Value} (h : TakeW w wr l x) (hb : Below wr.heap.size wr w') : TakeW w w' l x := by
  have hs := h.sz
  have hz := hb.size
  refine ⟨(hb.cell (p := ⟨w.heap.size, 0, none⟩) (by show w.heap.size < _; omega)).trans h.c0, (hb.cell (p := ⟨w.heap.size, 1, none⟩) (by show w.heap.size < _; omega)).trans h.c1, (hb.frozen (p := ⟨w.heap.size, 0, none⟩) (by show w.heap.size < _; omega)).trans h.f0, (hb.frozen (p := ⟨w.heap.size, 1, none⟩) (by show w.heap.size < _; omega)).trans h.f1,
    (hb.cell (p := ⟨w.heap.size + 1, 0, none⟩) hs).trans h.r0, (hb.cell (p := ⟨w.heap.size + 1, 1, none⟩) hs).trans h.r1, (hb.frozen (p := ⟨w.heap.size + 1, 0, none⟩) hs).trans h.g0, (hb.frozen (p := ⟨w.heap.size + 1, 1, none⟩) hs).trans h.g1, by omega, h.bel.trans (hb.mono (by omega))⟩
theorem TakeW.set {w wr : World} {l : List UInt8} {x : Value} (h : TakeW w wr l x) (l' : List UInt8) (x' : Value) : TakeW w ((wr.setCell ⟨w.heap.size, 0, none⟩ (.string (bs l'))).setCell ⟨w.heap.size, 1, none⟩ x') l' x' := by
  have hs := h.sz
  refine ⟨?_, World.cell?_setCell_same _ _ _ ((World.cell?_setCell_other _ _ _ _ (by simp)).trans h.c1), by simpa using h.f0, by simpa using h.f1, ?_, ?_, by simpa using h.g0, by simpa using h.g1, by simpa using hs, (h.bel.setCell (Nat.le_refl _) _).setCell (Nat.le_refl _) _⟩
  · rw [World.cell?_setCell_other _ _ _ _ (by simp)]; exact World.cell?_setCell_same _ _ _ h.c0
  · rw [World.cell?_setCell_other _ _ _ _ (by simp), World.cell?_setCell_other _ _ _ _ (by simp)]; exact h.r0
  · rw [World.cell?_setCell_other _ _ _ _ (by simp), World.cell?_setCell_other _ _ _ _ (by simp)]; exact h.r1
theorem TakeW.store {w wr : World} {l : List UInt8} {x : Value} (h : TakeW w wr l x) (l' : List UInt8) (x' : Value) (o : Obj) (n : Nat) : TakeW w ((((wr.setCell ⟨w.heap.size, 0, none⟩ (.string (bs l'))).setCell ⟨w.heap.size, 1, none⟩ x').alloc o).drewN n) l' x' := by
  have key := h.set l' x'
  have k2 := key.keep ((Below.refl _ _).alloc (Nat.le_refl _) o)
  exact ⟨k2.c0, k2.c1, k2.f0, k2.f1, k2.r0, k2.r1, k2.g0, k2.g1, k2.sz, ⟨k2.bel.os, k2.bel.tape, k2.bel.output, k2.bel.size, k2.bel.block⟩⟩
theorem TakeW.end0 {w wr : World} {l : List UInt8} {x : Value} (h : TakeW w wr l x) (a b : Value) : Below w.heap.size w ((wr.setCell ⟨w.heap.size + 1, 0, none⟩ a).setCell ⟨w.heap.size + 1, 1, none⟩ b) :=
  (h.bel.setCell (Nat.le_succ _) _).setCell (Nat.le_succ _) _
theorem rawS_one {l : List UInt8} {b : UInt8} {r : List UInt8} (h : l = b :: r) : rawS (l, 0) 1 = ((r, 0), [b]) := by
  subst h; exact rawS_yes (b :: r) 1 (by simp)
theorem takeW_new (w : World) (l : List UInt8) (e : Nat) : TakeW w ((w.alloc (.cells #[.string (bs l), .int .i64 e] 155)).alloc (.cells #[.string ⟨#[]⟩, .int .i64 0] 155)) l (.int .i64 e) := by
  have z1 : (w.alloc (.cells #[.string (bs l), .int .i64 e] 155)).heap.size = w.heap.size + 1 := by simp
  have c : ∀ j, ((w.alloc (.cells #[.string (bs l), .int .i64 e] 155)).alloc (.cells #[.string ⟨#[]⟩, .int .i64 0] 155)).cell? ⟨w.heap.size, j, none⟩ = (#[.string (bs l), .int .i64 e] : Array Value)[j]? := fun j => by
    rw [World.cell?_alloc_lt _ _ _ (by simp)]; simp
  have d : ∀ j, ((w.alloc (.cells #[.string (bs l), .int .i64 e] 155)).alloc (.cells #[.string ⟨#[]⟩, .int .i64 0] 155)).cell? ⟨w.heap.size + 1, j, none⟩ = (#[.string ⟨#[]⟩, .int .i64 0] : Array Value)[j]? := fun j => by
    rw [← z1]; simp
  refine ⟨by rw [c]; rfl, by rw [c]; rfl, ?_, ?_, by rw [d]; rfl, by rw [d]; rfl, ?_, ?_, by simp, ((Below.refl _ _).alloc (Nat.le_refl _) _).alloc (by simp) _⟩
  · rw [frozen_old _ _ _ (by simp)]; exact frozen_new _ _ _ _
  · rw [frozen_old _ _ _ (by simp)]; exact frozen_new _ _ _ _
  · rw [← z1]; exact frozen_new _ _ _ _
  · rw [← z1]; exact frozen_new _ _ _ _
set_option maxHeartbeats 1000000 in
set_option maxRecDepth 100000 in
theorem refTakeNum_any (l : List UInt8) (e : Nat) (w : World) (hl : l.length ≤ 1000000000) (h : e ≠ 0 → l = []) :
    Calls Try.prog 92 #[.agg #[.string (bs l), .int .i64 e]] w fun r w' => r = .returned (.tuple #[inV (numS (l, e)).1, .int .u64 ((numS (l, e)).2 : Nat)]) ∧ Below w.heap.size w w' := by
  by_cases he : e = 0
  · subst he
    clear h
    go_enter Try.func92, Try.ntmps92
    go_wp2
    go_loopw [4, 5] (fun n i wr => ∃ k acc : Nat, k ≤ l.length ∧ k ≤ 9 ∧ i = .int .i64 k ∧ n = .int .u64 acc ∧ Hid (acc < 128 ^ k) ∧ Hid (numT l = takeF k acc (l.drop k)) ∧ Hid (TakeW w wr (l.drop k) (.int .i64 0))) (fun _ i _ => 11 - (intOf i).toNat)
    case atStart =>
      refine ⟨0, 0, by omega, by omega, rfl, rfl, Lib.hid (by decide), Lib.hid rfl, Lib.hid ?_⟩
      exact takeW_new w l 0
    case round =>
      obtain ⟨k, acc, hk, hk9, rfl, rfl, H1, H2, HT⟩ := hrel
      have hT := HT.out
      obtain ⟨c0, c1, f0, f1, r0, r1, g0, g1, sz, bel⟩ := hT
      have HBEL := Lib.hid bel
      clear bel
      by_cases hlt : k < l.length
      · have hD : l.drop k = l[k] :: l.drop (k + 1) := List.drop_eq_getElem_cons hlt
        have HE := Lib.hid (rawS_one hD)
        have HD := Lib.hid hD
        clear hD
        have hb := byte_lt l[k]
        generalize hc : l[k] = c at HE HD hb
        clear hc
        have h00 : (bs [c])[0]'(by rw [bs_size]; exact Nat.one_pos) = c := rfl
        have hsz1 : (bs [c]).size = 1 := bs_size [c]
        go_wp2_with fail
        refine (refRaw_any (l.drop k) 0 1 _ (by simp; omega) (fun h => absurd rfl h)).mono ?_
        rintro r w1 ⟨rfl, hb1⟩
        rw [HE.out]
        have hT1 := HT.out.keep hb1
        obtain ⟨c0', c1', f0', f1', r0', r1', g0', g1', sz', bel'⟩ := hT1
        clear c0 c1 f0 f1 r0 r1 g0 g1
        have HB1 := Lib.hid bel'
        have sz0 : w.heap.size < w1.heap.size := by omega
        have HBW := Lib.hid hb1
        clear bel' hb1
        unfold inV
        simp only
        by_cases hA : 0 < k ∧ c.toNat = 0
        · have HU := Lib.hid (show numT l = (0, 0, 2) by rw [H2.out, HD.out, takeF_bad (.inl hA)])
          have HV := Lib.hid (show numS (l, 0) = (([], 2), 0) by unfold numS; simp only [HU.out]; rfl)
          obtain ⟨hA1, hA2⟩ := hA
          have hcb : ((c.toNat : Int) == 0) = true := by simp; omega
          have HA2 := Lib.hid hA2
          clear hA2
          go_wp2
          refine bodyPost_ret (v := .tuple #[.agg #[.string ⟨#[]⟩, .int .i64 2], .int .u64 0]) (by simp [results, Try.results92, go_sem, r0', r1', sz']) rfl ⟨by rw [HV.out]; rfl, ?_⟩
          have z := HB1.out.size
          exact ((((HB1.out.setCell (Nat.le_refl _) _).setCell (Nat.le_refl _) _).setCell (Nat.le_succ _) _).setCell (Nat.le_succ _) _).alloc (by simp; omega) _
        by_cases hB : k = 9 ∧ 1 < c.toNat
        · have HU := Lib.hid (show numT l = (0, 0, 2) by rw [H2.out, HD.out, takeF_bad (.inr hB)])
          have HV := Lib.hid (show numS (l, 0) = (([], 2), 0) by unfold numS; simp only [HU.out]; rfl)
          obtain ⟨hB1, hB2⟩ := hB
          have hcb : ((c.toNat : Int) == 0) = false := by simp; omega
          have hkk : ((k : Int) == 9) = true := by simp; omega
          have hk1 : 0 < k := by omega
          clear hB1 hA
          go_wp2
          refine bodyPost_ret (v := .tuple #[.agg #[.string ⟨#[]⟩, .int .i64 2], .int .u64 0]) (by simp [results, Try.results92, go_sem, r0', r1', sz']) rfl ⟨by rw [HV.out]; rfl, ?_⟩
          have z := HB1.out.size
          exact ((((HB1.out.setCell (Nat.le_refl _) _).setCell (Nat.le_refl _) _).setCell (Nat.le_succ _) _).setCell (Nat.le_succ _) _).alloc (by simp; omega) _
        have hN : ¬ ((0 < k ∧ c.toNat = 0) ∨ (k = 9 ∧ 1 < c.toNat)) := by omega
        have HN := Lib.hid hN
        have HPOW : ∃ q : Nat, q = 128 ^ k := ⟨_, rfl⟩
        obtain ⟨q, hq⟩ := HPOW
        have HQ := Lib.hid hq
        clear hq
        have HADD := Lib.hid (add_walk acc k c.toNat q hb H1.out hk9 (by omega) HQ.out)
        have HL := Lib.hid (@acc_lt acc k c.toNat H1.out)
        have HT1 := Lib.hid (HT.out.keep HBW.out)
        by_cases hD : c.toNat < 128
        · have hDb : decide ((c.toNat : Int) < 128) = true := by simp; omega
          have HU : numT l = (acc + c.toNat % 128 * 128 ^ k, k + 1, 0) := by rw [H2.out, HD.out, takeF_last hN hD]
          generalize acc + c.toNat % 128 * 128 ^ k = acc' at HADD HL HU
          have HV := Lib.hid (show numS (l, 0) = ((l.drop (k + 1), 0), acc') by unfold numS; simp only [HU]; rfl)
          clear HU
          by_cases hk0 : k = 0
          · have hG : decide (0 < k) = false := by simp; omega
            have hkk : ((k : Int) == 9) = false := by simp; omega
            clear hA hB hN hk0 hD
            go_upto_region 11 with (fail)
            go_quiet ((go_at_call 111; exact Calls.quiet_of_same (pow_any k q _ hk9 HQ.out)))
            rw [HADD.out]
            generalize IntKind.u64.wrap ((c.toNat : Int) % 128 * (q : Int)) = junk
            go_wp2
            exact bodyPost_ret (v := .tuple #[.agg #[.string (bs (l.drop (k + 1))), .int .i64 0], .int .u64 acc']) (by simp [results, Try.results92, go_sem, r0', r1', sz']) rfl ⟨by rw [HV.out]; rfl, (HT1.out.store _ _ _ _).end0 _ _⟩
          by_cases hk9' : k = 9
          · have hk1 : 0 < k := by omega
            have hcb : ((c.toNat : Int) == 0) = false := by simp; omega
            have hkk : ((k : Int) == 9) = true := by simp; omega
            have hc1 : decide (1 < (c.toNat : Int)) = false := by simp; omega
            clear hA hB hN hk0 hk9' hD
            go_upto_region 11 with (fail)
            go_quiet ((go_at_call 111; exact Calls.quiet_of_same (pow_any k q _ hk9 HQ.out)))
            rw [HADD.out]
            generalize IntKind.u64.wrap ((c.toNat : Int) % 128 * (q : Int)) = junk
            go_wp2
            exact bodyPost_ret (v := .tuple #[.agg #[.string (bs (l.drop (k + 1))), .int .i64 0], .int .u64 acc']) (by simp [results, Try.results92, go_sem, r0', r1', sz']) rfl ⟨by rw [HV.out]; rfl, (HT1.out.store _ _ _ _).end0 _ _⟩
          have hk1 : 0 < k := by omega
          have hcb : ((c.toNat : Int) == 0) = false := by simp; omega
          have hkk : ((k : Int) == 9) = false := by simp; omega
          clear hA hB hN hk0 hk9' hD
          go_upto_region 11 with (fail)
          go_quiet ((go_at_call 111; exact Calls.quiet_of_same (pow_any k q _ hk9 HQ.out)))
          rw [HADD.out]
          generalize IntKind.u64.wrap ((c.toNat : Int) % 128 * (q : Int)) = junk
          go_wp2
          exact bodyPost_ret (v := .tuple #[.agg #[.string (bs (l.drop (k + 1))), .int .i64 0], .int .u64 acc']) (by simp [results, Try.results92, go_sem, r0', r1', sz']) rfl ⟨by rw [HV.out]; rfl, (HT1.out.store _ _ _ _).end0 _ _⟩
        · have hDb : decide ((c.toNat : Int) < 128) = false := by simp; omega
          have HV := Lib.hid (show numT l = takeF (k + 1) (acc + c.toNat % 128 * 128 ^ k) (l.drop (k + 1)) by rw [H2.out, HD.out, takeF_more hN hD])
          have HK8 := Lib.hid (show k ≤ 8 by omega)
          generalize acc + c.toNat % 128 * 128 ^ k = acc' at HADD HL HV
          by_cases hk0 : k = 0
          · have hG : decide (0 < k) = false := by simp; omega
            have hkk : ((k : Int) == 9) = false := by simp; omega
            clear hA hB hN hk0 hD
            go_upto_region 11 with (fail)
            go_quiet ((go_at_call 111; exact Calls.quiet_of_same (pow_any k q _ hk9 HQ.out)))
            rw [HADD.out]
            generalize IntKind.u64.wrap ((c.toNat : Int) % 128 * (q : Int)) = junk
            go_wp2
            go_roundw
            case rel => exact ⟨k + 1, acc', by omega, by have := HK8.out; omega, by go_num, rfl, HL, HV, Lib.hid (HT1.out.store _ _ _ _)⟩
            case measure => simp [intOf]; omega
          have hk9' : k ≠ 9 := by omega
          have hk1 : 0 < k := by omega
          have hcb : ((c.toNat : Int) == 0) = false := by simp; omega
          have hkk : ((k : Int) == 9) = false := by simp; omega
          clear hA hB hN hk0 hk9' hD
          go_upto_region 11 with (fail)
          go_quiet ((go_at_call 111; exact Calls.quiet_of_same (pow_any k q _ hk9 HQ.out)))
          rw [HADD.out]
          generalize IntKind.u64.wrap ((c.toNat : Int) % 128 * (q : Int)) = junk
          go_wp2
          go_roundw
          case rel => exact ⟨k + 1, acc', by omega, by have := HK8.out; omega, by go_num, rfl, HL, HV, Lib.hid (HT1.out.store _ _ _ _)⟩
          case measure => simp [intOf]; omega
      · have HE := Lib.hid (show rawS (l.drop k, 0) 1 = (([], 1), []) from rawS_end _ 1 (by simp; omega))
        have HU := Lib.hid (show numS (l, 0) = (([], 1), 0) by
          have : numT l = (0, 0, 1) := by rw [H2.out, List.drop_of_length_le (by omega), takeF_end]
          unfold numS; simp only [this]; rfl)
        go_wp2_with fail
        refine (refRaw_any (l.drop k) 0 1 _ (by simp; omega) (fun h => absurd rfl h)).mono ?_
        rintro r w1 ⟨rfl, hb1⟩
        rw [HE.out]
        have hT1 := HT.out.keep hb1
        obtain ⟨c0', c1', f0', f1', r0', r1', g0', g1', sz', bel'⟩ := hT1
        clear c0 c1 f0 f1 r0 r1 g0 g1
        have HB1 := Lib.hid bel'
        have sz0 : w.heap.size < w1.heap.size := by omega
        clear bel' hb1
        unfold inV
        go_wp2
        refine bodyPost_ret (v := .tuple #[.agg #[.string (bs []), .int .i64 1], .int .u64 0]) (by simp [results, Try.results92, go_sem, r0', r1', sz']) rfl ⟨by rw [HU.out]; rfl, ?_⟩
        have z := HB1.out.size
        exact ((((HB1.out.setCell (Nat.le_refl _) _).setCell (Nat.le_refl _) _).setCell (Nat.le_succ _) _).setCell (Nat.le_succ _) _).alloc (by simp; omega) _
  · have hl0 := h he
    subst hl0
    have HE := Lib.hid (rawS_err (l := []) 1 he (fun _ => rfl))
    have HV := Lib.hid (show numS ([], e) = (([], e), 0) by unfold numS failS; rw [if_pos (by show (numT []).2.2 ≠ 0; decide), if_neg (fun h => he h.1)])
    have heb : ((e : Int) != 0) = true := by simp; omega
    clear he h
    go_enter Try.func92, Try.ntmps92
    go_wp2
    refine wp_loop_rounds 1 ?_
    rw [rounds_succ]
    have HT := Lib.hid (takeW_new w [] e)
    go_wp2_with fail
    refine (refRaw_any [] e 1 _ (by simp) (fun _ => rfl)).mono ?_
    rintro r w1 ⟨rfl, hb1⟩
    rw [HE.out]
    have hT1 := HT.out.keep hb1
    have HT1 := Lib.hid hT1
    obtain ⟨c0', c1', f0', f1', r0', r1', g0', g1', sz', bel'⟩ := hT1
    have HB1 := Lib.hid bel'
    have sz0 : w.heap.size < w1.heap.size := by omega
    clear bel' hb1
    unfold inV
    go_wp2
    refine bodyPost_ret (v := .tuple #[.agg #[.string (bs []), .int .i64 e], .int .u64 0]) (by simp [results, Try.results92, go_sem, r0', r1', sz']) rfl ⟨by rw [HV.out]; rfl, ?_⟩
    have z := HB1.out.size
    exact ((((HB1.out.setCell (Nat.le_refl _) _).setCell (Nat.le_refl _) _).setCell (Nat.le_succ _) _).setCell (Nat.le_succ _) _).alloc (by simp; omega) _
end Go.Proofs.Ytpilkaggiajjmaa
