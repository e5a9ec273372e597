/-
  Layer 12: a part comes to what joins; the document's.
-/
import Derived.Test.YtlhcihjplolgiaaFrag2
import Derived.Deep.RegionHeld3
import Derived.Deep.RegionLaw
namespace Go.Proofs.Ytlhcihjplolgiaa
open Go.RowKit
set_option linter.unusedVariables false

theorem jput_run {w : World} {b : Nat} {v : Value} {s : Js} (h : JAt w b v s) (X : Nat) (hX : ∀ k, v.ownBlock = some k → k ≠ X) (hXb : X ≠ b) (y : Value) (x0 : w.cell? ⟨X, 0, none⟩ = some y) (t : List UInt8) (hl : s.l.length + t.length ≤ 1000000) :
    ∃ a c w1, (Builtin.append_ #[50, 9] 50 #[v, .string (bs t)]).run Try.prog w = .ok (.slice a (s.l.length + t.length) c) w1 ∧
      w1.cell? ⟨b, 1, none⟩ = some v ∧ w1.frozen? ⟨b, 1, none⟩ = false ∧ b < w1.heap.size ∧ JoTo w b v ⟨s.n, s.l ++ t⟩ (w1.setCell ⟨b, 1, none⟩ (.slice a (s.l.length + t.length) c)) ∧ (w1.setCell ⟨b, 1, none⟩ (.slice a (s.l.length + t.length) c)).cell? ⟨X, 0, none⟩ = some y := by
  obtain ⟨a, c, w1, h1, h2, h3, h4, h5⟩ := h.text t hl
  refine ⟨a, c, w1, h1, h2, h3, by have := h.lt; omega, h5, ?_⟩
  obtain ⟨v', -, -, ht⟩ := h5
  refine (ht.cell (p := ⟨X, 0, none⟩) (block_lt_of_cell x0) ?_).trans x0
  rintro (e | e)
  · exact hXb e
  · exact hX X e rfl
theorem JoTo.of_below {w w0 : World} {b : Nat} {v : Value} {s : Js} {w' : World} (hb : Below w.heap.size w w0) (h : JoTo w0 b v s w') : JoTo w b v s w' := by
  obtain ⟨v', h1, h2, h3⟩ := h
  refine ⟨v', h1, fun k hk => (h2 k hk).imp id fun e => by have := hb.size; omega, (touch_of_below hb).trans h3⟩
set_option maxRecDepth 100000 in
set_option maxHeartbeats 2000000 in
theorem joPut_any (b : Nat) (v : Value) (s : Js) (p : Pt) (w : World) (h : JAt w b v s) (hn : s.n ≤ 1000000) (hl : s.l.length ≤ 65536) (hp : p.text.length ≤ 1000000) :
    Calls Try.prog 138 #[.pointer (some ⟨b, 0, none⟩), ptV p] w (JPost w b v (putJ s p)) := by
  obtain ⟨pl, pt⟩ := p
  simp only at hp
  have hz := bs_size pt
  obtain ⟨a, c, rfl⟩ := h.slice
  have hA : Below w.heap.size w (w.alloc (.cells #[.bool pl, .string (bs pt)] 151)) := bel_alloc (Below.refl _ _) _
  have HJ := Lib.hid (h.keep hA)
  have hbw := h.lt
  have HFR := Lib.hid h.fresh
  have x0 : (w.alloc (.cells #[.bool pl, .string (bs pt)] 151)).cell? ⟨w.heap.size, 0, none⟩ = some (.bool pl) := by simp
  have x1 : (w.alloc (.cells #[.bool pl, .string (bs pt)] 151)).cell? ⟨w.heap.size, 1, none⟩ = some (.string (bs pt)) := by simp
  have HA := Lib.hid hA
  unfold ptV
  simp only
  clear hA
  by_cases h1 : 200 < pt.length ∨ 65536 < s.l.length + pt.length
  · have HP := Lib.hid (show putJ s ⟨pl, pt⟩ = (s, [], false, 3) from if_pos h1)
    rw [HP.out]
    have hd : decide (200 < (pt.length : Int)) = true ∨ decide (200 < (pt.length : Int)) = false ∧ decide (65536 < (s.l.length : Int) + (pt.length : Int)) = true := by
      by_cases h2 : 200 < pt.length
      · exact .inl (by simp; omega)
      · exact .inr ⟨by simp; omega, by simp; omega⟩
    clear h1 h
    have hw1 : IntKind.i64.wrap ((s.l.length : Int) + (pt.length : Int)) = (s.l.length : Int) + (pt.length : Int) := by rw [IntKind.wrap_i64]; omega
    go_enter Try.func138, Try.ntmps138
    go_upto_region 1 with (fail)
    generalize w.alloc (.cells #[.bool pl, .string (bs pt)] 151) = W at HJ HA x0 x1 ⊢
    generalize hXw : w.heap.size = X at x0 x1 ⊢
    have c0 := HJ.out.c0
    have c1 := HJ.out.c1
    have hbl := HJ.out.lt
    have hXl := block_lt_of_cell x0
    simp only at hXl
    rcases hd with hd | ⟨hd, hd2⟩
    all_goals
      go_quiet (fail)
      have HE : Hid (JoTo w b (.slice a s.l.length c) s (W.drewN nq)) := Lib.hid (JoTo.of_below HA.out (JoTo.of_below (w0 := W.drewN nq) ⟨rfl, rfl, rfl, Nat.le_refl _, fun _ _ => rfl⟩ (HJ.out.drewN nq).to))
      go_wp2
      go_ret3
      exact ⟨rfl, HE.out⟩
  · have hd : decide (200 < (pt.length : Int)) = false := by simp; omega
    have hd2 : decide (65536 < (s.l.length : Int) + (pt.length : Int)) = false := by simp; omega
    have hw1 : IntKind.i64.wrap ((s.l.length : Int) + (pt.length : Int)) = (s.l.length : Int) + (pt.length : Int) := by rw [IntKind.wrap_i64]; omega
    have HP := Lib.hid (show putJ s ⟨pl, pt⟩ = if pl = true then (⟨0, []⟩, s.l ++ pt, true, 0) else (⟨s.n + 1, s.l ++ pt⟩, [], false, 0) from if_neg h1)
    rw [HP.out]
    have hlt : s.l.length + pt.length ≤ 1000000 := by omega
    clear h1 h HP
    go_enter Try.func138, Try.ntmps138
    go_upto_region 1 with (fail)
    generalize w.alloc (.cells #[.bool pl, .string (bs pt)] 151) = W at HJ HA x0 x1 ⊢
    generalize hXw : w.heap.size = X at x0 x1 ⊢
    have c0 := HJ.out.c0
    have c1 := HJ.out.c1
    have hbl := HJ.out.lt
    have hXl := block_lt_of_cell x0
    simp only at hXl
    have HXW := Lib.hid hXw
    clear hXw
    go_quiet (fail)
    have HA2 : Hid (Below w.heap.size w (W.drewN nq)) := Lib.hid ⟨HA.out.os, HA.out.tape, HA.out.output, HA.out.size, HA.out.block⟩
    have HJ2 := Lib.hid (HJ.out.drewN nq)
    have y0 : (W.drewN nq).cell? ⟨X, 0, none⟩ = some (.bool pl) := x0
    have y1 : (W.drewN nq).cell? ⟨X, 1, none⟩ = some (.string (bs pt)) := x1
    clear HJ HA x0 x1 c0 c1 hbl hXl hd hd2 hw1
    generalize W.drewN nq = W2 at HA2 HJ2 y0 y1 ⊢
    have c0 := HJ2.out.c0
    have f0 := HJ2.out.f0
    have hbl := HJ2.out.lt
    have hXb : X ≠ b := by have := HXW.out; omega
    have HJ3 := Lib.hid (HJ2.out.count (s.n + 1))
    rw [show ((s.n + 1 : Nat) : Int) = (s.n : Int) + 1 from rfl] at HJ3
    have z0 : (W2.setCell ⟨b, 0, none⟩ (.int .i64 ((s.n : Int) + 1))).cell? ⟨X, 0, none⟩ = some (.bool pl) := (World.cell?_setCell_other _ _ _ _ (by intro e; cases e; exact hXb rfl)).trans y0
    have z1 : (W2.setCell ⟨b, 0, none⟩ (.int .i64 ((s.n : Int) + 1))).cell? ⟨X, 1, none⟩ = some (.string (bs pt)) := (World.cell?_setCell_other _ _ _ _ (by simp)).trans y1
    have HT3 : Hid (Touch (fun k => k = b ∨ (Value.slice a s.l.length c).ownBlock = some k) w (W2.setCell ⟨b, 0, none⟩ (.int .i64 ((s.n : Int) + 1)))) := Lib.hid ((touch_of_below HA2.out).setCell (p := ⟨b, 0, none⟩) (fun _ => .inl rfl) _)
    go_upto_region 4 with (fail)
    clear HJ2 HA2 y0 y1 c0 f0 hbl
    generalize W2.setCell ⟨b, 0, none⟩ (.int .i64 ((s.n : Int) + 1)) = W3 at HJ3 HT3 z0 z1 ⊢
    obtain ⟨a', c', w1, hrun, q1, qf, qb, hto, qx⟩ := jput_run HJ3.out.drew X (fun k hk e => by have := HFR.out k hk; have := HXW.out; omega) hXb (.bool pl) z0 pt hlt
    have HRUN := Lib.hid hrun
    have HTO := Lib.hid (JoTo.of_below (w := W3) (w0 := W3.drew) ⟨rfl, rfl, rfl, Nat.le_refl _, fun _ _ => rfl⟩ hto)
    have c1 := HJ3.out.c1
    have f1 := HJ3.out.f1
    have hbl := HJ3.out.lt
    have hXl := block_lt_of_cell z0
    simp only at hXl
    clear hrun hto
    go_region_law (first
      | (refine step_append_run _ rfl (.tmp 35) (.tmp 37) 50 9 rfl _ _ (by rfl) (by rfl) (.slice a' (s.l.length + pt.length) c') w1 HRUN.out ?_))
    all_goals
      have HTO2 := Lib.hid (JoTo.trans HJ3.out (fun k hk => .inl hk) HT3.out HTO.out)
      obtain ⟨v4, h4, h4f, h4t⟩ := HTO2.out
      have HJ4 := Lib.hid h4
      have HF4 := Lib.hid h4f
      have HT4 := Lib.hid h4t
      clear c1 f1 hbl hXl z0 z1 HRUN HTO HJ3 HT3 q1 qf qb h4 h4f h4t HTO2
      generalize w1.setCell ⟨b, 1, none⟩ (.slice a' (s.l.length + pt.length) c') = W4 at HJ4 HT4 qx ⊢
      have hXl := block_lt_of_cell qx
      simp only at hXl
      cases pl
      · go_wp2
        go_ret3
        exact ⟨rfl, v4, HJ4.out, HF4.out, HT4.out⟩
      · have c1 := HJ4.out.c1
        have c0 := HJ4.out.c0
        have f0 := HJ4.out.f0
        have f1 := HJ4.out.f1
        have hbl := HJ4.out.lt
        have hback := HJ4.out.back
        have HRS := Lib.hid (JoTo.trans HJ4.out HF4.out HT4.out HJ4.out.reset)
        go_wp2
        go_ret3
        exact ⟨rfl, HRS.out⟩
def RPut12 (w : World) (t : Js × List UInt8 × Bool × Nat) (r : Ending) (w' : World) : Prop :=
  r = .returned (.tuple #[.string (bs t.1.l), .int .i64 (t.1.n : Int), .string (bs t.2.1), .bool t.2.2.1, .int .i64 (t.2.2.2 : Nat)]) ∧ Below w.heap.size w w'
end Go.Proofs.Ytlhcihjplolgiaa
