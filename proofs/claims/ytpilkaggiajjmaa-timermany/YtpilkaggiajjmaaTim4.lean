/-
  Layer 14: what is due: what was in its order already stays in it.
-/
import Derived.Test.YtpilkaggiajjmaaTim3
import Derived.Deep.DeepCutAuto
namespace Go.Proofs.Ytpilkaggiajjmaa
open Go.RowKit
set_option linter.unusedVariables false

def SortedD (l : List Tn) : Prop := ∀ i (h : i + 1 < l.length), (l[i]'(by omega)).due ≤ l[i + 1].due
theorem keep8tm {W w1 : World} {p0 p1 p2 p3 p4 p5 p6 p7 : Addr} {v0 v1 v2 v3 v4 v5 v6 v7 : Value} (hb : Below W.heap.size W w1) (h : ((W.cell? p0 = some v0 ∧ W.cell? p1 = some v1) ∧ (W.cell? p2 = some v2 ∧ W.cell? p3 = some v3)) ∧ ((W.cell? p4 = some v4 ∧ W.cell? p5 = some v5) ∧ (W.cell? p6 = some v6 ∧ W.cell? p7 = some v7))) : ((w1.cell? p0 = some v0 ∧ w1.cell? p1 = some v1) ∧ (w1.cell? p2 = some v2 ∧ w1.cell? p3 = some v3)) ∧ ((w1.cell? p4 = some v4 ∧ w1.cell? p5 = some v5) ∧ (w1.cell? p6 = some v6 ∧ w1.cell? p7 = some v7)) := by
  have f : ∀ {p : Addr} {v : Value}, W.cell? p = some v → w1.cell? p = some v := fun h => (hb.cell (block_lt_of_cell h)).trans h
  exact ⟨⟨⟨f h.1.1.1, f h.1.1.2⟩, f h.1.2.1, f h.1.2.2⟩, ⟨f h.2.1.1, f h.2.1.2⟩, f h.2.2.1, f h.2.2.2⟩
set_option maxRecDepth 100000 in
set_option maxHeartbeats 1000000 in
theorem tins_any (a : Option Addr) (c lo hi : Nat) (l : List Tn) (w : World) (hl : l.length ≤ 1000) (hlh : lo ≤ hi) (hhi : hi ≤ l.length) (hs : SortedD l) (hr : TRow w a l) :
    Calls Try.prog 104 #[.slice a l.length c, .int .i64 (lo : Int), .int .i64 (hi : Int), .func (.func 67) #[] #[]] w fun r w' => r = .returned (.tuple #[]) ∧ Below w.heap.size w w' := by
  have HR := Lib.hid hr
  have HS := Lib.hid hs
  have eg := enters_of Try.func67 (by kernel_rfl) rfl
  clear hr hs
  go_enter Try.func104, Try.ntmps104
  go_wp2
  go_loopw [8] (fun v8 wr => ∃ p : Nat, lo ≤ p ∧ p ≤ hi ∧ v8 = .int .i64 ((p : Int) + 1) ∧ Hid (Below w.heap.size w wr)) (fun v8 _ => hi + 1 - (intOf v8).toNat)
  case atStart => exact ⟨lo, by omega, by omega, rfl, Lib.hid (Below.refl _ _)⟩
  case round =>
    obtain ⟨p, hp1, hp2, rfl, HB⟩ := hrel
    by_cases hlt : p + 1 < hi
    · have hlt2 : p + 1 < l.length := by omega
      obtain ⟨b, off, rfl, hb, c0, c1, c2, c3⟩ := (HR.out.below HB.out).at hlt2
      obtain ⟨b', off', e', -, d0, d1, d2, d3⟩ := (HR.out.below HB.out).at (k := p) (by omega)
      simp only [Option.some.injEq, Addr.mk.injEq] at e'
      obtain ⟨rfl, rfl, -⟩ := e'
      have hdd := HS.out p hlt2
      generalize l[p + 1] = u at c0 c1 c2 c3 hdd
      generalize l[p] = v at d0 d1 d2 d3 hdd
      obtain ⟨u0, u1, u2, u3⟩ := u
      obtain ⟨v0, v1, v2, v3⟩ := v
      simp only at c0 c1 c2 c3 d0 d1 d2 d3 hdd
      have HC := Lib.hid (fun W => due1_any u0 u1 u2 u3 v0 v1 v2 v3 W)
      have HCA : Hid (∀ W, Calls Try.prog 67 (#[.agg #[.int .u32 (u0 : Int), .int .i64 (u1 : Int), .int .i64 (u2 : Int), .int .i64 (u3 : Int)], .agg #[.int .u32 (v0 : Int), .int .i64 (v1 : Int), .int .i64 (v2 : Int), .int .i64 (v3 : Int)]] ++ #[]) W fun r w' => r = .returned (.int .i64 (cmpT u1 v1)) ∧ Below W.heap.size W w') := Lib.hid HC.out
      have hz : decide (cmpT u1 v1 < 0) = false := by
        unfold cmpT
        rw [if_neg (by omega)]
        split <;> simp
      have hz2 : (0 : Int) ≤ cmpT u1 v1 := by simpa using hz
      generalize cmpT u1 v1 = z at HC HCA hz hz2
      have hpos : (p : Int) + 1 < (hi : Int) := by omega
      have hgt : (lo : Int) < (p : Int) + 1 := by omega
      have hw1 : IntKind.i64.wrap ((p : Int) + 1 - 1) = (p : Int) := by rw [IntKind.wrap_i64]; omega
      have hw2 : IntKind.i64.wrap (p : Int) = (p : Int) := by rw [IntKind.wrap_i64]; omega
      have hi0 : (0 : Int) ≤ (p : Int) := by omega
      have hi1 : (p : Int) < (l.length : Int) := by omega
      have hi2 : (0 : Int) ≤ (p : Int) + 1 := by omega
      have hi3 : (p : Int) + 1 < (l.length : Int) := by omega
      have hi4 : ((p : Int) + 1).toNat = p + 1 := by omega
      have hhb : (hi : Int) ≤ 1000 := by omega
      clear hdd hlt2
      go_wp2_with fail
      go_loopw [9] (fun v9 w2 => v9 = .int .i64 ((p : Int) + 1) ∧ w2 = wr) (fun _ _ => 0)
      case atStart => exact ⟨rfl, rfl⟩
      case round =>
        obtain ⟨rfl, rfl⟩ := hrel
        go_upto_region 4 with (fail)
        go_region_held3 (fun w' => ((w'.cell? ⟨b, off + (p + 1) * 4, none⟩ = some (.int .u32 (u0 : Int)) ∧ w'.cell? ⟨b, off + (p + 1) * 4 + 1, none⟩ = some (.int .i64 (u1 : Int))) ∧ (w'.cell? ⟨b, off + (p + 1) * 4 + 2, none⟩ = some (.int .i64 (u2 : Int)) ∧ w'.cell? ⟨b, off + (p + 1) * 4 + 3, none⟩ = some (.int .i64 (u3 : Int)))) ∧ ((w'.cell? ⟨b, off + p * 4, none⟩ = some (.int .u32 (v0 : Int)) ∧ w'.cell? ⟨b, off + p * 4 + 1, none⟩ = some (.int .i64 (v1 : Int))) ∧ (w'.cell? ⟨b, off + p * 4 + 2, none⟩ = some (.int .i64 (v2 : Int)) ∧ w'.cell? ⟨b, off + p * 4 + 3, none⟩ = some (.int .i64 (v3 : Int)))))
          (first | (refine keep8tm hb4 ?_; assumption) | assumption | exact ⟨⟨⟨c0, c1⟩, c2, c3⟩, ⟨d0, d1⟩, d2, d3⟩)
          (first
            | (go_at_call 67; (with_reducible refine (HC.out _).mono ?_); rintro r w4 ⟨rfl, hb4⟩; have HB4 := Lib.hid hb4)
            | (go_at_call 67; (with_reducible refine (HCA.out _).mono ?_); rintro r w4 ⟨rfl, hb4⟩; have HB4 := Lib.hid hb4))
        all_goals
          go_wp2
          go_roundw
          case rel => exact ⟨p + 1, by omega, by omega, by go_num, Lib.hid (HB.out.trans (((Below.refl wr.heap.size wr).drew.trans HB4.out).mono HB.out.size))⟩
          case measure => simp [intOf] <;> omega
    · have hi1 : (hi : Int) ≤ (p : Int) + 1 := by omega
      have hhb : (hi : Int) ≤ 1000 := by omega
      go_wp2
      go_end0
      exact ⟨rfl, HB.out⟩
end Go.Proofs.Ytpilkaggiajjmaa
