/-
  The law's own helper that compares an image with the document's: what it comes to, of the same ones.
-/
import Derived.Test.YtmonbjlkkhpinaaDoorRMem
import Derived.Deep.QuietTactic
import Derived.BigQuiet
namespace Go.Proofs.YtmonbjlkkhpinaaDoor
open Go.RowKit
set_option linter.unusedVariables false

theorem below_drewN {B : Nat} {a w : World} (h : Below B a w) (n : Nat) : Below B a (w.drewN n) := ⟨h.os, h.tape, h.output, h.size, h.block⟩
set_option maxHeartbeats 2000000 in
set_option maxRecDepth 100000 in
theorem same_any (a : Option Addr) (cap : Nat) (a' : Option Addr) (cap' : Nat) (m : List Fn) (w : World) (hm : ImgOk m) (hr : FnRow w a m) (hr' : RFnRow w a' m) :
    Calls Tryd.prog 17 #[.agg #[.slice a m.length cap], .slice a' m.length cap'] w fun e w' => e = .returned (.int .i64 0) ∧ Below w.heap.size w w' := by
  have hl := hm.1
  have HM := Lib.hid hm.2
  have HR := Lib.hid hr
  have HR' := Lib.hid hr'
  clear hm hr hr'
  have hnn : ((m.length : Int) != (m.length : Int)) = false := by simp
  go_enter Tryd.func17, Tryd.ntmps17
  go_wp2
  have HB0 : Hid (Below (w.heap.size + 1) (w.alloc (.cells #[.slice a m.length cap] 24)) (w.alloc (.cells #[.slice a m.length cap] 24))) := Lib.hid (Below.refl _ _)
  have HBw : Hid (Below w.heap.size w (w.alloc (.cells #[.slice a m.length cap] 24))) := Lib.hid ((Below.refl _ _).alloc (Nat.le_refl _) _)
  have HZ : Hid ((w.alloc (.cells #[.slice a m.length cap] 24)).heap.size = w.heap.size + 1) := Lib.hid (by simp)
  have HC : Hid ((w.alloc (.cells #[.slice a m.length cap] 24)).cell? ⟨w.heap.size, 0, none⟩ = some (.slice a m.length cap)) := Lib.hid (by simp)
  generalize w.alloc (.cells #[.slice a m.length cap] 24) = w1 at HB0 HBw HZ HC
  go_loopw [18] (fun i wr => ∃ k : Nat, k ≤ m.length ∧ i = .int .i64 k ∧ Hid (Below (w.heap.size + 1) w1 wr)) (fun i _ => m.length - (intOf i).toNat)
  case atStart => exact ⟨0, by omega, rfl, HB0⟩
  case round =>
    obtain ⟨k, hk, rfl, HB⟩ := hrel
    have hzw := HZ.out
    have hz := HB.out.size
    have HBr : Hid (Below w.heap.size w wr) := Lib.hid (HBw.out.trans (HB.out.mono (by omega)))
    by_cases hlt : k < m.length
    · have t0 : wr.cell? ⟨w.heap.size, 0, none⟩ = some (.slice a m.length cap) := (HB.out.cell (p := ⟨w.heap.size, 0, none⟩) (by simp)).trans HC.out
      have ht0 : w.heap.size < wr.heap.size := by omega
      obtain ⟨b, off, rfl, hcell⟩ := HR.out.below HBr.out (by omega)
      obtain ⟨b', off', rfl, hcell'⟩ := HR'.out.below HBr.out (by omega)
      obtain ⟨c0, c1, x, c, c2, hir⟩ := hcell k hlt
      obtain ⟨d0, d1, y, d, d2, hir'⟩ := hcell' k hlt
      have HIR := Lib.hid hir
      have HIR' := Lib.hid hir'
      have HOK := Lib.hid (HM.out _ (List.getElem_mem hlt))
      have hcl := HOK.out.2.2.2.2.1
      have hb : b < wr.heap.size := block_lt_of_cell c0
      have hb' : b' < wr.heap.size := block_lt_of_cell d0
      clear hcell hir hcell' hir' hzw
      generalize m[k] = f at c0 c1 c2 d0 d1 d2 hcl HIR HIR' HOK
      obtain ⟨ar, lo, co⟩ := f
      simp only at c0 c1 c2 d0 d1 d2 hcl HIR HIR'
      have n1 : (ar != ar) = false := by simp
      have n2 : (lo != lo) = false := by simp
      have n3 : ((co.length : Int) != (co.length : Int)) = false := by simp
      obtain ⟨wo, rfl⟩ : ∃ wo : World, wo = wr := ⟨_, rfl⟩
      go_wp2
      have HB2 : Hid (Below wo.heap.size wo ((wo.alloc (.cells #[.int .i64 ar, .int .i64 lo, .slice y co.length d] 63)).alloc (.cells #[.int .i64 ar, .int .i64 lo, .slice x co.length c] 29))) := Lib.hid (((Below.refl _ _).alloc (Nat.le_refl _) _).alloc (by simp) _)
      have HT7 : Hid (((wo.alloc (.cells #[.int .i64 ar, .int .i64 lo, .slice y co.length d] 63)).alloc (.cells #[.int .i64 ar, .int .i64 lo, .slice x co.length c] 29)).cell? ⟨wo.heap.size + 1, 2, none⟩ = some (.slice x co.length c)) := Lib.hid (by
        have : (wo.alloc (.cells #[.int .i64 ar, .int .i64 lo, .slice y co.length d] 63)).heap.size = wo.heap.size + 1 := by simp
        rw [← this]; simp)
      have HZ7 : Hid (wo.heap.size + 1 < ((wo.alloc (.cells #[.int .i64 ar, .int .i64 lo, .slice y co.length d] 63)).alloc (.cells #[.int .i64 ar, .int .i64 lo, .slice x co.length c] 29)).heap.size) := Lib.hid (by simp)
      generalize (wo.alloc (.cells #[.int .i64 ar, .int .i64 lo, .slice y co.length d] 63)).alloc (.cells #[.int .i64 ar, .int .i64 lo, .slice x co.length c] 29) = w2 at HB2 HT7 HZ7
      go_loopw [52] (fun i wq => ∃ j : Nat, j ≤ co.length ∧ i = .int .i64 j ∧ Hid (Below w2.heap.size w2 wq)) (fun i _ => co.length - (intOf i).toNat)
      case atStart => exact ⟨0, by omega, rfl, Lib.hid (Below.refl _ _)⟩
      case round =>
        obtain ⟨j, hj, rfl, HBj⟩ := hrel
        have hzj := HBj.out.size
        have hz7 := HZ7.out
        have HBo : Hid (Below wo.heap.size wo wr) := Lib.hid (HB2.out.trans (HBj.out.mono (by omega)))
        by_cases hjl : j < co.length
        · obtain ⟨b2, off2, rfl, hcell⟩ := HIR.out.below HBo.out (by omega)
          obtain ⟨b3, off3, rfl, hcell'⟩ := HIR'.out.below HBo.out (by omega)
          obtain ⟨e0, e1⟩ := hcell j hjl
          obtain ⟨g0, g1⟩ := hcell' j hjl
          have hb2 : b2 < wr.heap.size := block_lt_of_cell e0
          have hb3 : b3 < wr.heap.size := block_lt_of_cell g0
          have HXO := Lib.hid (HOK.out.2.2.2.2.2 _ (List.getElem_mem hjl))
          have t7 : wr.cell? ⟨wo.heap.size + 1, 2, none⟩ = some (.slice (some ⟨b2, off2, none⟩) co.length c) := (HBj.out.cell (p := ⟨wo.heap.size + 1, 2, none⟩) hz7).trans HT7.out
          have ht7 : wo.heap.size + 1 < wr.heap.size := by omega
          clear hcell hcell' hz7
          generalize co[j] = ins at e0 e1 g0 g1 HXO
          obtain ⟨op, ag⟩ := ins
          simp only at e0 e1 g0 g1
          have hop : op < 256 := HXO.out.1
          have m1 : ((op : Int) != (op : Int)) = false := by simp
          have m2 : (ag != ag) = false := by simp
          go_upto_region 12 with (fail)
          go_quiet ((fail))
          go_wp2
          go_roundw
          case rel => exact ⟨j + 1, by omega, by go_num, Lib.hid (below_drewN (HBj.out.alloc hzj _) _)⟩
          case measure => simp [intOf]; omega
        · go_wp2
          go_roundw
          case rel => exact ⟨k + 1, by omega, by go_num, Lib.hid (HB.out.trans (HBo.out.mono (by omega)))⟩
          case measure => simp [intOf]; omega
    · go_wp2
      go_ret
      exact ⟨rfl, HBr.out⟩
end Go.Proofs.YtmonbjlkkhpinaaDoor
