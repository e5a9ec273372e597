/-
  The law's own helper that tells an image in the document's form: what it comes to.
-/
import Derived.Test.YtmonbjlkkhpinaaDoorRMem
namespace Go.Proofs.YtmonbjlkkhpinaaDoor
open Go.RowKit
set_option linter.unusedVariables false

def ToldPost (w : World) (m : List Fn) (e : Ending) (w' : World) : Prop := ∃ a c, e = .returned (.slice a m.length c) ∧ RFnRow w' a m ∧ Below w.heap.size w w'
set_option maxHeartbeats 2000000 in
set_option maxRecDepth 100000 in
theorem told_any (a : Option Addr) (cap : Nat) (m : List Fn) (w : World) (hm : ImgOk m) (hr : FnRow w a m) : Calls Tryd.prog 16 #[.agg #[.slice a m.length cap]] w (ToldPost w m) := by
  have hl := hm.1
  have HM := Lib.hid hm.2
  have HR := Lib.hid hr
  clear hm hr
  have hz1 : (w.alloc (.cells #[.slice a m.length cap] 24)).heap.size = w.heap.size + 1 := by simp
  have hs := ROwn.start (w.alloc (.cells #[.slice a m.length cap] 24))
  rw [hz1] at hs
  have HS := Lib.hid hs
  clear hs hz1
  go_enter Tryd.func16, Tryd.ntmps16
  go_wp2
  go_loopw [3, 13] (fun o i wr => ∃ (k : Nat) (a' : Option Addr) (c' : Nat) (P : List Pf), k ≤ m.length ∧ i = .int .i64 k ∧ o = .slice a' P.length c' ∧ Hid (P.map Pf.fn = m.take k) ∧ Hid (ROwn (w.heap.size + 1) P a' c' wr) ∧ Hid (Below w.heap.size w wr) ∧ w.heap.size + 1 < wr.heap.size) (fun _ i _ => m.length - (intOf i).toNat)
  case atStart => exact ⟨0, _, _, [], by omega, rfl, rfl, Lib.hid rfl, HS, Lib.hid (((Below.refl _ w).alloc (Nat.le_refl _) _).alloc (by simp) _), by simp⟩
  case round =>
    obtain ⟨k, a', c', P, hk, rfl, rfl, HP, HO, HB, hz⟩ := hrel
    have hPl : P.length ≤ 1000 := by have := congrArg List.length HP.out; simp at this; omega
    by_cases hlt : k < m.length
    · obtain ⟨b, off, rfl, hcell⟩ := HR.out.below HB.out (by omega)
      obtain ⟨e0, e1, x, cx, e2, hir⟩ := hcell k hlt
      have HIR := Lib.hid hir
      have HT := Lib.hid (List.take_succ_eq_append_getElem hlt)
      have HFI := Lib.hid (HM.out _ (List.getElem_mem hlt))
      have hbl : b < wr.heap.size := block_lt_of_cell e0
      clear hcell hir
      generalize m[k] = f at e0 e1 e2 HT HFI HIR
      obtain ⟨ar, lo, co⟩ := f
      simp only at e0 e1 e2 HIR
      have hcl : co.length ≤ 1000 := HFI.out.2.2.2.2.1
      obtain ⟨wo, rfl⟩ : ∃ wo : World, wo = wr := ⟨_, rfl⟩
      have hz2 : (wo.alloc (.cells #[.int .i64 ar, .int .i64 lo, .slice x co.length cx] 29)).heap.size = wo.heap.size + 1 := by simp
      have hF0 := RFnAt.start (wo.alloc (.cells #[.int .i64 ar, .int .i64 lo, .slice x co.length cx] 29)) ar lo 63
      rw [hz2] at hF0
      have HF0 := Lib.hid hF0
      clear hF0 hz2
      go_wp2
      have HB0 : Hid (Below (wo.heap.size + 1) (wo.alloc (.cells #[.int .i64 ar, .int .i64 lo, .slice x co.length cx] 29)) ((wo.alloc (.cells #[.int .i64 ar, .int .i64 lo, .slice x co.length cx] 29)).alloc (.cells #[.int .i64 ar, .int .i64 lo, .slice none 0 0] 63))) := Lib.hid ((Below.refl _ _).alloc (by simp) _)
      have HB1 : Hid (Below wo.heap.size wo (wo.alloc (.cells #[.int .i64 ar, .int .i64 lo, .slice x co.length cx] 29))) := Lib.hid ((Below.refl _ _).alloc (Nat.le_refl _) _)
      have HZ1 : Hid ((wo.alloc (.cells #[.int .i64 ar, .int .i64 lo, .slice x co.length cx] 29)).heap.size = wo.heap.size + 1) := Lib.hid (by simp)
      generalize (wo.alloc (.cells #[.int .i64 ar, .int .i64 lo, .slice x co.length cx] 29)).alloc (.cells #[.int .i64 ar, .int .i64 lo, .slice none 0 0] 63) = wg at HF0 HB0
      generalize wo.alloc (.cells #[.int .i64 ar, .int .i64 lo, .slice x co.length cx] 29) = wf at HB0 HB1 HZ1
      go_loopw [25] (fun i wq => ∃ (j : Nat) (x' : Option Addr) (y' : Nat) (l : List (Nat × Int)), j ≤ co.length ∧ i = .int .i64 j ∧ Hid (l = co.take j) ∧ Hid (RFnAt (wo.heap.size + 1) ar lo l x' y' wq) ∧ Hid (Below (wo.heap.size + 1) wf wq)) (fun i _ => co.length - (intOf i).toNat)
      case atStart => exact ⟨0, none, 0, [], by omega, rfl, Lib.hid rfl, HF0, HB0⟩
      case round =>
        obtain ⟨j, x', y', l, hj, rfl, HL, HF, HBq⟩ := hrel
        have hll : l.length ≤ 1000 := by rw [HL.out]; simp; omega
        have hzf := HZ1.out
        have hzq := HBq.out.size
        have HBw : Hid (Below wo.heap.size wo wr) := Lib.hid (HB1.out.trans (HBq.out.mono (by omega)))
        have f2 := HF.out.f2
        have hFl := HF.out.lt
        by_cases hjl : j < co.length
        · obtain ⟨b2, off2, rfl, hcell⟩ := HIR.out.below HBw.out (by omega)
          obtain ⟨i0, i1⟩ := hcell j hjl
          have HSj := Lib.hid (List.take_succ_eq_append_getElem hjl)
          have hb2 : b2 < wr.heap.size := block_lt_of_cell i0
          have HXO := Lib.hid (HFI.out.2.2.2.2.2 _ (List.getElem_mem hjl))
          clear hcell
          generalize co[j] = ins at HSj i0 i1 HXO
          obtain ⟨op, ag⟩ := ins
          simp only at i0 i1
          have hop : op < 256 := HXO.out.1
          have hx := (HF.out.below ((Below.refl _ wr).alloc (Nat.le_refl _) (.cells #[.int .u8 op, .int .i64 ag] 47))).push op ag (by omega)
          rw [show (wr.alloc (.cells #[.int .u8 op, .int .i64 ag] 47)).heap.size = wr.heap.size + 1 by simp] at hx
          obtain ⟨a5, c5, w5, hr5, q5, z5, hF5, hf5, hb5⟩ := hx
          have HR5 := Lib.hid hr5
          have HF5 := Lib.hid hf5
          have HB5 : Hid (Below (wo.heap.size + 1) wf (w5.setCell ⟨wo.heap.size + 1, 2, none⟩ (.slice a5 (l.length + 1) c5))) := Lib.hid ((HBq.out.alloc (by omega) _).trans hb5)
          clear hr5 hf5 hb5 hzf
          go_wp2_with (at_builtin; refine wpList_append_run _ rfl (.tmp 30) (.tmp 37) 61 61 rfl _ _ rfl rfl (.slice a5 (l.length + 1) c5) w5 HR5.out ?_)
          go_roundw
          case rel => exact ⟨j + 1, a5, c5, l ++ [(op, ag)], by omega, by go_num, Lib.hid (by rw [HL.out, HSj.out]), HF5, HB5⟩
          case measure => simp [intOf]; omega
        · have HTL : Hid (l = co) := Lib.hid (by rw [HL.out, List.take_of_length_le (by omega)])
          have hp := (HO.out.below HBw.out).push (by omega) ⟨⟨ar, lo, l⟩, x', y'⟩ (RInsRow.of_own HF.out.row) (fun q hq => by
            have h1 := HF.out.own q hq
            have h2 := (HF.out.row.lt q hq).2
            refine ⟨by omega, h2, fun e => ?_⟩
            have := (HO.out.row.lt q e).2
            omega) hPl
          simp only at hp
          obtain ⟨a5, c5, w5, hr5, hf5, hb5⟩ := hp
          have HR5 := Lib.hid hr5
          have HF5 := Lib.hid hf5
          have HB5 : Hid (Below w.heap.size w w5) := Lib.hid ((HB.out.trans (HBw.out.mono (by omega))).trans (hb5.mono (by omega)))
          have hz5 : w.heap.size + 1 < w5.heap.size := by have := hb5.size; omega
          have f0 := HF.out.f0
          have f1 := HF.out.f1
          clear hr5 hf5 hb5 hzf
          go_wp2_with (at_builtin; refine wpList_append_run _ rfl (.tmp 41) (.tmp 43) 35 35 rfl _ _ rfl rfl (.slice a5 (P.length + 1) c5) w5 HR5.out ?_)
          go_roundw
          case rel => exact ⟨k + 1, a5, c5, P ++ [⟨⟨ar, lo, l⟩, x', y'⟩], by omega, by go_num, by simp, Lib.hid (by rw [List.map_append, HP.out, HT.out, ← HTL.out]; rfl), HF5, HB5, hz5⟩
          case measure => simp [intOf]; omega
    · have HPM : Hid (P.map Pf.fn = m) := Lib.hid (by rw [HP.out, List.take_of_length_le (by omega)])
      have HPL : Hid (P.length = m.length) := Lib.hid (by rw [← HPM.out, List.length_map])
      go_wp2
      go_ret
      refine ⟨a', c', ?_, ?_, HB.out⟩
      · rw [← HPL.out]; rfl
      · have := HO.out.fns
        rwa [HPM.out] at this
end Go.Proofs.YtmonbjlkkhpinaaDoor
