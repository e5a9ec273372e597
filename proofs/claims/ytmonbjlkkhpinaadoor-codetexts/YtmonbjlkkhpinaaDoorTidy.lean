/-
  The law's own helper that tidies an image: what it comes to.
-/
import Derived.Test.YtmonbjlkkhpinaaDoorImgMem
import Derived.Test.YtmonbjlkkhpinaaDoorCodeArgs
import Derived.Test.YtmonbjlkkhpinaaDoorCodeMath
import Derived.Deep.RegionHeld3
namespace Go.Proofs.YtmonbjlkkhpinaaDoor
open Go.RowKit
set_option linter.unusedVariables false

def tidyI (x : Nat × Int) : Nat × Int := (1 + x.1 % 22, if hasA (1 + x.1 % 22) then x.2 else 0)
def tidyF (f : Fn) : Fn := ⟨bits .and .i64 f.args 15, bits .and .i64 f.locals 15, (f.code.take 40).map tidyI⟩
def tidyM (m : List Fn) : List Fn := (m.take 6).map tidyF
theorem and15 (a : Int) : ∃ k : Nat, k ≤ 15 ∧ bits .and .i64 a 15 = (k : Int) := by
  refine ⟨(BitVec.ofInt 64 a &&& BitVec.ofInt 64 15).toNat, ?_, ?_⟩
  · rw [BitVec.toNat_and]
    exact Nat.and_le_right
  · have h : (BitVec.ofInt 64 a &&& BitVec.ofInt 64 15).toNat ≤ 15 := by rw [BitVec.toNat_and]; exact Nat.and_le_right
    show IntKind.i64.wrap ((BitVec.ofInt 64 a &&& BitVec.ofInt 64 15).toNat : Int) = _
    rw [IntKind.wrap_i64]
    omega
theorem tidyI_dom (x : Nat × Int) (h : InsOk x) : InsDom (tidyI x) := by
  have h1 : x.1 % 22 < 22 := Nat.mod_lt _ (by decide)
  refine ⟨by simp [tidyI], by simp [tidyI]; omega, ⟨by show 1 + x.1 % 22 < 256; omega, ?_, ?_⟩, fun hA => ?_⟩
  · simp only [tidyI]; split; exact h.2.1; decide
  · simp only [tidyI]; split; exact h.2.2; decide
  · simp only [tidyI] at hA ⊢; rw [hA]; rfl
theorem tidyF_dom (f : Fn) (h : ∀ x ∈ f.code, InsOk x) : FnDom (tidyF f) ∧ (tidyF f).code.length ≤ 40 ∧ (tidyF f).args ≤ 15 ∧ (tidyF f).locals ≤ 15 := by
  obtain ⟨k1, h1, e1⟩ := and15 f.args
  obtain ⟨k2, h2, e2⟩ := and15 f.locals
  have hl : (tidyF f).code.length ≤ 40 := by simp [tidyF]; omega
  refine ⟨⟨?_, ?_, ?_, ?_, by omega, fun x hx => ?_⟩, hl, ?_, ?_⟩
  · simp only [tidyF]; omega
  · simp only [tidyF]; omega
  · simp only [tidyF]; omega
  · simp only [tidyF]; omega
  · simp only [tidyF, List.mem_map] at hx
    obtain ⟨y, hy, rfl⟩ := hx
    exact tidyI_dom y (h y (List.mem_of_mem_take hy))
  · simp only [tidyF]; omega
  · simp only [tidyF]; omega
theorem tidyM_dom (m : List Fn) (h : ∀ f ∈ m, FnIn f) : ImgDom (tidyM m) ∧ (tidyM m).length ≤ 6 ∧ ∀ f ∈ tidyM m, FnDom f ∧ f.code.length ≤ 40 ∧ f.args ≤ 15 ∧ f.locals ≤ 15 := by
  have hl : (tidyM m).length ≤ 6 := by simp [tidyM]; omega
  have ha : ∀ f ∈ tidyM m, FnDom f ∧ f.code.length ≤ 40 ∧ f.args ≤ 15 ∧ f.locals ≤ 15 := by
    intro f hf
    simp only [tidyM, List.mem_map] at hf
    obtain ⟨g, hg, rfl⟩ := hf
    exact tidyF_dom g (h g (List.mem_of_mem_take hg)).2.2.2.2.2
  exact ⟨⟨by omega, fun f hf => (ha f hf).1⟩, hl, ha⟩
theorem imgOk_of_dom {m : List Fn} (h : ImgDom m) : ImgOk m := by
  refine ⟨by have := h.1; omega, fun f hf => ?_⟩
  obtain ⟨h1, h2, h3, h4, h5, h6⟩ := h.2 f hf
  exact ⟨by omega, by omega, by omega, by omega, by omega, fun x hx => (h6 x hx).2.2.1⟩
theorem map_take_snoc {α β : Type} (f : α → β) (l : List α) (k : Nat) (h : k < l.length) : (l.take (k + 1)).map f = (l.take k).map f ++ [f l[k]] := by
  rw [List.take_succ_eq_append_getElem h, List.map_append]; rfl
def TidyPost (w : World) (m : List Fn) (e : Ending) (w' : World) : Prop := ∃ a c P, e = .returned (.agg #[.slice a (tidyM m).length c]) ∧ P.map Pf.fn = tidyM m ∧ Below w.heap.size w w' ∧ ∃ O, ImgAt (w.heap.size + 2) O P a c w'
set_option maxHeartbeats 2000000 in
set_option maxRecDepth 100000 in
theorem tidy_any (a : Option Addr) (len cap : Nat) (m : List Fn) (w : World) (hm : ImgArg w a len m) : Calls Tryd.prog 11 #[.agg #[.slice a len cap]] w (TidyPost w m) := by
  obtain ⟨rfl, hmax, hr, hin⟩ := hm
  unfold maxLen at hmax
  have HR := Lib.hid hr
  have HIN := Lib.hid hin
  clear hr hin
  have hz2 : ((w.alloc (.cells #[.slice a m.length cap] 24)).alloc (.cells #[.slice none 0 0] 24)).heap.size = w.heap.size + 2 := by simp
  have hIm := ImgAt.start ((w.alloc (.cells #[.slice a m.length cap] 24)).alloc (.cells #[.slice none 0 0] 24)) 24
  rw [hz2] at hIm
  have HIM := Lib.hid hIm
  have HB0 : Hid (Below (w.heap.size + 2) ((w.alloc (.cells #[.slice a m.length cap] 24)).alloc (.cells #[.slice none 0 0] 24)) (((w.alloc (.cells #[.slice a m.length cap] 24)).alloc (.cells #[.slice none 0 0] 24)).alloc (.cells #[.slice none 0 0] 24))) := Lib.hid ((Below.refl _ _).alloc (by simp) _)
  have HBW : Hid (Below w.heap.size w ((w.alloc (.cells #[.slice a m.length cap] 24)).alloc (.cells #[.slice none 0 0] 24))) := Lib.hid (((Below.refl _ _).alloc (Nat.le_refl _) _).alloc (by simp) _)
  have c0 : ((w.alloc (.cells #[.slice a m.length cap] 24)).alloc (.cells #[.slice none 0 0] 24)).cell? ⟨w.heap.size, 0, none⟩ = some (.slice a m.length cap) := by simp
  have c1 : ((w.alloc (.cells #[.slice a m.length cap] 24)).alloc (.cells #[.slice none 0 0] 24)).cell? ⟨w.heap.size + 1, 0, none⟩ = some (.slice none 0 0) := by
    have : (w.alloc (.cells #[.slice a m.length cap] 24)).heap.size = w.heap.size + 1 := by simp
    rw [← this]; simp
  have z1 : ((w.alloc (.cells #[.slice a m.length cap] 24)).alloc (.cells #[.slice none 0 0] 24)).frozen? ⟨w.heap.size + 1, 0, none⟩ = false := by
    have : (w.alloc (.cells #[.slice a m.length cap] 24)).heap.size = w.heap.size + 1 := by simp
    rw [← this]; exact frozen_new _ _ _ _
  have HC := Lib.hid (And.intro c0 (And.intro c1 z1))
  have HZ2 := Lib.hid hz2
  clear hIm c0 c1 z1 hz2
  go_enter Tryd.func11, Tryd.ntmps11
  go_wp2
  generalize (w.alloc (.cells #[.slice a m.length cap] 24)).alloc (.cells #[.slice none 0 0] 24) = w2 at HIM HB0 HBW HC HZ2
  go_loopw [4] (fun i wr => ∃ (k : Nat) (a' : Option Addr) (c' : Nat) (P : List Pf), k ≤ m.length ∧ k ≤ 6 ∧ i = .int .i64 k ∧ Hid (P.map Pf.fn = (m.take k).map tidyF) ∧ Hid (ImgAt (w.heap.size + 2) (w.heap.size + 2) P a' c' wr) ∧ Hid (Below (w.heap.size + 2) w2 wr)) (fun i _ => 6 - (intOf i).toNat)
  case atStart => exact ⟨0, none, 0, [], by omega, by omega, rfl, Lib.hid rfl, HIM, HB0⟩
  case round =>
    obtain ⟨k, a', c', P, hk, hk6, rfl, HPM, HI, HB⟩ := hrel
    have hPl : P.length ≤ 6 := by have := congrArg List.length HPM.out; simp at this; omega
    have hz2' := HZ2.out
    have hzB := HB.out.size
    have d0 : wr.cell? ⟨w.heap.size, 0, none⟩ = some (.slice a m.length cap) := (HB.out.cell (p := ⟨w.heap.size, 0, none⟩) (by show w.heap.size < _; omega)).trans HC.out.1
    have hl0 : w.heap.size < wr.heap.size := by omega
    have hBWr : Below w.heap.size w wr := HBW.out.trans (HB.out.mono (by omega))
    by_cases hlt : k < m.length
    · by_cases hlt6 : k < 6
      · obtain ⟨b, off, rfl, hcell⟩ := HR.out.below hBWr (by omega)
        obtain ⟨e0, e1, x, cx, e2, hir⟩ := hcell k hlt
        have HMS := Lib.hid (map_take_snoc tidyF m k hlt)
        have HFI := Lib.hid (HIN.out _ (List.getElem_mem hlt))
        have hbl : b < wr.heap.size := block_lt_of_cell e0
        have HIR := Lib.hid hir
        have HBWr := Lib.hid hBWr
        clear hcell hir hBWr
        generalize m[k] = f at e0 e1 e2 HMS HFI HIR
        obtain ⟨ar, lo, co⟩ := f
        simp only at e0 e1 e2 HIR
        have hcl : co.length ≤ maxLen := HFI.out.2.2.2.2.1
        unfold maxLen at hcl
        go_upto_region 5 with (fail)
        go_region_held3 (fun w' => w'.cell? ⟨w.heap.size, 0, none⟩ = some (.slice (some ⟨b, off, none⟩) m.length cap) ∧ w'.cell? ⟨b, off + k * 3, none⟩ = some (.int .i64 ar) ∧ w'.cell? ⟨b, off + k * 3 + 1, none⟩ = some (.int .i64 lo)) (go_keep) (fail)
        go_wp2
        have HF0 : Hid (FnAt wr.heap.size (bits .and .i64 ar 15) (bits .and .i64 lo 15) [] none 0 (wr.alloc (.cells #[.int .i64 (bits .and .i64 ar 15), .int .i64 (bits .and .i64 lo 15), .slice none 0 0] 29)).drew) := Lib.hid (by
          have := FnAt.start wr (bits .and .i64 ar 15) (bits .and .i64 lo 15) 29
          exact ⟨this.row, this.f0, this.f1, this.f2, this.z2, this.own, this.lt⟩)
        have HB0' : Hid (Below wr.heap.size wr (wr.alloc (.cells #[.int .i64 (bits .and .i64 ar 15), .int .i64 (bits .and .i64 lo 15), .slice none 0 0] 29)).drew) := Lib.hid (((Below.refl _ _).alloc (Nat.le_refl _) _).drew)
        generalize hA : bits .and .i64 ar 15 = A at HF0 HB0'
        generalize hLo : bits .and .i64 lo 15 = LO at HF0 HB0'
        have HA := Lib.hid hA
        have HLo := Lib.hid hLo
        clear hA hLo
        generalize (wr.alloc (.cells #[.int .i64 A, .int .i64 LO, .slice none 0 0] 29)).drew = wf at HF0 HB0'
        obtain ⟨wo, rfl⟩ : ∃ wo : World, wo = wr := ⟨_, rfl⟩
        go_loopw [6] (fun i wq => ∃ (j : Nat) (x' : Option Addr) (y' : Nat) (l : List (Nat × Int)), j ≤ co.length ∧ j ≤ 40 ∧ i = .int .i64 j ∧ Hid (l = (co.take j).map tidyI) ∧ Hid (FnAt wo.heap.size A LO l x' y' wq) ∧ Hid (Below wo.heap.size wo wq)) (fun i _ => 40 - (intOf i).toNat)
        case atStart => exact ⟨0, none, 0, [], by omega, by omega, rfl, Lib.hid rfl, HF0, HB0'⟩
        case round =>
          obtain ⟨j, x', y', l, hj, hj40, rfl, HL, HF, HBq⟩ := hrel
          have hll : l.length ≤ 40 := by rw [HL.out]; simp; omega
          have hzq := HBq.out.size
          have g0 : wr.cell? ⟨w.heap.size, 0, none⟩ = some (.slice (some ⟨b, off, none⟩) m.length cap) := (HBq.out.cell (p := ⟨w.heap.size, 0, none⟩) hl0).trans d0
          have g2 : wr.cell? ⟨b, off + k * 3 + 2, none⟩ = some (.slice x co.length cx) := (HBq.out.cell (p := ⟨b, off + k * 3 + 2, none⟩) hbl).trans e2
          have hl1 : w.heap.size < wr.heap.size := by omega
          have hb1 : b < wr.heap.size := by omega
          by_cases hjl : j < co.length
          · by_cases hj4 : j < 40
            · obtain ⟨b2, off2, rfl, hcell⟩ := HIR.out.below HBq.out (by omega)
              obtain ⟨i0, i1⟩ := hcell j hjl
              have HSj := Lib.hid (map_take_snoc tidyI co j hjl)
              have HXO := Lib.hid (HFI.out.2.2.2.2.2 _ (List.getElem_mem hjl))
              have hb2 : b2 < wr.heap.size := block_lt_of_cell i0
              clear hcell
              generalize co[j] = ins at HSj i0 i1 HXO
              obtain ⟨op, ag⟩ := ins
              simp only at i0 i1
              have hop : op < 256 := HXO.out.1
              have hm22 : op % 22 < 22 := Nat.mod_lt _ (by decide)
              have HT : Hid (tidyI (op, ag) = (1 + op % 22, if hasA (1 + op % 22) then ag else 0)) := Lib.hid rfl
              have HH := Lib.hid (refHasArg_any (1 + op % 22))
              generalize ho : 1 + op % 22 = o at HH HT
              have ho1 : (1 + (op : Int) % 22) = (o : Int) := by omega
              clear ho
              have f2 := HF.out.f2
              have hFl := HF.out.lt
              cases hA : hasA o
              · rw [hA] at HH HT
                clear hA
                have hx := (HF.out.below ((Below.refl _ wr).alloc (Nat.le_refl _) (.cells #[.int .u8 o, .int .i64 0] 47))).push o 0 (by omega)
                rw [show (wr.alloc (.cells #[.int .u8 o, .int .i64 0] 47)).heap.size = wr.heap.size + 1 by simp] at hx
                obtain ⟨a5, c5, w5, hr5, q5, z5, hF5, hf5, hb5⟩ := hx
                have HR5 := Lib.hid hr5
                have HF5 := Lib.hid hf5
                have HB5 : Hid (Below wo.heap.size wo (w5.setCell ⟨wo.heap.size, 2, none⟩ (.slice a5 (l.length + 1) c5))) := Lib.hid ((HBq.out.alloc (by omega) _).trans hb5)
                clear hr5 hf5 hb5
                go_wp2_with (first | (go_at_call 23; refine (HH.out _).mono ?_; rintro e w' ⟨rfl, rfl⟩) | (at_builtin; refine wpList_append_run _ rfl (.tmp 70) (.tmp 72) 27 27 rfl _ _ rfl rfl (.slice a5 (l.length + 1) c5) w5 HR5.out ?_))
                go_roundw
                case rel => exact ⟨j + 1, a5, c5, l ++ [(o, 0)], by omega, by omega, by go_num, Lib.hid (by rw [HL.out, HSj.out, HT.out]; rfl), HF5, HB5⟩
                case measure => simp [intOf]; omega
              · rw [hA] at HH HT
                clear hA
                have hx := (HF.out.below ((Below.refl _ wr).alloc (Nat.le_refl _) (.cells #[.int .u8 o, .int .i64 ag] 47))).push o ag (by omega)
                rw [show (wr.alloc (.cells #[.int .u8 o, .int .i64 ag] 47)).heap.size = wr.heap.size + 1 by simp] at hx
                obtain ⟨a5, c5, w5, hr5, q5, z5, hF5, hf5, hb5⟩ := hx
                have HR5 := Lib.hid hr5
                have HF5 := Lib.hid hf5
                have HB5 : Hid (Below wo.heap.size wo (w5.setCell ⟨wo.heap.size, 2, none⟩ (.slice a5 (l.length + 1) c5))) := Lib.hid ((HBq.out.alloc (by omega) _).trans hb5)
                clear hr5 hf5 hb5
                go_wp2_with (first | (go_at_call 23; refine (HH.out _).mono ?_; rintro e w' ⟨rfl, rfl⟩) | (at_builtin; refine wpList_append_run _ rfl (.tmp 70) (.tmp 72) 27 27 rfl _ _ rfl rfl (.slice a5 (l.length + 1) c5) w5 HR5.out ?_))
                go_roundw
                case rel => exact ⟨j + 1, a5, c5, l ++ [(o, ag)], by omega, by omega, by go_num, Lib.hid (by rw [HL.out, HSj.out, HT.out]; rfl), HF5, HB5⟩
                case measure => simp [intOf]; omega
            · have HTL : Hid (l = (co.take 40).map tidyI) := Lib.hid (by rw [HL.out, show j = 40 by omega])
              have hp := (HI.out.below HBq.out).push ⟨⟨A, LO, l⟩, x', y'⟩ (InsRow.of_own HF.out.row) (fun q hq => by
                have h1 := HF.out.own q hq
                have h2 := (HF.out.row.lt q hq).2
                have h3 := HI.out.lt
                refine ⟨by omega, by omega, h2, fun e => ?_⟩
                have := (HI.out.row.lt q e).2
                omega) (by omega)
              simp only at hp
              obtain ⟨a5, c5, w5, hr5, q5, z5, hF5, hf5, hb5⟩ := hp
              have HR5 := Lib.hid hr5
              have HF5 := Lib.hid hf5
              have HB5 : Hid (Below (w.heap.size + 2) w2 (w5.setCell ⟨w.heap.size + 2, 0, none⟩ (.slice a5 (P.length + 1) c5))) := Lib.hid ((HB.out.trans (HBq.out.mono (by omega))).trans hb5)
              have f0 := HF.out.f0
              have f1 := HF.out.f1
              have f2 := HF.out.f2
              have hFl := HF.out.lt
              have o0 := (HI.out.below HBq.out).m0
              have hOl := (HI.out.below HBq.out).lt
              clear hr5 hf5 hb5
              go_wp2_with (first | (at_builtin; refine wpList_append_run _ rfl (.tmp 76) (.tmp 78) 22 22 rfl _ _ rfl rfl (.slice a5 (P.length + 1) c5) w5 HR5.out ?_))
              go_roundw
              case rel => exact ⟨k + 1, a5, c5, P ++ [⟨⟨A, LO, l⟩, x', y'⟩], by omega, by omega, by go_num, Lib.hid (by rw [List.map_append, HPM.out, HMS.out]; unfold tidyF; rw [HA.out, HLo.out, ← HTL.out]; rfl), HF5, HB5⟩
              case measure => simp [intOf]; omega
          · have HTL : Hid (l = (co.take 40).map tidyI) := Lib.hid (by rw [HL.out, List.take_of_length_le (by omega), List.take_of_length_le (by omega)])
            have hp := (HI.out.below HBq.out).push ⟨⟨A, LO, l⟩, x', y'⟩ (InsRow.of_own HF.out.row) (fun q hq => by
              have h1 := HF.out.own q hq
              have h2 := (HF.out.row.lt q hq).2
              have h3 := HI.out.lt
              refine ⟨by omega, by omega, h2, fun e => ?_⟩
              have := (HI.out.row.lt q e).2
              omega) (by omega)
            simp only at hp
            obtain ⟨a5, c5, w5, hr5, q5, z5, hF5, hf5, hb5⟩ := hp
            have HR5 := Lib.hid hr5
            have HF5 := Lib.hid hf5
            have HB5 : Hid (Below (w.heap.size + 2) w2 (w5.setCell ⟨w.heap.size + 2, 0, none⟩ (.slice a5 (P.length + 1) c5))) := Lib.hid ((HB.out.trans (HBq.out.mono (by omega))).trans hb5)
            have f0 := HF.out.f0
            have f1 := HF.out.f1
            have f2 := HF.out.f2
            have hFl := HF.out.lt
            have o0 := (HI.out.below HBq.out).m0
            have hOl := (HI.out.below HBq.out).lt
            clear hr5 hf5 hb5
            go_wp2_with (first | (at_builtin; refine wpList_append_run _ rfl (.tmp 76) (.tmp 78) 22 22 rfl _ _ rfl rfl (.slice a5 (P.length + 1) c5) w5 HR5.out ?_))
            go_roundw
            case rel => exact ⟨k + 1, a5, c5, P ++ [⟨⟨A, LO, l⟩, x', y'⟩], by omega, by omega, by go_num, Lib.hid (by rw [List.map_append, HPM.out, HMS.out]; unfold tidyF; rw [HA.out, HLo.out, ← HTL.out]; rfl), HF5, HB5⟩
            case measure => simp [intOf]; omega
      · have HPM2 : Hid (P.map Pf.fn = tidyM m) := Lib.hid (by rw [HPM.out, show k = 6 by omega]; rfl)
        have o0 := HI.out.m0
        have hOl := HI.out.lt
        have r0 : wr.cell? ⟨w.heap.size + 1, 0, none⟩ = some (.slice none 0 0) := (HB.out.cell (p := ⟨w.heap.size + 1, 0, none⟩) (by show w.heap.size + 1 < _; omega)).trans HC.out.2.1
        have y0 : wr.frozen? ⟨w.heap.size + 1, 0, none⟩ = false := (HB.out.frozen (p := ⟨w.heap.size + 1, 0, none⟩) (by show w.heap.size + 1 < _; omega)).trans HC.out.2.2
        have hl1 : w.heap.size + 1 < wr.heap.size := by omega
        have HBF : Hid (Below w.heap.size w (wr.setCell ⟨w.heap.size + 1, 0, none⟩ (.slice a' P.length c'))) := Lib.hid (hBWr.setCell (by simp) _)
        have HIF : Hid (ImgAt (w.heap.size + 2) (w.heap.size + 2) P a' c' (wr.setCell ⟨w.heap.size + 1, 0, none⟩ (.slice a' P.length c'))) := Lib.hid (HI.out.far (by simp) _)
        have HPL : Hid (P.length = (tidyM m).length) := Lib.hid (by rw [← HPM2.out, List.length_map])
        clear hBWr hz2'
        go_wp2
        refine bodyPost_ret (v := .agg #[.slice a' P.length c']) (by simp [results, Tryd.results11, go_sem, r0]) rfl ⟨a', c', P, by rw [HPL.out], HPM2.out, HBF.out, _, HIF.out⟩
    · have HPM2 : Hid (P.map Pf.fn = tidyM m) := Lib.hid (by rw [HPM.out]; unfold tidyM; rw [List.take_of_length_le (by omega), List.take_of_length_le (by omega)])
      have o0 := HI.out.m0
      have hOl := HI.out.lt
      have r0 : wr.cell? ⟨w.heap.size + 1, 0, none⟩ = some (.slice none 0 0) := (HB.out.cell (p := ⟨w.heap.size + 1, 0, none⟩) (by show w.heap.size + 1 < _; omega)).trans HC.out.2.1
      have y0 : wr.frozen? ⟨w.heap.size + 1, 0, none⟩ = false := (HB.out.frozen (p := ⟨w.heap.size + 1, 0, none⟩) (by show w.heap.size + 1 < _; omega)).trans HC.out.2.2
      have hl1 : w.heap.size + 1 < wr.heap.size := by omega
      have HBF : Hid (Below w.heap.size w (wr.setCell ⟨w.heap.size + 1, 0, none⟩ (.slice a' P.length c'))) := Lib.hid (hBWr.setCell (by simp) _)
      have HIF : Hid (ImgAt (w.heap.size + 2) (w.heap.size + 2) P a' c' (wr.setCell ⟨w.heap.size + 1, 0, none⟩ (.slice a' P.length c'))) := Lib.hid (HI.out.far (by simp) _)
      have HPL : Hid (P.length = (tidyM m).length) := Lib.hid (by rw [← HPM2.out, List.length_map])
      clear hBWr hz2'
      go_wp2
      refine bodyPost_ret (v := .agg #[.slice a' P.length c']) (by simp [results, Tryd.results11, go_sem, r0]) rfl ⟨a', c', P, by rw [HPL.out], HPM2.out, HBF.out, _, HIF.out⟩
end Go.Proofs.YtmonbjlkkhpinaaDoor
