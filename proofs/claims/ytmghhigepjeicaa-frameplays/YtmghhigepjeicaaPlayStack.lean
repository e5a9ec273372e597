/-
  A call of a stack on both: the program's and the document's.
-/
import Derived.Test.YtmghhigepjeicaaPlays
namespace Go.Proofs.Ytmghhigepjeicaa
open Go.RowKit
set_option linter.unusedVariables false

theorem push_fit (b : Nat) (l m : List Int) (a : Option Addr) (cap n : Nat) (hn : n = m.length) (w : World) (h : StackAt w b l) (hm : l.length + m.length ≤ 64) (hr : IntRow .i64 w a m) (hb : ∀ x ∈ m, bound64 x) :
    Calls Try.prog 42 #[.pointer (some ⟨b, 0, none⟩), .slice a n cap] w fun r w' => r = .returned (.bool true) ∧ StackTo w b (l ++ m) w' := by
  subst hn
  by_cases h0 : 0 < m.length
  · exact push_some b l m a cap w h hm h0 hr hb
  · obtain rfl : m = [] := List.eq_nil_of_length_eq_zero (by omega)
    have := push_nothing b l a cap w h
    simpa using this
/-- A call's frame beside the document's list of its values, both of the law's own making. -/
def PlayAt (W0 w : World) (b s c : Nat) (fn : Int) (l v : List Int) (a : Option Addr) (ca : Nat) : Prop :=
  FrameAt w b s c fn l v ∧ LRow W0.heap.size w a ca l ∧ (∀ x, a = some x → x.block ≠ b ∧ x.block ≠ s ∧ x.block ≠ c) ∧ Below W0.heap.size W0 w ∧ W0.heap.size ≤ b ∧ W0.heap.size ≤ s ∧ W0.heap.size ≤ c
theorem PlayAt.keep {W0 w w' : World} {b s c : Nat} {fn : Int} {l v : List Int} {a : Option Addr} {ca : Nat} (h : PlayAt W0 w b s c fn l v a ca) (hb : Below w.heap.size w w') : PlayAt W0 w' b s c fn l v a ca :=
  ⟨h.1.below hb, h.2.1.below hb, h.2.2.1, h.2.2.2.1.trans (hb.mono h.2.2.2.1.size), h.2.2.2.2⟩
/-- The stack was called; the document has its list anew. -/
theorem PlayAt.stack {W0 w w1 : World} {b s c : Nat} {fn : Int} {l l' v : List Int} {a : Option Addr} {ca : Nat} (h : PlayAt W0 w b s c fn l v a ca) (ht : StackTo w s l' w1) : FrameAt w1 b s c fn l' v ∧ Below W0.heap.size W0 w1 ∧ LRow W0.heap.size w1 a ca l :=
  ⟨h.1.stack ht, h.2.2.2.1.trans (ht.2.below h.2.2.2.1.size (by rintro j hj rfl; have := h.2.2.2.2.2.1; omega)), h.2.1.touch ht.2 (fun x hx => (h.2.2.1 x hx).2.1)⟩
def PlayTo (W0 w : World) (b s c : Nat) (fn : Int) (v : List Int) (a : Option Addr) (e : Ending) (w' : World) : Prop :=
  ∃ l' a' c', e = .returned (.tuple #[.slice a' l'.length c', .bool true]) ∧ PlayAt W0 w' b s c fn l' v a' c' ∧ Touch (fun k => k = s) w w' ∧ ∀ x, a' = some x → (∃ y, a = some y ∧ y.block = x.block) ∨ w.heap.size ≤ x.block
/-- The box of a call that was handed in. -/
theorem play_box {W0 w : World} {b s c : Nat} {fn : Int} {l v : List Int} {a : Option Addr} {ca : Nat} (h : PlayAt W0 w b s c fn l v a ca) (o : Obj) : PlayAt W0 (w.alloc o) b s c fn l v a ca := h.keep ((Below.refl _ _).alloc (Nat.le_refl _) _)
theorem nil_or_snoc (l : List Int) : l = [] ∨ ∃ l1 y, l = l1 ++ [y] := by
  rcases List.eq_nil_or_concat l with h | ⟨l1, y, h⟩
  · exact .inl h
  · exact .inr ⟨l1, y, by rw [h, List.concat_eq_append]⟩
theorem play_none {W0 w : World} {b s c : Nat} {fn : Int} {l v : List Int} {a : Option Addr} {ca n : Nat} {w1 : World} (h : PlayAt W0 w1 b s c fn l v a ca) (ht : Touch (fun k => k = s) w w1) (hn : n = l.length) : PlayTo W0 w b s c fn v a (.returned (.tuple #[.slice a n ca, .bool true])) w1 :=
  ⟨l, a, ca, by rw [hn], h, ht, fun x hx => .inl ⟨x, hx, rfl⟩⟩
set_option maxRecDepth 100000 in
set_option maxHeartbeats 4000000 in
theorem stack_pop (W0 w : World) (b s c : Nat) (fn : Int) (l v : List Int) (a : Option Addr) (ca : Nat) (n x : Int) (la : Option Addr) (ln cl : Nat) (h : PlayAt W0 w b s c fn l v a ca) :
    Calls Try.prog 26 #[.pointer (some ⟨b, 0, none⟩), .slice a l.length ca, .agg #[.int .i64 2, .int .i64 n, .int .i64 x, .slice la ln cl]] w (PlayTo W0 w b s c fn v a) := by
  have HP := Lib.hid (play_box h (.cells #[.int .i64 2, .int .i64 n, .int .i64 x, .slice la ln cl] 47))
  have hp0 := h.1.2.1
  have hbl := h.1.lt.1
  have HT := Lib.hid (show Touch (fun k => k = s) w (w.alloc (.cells #[.int .i64 2, .int .i64 n, .int .i64 x, .slice la ln cl] 47)) from (Touch.refl _ _).alloc _)
  have hl64 := h.1.1.len
  clear h
  rcases nil_or_snoc l with rfl | ⟨l1, y, rfl⟩
  · go_enter Try.func26, Try.ntmps26
    go_wp2_with fail
    generalize w.alloc (.cells #[.int .i64 2, .int .i64 n, .int .i64 x, .slice la ln cl] 47) = W at HP HT ⊢
    refine (pop_none s W HP.out.1.1).mono ?_
    rintro r w2 ⟨rfl, rfl⟩
    go_wp2
    go_ret2
    exact play_none HP.out HT.out rfl
  · have hlen : (l1 ++ [y]).length = l1.length + 1 := by simp
    rw [hlen]
    have HLEN := Lib.hid hlen
    have hll : l1.length + 1 ≤ 64 := by omega
    clear hlen hl64
    go_enter Try.func26, Try.ntmps26
    go_wp2_with fail
    generalize w.alloc (.cells #[.int .i64 2, .int .i64 n, .int .i64 x, .slice la ln cl] 47) = W at HP HT ⊢
    refine (pop_some s l1 y W HP.out.1.1).mono ?_
    rintro r w2 ⟨rfl, hto⟩
    obtain ⟨hF, hB, hL⟩ := HP.out.stack hto
    obtain ⟨rb, off, rfl, hcell⟩ := hL.2.2.1 (by have := HLEN.out; omega)
    have hcy : w2.cell? ⟨rb, off + l1.length, none⟩ = some (.int .i64 y) := by
      have := hcell l1.length (by have := HLEN.out; omega)
      simpa using this
    have HEND := Lib.hid (show ∀ q, PlayTo W0 w b s c fn v (some ⟨rb, off, none⟩) (.returned (.tuple #[.slice (some ⟨rb, off, none⟩) l1.length ca, .bool true])) (w2.drewN q) from fun q => by
      have hk : Below w2.heap.size w2 (w2.drewN q) := ⟨rfl, rfl, rfl, Nat.le_refl _, fun _ _ => rfl⟩
      have hL1 : LRow W0.heap.size w2 (some ⟨rb, off, none⟩) ca l1 := by have := hL.take l1.length; rwa [List.take_left'] at this; rfl
      refine play_none (PlayAt.keep (⟨hF, hL1, HP.out.2.2.1, hB, HP.out.2.2.2.2⟩ : PlayAt W0 w2 b s c fn l1 v (some ⟨rb, off, none⟩) ca) hk) ?_ rfl
      have := HT.out.trans hto.2
      exact ⟨this.os, this.tape, this.output, this.size, this.block⟩)
    have hca : l1.length + 1 ≤ ca := by have := hL.1; have := HLEN.out; omega
    have hcm : ca ≤ 9223372036854775807 := hL.2.1
    clear hto hF hB hL hcell HP HT
    have hsub : IntKind.i64.wrap (((l1.length + 1 : Nat) : Int) - 1) = (l1.length : Int) := by rw [IntKind.wrap_i64]; omega
    have hsub' : IntKind.i64.wrap ((l1.length : Int) + 1 - 1) = (l1.length : Int) := by rw [IntKind.wrap_i64]; omega
    have hyy : (y == y) = true := by simp
    have hi1 : (0 : Int) ≤ (l1.length : Int) := by omega
    have hi2 : (l1.length : Int) ≤ (ca : Int) := by omega
    have hi3 : (l1.length : Int) < ((l1.length + 1 : Nat) : Int) := by omega
    have hi4 : (l1.length : Int) < (l1.length : Int) + 1 := by omega
    generalize l1.length = k at *
    go_upto_region 12 with (fail)
    go_quiet (fail)
    go_wp2
    go_ret2
    exact HEND.out _
/-- The document pushed too: both have the list anew. -/
theorem play_pushed {W0 w w1 w2 w3 : World} {b s c : Nat} {fn : Int} {l m v : List Int} {a a' : Option Addr} {ca c' : Nat} (h : PlayAt W0 w1 b s c fn l v a ca) (h1 : Touch (fun k => k = s) w w1) (ht : StackTo w1 s (l ++ m) w2) (hn : NewInts w2 a' (l.length + m.length) c' (l ++ m) w3) :
    PlayTo W0 w b s c fn v a (.returned (.tuple #[.slice a' (l.length + m.length) c', .bool true])) w3 := by
  obtain ⟨hF, hB, -⟩ := h.stack ht
  have hlt := hF.lt
  have hL := newInts_lt hn
  have hz := hB.size
  refine ⟨l ++ m, a', c', by rw [List.length_append], ⟨hF.below hn.2.2.2, ⟨hL.1, hL.2.1, hL.2.2.1, fun x hx => ⟨Nat.le_trans hz (hL.2.2.2.1 x hx).1, (hL.2.2.2.1 x hx).2⟩, hL.2.2.2.2⟩, fun x hx => ?_, hB.trans (hn.2.2.2.mono hz), h.2.2.2.2⟩, (h1.trans ht.2).trans (touch_of_below hn.2.2.2), fun x hx => .inr (Nat.le_trans (h1.trans ht.2).size (hL.2.2.2.1 x hx).1)⟩
  have := (hL.2.2.2.1 x hx).1
  omega
theorem refPush_someN (a : Option Addr) (c : Nat) (l : List Int) (b : Option Addr) (d : Nat) (m : List Int) (n : Nat) (hn : n = m.length) (w : World) (hf : l.length + m.length ≤ 64) (hl : IntRow .i64 w a l) (hln : a = none → l = []) (hm : IntRow .i64 w b m) (hmn : b = none → m = []) :
    Calls Try.prog 50 #[.slice a l.length c, .slice b n d] w (PushPost w l m) := by
  subst hn; exact refPush_some a c l b d m w hf hl hln hm hmn
theorem refPush_fullN (a : Option Addr) (c : Nat) (l : List Int) (b : Option Addr) (d : Nat) (m : List Int) (n : Nat) (hn : n = m.length) (w : World) (hl : l.length ≤ 64) (hm : m.length ≤ 40) (hf : 64 < l.length + m.length) :
    Calls Try.prog 50 #[.slice a l.length c, .slice b n d] w fun r w' => r = .returned (.tuple #[.slice a l.length c, .bool false]) ∧ w = w' := by
  subst hn; exact refPush_full a c l b d m w hl hm hf
theorem push_fullN (b : Nat) (l m : List Int) (a : Option Addr) (cap n : Nat) (hn : n = m.length) (w : World) (h : StackAt w b l) (hm : 64 < l.length + m.length) (hml : m.length ≤ maxLen) :
    Calls Try.prog 42 #[.pointer (some ⟨b, 0, none⟩), .slice a n cap] w fun r w' => r = .returned (.bool false) ∧ w = w' := by
  subst hn; exact push_full b l m a cap w h hm hml
set_option maxRecDepth 100000 in
set_option maxHeartbeats 8000000 in
theorem stack_push (W0 w : World) (b s c : Nat) (fn : Int) (l v : List Int) (a : Option Addr) (ca : Nat) (n x : Int) (la : Option Addr) (L : List Int) (cl : Nat) (h : PlayAt W0 w b s c fn l v a ca) (hL : ActL W0 (.slice la L.length cl) L) (hLb : ∀ y ∈ L, i64B y) :
    Calls Try.prog 26 #[.pointer (some ⟨b, 0, none⟩), .slice a l.length ca, .agg #[.int .i64 1, .int .i64 n, .int .i64 x, .slice la L.length cl]] w (PlayTo W0 w b s c fn v a) := by
  have HP := Lib.hid (fun o => play_box h o)
  have hp0 := h.1.2.1
  have hbl := h.1.lt.1
  have hsl := h.1.lt.2.1
  have HT := Lib.hid (show ∀ o, Touch (fun k => k = s) w (w.alloc o) from fun o => (Touch.refl _ _).alloc _)
  have hl64 := h.1.1.len
  have HLL := Lib.hid h.2.1
  obtain ⟨la', cl', e, hcl, hcm, hrow, hnone⟩ := hL
  cases e
  unfold maxLen at hcm
  have HROW := Lib.hid hrow
  have HNONE := Lib.hid hnone
  have HLB := Lib.hid (show ∀ y ∈ L, bound64 y from hLb)
  clear h hrow hnone hLb
  by_cases h40 : L.length ≤ 40
  · have HBOX := Lib.hid (show ∀ o w2, Touch (fun k => k = s) (w.alloc o).drew w2 → w2.cell? ⟨w.heap.size, 3, none⟩ = (w.alloc o).cell? ⟨w.heap.size, 3, none⟩ from fun o w2 ht => ht.cell (p := ⟨w.heap.size, 3, none⟩) (by simp) (by show ¬ w.heap.size = s; omega))
    by_cases hfit : l.length + L.length ≤ 64
    · go_enter Try.func26, Try.ntmps26
      go_upto_region 5 with (fail)
      have hc3 : (w.alloc (.cells #[.int .i64 1, .int .i64 n, .int .i64 x, .slice la L.length cl] 47)).cell? ⟨w.heap.size, 3, none⟩ = some (.slice la L.length cl) := by simp
      have HBX := Lib.hid (HBOX.out (.cells #[.int .i64 1, .int .i64 n, .int .i64 x, .slice la L.length cl] 47))
      have HPW := Lib.hid (HP.out (.cells #[.int .i64 1, .int .i64 n, .int .i64 x, .slice la L.length cl] 47))
      have HTW := Lib.hid (HT.out (.cells #[.int .i64 1, .int .i64 n, .int .i64 x, .slice la L.length cl] 47))
      have hpw : (w.alloc (.cells #[.int .i64 1, .int .i64 n, .int .i64 x, .slice la L.length cl] 47)).cell? ⟨b, 0, none⟩ = some (.pointer (some ⟨s, 0, none⟩)) := HPW.out.1.2.1
      generalize w.alloc (.cells #[.int .i64 1, .int .i64 n, .int .i64 x, .slice la L.length cl] 47) = W at HBX HPW HTW hc3 hpw ⊢
      have HPU := Lib.hid (push_fit s l L la cl L.length rfl W.drew HPW.out.1.1 hfit (HROW.out.below (HPW.out.2.2.2.1.drew)) HLB.out)
      clear hp0
      go_region_with (go_at_call 42; (with_reducible refine HPU.out.mono ?_); rintro r w2 ⟨rfl, hto⟩; have hcw := (HBX.out w2 hto.2).trans hc3; have HTO := Lib.hid (show StackTo W s (l ++ L) w2 from ⟨hto.1, hto.2.drew0⟩); clear hto)
      all_goals
        obtain ⟨hF, hB, hLr⟩ := HPW.out.stack HTO.out
        have HRP := Lib.hid (refPush_some a ca l la cl L w2 hfit hLr.2.2.1 hLr.2.2.2.2 (HROW.out.below hB) HNONE.out)
        clear hF hB hLr hpw hc3
        go_wp2_with fail
        refine HRP.out.mono ?_
        rintro r w3 ⟨a', c', rfl, hnew⟩
        have HE := Lib.hid (play_pushed HPW.out HTW.out HTO.out hnew)
        clear hnew HRP hcw
        go_wp2
        go_ret2
        exact HE.out
    · go_enter Try.func26, Try.ntmps26
      go_upto_region 5 with (fail)
      have hc3 : (w.alloc (.cells #[.int .i64 1, .int .i64 n, .int .i64 x, .slice la L.length cl] 47)).cell? ⟨w.heap.size, 3, none⟩ = some (.slice la L.length cl) := by simp
      have HPW := Lib.hid (HP.out (.cells #[.int .i64 1, .int .i64 n, .int .i64 x, .slice la L.length cl] 47))
      have HTW := Lib.hid (HT.out (.cells #[.int .i64 1, .int .i64 n, .int .i64 x, .slice la L.length cl] 47))
      have hpw : (w.alloc (.cells #[.int .i64 1, .int .i64 n, .int .i64 x, .slice la L.length cl] 47)).cell? ⟨b, 0, none⟩ = some (.pointer (some ⟨s, 0, none⟩)) := HPW.out.1.2.1
      generalize w.alloc (.cells #[.int .i64 1, .int .i64 n, .int .i64 x, .slice la L.length cl] 47) = W at HPW HTW hc3 hpw ⊢
      have HPU := Lib.hid (push_full s l L la cl W.drew HPW.out.1.1 (by omega) (by unfold maxLen; omega))
      clear hp0
      go_region_with (go_at_call 42; (with_reducible refine HPU.out.mono ?_); rintro r w2 ⟨rfl, rfl⟩)
      all_goals
        go_wp2_with fail
        refine (refPush_full a ca l la cl L _ hl64 h40 (by omega)).mono ?_
        rintro r w3 ⟨rfl, rfl⟩
        have HE := Lib.hid (show PlayTo W0 w b s c fn v a (.returned (.tuple #[.slice a l.length ca, .bool true])) W.drew from play_none (HPW.out.keep ((Below.refl _ _).drew)) HTW.out.drew rfl)
        go_wp2
        go_ret2
        exact HE.out
  · obtain ⟨M, hM⟩ : ∃ M, M = L.take 40 := ⟨_, rfl⟩
    have HML := Lib.hid (show M.length = 40 by rw [hM]; simp; omega)
    obtain ⟨lb, lo, rfl, -⟩ := HROW.out.lt (by omega)
    have HROW2 := Lib.hid (show IntRow .i64 W0 (some ⟨lb, lo, none⟩) M by rw [hM]; exact HROW.out.take 40)
    have HNONE2 := Lib.hid (show (some (⟨lb, lo, none⟩ : Addr)) = none → M = [] from fun h => by cases h)
    have HLB2 := Lib.hid (show ∀ y ∈ M, bound64 y from fun y hy => HLB.out y (by rw [hM] at hy; exact List.mem_of_mem_take hy))
    clear hM HROW HNONE HLB
    have HBOX := Lib.hid (show ∀ o w2, Touch (fun k => k = s) (w.alloc o).drew w2 → w2.cell? ⟨w.heap.size, 3, none⟩ = (w.alloc o).cell? ⟨w.heap.size, 3, none⟩ from fun o w2 ht => ht.cell (p := ⟨w.heap.size, 3, none⟩) (by simp) (by show ¬ w.heap.size = s; omega))
    by_cases hfit : l.length + M.length ≤ 64
    · go_enter Try.func26, Try.ntmps26
      go_upto_region 5 with (fail)
      have hc3 : (w.alloc (.cells #[.int .i64 1, .int .i64 n, .int .i64 x, .slice (some ⟨lb, lo, none⟩) 40 cl] 47)).cell? ⟨w.heap.size, 3, none⟩ = some (.slice (some ⟨lb, lo, none⟩) 40 cl) := by simp
      have HBX := Lib.hid (HBOX.out (.cells #[.int .i64 1, .int .i64 n, .int .i64 x, .slice (some ⟨lb, lo, none⟩) 40 cl] 47))
      have HPW := Lib.hid (HP.out (.cells #[.int .i64 1, .int .i64 n, .int .i64 x, .slice (some ⟨lb, lo, none⟩) 40 cl] 47))
      have HTW := Lib.hid (HT.out (.cells #[.int .i64 1, .int .i64 n, .int .i64 x, .slice (some ⟨lb, lo, none⟩) 40 cl] 47))
      have hpw : (w.alloc (.cells #[.int .i64 1, .int .i64 n, .int .i64 x, .slice (some ⟨lb, lo, none⟩) 40 cl] 47)).cell? ⟨b, 0, none⟩ = some (.pointer (some ⟨s, 0, none⟩)) := HPW.out.1.2.1
      generalize w.alloc (.cells #[.int .i64 1, .int .i64 n, .int .i64 x, .slice (some ⟨lb, lo, none⟩) 40 cl] 47) = W at HBX HPW HTW hc3 hpw ⊢
      have HPU := Lib.hid (push_fit s l M (some ⟨lb, lo, none⟩) cl 40 HML.out.symm W.drew HPW.out.1.1 hfit (HROW2.out.below (HPW.out.2.2.2.1.drew)) HLB2.out)
      clear hp0
      go_region_with (go_at_call 42; (with_reducible refine HPU.out.mono ?_); rintro r w2 ⟨rfl, hto⟩; have hcw := (HBX.out w2 hto.2).trans hc3; have HTO := Lib.hid (show StackTo W s (l ++ M) w2 from ⟨hto.1, hto.2.drew0⟩); clear hto)
      all_goals
        obtain ⟨hF, hB, hLr⟩ := HPW.out.stack HTO.out
        have HRP := Lib.hid (refPush_someN a ca l (some ⟨lb, lo, none⟩) cl M 40 HML.out.symm w2 hfit hLr.2.2.1 hLr.2.2.2.2 (HROW2.out.below hB) HNONE2.out)
        clear hF hB hLr hpw hc3
        go_wp2_with fail
        refine HRP.out.mono ?_
        rintro r w3 ⟨a', c', rfl, hnew⟩
        have HE := Lib.hid (play_pushed HPW.out HTW.out HTO.out hnew)
        clear hnew HRP hcw
        go_wp2
        go_ret2
        exact HE.out
    · go_enter Try.func26, Try.ntmps26
      go_upto_region 5 with (fail)
      have hc3 : (w.alloc (.cells #[.int .i64 1, .int .i64 n, .int .i64 x, .slice (some ⟨lb, lo, none⟩) 40 cl] 47)).cell? ⟨w.heap.size, 3, none⟩ = some (.slice (some ⟨lb, lo, none⟩) 40 cl) := by simp
      have HPW := Lib.hid (HP.out (.cells #[.int .i64 1, .int .i64 n, .int .i64 x, .slice (some ⟨lb, lo, none⟩) 40 cl] 47))
      have HTW := Lib.hid (HT.out (.cells #[.int .i64 1, .int .i64 n, .int .i64 x, .slice (some ⟨lb, lo, none⟩) 40 cl] 47))
      have hpw : (w.alloc (.cells #[.int .i64 1, .int .i64 n, .int .i64 x, .slice (some ⟨lb, lo, none⟩) 40 cl] 47)).cell? ⟨b, 0, none⟩ = some (.pointer (some ⟨s, 0, none⟩)) := HPW.out.1.2.1
      generalize w.alloc (.cells #[.int .i64 1, .int .i64 n, .int .i64 x, .slice (some ⟨lb, lo, none⟩) 40 cl] 47) = W at HPW HTW hc3 hpw ⊢
      have HPU := Lib.hid (push_fullN s l M (some ⟨lb, lo, none⟩) cl 40 HML.out.symm W.drew HPW.out.1.1 (by omega) (by have := HML.out; unfold maxLen; omega))
      clear hp0
      go_region_with (go_at_call 42; (with_reducible refine HPU.out.mono ?_); rintro r w2 ⟨rfl, rfl⟩)
      all_goals
        go_wp2_with fail
        refine (refPush_fullN a ca l (some ⟨lb, lo, none⟩) cl M 40 HML.out.symm _ hl64 (by have := HML.out; omega) (by omega)).mono ?_
        rintro r w3 ⟨rfl, rfl⟩
        have HE := Lib.hid (show PlayTo W0 w b s c fn v a (.returned (.tuple #[.slice a l.length ca, .bool true])) W.drew from play_none (HPW.out.keep ((Below.refl _ _).drew)) HTW.out.drew rfl)
        go_wp2
        go_ret2
        exact HE.out
end Go.Proofs.Ytmghhigepjeicaa
