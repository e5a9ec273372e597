/-
  Values taken, on both: the program's and the document's.
-/
import Derived.Test.YtmghhigepjeicaaPlayStack
namespace Go.Proofs.Ytmghhigepjeicaa
open Go.RowKit
set_option linter.unusedVariables false

theorem take_someN (b : Nat) (l m : List Int) (n : Int) (hn : n = (m.length : Nat)) (w : World) (h : StackAt w b (l ++ m)) :
    Calls Try.prog 43 #[.pointer (some ⟨b, 0, none⟩), .int .i64 n] w (TakePost w b l m) := by
  subst hn; exact take_some b l m w h
theorem refTake_someN (B : Nat) (a : Option Addr) (c : Nat) (l m : List Int) (t : Nat) (ht : t = l.length + m.length) (n : Int) (hn : n = (m.length : Nat)) (w : World) (hl : l.length + m.length ≤ 64) (h : LRow B w a c (l ++ m)) :
    Calls Try.prog 51 #[.slice a t c, .int .i64 n] w (RTakePost w a c l m) := by
  subst hn; subst ht; exact refTake_some B a c l m w hl h
set_option maxRecDepth 100000 in
set_option maxHeartbeats 8000000 in
theorem stack_take (W0 w : World) (b s c : Nat) (fn : Int) (l v : List Int) (a : Option Addr) (ca : Nat) (n x : Int) (la : Option Addr) (ln cl : Nat) (h : PlayAt W0 w b s c fn l v a ca) :
    Calls Try.prog 26 #[.pointer (some ⟨b, 0, none⟩), .slice a l.length ca, .agg #[.int .i64 3, .int .i64 n, .int .i64 x, .slice la ln cl]] w (PlayTo W0 w b s c fn v a) := by
  have HPW := Lib.hid (play_box h (.cells #[.int .i64 3, .int .i64 n, .int .i64 x, .slice la ln cl] 47))
  have hp0 := h.1.2.1
  have hbl := h.1.lt.1
  have hsl := h.1.lt.2.1
  have HTW := Lib.hid (show Touch (fun k => k = s) w (w.alloc (.cells #[.int .i64 3, .int .i64 n, .int .i64 x, .slice la ln cl] 47)) from (Touch.refl _ _).alloc _)
  have hl64 := h.1.1.len
  have hcN : (w.alloc (.cells #[.int .i64 3, .int .i64 n, .int .i64 x, .slice la ln cl] 47)).cell? ⟨w.heap.size, 1, none⟩ = some (.int .i64 n) := by simp
  have hwlt : w.heap.size < (w.alloc (.cells #[.int .i64 3, .int .i64 n, .int .i64 x, .slice la ln cl] 47)).heap.size := by simp
  clear h
  by_cases hin : 0 ≤ n ∧ n ≤ (l.length : Int)
  · obtain ⟨p, rfl⟩ := Int.eq_ofNat_of_zero_le hin.1
    have hp : p ≤ l.length := by omega
    obtain ⟨l1, m, rfl, hm⟩ : ∃ l1 m, l = l1 ++ m ∧ m.length = p := ⟨l.take (l.length - p), l.drop (l.length - p), (List.take_append_drop _ _).symm, by simp; omega⟩
    have HM := Lib.hid (show ((p : Nat) : Int) = (m.length : Nat) by rw [hm])
    have HTT := Lib.hid (show (l1 ++ m).length = l1.length + m.length by simp)
    have hl64' : l1.length + m.length ≤ 64 := by simpa using hl64
    have hm64 : m.length ≤ 64 := by omega
    clear hin hp hm hl64
    generalize hT : (l1 ++ m).length = T at *
    have HT := Lib.hid hT
    clear hT
    go_enter Try.func26, Try.ntmps26
    go_upto_region 13 with (fail)
    have hpw : (w.alloc (.cells #[.int .i64 3, .int .i64 (p : Nat), .int .i64 x, .slice la ln cl] 47)).cell? ⟨b, 0, none⟩ = some (.pointer (some ⟨s, 0, none⟩)) := HPW.out.1.2.1
    generalize w.alloc (.cells #[.int .i64 3, .int .i64 (p : Nat), .int .i64 x, .slice la ln cl] 47) = W at HPW HTW hcN hpw hwlt ⊢
    have HTK := Lib.hid (take_someN s l1 m (p : Nat) HM.out W.drew HPW.out.1.1)
    clear hp0
    go_region_with (go_at_call 43; (with_reducible refine HTK.out.mono ?_); rintro r w2 ⟨a2, c2, rfl, hr2, ha2, hto⟩; have hcN2 := (hto.2.cell (p := ⟨w.heap.size, 1, none⟩) hwlt (by show ¬ w.heap.size = s; omega)).trans hcN; have HTO := Lib.hid (show StackTo W s l1 w2 from ⟨hto.1, hto.2.drew0⟩); have HR2 := Lib.hid hr2; clear hto hr2 ha2)
    all_goals
      obtain ⟨hF, hB, hLr⟩ := HPW.out.stack HTO.out
      have HRT := Lib.hid (refTake_someN W0.heap.size a ca l1 m T (by rw [HTT.out]) (p : Nat) HM.out w2 hl64' hLr)
      have HL1 := Lib.hid (show LRow W0.heap.size w2 a ca l1 by have := hLr.take l1.length; rwa [List.take_left' rfl] at this)
      have HF := Lib.hid (And.intro hF hB)
      clear hF hB hLr hpw hcN
      go_wp2_with fail
      refine HRT.out.mono ?_
      rintro r w3 ⟨b3, d3, rfl, hr3, q, rfl⟩
      have HSM := Lib.hid (sameInts_any a2 c2 b3 d3 m (w2.drewN q) hm64 HR2.out hr3)
      have HE := Lib.hid (show PlayAt W0 (w2.drewN q) b s c fn l1 v a ca from PlayAt.keep (⟨HF.out.1, HL1.out, HPW.out.2.2.1, HF.out.2, HPW.out.2.2.2.2⟩ : PlayAt W0 w2 b s c fn l1 v a ca) ⟨rfl, rfl, rfl, Nat.le_refl _, fun _ _ => rfl⟩)
      have HTQ := Lib.hid (show Touch (fun k => k = s) w (w2.drewN q) from by have := HTW.out.trans HTO.out.2; exact ⟨this.os, this.tape, this.output, this.size, this.block⟩)
      clear hr3 HRT hcN2
      go_wp2_with fail
      refine HSM.out.mono ?_
      rintro r w4 ⟨rfl, hb4⟩
      have HEND := Lib.hid (play_none (HE.out.keep hb4) (HTQ.out.trans (touch_of_below hb4)) rfl)
      clear hb4
      go_wp2
      go_ret2
      exact HEND.out
  · have hout : n < 0 ∨ (l.length : Int) < n := by omega
    have HOUT := Lib.hid hout
    clear hin
    go_enter Try.func26, Try.ntmps26
    go_upto_region 13 with (fail)
    have hpw : (w.alloc (.cells #[.int .i64 3, .int .i64 n, .int .i64 x, .slice la ln cl] 47)).cell? ⟨b, 0, none⟩ = some (.pointer (some ⟨s, 0, none⟩)) := HPW.out.1.2.1
    generalize w.alloc (.cells #[.int .i64 3, .int .i64 n, .int .i64 x, .slice la ln cl] 47) = W at HPW HTW hcN hpw hwlt ⊢
    have HTK := Lib.hid (take_no s l n W.drew HPW.out.1.1 HOUT.out)
    clear hp0 hout
    go_region_with (go_at_call 43; (with_reducible refine HTK.out.mono ?_); rintro r w2 ⟨rfl, rfl⟩)
    all_goals
      go_wp2_with fail
      refine (refTake_no a ca l n _ hl64 HOUT.out).mono ?_
      rintro r w3 ⟨rfl, rfl⟩
      go_wp2_with fail
      refine (sameInts_any none 0 none 0 [] _ (by decide) (fun h => by simp at h) (fun h => by simp at h)).mono ?_
      rintro r w4 ⟨rfl, hb4⟩
      have HEND := Lib.hid (show PlayTo W0 w b s c fn v a (.returned (.tuple #[.slice a l.length ca, .bool true])) w4 from play_none ((HPW.out.keep ((Below.refl _ _).drew)).keep hb4) (HTW.out.drew.trans (touch_of_below hb4)) rfl)
      clear hb4
      go_wp2
      go_ret2
      exact HEND.out
end Go.Proofs.Ytmghhigepjeicaa
