/-
  The walk of FrameReads.
-/
import Derived.Test.YtmghhigepjeicaaAwake6
import Derived.Test.YtmghhigepjeicaaRefHeap
import Derived.Test.YtmghhigepjeicaaHeapSpell
import Derived.Test.YtmghhigepjeicaaBytes
import Derived.Deep.RegionHeld3
namespace Go.Proofs.Ytmghhigepjeicaa
open Go.RowKit
set_option linter.unusedVariables false

/-- The reader, the heap that was read, the document's own. -/
def ReadR (w : World) (i hb rb : Nat) (st : StH) (v : List Int) (w' : World) : Prop := InSt w' i st ∧ (st.2 = 0 → HeapAt w' hb v) ∧ HeapAt w' rb v ∧ Below w.heap.size w w'
theorem ReadR.keep {w w1 w2 : World} {i hb rb : Nat} {st : StH} {v : List Int} (h : ReadR w i hb rb st v w1) (hk : Below w1.heap.size w1 w2) : ReadR w i hb rb st v w2 :=
  ⟨h.1.below hk, fun e => (h.2.1 e).below hk, h.2.2.1.below hk, h.2.2.2.trans (hk.mono h.2.2.2.size)⟩
theorem keepR6 {w w1 w2 : World} {X i hb rb : Nat} {st : StH} {v : List Int} {c0 c1 : Value} (hk : Below w1.heap.size w1 w2) (h : w1.cell? ⟨X, 0, none⟩ = some c0 ∧ w1.cell? ⟨X, 1, none⟩ = some c1 ∧ ReadR w i hb rb st v w1) :
    w2.cell? ⟨X, 0, none⟩ = some c0 ∧ w2.cell? ⟨X, 1, none⟩ = some c1 ∧ ReadR w i hb rb st v w2 :=
  ⟨(hk.cell (p := ⟨X, 0, none⟩) (block_lt_of_cell h.1)).trans h.1, (hk.cell (p := ⟨X, 1, none⟩) (block_lt_of_cell h.2.1)).trans h.2.1, h.2.2.keep hk⟩
set_option maxRecDepth 100000 in
set_option maxHeartbeats 4000000 in
theorem frameReads_walk (s0 : ByteArray) (hs0 : s0.size ≤ maxLen) (w : World) :
    Calls Try.prog 9 #[.string s0] w fun e w' => e = .returned (.bool true) ∧ Below w.heap.size w w' := by
  have hcut := cutB_le s0 300
  go_enter Try.func9, Try.ntmps9
  go_wp2_with fail
  refine (cut_any s0 300 w hs0 (by decide)).mono ?_
  rintro r w1 ⟨rfl, rfl⟩
  generalize cutB s0 300 = s at *
  go_wp2_with fail
  refine (open_any s w (by omega)).mono ?_
  rintro r w2 ⟨rfl, hi2, hb2⟩
  have HI2 := Lib.hid hi2
  have HB2 := Lib.hid hb2
  clear hi2 hb2
  go_wp2_with fail
  refine (heapRead_any w.heap.size s.data.toList 0 w2 HI2.out).mono ?_
  rintro r w3 hgot
  have HSP := Lib.hid (heapS_spell s.data.toList)
  have HRD := Lib.hid (fun w4 => refHeapRead_any s.data.toList 0 w4 (by simpa using (show s.size ≤ 1000000000 by omega)) (fun h => absurd rfl h))
  have HBS := Lib.hid (show bs s.data.toList = s from bs_eta s)
  generalize heapS (s.data.toList, 0) = t at hgot HSP HRD
  obtain ⟨⟨l, e⟩, v⟩ := t
  obtain ⟨hor, hin⟩ := hgot
  simp only at hor HSP
  have HI3 := Lib.hid (show InSt w3 w.heap.size (l, e) ∧ Below w.heap.size w w3 from ⟨hin.1, HB2.out.trans (hin.2.below HB2.out.size (by rintro j hj rfl; omega))⟩)
  clear hin
  have hnn : ((e : Int) != (e : Int)) = false := by simp
  rcases hor with ⟨he, rfl⟩ | ⟨he, hb, rfl, hh, hle⟩
  · have heb : ((e : Int) == 0) = false := by simp; omega
    have heb' : ((e : Int) != 0) = true := by simp; omega
    have HE := Lib.hid he
    clear he
    go_wp2_with fail
    have HR4 := HRD.out w3
    rw [HBS.out] at HR4
    refine HR4.mono ?_
    rintro r w4 ⟨rb, rfl, hrb, hle4, hb4⟩
    have HRR := Lib.hid (show ReadR w w.heap.size 0 rb (l, e) v w4 from ⟨HI3.out.1.below hb4, fun h => absurd h HE.out, hrb, HI3.out.2.trans (hb4.mono HI3.out.2.size)⟩)
    clear hrb hle4 hb4 HR4
    unfold inV
    simp only
    go_upto_region 5 with (fail)
    have HS0 : (w4.alloc (.cells #[.string (bs l), .int .i64 (e : Nat)] 74)).drew.cell? ⟨w4.heap.size, 0, none⟩ = some (.string (bs l)) ∧ (w4.alloc (.cells #[.string (bs l), .int .i64 (e : Nat)] 74)).drew.cell? ⟨w4.heap.size, 1, none⟩ = some (.int .i64 (e : Nat)) ∧ ReadR w w.heap.size 0 rb (l, e) v (w4.alloc (.cells #[.string (bs l), .int .i64 (e : Nat)] 74)).drew :=
      ⟨by simp, by simp, HRR.out.keep (((Below.refl _ _).alloc (Nat.le_refl _) _).drew)⟩
    go_region_held3 (fun w' => w'.cell? ⟨w4.heap.size, 0, none⟩ = some (.string (bs l)) ∧ w'.cell? ⟨w4.heap.size, 1, none⟩ = some (.int .i64 (e : Nat)) ∧ ReadR w w.heap.size 0 rb (l, e) v w')
      (first | exact HS0 | (refine keepR6 hbK ?_; assumption))
      (first
        | (go_at_call 23; refine (awake6_any _).mono ?_; rintro r wK ⟨rfl, hbK⟩)
        | (go_at_call 40; refine (err_any w.heap.size l e _ ?_).mono ?_; (exact (‹World.cell? _ _ = _ ∧ World.cell? _ _ = _ ∧ ReadR _ _ _ _ _ _ _›).2.2.1); rintro r wK ⟨rfl, rfl⟩))
    have hS : wK.cell? ⟨w4.heap.size, 0, none⟩ = some (.string (bs l)) ∧ wK.cell? ⟨w4.heap.size, 1, none⟩ = some (.int .i64 (e : Nat)) ∧ ReadR w w.heap.size 0 rb (l, e) v wK := by assumption
    obtain ⟨k0, k1, k2⟩ := hS
    have HK2 := Lib.hid k2
    clear k2
    go_wp2
    go_ret
    exact ⟨rfl, HK2.out.2.2.2⟩
  · subst he
    have HJ := Lib.hid (show bs (heapB v) ++ bs l = s by rw [bs_append, HSP.out rfl]; exact HBS.out)
    have hsz : (bs (heapB v)).size + (bs l).size ≤ 9223372036854775807 := by rw [← ByteArray.size_append, HJ.out]; omega
    have hln : ((l.length : Int) == ((bs l).size : Int)) = true := by rw [bs_size]; simp
    go_wp2_with fail
    have HR4 := HRD.out w3
    rw [HBS.out] at HR4
    refine HR4.mono ?_
    rintro r w4 ⟨rb, rfl, hrb, hle4, hb4⟩
    have HRR := Lib.hid (show ReadR w w.heap.size hb rb (l, 0) v w4 from ⟨HI3.out.1.below hb4, fun h => hh.below hb4, hrb, HI3.out.2.trans (hb4.mono HI3.out.2.size)⟩)
    clear hrb hle4 hb4 HR4 hh hle
    unfold inV
    simp only
    go_upto_region 5 with (fail)
    have HS0 : (w4.alloc (.cells #[.string (bs l), .int .i64 0] 74)).drew.cell? ⟨w4.heap.size, 0, none⟩ = some (.string (bs l)) ∧ (w4.alloc (.cells #[.string (bs l), .int .i64 0] 74)).drew.cell? ⟨w4.heap.size, 1, none⟩ = some (.int .i64 0) ∧ ReadR w w.heap.size hb rb (l, 0) v (w4.alloc (.cells #[.string (bs l), .int .i64 0] 74)).drew :=
      ⟨by simp, by simp, HRR.out.keep (((Below.refl _ _).alloc (Nat.le_refl _) _).drew)⟩
    go_region_held3 (fun w' => w'.cell? ⟨w4.heap.size, 0, none⟩ = some (.string (bs l)) ∧ w'.cell? ⟨w4.heap.size, 1, none⟩ = some (.int .i64 0) ∧ ReadR w w.heap.size hb rb (l, 0) v w')
      (first | exact HS0 | (refine keepR6 hbK ?_; assumption))
      (first
        | (go_at_call 23; refine (awake6_any _).mono ?_; rintro r wK ⟨rfl, hbK⟩)
        | (go_at_call 40; refine (err_any w.heap.size l 0 _ ?_).mono ?_; (exact (‹World.cell? _ _ = _ ∧ World.cell? _ _ = _ ∧ ReadR _ _ _ _ _ _ _›).2.2.1); rintro r wK ⟨rfl, rfl⟩))
    have hS : wK.cell? ⟨w4.heap.size, 0, none⟩ = some (.string (bs l)) ∧ wK.cell? ⟨w4.heap.size, 1, none⟩ = some (.int .i64 0) ∧ ReadR w w.heap.size hb rb (l, 0) v wK := by assumption
    have HS1 := Lib.hid hS
    obtain ⟨k0, k1, k2⟩ := hS
    clear k2 HS0 hbK
    obtain ⟨wL, rfl⟩ : ∃ wL : World, wL = wK := ⟨_, rfl⟩
    have HTX := Lib.hid (fun w' (h : HeapAt w' hb v) => heapText_any hb v w' h)
    have HTR := Lib.hid (fun w' (h : HeapAt w' rb v) => refHeapText_any rb v w' h)
    generalize bs (heapB v) = A at HJ hsz HTX HTR
    have HB5 := Lib.hid (show bs l = bs l from rfl)
    go_upto_region 9 with (fail)
    have hS0 : wL.drew.cell? ⟨w4.heap.size, 0, none⟩ = some (.string (bs l)) ∧ wL.drew.cell? ⟨w4.heap.size, 1, none⟩ = some (.int .i64 0) ∧ ReadR w w.heap.size hb rb (l, 0) v wL.drew := keepR6 ((Below.refl _ _).drew) HS1.out
    have u1 : ∀ W, (Op.stringOp .add A (bs l)).run Try.prog W = .ok (.string (A ++ bs l)) W := fun W => run_string_add_sum W _ _ hsz
    have hq : ((A ++ bs l).toList == s.toList) = true := by rw [HJ.out]; simp
    go_region_held3 (fun w' => w'.cell? ⟨w4.heap.size, 0, none⟩ = some (.string (bs l)) ∧ w'.cell? ⟨w4.heap.size, 1, none⟩ = some (.int .i64 0) ∧ ReadR w w.heap.size hb rb (l, 0) v w')
      (first | assumption | exact hS0 | (refine keepR6 hbK ?_; assumption))
      (first
        | (go_at_call 34; refine (HTX.out _ ?_).mono ?_; (exact (‹World.cell? _ _ = _ ∧ World.cell? _ _ = _ ∧ ReadR _ _ _ _ _ _ _›).2.2.2.1 rfl); rintro r wK ⟨rfl, hbK⟩)
        | (go_at_call 36; refine (HTR.out _ ?_).mono ?_; (exact (‹World.cell? _ _ = _ ∧ World.cell? _ _ = _ ∧ ReadR _ _ _ _ _ _ _›).2.2.2.2.1); rintro r wK ⟨rfl, hbK⟩)
        | (go_at_call 41; refine (len_any w.heap.size l 0 _ ?_).mono ?_; (exact (‹World.cell? _ _ = _ ∧ World.cell? _ _ = _ ∧ ReadR _ _ _ _ _ _ _›).2.2.1); rintro r wK ⟨rfl, rfl⟩))
    have hE := (‹World.cell? _ _ = _ ∧ World.cell? _ _ = _ ∧ ReadR _ _ _ _ _ _ _›).2.2.2.2.2
    go_wp2
    go_ret
    exact ⟨rfl, hE⟩
end Go.Proofs.Ytmghhigepjeicaa
