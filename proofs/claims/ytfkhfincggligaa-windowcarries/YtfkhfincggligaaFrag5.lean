/-
  Layer 12: what stands at the head of the laws.
-/
import Derived.Test.YtfkhfincggligaaFrag4
namespace Go.Proofs.Ytfkhfincggligaa
open Go.RowKit
set_option linter.unusedVariables false

theorem new_at (W : World) (n : Nat) (h : W.heap.size = n) (cs : Array Value) (t : TypeId) (j : Nat) : (W.alloc (.cells cs t)).cell? ⟨n, j, none⟩ = cs[j]? := by subst h; simp
def zerosN (n : Nat) : List UInt8 := List.replicate n 0
theorem zerosN_len (n : Nat) : (zerosN n).length = n := List.length_replicate
theorem zmade (u : World) (z : Int) (n : Nat) (hz : z = (n : Int)) (hn : n ≤ 1000) : (Instr.makeSlice 30 (.int .i64 z) (.int .i64 z)).run Try.prog u = .ok (.slice (some ⟨u.heap.size, 0, none⟩) n n) (u.alloc (.cells (madeCells #[.int .u8 0] n) 5)) := by
  have h0 : (Try.prog.info? 5).map (fun i => (i.zero, i.size, i.bytes)) = some (some (.int .u8 0), 1, 1) := by kernel_rfl
  obtain ⟨i0, hi, hz0, hz1, hz2⟩ := info_is h0
  have := run_make (P := Try.prog) u 30 5 i0 _ Try.underlying30 hi hz0 .i64 .i64 z z (by omega) (by omega) (by rw [hz2]; omega) (by omega)
  rw [hz1] at this
  subst hz
  simpa [Value.cells] using this
theorem zstr (u : World) (B n : Nat) (hB : u.heap.size = B) : (convert 30 9 (.slice (some ⟨B, 0, none⟩) n n)).run Try.prog (u.alloc (.cells (madeCells #[.int .u8 0] n) 5)) = .ok (.string (bs (zerosN n))) (u.alloc (.cells (madeCells #[.int .u8 0] n) 5)) := by
  refine bytes_back _ B n n (zerosN n) (zerosN_len n).symm (fun j hj => ?_)
  rw [zerosN_len] at hj
  rw [new_at _ _ hB, ← Array.getElem?_toList, toList_madeCells_one, List.getElem?_replicate, if_pos hj]
  have : ∀ (h : j < (zerosN n).length), (zerosN n)[j] = 0 := fun h => by unfold zerosN; exact List.getElem_replicate _
  rw [this]
  rfl
theorem PMem.keep {e : TypeId} {w : World} {ls : List Pt} {a : Option Addr} {c : Nat} {wr w' : World} (h : PMem e w ls a c wr) (hb : Below wr.heap.size wr w') : PMem e w ls a c w' :=
  ⟨h.row.touch (touch_of_below (S := fun _ => False) hb) (fun _ _ => id), h.bel.trans (hb.mono h.bel.size)⟩
theorem put_a (b : Nat) (w : World) (h : JAt w b (.slice none 0 0) ⟨0, []⟩) : Calls Try.prog 19 #[.pointer (some ⟨b, 0, none⟩), .agg #[.bool true, .string ⟨#[97]⟩]] w fun r w' => r = .returned (.tuple #[.string ⟨#[97]⟩, .bool true, .int .i64 0]) ∧ Touch (fun k => k = b) w w' := by
  refine (joPut_any b (.slice none 0 0) ⟨0, []⟩ ⟨true, [97]⟩ w h (by decide) (by decide) (by decide)).mono ?_
  rintro r w' ⟨rfl, v', -, -, ht⟩
  exact ⟨rfl, ht.mono fun k _ hk => by rcases hk with e | e; exact e; simp [Value.ownBlock] at e⟩
set_option maxRecDepth 100000 in
set_option maxHeartbeats 2000000 in
theorem awake12_any (w : World) : Calls Try.prog 16 #[] w fun e w' => e = .returned (.bool true) ∧ Below w.heap.size w w' := by
  have hmk := zmade w 450 450 rfl (by decide)
  have hst := zstr w _ 450 rfl
  have hzl := zerosN_len 450
  have HCT := Lib.hid (fun W => fragCut_any (zerosN 450) W (by rw [zerosN_len]; decide))
  have HPA := Lib.hid (fun b W h => put_a b W h)
  have hA : Below w.heap.size w (w.alloc (.cells (madeCells #[.int .u8 0] 450) 5)) := bel_alloc (Below.refl _ _) _
  have HZL := Lib.hid hzl
  clear hzl
  go_enter Try.func16, Try.ntmps16
  go_wp2_with fail
  generalize w.alloc (.cells (madeCells #[.int .u8 0] 450) 5) = WA at hA ⊢
  refine (HCT.out _).mono ?_
  rintro r w1 ⟨a, c, rfl, hpm⟩
  have HM := Lib.hid hpm
  have HA := Lib.hid hA
  have HN : Hid (moreN (zerosN 450).length + 1 = 3) := Lib.hid (by rw [HZL.out]; rfl)
  rw [HN.out]
  clear hpm hA hmk hst HCT
  go_wp2_with fail
  have HJ := Lib.hid (JAt.start w1)
  have HLT := Lib.hid HM.out.row.lt
  have HM1 := Lib.hid (HM.out.keep (bel_alloc (Below.refl _ _) (.cells #[.int .i64 0, .slice none 0 0] 32)))
  have hw1 : WA.heap.size ≤ w1.heap.size := HM.out.bel.size
  clear HM
  refine (HPA.out _ _ HJ.out).mono ?_
  rintro r w2 ⟨rfl, ht⟩
  have hrow := HM1.out.row.touch ht (fun x hx e => by have := HLT.out x hx; omega)
  have HB2 : Hid (Below w.heap.size w w2) := Lib.hid ((HA.out.trans (HM1.out.bel.mono HA.out.size)).trans (ht.below (by have := HA.out.size; have := HM1.out.bel.size; omega) (fun k hk e => by have := HA.out.size; omega)))
  clear ht HM1 HJ HPA HLT
  obtain ⟨gb, rfl, hg, hgB, hc⟩ := own_part hrow (by rw [cutL_len]; omega)
  have hl3 : (cutL (zerosN 450)).length = 3 := by rw [cutL_len]; exact HN.out
  have hm2 : moreN (zerosN 450).length = 2 := by rw [HZL.out]; rfl
  obtain ⟨p2, p3⟩ := hc 2 (by omega)
  obtain ⟨p1, -⟩ := hc 1 (by omega)
  rw [cutL_at, hm2, if_neg (by decide)] at p2 p3
  rw [cutL_at, hm2, if_pos (by decide)] at p1
  obtain ⟨T, hT, hTl⟩ : ∃ T, lastP (zerosN 450) = ⟨true, T⟩ ∧ T.length = 50 := ⟨_, rfl, by rw [List.length_drop, hm2, HZL.out]⟩
  rw [hT] at p2 p3
  have q1 : w2.cell? ⟨gb, 2, none⟩ = some (.bool false) := p1
  have q4 : w2.cell? ⟨gb, 4, none⟩ = some (.bool true) := p2
  have q5 : w2.cell? ⟨gb, 5, none⟩ = some (.string (bs T)) := p3
  have HBY := Lib.hid (fun W => partBytes_any ⟨true, T⟩ W (by simp only; omega))
  unfold ptV partB at HBY
  simp only [if_true] at HBY
  have hzT : (bs T).size = 50 := by rw [bs_size]; exact hTl
  have hz1 : (bs (1 :: T)).size = 51 := by rw [bs_size, List.length_cons, hTl]
  have hx1 : ∀ (hh : 0 < (bs (1 :: T)).size), (bs (1 :: T))[0] = 1 := fun hh => by
    have := getD_at (bs (1 :: T)) 0 hh
    rw [← this, bs_list]; rfl
  clear hc p1 p2 p3 hrow hT hTl hl3 hm2 HN HZL
  generalize bs (1 :: T) = B1 at HBY hz1 hx1
  generalize bs T = BT at q5 HBY hzT
  go_wp2_with fail
  refine (HBY.out _).mono ?_
  rintro r w3 ⟨rfl, hb3⟩
  have HB3 := Lib.hid (HB2.out.trans (hb3.mono HB2.out.size))
  clear hb3 HBY q1 q4 q5
  go_wp2
  go_ret
  exact ⟨rfl, HB3.out⟩
end Go.Proofs.Ytfkhfincggligaa
