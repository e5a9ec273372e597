/-
  Layer 18: the document's text of a roster.
-/
import Derived.Test.YtcbadcbnknmdnaaDoorRosT9
namespace Go.Proofs.YtcbadcbnknmdnaaDoor
open Go.RowKit
set_option linter.unusedVariables false

/-- A roster's box, while only new blocks are written. -/
structure Tr2 (w : World) (X : Nat) (a : Option Addr) (N c : Nat) (e : Int) (L : List Int) (W : World) : Prop where
  c : W.cell? ⟨X, 0, none⟩ = some (.slice a N c) ∧ W.cell? ⟨X, 1, none⟩ = some (.int .i64 e)
  row : IntRow .i64 W a L
  bel : Below w.heap.size w W
theorem Tr2.keep {w : World} {X : Nat} {a : Option Addr} {N c : Nat} {e : Int} {L : List Int} {W W' : World} (h : Tr2 w X a N c e L W) (hb : Below W.heap.size W W') : Tr2 w X a N c e L W' :=
  ⟨⟨(hb.cell (block_lt_of_cell h.c.1)).trans h.c.1, (hb.cell (block_lt_of_cell h.c.2)).trans h.c.2⟩, h.row.below hb, h.bel.trans (hb.mono h.bel.size)⟩
theorem Tr2.new {w : World} {a : Option Addr} {N c : Nat} {e : Int} {L : List Int} (h : IntRow .i64 w a L) : Tr2 w w.heap.size a N c e L (w.alloc (.cells #[.slice a N c, .int .i64 e] 30)) :=
  ⟨⟨new_cell rfl rfl, new_cell rfl rfl⟩, h.below (bel_alloc (Below.refl _ _) _), bel_alloc (Below.refl _ _) _⟩
theorem pow_le32 {j : Nat} (h : j ≤ 32) : 2 ^ j ≤ 4294967296 := by
  have := Nat.pow_le_pow_right (n := 2) (by decide) h
  simpa using this
set_option maxRecDepth 100000 in
set_option maxHeartbeats 4000000 in
theorem refSet_any (n : Nat) (a : Option Addr) (c : Nat) (e : Int) (w : World) (hr : IntRow .i64 w a (lstP n)) (hn : n < 4294967296) :
    Calls Tryd.prog 43 #[docV a (lenP n) c e] w fun r w' => r = .returned (.int .u64 (n : Int)) ∧ Below w.heap.size w w' := by
  have HHAS := Lib.hid (fun x W (hW : IntRow .i64 W a (lstP n)) => dhas_lst n a c e x W hW)
  have HM := Lib.hid (Tr2.new (N := lenP n) (c := c) (e := e) hr)
  have HE : Hid (n % 2 ^ 32 = n) := Lib.hid (Nat.mod_eq_of_lt (by simpa using hn))
  unfold docV at HHAS ⊢
  clear hr hn
  generalize lenP n = N at HHAS HM ⊢
  generalize lstP n = L at HHAS HM
  go_enter Tryd.func43, Tryd.ntmps43
  go_wp2
  generalize w.alloc (.cells #[.slice a N c, .int .i64 e] 30) = W0 at HM ⊢
  generalize w.heap.size = X at HM ⊢
  go_loopw [3, 4, 5] (fun s b i wr => ∃ j : Nat, j ≤ 32 ∧ i = .int .i64 j ∧ s = .int .u64 ((n % 2 ^ j : Nat) : Int) ∧ b = .int .u64 ((2 ^ j : Nat) : Int) ∧ Hid (Tr2 w X a N c e L wr)) (fun _ _ i _ => 32 - (intOf i).toNat)
  case atStart => exact ⟨0, by omega, rfl, by simp [Nat.mod_one], rfl, HM⟩
  case round =>
    obtain ⟨j, hj, rfl, rfl, rfl, HM⟩ := hrel
    have hi0 : (0 : Int) ≤ (j : Int) := by omega
    have x0 := HM.out.c.1
    have x1 := HM.out.c.2
    have hX := block_lt_of_cell x0
    simp only at hX
    by_cases hlt : j < 32
    · have hi1 : (j : Int) < 32 := by omega
      have HS := Lib.hid (mod_succ2 n j)
      have hp := pow_le32 hj
      have HP : Hid ((((2 ^ (j + 1) : Nat)) : Int) = ((2 ^ j : Nat) : Int) * 2) := Lib.hid (by rw [Nat.pow_succ]; omega)
      have hm : n % 2 ^ j < 2 ^ j := Nat.mod_lt _ (Nat.two_pow_pos j)
      have HB : Hid (hasP n (j : Int) = n.testBit j) := Lib.hid (by simp [hasP]; omega)
      have HHZ := Lib.hid (fun W hW => HHAS.out (j : Int) W hW)
      rw [HB.out] at HHZ
      generalize n.testBit j = bt at HS HHZ
      clear HB
      generalize n % 2 ^ j = m at HS hm ⊢
      generalize hq : n % 2 ^ (j + 1) = m2 at HS
      generalize hq2 : 2 ^ (j + 1) = q2 at HP hq
      generalize 2 ^ j = q at HS HP hp hm ⊢
      have hw1 : IntKind.u64.wrap ((m : Int) + (q : Int)) = (m : Int) + (q : Int) := by rw [IntKind.wrap_u64]; omega
      have hw2 : IntKind.u64.wrap ((q : Int) * 2) = (q : Int) * 2 := by rw [IntKind.wrap_u64]; omega
      go_wp2_with fail
      refine (HHZ.out _ HM.out.row).mono ?_
      rintro r w2 ⟨rfl, hb2⟩
      have HM2 := Lib.hid (HM.out.keep hb2)
      clear hb2 HHZ x0 x1 hX
      cases bt
      · have HS2 : Hid ((m2 : Int) = (m : Int)) := Lib.hid (by have := HS.out; simp at this; omega)
        go_wp2
        go_roundw
        case rel => exact ⟨j + 1, by omega, by go_num, by rw [hq2, hq, HS2.out], by rw [hq2, HP.out], HM2⟩
        case measure => simp [intOf]; omega
      · have HS2 : Hid ((m2 : Int) = (m : Int) + (q : Int)) := Lib.hid (by have := HS.out; simp at this; omega)
        go_wp2
        go_roundw
        case rel => exact ⟨j + 1, by omega, by go_num, by rw [hq2, hq, HS2.out], by rw [hq2, HP.out], HM2⟩
        case measure => simp [intOf]; omega
    · obtain rfl : j = 32 := by omega
      rw [HE.out]
      go_wp2
      go_ret
      exact ⟨rfl, HM.out.bel⟩
set_option maxRecDepth 100000 in
set_option maxHeartbeats 4000000 in
theorem refRosText_any (n : Nat) (a : Option Addr) (c : Nat) (e : Nat) (w : World) (hr : IntRow .i64 w a (lstP n)) (hn : n < 4294967296) (he : e ≤ 1099511627776) :
    Calls Tryd.prog 21 #[docV a (lenP n) c (e : Int)] w fun r w' => r = .returned (.string (bs (rosB n e))) ∧ Below w.heap.size w w' := by
  have HSET := Lib.hid (fun W (hW : IntRow .i64 W a (lstP n)) => refSet_any n a c (e : Int) W hW hn)
  have HNUM := Lib.hid (fun W => refNum_any n W (by omega))
  have HCNT := Lib.hid (fun W => refCount_any (e : Int) W (by omega) (by omega))
  rw [show (e : Int).toNat = e by omega] at HCNT
  have HM := Lib.hid (Tr2.new (N := lenP n) (c := c) (e := (e : Int)) hr)
  have s1 : (bs (numB n)).size ≤ 10 := by rw [bs_size]; exact numB_ten (by omega)
  have s2 : (bs (numB e)).size ≤ 10 := by rw [bs_size]; exact numB_ten (by omega)
  have HJ := Lib.hid (show bs (numB n) ++ bs (numB e) = bs (rosB n e) by unfold rosB; simp only [bs_append])
  generalize bs (numB n) = A1 at HNUM HJ s1
  generalize bs (numB e) = A2 at HCNT HJ s2
  have u1 : ∀ W, (Op.stringOp .add A1 A2).run Tryd.prog W = .ok (.string (A1 ++ A2)) W := fun W => run_string_add_sum W _ _ (by omega)
  unfold docV at HSET ⊢
  clear hr hn he s1 s2
  generalize lenP n = N at HSET HM ⊢
  generalize lstP n = L at HSET HM
  go_enter Tryd.func21, Tryd.ntmps21
  go_upto_region 1 with (fail)
  generalize w.alloc (.cells #[.slice a N c, .int .i64 (e : Int)] 30) = W0 at HM ⊢
  generalize w.heap.size = X at HM ⊢
  · refine wp_region_c18 (C := fun W => Tr2 w X a N c (e : Int) L W) (by kernel_rfl) (by kernel_rfl) (HM.out.keep (Below.refl _ _).drew) ?_
    repeat
      (refine wpQuiet_step (fun K hK => ?_)
       go_simp
       first
         | (refine hK _ ?_; clear hK K)
         | (apply Exists.intro
            refine ⟨fun W hW => ?_, hK _ ?_⟩
            (first
              | (go_at_call 43; exact (HSET.out W hW.row).mono fun r W' h => ⟨h.1, hW.keep h.2⟩)
              | (go_at_call 42; exact (HNUM.out W).mono fun r W' h => ⟨h.1, hW.keep h.2⟩)
              | (go_at_call 37; exact (HCNT.out W).mono fun r W' h => ⟨h.1, hW.keep h.2⟩)
              | (have y0 := hW.c.1; have y1 := hW.c.2; clear hW; go_simp; first | exact ⟨rfl, rfl⟩ | exact rfl | trivial))
            clear hK K))
    refine wpQuiet_nil ?_
    intro W1 hW1
    have HBZ := Lib.hid hW1.bel
    clear hW1 HM HSET HNUM HCNT u1
    rw [HJ.out]
    go_wp2
    go_ret
    exact ⟨rfl, HBZ.out⟩
end Go.Proofs.YtcbadcbnknmdnaaDoor
