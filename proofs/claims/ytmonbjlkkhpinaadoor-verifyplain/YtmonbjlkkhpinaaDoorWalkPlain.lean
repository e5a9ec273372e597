/-
  The walk of the law VerifyPlain.
-/
import Derived.Test.YtmonbjlkkhpinaaDoorPlainMem
namespace Go.Proofs.YtmonbjlkkhpinaaDoor
open Go.RowKit
set_option linter.unusedVariables false

theorem and255 (a : Int) : ∃ k : Nat, k ≤ 255 ∧ bits .and .i64 a 255 = (k : Int) := by
  refine ⟨(BitVec.ofInt 64 a &&& BitVec.ofInt 64 255).toNat, ?_, ?_⟩
  · rw [BitVec.toNat_and]
    exact Nat.and_le_right
  · have h : (BitVec.ofInt 64 a &&& BitVec.ofInt 64 255).toNat ≤ 255 := by rw [BitVec.toNat_and]; exact Nat.and_le_right
    show IntKind.i64.wrap ((BitVec.ofInt 64 a &&& BitVec.ofInt 64 255).toNat : Int) = _
    rw [IntKind.wrap_i64]
    omega
/-- The code that is being made, as a row of its own. -/
structure PlAt (w : World) (l : List (Nat × Int)) (a : Option Addr) (c : Nat) (wr : World) : Prop where
  row : wr.ownsRow 0 47 2 (.slice a l.length c) l.length (codeCells l)
  own : ∀ k, (Value.slice a l.length c).ownBlock = some k → w.heap.size ≤ k
  bel : Below w.heap.size w wr
theorem PlAt.below {w : World} {l : List (Nat × Int)} {a : Option Addr} {c : Nat} {wr w' : World} (h : PlAt w l a c wr) (hb : Below wr.heap.size wr w') : PlAt w l a c w' := ⟨own_touch h.row (touch_of_below (S := fun _ => False) hb) (fun _ _ => id), h.own, h.bel.trans (hb.mono h.bel.size)⟩
theorem PlAt.push {w : World} {l : List (Nat × Int)} {a : Option Addr} {c : Nat} {w4 : World} (h : PlAt w l a c w4) (op : Nat) (ag : Int) (hl : l.length ≤ 1000) :
    ∃ a5 c5 w5, (Builtin.append_ #[27, 27] 27 #[.slice a l.length c, .slice (some ⟨w4.heap.size, 0, none⟩) 1 1]).run Tryd.prog (w4.alloc (.cells #[.int .u8 op, .int .i64 ag] 47)) = .ok (.slice a5 (l.length + 1) c5) w5 ∧ PlAt w (l ++ [(op, ag)]) a5 c5 w5 := by
  obtain ⟨v5, w5, hrun, ho5, hg5, hf5⟩ := code_append (h.row.alloc (.cells #[.int .u8 op, .int .i64 ag] 47)) (some ⟨w4.heap.size, 0, none⟩) 1 (InsRow.lit w4 [(op, ag)] _ _ rfl) (fun h => by cases h) (by simp; omega)
  obtain ⟨a5, c5, rfl⟩ := own_slice ho5
  have ht5 : Touch (fun k => (Value.slice a l.length c).ownBlock = some k) w4 w5 := ((Touch.refl _ w4).alloc _).trans (touch_grown hg5)
  have hll : (l ++ [(op, ag)]).length = l.length + 1 := by simp
  have hz := h.bel.size
  refine ⟨a5, c5, w5, hrun, by rw [hll]; exact ho5, ?_, h.bel.trans (ht5.below (by omega) (fun k hk e => by have := h.own k e; omega))⟩
  rw [hll]
  intro k hk
  rcases hf5 k hk with h' | h'
  · exact h.own k h'
  · simp at h'; omega
theorem PlAt.start {w w1 : World} (h : Below w.heap.size w w1) : PlAt w [] none 0 w1 := ⟨⟨rfl, .inl ⟨rfl, rfl⟩⟩, fun k hk => by simp [Value.ownBlock] at hk, h⟩
theorem rep_next (n : Nat) (x : Nat × Int) (l : List (Nat × Int)) : l ++ List.replicate n x ++ [x] = l ++ List.replicate (n + 1) x := by
  rw [List.append_assoc, List.replicate_succ']
set_option maxHeartbeats 4000000 in
set_option maxRecDepth 100000 in
theorem verifyPlain_walk (n p : Int) (w : World) (hH : HostsAt w) :
    Calls Tryd.prog 10 #[.int .i64 n, .int .i64 p] w fun e w' => e = .returned (.bool true) ∧ Below w.heap.size w w' := by
  have HH := Lib.hid hH
  have HAW := Lib.hid (awake4_any w hH)
  clear hH
  obtain ⟨kn, hkn, en⟩ := and255 n
  obtain ⟨kp, hkp, ep⟩ := and255 p
  go_enter Tryd.func10, Tryd.ntmps10
  go_wp2_with fail
  refine HAW.out.mono ?_
  rintro e w1 ⟨rfl, hb1⟩
  have HB1 := Lib.hid hb1
  have HH1 := Lib.hid (HH.out.below hb1)
  clear hb1 HAW
  go_wp2_with fail
  have eN : (1 + (kn : Int) % 80) = ((1 + kn % 80 : Nat) : Int) := by omega
  have hN1 : 1 ≤ 1 + kn % 80 := by omega
  have hN2 : 1 + kn % 80 ≤ 80 := by omega
  rw [eN]
  clear eN en
  generalize 1 + kn % 80 = N at hN1 hN2
  have eP : (kp : Int) % ((N : Int) + 2) = ((kp % (N + 2) : Nat) : Int) := by simp
  have hP : kp % (N + 2) ≤ N + 1 := by have := Nat.mod_lt kp (show N + 2 > 0 by omega); omega
  rw [eP]
  clear eP ep
  generalize kp % (N + 2) = P at hP
  have HS := Lib.hid (PlAt.start HB1.out)
  go_loopw [5, 22] (fun o i wr => ∃ (k : Nat) (a : Option Addr) (c : Nat), k ≤ N ∧ i = .int .i64 k ∧ o = .slice a k c ∧ Hid (PlAt w (List.replicate k (1, 1)) a c wr)) (fun _ i _ => N - (intOf i).toNat)
  case atStart => exact ⟨0, none, 0, by omega, rfl, rfl, HS⟩
  case round =>
    obtain ⟨k, a, c, hk, rfl, rfl, HO⟩ := hrel
    by_cases hlt : k < N
    · go_wp2_with fail
      refine (of_lit 1 1 _ wr.heap.size (by simp)).mono ?_
      rintro e w2 ⟨rfl, hb2⟩
      have hO2 := (HO.out.below ((Below.refl _ wr).alloc (Nat.le_refl _) _)).below hb2
      obtain ⟨a5, c5, w5, hr5, hO5⟩ := hO2.push 1 1 (by simp; omega)
      rw [List.length_replicate] at hr5
      have HR5 := Lib.hid hr5
      have HO5 := Lib.hid hO5
      clear hr5 hO5 hO2 hb2
      go_wp2_with (at_builtin; refine wpList_append_run _ rfl (.tmp 24) (.tmp 27) 27 27 rfl _ _ rfl rfl (.slice a5 (k + 1) c5) w5 HR5.out ?_)
      go_roundw
      case rel => exact ⟨k + 1, a5, c5, by omega, by go_num, rfl, Lib.hid (by rw [List.replicate_succ']; exact HO5.out)⟩
      case measure => simp [intOf]; omega
    · obtain rfl : N = k := by omega
      have HS2 : Hid (PlAt w (List.replicate N (1, 1) ++ List.replicate 0 (2, 0)) a c wr) := Lib.hid (by simpa using HO.out)
      go_wp2_with fail
      go_loopw [5, 31] (fun o i wr => ∃ (j : Nat) (a : Option Addr) (c : Nat), j ≤ P ∧ i = .int .i64 j ∧ o = .slice a (N + j) c ∧ Hid (PlAt w (List.replicate N (1, 1) ++ List.replicate j (2, 0)) a c wr)) (fun _ i _ => P - (intOf i).toNat)
      case atStart => exact ⟨0, a, c, by omega, rfl, rfl, HS2⟩
      case round =>
        obtain ⟨j, a', c', hj, rfl, rfl, HQ⟩ := hrel
        have hlj : (List.replicate N ((1, 1) : Nat × Int) ++ List.replicate j (2, 0)).length = N + j := by simp
        by_cases hjl : j < P
        · go_wp2_with fail
          refine (of_none 2 _).mono ?_
          rintro e w2 ⟨rfl, hb2⟩
          obtain ⟨a5, c5, w5, hr5, hO5⟩ := (HQ.out.below hb2).push 2 0 (by rw [hlj]; omega)
          rw [hlj] at hr5
          have HR5 := Lib.hid hr5
          have HO5 := Lib.hid hO5
          clear hr5 hO5 hb2 hlj
          go_wp2_with (at_builtin; refine wpList_append_run _ rfl (.tmp 33) (.tmp 35) 27 27 rfl _ _ rfl rfl (.slice a5 (N + j + 1) c5) w5 HR5.out ?_)
          go_roundw
          case rel => exact ⟨j + 1, a5, c5, by omega, by go_num, rfl, Lib.hid (by rw [← rep_next]; exact HO5.out)⟩
          case measure => simp [intOf]; omega
        · obtain rfl : P = j := by omega
          go_wp2_with fail
          refine (of_none 16 _).mono ?_
          rintro e w2 ⟨rfl, hb2⟩
          obtain ⟨a5, c5, w5, hr5, hO5⟩ := (HQ.out.below hb2).push 16 0 (by rw [hlj]; omega)
          rw [hlj] at hr5
          rw [List.append_assoc] at hO5
          have HR5 := Lib.hid hr5
          have HO5 : Hid (PlAt w (plainC N P) a5 c5 w5) := Lib.hid hO5
          clear hr5 hO5 hb2 hlj
          by_cases hbig : 128 < N + P + 1
          · go_wp2_with (at_builtin; refine wpList_append_run _ rfl (.tmp 38) (.tmp 40) 27 27 rfl _ _ rfl rfl (.slice a5 (N + P + 1) c5) w5 HR5.out ?_)
            go_ret
            exact ⟨rfl, HO5.out.bel⟩
          · go_wp2_with (at_builtin; refine wpList_append_run _ rfl (.tmp 38) (.tmp 40) 27 27 rfl _ _ rfl rfl (.slice a5 (N + P + 1) c5) w5 HR5.out ?_)
            have hCl : (plainC N P).length = N + P + 1 := by simp [plainC]; omega
            have hne : a5 = none → plainC N P = [] := by
              intro h
              rcases HO5.out.row.2 with ⟨-, h0⟩ | ⟨g, cap, cur, hv, -⟩
              · rw [hCl] at h0; omega
              · rw [h] at hv; cases hv
            have HNE := Lib.hid hne
            have HI5 := Lib.hid (InsRow.of_own HO5.out.row)
            have HBA := Lib.hid HO5.out.bel
            clear hne HO HO5 HQ HS HS2 HR5
            refine (plainF_any 1 _).mono ?_
            rintro e w6 ⟨x1, c1, rfl, hr1, hb6⟩
            have HI6 := Lib.hid (HI5.out.below hb6)
            have HR6 := Lib.hid hr1
            have HB6 := Lib.hid (HBA.out.trans (hb6.mono HBA.out.size))
            clear hr1 hb6 HI5 HBA
            go_wp2_with fail
            refine (plainF_any 4 _).mono ?_
            rintro e w7 ⟨x2, c2, rfl, hr2, hb7⟩
            have HI7 := Lib.hid (HI6.out.below hb7)
            have HR7 := Lib.hid (HR6.out.below hb7)
            have HS7 := Lib.hid hr2
            have HB7 := Lib.hid (HB6.out.trans (hb7.mono HB6.out.size))
            clear hr2 hb7 HI6 HR6 HB6
            have hmk := make_any 0 0 a5 c5 (plainC N P) w7 (by rw [hCl]; omega) HI7.out HNE.out
            rw [hCl] at hmk
            have HMK := Lib.hid hmk
            clear hmk
            go_wp2_with fail
            refine HMK.out.mono ?_
            rintro e w8 ⟨x3, c3, rfl, ho8, hf8, hb8⟩
            have HR8 := Lib.hid (HR7.out.below hb8)
            have HS8 := Lib.hid (HS7.out.below hb8)
            have HT8 := Lib.hid (InsRow.of_own ho8)
            have HB8 := Lib.hid (HB7.out.trans (hb8.mono HB7.out.size))
            have hz8 := HB8.out.size
            have HH8 := Lib.hid (HH.out.below HB8.out)
            clear ho8 hf8 hb8 HR7 HS7 HI7 HB7 HMK HNE
            have hf8 := FnRow.lit3 w8 ⟨1, 1, load0⟩ ⟨4, 4, load0⟩ ⟨0, 0, plainC N P⟩ x1 c1 x2 c2 x3 c3 29 HR8.out HS8.out HT8.out
            simp only [hCl] at hf8
            simp only [hCl]
            have HF8 := Lib.hid hf8
            clear hf8 hCl
            have HCK := check_any (some ⟨w8.heap.size, 0, none⟩) 3 (plainM N P) _ (plain_ok N P (by omega)) HF8.out (HH8.out.below ((Below.refl _ _).alloc (Nat.le_refl _) _))
            obtain ⟨xf, hx⟩ := plainM_check N P (by omega)
            by_cases hg : N ≤ 64 ∧ N = P + 1
            · rw [hx, if_pos hg] at HCK
              have HCK := Lib.hid HCK
              have HG := Lib.hid hg
              clear hx hg
              go_wp2_with fail
              refine HCK.out.mono ?_
              rintro e w9 ⟨rfl, hb9⟩
              have HB9 := Lib.hid (show Below w.heap.size w w9 from (HB8.out.alloc hz8 _).trans (hb9.mono (by simp; omega)))
              have hz9 := HB9.out.size
              clear hb9 HCK HF8 HB8 HR8 HS8 HT8
              simp only
              have g1 : decide ((N : Int) ≤ 64) = true := decide_eq_true (by have := HG.out.1; omega)
              have g2 : (((N : Int) - (P : Int)) == 1) = true := by have := HG.out.2; simp; omega
              go_wp2
              go_ret
              exact ⟨rfl, HB9.out.alloc hz9 _⟩
            · rw [hx, if_neg hg] at HCK
              have HCK := Lib.hid HCK
              have HG := Lib.hid hg
              clear hx hg
              go_wp2_with fail
              refine HCK.out.mono ?_
              rintro e w9 ⟨rfl, hb9⟩
              have HB9 := Lib.hid (show Below w.heap.size w w9 from (HB8.out.alloc hz8 _).trans (hb9.mono (by simp; omega)))
              have hz9 := HB9.out.size
              clear hb9 HCK HF8 HB8 HR8 HS8 HT8
              simp only
              by_cases hn : N ≤ 64
              · have g1 : decide ((N : Int) ≤ 64) = true := decide_eq_true (by omega)
                have g2 : (((N : Int) - (P : Int)) == 1) = false := by have := HG.out; simp; omega
                go_wp2
                go_ret
                exact ⟨rfl, HB9.out.alloc hz9 _⟩
              · have g1 : decide ((N : Int) ≤ 64) = false := decide_eq_false (by omega)
                go_wp2
                go_ret
                exact ⟨rfl, HB9.out.alloc hz9 _⟩
end Go.Proofs.YtmonbjlkkhpinaaDoor
