/-
  The walk of the law RosterBack.
-/
import Derived.Test.YtclecalhbmpipaaRos9
import Derived.Deep.RegionHeld3
import Derived.Deep.RegionHeld
import Derived.Deep.RegionLaw
namespace Go.Proofs.Ytclecalhbmpipaa
open Go.RowKit
set_option linter.unusedVariables false

/-- A list that came in, cut where it is longer than forty. -/
theorem arg40 {w : World} {a : Option Addr} {len cap : Nat} {ns : List Int} (h : NumArg .i64 w a len cap ns) : ∃ l : List Int, l.length ≤ 40 ∧ IntRow .i64 w a l ∧ ((40 < len ∧ l.length = 40) ∨ (len ≤ 40 ∧ l.length = len)) := by
  obtain ⟨rfl, h1, h2, h3, h4, -, h5⟩ := h
  by_cases hl : 40 < ns.length
  · exact ⟨ns.take 40, by simp; omega, h4.take 40, .inl ⟨hl, by simp; omega⟩⟩
  · exact ⟨ns, by omega, h4, .inr ⟨by omega, rfl⟩⟩
theorem and18 (a : Int) : ∃ k : Nat, k ≤ 255 ∧ bits .and .i64 a 255 = (k : Int) := by
  have h1 : ((BitVec.ofInt 64 a) &&& (BitVec.ofInt 64 255)).toNat ≤ 255 := by
    rw [BitVec.toNat_and]
    exact Nat.and_le_right
  refine ⟨((BitVec.ofInt 64 a) &&& (BitVec.ofInt 64 255)).toNat, h1, ?_⟩
  show IntKind.i64.wrap (((BitVec.ofInt 64 a) &&& (BitVec.ofInt 64 255)).toNat : Int) = _
  rw [IntKind.wrap_i64]
  omega
theorem join_leave {n : Nat} {q : Int} (h1 : 1 ≤ q) (h2 : q < 32) (hh : hasP n q = false) : withP n 0 [⟨1, q, []⟩, ⟨2, q, []⟩] = (n, 2, 0) ∧ withP n 0 [⟨1, q, []⟩, ⟨1, q, []⟩] = (n, 0, 10) := by
  have e1 : chk n ⟨1, q, []⟩ = 0 := by
    simp only [chk]
    rw [if_neg (by omega), if_neg (by simp; omega), if_pos trivial, hh]; rfl
  have hx : hasP (doP n ⟨1, q, []⟩) q = true := by
    unfold doP
    rw [has_xor n (by omega) h2, if_pos rfl, hh]; rfl
  have e2 : chk (doP n ⟨1, q, []⟩) ⟨2, q, []⟩ = 0 := by
    simp only [chk]
    rw [if_neg (by omega), if_neg (by simp; omega), if_neg (by decide), hx]; rfl
  have e3 : chk (doP n ⟨1, q, []⟩) ⟨1, q, []⟩ = 10 := by
    simp only [chk]
    rw [if_neg (by omega), if_neg (by simp; omega), if_pos trivial, hx]; rfl
  have e4 : doP (doP n ⟨1, q, []⟩) ⟨2, q, []⟩ = n := by
    unfold doP
    simp only
    rw [Nat.xor_assoc, Nat.xor_self, Nat.xor_zero]
  constructor
  · simp only [withP, runP, e1, e2, e4, if_true]; rfl
  · simp only [withP, runP, e1, e3, if_true]; rfl
theorem leave_join {n : Nat} {q : Int} (h1 : 1 ≤ q) (h2 : q < 32) (hh : hasP n q = true) : withP n 0 [⟨2, q, []⟩, ⟨1, q, []⟩] = (n, 2, 0) ∧ withP n 0 [⟨2, q, []⟩, ⟨2, q, []⟩] = (n, 0, 13) := by
  have e1 : chk n ⟨2, q, []⟩ = 0 := by
    simp only [chk]
    rw [if_neg (by omega), if_neg (by simp; omega), if_neg (by decide), hh]; rfl
  have hx : hasP (doP n ⟨2, q, []⟩) q = false := by
    unfold doP
    rw [has_xor n (by omega) h2, if_pos rfl, hh]; rfl
  have e2 : chk (doP n ⟨2, q, []⟩) ⟨1, q, []⟩ = 0 := by
    simp only [chk]
    rw [if_neg (by omega), if_neg (by simp; omega), if_pos trivial, hx]; rfl
  have e3 : chk (doP n ⟨2, q, []⟩) ⟨2, q, []⟩ = 13 := by
    simp only [chk]
    rw [if_neg (by omega), if_neg (by simp; omega), if_neg (by decide), if_pos hx]
  have e4 : doP (doP n ⟨2, q, []⟩) ⟨1, q, []⟩ = n := by
    unfold doP
    simp only
    rw [Nat.xor_assoc, Nat.xor_self, Nat.xor_zero]
  constructor
  · simp only [withP, runP, e1, e2, e4, if_true]; rfl
  · simp only [withP, runP, e1, e3, if_true]; rfl
/-- The law's memory: the roster's box, and two changes' boxes. -/
structure BkM (w : World) (R n : Nat) (k1 k2 q : Int) (W : World) : Prop where
  r0 : W.cell? ⟨R, 0, none⟩ = some (.int .u32 (n : Int))
  r1 : W.cell? ⟨R, 1, none⟩ = some (.int .i64 0)
  a0 : W.cell? ⟨R + 1, 0, none⟩ = some (.int .i64 k1)
  a1 : W.cell? ⟨R + 1, 1, none⟩ = some (.int .i64 q)
  a2 : W.cell? ⟨R + 1, 2, none⟩ = some (.slice none 0 0)
  b0 : W.cell? ⟨R + 2, 0, none⟩ = some (.int .i64 k2)
  b1 : W.cell? ⟨R + 2, 1, none⟩ = some (.int .i64 q)
  b2 : W.cell? ⟨R + 2, 2, none⟩ = some (.slice none 0 0)
  fr : ∀ b j, R ≤ b → b ≤ R + 2 → W.frozen? ⟨b, j, none⟩ = false
  le : w.heap.size ≤ R
  bel : Below w.heap.size w W
theorem BkM.lt {w : World} {R n : Nat} {k1 k2 q : Int} {W : World} (h : BkM w R n k1 k2 q W) : R + 2 < W.heap.size := block_lt_of_cell h.b0
theorem BkM.keep {w : World} {R n : Nat} {k1 k2 q : Int} {W W' : World} (h : BkM w R n k1 k2 q W) (hb : Below W.heap.size W W') : BkM w R n k1 k2 q W' := by
  have hl := h.lt
  have hc : ∀ b j, b ≤ R + 2 → W'.cell? ⟨b, j, none⟩ = W.cell? ⟨b, j, none⟩ := fun b j hb2 => hb.cell (p := ⟨b, j, none⟩) (show b < W.heap.size by omega)
  exact ⟨(hc _ _ (by omega)).trans h.r0, (hc _ _ (by omega)).trans h.r1, (hc _ _ (by omega)).trans h.a0, (hc _ _ (by omega)).trans h.a1, (hc _ _ (by omega)).trans h.a2, (hc _ _ (by omega)).trans h.b0, (hc _ _ (by omega)).trans h.b1, (hc _ _ (by omega)).trans h.b2, fun b j h1 h2 => (hb.frozen (p := ⟨b, j, none⟩) (show b < W.heap.size by omega)).trans (h.fr b j h1 h2), h.le, h.bel.trans (hb.mono h.bel.size)⟩
theorem BkM.new {w W : World} (hb : Below w.heap.size w W) (n : Nat) (q : Int) : BkM w W.heap.size n 1 2 q (((W.alloc (.cells #[.int .u32 (n : Int), .int .i64 0] 26)).alloc (.cells #[.int .i64 1, .int .i64 q, .slice none 0 0] 29)).alloc (.cells #[.int .i64 2, .int .i64 q, .slice none 0 0] 29)) := by
  have e1 : (W.alloc (.cells #[.int .u32 (n : Int), .int .i64 0] 26)).heap.size = W.heap.size + 1 := by simp
  have e2 : ((W.alloc (.cells #[.int .u32 (n : Int), .int .i64 0] 26)).alloc (.cells #[.int .i64 1, .int .i64 q, .slice none 0 0] 29)).heap.size = W.heap.size + 2 := by simp
  refine ⟨alloc_cell (alloc_cell (new_cell rfl rfl) _) _, alloc_cell (alloc_cell (new_cell rfl rfl) _) _, alloc_cell (new_cell e1.symm rfl) _, alloc_cell (new_cell e1.symm rfl) _, alloc_cell (new_cell e1.symm rfl) _, new_cell e2.symm rfl, new_cell e2.symm rfl, new_cell e2.symm rfl, fun b j h1 h2 => ?_, hb.size, bel_alloc (bel_alloc (bel_alloc hb _) _) _⟩
  by_cases h3 : b = W.heap.size + 2
  · subst h3
    rw [← e2]; exact frozen_new _ _ _ _
  · rw [frozen_old _ _ ⟨b, j, none⟩ (by simp; omega)]
    by_cases h4 : b = W.heap.size + 1
    · subst h4
      rw [← e1]; exact frozen_new _ _ _ _
    · obtain rfl : b = W.heap.size := by omega
      rw [frozen_old _ _ ⟨W.heap.size, j, none⟩ (by simp)]
      exact frozen_new _ _ _ _
theorem setc_ne {W : World} {b j b' j' : Nat} {v u : Value} (h : b' ≠ b ∨ j' ≠ j) (hc : W.cell? ⟨b', j', none⟩ = some u) : (W.setCell ⟨b, j, none⟩ v).cell? ⟨b', j', none⟩ = some u := by
  rw [World.cell?_setCell_other _ _ _ _ (by simp; omega)]; exact hc
theorem setc_ex {W : World} {b j b' j' : Nat} {v : Value} (h : ∃ u, W.cell? ⟨b', j', none⟩ = some u) : ∃ u, (W.setCell ⟨b, j, none⟩ v).cell? ⟨b', j', none⟩ = some u := by
  obtain ⟨u, hu⟩ := h
  by_cases e : b' = b ∧ j' = j
  · obtain ⟨rfl, rfl⟩ := e
    exact ⟨v, World.cell?_setCell_same' _ _ _ (by rw [hu]; rfl)⟩
  · exact ⟨u, setc_ne (by omega) hu⟩
theorem setc_eq {W : World} {b j : Nat} {v : Value} (h : ∃ u, W.cell? ⟨b, j, none⟩ = some u) : (W.setCell ⟨b, j, none⟩ v).cell? ⟨b, j, none⟩ = some v := by
  obtain ⟨u, hc⟩ := h
  exact World.cell?_setCell_same' _ _ _ (by rw [hc]; rfl)
theorem keep4r {w w' : World} {p q r s : Addr} {a b c d : Value} (hb : Below w.heap.size w w') (h : w.cell? p = some a ∧ w.cell? q = some b ∧ w.cell? r = some c ∧ w.cell? s = some d) : w'.cell? p = some a ∧ w'.cell? q = some b ∧ w'.cell? r = some c ∧ w'.cell? s = some d :=
  ⟨(hb.cell (block_lt_of_cell h.1)).trans h.1, (hb.cell (block_lt_of_cell h.2.1)).trans h.2.1, (hb.cell (block_lt_of_cell h.2.2.1)).trans h.2.2.1, (hb.cell (block_lt_of_cell h.2.2.2)).trans h.2.2.2⟩
theorem BkM.set {w : World} {R n : Nat} {k1 k2 q : Int} {W : World} (h : BkM w R n k1 k2 q W) : BkM w R n k2 k1 q ((((((W.setCell ⟨R + 1, 0, none⟩ (.int .i64 k2)).setCell ⟨R + 1, 1, none⟩ (.int .i64 q)).setCell ⟨R + 1, 2, none⟩ (.slice none 0 0)).setCell ⟨R + 2, 0, none⟩ (.int .i64 k1)).setCell ⟨R + 2, 1, none⟩ (.int .i64 q)).setCell ⟨R + 2, 2, none⟩ (.slice none 0 0)) := by
  have hle := h.le
  refine ⟨?_, ?_, ?_, ?_, ?_, ?_, ?_, ?_, fun b j h1 h2 => by simp only [World.frozen?_setCell]; exact h.fr b j h1 h2, h.le, ?_⟩
  · repeat (first | refine setc_ne (by first | exact .inl (by omega) | exact .inr (by decide)) ?_ | refine setc_eq ?_ | refine setc_ex ?_ | with_reducible exact ⟨_, h.r0⟩ | with_reducible exact h.r0)
  · repeat (first | refine setc_ne (by first | exact .inl (by omega) | exact .inr (by decide)) ?_ | refine setc_eq ?_ | refine setc_ex ?_ | with_reducible exact ⟨_, h.r1⟩ | with_reducible exact h.r1)
  · repeat (first | refine setc_ne (by first | exact .inl (by omega) | exact .inr (by decide)) ?_ | refine setc_eq ?_ | refine setc_ex ?_ | with_reducible exact ⟨_, h.a0⟩ | with_reducible exact h.a0)
  · repeat (first | refine setc_ne (by first | exact .inl (by omega) | exact .inr (by decide)) ?_ | refine setc_eq ?_ | refine setc_ex ?_ | with_reducible exact ⟨_, h.a1⟩ | with_reducible exact h.a1)
  · repeat (first | refine setc_ne (by first | exact .inl (by omega) | exact .inr (by decide)) ?_ | refine setc_eq ?_ | refine setc_ex ?_ | with_reducible exact ⟨_, h.a2⟩ | with_reducible exact h.a2)
  · repeat (first | refine setc_ne (by first | exact .inl (by omega) | exact .inr (by decide)) ?_ | refine setc_eq ?_ | refine setc_ex ?_ | with_reducible exact ⟨_, h.b0⟩ | with_reducible exact h.b0)
  · repeat (first | refine setc_ne (by first | exact .inl (by omega) | exact .inr (by decide)) ?_ | refine setc_eq ?_ | refine setc_ex ?_ | with_reducible exact ⟨_, h.b1⟩ | with_reducible exact h.b1)
  · repeat (first | refine setc_ne (by first | exact .inl (by omega) | exact .inr (by decide)) ?_ | refine setc_eq ?_ | refine setc_ex ?_ | with_reducible exact ⟨_, h.b2⟩ | with_reducible exact h.b2)
  · repeat (first | refine Below.setCell ?_ (by simp; omega) _ | with_reducible exact h.bel)
set_option maxRecDepth 100000 in
set_option maxHeartbeats 8000000 in
theorem rosterBack_walk (w : World) (a : Option Addr) (len cap : Nat) (ns : List Int) (h : NumArg .i64 w a len cap ns) (x : Int) : Calls Try.prog 3 #[.slice a len cap, .int .i64 x] w fun r w' => r = .returned (.bool true) ∧ Below w.heap.size w w' := by
  have hc1 : len ≤ cap := h.2.2.1
  have hc2 : cap ≤ maxLen := h.2.2.2.1
  unfold maxLen at hc2
  obtain ⟨l, hl, hrow, hlen⟩ := arg40 h
  clear h
  obtain ⟨k, hk, hand⟩ := and18 x
  obtain ⟨q, hq1, hq2, hq⟩ : ∃ q : Int, 1 ≤ q ∧ q < 32 ∧ 1 + (k : Int) % 31 = q := ⟨_, by omega, by omega, rfl⟩
  have HQE := Lib.hid hq
  have HOF := Lib.hid (fun W (hW : Below w.heap.size w W) c => rof_any a c l W (hrow.below hW) (by omega))
  have HN := Lib.hid (ofP_lt l)
  have HQ := Lib.hid (⟨hq1, hq2⟩ : 1 ≤ q ∧ q < 32)
  clear hrow hq hq1 hq2
  unfold rosV at HOF
  generalize ofP l = n at HOF HN
  have HAW := Lib.hid (awake18_any w)
  have HHAS := Lib.hid (fun W => rhas_any n 0 q W HN.out)
  unfold rosV at HHAS
  have HCASE : ∃ (b : Bool) (k1 k2 z : Int), Hid (hasP n q = b ∧ (b = false ∧ k1 = 1 ∧ k2 = 2 ∨ b = true ∧ k1 = 2 ∧ k2 = 1) ∧ withP n 0 [⟨k1, q, []⟩, ⟨k2, q, []⟩] = (n, 2, 0) ∧ withP n 0 [⟨k1, q, []⟩, ⟨k1, q, []⟩] = (n, 0, z) ∧ (z = 10 ∨ z = 13)) := by
    cases hh : hasP n q with
    | false => exact ⟨false, 1, 2, 10, Lib.hid ⟨rfl, .inl ⟨rfl, rfl, rfl⟩, (join_leave HQ.out.1 HQ.out.2 hh).1, (join_leave HQ.out.1 HQ.out.2 hh).2, .inl rfl⟩⟩
    | true => exact ⟨true, 2, 1, 13, Lib.hid ⟨rfl, .inr ⟨rfl, rfl, rfl⟩, (leave_join HQ.out.1 HQ.out.2 hh).1, (leave_join HQ.out.1 HQ.out.2 hh).2, .inr rfl⟩⟩
  obtain ⟨b, k1, k2, z, HC⟩ := HCASE
  rw [HC.out.1] at HHAS
  have HWI := Lib.hid (fun (ka kb : Int) (W : World) (a9 : Option Addr) (h : VRow 3 W a9 [[.int .i64 ka, .int .i64 q, .slice none 0 0], [.int .i64 kb, .int .i64 q, .slice none 0 0]]) => rwith_any n 0 a9 2 _ [⟨ka, q, []⟩, ⟨kb, q, []⟩] W HN.out (by decide) h ⟨rfl, fun i h1 h2 => by
    match i, h1 with
    | 0, _ => exact ⟨none, 0, rfl, none, 0, rfl, Nat.le_refl _, by unfold maxLen; omega, fun h => by simp at h, fun _ => rfl⟩
    | 1, _ => exact ⟨none, 0, rfl, none, 0, rfl, Nat.le_refl _, by unfold maxLen; omega, fun h => by simp at h, fun _ => rfl⟩⟩ ⟨by simp, fun c hc => by
      simp only [List.mem_cons, List.not_mem_nil, or_false] at hc
      rcases hc with rfl | rfl <;> simp⟩ 2 rfl)
  have HW1 := Lib.hid (HWI.out k1 k2)
  have HW2 := Lib.hid (HWI.out k1 k1)
  clear HWI
  unfold WithPost at HW1 HW2
  rw [HC.out.2.2.1] at HW1
  rw [HC.out.2.2.2.1] at HW2
  simp only at HW1 HW2
  unfold rosV at HW1 HW2
  rcases hlen with ⟨hlen, hlen2⟩ | ⟨hlen, hlen2⟩
  all_goals
    rw [hlen2] at HOF
    have hi1 : ((len : Nat) : Int) ≤ 40 ∨ (40 : Int) < ((len : Nat) : Int) := by omega
    go_enter Try.func3, Try.ntmps3
    go_wp2_with fail
    refine HAW.out.mono ?_
    rintro r w1 ⟨rfl, hb1⟩
    go_wp2_with fail
    refine (HOF.out _ hb1 _).mono ?_
    rintro r w2 ⟨rfl, hb2⟩
    dsimp only
    rw [HQE.out]
    have HB2 := Lib.hid (hb1.trans (hb2.mono hb1.size))
    have HM := Lib.hid (BkM.new HB2.out n q)
    clear hb1 hb2 hi1
    go_wp2_with fail
    have hsz : (((w2.alloc (.cells #[.int .u32 (n : Int), .int .i64 0] 26)).alloc (.cells #[.int .i64 1, .int .i64 q, .slice none 0 0] 29)).alloc (.cells #[.int .i64 2, .int .i64 q, .slice none 0 0] 29)).heap.size = w2.heap.size + 3 := by simp
    generalize ((w2.alloc (.cells #[.int .u32 (n : Int), .int .i64 0] 26)).alloc (.cells #[.int .i64 1, .int .i64 q, .slice none 0 0] 29)).alloc (.cells #[.int .i64 2, .int .i64 q, .slice none 0 0] 29) = W3 at HM hsz ⊢
    generalize w2.heap.size = R at HM hsz ⊢
    clear HB2
    refine (HHAS.out _).mono ?_
    rintro r w4 ⟨rfl, hb4⟩
    have HM := Lib.hid (HM.out.keep hb4)
    clear hb4 hsz
    have HS := Lib.hid HM.out.set
    have r0 := HM.out.r0
    have r1 := HM.out.r1
    have a0 := HM.out.a0
    have a1 := HM.out.a1
    have a2 := HM.out.a2
    have b0 := HM.out.b0
    have b1 := HM.out.b1
    have b2 := HM.out.b2
    have hlt := HM.out.lt
    have fa0 := HM.out.fr (R + 1) 0 (by omega) (by omega)
    have fa1 := HM.out.fr (R + 1) 1 (by omega) (by omega)
    have fa2 := HM.out.fr (R + 1) 2 (by omega) (by omega)
    have fb0 := HM.out.fr (R + 2) 0 (by omega) (by omega)
    have fb1 := HM.out.fr (R + 2) 1 (by omega) (by omega)
    have fb2 := HM.out.fr (R + 2) 2 (by omega) (by omega)
    rcases HC.out.2.1 with ⟨hb, hk1, hk2⟩ | ⟨hb, hk1, hk2⟩
    · subst hb
      subst hk1
      subst hk2
      dsimp only
      go_wp2_with fail
      have hsz5 : w4.heap.size = w4.heap.size := rfl
      have HMM : Hid (BkM w R n 1 2 q w4) := Lib.hid HM.out
      clear r0 r1 a0 a1 a2 b0 b1 b2 fa0 fa1 fa2 fb0 fb1 fb2 hlt
      clear HM HS HHAS
      have hlt5 := HMM.out.lt
      have HBA := Lib.hid (bel_alloc (Below.refl _ w4) (.cells #[.int .i64 1, .int .i64 q, .slice none 0 0, .int .i64 2, .int .i64 q, .slice none 0 0] 29))
      refine (HW1.out _ _ (vrow_new18 w4 _ 3 [[.int .i64 1, .int .i64 q, .slice none 0 0], [.int .i64 2, .int .i64 q, .slice none 0 0]] (fun x hx => by
        simp only [List.mem_cons, List.not_mem_nil, or_false] at hx
        rcases hx with rfl | rfl
        all_goals
          refine ⟨rfl, fun u hu => ?_⟩
          simp only [List.mem_cons, List.not_mem_nil, or_false] at hu
          rcases hu with rfl | rfl | rfl <;> rfl) _ rfl _ hsz5.symm)).mono ?_
      rintro r w6 ⟨rfl, hb6⟩
      dsimp only
      have HM6 := Lib.hid (HMM.out.keep (HBA.out.trans (hb6.mono HBA.out.size)))
      clear hb6 HBA HMM hlt5 hsz5 HW1
      have r0 := HM6.out.r0
      have r1 := HM6.out.r1
      have a0 := HM6.out.a0
      have a1 := HM6.out.a1
      have a2 := HM6.out.a2
      have hlt := HM6.out.lt
      have hr1 : R < w6.heap.size := by omega
      have hr2 : R + 1 < w6.heap.size := by omega
      go_wp2_with fail
      have HM7 := Lib.hid (HM6.out.keep (bel_alloc (bel_alloc (Below.refl _ w6) (.cells #[.int .u32 (n : Int), .int .i64 2] 26)) (.cells #[.int .i64 1, .int .i64 q, .slice none 0 0, .int .i64 1, .int .i64 q, .slice none 0 0] 29)))
      have s0 : ((w6.alloc (.cells #[.int .u32 (n : Int), .int .i64 2] 26)).alloc (.cells #[.int .i64 1, .int .i64 q, .slice none 0 0, .int .i64 1, .int .i64 q, .slice none 0 0] 29)).cell? ⟨w6.heap.size, 0, none⟩ = some (.int .u32 (n : Int)) := alloc_cell (new_cell rfl rfl) _
      have s1 : ((w6.alloc (.cells #[.int .u32 (n : Int), .int .i64 2] 26)).alloc (.cells #[.int .i64 1, .int .i64 q, .slice none 0 0, .int .i64 1, .int .i64 q, .slice none 0 0] 29)).cell? ⟨w6.heap.size, 1, none⟩ = some (.int .i64 2) := alloc_cell (new_cell rfl rfl) _
      have hv := vrow_new18 (w6.alloc (.cells #[.int .u32 (n : Int), .int .i64 2] 26)) 29 3 [[.int .i64 1, .int .i64 q, .slice none 0 0], [.int .i64 1, .int .i64 q, .slice none 0 0]] (fun x hx => by
        simp only [List.mem_cons, List.not_mem_nil, or_false] at hx
        rcases hx with rfl | rfl
        all_goals
          refine ⟨rfl, fun u hu => ?_⟩
          simp only [List.mem_cons, List.not_mem_nil, or_false] at hu
          rcases hu with rfl | rfl | rfl <;> rfl) _ rfl (w6.heap.size + 1) (by simp)
      have hv : VRow 3 ((w6.alloc (.cells #[.int .u32 (n : Int), .int .i64 2] 26)).alloc (.cells #[.int .i64 1, .int .i64 q, .slice none 0 0, .int .i64 1, .int .i64 q, .slice none 0 0] 29)) (some ⟨w6.heap.size + 1, 0, none⟩) [[.int .i64 1, .int .i64 q, .slice none 0 0], [.int .i64 1, .int .i64 q, .slice none 0 0]] := hv
      generalize (w6.alloc (.cells #[.int .u32 (n : Int), .int .i64 2] 26)).alloc (.cells #[.int .i64 1, .int .i64 q, .slice none 0 0, .int .i64 1, .int .i64 q, .slice none 0 0] 29) = W7 at HM7 s0 s1 hv ⊢
      refine (HW2.out _ _ hv).mono ?_
      rintro r w8 ⟨rfl, hb8⟩
      dsimp only
      have HM8 := Lib.hid (HM7.out.keep (hb8.trans (bel_alloc (Below.refl _ w8) (.cells #[.int .u32 (n : Int), .int .i64 0] 26) |>.mono hb8.size)))
      have s0 := alloc_cell ((hb8.cell (p := ⟨w6.heap.size, 0, none⟩) (block_lt_of_cell s0)).trans s0) (.cells #[.int .u32 (n : Int), .int .i64 0] 26)
      have s1 := alloc_cell ((hb8.cell (p := ⟨w6.heap.size, 1, none⟩) (block_lt_of_cell s1)).trans s1) (.cells #[.int .u32 (n : Int), .int .i64 0] 26)
      clear hb8 hv HM7 HM6 a0 a1 a2 r0 r1 HW2 hlt hr1 hr2
      have r0 := HM8.out.r0
      have r1 := HM8.out.r1
      have hlt := HM8.out.lt
      have HB := Lib.hid HM8.out.bel
      go_wp2_with fail
      generalize w6.heap.size = S at s0 s1 ⊢
      generalize hW9 : w8.alloc (.cells #[.int .u32 (n : Int), .int .i64 0] 26) = W9 at s0 s1 r0 r1 HB ⊢
      have hR9 := block_lt_of_cell r0
      have hS9 := block_lt_of_cell s0
      simp only at hR9 hS9
      clear hW9 HM8 hlt
      have HALL := Lib.hid (fun e W => rall_any n e W HN.out)
      have HEP := Lib.hid (fun e W => repoch_any n e W)
      have HSM := Lib.hid (fun W => rsame_any n n 2 0 W)
      unfold rosV at HALL HEP HSM
      simp only [show ((n == n) && ((2 : Int) == 0)) = false by simp] at HSM
      have HSA := Lib.hid (fun a b c d W (ha : ActL W (.slice a (lstP n).length c) (lstP n)) (hb : ActL W (.slice b (lstP n).length d) (lstP n)) => by
        obtain ⟨a', c', e1, -, -, h1, -⟩ := ha
        obtain ⟨b', d', e2, -, -, h2, -⟩ := hb
        simp only [Value.slice.injEq, true_and] at e1 e2
        obtain ⟨rfl, rfl⟩ := e1
        obtain ⟨rfl, rfl⟩ := e2
        exact same18_any a b c d (lstP n) W h1 h2 (lenP n) rfl (by have := lstK_len n 32; unfold lstP; omega))
      rcases HC.out.2.2.2.2 with hz | hz
      all_goals
        subst hz
        clear HC
        have HB := Lib.hid HB.out.drew
        first
        | go_region_held (fun w' => w'.cell? ⟨R, 0, none⟩ = some (.int .u32 (n : Int)) ∧ w'.cell? ⟨R, 1, none⟩ = some (.int .i64 0) ∧ w'.cell? ⟨S, 0, none⟩ = some (.int .u32 (n : Int)) ∧ w'.cell? ⟨S, 1, none⟩ = some (.int .i64 2))
          (first | assumption | (refine keep4r hbK ?_; assumption) | exact ⟨r0, r1, s0, s1⟩)
          (first
            | (go_at_call 15; refine (HALL.out _ _).mono ?_; rintro r wK ⟨ax, cx, rfl, HLx, hbK⟩; (first | (have HLb := HLx; have HLa := Lib.hid (HLa.out.below hbK)) | have HLa := HLx); have HB := Lib.hid (HB.out.trans (hbK.mono HB.out.size)))
            | (go_at_call 14; refine (HSA.out _ _ _ _ _ ?_ ?_).mono ?_; (first | exact HLa.out | exact HLb.out); (first | exact HLa.out | exact HLb.out); rintro r wK ⟨rfl, hbK⟩; have HB := Lib.hid (HB.out.trans (hbK.mono HB.out.size)))
            | (go_at_call 16; refine (HEP.out _ _).mono ?_; rintro r wK ⟨rfl, hbK⟩; have HB := Lib.hid (HB.out.trans (hbK.mono HB.out.size)))
            | (go_at_call 17; refine (HSM.out _).mono ?_; rintro r wK ⟨rfl, hbK⟩; have HB := Lib.hid (HB.out.trans (hbK.mono HB.out.size))))
        | fail
        all_goals
          have HBK := Lib.hid HB.out
          go_wp2
          go_ret
          exact ⟨by simp, HBK.out⟩
    · subst hb
      subst hk1
      subst hk2
      dsimp only
      go_wp2_with fail
      rw [show R + 1 + 1 = R + 2 from rfl]
      have hsz5 : ((((((w4.setCell ⟨R + 1, 0, none⟩ (.int .i64 2)).setCell ⟨R + 1, 1, none⟩ (.int .i64 q)).setCell ⟨R + 1, 2, none⟩ (.slice none 0 0)).setCell ⟨R + 2, 0, none⟩ (.int .i64 1)).setCell ⟨R + 2, 1, none⟩ (.int .i64 q)).setCell ⟨R + 2, 2, none⟩ (.slice none 0 0)).heap.size = w4.heap.size := by simp
      have HMM : Hid (BkM w R n 2 1 q _) := Lib.hid HS.out
      clear r0 r1 a0 a1 a2 b0 b1 b2 fa0 fa1 fa2 fb0 fb1 fb2 hlt
      generalize (((((w4.setCell ⟨R + 1, 0, none⟩ (.int .i64 2)).setCell ⟨R + 1, 1, none⟩ (.int .i64 q)).setCell ⟨R + 1, 2, none⟩ (.slice none 0 0)).setCell ⟨R + 2, 0, none⟩ (.int .i64 1)).setCell ⟨R + 2, 1, none⟩ (.int .i64 q)).setCell ⟨R + 2, 2, none⟩ (.slice none 0 0) = W5 at HMM hsz5 ⊢
      clear HM HS HHAS
      have hlt5 := HMM.out.lt
      have HBA := Lib.hid (bel_alloc (Below.refl _ W5) (.cells #[.int .i64 2, .int .i64 q, .slice none 0 0, .int .i64 1, .int .i64 q, .slice none 0 0] 29))
      refine (HW1.out _ _ (vrow_new18 W5 _ 3 [[.int .i64 2, .int .i64 q, .slice none 0 0], [.int .i64 1, .int .i64 q, .slice none 0 0]] (fun x hx => by
        simp only [List.mem_cons, List.not_mem_nil, or_false] at hx
        rcases hx with rfl | rfl
        all_goals
          refine ⟨rfl, fun u hu => ?_⟩
          simp only [List.mem_cons, List.not_mem_nil, or_false] at hu
          rcases hu with rfl | rfl | rfl <;> rfl) _ rfl _ hsz5.symm)).mono ?_
      rintro r w6 ⟨rfl, hb6⟩
      dsimp only
      have HM6 := Lib.hid (HMM.out.keep (HBA.out.trans (hb6.mono HBA.out.size)))
      clear hb6 HBA HMM hlt5 hsz5 HW1
      have r0 := HM6.out.r0
      have r1 := HM6.out.r1
      have a0 := HM6.out.a0
      have a1 := HM6.out.a1
      have a2 := HM6.out.a2
      have hlt := HM6.out.lt
      have hr1 : R < w6.heap.size := by omega
      have hr2 : R + 1 < w6.heap.size := by omega
      go_wp2_with fail
      have HM7 := Lib.hid (HM6.out.keep (bel_alloc (bel_alloc (Below.refl _ w6) (.cells #[.int .u32 (n : Int), .int .i64 2] 26)) (.cells #[.int .i64 2, .int .i64 q, .slice none 0 0, .int .i64 2, .int .i64 q, .slice none 0 0] 29)))
      have s0 : ((w6.alloc (.cells #[.int .u32 (n : Int), .int .i64 2] 26)).alloc (.cells #[.int .i64 2, .int .i64 q, .slice none 0 0, .int .i64 2, .int .i64 q, .slice none 0 0] 29)).cell? ⟨w6.heap.size, 0, none⟩ = some (.int .u32 (n : Int)) := alloc_cell (new_cell rfl rfl) _
      have s1 : ((w6.alloc (.cells #[.int .u32 (n : Int), .int .i64 2] 26)).alloc (.cells #[.int .i64 2, .int .i64 q, .slice none 0 0, .int .i64 2, .int .i64 q, .slice none 0 0] 29)).cell? ⟨w6.heap.size, 1, none⟩ = some (.int .i64 2) := alloc_cell (new_cell rfl rfl) _
      have hv := vrow_new18 (w6.alloc (.cells #[.int .u32 (n : Int), .int .i64 2] 26)) 29 3 [[.int .i64 2, .int .i64 q, .slice none 0 0], [.int .i64 2, .int .i64 q, .slice none 0 0]] (fun x hx => by
        simp only [List.mem_cons, List.not_mem_nil, or_false] at hx
        rcases hx with rfl | rfl
        all_goals
          refine ⟨rfl, fun u hu => ?_⟩
          simp only [List.mem_cons, List.not_mem_nil, or_false] at hu
          rcases hu with rfl | rfl | rfl <;> rfl) _ rfl (w6.heap.size + 1) (by simp)
      have hv : VRow 3 ((w6.alloc (.cells #[.int .u32 (n : Int), .int .i64 2] 26)).alloc (.cells #[.int .i64 2, .int .i64 q, .slice none 0 0, .int .i64 2, .int .i64 q, .slice none 0 0] 29)) (some ⟨w6.heap.size + 1, 0, none⟩) [[.int .i64 2, .int .i64 q, .slice none 0 0], [.int .i64 2, .int .i64 q, .slice none 0 0]] := hv
      generalize (w6.alloc (.cells #[.int .u32 (n : Int), .int .i64 2] 26)).alloc (.cells #[.int .i64 2, .int .i64 q, .slice none 0 0, .int .i64 2, .int .i64 q, .slice none 0 0] 29) = W7 at HM7 s0 s1 hv ⊢
      refine (HW2.out _ _ hv).mono ?_
      rintro r w8 ⟨rfl, hb8⟩
      dsimp only
      have HM8 := Lib.hid (HM7.out.keep (hb8.trans (bel_alloc (Below.refl _ w8) (.cells #[.int .u32 (n : Int), .int .i64 0] 26) |>.mono hb8.size)))
      have s0 := alloc_cell ((hb8.cell (p := ⟨w6.heap.size, 0, none⟩) (block_lt_of_cell s0)).trans s0) (.cells #[.int .u32 (n : Int), .int .i64 0] 26)
      have s1 := alloc_cell ((hb8.cell (p := ⟨w6.heap.size, 1, none⟩) (block_lt_of_cell s1)).trans s1) (.cells #[.int .u32 (n : Int), .int .i64 0] 26)
      clear hb8 hv HM7 HM6 a0 a1 a2 r0 r1 HW2 hlt hr1 hr2
      have r0 := HM8.out.r0
      have r1 := HM8.out.r1
      have hlt := HM8.out.lt
      have HB := Lib.hid HM8.out.bel
      go_wp2_with fail
      generalize w6.heap.size = S at s0 s1 ⊢
      generalize hW9 : w8.alloc (.cells #[.int .u32 (n : Int), .int .i64 0] 26) = W9 at s0 s1 r0 r1 HB ⊢
      have hR9 := block_lt_of_cell r0
      have hS9 := block_lt_of_cell s0
      simp only at hR9 hS9
      clear hW9 HM8 hlt
      have HALL := Lib.hid (fun e W => rall_any n e W HN.out)
      have HEP := Lib.hid (fun e W => repoch_any n e W)
      have HSM := Lib.hid (fun W => rsame_any n n 2 0 W)
      unfold rosV at HALL HEP HSM
      simp only [show ((n == n) && ((2 : Int) == 0)) = false by simp] at HSM
      have HSA := Lib.hid (fun a b c d W (ha : ActL W (.slice a (lstP n).length c) (lstP n)) (hb : ActL W (.slice b (lstP n).length d) (lstP n)) => by
        obtain ⟨a', c', e1, -, -, h1, -⟩ := ha
        obtain ⟨b', d', e2, -, -, h2, -⟩ := hb
        simp only [Value.slice.injEq, true_and] at e1 e2
        obtain ⟨rfl, rfl⟩ := e1
        obtain ⟨rfl, rfl⟩ := e2
        exact same18_any a b c d (lstP n) W h1 h2 (lenP n) rfl (by have := lstK_len n 32; unfold lstP; omega))
      rcases HC.out.2.2.2.2 with hz | hz
      all_goals
        subst hz
        clear HC
        have HB := Lib.hid HB.out.drew
        first
        | go_region_held (fun w' => w'.cell? ⟨R, 0, none⟩ = some (.int .u32 (n : Int)) ∧ w'.cell? ⟨R, 1, none⟩ = some (.int .i64 0) ∧ w'.cell? ⟨S, 0, none⟩ = some (.int .u32 (n : Int)) ∧ w'.cell? ⟨S, 1, none⟩ = some (.int .i64 2))
          (first | assumption | (refine keep4r hbK ?_; assumption) | exact ⟨r0, r1, s0, s1⟩)
          (first
            | (go_at_call 15; refine (HALL.out _ _).mono ?_; rintro r wK ⟨ax, cx, rfl, HLx, hbK⟩; (first | (have HLb := HLx; have HLa := Lib.hid (HLa.out.below hbK)) | have HLa := HLx); have HB := Lib.hid (HB.out.trans (hbK.mono HB.out.size)))
            | (go_at_call 14; refine (HSA.out _ _ _ _ _ ?_ ?_).mono ?_; (first | exact HLa.out | exact HLb.out); (first | exact HLa.out | exact HLb.out); rintro r wK ⟨rfl, hbK⟩; have HB := Lib.hid (HB.out.trans (hbK.mono HB.out.size)))
            | (go_at_call 16; refine (HEP.out _ _).mono ?_; rintro r wK ⟨rfl, hbK⟩; have HB := Lib.hid (HB.out.trans (hbK.mono HB.out.size)))
            | (go_at_call 17; refine (HSM.out _).mono ?_; rintro r wK ⟨rfl, hbK⟩; have HB := Lib.hid (HB.out.trans (hbK.mono HB.out.size))))
        | fail
        all_goals
          have HBK := Lib.hid HB.out
          go_wp2
          go_ret
          exact ⟨by simp, HBK.out⟩
end Go.Proofs.Ytclecalhbmpipaa
