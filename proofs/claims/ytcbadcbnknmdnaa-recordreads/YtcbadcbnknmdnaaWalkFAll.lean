/-
  Layer 18: changes as they lie: their cells, the lists that they hold; a list of changes as a law's argument.
-/
import Derived.Test.YtcbadcbnknmdnaaVals
import Derived.BigQuiet
import Derived.RegionTactic
import Derived.Deep.RegionHeld3
import Derived.Deep.RegionLaw
import Derived.Maps.Own
import Derived.Laws.IdiomRangeMap
import Derived.Maps.RangeRun
import Derived.Below
import Derived.Deep.LoopGhost
namespace Go.Proofs.Ytcbadcbnknmdnaa
open Go.RowKit Go.WideShapes Go.ChangeShapes
set_option linter.unusedVariables false

/-- A change lies in these cells. -/
def ChV (w : World) (r : List Value) (c : Chg) : Prop := ∃ a n, r = [.int .i64 c.k, .int .i64 c.p, .slice a c.v.length n] ∧ ActL w (.slice a c.v.length n) c.v
theorem ChV.below {w w' : World} {r : List Value} {c : Chg} (h : ChV w r c) (hb : Below w.heap.size w w') : ChV w' r c := by
  obtain ⟨a, n, e, hl⟩ := h
  exact ⟨a, n, e, hl.below hb⟩
def ChIs (w : World) (ls : List (List Value)) (m : List Chg) : Prop := ls.length = m.length ∧ ∀ i (h : i < ls.length) (h' : i < m.length), ChV w ls[i] m[i]
theorem ChIs.below {w w' : World} {ls : List (List Value)} {m : List Chg} (h : ChIs w ls m) (hb : Below w.heap.size w w') : ChIs w' ls m := ⟨h.1, fun i h1 h2 => (h.2 i h1 h2).below hb⟩
theorem ChIs.nil (w : World) : ChIs w [] [] := ⟨rfl, fun i h => by simp at h⟩
theorem ChIs.snoc {w : World} {ls : List (List Value)} {m : List Chg} (h : ChIs w ls m) {r : List Value} {c : Chg} (hr : ChV w r c) : ChIs w (ls ++ [r]) (m ++ [c]) := by
  have hl := h.1
  refine ⟨by simp [hl], fun i h1 h2 => ?_⟩
  by_cases e : i < ls.length
  · rw [List.getElem_append_left e, List.getElem_append_left (by omega)]
    exact h.2 i e (by omega)
  · have : i = ls.length := by simp at h1; omega
    subst this
    simp only [List.getElem_append_right (Nat.le_refl _), Nat.sub_self, List.getElem_cons_zero]
    rw [List.getElem_append_right (by omega)]
    simpa [hl] using hr
theorem ChV.wide {w : World} {r : List Value} {c : Chg} (h : ChV w r c) : r.length = 3 ∧ ∀ u ∈ r, u.oneCell' = true := by
  obtain ⟨a, n, e, -⟩ := h
  subst e
  refine ⟨rfl, fun u hu => ?_⟩
  simp only [List.mem_cons, List.not_mem_nil, or_false] at hu
  rcases hu with rfl | rfl | rfl <;> rfl
theorem ChIs.wide {w : World} {ls : List (List Value)} {m : List Chg} (h : ChIs w ls m) : VWide 3 ls := fun x hx => by
  obtain ⟨i, hi, rfl⟩ := List.getElem_of_mem hx
  exact (h.2 i hi (by have := h.1; omega)).wide
theorem ChIs.take {w : World} {ls : List (List Value)} {m : List Chg} (h : ChIs w ls m) (n : Nat) : ChIs w (ls.take n) (m.take n) := by
  refine ⟨by simp [h.1], fun i h1 h2 => ?_⟩
  rw [List.getElem_take, List.getElem_take]
  exact h.2 i _ _
/-- A row of changes: the cells of one. -/
theorem ch_at {w W : World} {a : Option Addr} {ls : List (List Value)} {m : List Chg} (hr : VRow 3 W a ls) (h : ChIs w ls m) {k : Nat} (hk : k < m.length) : ∃ b off x n, a = some ⟨b, off, none⟩ ∧ b < W.heap.size ∧ W.cell? ⟨b, off + k * 3, none⟩ = some (.int .i64 m[k].k) ∧ W.cell? ⟨b, off + k * 3 + 1, none⟩ = some (.int .i64 m[k].p) ∧ W.cell? ⟨b, off + k * 3 + 2, none⟩ = some (.slice x m[k].v.length n) ∧ ActL w (.slice x m[k].v.length n) m[k].v ∧ (ls[k]'(by have := h.1; omega)) = [.int .i64 m[k].k, .int .i64 m[k].p, .slice x m[k].v.length n] := by
  have hl := h.1
  obtain ⟨b, off, e, hc⟩ := hr (by omega)
  obtain ⟨x, n, hv, ha⟩ := h.2 k (by omega) hk
  have c0 := hc k (by omega) 0 (by decide)
  have c1 := hc k (by omega) 1 (by decide)
  have c2 := hc k (by omega) 2 (by decide)
  rw [hv] at c0 c1 c2
  exact ⟨b, off, x, n, e, block_lt_of_cell c0, c0, c1, c2, ha, hv⟩
/-- What a change's numbers are within. -/
def ChOk (c : Chg) : Prop := i64B c.k ∧ i64B c.p ∧ (∀ y ∈ c.v, i64B y) ∧ c.v.length ≤ maxLen
def chR (w : World) (r : List Value) : Prop := ∃ c, ChV w r c ∧ ChOk c
theorem vlist_3 {α : Type} {l : List α} (h : l.length = 3) : ∃ a b c, l = [a, b, c] := by
  match l, h with
  | [a, b, c], _ => exact ⟨a, b, c, rfl⟩
theorem chgs_of {H : Type} {enc : TypeId × Value → H} {w : World} {base : Nat} {sp : Nat → Bool} {held : Bool} {fuel : Nat} {a : Option Addr} {len cap : Nat} {x : DataW H × List MemPlace} (h : DataW.trod enc Try.prog w base sp held fuel 23 [.slice a len cap] = some x) : ∃ ls, ValArg 3 (chR w) w a len cap ls := by
  rcases Deep.open_slice Try.underlying23 h with ⟨hcs, _⟩ | ⟨ad, l, c, m, n, D, Pl, hcs, _, hl, hm, hmm, _, hx⟩
  · simp at hcs
    obtain ⟨rfl, rfl, rfl⟩ := hcs
    exact ⟨[], rfl, Nat.le_refl _, by simp [maxLen], fun h => by simp at h, fun x hx => by simp at hx⟩
  · simp at hcs
    obtain ⟨rfl, rfl, rfl⟩ := hcs
    have hmc : len ≤ m := by rw [hmm]; split <;> omega
    have cS : Try.prog.cellsOf 97 = 3 := by kernel_rfl
    have c_int : Try.prog.cellsOf 3 = 1 := by kernel_rfl
    have c_ints : Try.prog.cellsOf 22 = 1 := by kernel_rfl
    rw [cS] at hx
    have each : ∀ i, i < len → ∃ r : List Value, r.length = 3 ∧ (∀ j, j < 3 → w.cell? (ad.add (i * 3 + j)) = r[j]?) ∧ chR w r := by
      intro i hi
      obtain ⟨cs', hc, ht⟩ := hx i (by omega)
      obtain ⟨ys, n', hn', hy, hlen, hyl, hf⟩ := DataW.trod_struct Try.underlying97 ht
      obtain ⟨_, hcl, hat⟩ := World.cells?_some hc
      obtain ⟨v0, v1, v2, rfl⟩ := vlist_3 hcl
      obtain ⟨y0, y1, y2, rfl⟩ := vlist_3 (show ys.length = 3 by simpa using hyl)
      have g0 : DataW.trod enc Try.prog w base sp held n' 3 [v0] = some y0 := by simpa [c_int, c_ints] using hf 0 _ rfl
      have g1 : DataW.trod enc Try.prog w base sp held n' 3 [v1] = some y1 := by simpa [c_int, c_ints] using hf 1 _ rfl
      have g2 : DataW.trod enc Try.prog w base sp held n' 22 [v2] = some y2 := by simpa [c_int, c_ints] using hf 2 _ rfl
      obtain ⟨k0, q0, _, wf0⟩ := DataW.trod_int Try.underlying3 g0
      obtain ⟨k1, q1, _, wf1⟩ := DataW.trod_int Try.underlying3 g1
      simp only [List.cons.injEq, and_true] at q0 q1
      have h2 : ∃ x n c, v2 = .slice x n c := by
        rcases Deep.open_slice Try.underlying22 g2 with ⟨hcs, _⟩ | ⟨ad, l, c, m, n, D, Pl, hcs, _⟩
        · simp at hcs; exact ⟨_, _, _, hcs⟩
        · simp at hcs; exact ⟨_, _, _, hcs⟩
      obtain ⟨x2, n2, c2, rfl⟩ := h2
      obtain ⟨l, hl1, hl2, hl3, hl4, hl5, hl6, hl7⟩ := nums_of (k := .i64) Try.underlying22 Try.underlying3 c_int g2
      subst hl1
      subst q0 q1
      refine ⟨[.int .i64 k0, .int .i64 k1, .slice x2 l.length c2], rfl, fun j hj => ?_, ⟨k0, k1, l⟩, ⟨x2, c2, rfl, x2, c2, rfl, hl3, hl4, hl5, hl6⟩, wf_i64 wf0, wf_i64 wf1, fun y hy => wf_i64 (hl7 y hy), hl2⟩
      have a0 := hat j (by simpa using hj)
      rw [Deep.add_add] at a0
      exact a0
    exact valArg_of 3 (by decide) hl hm each
/-- A list of changes that came in. -/
theorem ChIs.of {w : World} {ls : List (List Value)} (h : ∀ r ∈ ls, chR w r) : ∃ m, ChIs w ls m ∧ ∀ c ∈ m, ChOk c := by
  induction ls with
  | nil => exact ⟨[], ChIs.nil w, fun c hc => by simp at hc⟩
  | cons r ls ih =>
    obtain ⟨m, ⟨h1, h2⟩, hm⟩ := ih fun r hr => h r (List.mem_cons_of_mem _ hr)
    obtain ⟨c, hc, hok⟩ := h r (List.mem_cons_self ..)
    refine ⟨c :: m, ⟨by simp [h1], fun i hi hi' => ?_⟩, fun x hx => ?_⟩
    · cases i with
      | zero => exact hc
      | succ i => exact h2 i (by simpa using hi) (by simpa using hi')
    · rcases List.mem_cons.1 hx with rfl | hx
      · exact hok
      · exact hm x hx
/-- What the law's Few keeps. -/
def fewC (m : List Chg) : List Chg := (m.take 10).map fun c => { c with v := c.v.take 34 }
end Go.Proofs.Ytcbadcbnknmdnaa
namespace Go.Proofs.Ytcbadcbnknmdnaa
open Go.RowKit
set_option linter.unusedVariables false

theorem bel18_drewN {B : Nat} {w W : World} (h : Below B w W) (m : Nat) : Below B w (W.drewN m) := ⟨h.os, h.tape, h.output, h.size, h.block⟩
def rosV (p : Nat) (e : Int) : Value := .agg #[.int .u32 (p : Int), .int .i64 e]
theorem pow_int (k : Nat) (hk : k < 32) : (2 : Int) ^ k % 4294967296 = ((2 ^ k : Nat) : Int) := by
  have h2 : 2 ^ k < 4294967296 := Nat.lt_of_lt_of_le (Nat.pow_lt_pow_right (by decide) hk) (by decide)
  have h3 : ((2 ^ k : Nat) : Int) = (2 : Int) ^ k := by simp
  rw [← h3]
  generalize 2 ^ k = z at h2
  omega
theorem orR_bit (B k : Nat) (hB : B < 4294967296) (hk : k < 32) : bits .or .u32 (B : Int) ((2 : Int) ^ k % 4294967296) = ((B ||| 2 ^ k : Nat) : Int) := by
  have h2 : 2 ^ k < 4294967296 := Nat.lt_of_lt_of_le (Nat.pow_lt_pow_right (by decide) hk) (by decide)
  rw [pow_int k hk]
  exact u32_or_nat B (2 ^ k) hB h2
theorem xorR_bit (B k : Nat) (hB : B < 4294967296) (hk : k < 32) : bits .xor .u32 (B : Int) ((2 : Int) ^ k % 4294967296) = ((B ^^^ 2 ^ k : Nat) : Int) := by
  have h2 : 2 ^ k < 4294967296 := Nat.lt_of_lt_of_le (Nat.pow_lt_pow_right (by decide) hk) (by decide)
  rw [pow_int k hk]
  exact u32_xor_nat B (2 ^ k) hB h2
theorem shrR_bit (B y : Nat) (hB : B < 4294967296) : (bits .and .u32 ((B : Int) / 2 ^ y) 1 == 1) = B.testBit y := by
  have e : ((B : Int) / 2 ^ y) = ((B / 2 ^ y : Nat) : Int) := by simp
  have hle : B / 2 ^ y < 4294967296 := Nat.lt_of_le_of_lt (Nat.div_le_self _ _) hB
  rw [e, show (1 : Int) = ((1 : Nat) : Int) from rfl, u32_and_nat _ _ hle (by decide), Nat.and_one_is_mod, Nat.testBit_eq_decide_div_mod_eq]
  generalize B / 2 ^ y % 2 = z
  by_cases hz : z = 1
  · subst hz; rfl
  · rw [decide_eq_false hz, beq_eq_false_iff_ne]; omega
def inR (x : Int) : Bool := decide (0 ≤ x) && decide (x < 32)
theorem inR_iff {x : Int} : inR x = true ↔ 0 ≤ x ∧ x < 32 := by simp [inR]
theorem player_any (x : Int) (w : World) : Calls Try.prog 36 #[.int .i64 x] w fun r w' => r = .returned (.bool (inR x)) ∧ w = w' := by
  unfold inR
  by_cases h0 : 0 ≤ x
  · by_cases h1 : x < 32
    · go_enter Try.func36, Try.ntmps36
      go_wp2
      go_ret
      simp [h0, h1]
    · have h1' : 32 ≤ x := by omega
      go_enter Try.func36, Try.ntmps36
      go_wp2
      go_ret
      simp [h1]
  · have h0' : x < 0 := by omega
    go_enter Try.func36, Try.ntmps36
    go_wp2
    go_ret
    simp; omega
set_option maxRecDepth 100000 in
set_option maxHeartbeats 1000000 in
theorem rhas_any (p : Nat) (e x : Int) (w : World) (hp : p < 4294967296) : Calls Try.prog 69 #[rosV p e, .int .i64 x] w fun r w' => r = .returned (.bool (hasP p x)) ∧ Below w.heap.size w w' := by
  have HA := Lib.hid (show Below w.heap.size w (w.alloc (.cells #[.int .u32 (p : Int), .int .i64 e] 28)) from bel_alloc (Below.refl _ _) _)
  have HPL := Lib.hid (fun W => player_any x W)
  unfold rosV
  by_cases h : 0 ≤ x ∧ x < 32
  · obtain ⟨k, rfl⟩ : ∃ k : Nat, x = (k : Int) := ⟨x.toNat, by omega⟩
    have e0 : inR (k : Int) = true := inR_iff.2 h
    rw [e0] at HPL
    have hk : k < 32 := by omega
    have HH := Lib.hid (show (bits .and .u32 ((p : Int) / 2 ^ k) 1 == 1) = hasP p (k : Int) by rw [shrR_bit p k hp]; simp [hasP]; intro _; omega)
    have hk0 : (0 : Int) ≤ (k : Int) := by omega
    have hmin : min k 32 = k := by omega
    clear h
    go_enter Try.func69, Try.ntmps69
    go_wp2_with fail
    refine (HPL.out _).mono ?_
    rintro r w1 ⟨rfl, rfl⟩
    go_wp2
    go_ret
    exact ⟨by rw [← HH.out]; simp, HA.out⟩
  · have e0 : inR x = false := by
      cases hq : inR x with
      | false => rfl
      | true => exact absurd (inR_iff.1 hq) h
    have e1 : hasP p x = false := by
      cases hq : hasP p x with
      | false => rfl
      | true => exact absurd ⟨(hasP_iff.1 hq).1, (hasP_iff.1 hq).2.1⟩ h
    rw [e0] at HPL
    rw [e1]
    clear h
    go_enter Try.func69, Try.ntmps69
    go_wp2_with fail
    refine (HPL.out _).mono ?_
    rintro r w1 ⟨rfl, rfl⟩
    go_wp2
    go_ret
    exact ⟨rfl, HA.out⟩
end Go.Proofs.Ytcbadcbnknmdnaa
namespace Go.Proofs.Ytcbadcbnknmdnaa
open Go.RowKit
set_option linter.unusedVariables false

theorem byte_of (p s : Nat) (hp : p < 4294967296) (q : Int) (hq : q = ((2 ^ s : Nat) : Int)) : bits .and .u32 ((p : Int) / q) 255 = ((p / 2 ^ s % 256 : Nat) : Int) := by
  subst hq
  have e : ((p : Int) / ((2 ^ s : Nat) : Int)) = ((p / 2 ^ s : Nat) : Int) := by simp
  have hle : p / 2 ^ s < 4294967296 := Nat.lt_of_le_of_lt (Nat.div_le_self _ _) hp
  rw [e, show (255 : Int) = ((255 : Nat) : Int) from rfl, u32_and_nat _ _ hle (by decide), show (255 : Nat) = 2 ^ 8 - 1 from rfl, Nat.and_two_pow_sub_one_eq_mod]
theorem pop8_nat (b : Nat) (h : b < 256) : Lib.pop8 (b : Int) = (Lib.onesCount b : Int) ∧ Lib.onesCount b ≤ 8 := ⟨Lib.pop8_eq ⟨b, h⟩, Lib.onesCount_le8 ⟨b, h⟩⟩
set_option maxRecDepth 100000 in
set_option maxHeartbeats 1000000 in
theorem ones_any (p : Nat) (w : World) (hp : p < 4294967296) : Calls Try.prog 117 #[.int .u32 (p : Int)] w fun r w' => r = .returned (.int .i64 (lenP p : Int)) ∧ Below w.heap.size w w' := by
  have e0 := byte_of p 0 hp 1 rfl
  have e1 := byte_of p 8 hp 256 rfl
  have e2 := byte_of p 16 hp 65536 rfl
  have hl := lenP_bytes p
  have e3 : ((p : Int) / 16777216) = ((p / 16777216 % 256 : Nat) : Int) := by omega
  simp only [Nat.reducePow, Nat.div_one, Int.ediv_one] at e0 e1 e2
  have l0 : p % 256 < 256 := Nat.mod_lt _ (by decide)
  have l1 : p / 256 % 256 < 256 := Nat.mod_lt _ (by decide)
  have l2 : p / 65536 % 256 < 256 := Nat.mod_lt _ (by decide)
  have l3 : p / 16777216 % 256 < 256 := Nat.mod_lt _ (by decide)
  rw [hl]
  generalize p % 256 = b0 at *
  generalize p / 256 % 256 = b1 at *
  generalize p / 65536 % 256 = b2 at *
  generalize p / 16777216 % 256 = b3 at *
  obtain ⟨q0, m0⟩ := pop8_nat b0 l0
  obtain ⟨q1, m1⟩ := pop8_nat b1 l1
  obtain ⟨q2, m2⟩ := pop8_nat b2 l2
  obtain ⟨q3, m3⟩ := pop8_nat b3 l3
  generalize Lib.onesCount b0 = c0 at *
  generalize Lib.onesCount b1 = c1 at *
  generalize Lib.onesCount b2 = c2 at *
  generalize Lib.onesCount b3 = c3 at *
  have k0 : (b0 : Int) ≤ 255 := by omega
  have k1 : (b1 : Int) ≤ 255 := by omega
  have k2 : (b2 : Int) ≤ 255 := by omega
  have k3 : (b3 : Int) ≤ 255 := by omega
  have n0 : (0 : Int) ≤ (b0 : Int) := by omega
  have n1 : (0 : Int) ≤ (b1 : Int) := by omega
  have n2 : (0 : Int) ≤ (b2 : Int) := by omega
  have n3 : (0 : Int) ≤ (b3 : Int) := by omega
  clear hl l0 l1 l2 l3
  go_enter Try.func117, Try.ntmps117
  go_wp2_with (simp only [e0, e1, e2, e3, q0, q1, q2, q3])
  go_quiet (fail)
  go_wp2_with (simp only [e0, e1, e2, e3, q0, q1, q2, q3])
  go_ret
  exact ⟨by simp; omega, bel18_drewN (Below.refl _ _) _⟩
end Go.Proofs.Ytcbadcbnknmdnaa
namespace Go.Proofs.Ytcbadcbnknmdnaa
open Go.RowKit
set_option linter.unusedVariables false

/-- A part: is it the last one; its text. -/
structure Pt where
  last : Bool
  text : List UInt8
def ptV (p : Pt) : Value := .agg #[.bool p.last, .string (bs p.text)]
def ptCells (p : Pt) : List Value := [.bool p.last, .string (bs p.text)]
def partB (p : Pt) : List UInt8 := (if p.last then 1 else 0) :: p.text
def parseF : List UInt8 → Pt × Nat
  | [] => (⟨false, []⟩, 1)
  | c :: t => if 1 < c.toNat then (⟨false, []⟩, 2) else if 200 < t.length then (⟨false, []⟩, 3) else (⟨c == 1, t⟩, 0)
theorem parseF_back (p : Pt) (h : p.text.length ≤ 200) : parseF (partB p) = (p, 0) := by
  obtain ⟨b, t⟩ := p
  simp only at h
  cases b
  · simp only [partB, parseF, Bool.false_eq_true, if_false]
    rw [if_neg (by decide), if_neg (by omega)]; rfl
  · simp only [partB, parseF, if_true]
    rw [if_neg (by decide), if_neg (by omega)]; rfl
theorem parseF_bytes (l : List UInt8) (h : (parseF l).2 = 0) : partB (parseF l).1 = l := by
  cases l with
  | nil => simp [parseF] at h
  | cons c t =>
    simp only [parseF] at h ⊢
    split at h
    · simp at h
    · split at h
      · simp at h
      · rename_i h1 h2
        rw [if_neg h1, if_neg h2]
        simp only [partB]
        have : c = 0 ∨ c = 1 := by
          have h3 : c.toNat = 0 ∨ c.toNat = 1 := by omega
          rcases h3 with h3 | h3
          · exact .inl (UInt8.toNat.inj h3)
          · exact .inr (UInt8.toNat.inj h3)
        rcases this with rfl | rfl <;> rfl
theorem parseF_len (l : List UInt8) : (parseF l).1.text.length ≤ 200 := by
  cases l with
  | nil => simp [parseF]
  | cons c t =>
    simp only [parseF]
    split
    · simp
    · split
      · simp
      · simp only; omega
theorem bs_cons_ne (c : UInt8) (t : List UInt8) : (bs (c :: t)).toList.isEmpty = false ∧ ((bs (c :: t)).toList == []) = false := by
  rw [ByteArray.toList_eq, bs_list]; simp
theorem bs_toList (l : List UInt8) : (bs l).toList = l := by rw [ByteArray.toList_eq, bs_list]
end Go.Proofs.Ytcbadcbnknmdnaa
namespace Go.Proofs.Ytcbadcbnknmdnaa
open Go.RowKit
set_option linter.unusedVariables false

/-- How many parts came of a message that isn't whole, and their bytes. -/
structure Js where
  n : Nat
  l : List UInt8
/-- What a part makes of it; the message, is it whole, the error's number. -/
def putJ (s : Js) (p : Pt) : Js × List UInt8 × Bool × Nat :=
  if 200 < p.text.length ∨ 65536 < s.l.length + p.text.length then (s, [], false, 3) else if p.last = true then (⟨0, []⟩, s.l ++ p.text, true, 0) else (⟨s.n + 1, s.l ++ p.text⟩, [], false, 0)
theorem putJ_len (s : Js) (p : Pt) (h : s.l.length ≤ 65536) : (putJ s p).1.l.length ≤ 65536 := by
  unfold putJ
  split
  · exact h
  · split
    · simp
    · simp only [List.length_append]; omega
theorem putJ_n (s : Js) (p : Pt) : (putJ s p).1.n ≤ s.n + 1 := by
  unfold putJ
  split
  · simp
  · split <;> simp
/-- What joins lies at block b. -/
structure JAt (w : World) (b : Nat) (v : Value) (s : Js) : Prop where
  c0 : w.cell? ⟨b, 0, none⟩ = some (.int .i64 (s.n : Int))
  c1 : w.cell? ⟨b, 1, none⟩ = some v
  f0 : w.frozen? ⟨b, 0, none⟩ = false
  f1 : w.frozen? ⟨b, 1, none⟩ = false
  row : w.ownsRow 0 5 1 v s.l.length (s.l.map byteV)
  ne : v.ownBlock ≠ some b
def JoTo (w : World) (b : Nat) (v : Value) (s : Js) (w' : World) : Prop :=
  ∃ v', JAt w' b v' s ∧ (∀ k, v'.ownBlock = some k → v.ownBlock = some k ∨ w.heap.size ≤ k) ∧ Touch (fun k => k = b ∨ v.ownBlock = some k) w w'
theorem JAt.lt {w : World} {b : Nat} {v : Value} {s : Js} (h : JAt w b v s) : b < w.heap.size := block_lt_of_cell h.c0
theorem JAt.touch {S : Nat → Prop} {w w' : World} {b : Nat} {v : Value} {s : Js} (h : JAt w b v s) (ht : Touch S w w') (hb : ¬ S b) (hv : ∀ k, v.ownBlock = some k → ¬ S k) : JAt w' b v s :=
  ⟨(ht.cell (p := ⟨b, 0, none⟩) h.lt hb).trans h.c0, (ht.cell (p := ⟨b, 1, none⟩) h.lt hb).trans h.c1, (ht.frozen (p := ⟨b, 0, none⟩) h.lt hb).trans h.f0, (ht.frozen (p := ⟨b, 1, none⟩) h.lt hb).trans h.f1, own_touchR h.row ht hv, h.ne⟩
theorem JAt.keep {w w' : World} {b : Nat} {v : Value} {s : Js} (h : JAt w b v s) (hb : Below w.heap.size w w') : JAt w' b v s := h.touch (touch_of_below (S := fun _ => False) hb) id (fun _ _ => id)
theorem JAt.fresh {w : World} {b : Nat} {v : Value} {s : Js} (h : JAt w b v s) (k : Nat) (hk : v.ownBlock = some k) : k < w.heap.size := (h.row.lt k hk).2
theorem JAt.to {w : World} {b : Nat} {v : Value} {s : Js} (h : JAt w b v s) : JoTo w b v s w := ⟨v, h, fun k hk => .inl hk, Touch.refl _ _⟩
theorem JAt.slice {w : World} {b : Nat} {v : Value} {s : Js} (h : JAt w b v s) : ∃ a cap, v = .slice a s.l.length cap := by
  rcases h.row.2 with ⟨hv, h0⟩ | ⟨g, cap, cur, hv, -⟩
  · exact ⟨none, 0, by rw [hv, h0]⟩
  · exact ⟨_, cap, hv⟩
theorem JAt.count {w : World} {b : Nat} {v : Value} {s : Js} (h : JAt w b v s) (m : Nat) : JAt (w.setCell ⟨b, 0, none⟩ (.int .i64 (m : Int))) b v ⟨m, s.l⟩ := by
  have ht : Touch (fun k => k = b) w (w.setCell ⟨b, 0, none⟩ (.int .i64 (m : Int))) := (Touch.refl (fun k => k = b) w).setCell (p := ⟨b, 0, none⟩) (fun _ => rfl) _
  refine ⟨World.cell?_setCell_same _ _ _ h.c0, (World.cell?_setCell_other _ _ _ _ (by simp)).trans h.c1, by simpa using h.f0, by simpa using h.f1, own_touchR h.row ht (fun k hk e => h.ne (e ▸ hk)), h.ne⟩
/-- A text's bytes behind: what the append and the store come to. -/
theorem JAt.text {w : World} {b : Nat} {v : Value} {s : Js} (h : JAt w b v s) (t : List UInt8) (hl : s.l.length + t.length ≤ 1000000) :
    ∃ a c w1, (Builtin.append_ #[63, 9] 63 #[v, .string (bs t)]).run Try.prog w = .ok (.slice a (s.l.length + t.length) c) w1 ∧
      w1.cell? ⟨b, 1, none⟩ = some v ∧ w1.frozen? ⟨b, 1, none⟩ = false ∧ w.heap.size ≤ w1.heap.size ∧ JoTo w b v ⟨s.n, s.l ++ t⟩ (w1.setCell ⟨b, 1, none⟩ (.slice a (s.l.length + t.length) c)) := by
  obtain ⟨i0, hi, hz0, hz1, hz2⟩ := info_parts info5
  have hbz := bs_size t
  obtain ⟨v', w1, hr, ho, hg, hf⟩ := append_exact_string (P := Try.prog) w 63 9 63 5 i0 Try.underlying63 Try.underlying9 hi hz0 hz1 hz2 v s.l.length (s.l.map byteV) h.row (bs t) (by unfold maxLen; omega) (by omega)
  rw [hbz] at ho
  have htw : Touch (fun k => v.ownBlock = some k) w w1 := touch_grown hg
  have c0 := (htw.cell (p := ⟨b, 0, none⟩) h.lt h.ne).trans h.c0
  have c1 := (htw.cell (p := ⟨b, 1, none⟩) h.lt h.ne).trans h.c1
  have f0 := (htw.frozen (p := ⟨b, 0, none⟩) h.lt h.ne).trans h.f0
  have f1 := (htw.frozen (p := ⟨b, 1, none⟩) h.lt h.ne).trans h.f1
  have hsh : ∃ a c, v' = .slice a (s.l.length + t.length) c := by
    rcases ho.2 with ⟨hv, h0⟩ | ⟨g, cap, cur, hv, -⟩
    · exact ⟨none, 0, by rw [hv, h0]⟩
    · exact ⟨_, cap, hv⟩
  obtain ⟨a, c, rfl⟩ := hsh
  have hne : (Value.slice a (s.l.length + t.length) c).ownBlock ≠ some b := fun e => by
    rcases hf b e with h' | h'
    · exact h.ne h'
    · have := h.lt; omega
  have ht : Touch (fun k => k = b) w1 (w1.setCell ⟨b, 1, none⟩ (.slice a (s.l.length + t.length) c)) := (Touch.refl (fun k => k = b) w1).setCell (p := ⟨b, 1, none⟩) (fun _ => rfl) _
  refine ⟨a, c, w1, hr, c1, f1, htw.size, _, ⟨(World.cell?_setCell_other _ _ _ _ (by simp)).trans c0, World.cell?_setCell_same _ _ _ c1, by simpa using f0, by simpa using f1, ?_, hne⟩, hf, (htw.mono (fun k _ hh => .inr hh)).setCell (p := ⟨b, 1, none⟩) (fun _ => .inl rfl) _⟩
  have hs : Lib.strCells (bs t) = t.map byteV := by
    unfold Lib.strCells byteV
    rw [bs_list]
  rw [hs] at ho
  have := own_touchR ho ht (fun k hk e => hne (e ▸ hk))
  simpa using this
theorem JoTo.trans {w w1 w2 : World} {b : Nat} {v v1 : Value} {s1 s2 : Js} (h1 : JAt w1 b v1 s1) (hf : ∀ k, v1.ownBlock = some k → v.ownBlock = some k ∨ w.heap.size ≤ k) (ht : Touch (fun k => k = b ∨ v.ownBlock = some k) w w1) (h2 : JoTo w1 b v1 s2 w2) : JoTo w b v s2 w2 := by
  obtain ⟨v2, h3, h4, h5⟩ := h2
  refine ⟨v2, h3, fun k hk => ?_, ht.trans' h5 fun k hk hT => ?_⟩
  · rcases h4 k hk with h | h
    · exact hf k h
    · exact .inr (Nat.le_trans ht.size h)
  · rcases hT with h | h
    · exact .inl h
    · rcases hf k h with h' | h'
      · exact .inr h'
      · omega
/-- All that is there goes. -/
theorem JAt.reset {w : World} {b : Nat} {v : Value} {s : Js} (h : JAt w b v s) : JoTo w b v ⟨0, []⟩ ((w.setCell ⟨b, 0, none⟩ (.int .i64 0)).setCell ⟨b, 1, none⟩ (.slice none 0 0)) := by
  refine ⟨.slice none 0 0, ⟨?_, ?_, by simpa using h.f0, by simpa using h.f1, World.ownsRow_nil _ _ _ _, by simp [Value.ownBlock]⟩, fun k hk => by simp [Value.ownBlock] at hk, ?_⟩
  · exact (World.cell?_setCell_other _ _ _ _ (by simp)).trans (World.cell?_setCell_same _ _ _ h.c0)
  · exact World.cell?_setCell_same _ _ _ ((World.cell?_setCell_other _ _ _ _ (by simp)).trans h.c1)
  · exact ((Touch.refl _ w).setCell (p := ⟨b, 0, none⟩) (fun _ => .inl rfl) _).setCell (p := ⟨b, 1, none⟩) (fun _ => .inl rfl) _
theorem JAt.back {w : World} {b : Nat} {v : Value} {s : Js} (h : JAt w b v s) : (convert 63 9 v).run Try.prog w = .ok (.string (bs s.l)) w := by
  rcases h.row.2 with ⟨hv, h0⟩ | ⟨g, cap, cur, hv, -⟩
  · have h0' : s.l = [] := List.eq_nil_of_length_eq_zero h0
    rw [h0']
    subst hv
    rw [run_convert_bytes_string w 63 9 5 none 0 0 Try.underlying63 Try.underlying5 Try.underlying9]
    simp [Conv.bytesToString]
    rfl
  · have hc := h.row.cells (g := g) (by rw [hv]; rfl)
    subst hv
    refine bytes_back w g cap s.l.length s.l rfl fun j hj => ?_
    have := hc j (byteV s.l[j]) (by simp [hj])
    cases j <;> simpa [Addr.add, byteV] using this
theorem JAt.drewN {w : World} {b : Nat} {v : Value} {s : Js} (h : JAt w b v s) (n : Nat) : JAt (w.drewN n) b v s :=
  h.touch (S := fun _ => False) ⟨rfl, rfl, rfl, Nat.le_refl _, fun _ _ _ => rfl⟩ id (fun _ _ => id)
theorem JAt.drew {w : World} {b : Nat} {v : Value} {s : Js} (h : JAt w b v s) : JAt w.drew b v s :=
  h.touch (S := fun _ => False) ⟨rfl, rfl, rfl, Nat.le_refl _, fun _ _ _ => rfl⟩ id (fun _ _ => id)
def JPost (w : World) (b : Nat) (v : Value) (t : Js × List UInt8 × Bool × Nat) (r : Ending) (w' : World) : Prop :=
  r = .returned (.tuple #[.string (bs t.2.1), .bool t.2.2.1, .int .i64 (t.2.2.2 : Nat)]) ∧ JoTo w b v t.1 w'
end Go.Proofs.Ytcbadcbnknmdnaa
namespace Go.Proofs.Ytcbadcbnknmdnaa
open Go.RowKit
set_option linter.unusedVariables false

theorem jput_run {w : World} {b : Nat} {v : Value} {s : Js} (h : JAt w b v s) (X : Nat) (hX : ∀ k, v.ownBlock = some k → k ≠ X) (hXb : X ≠ b) (y : Value) (x0 : w.cell? ⟨X, 0, none⟩ = some y) (t : List UInt8) (hl : s.l.length + t.length ≤ 1000000) :
    ∃ a c w1, (Builtin.append_ #[63, 9] 63 #[v, .string (bs t)]).run Try.prog w = .ok (.slice a (s.l.length + t.length) c) w1 ∧
      w1.cell? ⟨b, 1, none⟩ = some v ∧ w1.frozen? ⟨b, 1, none⟩ = false ∧ b < w1.heap.size ∧ JoTo w b v ⟨s.n, s.l ++ t⟩ (w1.setCell ⟨b, 1, none⟩ (.slice a (s.l.length + t.length) c)) ∧ (w1.setCell ⟨b, 1, none⟩ (.slice a (s.l.length + t.length) c)).cell? ⟨X, 0, none⟩ = some y := by
  obtain ⟨a, c, w1, h1, h2, h3, h4, h5⟩ := h.text t hl
  refine ⟨a, c, w1, h1, h2, h3, by have := h.lt; omega, h5, ?_⟩
  obtain ⟨v', -, -, ht⟩ := h5
  refine (ht.cell (p := ⟨X, 0, none⟩) (block_lt_of_cell x0) ?_).trans x0
  rintro (e | e)
  · exact hXb e
  · exact hX X e rfl
theorem JoTo.of_below {w w0 : World} {b : Nat} {v : Value} {s : Js} {w' : World} (hb : Below w.heap.size w w0) (h : JoTo w0 b v s w') : JoTo w b v s w' := by
  obtain ⟨v', h1, h2, h3⟩ := h
  refine ⟨v', h1, fun k hk => (h2 k hk).imp id fun e => by have := hb.size; omega, (touch_of_below hb).trans h3⟩
def RPut12 (w : World) (t : Js × List UInt8 × Bool × Nat) (r : Ending) (w' : World) : Prop :=
  r = .returned (.tuple #[.string (bs t.1.l), .int .i64 (t.1.n : Int), .string (bs t.2.1), .bool t.2.2.1, .int .i64 (t.2.2.2 : Nat)]) ∧ Below w.heap.size w w'
end Go.Proofs.Ytcbadcbnknmdnaa
namespace Go.Proofs.Ytcbadcbnknmdnaa
open Go.RowKit
set_option linter.unusedVariables false

/-- How many parts are ahead of the last one. -/
def moreN (n : Nat) : Nat := (n - 1) / 200
def ptAt (l : List UInt8) (i : Nat) : Pt := ⟨false, (l.drop (200 * i)).take 200⟩
def cutK (l : List UInt8) (k : Nat) : List Pt := (List.range k).map (ptAt l)
def lastP (l : List UInt8) : Pt := ⟨true, l.drop (200 * moreN l.length)⟩
def cutL (l : List UInt8) : List Pt := cutK l (moreN l.length) ++ [lastP l]
theorem cutK_succ (l : List UInt8) (k : Nat) : cutK l (k + 1) = cutK l k ++ [ptAt l k] := by simp [cutK, List.range_succ]
theorem cutK_len (l : List UInt8) (k : Nat) : (cutK l k).length = k := by simp [cutK]
theorem cutL_len (l : List UInt8) : (cutL l).length = moreN l.length + 1 := by simp [cutL, cutK]
theorem cutL_at (l : List UInt8) (i : Nat) (h : i < (cutL l).length) : (cutL l)[i] = if i < moreN l.length then ptAt l i else lastP l := by
  have h' := h
  rw [cutL_len] at h'
  have e : (cutL l)[i]? = some (if i < moreN l.length then ptAt l i else lastP l) := by
    show (cutK l (moreN l.length) ++ [lastP l])[i]? = _
    rw [List.getElem?_append, cutK_len]
    split
    · rename_i h1
      simp [cutK, h1]
    · rename_i h1
      have : i - moreN l.length = 0 := by omega
      rw [this]; rfl
  rw [List.getElem?_eq_getElem h] at e
  exact Option.some.inj e
theorem cutL_text (l : List UInt8) (i : Nat) (h : i < (cutL l).length) : ((cutL l)[i]).text.length ≤ 200 := by
  rw [cutL_at]
  split
  · simp only [ptAt, List.length_take]; omega
  · simp only [lastP, List.length_drop, moreN]; omega
theorem pt_wide (l : List Pt) : VWide 2 (l.map ptCells) := by
  intro x hx
  obtain ⟨p, -, rfl⟩ := List.mem_map.1 hx
  refine ⟨rfl, fun u hu => ?_⟩
  simp only [ptCells, List.mem_cons, List.not_mem_nil, or_false] at hu
  rcases hu with rfl | rfl <;> rfl
/-- A row of parts of the call's own. -/
structure PMem (e : TypeId) (w : World) (ls : List Pt) (a : Option Addr) (c : Nat) (wr : World) : Prop where
  row : OwnV e 2 w.heap.size a c (ls.map ptCells) wr
  bel : Below w.heap.size w wr
theorem PMem.step {e T : TypeId} {z : Value} {by' : Nat} (H : VTy e 2 z by') (hT : Try.prog.underlying T = some (.slice e)) {w : World} {ls : List Pt} {a : Option Addr} {c : Nat} {wr : World} (h : PMem e w ls a c wr) (pl : Bool) (pt : List UInt8) (hl : ls.length ≤ 1000) (k : Nat) (hk : ls.length = k) :
    ∃ a' c' w', (Builtin.append_ #[T, T] T #[.slice a k c, .slice (some ⟨wr.heap.size, 0, none⟩) 1 1]).run Try.prog (wr.alloc (.cells #[.bool pl, .string (bs pt)] e)) = .ok (.slice a' (k + 1) c') w' ∧ PMem e w (ls ++ [⟨pl, pt⟩]) a' c' w' := by
  subst hk
  obtain ⟨a', c', w', hrun, hnew, htch⟩ := h.row.one (t := T) (ty := T) H hT h.bel.size (ptCells ⟨pl, pt⟩) (by have := pt_wide [⟨pl, pt⟩] (ptCells ⟨pl, pt⟩) (by simp); exact this) (by simp; omega) _ rfl
  simp only [List.length_map] at hrun
  have nlo : ∀ j, j < w.heap.size → ¬ a.map (·.block) = some j := fun j hj e => by
    cases a with
    | none => simp at e
    | some x => simp at e; have := h.row.2 x rfl; omega
  exact ⟨a', c', w', hrun, by rw [List.map_append]; exact hnew, h.bel.trans (htch.below h.bel.size nlo)⟩
theorem own_part {e : TypeId} {B : Nat} {a : Option Addr} {c : Nat} {ls : List Pt} {w : World} (h : OwnV e 2 B a c (ls.map ptCells) w) (h0 : 0 < ls.length) : ∃ gb, a = some ⟨gb, 0, none⟩ ∧ gb < w.heap.size ∧ B ≤ gb ∧ ∀ i (hi : i < ls.length), w.cell? ⟨gb, i * 2, none⟩ = some (.bool ls[i].last) ∧ w.cell? ⟨gb, i * 2 + 1, none⟩ = some (.string (bs ls[i].text)) := by
  have hlen : (ls.map ptCells).length = ls.length := by simp
  rcases h.1.2 with ⟨-, h00⟩ | ⟨g, cap, cur, hv, -, hg, hnc, -, hsz, htk⟩
  · omega
  · have hr := h.row (pt_wide _) (by rw [hlen]; exact h0)
    obtain ⟨b, off, e1, hc⟩ := hr
    simp only [Value.slice.injEq] at hv
    rw [hv.1] at e1
    simp only [Option.some.injEq, Addr.mk.injEq] at e1
    obtain ⟨rfl, rfl, -⟩ := e1
    refine ⟨g, hv.1, (Array.getElem?_eq_some_iff.1 hg).1, h.2 _ hv.1, fun i hi => ?_⟩
    have hx : ∀ j, j < 2 → w.cell? ⟨g, i * 2 + j, none⟩ = (ptCells ls[i])[j]? := fun j hj => by
      have h1 := hc i (by rw [hlen]; exact hi) j hj
      rw [Nat.zero_add] at h1
      rw [h1]
      simp
    exact ⟨hx 0 (by decide), hx 1 (by decide)⟩
end Go.Proofs.Ytcbadcbnknmdnaa
namespace Go.Proofs.Ytcbadcbnknmdnaa
open Go.RowKit
set_option linter.unusedVariables false

theorem new_at (W : World) (n : Nat) (h : W.heap.size = n) (cs : Array Value) (t : TypeId) (j : Nat) : (W.alloc (.cells cs t)).cell? ⟨n, j, none⟩ = cs[j]? := by subst h; simp
def zerosN (n : Nat) : List UInt8 := List.replicate n 0
theorem zerosN_len (n : Nat) : (zerosN n).length = n := List.length_replicate
theorem zmade (u : World) (z : Int) (n : Nat) (hz : z = (n : Int)) (hn : n ≤ 1000) : (Instr.makeSlice 63 (.int .i64 z) (.int .i64 z)).run Try.prog u = .ok (.slice (some ⟨u.heap.size, 0, none⟩) n n) (u.alloc (.cells (madeCells #[.int .u8 0] n) 5)) := by
  have h0 : (Try.prog.info? 5).map (fun i => (i.zero, i.size, i.bytes)) = some (some (.int .u8 0), 1, 1) := by kernel_rfl
  obtain ⟨i0, hi, hz0, hz1, hz2⟩ := info_is h0
  have := run_make (P := Try.prog) u 63 5 i0 _ Try.underlying63 hi hz0 .i64 .i64 z z (by omega) (by omega) (by rw [hz2]; omega) (by omega)
  rw [hz1] at this
  subst hz
  simpa [Value.cells] using this
theorem zstr (u : World) (B n : Nat) (hB : u.heap.size = B) : (convert 63 9 (.slice (some ⟨B, 0, none⟩) n n)).run Try.prog (u.alloc (.cells (madeCells #[.int .u8 0] n) 5)) = .ok (.string (bs (zerosN n))) (u.alloc (.cells (madeCells #[.int .u8 0] n) 5)) := by
  refine bytes_back _ B n n (zerosN n) (zerosN_len n).symm (fun j hj => ?_)
  rw [zerosN_len] at hj
  rw [new_at _ _ hB, ← Array.getElem?_toList, toList_madeCells_one, List.getElem?_replicate, if_pos hj]
  have : ∀ (h : j < (zerosN n).length), (zerosN n)[j] = 0 := fun h => by unfold zerosN; exact List.getElem_replicate _
  rw [this]
  rfl
theorem PMem.keep {e : TypeId} {w : World} {ls : List Pt} {a : Option Addr} {c : Nat} {wr w' : World} (h : PMem e w ls a c wr) (hb : Below wr.heap.size wr w') : PMem e w ls a c w' :=
  ⟨h.row.touch (touch_of_below (S := fun _ => False) hb) (fun _ _ => id), h.bel.trans (hb.mono h.bel.size)⟩
end Go.Proofs.Ytcbadcbnknmdnaa
namespace Go.Proofs.Ytcbadcbnknmdnaa
open Go.RowKit
set_option linter.unusedVariables false

theorem any_list (s : ByteArray) (n : Nat) : ∃ l : List UInt8, cutB s n = bs l ∧ l.length ≤ n :=
  ⟨(cutB s n).data.toList, (bs_eta _).symm, by have : (cutB s n).data.toList.length = (cutB s n).size := by simp
                                               rw [this]; exact cutB_le s n⟩
end Go.Proofs.Ytcbadcbnknmdnaa
namespace Go.Proofs.Ytcbadcbnknmdnaa
open Go.RowKit
set_option linter.unusedVariables false

/-- What joins lies at block b, of the making of the call that began in w0. -/
def JIn (w0 : World) (b : Nat) (s : Js) (w : World) : Prop :=
  ∃ v, JAt w b v s ∧ w0.heap.size ≤ b ∧ (∀ k, v.ownBlock = some k → w0.heap.size ≤ k) ∧ Below w0.heap.size w0 w
theorem JIn.bel {w0 w : World} {b : Nat} {s : Js} (h : JIn w0 b s w) : Below w0.heap.size w0 w := by obtain ⟨v, -, -, -, h4⟩ := h; exact h4
theorem JIn.lt {w0 w : World} {b : Nat} {s : Js} (h : JIn w0 b s w) : b < w.heap.size := by obtain ⟨v, h1, -⟩ := h; exact h1.lt
theorem JIn.keep {w0 w w' : World} {b : Nat} {s : Js} (h : JIn w0 b s w) (hb : Below w.heap.size w w') : JIn w0 b s w' := by
  obtain ⟨v, h1, h2, h3, h4⟩ := h
  exact ⟨v, h1.keep hb, h2, h3, h4.trans (hb.mono h4.size)⟩
theorem putJ_more (s : Js) (t : List UInt8) (h1 : t.length ≤ 200) (h2 : s.l.length + t.length ≤ 65536) : putJ s ⟨false, t⟩ = (⟨s.n + 1, s.l ++ t⟩, [], false, 0) := by
  unfold putJ
  rw [if_neg (by simp only; omega), if_neg (by simp)]
theorem putJ_last (s : Js) (t : List UInt8) (h1 : t.length ≤ 200) (h2 : s.l.length + t.length ≤ 65536) : putJ s ⟨true, t⟩ = (⟨0, []⟩, s.l ++ t, true, 0) := by
  unfold putJ
  rw [if_neg (by simp only; omega), if_pos rfl]
theorem putJ_big (s : Js) (p : Pt) (h : 65536 < s.l.length + p.text.length) : putJ s p = (s, [], false, 3) := if_pos (.inr h)
end Go.Proofs.Ytcbadcbnknmdnaa
namespace Go.Proofs.Ytcbadcbnknmdnaa
open Go.RowKit
set_option linter.unusedVariables false

/-- What is there behind k parts. -/
def jK (l : List UInt8) (k : Nat) : Js := if k ≤ moreN l.length then ⟨k, l.take (200 * k)⟩ else ⟨0, []⟩
theorem jK_len (l : List UInt8) (k : Nat) (hl : l.length ≤ 65536) : (jK l k).l.length ≤ 65536 := by
  unfold jK; split
  · simp only [List.length_take]; omega
  · simp
theorem jK_n (l : List UInt8) (k : Nat) (hl : l.length ≤ 65536) : (jK l k).n ≤ 1000000 := by
  unfold jK; split
  · rename_i h; simp only; unfold moreN at h; omega
  · simp
theorem putJ_jK (l : List UInt8) (k : Nat) (hl : l.length ≤ 65536) (hk : k < moreN l.length) : putJ (jK l k) (ptAt l k) = (jK l (k + 1), [], false, 0) := by
  have h1 : ((l.drop (200 * k)).take 200).length ≤ 200 := by rw [List.length_take]; omega
  have e : jK l k = ⟨k, l.take (200 * k)⟩ := if_pos (by omega)
  have e2 : jK l (k + 1) = ⟨k + 1, l.take (200 * k) ++ (l.drop (200 * k)).take 200⟩ := by
    unfold jK
    rw [if_pos (by omega), show 200 * (k + 1) = 200 * k + 200 by omega, List.take_add]
  rw [e, e2]
  exact putJ_more ⟨k, l.take (200 * k)⟩ _ h1 (by rw [← List.length_append, ← List.take_add, List.length_take]; omega)
theorem putJ_end (l : List UInt8) (hl : l.length ≤ 65536) : putJ (jK l (moreN l.length)) (lastP l) = (jK l (moreN l.length + 1), l, true, 0) := by
  have e : jK l (moreN l.length) = ⟨moreN l.length, l.take (200 * moreN l.length)⟩ := if_pos (Nat.le_refl _)
  have e2 : jK l (moreN l.length + 1) = ⟨0, []⟩ := if_neg (by omega)
  rw [e, e2]
  have h := putJ_last ⟨moreN l.length, l.take (200 * moreN l.length)⟩ (l.drop (200 * moreN l.length)) (by rw [List.length_drop]; unfold moreN; omega) (by simp only [List.length_take, List.length_drop]; omega)
  simp only [List.take_append_drop] at h
  exact h
end Go.Proofs.Ytcbadcbnknmdnaa
namespace Go.Proofs.Ytcbadcbnknmdnaa
open Go.RowKit
set_option linter.unusedVariables false

/-- What parts come to, one behind the other: what is there behind them, and the messages. -/
def afterJ (s : Js) : List Pt → Js × List (List UInt8)
  | [] => (s, [])
  | p :: t => ((afterJ (putJ s p).1 t).1, (if (putJ s p).2.2.1 = true then [(putJ s p).2.1] else []) ++ (afterJ (putJ s p).1 t).2)
/-- None of them finds an error. -/
def goodJ (s : Js) : List Pt → Prop
  | [] => True
  | p :: t => (putJ s p).2.2.2 = 0 ∧ goodJ (putJ s p).1 t
theorem afterJ_append (s : Js) (a b : List Pt) : afterJ s (a ++ b) = ((afterJ (afterJ s a).1 b).1, (afterJ s a).2 ++ (afterJ (afterJ s a).1 b).2) := by
  induction a generalizing s with
  | nil => simp [afterJ]
  | cons p t ih => simp only [List.cons_append, afterJ, ih, List.append_assoc]
theorem goodJ_append (s : Js) (a b : List Pt) (h1 : goodJ s a) (h2 : goodJ (afterJ s a).1 b) : goodJ s (a ++ b) := by
  induction a generalizing s with
  | nil => simpa [afterJ] using h2
  | cons p t ih => exact ⟨h1.1, ih _ h1.2 h2⟩
theorem afterJ_one (s : Js) (p : Pt) : afterJ s [p] = ((putJ s p).1, if (putJ s p).2.2.1 = true then [(putJ s p).2.1] else []) := by simp [afterJ]
theorem cutK_after (l : List UInt8) (hl : l.length ≤ 65536) (k : Nat) (hk : k ≤ moreN l.length) : afterJ ⟨0, []⟩ (cutK l k) = (jK l k, []) ∧ goodJ ⟨0, []⟩ (cutK l k) := by
  induction k with
  | zero =>
    refine ⟨?_, trivial⟩
    show (({ n := 0, l := [] } : Js), ([] : List (List UInt8))) = _
    rw [show jK l 0 = ⟨0, []⟩ from if_pos (Nat.zero_le _)]
  | succ k ih =>
    obtain ⟨i1, i2⟩ := ih (by omega)
    have hp := putJ_jK l k hl (by omega)
    rw [cutK_succ]
    refine ⟨?_, goodJ_append _ _ _ i2 ?_⟩
    · rw [afterJ_append, i1, afterJ_one]
      simp only [hp]; rfl
    · rw [i1]
      exact ⟨by simp only [hp], trivial⟩
theorem cutL_after (l : List UInt8) (hl : l.length ≤ 65536) : afterJ ⟨0, []⟩ (cutL l) = (⟨0, []⟩, [l]) ∧ goodJ ⟨0, []⟩ (cutL l) := by
  obtain ⟨i1, i2⟩ := cutK_after l hl _ (Nat.le_refl _)
  have hp := putJ_end l hl
  have he : jK l (moreN l.length + 1) = ⟨0, []⟩ := if_neg (by omega)
  rw [he] at hp
  unfold cutL
  refine ⟨?_, goodJ_append _ _ _ i2 ?_⟩
  · rw [afterJ_append, i1, afterJ_one]
    simp only [hp]; rfl
  · rw [i1]
    exact ⟨by simp only [hp], trivial⟩
def partsOf (ms : List (List UInt8)) : List Pt := (ms.map cutL).flatten
theorem parts_after (ms : List (List UInt8)) (h : ∀ m ∈ ms, m.length ≤ 65536) : afterJ ⟨0, []⟩ (partsOf ms) = (⟨0, []⟩, ms) ∧ goodJ ⟨0, []⟩ (partsOf ms) := by
  induction ms with
  | nil => exact ⟨rfl, trivial⟩
  | cons m t ih =>
    obtain ⟨i1, i2⟩ := ih (fun x hx => h x (by simp [hx]))
    obtain ⟨j1, j2⟩ := cutL_after m (h m (by simp))
    show afterJ ⟨0, []⟩ (cutL m ++ partsOf t) = _ ∧ goodJ ⟨0, []⟩ (cutL m ++ partsOf t)
    refine ⟨?_, goodJ_append _ _ _ j2 (by rw [j1]; exact i2)⟩
    rw [afterJ_append, j1, i1]; rfl
/-- The k-th part: what is there ahead of it and behind it. -/
theorem take_after (s : Js) (ps : List Pt) (k : Nat) (hk : k < ps.length) (hg : goodJ s ps) : (putJ (afterJ s (ps.take k)).1 ps[k]).2.2.2 = 0 ∧ afterJ s (ps.take (k + 1)) = ((putJ (afterJ s (ps.take k)).1 ps[k]).1, (afterJ s (ps.take k)).2 ++ if (putJ (afterJ s (ps.take k)).1 ps[k]).2.2.1 = true then [(putJ (afterJ s (ps.take k)).1 ps[k]).2.1] else []) := by
  refine ⟨?_, ?_⟩
  · induction ps generalizing s k with
    | nil => simp at hk
    | cons p t ih =>
      cases k with
      | zero => exact hg.1
      | succ k => exact ih _ k (by simpa using hk) hg.2
  · rw [List.take_succ_eq_append_getElem hk, afterJ_append, afterJ_one]
theorem afterJ_len (s : Js) (ps : List Pt) (hs : s.l.length ≤ 65536) : (afterJ s ps).1.l.length ≤ 65536 := by
  induction ps generalizing s with
  | nil => exact hs
  | cons p t ih => exact ih _ (putJ_len s p hs)
theorem afterJ_n (s : Js) (ps : List Pt) : (afterJ s ps).1.n ≤ s.n + ps.length := by
  induction ps generalizing s with
  | nil => simp [afterJ]
  | cons p t ih =>
    have h1 := ih (putJ s p).1
    have h2 := putJ_n s p
    show (afterJ (putJ s p).1 t).1.n ≤ _
    simp only [List.length_cons]; omega
theorem afterJ_msgs (s : Js) (ps : List Pt) : (afterJ s ps).2.length ≤ ps.length := by
  induction ps generalizing s with
  | nil => simp [afterJ]
  | cons p t ih =>
    have h1 := ih (putJ s p).1
    simp only [afterJ, List.length_append, List.length_cons]
    split <;> simp <;> omega
/-- A row of records put behind a row of one's own. -/
theorem own_app {e T : TypeId} {k by' : Nat} {z : Value} (H : VTy e k z by') (hT : Try.prog.underlying T = some (.slice e)) {w : World} {B : Nat} {a : Option Addr} {c : Nat} {ls : List (List Value)} (h : OwnV e k B a c ls w) (g off m c2 : Nat) (news : List (List Value)) (hw : VWide k news) (hm : news.length = m)
    (hc : ∀ i (hi : i < news.length) j, j < k → w.cell? ⟨g, off + i * k + j, none⟩ = news[i][j]?) (hl : ls.length + m ≤ 1000000) (n : Nat) (hn : ls.length = n) :
    ∃ a' c' w', (Builtin.append_ #[T, T] T #[.slice a n c, .slice (some ⟨g, off, none⟩) m c2]).run Try.prog w = .ok (.slice a' (n + m) c') w' ∧ OwnV e k 0 a' c' (ls ++ news) w' ∧ Touch (fun b => a.map (·.block) = some b) w w' ∧ (∀ x, a' = some x → a.map (·.block) = some x.block ∨ w.heap.size ≤ x.block) := by
  subst hn
  obtain ⟨i0, hi, hz0, hz1, hz2⟩ := info_is H.info
  have hf1 := H.few.1
  have hf2 := H.few.2
  have hpos := H.pos
  obtain ⟨v', w', hrun, ho, hg, hf⟩ := append_exact (P := Try.prog) w T T e i0 z k by' hT hi hz0 hz1 hz2 H.cells H.pos (.slice a ls.length c) ls.length ls.flatten h.1 ⟨g, off, none⟩ m c2 news.flatten (by rw [vflat_len hw, hm])
    (fun j u hu => by
      have hj : j < news.flatten.length := (List.getElem?_eq_some_iff.1 hu).1
      rw [vflat_len hw] at hj
      have hi' : j / k < news.length := Nat.div_lt_of_lt_mul (by rw [Nat.mul_comm]; exact hj)
      have hjm : j % k < k := Nat.mod_lt _ hpos
      have e1 := vflat_at hw (j / k) hi' (j % k) hjm
      rw [Nat.mul_comm, Nat.div_add_mod] at e1
      have e2 := hc (j / k) hi' (j % k) hjm
      rw [← e1, hu, Nat.add_assoc, Nat.mul_comm, Nat.div_add_mod] at e2
      exact add_cellR e2)
    (fun u hu => by
      obtain ⟨x, hx, hux⟩ := List.mem_flatten.1 hu
      exact (hw x hx).2 u hux)
    (by unfold maxLen; omega) (by have := Nat.mul_le_mul (show ls.length + m ≤ 1000000 from hl) hf2; omega)
  have hsh : ∃ a' c', v' = .slice a' (ls.length + m) c' := by
    rcases ho.2 with ⟨hv, h0⟩ | ⟨g', cap, cur, hv, -⟩
    · exact ⟨none, 0, by rw [hv, h0]⟩
    · exact ⟨_, cap, hv⟩
  obtain ⟨a', c', rfl⟩ := hsh
  refine ⟨a', c', w', hrun, ⟨?_, fun _ _ => Nat.zero_le _⟩, ?_, fun x hx => ?_⟩
  · rw [List.length_append, hm, List.flatten_append]; exact ho
  · refine (touch_grown hg).mono fun b _ hb => ?_
    cases a with
    | none => simp [Value.ownBlock] at hb
    | some y => simpa [Value.ownBlock] using hb
  · subst hx
    rcases hf x.block (by simp [Value.ownBlock]) with e1 | e1
    · left
      cases a with
      | none => simp [Value.ownBlock] at e1
      | some y => simpa [Value.ownBlock] using e1
    · exact .inr e1
theorem strTy : VTy 9 1 (.string ⟨#[]⟩) 16 := ⟨by kernel_rfl, rfl, by decide, by decide⟩
def strCells1 (m : List UInt8) : List Value := [.string (bs m)]
theorem str_wide (ms : List (List UInt8)) : VWide 1 (ms.map strCells1) := by
  intro x hx
  obtain ⟨p, -, rfl⟩ := List.mem_map.1 hx
  exact ⟨rfl, fun u hu => by simp only [strCells1, List.mem_singleton] at hu; subst hu; rfl⟩
/-- One text more. -/
theorem str_one {w : World} {B : Nat} {a : Option Addr} {c : Nat} {ms : List (List UInt8)} (h : OwnV 9 1 B a c (ms.map strCells1) w) (m : List UInt8) (hl : ms.length ≤ 100000) (n : Nat) (hn : ms.length = n) :
    ∃ a' c' w', (Builtin.append_ #[188, 188] 188 #[.slice a n c, .slice (some ⟨w.heap.size, 0, none⟩) 1 1]).run Try.prog (w.alloc (.cells #[.string (bs m)] 9)) = .ok (.slice a' (n + 1) c') w' ∧ OwnV 9 1 0 a' c' ((ms ++ [m]).map strCells1) w' ∧ Touch (fun b => a.map (·.block) = some b) w w' ∧ (∀ x, a' = some x → a.map (·.block) = some x.block ∨ w.heap.size ≤ x.block) := by
  obtain ⟨a', c', w', h1, h2, h3, h4⟩ := own_app strTy Try.underlying188 (h.touch (touch_of_below (S := fun _ => False) (bel_alloc (Below.refl _ _) (.cells #[.string (bs m)] 9))) (fun _ _ => id)) w.heap.size 0 1 1 [strCells1 m] (str_wide [m]) rfl
    (fun i hi j hj => by
      obtain rfl : i = 0 := by simpa using hi
      obtain rfl : j = 0 := by omega
      simp [strCells1]) (by simp; omega) n (by simpa using hn)
  refine ⟨a', c', w', h1, by simpa using h2, ?_, fun x hx => (h4 x hx).imp id fun e => by simp at e; omega⟩
  exact ((Touch.refl (fun b => a.map (·.block) = some b) w).alloc (.cells #[.string (bs m)] 9)).trans h3
end Go.Proofs.Ytcbadcbnknmdnaa
namespace Go.Proofs.Ytcbadcbnknmdnaa
open Go.RowKit
set_option linter.unusedVariables false

/-- What joins lies at b, the messages that are whole in a row of their own. -/
structure AllMem (w : World) (b : Nat) (v v' : Value) (s : Js) (a : Option Addr) (c : Nat) (ms : List (List UInt8)) (wr : World) : Prop where
  j : JAt wr b v' s
  jn : ∀ k, v'.ownBlock = some k → v.ownBlock = some k ∨ w.heap.size ≤ k
  jd : ∀ x, a = some x → v'.ownBlock ≠ some x.block
  row : OwnV 9 1 0 a c (ms.map strCells1) wr
  new : ∀ x, a = some x → w.heap.size ≤ x.block
  tch : Touch (fun k => k = b ∨ v.ownBlock = some k) w wr
theorem AllMem.keep {w : World} {b : Nat} {v v' : Value} {s : Js} {a : Option Addr} {c : Nat} {ms : List (List UInt8)} {wr w' : World} (h : AllMem w b v v' s a c ms wr) (hb : Below wr.heap.size wr w') : AllMem w b v v' s a c ms w' :=
  ⟨h.j.keep hb, h.jn, h.jd, h.row.touch (touch_of_below (S := fun _ => False) hb) (fun _ _ => id), h.new, h.tch.trans' (touch_of_below (S := fun _ => False) hb) (fun _ _ => False.elim)⟩
theorem AllMem.put {w : World} {b : Nat} {v v' : Value} {s s' : Js} {a : Option Addr} {c : Nat} {ms : List (List UInt8)} {wr w' : World} (hbw : b < w.heap.size) (h : AllMem w b v v' s a c ms wr) (hj : JoTo wr b v' s' w') : ∃ v2, AllMem w b v v2 s' a c ms w' := by
  obtain ⟨v2, g1, g2, g3⟩ := hj
  have hs := h.tch.size
  refine ⟨v2, g1, fun k hk => ?_, fun x hx e => ?_, h.row.touch g3 (fun x hx e => ?_), h.new, h.tch.trans' g3 (fun k hk e => ?_)⟩
  · rcases g2 k hk with e | e
    · exact h.jn k e
    · exact .inr (by omega)
  · rcases g2 _ e with e | e
    · exact h.jd x hx e
    · have := h.row.lt x hx; omega
  · rcases e with e | e
    · have := h.new x hx; omega
    · exact h.jd x hx e
  · rcases e with e | e
    · exact .inl e
    · rcases h.jn k e with e | e
      · exact .inr e
      · omega
theorem AllMem.app {w : World} {b : Nat} {v v' : Value} {s : Js} {a a' : Option Addr} {c c' : Nat} {ms ms' : List (List UInt8)} {wr w' : World} (hbw : b < w.heap.size) (hvw : ∀ k, v.ownBlock = some k → k < w.heap.size) (h : AllMem w b v v' s a c ms wr) (ho : OwnV 9 1 0 a' c' (ms'.map strCells1) w') (ht : Touch (fun k => a.map (·.block) = some k) wr w') (hn : ∀ x, a' = some x → a.map (·.block) = some x.block ∨ wr.heap.size ≤ x.block) : AllMem w b v v' s a' c' ms' w' := by
  have hs := h.tch.size
  have hna : ∀ k, a.map (·.block) = some k → w.heap.size ≤ k ∧ v'.ownBlock ≠ some k := fun k e => by
    cases a with
    | none => simp at e
    | some y => simp at e; subst e; exact ⟨h.new y rfl, h.jd y rfl⟩
  refine ⟨h.j.touch ht (fun e => ?_) (fun k hk e => (hna k e).2 hk), h.jn, fun x hx e => ?_, ho, fun x hx => ?_, h.tch.trans' ht (fun k hk e => ?_)⟩
  · have := (hna b e).1; omega
  · rcases hn x hx with e1 | e1
    · exact (hna _ e1).2 e
    · have := h.j.fresh _ e; omega
  · rcases hn x hx with e1 | e1
    · exact (hna _ e1).1
    · omega
  · have := (hna k e).1; omega
def AllPost (w : World) (b : Nat) (v : Value) (ms : List (List UInt8)) (s : Js) (r : Ending) (w' : World) : Prop :=
  ∃ a c v', r = .returned (.tuple #[.slice a ms.length c, .int .i64 0]) ∧ AllMem w b v v' s a c ms w'
end Go.Proofs.Ytcbadcbnknmdnaa
namespace Go.Proofs.Ytcbadcbnknmdnaa
open Go.RowKit Go.ChangeMaps
set_option linter.unusedVariables false

/-- The entries of a map: what their keys and values are. -/
def EntsAre (q : IntKind) (es : List MapEntry) (L : List (Nat × Value)) : Prop := es.map (fun e => (e.key, e.val)) = L.map (fun p => (Value.int q (p.1 : Int), p.2))
/-- At block r lies a map of the entries L, no key twice. -/
structure MpAt (q : IntKind) (w : World) (r : Nat) (L : List (Nat × Value)) : Prop where
  ex : ∃ (es : List MapEntry) (clock : Nat), w.heap[r]? = some (.map es.toArray clock) ∧ EntsAre q es L ∧ (es.map (·.born)).Nodup ∧ (∀ x ∈ es, x.born < clock)
  nd : (L.map (·.1)).Nodup
  wf : ∀ p ∈ L, (Lit.int q (p.1 : Int)).wf = true
theorem MpAt.lt {q : IntKind} {w : World} {r : Nat} {L : List (Nat × Value)} (h : MpAt q w r L) : r < w.heap.size := by
  obtain ⟨es, clock, h1, -⟩ := h.ex
  exact (Array.getElem?_eq_some_iff.1 h1).1
theorem MpAt.touch {q : IntKind} {S : Nat → Prop} {w w' : World} {r : Nat} {L : List (Nat × Value)} (h : MpAt q w r L) (ht : Touch S w w') (hr : ¬ S r) : MpAt q w' r L := by
  obtain ⟨es, clock, h1, h2⟩ := h.ex
  exact ⟨⟨es, clock, (ht.block r h.lt hr).trans h1, h2⟩, h.nd, h.wf⟩
theorem MpAt.made (q : IntKind) (w : World) : MpAt q (w.alloc (.map #[] 0)) w.heap.size [] :=
  ⟨⟨[], 0, by show (w.heap.push (.map #[] 0))[w.heap.size]? = _; simp, rfl, by simp, by simp⟩, by simp, by simp⟩
theorem ents_len {q : IntKind} {es : List MapEntry} {L : List (Nat × Value)} (h : EntsAre q es L) : es.length = L.length := by
  have := congrArg List.length h
  simpa using this
theorem ents_mem {q : IntKind} {es : List MapEntry} {L : List (Nat × Value)} (h : EntsAre q es L) {x : MapEntry} (hx : x ∈ es) : ∃ p ∈ L, x.key = .int q (p.1 : Int) ∧ x.val = p.2 := by
  have : (x.key, x.val) ∈ es.map (fun e => (e.key, e.val)) := List.mem_map.2 ⟨x, hx, rfl⟩
  rw [h] at this
  obtain ⟨p, hp, e⟩ := List.mem_map.1 this
  simp only [Prod.mk.injEq] at e
  exact ⟨p, hp, e.1.symm, e.2.symm⟩
theorem ents_back {q : IntKind} {es : List MapEntry} {L : List (Nat × Value)} (h : EntsAre q es L) {p : Nat × Value} (hp : p ∈ L) : ∃ x ∈ es, x.key = .int q (p.1 : Int) ∧ x.val = p.2 := by
  have : (Value.int q (p.1 : Int), p.2) ∈ L.map (fun p => (Value.int q (p.1 : Int), p.2)) := List.mem_map.2 ⟨p, hp, rfl⟩
  rw [← h] at this
  obtain ⟨x, hx, e⟩ := List.mem_map.1 this
  simp only [Prod.mk.injEq] at e
  exact ⟨x, hx, e.1, e.2⟩
theorem int_inj {q : IntKind} {a b : Nat} (h : Value.int q (a : Int) = Value.int q (b : Int)) : a = b := by
  simp only [Value.int.injEq, true_and] at h; omega
theorem mp_find {P : Program} {q : IntKind} {k : TypeId} (hk : P.underlying k = some (.int q)) {w : World} {es : List MapEntry} {L : List (Nat × Value)} (he : EntsAre q es L) (hw : ∀ p ∈ L, (Lit.int q (p.1 : Int)).wf = true) (n : Nat) (hn : (Lit.int q (n : Int)).wf = true) :
    ((Instr.findKey k (.int q (n : Int)) es).run P w = .ok none w ∧ ∀ p ∈ L, p.1 ≠ n) ∨ ∃ j x, (Instr.findKey k (.int q (n : Int)) es).run P w = .ok (some (j, x.val)) w ∧ es[j]? = some x ∧ x.key = .int q (n : Int) ∧ (n, x.val) ∈ L := by
  rcases (Maps.int_keyed hk).find w (Maps.keyOf_int_mk hk hn) es (fun x hx => by
    obtain ⟨p, hp, e1, -⟩ := ents_mem he hx
    exact ⟨_, by rw [e1]; exact Maps.keyOf_int_mk hk (hw p hp)⟩) with ⟨h1, h2⟩ | ⟨j, x, h1, h2, h3⟩
  · refine .inl ⟨h1, fun p hp e1 => ?_⟩
    obtain ⟨x, hx, e2, -⟩ := ents_back he hp
    exact h2 x hx (by rw [e2, e1])
  · refine .inr ⟨j, x, h1, h2, h3, ?_⟩
    obtain ⟨p, hp, e1, e2⟩ := ents_mem he (List.mem_of_getElem? h2)
    rw [h3] at e1
    have := int_inj e1
    rw [this, e2]; exact hp
theorem mp_look {P : Program} {q : IntKind} {k t e : TypeId} (hk : P.underlying k = some (.int q)) (ht : P.underlying t = some (.map k e)) {w : World} {r : Nat} {L : List (Nat × Value)} (h : MpAt q w r L) {z : Value} (hz : (zeroValue e).run P w = .ok z w) (n : Nat) (hn : (Lit.int q (n : Int)).wf = true) (c : Bool) :
    ((∀ p ∈ L, p.1 ≠ n) ∧ (Instr.lookup t (.map (some r)) (.int q (n : Int)) c).run P w = .ok (if c then .tuple #[z, .bool false] else z) w) ∨ ∃ v, (n, v) ∈ L ∧ (Instr.lookup t (.map (some r)) (.int q (n : Int)) c).run P w = .ok (if c then .tuple #[v, .bool true] else v) w := by
  obtain ⟨es, clock, hb, he, -⟩ := h.ex
  rcases mp_find (w := w) hk he h.wf n hn with ⟨h1, h2⟩ | ⟨j, x, h1, h2, h3, h4⟩
  · left
    refine ⟨h2, ?_⟩
    simp [Instr.lookup, run_underlying ht, MapKept.run_getObj_map hb, (Maps.int_keyed hk).check w _ (Maps.keyOf_int_mk hk hn), h1, hz, Result.andThen]
  · right
    refine ⟨x.val, h4, ?_⟩
    simp [Instr.lookup, run_underlying ht, MapKept.run_getObj_map hb, (Maps.int_keyed hk).check w _ (Maps.keyOf_int_mk hk hn), h1, Result.andThen]
theorem touch_block {w : World} {r : Nat} {es : Array MapEntry} {clock : Nat} (hb : w.heap[r]? = some (.map es clock)) (o : Obj) : Touch (fun j => j = r) w (setBlock w r o) :=
  ⟨rfl, rfl, rfl, by simp [setBlock], fun j hj hne => heap_setBlock_other hb o hne⟩
theorem mp_store {P : Program} {q : IntKind} {k t e : TypeId} (hk : P.underlying k = some (.int q)) (ht : P.underlying t = some (.map k e)) {w : World} {r : Nat} {L : List (Nat × Value)} (h : MpAt q w r L) (n : Nat) (hn : (Lit.int q (n : Int)).wf = true) (hnew : ∀ p ∈ L, p.1 ≠ n) (v : Value) :
    ∃ w', (Instr.mapUpdate t (.map (some r)) (.int q (n : Int)) v).run P w = .ok () w' ∧ MpAt q w' r (L ++ [(n, v)]) ∧ Touch (fun j => j = r) w w' := by
  obtain ⟨es, clock, hb, he, hbn, hbc⟩ := h.ex
  rcases mp_find (w := w) hk he h.wf n hn with ⟨h1, h2⟩ | ⟨j, x, h1, h2, h3, h4⟩
  · refine ⟨setBlock w r (.map ((es ++ [(⟨.int q (n : Int), v, clock⟩ : MapEntry)]).toArray) (clock + 1)), ?_, ⟨⟨es ++ [(⟨.int q (n : Int), v, clock⟩ : MapEntry)], clock + 1, heap_setBlock_same hb _, ?_, ?_, ?_⟩, ?_, ?_⟩, touch_block hb _⟩
    · simp [Instr.mapUpdate, run_underlying ht, MapKept.run_getObj_map hb, (Maps.int_keyed hk).check w false (Maps.keyOf_int_mk hk hn), h1, MapKept.run_setObj_map _ hb, Result.andThen, setBlock]
    · unfold EntsAre at he ⊢
      rw [List.map_append, List.map_append, he]; rfl
    · rw [List.map_append, List.nodup_append]
      refine ⟨hbn, by simp, fun a ha b hb' => ?_⟩
      obtain ⟨x, hx, rfl⟩ := List.mem_map.1 ha
      simp at hb'; subst hb'
      have := hbc x hx; omega
    · intro x hx
      rcases List.mem_append.1 hx with hx | hx
      · have := hbc x hx; omega
      · simp at hx; subst hx; simp
    · rw [List.map_append, List.nodup_append]
      refine ⟨h.nd, by simp, fun a ha b hb' => ?_⟩
      obtain ⟨p, hp, rfl⟩ := List.mem_map.1 ha
      simp at hb'; subst hb'
      exact hnew p hp
    · intro p hp
      rcases List.mem_append.1 hp with hp | hp
      · exact h.wf p hp
      · simp at hp; subst hp; exact hn
  · exact absurd rfl (hnew _ h4)
theorem erase_filter {q : IntKind} {es : List MapEntry} {L : List (Nat × Value)} (he : EntsAre q es L) (nd : (L.map (·.1)).Nodup) (j : Nat) (x : MapEntry) (n : Nat) (hj : es[j]? = some x) (hx : x.key = .int q (n : Int)) : EntsAre q (es.eraseIdx j) (L.filter (fun p => p.1 != n)) := by
  induction es generalizing L j with
  | nil => simp at hj
  | cons y es ih =>
    cases L with
    | nil => simp [EntsAre] at he
    | cons p L =>
      unfold EntsAre at he
      simp only [List.map_cons, List.cons.injEq, Prod.mk.injEq] at he
      obtain ⟨⟨e1, e2⟩, e3⟩ := he
      simp only [List.map_cons, List.nodup_cons] at nd
      cases j with
      | zero =>
        simp at hj; subst hj
        rw [hx] at e1
        have hn := int_inj e1
        have hf : (p :: L).filter (fun p => p.1 != n) = L := by
          rw [List.filter_cons_of_neg (by simp [hn])]
          refine List.filter_eq_self.2 fun z hz => ?_
          have : z.1 ≠ p.1 := fun e => nd.1 (by rw [← e]; exact List.mem_map.2 ⟨z, hz, rfl⟩)
          simp; omega
        rw [hf]; exact e3
      | succ j =>
        have hj' : es[j]? = some x := by simpa using hj
        have hne : p.1 ≠ n := fun e => by
          obtain ⟨p', hp', e4, -⟩ := ents_mem (q := q) (L := L) e3 (List.mem_of_getElem? hj')
          rw [hx] at e4
          have := int_inj e4
          exact nd.1 (List.mem_map.2 ⟨p', hp', by omega⟩)
        rw [List.filter_cons_of_pos (by simpa using hne)]
        have := ih e3 nd.2 j hj'
        unfold EntsAre at this ⊢
        simp only [List.eraseIdx_cons_succ, List.map_cons, this, e1, e2]
theorem mp_drop {ty : TypeId} {P : Program} {q : IntKind} {k t e : TypeId} (hk : P.underlying k = some (.int q)) (ht : P.underlying t = some (.map k e)) {w : World} {r : Nat} {L : List (Nat × Value)} (h : MpAt q w r L) (n : Nat) (hn : (Lit.int q (n : Int)).wf = true) (v : Value) (hin : (n, v) ∈ L) :
    ∃ w', (Builtin.delete_ #[t, k] ty #[.map (some r), .int q (n : Int)]).run P w = .ok (.tuple #[]) w' ∧ MpAt q w' r (L.filter (fun p => p.1 != n)) ∧ Touch (fun j => j = r) w w' := by
  obtain ⟨es, clock, hb, he, hbn, hbc⟩ := h.ex
  rcases mp_find (w := w) hk he h.wf n hn with ⟨h1, h2⟩ | ⟨j, x, h1, h2, h3, h4⟩
  · exact absurd rfl (h2 _ hin)
  · have hjl : j < es.length := (List.getElem?_eq_some_iff.1 h2).1
    refine ⟨setBlock w r (.map ((es.eraseIdx j).toArray) clock), ?_, ⟨⟨es.eraseIdx j, clock, heap_setBlock_same hb _, erase_filter he h.nd j x n h2 h3, ?_, fun y hy => hbc y ((List.eraseIdx_sublist _ _).subset hy)⟩, ?_, fun p hp => h.wf p (List.mem_filter.1 hp).1⟩, touch_block hb _⟩
    · simp [Builtin.delete_, run_underlying ht, MapKept.run_getObj_map hb, (Maps.int_keyed hk).check w _ (Maps.keyOf_int_mk hk hn), h1, MapKept.run_setObj_map _ hb, Result.andThen, setBlock, Array.eraseIdxIfInBounds, hjl]
    · rw [map_eraseIdx]; exact hbn.sublist (List.eraseIdx_sublist _ _)
    · exact h.nd.sublist ((List.filter_sublist).map _)
end Go.Proofs.Ytcbadcbnknmdnaa
namespace Go.Proofs.Ytcbadcbnknmdnaa
open Go.RowKit
set_option linter.unusedVariables false

def distW (a b : Nat) : Nat := (a + 4294967296 - b) % 4294967296
theorem distW_lt (a b : Nat) : distW a b < 4294967296 := Nat.mod_lt _ (by decide)
theorem wrap_sub (a b : Nat) (ha : a < 4294967296) (hb : b < 4294967296) : IntKind.u32.wrap ((a : Int) - (b : Int)) = (distW a b : Nat) := by
  unfold distW
  rw [IntKind.wrap_u32]
  omega
theorem wrap_succ (a : Nat) (ha : a < 4294967296) : IntKind.u32.wrap ((a : Int) + 1) = (((a + 1) % 4294967296 : Nat) : Int) := by
  rw [IntKind.wrap_u32]
  omega
theorem wf_u32 (n : Nat) (h : n < 4294967296) : (Lit.int .u32 (n : Int)).wf = true := by
  simp [Lit.wf, IntKind.min, IntKind.max, IntKind.signed, IntKind.bits]; omega
def belowB (a b : Nat) : Bool := decide (2147483648 ≤ distW a b)
/-- What is awaited, what waits. -/
structure Ws where
  nx : Nat
  l : List (Nat × List UInt8)
def itV (n : Nat) (t : List UInt8) : Value := .agg #[.int .u32 (n : Int), .string (bs t)]
def entL (l : List (Nat × List UInt8)) : List (Nat × Value) := l.map (fun p => (p.1, itV p.1 p.2))
theorem entL_keys (l : List (Nat × List UInt8)) : (entL l).map (·.1) = l.map (·.1) := by simp [entL]
theorem entL_filter (l : List (Nat × List UInt8)) (n : Nat) : (entL l).filter (fun p => p.1 != n) = entL (l.filter (fun p => p.1 != n)) := by
  unfold entL; rw [List.filter_map]; rfl
theorem entL_mem {l : List (Nat × List UInt8)} {n : Nat} {v : Value} (h : (n, v) ∈ entL l) : ∃ t, (n, t) ∈ l ∧ v = itV n t := by
  obtain ⟨p, hp, e⟩ := List.mem_map.1 h
  simp only [Prod.mk.injEq] at e
  obtain ⟨rfl, rfl⟩ := e
  exact ⟨p.2, hp, rfl⟩
structure WAt (w : World) (b r : Nat) (s : Ws) : Prop where
  c0 : w.cell? ⟨b, 0, none⟩ = some (.int .u32 (s.nx : Int))
  c1 : w.cell? ⟨b, 1, none⟩ = some (.map (some r))
  f0 : w.frozen? ⟨b, 0, none⟩ = false
  f1 : w.frozen? ⟨b, 1, none⟩ = false
  mp : MpAt .u32 w r (entL s.l)
  nx : s.nx < 4294967296
  ne : r ≠ b
theorem WAt.lt {w : World} {b r : Nat} {s : Ws} (h : WAt w b r s) : b < w.heap.size := block_lt_of_cell h.c0
theorem WAt.touch {S : Nat → Prop} {w w' : World} {b r : Nat} {s : Ws} (h : WAt w b r s) (ht : Touch S w w') (hb : ¬ S b) (hr : ¬ S r) : WAt w' b r s :=
  ⟨(ht.cell (p := ⟨b, 0, none⟩) h.lt hb).trans h.c0, (ht.cell (p := ⟨b, 1, none⟩) h.lt hb).trans h.c1, (ht.frozen (p := ⟨b, 0, none⟩) h.lt hb).trans h.f0, (ht.frozen (p := ⟨b, 1, none⟩) h.lt hb).trans h.f1, h.mp.touch ht hr, h.nx, h.ne⟩
theorem WAt.keep {w w' : World} {b r : Nat} {s : Ws} (h : WAt w b r s) (hb : Below w.heap.size w w') : WAt w' b r s := h.touch (touch_of_below (S := fun _ => False) hb) id id
/-- One look-up: the thing, or none. -/
def findW (l : List (Nat × List UInt8)) (n : Nat) : Option (List UInt8) := (l.find? (fun p => p.1 == n)).map (·.2)
theorem findW_of {l : List (Nat × List UInt8)} {n : Nat} {t : List UInt8} (nd : (l.map (·.1)).Nodup) (h : (n, t) ∈ l) : findW l n = some t := by
  unfold findW
  induction l with
  | nil => simp at h
  | cons p l ih =>
    simp only [List.map_cons, List.nodup_cons] at nd
    rcases List.mem_cons.1 h with e | e
    · subst e; simp
    · have hne : p.1 ≠ n := fun e2 => nd.1 (by rw [e2]; exact List.mem_map.2 ⟨_, e, rfl⟩)
      rw [List.find?_cons_of_neg (by simpa using hne)]
      exact ih nd.2 e
theorem findW_none {l : List (Nat × List UInt8)} {n : Nat} (h : ∀ p ∈ l, p.1 ≠ n) : findW l n = none := by
  unfold findW
  rw [List.find?_eq_none.2 (fun p hp => by simpa using h p hp)]; rfl
theorem WAt.next {w : World} {b r : Nat} {s : Ws} (h : WAt w b r s) (m : Nat) (hm : m < 4294967296) : WAt (w.setCell ⟨b, 0, none⟩ (.int .u32 (m : Int))) b r ⟨m, s.l⟩ := by
  have ht : Touch (fun k => k = b) w (w.setCell ⟨b, 0, none⟩ (.int .u32 (m : Int))) := (Touch.refl (fun k => k = b) w).setCell (p := ⟨b, 0, none⟩) (fun _ => rfl) _
  exact ⟨World.cell?_setCell_same _ _ _ h.c0, (World.cell?_setCell_other _ _ _ _ (by simp)).trans h.c1, by simpa using h.f0, by simpa using h.f1, h.mp.touch ht h.ne, hm, h.ne⟩
end Go.Proofs.Ytcbadcbnknmdnaa
namespace Go.Proofs.Ytcbadcbnknmdnaa
open Go.RowKit
set_option linter.unusedVariables false

/-- The awaited ones, as long as they wait. -/
def goW : Nat → Ws → Ws × List (List UInt8)
  | 0, s => (s, [])
  | f + 1, s => match findW s.l s.nx with
    | none => (s, [])
    | some t => ((goW f ⟨(s.nx + 1) % 4294967296, s.l.filter (fun p => p.1 != s.nx)⟩).1, t :: (goW f ⟨(s.nx + 1) % 4294967296, s.l.filter (fun p => p.1 != s.nx)⟩).2)
theorem goW_none {f : Nat} {s : Ws} (h : findW s.l s.nx = none) : goW f s = (s, []) := by
  cases f with
  | zero => rfl
  | succ f => simp [goW, h]
theorem goW_some {f : Nat} {s : Ws} {t : List UInt8} (h : findW s.l s.nx = some t) : goW (f + 1) s = ((goW f ⟨(s.nx + 1) % 4294967296, s.l.filter (fun p => p.1 != s.nx)⟩).1, t :: (goW f ⟨(s.nx + 1) % 4294967296, s.l.filter (fun p => p.1 != s.nx)⟩).2) := by
  simp [goW, h]
theorem filter_less {l : List (Nat × List UInt8)} {n : Nat} {t : List UInt8} (h : (n, t) ∈ l) : (l.filter (fun p => p.1 != n)).length < l.length := by
  have : (l.filter (fun p => p.1 != n)).length ≠ l.length := fun e => by
    have := List.filter_eq_self.1 (List.length_filter_eq_length_iff.1 e |> fun hh => List.filter_eq_self.2 hh) (n, t) h
    simp at this
  have := List.length_filter_le (fun p : Nat × List UInt8 => p.1 != n) l
  omega
/-- What came at b, its map at r; what went out, in a row of its own. -/
structure GoMem (w : World) (b r : Nat) (s : Ws) (a : Option Addr) (c : Nat) (ts : List (List UInt8)) (wr : World) : Prop where
  wa : WAt wr b r s
  row : OwnV 9 1 w.heap.size a c (ts.map strCells1) wr
  tch : Touch (fun k => k = b ∨ k = r) w wr
theorem GoMem.keep {w : World} {b r : Nat} {s : Ws} {a : Option Addr} {c : Nat} {ts : List (List UInt8)} {wr w' : World} (h : GoMem w b r s a c ts wr) (hb : Below wr.heap.size wr w') : GoMem w b r s a c ts w' :=
  ⟨h.wa.keep hb, h.row.touch (touch_of_below (S := fun _ => False) hb) (fun _ _ => id), h.tch.trans' (touch_of_below (S := fun _ => False) hb) (fun _ _ => False.elim)⟩
theorem GoMem.text {w : World} {b r : Nat} {s : Ws} {a : Option Addr} {c : Nat} {ts : List (List UInt8)} {wr : World} (h : GoMem w b r s a c ts wr) (hbw : b < w.heap.size) (hrw : r < w.heap.size) (t : List UInt8) (n : Nat) (hn : ts.length = n) (hl : n ≤ 100000) :
    ∃ a' c' w', (Builtin.append_ #[188, 188] 188 #[.slice a n c, .slice (some ⟨wr.heap.size, 0, none⟩) 1 1]).run Try.prog (wr.alloc (.cells #[.string (bs t)] 9)) = .ok (.slice a' (n + 1) c') w' ∧ GoMem w b r s a' c' (ts ++ [t]) w' ∧ Touch (fun k => a.map (·.block) = some k) wr w' := by
  subst hn
  obtain ⟨a', c', w', hrun, hnew, htch⟩ := h.row.one (t := 188) (ty := 188) strTy Try.underlying188 h.tch.size (strCells1 t) (by have := str_wide [t] (strCells1 t) (by simp); exact this) (by simp; omega) _ rfl
  simp only [List.length_map] at hrun
  have nlo : ∀ k, k < w.heap.size → ¬ a.map (·.block) = some k := fun k hk e => by
    cases a with
    | none => simp at e
    | some x => simp at e; have := h.row.2 x rfl; omega
  exact ⟨a', c', w', hrun, ⟨h.wa.touch htch (nlo b hbw) (nlo r hrw), by rw [List.map_append]; exact hnew, h.tch.trans' htch (fun k hk e => absurd e (nlo k hk))⟩, htch⟩
theorem GoMem.next {w : World} {b r : Nat} {s : Ws} {a : Option Addr} {c : Nat} {ts : List (List UInt8)} {wr : World} (h : GoMem w b r s a c ts wr) (hbw : b < w.heap.size) (m : Nat) (hm : m < 4294967296) : GoMem w b r ⟨m, s.l⟩ a c ts (wr.setCell ⟨b, 0, none⟩ (.int .u32 (m : Int))) := by
  have ht : Touch (fun k => k = b) wr (wr.setCell ⟨b, 0, none⟩ (.int .u32 (m : Int))) := (Touch.refl (fun k => k = b) wr).setCell (p := ⟨b, 0, none⟩) (fun _ => rfl) _
  exact ⟨h.wa.next m hm, h.row.touch ht (fun x hx e => by have := h.row.2 x hx; omega), h.tch.trans' ht (fun k hk e => .inl e)⟩
def GoPost (w : World) (b r : Nat) (s' : Ws) (ts : List (List UInt8)) (e : Ending) (w' : World) : Prop := ∃ a c, e = .returned (.slice a ts.length c) ∧ GoMem w b r s' a c ts w'
end Go.Proofs.Ytcbadcbnknmdnaa
namespace Go.Proofs.Ytcbadcbnknmdnaa
open Go.RowKit
set_option linter.unusedVariables false

/-- Nothing waits yet, and there is no map. -/
structure W0At (w : World) (b nx : Nat) : Prop where
  c0 : w.cell? ⟨b, 0, none⟩ = some (.int .u32 (nx : Int))
  c1 : w.cell? ⟨b, 1, none⟩ = some (.map none)
  f0 : w.frozen? ⟨b, 0, none⟩ = false
  f1 : w.frozen? ⟨b, 1, none⟩ = false
  nx : nx < 4294967296
theorem W0At.lt {w : World} {b nx : Nat} (h : W0At w b nx) : b < w.heap.size := block_lt_of_cell h.c0
theorem W0At.touch {S : Nat → Prop} {w w' : World} {b nx : Nat} (h : W0At w b nx) (ht : Touch S w w') (hb : ¬ S b) : W0At w' b nx :=
  ⟨(ht.cell (p := ⟨b, 0, none⟩) h.lt hb).trans h.c0, (ht.cell (p := ⟨b, 1, none⟩) h.lt hb).trans h.c1, (ht.frozen (p := ⟨b, 0, none⟩) h.lt hb).trans h.f0, (ht.frozen (p := ⟨b, 1, none⟩) h.lt hb).trans h.f1, h.nx⟩
theorem W0At.keep {w w' : World} {b nx : Nat} (h : W0At w b nx) (hb : Below w.heap.size w w') : W0At w' b nx := h.touch (touch_of_below (S := fun _ => False) hb) id
/-- What came: with a map, or without one. -/
def WI (w : World) (b : Nat) (mo : Option Nat) (s : Ws) : Prop := (mo = none ∧ s.l = [] ∧ W0At w b s.nx) ∨ ∃ r, mo = some r ∧ WAt w b r s
theorem WI.keep {w w' : World} {b : Nat} {mo : Option Nat} {s : Ws} (h : WI w b mo s) (hb : Below w.heap.size w w') : WI w' b mo s := by
  rcases h with ⟨h1, h2, h3⟩ | ⟨r, h1, h2⟩
  · exact .inl ⟨h1, h2, h3.keep hb⟩
  · exact .inr ⟨r, h1, h2.keep hb⟩
theorem WI.touch {S : Nat → Prop} {w w' : World} {b : Nat} {mo : Option Nat} {s : Ws} (h : WI w b mo s) (ht : Touch S w w') (hb : ¬ S b) (hm : ∀ r, mo = some r → ¬ S r) : WI w' b mo s := by
  rcases h with ⟨h1, h2, h3⟩ | ⟨r, h1, h2⟩
  · exact .inl ⟨h1, h2, h3.touch ht hb⟩
  · exact .inr ⟨r, h1, h2.touch ht hb (hm r h1)⟩
theorem WI.lt {w : World} {b : Nat} {mo : Option Nat} {s : Ws} (h : WI w b mo s) : b < w.heap.size := by
  rcases h with ⟨h1, h2, h3⟩ | ⟨r, h1, h2⟩
  · exact h3.lt
  · exact h2.lt
theorem WI.nx {w : World} {b : Nat} {mo : Option Nat} {s : Ws} (h : WI w b mo s) : s.nx < 4294967296 := by
  rcases h with ⟨h1, h2, h3⟩ | ⟨r, h1, h2⟩
  · exact h3.nx
  · exact h2.nx
def putW (s : Ws) (n : Nat) (t : List UInt8) : Ws × List (List UInt8) × Nat :=
  if belowB n s.nx = true then (s, [], 11) else if 32 < distW n s.nx then (s, [], 8) else if findW s.l n ≠ none then (s, [], 10)
  else ((goW (s.l.length + 2) ⟨s.nx, s.l ++ [(n, t)]⟩).1, (goW (s.l.length + 2) ⟨s.nx, s.l ++ [(n, t)]⟩).2, 0)
def InPost (w : World) (b : Nat) (mo : Option Nat) (t : Ws × List (List UInt8) × Nat) (e : Ending) (w' : World) : Prop :=
  ∃ a c mo', e = .returned (.tuple #[.slice a t.2.1.length c, .int .i64 (t.2.2 : Nat)]) ∧ WI w' b mo' t.1 ∧ (∀ r, mo' = some r → mo = some r ∨ w.heap.size ≤ r) ∧ OwnV 9 1 w.heap.size a c (t.2.1.map strCells1) w' ∧ Touch (fun k => k = b ∨ mo = some k) w w'
theorem inPost_none {w w' : World} {b : Nat} {mo : Option Nat} {s : Ws} {e : Nat} (h : WI w b mo s) (hb : Below w.heap.size w w') : InPost w b mo (s, [], e) (.returned (.tuple #[.slice none 0 0, .int .i64 (e : Nat)])) w' :=
  ⟨none, 0, mo, rfl, h.keep hb, fun r hr => .inl hr, ⟨World.ownsRow_nil _ _ _ _, (fun x hx => by cases hx)⟩, touch_of_below hb⟩
theorem drewN_bel (w : World) (n : Nat) : Below w.heap.size w (w.drewN n) := ⟨rfl, rfl, rfl, Nat.le_refl _, fun _ _ => rfl⟩
end Go.Proofs.Ytcbadcbnknmdnaa
namespace Go.Proofs.Ytcbadcbnknmdnaa
open Go.RowKit
set_option linter.unusedVariables false

/-- The thing's box at X, what came at b. -/
structure PuMem (w : World) (b X : Nat) (mo : Option Nat) (s : Ws) (n : Nat) (t : List UInt8) (wx : World) : Prop where
  x0 : wx.cell? ⟨X, 0, none⟩ = some (.int .u32 (n : Int))
  x1 : wx.cell? ⟨X, 1, none⟩ = some (.string (bs t))
  wi : WI wx b mo s
  bel : Below w.heap.size w wx
theorem PuMem.keep {w : World} {b X : Nat} {mo : Option Nat} {s : Ws} {n : Nat} {t : List UInt8} {wx w' : World} (h : PuMem w b X mo s n t wx) (hb : Below wx.heap.size wx w') : PuMem w b X mo s n t w' :=
  ⟨(hb.cell (p := ⟨X, 0, none⟩) (block_lt_of_cell h.x0)).trans h.x0, (hb.cell (p := ⟨X, 1, none⟩) (block_lt_of_cell h.x1)).trans h.x1, h.wi.keep hb, h.bel.trans (hb.mono h.bel.size)⟩
theorem WI.c0 {w : World} {b : Nat} {mo : Option Nat} {s : Ws} (h : WI w b mo s) : w.cell? ⟨b, 0, none⟩ = some (.int .u32 (s.nx : Int)) := by
  rcases h with ⟨h1, h2, h3⟩ | ⟨r, h1, h2⟩
  · exact h3.c0
  · exact h2.c0
theorem WI.c1 {w : World} {b : Nat} {mo : Option Nat} {s : Ws} (h : WI w b mo s) : w.cell? ⟨b, 1, none⟩ = some (.map mo) := by
  rcases h with ⟨h1, h2, h3⟩ | ⟨r, h1, h2⟩
  · rw [h1]; exact h3.c1
  · rw [h1]; exact h2.c1
/-- The same, with a map. -/
structure PuIn (w : World) (b X r : Nat) (mo : Option Nat) (s : Ws) (n : Nat) (t : List UInt8) (wx : World) : Prop where
  x0 : wx.cell? ⟨X, 0, none⟩ = some (.int .u32 (n : Int))
  x1 : wx.cell? ⟨X, 1, none⟩ = some (.string (bs t))
  wa : WAt wx b r s
  fr : mo = some r ∨ w.heap.size ≤ r
  tch : Touch (fun k => k = b ∨ mo = some k) w wx
theorem PuMem.made {w : World} {b X : Nat} {s : Ws} {n : Nat} {t : List UInt8} {wx : World} (h : PuMem w b X none s n t wx) (hX : X = w.heap.size) (hbw : b < w.heap.size) : PuIn w b X wx.heap.size none s n t ((wx.setCell ⟨b, 1, none⟩ (.map (some wx.heap.size))).alloc (.map #[] 0)) := by
  have hs := h.bel.size
  obtain ⟨-, hl, h3⟩ : (none : Option Nat) = none ∧ s.l = [] ∧ W0At wx b s.nx := by
    rcases h.wi with h1 | ⟨r, h1, -⟩
    · exact h1
    · cases h1
  have ht : Touch (fun k => k = b) wx (wx.setCell ⟨b, 1, none⟩ (.map (some wx.heap.size))) := (Touch.refl (fun k => k = b) _).setCell (p := ⟨b, 1, none⟩) (fun _ => rfl) _
  have hsz : (wx.setCell ⟨b, 1, none⟩ (.map (some wx.heap.size))).heap.size = wx.heap.size := by simp
  have c0 : (wx.setCell ⟨b, 1, none⟩ (.map (some wx.heap.size))).cell? ⟨b, 0, none⟩ = some (.int .u32 (s.nx : Int)) := (World.cell?_setCell_other _ _ _ _ (by simp)).trans h3.c0
  have c1 : (wx.setCell ⟨b, 1, none⟩ (.map (some wx.heap.size))).cell? ⟨b, 1, none⟩ = some (.map (some wx.heap.size)) := World.cell?_setCell_same _ _ _ h3.c1
  have f0 : (wx.setCell ⟨b, 1, none⟩ (.map (some wx.heap.size))).frozen? ⟨b, 0, none⟩ = false := by simpa using h3.f0
  have f1 : (wx.setCell ⟨b, 1, none⟩ (.map (some wx.heap.size))).frozen? ⟨b, 1, none⟩ = false := by simpa using h3.f1
  have x0 := (ht.cell (p := ⟨X, 0, none⟩) (block_lt_of_cell h.x0) (by show ¬ X = b; omega)).trans h.x0
  have x1 := (ht.cell (p := ⟨X, 1, none⟩) (block_lt_of_cell h.x1) (by show ¬ X = b; omega)).trans h.x1
  have hT := (touch_of_below (S := fun k => k = b ∨ (none : Option Nat) = some k) h.bel).setCell (p := ⟨b, 1, none⟩) (fun _ => .inl rfl) (.map (some wx.heap.size))
  have hbl := h3.lt
  generalize hW : wx.setCell ⟨b, 1, none⟩ (.map (some wx.heap.size)) = W' at hsz c0 c1 f0 f1 x0 x1 hT
  have hb' : b < W'.heap.size := by omega
  have hm := MpAt.made .u32 W'
  rw [hsz] at hm
  exact ⟨alloc_cell x0 _, alloc_cell x1 _, ⟨alloc_cell c0 _, alloc_cell c1 _, (frozen_old _ _ _ hb').trans f0, (frozen_old _ _ _ hb').trans f1, by rw [hl]; exact hm, h3.nx, by omega⟩, .inr hs, hT.alloc _⟩
theorem PuIn.post {w : World} {b X r : Nat} {mo : Option Nat} {s : Ws} {n : Nat} {t : List UInt8} {wx w5 w6 : World} (h : PuIn w b X r mo s n t wx) (ht : Touch (fun j => j = r) wx w5) {s' : Ws} {ts : List (List UInt8)} {a : Option Addr} {c : Nat} (hg : GoMem w5 b r s' a c ts w6) : InPost w b mo (s', ts, 0) (.returned (.tuple #[.slice a ts.length c, .int .i64 0])) w6 := by
  have hs := h.tch.size
  have hs5 := ht.size
  refine ⟨a, c, some r, rfl, .inr ⟨r, rfl, hg.wa⟩, fun r' hr => by cases hr; exact h.fr, ⟨hg.row.1, fun x hx => by have := hg.row.2 x hx; omega⟩, (h.tch.trans' ht fun k hk e => ?_).trans' hg.tch fun k hk e => ?_⟩
  · rcases h.fr with e2 | e2
    · right; rw [e2]; exact congrArg some e.symm
    · omega
  · rcases e with e | e
    · exact .inl e
    · rcases h.fr with e2 | e2
      · right; rw [e2]; exact congrArg some e.symm
      · omega
end Go.Proofs.Ytcbadcbnknmdnaa
namespace Go.Proofs.Ytcbadcbnknmdnaa
open Go.RowKit Go.ChangeMaps
set_option linter.unusedVariables false

/-- All that wait are ahead of the awaited one, at most 32. -/
def OkW (s : Ws) : Prop := ∀ p ∈ s.l, p.1 < 4294967296 ∧ 1 ≤ distW p.1 s.nx ∧ distW p.1 s.nx ≤ 32
/-- The bits that tell of those entries whose stamps were seen. -/
def BitsOf (nx : Nat) (es : List MapEntry) (seen : Array Nat) (B : Nat) : Prop :=
  B < 4294967296 ∧ ∀ k, B.testBit k = true ↔ ∃ x ∈ es, seen.contains x.born = true ∧ ∃ n : Nat, x.key = .int .u32 (n : Int) ∧ distW n nx = k + 1
theorem bits_none (nx : Nat) (es : List MapEntry) : BitsOf nx es #[] 0 := ⟨by decide, fun k => by simp⟩
theorem bits_more {nx : Nat} {es : List MapEntry} {seen : Array Nat} {B : Nat} (h : BitsOf nx es seen B) {x : MapEntry} (hx : x ∈ es) (hn : (es.map (·.born)).Nodup) {n k : Nat} (hk : x.key = .int .u32 (n : Int)) (hd : distW n nx = k + 1) (hk32 : k < 32) : BitsOf nx es (seen.push x.born) (B ||| 2 ^ k) := by
  have h2 : 2 ^ k < 4294967296 := Nat.lt_of_lt_of_le (Nat.pow_lt_pow_right (by decide) hk32) (by decide)
  refine ⟨Nat.or_lt_two_pow (n := 32) h.1 h2, fun j => ?_⟩
  rw [Nat.testBit_or, Bool.or_eq_true, h.2 j, Nat.testBit_two_pow]
  constructor
  · rintro (⟨y, hy, hs, hrest⟩ | e)
    · exact ⟨y, hy, by rw [contains_push, hs]; rfl, hrest⟩
    · have e' : k = j := by simpa using e
      exact ⟨x, hx, by rw [contains_push]; simp, n, hk, by omega⟩
  · rintro ⟨y, hy, hs, m, hm, hdm⟩
    rw [contains_push, Bool.or_eq_true] at hs
    rcases hs with hs | hs
    · exact .inl ⟨y, hy, hs, m, hm, hdm⟩
    · right
      have e1 : y.born = x.born := by simpa using hs
      have e2 : y = x := by
        have f1 := find_born y es hn hy
        have f2 := find_born x es hn hx
        rw [e1, f2] at f1
        exact (Option.some.inj f1).symm
      subst e2
      rw [hk] at hm
      have := int_inj hm
      subst this
      simp; omega
/-- While the map is gone through: the answer's box R, the ack at R + 1, what goes through the map at R + 2. -/
structure AcMem (w : World) (b r nx : Nat) (es : List MapEntry) (clock : Nat) (seen : Array Nat) (B : Nat) (W : World) : Prop where
  it : W.heap[w.heap.size + 1 + 1]? = some (.mapIter (some r) clock seen clock)
  hb : W.heap[r]? = some (.map es.toArray clock)
  a0 : W.cell? ⟨w.heap.size + 1, 0, none⟩ = some (.int .u32 (nx : Int))
  a1 : W.cell? ⟨w.heap.size + 1, 1, none⟩ = some (.int .u32 (B : Int))
  af : W.frozen? ⟨w.heap.size + 1, 1, none⟩ = false
  b0 : W.cell? ⟨b, 0, none⟩ = some (.int .u32 (nx : Int))
  r0 : ∃ v, W.cell? ⟨w.heap.size, 0, none⟩ = some v
  r1 : ∃ v, W.cell? ⟨w.heap.size, 1, none⟩ = some v
  rf : ∀ j, W.frozen? ⟨w.heap.size, j, none⟩ = false
  bel : Below w.heap.size w W
theorem set_other (w : World) (N : Nat) (o : Obj) : Touch (fun j => j = N) w (setBlock w N o) :=
  ⟨rfl, rfl, rfl, by simp [setBlock], fun j hj hne => by
    show (w.heap.setIfInBounds N o)[j]? = w.heap[j]?
    rw [Array.getElem?_setIfInBounds_ne (fun e => hne e.symm)]⟩
theorem AcMem.step {w : World} {b r nx : Nat} {es : List MapEntry} {clock : Nat} {seen : Array Nat} {B : Nat} {W : World} (h : AcMem w b r nx es clock seen B W) (hbw : b < w.heap.size) (hrw : r < w.heap.size) (seen' : Array Nat) : AcMem w b r nx es clock seen' B (setBlock W (w.heap.size + 1 + 1) (.mapIter (some r) clock seen' clock)) := by
  have ht := set_other W (w.heap.size + 1 + 1) (.mapIter (some r) clock seen' clock)
  have hN : w.heap.size + 1 + 1 < W.heap.size := (Array.getElem?_eq_some_iff.1 h.it).1
  obtain ⟨v0, h0⟩ := h.r0
  obtain ⟨v1, h1⟩ := h.r1
  refine ⟨?_, (ht.block r (by omega) (by omega)).trans h.hb, (ht.cell (p := ⟨w.heap.size + 1, 0, none⟩) (by show w.heap.size + 1 < _; omega) (by show ¬ w.heap.size + 1 = _; omega)).trans h.a0, (ht.cell (p := ⟨w.heap.size + 1, 1, none⟩) (by show w.heap.size + 1 < _; omega) (by show ¬ w.heap.size + 1 = _; omega)).trans h.a1, (ht.frozen (p := ⟨w.heap.size + 1, 1, none⟩) (by show w.heap.size + 1 < _; omega) (by show ¬ w.heap.size + 1 = _; omega)).trans h.af, (ht.cell (p := ⟨b, 0, none⟩) (by show b < _; omega) (by show ¬ b = _; omega)).trans h.b0,
    ⟨v0, (ht.cell (p := ⟨w.heap.size, 0, none⟩) (by show w.heap.size < _; omega) (by show ¬ w.heap.size = _; omega)).trans h0⟩, ⟨v1, (ht.cell (p := ⟨w.heap.size, 1, none⟩) (by show w.heap.size < _; omega) (by show ¬ w.heap.size = _; omega)).trans h1⟩, fun j => (ht.frozen (p := ⟨w.heap.size, j, none⟩) (by show w.heap.size < _; omega) (by show ¬ w.heap.size = _; omega)).trans (h.rf j), h.bel.trans (ht.below h.bel.size fun k hk e => by omega)⟩
  show (W.heap.setIfInBounds (w.heap.size + 1 + 1) _)[w.heap.size + 1 + 1]? = _
  rw [Array.getElem?_setIfInBounds_self_of_lt hN]
theorem AcMem.drew {w : World} {b r nx : Nat} {es : List MapEntry} {clock : Nat} {seen : Array Nat} {B : Nat} {W : World} (h : AcMem w b r nx es clock seen B W) : AcMem w b r nx es clock seen B W.drew := ⟨h.it, h.hb, h.a0, h.a1, h.af, h.b0, h.r0, h.r1, h.rf, h.bel.drew⟩
theorem AcMem.bit {w : World} {b r nx : Nat} {es : List MapEntry} {clock : Nat} {seen : Array Nat} {B : Nat} {W : World} (h : AcMem w b r nx es clock seen B W) (hbw : b < w.heap.size) (hrw : r < w.heap.size) (B' : Nat) : AcMem w b r nx es clock seen B' (W.setCell ⟨w.heap.size + 1, 1, none⟩ (.int .u32 (B' : Int))) := by
  have ht : Touch (fun k => k = w.heap.size + 1) W (W.setCell ⟨w.heap.size + 1, 1, none⟩ (.int .u32 (B' : Int))) := (Touch.refl (fun k => k = w.heap.size + 1) W).setCell (p := ⟨w.heap.size + 1, 1, none⟩) (fun _ => rfl) _
  have hN : w.heap.size + 1 + 1 < W.heap.size := (Array.getElem?_eq_some_iff.1 h.it).1
  obtain ⟨v0, h0⟩ := h.r0
  obtain ⟨v1, h1⟩ := h.r1
  exact ⟨(ht.block _ hN (by omega)).trans h.it, (ht.block r (by omega) (by omega)).trans h.hb, (World.cell?_setCell_other _ _ _ _ (by simp)).trans h.a0, World.cell?_setCell_same _ _ _ h.a1, by simpa using h.af, (ht.cell (p := ⟨b, 0, none⟩) (by show b < _; omega) (by show ¬ b = _; omega)).trans h.b0,
    ⟨v0, (ht.cell (p := ⟨w.heap.size, 0, none⟩) (by show w.heap.size < _; omega) (by show ¬ w.heap.size = _; omega)).trans h0⟩, ⟨v1, (ht.cell (p := ⟨w.heap.size, 1, none⟩) (by show w.heap.size < _; omega) (by show ¬ w.heap.size = _; omega)).trans h1⟩, fun j => (ht.frozen (p := ⟨w.heap.size, j, none⟩) (by show w.heap.size < _; omega) (by show ¬ w.heap.size = _; omega)).trans (h.rf j), h.bel.trans (ht.below h.bel.size fun k hk e => by omega)⟩
theorem bits_all {nx : Nat} {s : Ws} {es : List MapEntry} {seen : Array Nat} {B : Nat} (he : EntsAre .u32 es (entL s.l)) (h : BitsOf nx es seen B) (h0 : (leftOf es.toArray seen).size = 0) : ∀ k, B.testBit k = true ↔ ∃ p ∈ s.l, distW p.1 nx = k + 1 := by
  intro k
  rw [h.2 k]
  constructor
  · rintro ⟨x, hx, -, n, hn, hd⟩
    obtain ⟨p, hp, e1, -⟩ := ents_mem he hx
    obtain ⟨q, hq, rfl⟩ := List.mem_map.1 hp
    rw [hn] at e1
    have := int_inj e1
    exact ⟨q, hq, by simp only at this; rw [← this]; exact hd⟩
  · rintro ⟨p, hp, hd⟩
    obtain ⟨x, hx, e1, -⟩ := ents_back he (show (p.1, itV p.1 p.2) ∈ entL s.l from List.mem_map.2 ⟨p, hp, rfl⟩)
    refine ⟨x, hx, ?_, p.1, e1, hd⟩
    cases hc : seen.contains x.born with
    | true => rfl
    | false =>
      have hm : x ∈ leftOf es.toArray seen := by
        unfold leftOf
        exact Array.mem_filter.2 ⟨by simpa using hx, by rw [hc]; rfl⟩
      have := Array.size_pos_of_mem hm
      omega
theorem or_bit (B k : Nat) (hB : B < 4294967296) (hk : k < 32) : bits .or .u32 (B : Int) ((2 : Int) ^ k % 4294967296) = ((B ||| 2 ^ k : Nat) : Int) := by
  have h2 : 2 ^ k < 4294967296 := Nat.lt_of_lt_of_le (Nat.pow_lt_pow_right (by decide) hk) (by decide)
  have e : (2 : Int) ^ k % 4294967296 = ((2 ^ k : Nat) : Int) := by
    have h3 : ((2 ^ k : Nat) : Int) = (2 : Int) ^ k := by simp
    rw [← h3]
    generalize 2 ^ k = z at h2
    omega
  rw [e]
  exact u32_or_nat B (2 ^ k) hB h2
def AckPost (w : World) (s : Ws) (e : Ending) (w' : World) : Prop := (∃ B : Nat, e = .returned (.agg #[.int .u32 (s.nx : Int), .int .u32 (B : Int)]) ∧ B < 4294967296 ∧ ∀ k, B.testBit k = true ↔ ∃ p ∈ s.l, distW p.1 s.nx = k + 1) ∧ Below w.heap.size w w'
end Go.Proofs.Ytcbadcbnknmdnaa
namespace Go.Proofs.Ytcbadcbnknmdnaa
open Go.RowKit
set_option linter.unusedVariables false

theorem shr_bit (B y : Nat) (hB : B < 4294967296) : (bits .and .u32 ((B : Int) / 2 ^ min y 32) 1 == 1) = (decide (y < 32) && B.testBit y) := by
  have e : ((B : Int) / 2 ^ min y 32) = ((B / 2 ^ min y 32 : Nat) : Int) := by simp
  have hle : B / 2 ^ min y 32 < 4294967296 := Nat.lt_of_le_of_lt (Nat.div_le_self _ _) hB
  rw [e, show (1 : Int) = ((1 : Nat) : Int) from rfl, u32_and_nat _ _ hle (by decide), Nat.and_one_is_mod]
  by_cases h : y < 32
  · rw [Nat.min_eq_left (by omega), Nat.testBit_eq_decide_div_mod_eq]
    generalize B / 2 ^ y % 2 = z
    simp only [h, decide_true, Bool.true_and]
    by_cases hz : z = 1
    · subst hz; rfl
    · rw [decide_eq_false hz, beq_eq_false_iff_ne]; omega
  · rw [Nat.min_eq_right (by omega)]
    have : B / 2 ^ 32 = 0 := Nat.div_eq_of_lt hB
    rw [this]
    simp [h]
def hasB (nx B n : Nat) : Bool := belowB n nx || (decide (1 ≤ distW n nx) && (decide (distW n nx ≤ 32) && B.testBit (distW n nx - 1)))
/-- An Out on whose way nothing is. -/
structure O0At (w : World) (b n : Nat) : Prop where
  c0 : w.cell? ⟨b, 0, none⟩ = some (.int .u32 (n : Int))
  c1 : w.cell? ⟨b, 1, none⟩ = some (.slice none 0 0)
  f0 : w.frozen? ⟨b, 0, none⟩ = false
  f1 : w.frozen? ⟨b, 1, none⟩ = false
theorem O0At.lt {w : World} {b n : Nat} (h : O0At w b n) : b < w.heap.size := block_lt_of_cell h.c0
theorem O0At.touch {S : Nat → Prop} {w w' : World} {b n : Nat} (h : O0At w b n) (ht : Touch S w w') (hb : ¬ S b) : O0At w' b n :=
  ⟨(ht.cell (p := ⟨b, 0, none⟩) h.lt hb).trans h.c0, (ht.cell (p := ⟨b, 1, none⟩) h.lt hb).trans h.c1, (ht.frozen (p := ⟨b, 0, none⟩) h.lt hb).trans h.f0, (ht.frozen (p := ⟨b, 1, none⟩) h.lt hb).trans h.f1⟩
end Go.Proofs.Ytcbadcbnknmdnaa
namespace Go.Proofs.Ytcbadcbnknmdnaa
open Go.RowKit
set_option linter.unusedVariables false

def numW (first d : Nat) : Nat := (first + d) % 4294967296
theorem numW_lt (first d : Nat) : numW first d < 4294967296 := Nat.mod_lt _ (by decide)
theorem numW_succ (first d : Nat) : (numW first d + 1) % 4294967296 = numW first (d + 1) := by unfold numW; omega
theorem dist_ge (first a b : Nat) (h : b ≤ a) (h2 : a - b < 4294967296) : distW (numW first a) (numW first b) = a - b := by
  unfold distW numW; omega
theorem dist_lt (first a b : Nat) (h : a < b) (h2 : b - a < 4294967296) : distW (numW first a) (numW first b) = 4294967296 - (b - a) := by
  unfold distW numW; omega
theorem num_inj (first a b : Nat) (h : numW first a = numW first b) (h1 : a < b + 4294967296) (h2 : b < a + 4294967296) : a = b := by
  unfold numW at h; omega
/-- Things that came, by their places: all below m; of those behind it, just those of G wait. -/
structure InG (first m : Nat) (T : Nat → List UInt8) (G : Nat → Bool) (s : Ws) : Prop where
  nx : s.nx = numW first m
  lo : ∀ d, d < m → G d = true
  gap : G m = false
  hi : ∀ d, G d = true → d ≤ m + 32
  keys : ∀ n t, (n, t) ∈ s.l ↔ ∃ d, G d = true ∧ m < d ∧ n = numW first d ∧ t = T d
  nd : (s.l.map (·.1)).Nodup
def addG (G : Nat → Bool) (d : Nat) : Nat → Bool := fun e => G e || e == d
theorem nodup_filter {l : List (Nat × List UInt8)} (h : (l.map (·.1)).Nodup) (p : Nat × List UInt8 → Bool) : ((l.filter p).map (·.1)).Nodup := h.sublist ((List.filter_sublist).map _)
theorem goW_G (first : Nat) (T : Nat → List UInt8) (G : Nat → Bool) (H : Nat) : ∀ (f : Nat) (s : Ws) (m : Nat), s.nx = numW first m → (∀ d, d < m → G d = true) → (∀ d, G d = true → d ≤ H) → H < m + 1000 → (∀ n t, (n, t) ∈ s.l ↔ ∃ d, G d = true ∧ m ≤ d ∧ n = numW first d ∧ t = T d) → (s.l.map (·.1)).Nodup → s.l.length < f →
    ∃ m', m ≤ m' ∧ (goW f s).2 = (List.range' m (m' - m)).map T ∧ (goW f s).1.nx = numW first m' ∧ (∀ d, d < m' → G d = true) ∧ G m' = false ∧ (∀ n t, (n, t) ∈ (goW f s).1.l ↔ ∃ d, G d = true ∧ m' < d ∧ n = numW first d ∧ t = T d) ∧ ((goW f s).1.l.map (·.1)).Nodup := by
  intro f
  induction f with
  | zero => intro s m _ _ _ _ _ _ hl; omega
  | succ f ih =>
    intro s m hnx hlo hhi hH hk hnd hl
    cases hg : G m with
    | false =>
      have hno : ∀ p ∈ s.l, p.1 ≠ s.nx := fun p hp e => by
        obtain ⟨d, h1, h2, h3, -⟩ := (hk p.1 p.2).1 hp
        have hd := hhi d h1
        rw [hnx, h3] at e
        have := num_inj first d m e (by omega) (by omega)
        subst this
        rw [hg] at h1; cases h1
      rw [goW_none (findW_none hno)]
      refine ⟨m, Nat.le_refl _, by simp, hnx, hlo, hg, fun n t => ?_, hnd⟩
      rw [hk n t]
      constructor
      · rintro ⟨d, h1, h2, h3, h4⟩
        refine ⟨d, h1, ?_, h3, h4⟩
        rcases Nat.eq_or_lt_of_le h2 with e | e
        · subst e; rw [hg] at h1; cases h1
        · exact e
      · rintro ⟨d, h1, h2, h3, h4⟩
        exact ⟨d, h1, by omega, h3, h4⟩
    | true =>
      have hin : (s.nx, T m) ∈ s.l := (hk _ _).2 ⟨m, hg, Nat.le_refl _, hnx, rfl⟩
      have hmH := hhi m hg
      rw [goW_some (findW_of hnd hin)]
      have hless := filter_less hin
      obtain ⟨m', h1, h2, h3, h4, h5, h6, h7⟩ := ih ⟨(s.nx + 1) % 4294967296, s.l.filter (fun p => p.1 != s.nx)⟩ (m + 1) (by simp only; rw [hnx]; exact numW_succ _ _) (fun d hd => by
          rcases Nat.eq_or_lt_of_le (Nat.le_of_lt_succ hd) with e | e
          · subst e; exact hg
          · exact hlo d e) hhi (by omega) (fun n t => by
          simp only [List.mem_filter, hk n t]
          constructor
          · rintro ⟨⟨d, g1, g2, g3, g4⟩, hne⟩
            refine ⟨d, g1, ?_, g3, g4⟩
            rcases Nat.eq_or_lt_of_le g2 with e | e
            · subst e
              simp [g3, hnx] at hne
            · exact e
          · rintro ⟨d, g1, g2, g3, g4⟩
            refine ⟨⟨d, g1, by omega, g3, g4⟩, ?_⟩
            have hd := hhi d g1
            have : n ≠ s.nx := fun e => by
              rw [g3, hnx] at e
              have := num_inj first d m e (by omega) (by omega)
              omega
            simpa using this) (nodup_filter hnd _) (by simp only; omega)
      refine ⟨m', by omega, ?_, h3, h4, h5, h6, h7⟩
      simp only [h2]
      have e1 : m' - m = (m' - (m + 1)) + 1 := by omega
      rw [e1, List.range'_succ]
      simp
theorem InG.put_old {first m : Nat} {T : Nat → List UInt8} {G : Nat → Bool} {s : Ws} (h : InG first m T G s) (d : Nat) (hd : d < m) (h2 : m < d + 2147483648) (t : List UInt8) : putW s (numW first d) t = (s, [], 11) := by
  unfold putW
  rw [if_pos]
  unfold belowB
  rw [h.nx, dist_lt first d m hd (by omega)]
  exact decide_eq_true (by omega)
theorem InG.find {first m : Nat} {T : Nat → List UInt8} {G : Nat → Bool} {s : Ws} (h : InG first m T G s) (d : Nat) (hd : m ≤ d) (h2 : d ≤ m + 32) : findW s.l (numW first d) = if G d = true then some (T d) else none := by
  cases hg : G d with
  | true =>
    have hne : m ≠ d := fun e => by subst e; rw [h.gap] at hg; cases hg
    exact findW_of h.nd ((h.keys _ _).2 ⟨d, hg, by omega, rfl, rfl⟩)
  | false =>
    refine findW_none fun p hp e => ?_
    obtain ⟨d', h1, h3, h4, -⟩ := (h.keys p.1 p.2).1 hp
    have := h.hi d' h1
    rw [h4] at e
    have := num_inj first d' d e (by omega) (by omega)
    subst this
    rw [hg] at h1; cases h1
theorem InG.put {first m : Nat} {T : Nat → List UInt8} {G : Nat → Bool} {s : Ws} (h : InG first m T G s) (d : Nat) (hd : m ≤ d) (h2 : d ≤ m + 32) : (G d = true ∧ putW s (numW first d) (T d) = (s, [], 10)) ∨ (G d = false ∧ ∃ s' m', m ≤ m' ∧ putW s (numW first d) (T d) = (s', (List.range' m (m' - m)).map T, 0) ∧ InG first m' T (addG G d) s') := by
  have hdist : distW (numW first d) s.nx = d - m := by rw [h.nx]; exact dist_ge first d m hd (by omega)
  have hb : belowB (numW first d) s.nx = false := by unfold belowB; rw [hdist]; exact decide_eq_false (by omega)
  have hf := h.find d hd h2
  have hpw : putW s (numW first d) (T d) = if findW s.l (numW first d) ≠ none then (s, [], 10) else ((goW (s.l.length + 2) ⟨s.nx, s.l ++ [(numW first d, T d)]⟩).1, (goW (s.l.length + 2) ⟨s.nx, s.l ++ [(numW first d, T d)]⟩).2, 0) := by
    unfold putW
    rw [if_neg (by rw [hb]; simp), if_neg (by rw [hdist]; omega)]
  cases hg : G d with
  | true =>
    left
    rw [hg] at hf
    exact ⟨rfl, by rw [hpw, hf]; simp⟩
  | false =>
    right
    rw [hg] at hf
    refine ⟨rfl, ?_⟩
    obtain ⟨m', h1, h3, h4, h5, h6, h7, h8⟩ := goW_G first T (addG G d) (m + 32) (s.l.length + 2) ⟨s.nx, s.l ++ [(numW first d, T d)]⟩ m h.nx (fun e he => by unfold addG; rw [h.lo e he]; rfl) (fun e he => by
        unfold addG at he
        rw [Bool.or_eq_true] at he
        rcases he with he | he
        · exact h.hi e he
        · have : e = d := by simpa using he
          omega) (by omega) (fun n t => by
        simp only [List.mem_append, List.mem_singleton, h.keys n t]
        unfold addG
        constructor
        · rintro (⟨e, g1, g2, g3, g4⟩ | e)
          · exact ⟨e, by rw [g1]; rfl, by omega, g3, g4⟩
          · simp only [Prod.mk.injEq] at e
            exact ⟨d, by simp, hd, e.1, e.2⟩
        · rintro ⟨e, g1, g2, g3, g4⟩
          rw [Bool.or_eq_true] at g1
          by_cases hed : e = d
          · subst hed; exact .inr (by rw [g3, g4])
          · rcases g1 with g1 | g1
            · left
              refine ⟨e, g1, ?_, g3, g4⟩
              rcases Nat.eq_or_lt_of_le g2 with e2 | e2
              · subst e2; rw [h.gap] at g1; cases g1
              · exact e2
            · exact absurd (by simpa using g1) hed) (by
        simp only [List.map_append, List.map_cons, List.map_nil]
        rw [List.nodup_append]
        refine ⟨h.nd, by simp, fun a ha b hb' => ?_⟩
        simp at hb'; subst hb'
        obtain ⟨p, hp, rfl⟩ := List.mem_map.1 ha
        intro e
        have := findW_of h.nd (show (numW first d, p.2) ∈ s.l by rw [← e]; exact hp)
        rw [hf] at this; simp at this) (by simp)
    refine ⟨(goW (s.l.length + 2) ⟨s.nx, s.l ++ [(numW first d, T d)]⟩).1, m', h1, ?_, ⟨h4, h5, h6, fun e he => ?_, h7, h8⟩⟩
    · rw [hpw, hf, h3]; simp
    · unfold addG at he
      rw [Bool.or_eq_true] at he
      rcases he with he | he
      · have := h.hi e he; omega
      · have : e = d := by simpa using he
        omega
theorem InG.ok {first m : Nat} {T : Nat → List UInt8} {G : Nat → Bool} {s : Ws} (h : InG first m T G s) : OkW s := by
  intro p hp
  obtain ⟨d, h1, h2, h3, -⟩ := (h.keys p.1 p.2).1 hp
  have := h.hi d h1
  rw [h3, h.nx, dist_ge first d m (by omega) (by omega)]
  exact ⟨numW_lt _ _, by omega, by omega⟩
/-- What an ack of it tells: just what came. -/
theorem InG.has {first m : Nat} {T : Nat → List UInt8} {G : Nat → Bool} {s : Ws} (h : InG first m T G s) {B : Nat} (hB : ∀ k, B.testBit k = true ↔ ∃ p ∈ s.l, distW p.1 s.nx = k + 1) (d : Nat) (h1 : m < d + 2147483648) (h2 : d < m + 2147483648) : hasB s.nx B (numW first d) = G d := by
  unfold hasB belowB
  by_cases hd : d < m
  · rw [h.nx, dist_lt first d m hd (by omega), decide_eq_true (by omega), h.lo d hd]; rfl
  · rw [h.nx, dist_ge first d m (by omega) (by omega), decide_eq_false (by omega), Bool.false_or]
    rcases Nat.eq_or_lt_of_le (Nat.le_of_not_lt hd) with e | e
    · subst e; rw [h.gap]; simp
    · rw [decide_eq_true (by omega : 1 ≤ d - m), Bool.true_and]
      have hb := hB (d - m - 1)
      rw [show d - m - 1 + 1 = d - m by omega] at hb
      cases hg : G d with
      | true =>
        have := h.hi d hg
        rw [decide_eq_true (by omega : d - m ≤ 32), Bool.true_and]
        refine hb.2 ⟨(numW first d, T d), (h.keys _ _).2 ⟨d, hg, e, rfl, rfl⟩, ?_⟩
        rw [h.nx]; exact dist_ge first d m (by omega) (by omega)
      | false =>
        cases ht : B.testBit (d - m - 1) with
        | false => simp
        | true =>
          obtain ⟨p, hp, hpd⟩ := hb.1 ht
          obtain ⟨d', g1, g2, g3, -⟩ := (h.keys p.1 p.2).1 hp
          have := h.hi d' g1
          rw [g3, h.nx, dist_ge first d' m (by omega) (by omega)] at hpd
          have : d' = d := by omega
          subst this
          rw [hg] at g1; cases g1
theorem InG.start (first : Nat) (hf : first < 4294967296) (T : Nat → List UInt8) : InG first 0 T (fun _ => false) ⟨first, []⟩ :=
  ⟨by unfold numW; simp only; omega, (fun d hd => by omega), rfl, (fun d hd => by cases hd), (fun n t => by simp), List.nodup_nil⟩
end Go.Proofs.Ytcbadcbnknmdnaa
namespace Go.Proofs.Ytcbadcbnknmdnaa
open Go.RowKit Go.ChangeMaps
set_option linter.unusedVariables false

theorem bits_zero {P : Nat → Prop} (h : ∀ k, ¬ P k) : ∀ k, Nat.testBit 0 k = true ↔ P k := fun k => by simp [h k]
theorem len_map {w : World} {r : Nat} {L : List (Nat × Value)} {q : IntKind} (h : MpAt q w r L) (t ty : TypeId) {k e : TypeId} (ht : Try.prog.underlying t = some (.map k e)) : (Builtin.len_ #[t] ty #[.map (some r)]).run Try.prog w = .ok (.int .i64 (L.length : Int)) w := by
  obtain ⟨es, clock, hb, he, -⟩ := h.ex
  have hl := ents_len he
  simp [Builtin.len_, run_underlying ht, MapKept.run_getObj_map hb, Result.andThen, hl]
  rfl
end Go.Proofs.Ytcbadcbnknmdnaa
namespace Go.Proofs.Ytcbadcbnknmdnaa
open Go.RowKit
set_option linter.unusedVariables false

def itCells (p : Nat × List UInt8) : List Value := [.int .u32 (p.1 : Int), .string (bs p.2)]
theorem it_wide (l : List (Nat × List UInt8)) : VWide 2 (l.map itCells) := by
  intro x hx
  obtain ⟨p, -, rfl⟩ := List.mem_map.1 hx
  refine ⟨rfl, fun u hu => ?_⟩
  simp only [itCells, List.mem_cons, List.not_mem_nil, or_false] at hu
  rcases hu with rfl | rfl <;> rfl
end Go.Proofs.Ytcbadcbnknmdnaa
namespace Go.Proofs.Ytcbadcbnknmdnaa
open Go.RowKit
set_option linter.unusedVariables false

/-- What came at b1, what was sent at b2. -/
structure Aw (w : World) (b1 b2 : Nat) (mo : Option Nat) (s : Ws) (wr : World) : Prop where
  wi : WI wr b1 mo s
  o0 : O0At wr b2 7
  bel : Below w.heap.size w wr
  h1 : w.heap.size ≤ b1
  h2 : w.heap.size ≤ b2
  ne : b1 ≠ b2
  hm : ∀ r, mo = some r → w.heap.size ≤ r ∧ r ≠ b2
theorem Aw.keep {w : World} {b1 b2 : Nat} {mo : Option Nat} {s : Ws} {wr w' : World} (h : Aw w b1 b2 mo s wr) (hb : Below wr.heap.size wr w') : Aw w b1 b2 mo s w' :=
  ⟨h.wi.keep hb, h.o0.touch (touch_of_below (S := fun _ => False) hb) id, h.bel.trans (hb.mono h.bel.size), h.h1, h.h2, h.ne, h.hm⟩
theorem Aw.put {w : World} {b1 b2 : Nat} {mo mo' : Option Nat} {s s' : Ws} {wr w' : World} (h : Aw w b1 b2 mo s wr) (hw : WI w' b1 mo' s') (hf : ∀ r, mo' = some r → mo = some r ∨ wr.heap.size ≤ r) (ht : Touch (fun k => k = b1 ∨ mo = some k) wr w') : Aw w b1 b2 mo' s' w' := by
  have hs := h.bel.size
  have hol := h.o0.lt
  refine ⟨hw, h.o0.touch ht (fun e => ?_), h.bel.trans (ht.below hs fun k hk e => ?_), h.h1, h.h2, h.ne, fun r hr => ?_⟩
  · rcases e with e | e
    · exact h.ne e.symm
    · exact (h.hm _ e).2 rfl
  · rcases e with e | e
    · have := h.h1; omega
    · have := (h.hm _ e).1; omega
  · rcases hf r hr with e | e
    · exact h.hm r e
    · exact ⟨by omega, by omega⟩
theorem WI.wat {w : World} {b : Nat} {mo : Option Nat} {s : Ws} (h : WI w b mo s) (hl : s.l ≠ []) : ∃ r, WAt w b r s := by
  rcases h with ⟨h1, h2, h3⟩ | ⟨r, h1, h2⟩
  · exact absurd h2 hl
  · exact ⟨r, h2⟩
theorem bits_five (B : Nat) (h : ∀ k, B.testBit k = true ↔ ∃ p ∈ ([(6, [98]), (8, [100])] : List (Nat × List UInt8)), distW p.1 5 = k + 1) : B = 5 := by
  apply Nat.eq_of_testBit_eq
  intro k
  have hk := h k
  have e6 : distW 6 5 = 1 := by decide
  have e8 : distW 8 5 = 3 := by decide
  simp only [List.mem_cons, List.not_mem_nil, or_false, exists_eq_or_imp, exists_eq_left, e6, e8] at hk
  have h5 : Nat.testBit 5 k = true ↔ 1 = k + 1 ∨ 3 = k + 1 := by
    match k with
    | 0 => decide
    | 1 => decide
    | 2 => decide
    | k + 3 =>
      have : Nat.testBit 5 (k + 3) = false := Nat.testBit_lt_two_pow (Nat.lt_of_lt_of_le (by decide : 5 < 2 ^ 3) (Nat.pow_le_pow_right (by decide) (by omega)))
      rw [this]; simp
  cases hB : B.testBit k <;> cases h5B : Nat.testBit 5 k <;> simp_all
theorem bits_one (B : Nat) (h : ∀ k, B.testBit k = true ↔ ∃ p ∈ [((8 : Nat), ([100] : List UInt8))], distW p.1 7 = k + 1) : B = 1 := by
  apply Nat.eq_of_testBit_eq
  intro k
  have hk := h k
  have e8 : distW 8 7 = 1 := by decide
  simp only [List.mem_cons, List.not_mem_nil, or_false, exists_eq_left, e8] at hk
  have h5 : Nat.testBit 1 k = true ↔ 1 = k + 1 := by
    match k with
    | 0 => decide
    | k + 1 =>
      have : Nat.testBit 1 (k + 1) = false := Nat.testBit_lt_two_pow (Nat.lt_of_lt_of_le (by decide : 1 < 2 ^ 1) (Nat.pow_le_pow_right (by decide) (by omega)))
      rw [this]; simp
  cases hB : B.testBit k <;> cases h5B : Nat.testBit 1 k <;> simp_all
theorem aw_put1 : putW ⟨5, []⟩ 6 [98] = (⟨5, [(6, [98])]⟩, [], 0) := by kernel_rfl
theorem aw_put2 : putW ⟨5, [(6, [98])]⟩ 8 [100] = (⟨5, [(6, [98]), (8, [100])]⟩, [], 0) := by kernel_rfl
theorem aw_put3 : putW ⟨5, [(6, [98]), (8, [100])]⟩ 5 [97] = (⟨7, [(8, [100])]⟩, [[97], [98]], 0) := by kernel_rfl
theorem aw_ok2 : OkW ⟨5, [(6, [98]), (8, [100])]⟩ := by
  intro p hp
  simp only [List.mem_cons, List.not_mem_nil, or_false] at hp
  rcases hp with rfl | rfl <;> decide
theorem aw_ok3 : OkW ⟨7, [(8, [100])]⟩ := by
  intro p hp
  simp only [List.mem_cons, List.not_mem_nil, or_false] at hp
  subst hp; decide
end Go.Proofs.Ytcbadcbnknmdnaa
namespace Go.Proofs.Ytcbadcbnknmdnaa
open Go.RowKit
set_option linter.unusedVariables false

theorem info9 : (Try.prog.info? 9).map (fun i => (i.zero, i.size, i.bytes)) = some (some (.string .empty), 1, 16) := by kernel_rfl
/-- WHAT THE ROW's READING SAYS OF A LIST OF TEXTS THAT CAME IN. -/
def IsStrs (w : World) (a : Option Addr) (len cap : Nat) (zs : List ByteArray) : Prop :=
  (a = none ∧ len = 0 ∧ cap = 0 ∧ zs = []) ∨ ∃ x, a = some x ∧ len ≤ cap ∧ cap ≤ maxLen ∧ zs.length = cap ∧ (∀ i, i < zs.length → w.cell? (x.add i) = some (.string (zs.getD i ByteArray.empty))) ∧ (∀ s ∈ zs, s.size ≤ maxLen)
theorem IsStrs.row {w : World} {a : Option Addr} {len cap : Nat} {zs : List ByteArray} (h : IsStrs w a len cap zs) : ∃ ss : List ByteArray, ss.length = len ∧ StrRow w a ss := by
  rcases h with ⟨rfl, rfl, rfl, rfl⟩ | ⟨x, rfl, hl, hm, hz, hcell, hw⟩
  · exact ⟨[], rfl, by simp [maxLen], fun i h => by simp at h, fun h => by simp at h⟩
  · have hlen : (zs.take len).length = len := by simp; omega
    refine ⟨zs.take len, hlen, by omega, fun i hi => ?_, fun h0 => ?_⟩
    · exact hw _ (List.mem_of_mem_take (List.getElem_mem hi))
    · obtain ⟨b, off, spot⟩ := x
      have h0' := hcell 0 (by omega)
      have hspot : spot = none := by simpa [Addr.add] using World.cell?_spot h0'
      subst hspot
      refine ⟨b, off, rfl, fun i hi => ?_⟩
      have hi' : i < zs.length := by omega
      have := hcell i hi'
      rw [List.getD_eq_getElem?_getD, List.getElem?_eq_getElem hi'] at this
      rw [List.getElem_take]
      cases i <;> simpa [Addr.add] using this

def fewL (ss : List ByteArray) (n m : Nat) : List ByteArray := (ss.take n).map (cutB · m)
theorem fewL_succ (ss : List ByteArray) (k m : Nat) (h : k < ss.length) : fewL ss (k + 1) m = fewL ss k m ++ [cutB ss[k] m] := by
  unfold fewL; rw [List.take_succ_eq_append_getElem h, List.map_append]; rfl
theorem fewL_length (ss : List ByteArray) (k m : Nat) (h : k ≤ ss.length) : (fewL ss k m).length = k := by
  unfold fewL; simp; omega
theorem bls_append (l m : List ByteArray) : bls (l ++ m) = bls l ++ bls m := by unfold bls; simp
/-- WHAT 'Few' LEAVES: a list of its own of the texts, and all of them. -/
def FewPost (w : World) (few : List ByteArray) (e : Ending) (w' : World) : Prop :=
  ∃ (a : Option Addr) (cap : Nat) (A : ByteArray), e = .returned (.tuple #[.slice a few.length cap, .string A]) ∧ A.data.toList = (bls few).flatten ∧ A.size ≤ maxLen ∧ StrRow w' a few ∧ Below w.heap.size w w'

theorem owns_row {w : World} {base : Nat} {v : Value} {few : List ByteArray} (h : w.ownsRow base 9 1 v few.length (few.map Value.string)) (hs : ∀ (i : Nat) (h : i < few.length), few[i].size ≤ maxLen) (hl : few.length ≤ maxLen) :
    ∃ a cap, v = .slice a few.length cap ∧ StrRow w a few := by
  rcases h.2 with ⟨hv, h0⟩ | ⟨g, cap, cur, hv, hg, hb, hn, hm, hsz, ht⟩
  · exact ⟨none, 0, by rw [hv, h0], hl, hs, fun h => by omega⟩
  · refine ⟨some ⟨g, 0, none⟩, cap, hv, hl, hs, fun _ => ⟨g, 0, rfl, fun i hi => ?_⟩⟩
    have hc := h.cells (g := g) (by rw [hv]; rfl) i (.string few[i]) (by simp [hi])
    cases i <;> simpa [Addr.add] using hc
theorem fewL_sizes (ss : List ByteArray) (n m : Nat) (hm : m ≤ 1000) : ∀ (i : Nat) (h : i < (fewL ss n m).length), (fewL ss n m)[i].size ≤ maxLen := by
  intro i h
  unfold fewL at h ⊢
  rw [List.getElem_map]
  exact cutB_le' _ _ (by omega)
theorem fewL_end (ss : List ByteArray) (k n m : Nat) (hk : k ≤ ss.length) (hn : k ≤ n) (h : ¬ (k < ss.length ∧ k < n)) : fewL ss n m = fewL ss k m := by
  by_cases h1 : k = n
  · rw [h1]
  · have : k = ss.length := by omega
    unfold fewL
    rw [List.take_of_length_le (by omega), List.take_of_length_le (by omega)]

theorem few_post {w wr : World} {ss : List ByteArray} {k n m : Nat} {v : Value} {A : ByteArray} (hm : m ≤ 1000) (hk : k ≤ 1000) (HE : fewL ss n m = fewL ss k m) (HL : (fewL ss k m).length = k)
    (HA : A.data.toList = (bls (fewL ss k m)).flatten) (hA : A.size ≤ 1000 * k) (HO : wr.ownsRow w.heap.size 9 1 v k ((fewL ss k m).map Value.string)) (hb : Below w.heap.size w wr) :
    FewPost w (fewL ss n m) (.returned (.tuple #[v, .string A])) wr := by
  rw [HE]
  obtain ⟨a, cap, hv, hr⟩ := owns_row (few := fewL ss k m) (by rw [HL]; exact HO) (fewL_sizes ss k m hm) (by rw [HL]; unfold maxLen; omega)
  exact ⟨a, cap, A, by rw [hv], HA, by unfold maxLen; omega, hr, hb⟩

end Go.Proofs.Ytcbadcbnknmdnaa
namespace Go.Proofs.Ytcbadcbnknmdnaa
open Go.RowKit
set_option linter.unusedVariables false

theorem own_str {B : Nat} {a : Option Addr} {c : Nat} {ms : List (List UInt8)} {w : World} (h : OwnV 9 1 B a c (ms.map strCells1) w) (h0 : 0 < ms.length) : ∃ gb, a = some ⟨gb, 0, none⟩ ∧ gb < w.heap.size ∧ ∀ i (hi : i < ms.length), w.cell? ⟨gb, i, none⟩ = some (.string (bs ms[i])) := by
  have hlen : (ms.map strCells1).length = ms.length := by simp
  rcases h.1.2 with ⟨-, h00⟩ | ⟨g, cap, cur, hv, -, hg, hnc, -, hsz, htk⟩
  · omega
  · have hr := h.row (str_wide _) (by rw [hlen]; exact h0)
    obtain ⟨b, off, e1, hc⟩ := hr
    simp only [Value.slice.injEq] at hv
    rw [hv.1] at e1
    simp only [Option.some.injEq, Addr.mk.injEq] at e1
    obtain ⟨rfl, rfl, -⟩ := e1
    refine ⟨g, hv.1, (Array.getElem?_eq_some_iff.1 hg).1, fun i hi => ?_⟩
    have h1 := hc i (by rw [hlen]; exact hi) 0 (by decide)
    rw [Nat.zero_add, Nat.mul_one, Nat.add_zero] at h1
    rw [h1]
    simp [strCells1]
theorem map_none {a : Option Addr} {P : Nat → Prop} (h : ∀ x, a = some x → P x.block) (k : Nat) (e : a.map (·.block) = some k) : P k := by
  cases a with
  | none => simp at e
  | some y => simp at e; subst e; exact h y rfl
theorem parts_snoc (ms : List (List UInt8)) (m : List UInt8) : partsOf (ms ++ [m]) = partsOf ms ++ cutL m := by simp [partsOf]
theorem parts_text (ms : List (List UInt8)) : ∀ p ∈ partsOf ms, p.text.length ≤ 1000000 := by
  intro p hp
  unfold partsOf at hp
  obtain ⟨x, hx, hpx⟩ := List.mem_flatten.1 hp
  obtain ⟨m, -, rfl⟩ := List.mem_map.1 hx
  obtain ⟨i, hi, rfl⟩ := List.getElem_of_mem hpx
  have := cutL_text m i hi
  omega
end Go.Proofs.Ytcbadcbnknmdnaa
