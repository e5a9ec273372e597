/-
  Layer 12: parts: their bytes, and back.
-/
import Derived.Test.YtlhcihjplolgiaaChunk2
import Derived.Test.YtlhcihjplolgiaaChunk1
import Derived.BigQuiet
namespace Go.Proofs.Ytlhcihjplolgiaa
open Go.RowKit
set_option linter.unusedVariables false

/-- A part: is it the last one; its text. -/
structure Pt where
  last : Bool
  text : List UInt8
def ptV (p : Pt) : Value := .agg #[.bool p.last, .string (bs p.text)]
def ptCells (p : Pt) : List Value := [.bool p.last, .string (bs p.text)]
def partB (p : Pt) : List UInt8 := (if p.last then 1 else 0) :: p.text
def parseF : List UInt8 → Pt × Nat
  | [] => (⟨false, []⟩, 1)
  | c :: t => if 1 < c.toNat then (⟨false, []⟩, 2) else if 200 < t.length then (⟨false, []⟩, 3) else (⟨c == 1, t⟩, 0)
theorem parseF_back (p : Pt) (h : p.text.length ≤ 200) : parseF (partB p) = (p, 0) := by
  obtain ⟨b, t⟩ := p
  simp only at h
  cases b
  · simp only [partB, parseF, Bool.false_eq_true, if_false]
    rw [if_neg (by decide), if_neg (by omega)]; rfl
  · simp only [partB, parseF, if_true]
    rw [if_neg (by decide), if_neg (by omega)]; rfl
theorem parseF_bytes (l : List UInt8) (h : (parseF l).2 = 0) : partB (parseF l).1 = l := by
  cases l with
  | nil => simp [parseF] at h
  | cons c t =>
    simp only [parseF] at h ⊢
    split at h
    · simp at h
    · split at h
      · simp at h
      · rename_i h1 h2
        rw [if_neg h1, if_neg h2]
        simp only [partB]
        have : c = 0 ∨ c = 1 := by
          have h3 : c.toNat = 0 ∨ c.toNat = 1 := by omega
          rcases h3 with h3 | h3
          · exact .inl (UInt8.toNat.inj h3)
          · exact .inr (UInt8.toNat.inj h3)
        rcases this with rfl | rfl <;> rfl
theorem parseF_len (l : List UInt8) : (parseF l).1.text.length ≤ 200 := by
  cases l with
  | nil => simp [parseF]
  | cons c t =>
    simp only [parseF]
    split
    · simp
    · split
      · simp
      · simp only; omega
theorem partBytes_any (p : Pt) (w : World) (h : p.text.length ≤ 1000000) : Calls Try.prog 79 #[ptV p] w fun r w' => r = .returned (.string (bs (partB p))) ∧ Below w.heap.size w w' := by
  obtain ⟨b, t⟩ := p
  simp only at h
  have hz := bs_size t
  have hA : Below w.heap.size w (w.alloc (.cells #[.bool b, .string (bs t)] 151)) := bel_alloc (Below.refl _ _) _
  have HA := Lib.hid hA
  clear hA
  unfold ptV partB
  simp only
  cases b
  · have v1 : ∀ W, (Op.stringOp .add ⟨#[0]⟩ (bs t)).run Try.prog W = .ok (.string (bs (0 :: t))) W := fun W => by
      have := run_string_add_sum (P := Try.prog) W ⟨#[0]⟩ (bs t) (by rw [hz]; show 1 + t.length ≤ maxLen; unfold maxLen; omega)
      rw [show (⟨#[0]⟩ : ByteArray) = bs [0] from rfl, bs_append] at this
      exact this
    go_enter Try.func79, Try.ntmps79
    go_wp2
    go_ret
    exact ⟨rfl, HA.out⟩
  · have v1 : ∀ W, (Op.stringOp .add ⟨#[1]⟩ (bs t)).run Try.prog W = .ok (.string (bs (1 :: t))) W := fun W => by
      have := run_string_add_sum (P := Try.prog) W ⟨#[1]⟩ (bs t) (by rw [hz]; show 1 + t.length ≤ maxLen; unfold maxLen; omega)
      rw [show (⟨#[1]⟩ : ByteArray) = bs [1] from rfl, bs_append] at this
      exact this
    go_enter Try.func79, Try.ntmps79
    go_wp2
    go_ret
    exact ⟨rfl, HA.out⟩
theorem bs_cons_ne (c : UInt8) (t : List UInt8) : (bs (c :: t)).toList.isEmpty = false ∧ ((bs (c :: t)).toList == []) = false := by
  rw [ByteArray.toList_eq, bs_list]; simp
theorem bs_toList (l : List UInt8) : (bs l).toList = l := by rw [ByteArray.toList_eq, bs_list]
set_option maxRecDepth 100000 in
set_option maxHeartbeats 1000000 in
theorem fragParse_any (l : List UInt8) (w : World) (h : l.length ≤ 1000000) : Calls Try.prog 137 #[.string (bs l)] w fun r w' => r = .returned (.tuple #[ptV (parseF l).1, .int .i64 ((parseF l).2 : Nat)]) ∧ Below w.heap.size w w' := by
  have HA0 := Lib.hid (show ∀ cs, Below w.heap.size w (w.alloc (.cells cs 151)) from fun cs => bel_alloc (Below.refl _ _) _)
  cases l with
  | nil =>
    rw [show bs [] = ⟨#[]⟩ from rfl]
    go_enter Try.func137, Try.ntmps137
    go_wp2
    exact bodyPost_ret (v := .tuple #[.agg #[.bool false, .string ⟨#[]⟩], .int .i64 1]) (by simp [results, Try.results137, go_sem]) rfl ⟨rfl, HA0.out _⟩
  | cons c t =>
    obtain ⟨n1, n2⟩ := bs_cons_ne c t
    have hz := bs_size (c :: t)
    have hzt := bs_size t
    simp only [List.length_cons] at h hz
    have s1 : (bs (c :: t)).extract 0 1 = bs [c] := by rw [extract_take, bs_list]; rfl
    have s2 : (bs (c :: t)).extract 1 (t.length + 1) = bs t := by rw [← hz, extract_drop, bs_list]; rfl
    have t1 := bs_toList [c]
    have HA : Hid (∀ cs n, Below w.heap.size w ((w.alloc (.cells cs 151)).drewN n)) := Lib.hid fun cs n => ⟨(HA0.out cs).os, (HA0.out cs).tape, (HA0.out cs).output, (HA0.out cs).size, (HA0.out cs).block⟩
    generalize bs (c :: t) = S at n1 n2 hz s1 s2
    generalize bs [c] = C at s1 t1
    by_cases hc : 1 < c.toNat
    · have d0 : (c == 0) = false := by rw [beq_eq_false_iff_ne]; intro e; rw [e] at hc; simp at hc
      have d1 : (c == 1) = false := by rw [beq_eq_false_iff_ne]; intro e; rw [e] at hc; simp at hc
      have HP := Lib.hid (show parseF (c :: t) = (⟨false, []⟩, 2) from if_pos hc)
      have e0 : (C.toList == [0]) = false := by rw [t1]; simpa using d0
      have e1 : (C.toList == [1]) = false := by rw [t1]; simpa using d1
      clear d0 d1 t1 hc
      rw [HP.out]
      unfold ptV
      go_enter Try.func137, Try.ntmps137
      go_upto_region 3 with (fail)
      go_quiet (fail)
      go_wp2
      exact bodyPost_ret (v := .tuple #[.agg #[.bool false, .string ⟨#[]⟩], .int .i64 2]) (by simp [results, Try.results137, go_sem]) rfl ⟨rfl, ((HA.out _ _).setCell (Nat.le_refl _) _).setCell (Nat.le_refl _) _⟩
    · have h01 : c = 0 ∨ c = 1 := by
        have h3 : c.toNat = 0 ∨ c.toNat = 1 := by omega
        rcases h3 with h3 | h3
        · exact .inl (UInt8.toNat.inj h3)
        · exact .inr (UInt8.toNat.inj h3)
      by_cases ht : 200 < t.length
      · have HP := Lib.hid (show parseF (c :: t) = (⟨false, []⟩, 3) from (if_neg hc).trans (if_pos ht))
        rw [HP.out]
        clear hc
        unfold ptV
        rcases h01 with rfl | rfl
        all_goals
          go_enter Try.func137, Try.ntmps137
          go_upto_region 3 with (fail)
          go_quiet (fail)
          go_wp2
          exact bodyPost_ret (v := .tuple #[.agg #[.bool false, .string ⟨#[]⟩], .int .i64 3]) (by simp [results, Try.results137, go_sem]) rfl ⟨rfl, ((HA.out _ _).setCell (Nat.le_refl _) _).setCell (Nat.le_refl _) _⟩
      · have HP := Lib.hid (show parseF (c :: t) = (⟨c == 1, t⟩, 0) from (if_neg hc).trans (if_neg ht))
        rw [HP.out]
        clear hc
        unfold ptV
        rcases h01 with rfl | rfl
        · go_enter Try.func137, Try.ntmps137
          go_upto_region 3 with (fail)
          go_quiet (fail)
          go_wp2
          exact bodyPost_ret (v := .tuple #[.agg #[.bool false, .string (bs t)], .int .i64 0]) (by simp [results, Try.results137, go_sem]) rfl ⟨rfl, ((HA.out _ _).setCell (Nat.le_refl _) _).setCell (Nat.le_refl _) _⟩
        · go_enter Try.func137, Try.ntmps137
          go_upto_region 3 with (fail)
          go_quiet (fail)
          go_wp2
          exact bodyPost_ret (v := .tuple #[.agg #[.bool true, .string (bs t)], .int .i64 0]) (by simp [results, Try.results137, go_sem]) rfl ⟨rfl, ((HA.out _ _).setCell (Nat.le_refl _) _).setCell (Nat.le_refl _) _⟩
end Go.Proofs.Ytlhcihjplolgiaa
