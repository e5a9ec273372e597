/-
  Layer 14: when the next one is due; which of many are gone.
-/
import Derived.Test.YtpilkaggiajjmaaTim12
import Derived.Test.YtpilkaggiajjmaaTim9
import Derived.Test.YtpilkaggiajjmaaMp2
namespace Go.Proofs.Ytpilkaggiajjmaa
open Go.RowKit
set_option linter.unusedVariables false

def nextK (d : Nat) (l : List Tn) : Nat := l.foldl (fun n y => min n y.due) d
theorem nextK_snoc (d : Nat) (l : List Tn) (x : Tn) : nextK d (l ++ [x]) = min (nextK d l) x.due := by simp [nextK]
def NextPost (w : World) (l : List Tn) (r : Ending) (w' : World) : Prop :=
  ((l = [] ∧ r = .returned (.tuple #[.int .i64 0, .bool false])) ∨ (∃ h : 0 < l.length, r = .returned (.tuple #[.int .i64 (nextK l[0].due l : Int), .bool true]))) ∧ Below w.heap.size w w'
set_option maxRecDepth 100000 in
set_option maxHeartbeats 1000000 in
theorem next14_any (b : Nat) (f mo : Int) (a : Option Addr) (c : Nat) (l : List Tn) (w : World) (h : TAt w b f mo a c l) (hl : l.length ≤ 1000) : Calls Try.prog 38 #[.pointer (some ⟨b, 0, none⟩)] w (NextPost w l) := by
  have HH := Lib.hid h
  have c2 := h.c2
  have hbl := h.lt
  cases l with
  | nil =>
    have HF : Hid (NextPost w [] (.returned (.tuple #[.int .i64 0, .bool false])) w) := Lib.hid ⟨.inl ⟨rfl, rfl⟩, Below.refl _ _⟩
    generalize NextPost w [] = Post at HF ⊢
    simp only [List.length_nil] at c2
    clear h
    go_enter Try.func38, Try.ntmps38
    go_wp2
    exact HF.out
  | cons x0 l0 =>
    have hl0 : 0 < (x0 :: l0).length := by simp
    have hlL : ((x0 :: l0).length : Int) ≤ 1000 := by omega
    obtain ⟨g, off, rfl, hg, -, e1, -, -⟩ := h.trow.at hl0
    have e1' : w.cell? ⟨g, off + 1, none⟩ = some (.int .i64 (x0.due : Int)) := by simpa using e1
    have hx0 : (x0 :: l0)[0] = x0 := rfl
    generalize hL : (x0 :: l0) = l at HH c2 hlL hl0
    have HL := Lib.hid hL
    have hd0 : decide ((0 : Int) < (l.length : Int)) = true := decide_eq_true (by omega)
    have hne : ((l.length : Int) == 0) = false := by rw [beq_eq_false_iff_ne]; omega
    have hlp : (0 : Int) < (l.length : Int) := by omega
    have HFIN : Hid (∀ W, Below w.heap.size w W → NextPost w l (.returned (.tuple #[.int .i64 (nextK x0.due l : Int), .bool true])) W) := Lib.hid (fun W hb => ⟨.inr ⟨hl0, by subst hL; rfl⟩, hb⟩)
    generalize NextPost w l = Post at HFIN ⊢
    clear h e1 hL hx0
    go_enter Try.func38, Try.ntmps38
    go_wp2
    go_loopw [4, 25] (fun v4 v25 wr => ∃ k : Nat, k ≤ l.length ∧ v4 = .int .i64 (nextK x0.due (l.take k) : Int) ∧ v25 = .int .i64 k ∧ Hid (Below w.heap.size w wr)) (fun _ v25 _ => l.length - (intOf v25).toNat)
    case atStart => exact ⟨0, by omega, rfl, rfl, Lib.hid (Below.refl _ _)⟩
    case round =>
      obtain ⟨k, hk, rfl, rfl, HB⟩ := hrel
      clear c2 hbl e1' hd0 hne hlp
      by_cases hlt : k < l.length
      · obtain ⟨g', off', e2, hg', d0, d1, d2, d3⟩ := ((HH.out.keep HB.out).trow).at hlt
        simp only [Option.some.injEq, Addr.mk.injEq] at e2
        obtain ⟨rfl, rfl, -⟩ := e2
        have HN := Lib.hid (show nextK x0.due (l.take (k + 1)) = min (nextK x0.due (l.take k)) l[k].due by rw [List.take_succ_eq_append_getElem hlt]; exact nextK_snoc _ _ _)
        have HB2 := Lib.hid (bel_alloc HB.out (.cells #[.int .u32 (l[k].n : Int), .int .i64 (l[k].due : Int), .int .i64 (l[k].long : Int), .int .i64 (l[k].times : Int)] 135))
        generalize l[k] = x at d0 d1 d2 d3 HN HB2
        obtain ⟨un, ud, ug, ut⟩ := x
        simp only at d0 d1 d2 d3 HN HB2
        generalize nextK x0.due (l.take k) = q at HN
        have i3 : min (q : Int) (ud : Int) = ((min q ud : Nat) : Int) := by omega
        have hi0 : (0 : Int) ≤ (k : Int) := by omega
        have hi1 : (k : Int) < (l.length : Int) := by omega
        go_wp2
        go_roundw
        case rel => exact ⟨k + 1, by omega, by rw [HN.out], by go_num, HB2⟩
        case measure => simp [intOf] <;> omega
      · obtain rfl : k = l.length := by omega
        rw [List.take_length]
        have HF := Lib.hid (HFIN.out wr HB.out)
        generalize nextK x0.due l = q at HF
        have hi1 : (l.length : Int) ≤ (l.length : Int) := by omega
        go_wp2
        exact HF.out
/-- Of n that began at 0. -/
def zeros (n : Nat) : List Nat := List.replicate n 0
theorem zeros_succ (n : Nat) : zeros (n + 1) = zeros n ++ [0] := by unfold zeros; exact List.replicate_succ'
theorem zeros_len (n : Nat) : (zeros n).length = n := by simp [zeros]
theorem many0_mem {n : Nat} {x : Tn} (h : x ∈ manyL 3 (zeros n)) : ∃ i, i < n ∧ x = ⟨i, 3, 3, 0⟩ := by
  obtain ⟨i, hi, rfl⟩ := manyL_mem h
  rw [zeros_len] at hi
  exact ⟨i, hi, by simp [zeros]⟩
theorem many0_nums (n : Nat) : (manyL 3 (zeros n)).map (·.n) = List.range n := by
  apply List.ext_getElem
  · rw [List.length_map, manyL_len, zeros_len, List.length_range]
  · intro i h1 h2
    rw [List.getElem_map, List.getElem_range, manyL_at 3 (zeros n) i (by rw [List.length_map, manyL_len] at h1; exact h1)]
/-- What the law's map has: each number of the list that waits, once. -/
structure GoneL (n : Nat) (ns : List Nat) (c : Nat) (L : List (Nat × Value)) : Prop where
  nd : (L.map (·.1)).Nodup
  mem : ∀ x, x ∈ L.map (·.1) ↔ x ∈ ns ∧ x < n
  val : ∀ p ∈ L, ∃ z : Nat, p.2 = .int .i64 (z : Int) ∧ 1 ≤ z ∧ z ≤ c
theorem GoneL.none (n : Nat) : GoneL n [] 0 [] := ⟨by simp, by simp, (fun p hp => by simp at hp)⟩
theorem gone_len14 {n : Nat} {ns : List Nat} {c : Nat} {L : List (Nat × Value)} (h : GoneL n ns c L) : (goneT ns (manyL 3 (zeros n))).length + L.length = n := by
  have e1 : (goneT ns (manyL 3 (zeros n))).length = ((List.range n).filter (fun x => !inN ns x)).length := by
    rw [← many0_nums n, List.filter_map, List.length_map]
    rfl
  have e2 : L.length = ((List.range n).filter (fun x => inN ns x)).length := by
    have e0 : L.length = (L.map (·.1)).length := by rw [List.length_map]
    rw [e0]
    apply List.Perm.length_eq
    rw [List.perm_ext_iff_of_nodup h.nd (List.nodup_range.sublist List.filter_sublist)]
    intro x
    rw [h.mem x, List.mem_filter, List.mem_range]
    unfold inN
    rw [List.any_eq_true]
    constructor
    · rintro ⟨h1, h2⟩; exact ⟨h2, x, h1, by simp⟩
    · rintro ⟨h1, y, h2, h3⟩
      have : y = x := by simpa using h3
      exact ⟨this ▸ h2, h1⟩
  have e3 : ∀ l : List Nat, (l.filter (fun x => !inN ns x)).length + (l.filter (fun x => inN ns x)).length = l.length := by
    intro l
    induction l with
    | nil => rfl
    | cons x l ih => cases hx : inN ns x <;> simp [hx] <;> omega
  have := e3 (List.range n)
  rw [List.length_range] at this
  omega
theorem goneT_mem {ns : List Nat} {l : List Tn} {x : Tn} (h : x ∈ goneT ns l) : x ∈ l ∧ x.n ∉ ns := by
  unfold goneT leftT at h
  obtain ⟨h1, h2⟩ := List.mem_filter.1 h
  refine ⟨h1, fun hx => ?_⟩
  have : inN ns x.n = true := by unfold inN; rw [List.any_eq_true]; exact ⟨x.n, hx, by simp⟩
  have h2' : (!inN ns x.n) = true := h2
  rw [this] at h2'; cases h2'
theorem goneT_same {ns : List Nat} {l : List Tn} (h : ∀ x ∈ l, x.n ∉ ns) : goneT ns l = l := by
  unfold goneT leftT
  rw [List.filter_eq_self]
  intro x hx
  have : inN ns x.n = false := by
    unfold inN
    rw [List.any_eq_false]
    intro y hy e
    have e : y = x.n := by simpa using e
    exact h x hx (e ▸ hy)
  show (!inN ns x.n) = true
  rw [this]; rfl
end Go.Proofs.Ytpilkaggiajjmaa
