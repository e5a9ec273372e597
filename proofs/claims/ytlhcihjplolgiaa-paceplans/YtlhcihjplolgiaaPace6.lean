/-
  Layer 17: which pace is a turn's: a search for the first that begins behind it.
-/
import Derived.Test.YtlhcihjplolgiaaPace5
import Derived.Shelf.GgClosure.Gives
namespace Go.Proofs.Ytlhcihjplolgiaa
open Go.RowKit
set_option linter.unusedVariables false

/-- What is asked of a closure that tells of a place. -/
def TellsI (g : Nat) (lb : Array Value) (n : Nat) (p : Nat → Bool) (w : World) : Prop := ∀ (W : World) (k : Nat), k < n → Below w.heap.size w W → Calls Try.prog g (#[.int .i64 (k : Int)] ++ lb) W fun r w' => r = .returned (.bool (p k)) ∧ Below w.heap.size w w'
def SrchPost (n : Nat) (p : Nat → Bool) (w : World) (r : Ending) (w' : World) : Prop := ∃ m : Nat, r = .returned (.int .i64 (m : Int)) ∧ m ≤ n ∧ (∀ k, k < m → p k = false) ∧ (∀ k, m ≤ k → k < n → p k = true) ∧ Below w.heap.size w w'
set_option maxRecDepth 100000 in
set_option maxHeartbeats 1000000 in
theorem srch17_any (g : Nat) (lb : Array Value) (eg : ∀ args w, (callFunc g args).run Try.prog w = .ok (.enter g args) w) (n : Nat) (p : Nat → Bool) (w : World) (hn : n ≤ 1000) (hmono : ∀ i j, i ≤ j → j < n → p i = true → p j = true) (hp : TellsI g lb n p w) :
    Calls Try.prog 118 #[.int .i64 (n : Int), .func (.func g) #[] lb] w (SrchPost n p w) := by
  have HP := Lib.hid hp
  have HMO := Lib.hid hmono
  generalize hpost : SrchPost n p w = Post
  have HPost := Lib.hid hpost
  clear hp hpost hmono
  go_enter Try.func118, Try.ntmps118
  go_wp2
  go_loopw [5, 6] (fun v5 v6 wr => ∃ i j : Nat, i ≤ j ∧ j ≤ n ∧ v5 = .int .i64 (i : Int) ∧ v6 = .int .i64 (j : Int) ∧ Hid ((∀ k, k < i → p k = false) ∧ (∀ k, j ≤ k → k < n → p k = true) ∧ Below w.heap.size w wr)) (fun v5 v6 _ => (intOf v6).toNat - (intOf v5).toNat)
  case atStart => exact ⟨0, n, by omega, by omega, rfl, rfl, Lib.hid ⟨fun k h => by omega, fun k h1 h2 => by omega, Below.refl _ _⟩⟩
  case round =>
    obtain ⟨i, j, hij, hj, rfl, rfl, HM⟩ := hrel
    have i0 : (0 : Int) ≤ (i : Int) := by omega
    have j1 : (j : Int) ≤ 1000 := by omega
    by_cases hlt : i < j
    · obtain ⟨h, hh⟩ : ∃ h, (i + j) / 2 = h := ⟨_, rfl⟩
      have h1 : i ≤ h := by omega
      have h2 : h < j := by omega
      have HC := Lib.hid (HP.out wr h (by omega) HM.out.2.2)
      have hlt' : (i : Int) < (j : Int) := by omega
      have hx1 : IntKind.u64.wrap ((i : Int) + (j : Int)) = (i : Int) + (j : Int) := by rw [IntKind.wrap_u64]; omega
      have hx2 : ((i : Int) + (j : Int)) / 2 = (h : Int) := by omega
      have h0 : (0 : Int) ≤ (h : Int) := by omega
      have h3 : (h : Int) < 1000 := by omega
      have HXT := Lib.hid (show p h = true → ∀ k, h ≤ k → k < n → p k = true from fun e k q1 q2 => HMO.out h k q1 q2 e)
      have HXF := Lib.hid (show p h = false → ∀ k, k < h + 1 → p k = false from fun e k q1 => by
        cases hk : p k with
        | false => rfl
        | true =>
          have := HMO.out k h (by omega) (by omega) hk
          rw [e] at this; cases this)
      clear hh
      cases hq : p h with
      | true =>
        have HT := Lib.hid (HXT.out hq)
        rw [hq] at HC
        clear hq HXT HXF
        have HM1 := Lib.hid HM.out.1
        clear HM
        go_wp2_with (go_at_fn g; refine HC.out.mono ?_; rintro r w4 ⟨rfl, hb4⟩)
        go_roundw
        case rel => exact ⟨i, h, by omega, by omega, rfl, rfl, Lib.hid ⟨HM1.out, HT.out, hb4⟩⟩
        case measure => simp [intOf] <;> omega
      | false =>
        have HF := Lib.hid (HXF.out hq)
        rw [hq] at HC
        clear hq HXT HXF
        have HM1 := Lib.hid HM.out.2.1
        clear HM
        go_wp2_with (go_at_fn g; refine HC.out.mono ?_; rintro r w4 ⟨rfl, hb4⟩)
        go_roundw
        case rel => exact ⟨h + 1, j, by omega, by omega, by go_num, rfl, Lib.hid ⟨HF.out, HM1.out, hb4⟩⟩
        case measure => simp [intOf] <;> omega
    · obtain rfl : i = j := by omega
      have hle : (i : Int) ≤ (i : Int) := by omega
      have HF : Hid (SrchPost n p w (.returned (.int .i64 (i : Int))) wr) := Lib.hid ⟨i, rfl, hj, HM.out.1, HM.out.2.1, HM.out.2.2⟩
      rw [HPost.out] at HF
      clear HM
      go_wp2
      exact HF.out
def gtK (l : List Sp) (turn : Int) (k : Nat) : Bool := decide (turn < (l.getD k ⟨0, 0, 0⟩).f)
set_option maxRecDepth 100000 in
theorem place17c_any (B1 B2 : Nat) (b : Nat) (turn : Int) (a : Option Addr) (c : Nat) (l : List Sp) (w : World) (h : PlanAt w b a c l) (hB1 : w.cell? ⟨B1, 0, none⟩ = some (.pointer (some ⟨b, 0, none⟩))) (hB2 : w.cell? ⟨B2, 0, none⟩ = some (.int .i64 turn)) : TellsI 119 #[.pointer (some ⟨B1, 0, none⟩), .pointer (some ⟨B2, 0, none⟩)] l.length (gtK l turn) w := by
  intro W k hk hb
  show Calls Try.prog 119 #[.int .i64 (k : Int), .pointer (some ⟨B1, 0, none⟩), .pointer (some ⟨B2, 0, none⟩)] W _
  have l1 := block_lt_of_cell hB1
  have l2 := block_lt_of_cell hB2
  have c1 := (hb.cell (p := ⟨B1, 0, none⟩) l1).trans hB1
  have c2 := (hb.cell (p := ⟨B2, 0, none⟩) l2).trans hB2
  have h' := h.keep hb
  have hfew := h.few
  obtain ⟨g, rfl, hg, d0, -, -⟩ := h'.at hk
  have c0 := h'.c0
  have e : gtK l turn k = decide (turn < l[k].f) := by unfold gtK; rw [List.getD, List.getElem?_eq_getElem hk]; rfl
  rw [e]
  generalize l[k].f = v at d0 ⊢
  have HB := Lib.hid hb
  have hi0 : (0 : Int) ≤ (k : Int) := by omega
  have hi1 : (k : Int) < (l.length : Int) := by omega
  have hi2 : (l.length : Int) ≤ 1000 := by omega
  clear h h' hB1 hB2 hb e l1 l2
  by_cases hv : turn < v
  · have ht : decide (turn < v) = true := decide_eq_true hv
    rw [ht]
    go_enter Try.func119, Try.ntmps119
    go_wp2
    go_quiet (fail)
    go_wp2
    go_ret
    exact ⟨rfl, bel17_drewN HB.out _⟩
  · have ht : decide (turn < v) = false := decide_eq_false hv
    rw [ht]
    go_enter Try.func119, Try.ntmps119
    go_wp2
    go_quiet (fail)
    go_wp2
    go_ret
    exact ⟨rfl, bel17_drewN HB.out _⟩
/-- By rising turns. -/
def Rise (l : List Sp) : Prop := ∀ i j (hi : i < l.length) (hj : j < l.length), i < j → l[i].f < l[j].f
/-- Which of them is a turn's. -/
def IsPlace (l : List Sp) (turn : Int) (k : Nat) : Prop := k < l.length ∧ (∀ j (hj : j < l.length), k < j → turn < l[j].f) ∧ (∀ j (hj : j < l.length), j ≤ k → 0 < k → l[j].f ≤ turn)
theorem place_of {l : List Sp} {turn : Int} {m : Nat} (hl : 0 < l.length) (hm : m ≤ l.length) (h1 : ∀ k, k < m → gtK l turn k = false) (h2 : ∀ k, m ≤ k → k < l.length → gtK l turn k = true) : IsPlace l turn (m - 1) := by
  have e : ∀ k (hk : k < l.length), gtK l turn k = decide (turn < l[k].f) := fun k hk => by unfold gtK; rw [List.getD, List.getElem?_eq_getElem hk]; rfl
  refine ⟨by omega, fun j hj hlt => ?_, fun j hj hle h0 => ?_⟩
  · have := h2 j (by omega) hj
    rw [e j hj] at this; simpa using this
  · have := h1 j (by omega)
    rw [e j hj] at this; simpa using this
def PlacePost (l : List Sp) (turn : Int) (w : World) (r : Ending) (w' : World) : Prop := ∃ k : Nat, r = .returned (.int .i64 (k : Int)) ∧ IsPlace l turn k ∧ Below w.heap.size w w'
set_option maxRecDepth 100000 in
set_option maxHeartbeats 1000000 in
theorem place17_any (b : Nat) (turn : Int) (a : Option Addr) (c : Nat) (l : List Sp) (w : World) (h : PlanAt w b a c l) (hr : Rise l) : Calls Try.prog 86 #[.pointer (some ⟨b, 0, none⟩), .int .i64 turn] w (PlacePost l turn w) := by
  have hA : Below w.heap.size w ((w.alloc (.cells #[.pointer (some ⟨b, 0, none⟩)] 92)).alloc (.cells #[.int .i64 turn] 3)) := bel_alloc (bel_alloc (Below.refl _ _) _) _
  have x0 : ((w.alloc (.cells #[.pointer (some ⟨b, 0, none⟩)] 92)).alloc (.cells #[.int .i64 turn] 3)).cell? ⟨w.heap.size, 0, none⟩ = some (.pointer (some ⟨b, 0, none⟩)) := alloc_cell (new_cell rfl rfl) _
  have x1 : ((w.alloc (.cells #[.pointer (some ⟨b, 0, none⟩)] 92)).alloc (.cells #[.int .i64 turn] 3)).cell? ⟨w.heap.size + 1, 0, none⟩ = some (.int .i64 turn) := new_cell (by simp) rfl
  have hmono : ∀ i j, i ≤ j → j < l.length → gtK l turn i = true → gtK l turn j = true := fun i j hij hj hi => by
    have e : ∀ k (hk : k < l.length), gtK l turn k = decide (turn < l[k].f) := fun k hk => by unfold gtK; rw [List.getD, List.getElem?_eq_getElem hk]; rfl
    rw [e i (by omega)] at hi
    rw [e j hj]
    by_cases hq : i = j
    · subst hq; exact hi
    · have := hr i j (by omega) hj (by omega)
      simp at hi ⊢; omega
  have HI := Lib.hid ((srch17_any 119 #[.pointer (some ⟨w.heap.size, 0, none⟩), .pointer (some ⟨w.heap.size + 1, 0, none⟩)] (enters_of Try.func119 (by kernel_rfl) rfl) l.length (gtK l turn) _ h.few hmono (place17c_any w.heap.size (w.heap.size + 1) b turn a c l _ (h.keep hA) x0 x1)).mono (R' := fun r w' => ∃ m : Nat, r = .returned (.int .i64 (m : Int)) ∧ m ≤ l.length ∧ Hid (IsPlace l turn (m - 1) ∧ Below w.heap.size w w')) fun r w' ⟨m, h1, h2, h3, h4, h5⟩ => ⟨m, h1, h2, Lib.hid ⟨place_of h.pos h2 h3 h4, hA.trans (h5.mono hA.size)⟩⟩)
  have c0 := h.c0
  have hbl := h.lt
  have hfew := h.few
  have hA0 := hA.cell (p := ⟨b, 0, none⟩) hbl
  rw [c0] at hA0
  generalize hpost : PlacePost l turn w = Post
  have HPost := Lib.hid hpost
  clear h hA hr hmono hpost
  go_enter Try.func86, Try.ntmps86
  go_wp2_with fail
  refine HI.out.mono ?_
  rintro r w4 ⟨m, rfl, hm, HR⟩
  have m0 : (0 : Int) ≤ (m : Int) := by omega
  have m1 : (m : Int) ≤ 1000 := by omega
  have hmx := Lib.hid (show max ((m : Int) - 1) 0 = ((m - 1 : Nat) : Int) by omega)
  have HF : Hid (PlacePost l turn w (.returned (.int .i64 ((m - 1 : Nat) : Int))) w4) := Lib.hid ⟨m - 1, rfl, HR.out.1, HR.out.2⟩
  rw [HPost.out, ← hmx.out] at HF
  clear HI x0 x1 hA0 HR HPost
  go_wp2
  exact HF.out
end Go.Proofs.Ytlhcihjplolgiaa
