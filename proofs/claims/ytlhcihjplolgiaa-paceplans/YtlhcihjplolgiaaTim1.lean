/-
  Layer 14: those that wait, as they lie; which timers may be; where a number stands.
-/
import Derived.Test.YtlhcihjplolgiaaWin9
import Derived.Test.YtlhcihjplolgiaaRWin1
import Derived.Shelf.GgClosure.Gives
namespace Go.Proofs.Ytlhcihjplolgiaa
open Go.RowKit
set_option linter.unusedVariables false

structure Tn where
  n : Nat
  due : Nat
  long : Nat
  times : Nat
/-- What may be of a number, of ticks, of counts, in the laws. -/
structure Tn.Ok (x : Tn) : Prop where
  n : x.n < 4294967296
  due : x.due ≤ 1000000000
  long : x.long ≤ 1000000000
  times : x.times ≤ 1000000000
def tnC (x : Tn) : List Value := [.int .u32 (x.n : Int), .int .i64 (x.due : Int), .int .i64 (x.long : Int), .int .i64 (x.times : Int)]
theorem tn_wide (l : List Tn) : VWide 4 (l.map tnC) := by
  intro x hx
  obtain ⟨p, -, rfl⟩ := List.mem_map.1 hx
  refine ⟨rfl, fun u hu => ?_⟩
  simp only [tnC, List.mem_cons, List.not_mem_nil, or_false] at hu
  rcases hu with rfl | rfl | rfl | rfl <;> rfl
theorem tnTy : VTy 196 4 (.agg #[.int .u32 0, .int .i64 0, .int .i64 0, .int .i64 0]) 32 := ⟨by kernel_rfl, rfl, by decide, by decide⟩
def TRow (w : World) (a : Option Addr) (l : List Tn) : Prop := VRow 4 w a (l.map tnC)
theorem TRow.touch {S : Nat → Prop} {w w' : World} {a : Option Addr} {l : List Tn} (h : TRow w a l) (ht : Touch S w w') (hs : ∀ x, a = some x → ¬ S x.block) : TRow w' a l := VRow.touch (by decide) (tn_wide l) h ht hs
theorem TRow.below {w w' : World} {a : Option Addr} {l : List Tn} (h : TRow w a l) (hb : Below w.heap.size w w') : TRow w' a l := h.touch (touch_of_below (S := fun _ => False) hb) (fun _ _ => id)
theorem TRow.at {w : World} {a : Option Addr} {l : List Tn} (h : TRow w a l) {k : Nat} (hk : k < l.length) : ∃ b off, a = some ⟨b, off, none⟩ ∧ b < w.heap.size ∧ w.cell? ⟨b, off + k * 4, none⟩ = some (.int .u32 (l[k].n : Int)) ∧ w.cell? ⟨b, off + k * 4 + 1, none⟩ = some (.int .i64 (l[k].due : Int)) ∧ w.cell? ⟨b, off + k * 4 + 2, none⟩ = some (.int .i64 (l[k].long : Int)) ∧ w.cell? ⟨b, off + k * 4 + 3, none⟩ = some (.int .i64 (l[k].times : Int)) := by
  have hlen : (l.map tnC).length = l.length := by simp
  obtain ⟨b, off, e1, hc⟩ := h (by rw [hlen]; omega)
  have hx : ∀ j, j < 4 → w.cell? ⟨b, off + k * 4 + j, none⟩ = (tnC l[k])[j]? := fun j hj => by
    rw [hc k (by rw [hlen]; exact hk) j hj]; simp
  have h0 : w.cell? ⟨b, off + k * 4, none⟩ = some (.int .u32 (l[k].n : Int)) := hx 0 (by decide)
  exact ⟨b, off, e1, block_lt_of_cell h0, h0, hx 1 (by decide), hx 2 (by decide), hx 3 (by decide)⟩
/-- Those that wait, at b: first, most, the row. -/
structure TAt (w : World) (b : Nat) (first most : Int) (a : Option Addr) (c : Nat) (l : List Tn) : Prop where
  c0 : w.cell? ⟨b, 0, none⟩ = some (.int .i64 first)
  c1 : w.cell? ⟨b, 1, none⟩ = some (.int .i64 most)
  c2 : w.cell? ⟨b, 2, none⟩ = some (.slice a l.length c)
  f2 : w.frozen? ⟨b, 2, none⟩ = false
  row : OwnV 196 4 0 a c (l.map tnC) w
  ne : ∀ x, a = some x → x.block ≠ b
theorem TAt.lt {w : World} {b : Nat} {first most : Int} {a : Option Addr} {c : Nat} {l : List Tn} (h : TAt w b first most a c l) : b < w.heap.size := block_lt_of_cell h.c0
theorem TAt.trow {w : World} {b : Nat} {first most : Int} {a : Option Addr} {c : Nat} {l : List Tn} (h : TAt w b first most a c l) : TRow w a l := h.row.row (tn_wide l)
theorem TAt.touch {S : Nat → Prop} {w w' : World} {b : Nat} {first most : Int} {a : Option Addr} {c : Nat} {l : List Tn} (h : TAt w b first most a c l) (ht : Touch S w w') (hb : ¬ S b) (ha : ∀ x, a = some x → ¬ S x.block) : TAt w' b first most a c l :=
  ⟨(ht.cell (p := ⟨b, 0, none⟩) h.lt hb).trans h.c0, (ht.cell (p := ⟨b, 1, none⟩) h.lt hb).trans h.c1, (ht.cell (p := ⟨b, 2, none⟩) h.lt hb).trans h.c2, (ht.frozen (p := ⟨b, 2, none⟩) h.lt hb).trans h.f2, h.row.touch ht ha, h.ne⟩
theorem TAt.keep {w w' : World} {b : Nat} {first most : Int} {a : Option Addr} {c : Nat} {l : List Tn} (h : TAt w b first most a c l) (hb : Below w.heap.size w w') : TAt w' b first most a c l := h.touch (touch_of_below (S := fun _ => False) hb) id (fun _ _ => id)
/-- May it be? -/
def mayT (f m : Int) : Bool := decide (1 ≤ f) && (decide (f ≤ m) && decide (m ≤ 1048576))
set_option maxRecDepth 100000 in
theorem tcheck_any (f m : Int) (w : World) : Calls Try.prog 120 #[.agg #[.int .i64 f, .int .i64 m]] w fun r w' => r = .returned (.int .i64 (if mayT f m = true then 0 else 4)) ∧ Below w.heap.size w w' := by
  have HB := Lib.hid (bel_alloc (Below.refl w.heap.size w) (.cells #[.int .i64 f, .int .i64 m] 113))
  unfold mayT
  by_cases h1 : f < 1
  · rw [decide_eq_false (by omega), Bool.false_and, if_neg (by simp)]
    go_enter Try.func120, Try.ntmps120
    go_wp2
    go_ret
    exact ⟨rfl, HB.out⟩
  · have h1' : (1 : Int) ≤ f := by omega
    rw [decide_eq_true h1', Bool.true_and]
    by_cases h2 : m < f
    · rw [decide_eq_false (by omega), Bool.false_and, if_neg (by simp)]
      go_enter Try.func120, Try.ntmps120
      go_wp2
      go_ret
      exact ⟨rfl, HB.out⟩
    · have h2' : f ≤ m := by omega
      rw [decide_eq_true h2', Bool.true_and]
      by_cases h3 : (1048576 : Int) < m
      · rw [decide_eq_false (by omega), if_neg (by simp)]
        go_enter Try.func120, Try.ntmps120
        go_wp2
        go_ret
        exact ⟨rfl, HB.out⟩
      · have h3' : m ≤ 1048576 := by omega
        rw [decide_eq_true h3', if_pos rfl]
        go_enter Try.func120, Try.ntmps120
        go_wp2
        go_ret
        exact ⟨rfl, HB.out⟩
def TNew (f m : Int) (w : World) (r : Ending) (w' : World) : Prop :=
  (mayT f m = true ∧ ∃ b, r = .returned (.tuple #[.pointer (some ⟨b, 0, none⟩), .int .i64 0]) ∧ w.heap.size ≤ b ∧ TAt w' b f m none 0 [] ∧ Below w.heap.size w w') ∨ (mayT f m = false ∧ r = .returned (.tuple #[.pointer none, .int .i64 4]) ∧ Below w.heap.size w w')
set_option maxRecDepth 100000 in
theorem tnew_any (f m : Int) (w : World) : Calls Try.prog 88 #[.agg #[.int .i64 f, .int .i64 m]] w (TNew f m w) := by
  have HC := Lib.hid (fun W => tcheck_any f m W)
  have hA : Below w.heap.size w (w.alloc (.cells #[.int .i64 f, .int .i64 m] 113)) := bel_alloc (Below.refl _ _) _
  have x0 : (w.alloc (.cells #[.int .i64 f, .int .i64 m] 113)).cell? ⟨w.heap.size, 0, none⟩ = some (.int .i64 f) := by simp
  have x1 : (w.alloc (.cells #[.int .i64 f, .int .i64 m] 113)).cell? ⟨w.heap.size, 1, none⟩ = some (.int .i64 m) := by simp
  have HX := Lib.hid (And.intro x0 x1)
  have HA := Lib.hid hA
  clear hA x0 x1
  cases hm : mayT f m with
  | true =>
    rw [hm] at HC
    simp only [if_true] at HC
    have HF : Hid (∀ W : World, Below w.heap.size w W → TNew f m w (.returned (.tuple #[.pointer (some ⟨W.heap.size, 0, none⟩), .int .i64 0])) (W.alloc (.cells #[.int .i64 f, .int .i64 m, .slice none 0 0] 193))) := Lib.hid (fun W hb => .inl ⟨hm, W.heap.size, rfl, hb.size, ⟨new_cell rfl rfl, new_cell rfl rfl, new_cell rfl rfl, frozen_new _ _ _ _, ⟨World.ownsRow_nil _ _ _ _, (fun x hx => by cases hx)⟩, (fun x hx => by cases hx)⟩, bel_alloc hb _⟩)
    generalize TNew f m w = Post at HF ⊢
    clear hm
    go_enter Try.func88, Try.ntmps88
    go_wp2_with fail
    generalize w.alloc (.cells #[.int .i64 f, .int .i64 m] 113) = W1 at HX HA ⊢
    refine (HC.out _).mono ?_
    rintro r w2 ⟨rfl, hb⟩
    have HB := Lib.hid (HA.out.trans (hb.mono HA.out.size))
    have y0 := (hb.cell (p := ⟨w.heap.size, 0, none⟩) (block_lt_of_cell HX.out.1)).trans HX.out.1
    have y1 := (hb.cell (p := ⟨w.heap.size, 1, none⟩) (block_lt_of_cell HX.out.2)).trans HX.out.2
    have hl := block_lt_of_cell y0
    simp only at hl
    clear hb
    go_wp2
    exact HF.out _ HB.out
  | false =>
    rw [hm] at HC
    simp only [Bool.false_eq_true, if_false] at HC
    have HF : Hid (∀ W : World, Below w.heap.size w W → TNew f m w (.returned (.tuple #[.pointer none, .int .i64 4])) W) := Lib.hid (fun W hb => .inr ⟨hm, rfl, hb⟩)
    generalize TNew f m w = Post at HF ⊢
    clear hm
    go_enter Try.func88, Try.ntmps88
    go_wp2_with fail
    generalize w.alloc (.cells #[.int .i64 f, .int .i64 m] 113) = W1 at HX HA ⊢
    refine (HC.out _).mono ?_
    rintro r w2 ⟨rfl, hb⟩
    have HB := Lib.hid (HA.out.trans (hb.mono HA.out.size))
    clear hb
    go_wp2
    exact HF.out _ HB.out
/-- Where the first one stands of which p holds. -/
def IdxIs (l : List Tn) (p : Tn → Bool) (z : Int) : Prop := (∃ k, ∃ hk : k < l.length, z = (k : Int) ∧ p l[k] = true ∧ ∀ j (hj : j < k), p (l[j]'(by omega)) = false) ∨ (z = -1 ∧ ∀ x ∈ l, p x = false)
def IdxPost (w : World) (l : List Tn) (p : Tn → Bool) (r : Ending) (w' : World) : Prop := ∃ z : Int, r = .returned (.int .i64 z) ∧ IdxIs l p z ∧ Below w.heap.size w w'
/-- What is asked of a closure that tells of one. -/
def TellsB (g : Nat) (lb : Array Value) (l : List Tn) (p : Tn → Bool) (w : World) : Prop := ∀ (W : World) (n d g' t : Nat), (⟨n, d, g', t⟩ : Tn) ∈ l → Below w.heap.size w W → Calls Try.prog g (#[.agg #[.int .u32 (n : Int), .int .i64 (d : Int), .int .i64 (g' : Int), .int .i64 (t : Int)]] ++ lb) W fun r w' => r = .returned (.bool (p ⟨n, d, g', t⟩)) ∧ Below w.heap.size w w'
set_option maxRecDepth 100000 in
set_option maxHeartbeats 1000000 in
theorem idxF_any (g : Nat) (lb : Array Value) (eg : ∀ args w, (callFunc g args).run Try.prog w = .ok (.enter g args) w) (a : Option Addr) (c : Nat) (l : List Tn) (p : Tn → Bool) (w : World) (hl : l.length ≤ 1000) (hr : TRow w a l) (hp : TellsB g lb l p w) :
    Calls Try.prog 135 #[.slice a l.length c, .func (.func g) #[] lb] w (IdxPost w l p) := by
  have HR := Lib.hid hr
  have HP := Lib.hid hp
  generalize hpost : IdxPost w l p = Post
  have HPost := Lib.hid hpost
  clear hr hp hpost
  go_enter Try.func135, Try.ntmps135
  go_wp2
  go_loopw [8] (fun i wr => ∃ k : Nat, k ≤ l.length ∧ i = .int .i64 k ∧ Hid ((∀ j (hj : j < l.length), j < k → p l[j] = false) ∧ Below w.heap.size w wr)) (fun i _ => l.length - (intOf i).toNat)
  case atStart => exact ⟨0, by omega, rfl, Lib.hid ⟨fun j hj h => by omega, Below.refl _ _⟩⟩
  case round =>
    obtain ⟨k, hk, rfl, HM⟩ := hrel
    by_cases hlt : k < l.length
    · obtain ⟨b, off, rfl, hb, c0, c1, c2, c3⟩ := (HR.out.below HM.out.2).at hlt
      have HC := Lib.hid (HP.out wr l[k].n l[k].due l[k].long l[k].times (List.getElem_mem hlt) HM.out.2)
      have HX := Lib.hid (show p l[k] = true → IdxIs l p (k : Int) from fun h => .inl ⟨k, hlt, rfl, h, fun j hj => HM.out.1 j (by omega) hj⟩)
      have HNX := Lib.hid (show p l[k] = false → ∀ j (hj : j < l.length), j < k + 1 → p l[j] = false from fun h j hj hjk => by
        by_cases e : j = k
        · subst e; exact h
        · exact HM.out.1 j hj (by omega))
      generalize l[k] = u at c0 c1 c2 c3 HC HX HNX
      obtain ⟨u0, u1, u2, u3⟩ := u
      simp only at c0 c1 c2 c3 HC
      have hi0 : (0 : Int) ≤ (k : Int) := by omega
      have hi1 : (k : Int) < (l.length : Int) := by omega
      cases hq : p ⟨u0, u1, u2, u3⟩ with
      | true =>
        have HI := Lib.hid (HX.out hq)
        rw [hq] at HC
        clear hq HX HNX HM
        go_wp2_with (go_at_fn g; refine HC.out.mono ?_; rintro r w4 ⟨rfl, hb4⟩)
        have HF : Hid (IdxPost w l p (.returned (.int .i64 (k : Int))) w4) := Lib.hid ⟨_, rfl, HI.out, hb4⟩
        rw [HPost.out] at HF
        first | exact HF.out | (go_ret; exact HF.out)
      | false =>
        have HN := Lib.hid (HNX.out hq)
        rw [hq] at HC
        clear hq HX HNX HM
        go_wp2_with (go_at_fn g; refine HC.out.mono ?_; rintro r w4 ⟨rfl, hb4⟩)
        go_roundw
        case rel => exact ⟨k + 1, by omega, by go_num, Lib.hid ⟨HN.out, hb4⟩⟩
        case measure => simp [intOf] <;> omega
    · have HE := Lib.hid (show ∀ x ∈ l, p x = false from fun x hx => by
        obtain ⟨j, hj, rfl⟩ := List.getElem_of_mem hx
        exact HM.out.1 j hj (by omega))
      have hi1 : (l.length : Int) ≤ (k : Int) := by omega
      have HF : Hid (IdxPost w l p (.returned (.int .i64 (-1))) wr) := Lib.hid ⟨_, rfl, .inr ⟨rfl, HE.out⟩, HM.out.2⟩
      rw [HPost.out] at HF
      go_wp2
      exact HF.out
end Go.Proofs.Ytlhcihjplolgiaa
