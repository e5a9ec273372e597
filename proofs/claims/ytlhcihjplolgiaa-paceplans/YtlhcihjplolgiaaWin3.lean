/-
  Layer 13: a thing comes.
-/
import Derived.Test.YtlhcihjplolgiaaWin2
namespace Go.Proofs.Ytlhcihjplolgiaa
open Go.RowKit
set_option linter.unusedVariables false

/-- Nothing waits yet, and there is no map. -/
structure W0At (w : World) (b nx : Nat) : Prop where
  c0 : w.cell? ⟨b, 0, none⟩ = some (.int .u32 (nx : Int))
  c1 : w.cell? ⟨b, 1, none⟩ = some (.map none)
  f0 : w.frozen? ⟨b, 0, none⟩ = false
  f1 : w.frozen? ⟨b, 1, none⟩ = false
  nx : nx < 4294967296
theorem W0At.lt {w : World} {b nx : Nat} (h : W0At w b nx) : b < w.heap.size := block_lt_of_cell h.c0
theorem W0At.touch {S : Nat → Prop} {w w' : World} {b nx : Nat} (h : W0At w b nx) (ht : Touch S w w') (hb : ¬ S b) : W0At w' b nx :=
  ⟨(ht.cell (p := ⟨b, 0, none⟩) h.lt hb).trans h.c0, (ht.cell (p := ⟨b, 1, none⟩) h.lt hb).trans h.c1, (ht.frozen (p := ⟨b, 0, none⟩) h.lt hb).trans h.f0, (ht.frozen (p := ⟨b, 1, none⟩) h.lt hb).trans h.f1, h.nx⟩
theorem W0At.keep {w w' : World} {b nx : Nat} (h : W0At w b nx) (hb : Below w.heap.size w w') : W0At w' b nx := h.touch (touch_of_below (S := fun _ => False) hb) id
/-- What came: with a map, or without one. -/
def WI (w : World) (b : Nat) (mo : Option Nat) (s : Ws) : Prop := (mo = none ∧ s.l = [] ∧ W0At w b s.nx) ∨ ∃ r, mo = some r ∧ WAt w b r s
theorem WI.keep {w w' : World} {b : Nat} {mo : Option Nat} {s : Ws} (h : WI w b mo s) (hb : Below w.heap.size w w') : WI w' b mo s := by
  rcases h with ⟨h1, h2, h3⟩ | ⟨r, h1, h2⟩
  · exact .inl ⟨h1, h2, h3.keep hb⟩
  · exact .inr ⟨r, h1, h2.keep hb⟩
theorem WI.touch {S : Nat → Prop} {w w' : World} {b : Nat} {mo : Option Nat} {s : Ws} (h : WI w b mo s) (ht : Touch S w w') (hb : ¬ S b) (hm : ∀ r, mo = some r → ¬ S r) : WI w' b mo s := by
  rcases h with ⟨h1, h2, h3⟩ | ⟨r, h1, h2⟩
  · exact .inl ⟨h1, h2, h3.touch ht hb⟩
  · exact .inr ⟨r, h1, h2.touch ht hb (hm r h1)⟩
theorem WI.lt {w : World} {b : Nat} {mo : Option Nat} {s : Ws} (h : WI w b mo s) : b < w.heap.size := by
  rcases h with ⟨h1, h2, h3⟩ | ⟨r, h1, h2⟩
  · exact h3.lt
  · exact h2.lt
theorem WI.nx {w : World} {b : Nat} {mo : Option Nat} {s : Ws} (h : WI w b mo s) : s.nx < 4294967296 := by
  rcases h with ⟨h1, h2, h3⟩ | ⟨r, h1, h2⟩
  · exact h3.nx
  · exact h2.nx
def putW (s : Ws) (n : Nat) (t : List UInt8) : Ws × List (List UInt8) × Nat :=
  if belowB n s.nx = true then (s, [], 11) else if 32 < distW n s.nx then (s, [], 8) else if findW s.l n ≠ none then (s, [], 10)
  else ((goW (s.l.length + 2) ⟨s.nx, s.l ++ [(n, t)]⟩).1, (goW (s.l.length + 2) ⟨s.nx, s.l ++ [(n, t)]⟩).2, 0)
def InPost (w : World) (b : Nat) (mo : Option Nat) (t : Ws × List (List UInt8) × Nat) (e : Ending) (w' : World) : Prop :=
  ∃ a c mo', e = .returned (.tuple #[.slice a t.2.1.length c, .int .i64 (t.2.2 : Nat)]) ∧ WI w' b mo' t.1 ∧ (∀ r, mo' = some r → mo = some r ∨ w.heap.size ≤ r) ∧ OwnV 9 1 w.heap.size a c (t.2.1.map strCells1) w' ∧ Touch (fun k => k = b ∨ mo = some k) w w'
theorem inPost_none {w w' : World} {b : Nat} {mo : Option Nat} {s : Ws} {e : Nat} (h : WI w b mo s) (hb : Below w.heap.size w w') : InPost w b mo (s, [], e) (.returned (.tuple #[.slice none 0 0, .int .i64 (e : Nat)])) w' :=
  ⟨none, 0, mo, rfl, h.keep hb, fun r hr => .inl hr, ⟨World.ownsRow_nil _ _ _ _, (fun x hx => by cases hx)⟩, touch_of_below hb⟩
theorem drewN_bel (w : World) (n : Nat) : Below w.heap.size w (w.drewN n) := ⟨rfl, rfl, rfl, Nat.le_refl _, fun _ _ => rfl⟩
theorem expect_any (n : Nat) (hn : n < 4294967296) (w : World) : Calls Try.prog 90 #[.int .u32 (n : Int)] w fun r w' => r = .returned (.pointer (some ⟨w.heap.size, 0, none⟩)) ∧ WI w' w.heap.size none ⟨n, []⟩ ∧ Below w.heap.size w w' := by
  have HN := Lib.hid hn
  clear hn
  go_enter Try.func90, Try.ntmps90
  go_wp2
  go_ret
  exact ⟨rfl, .inl ⟨rfl, rfl, ⟨by simp, by simp, frozen_new _ _ _ _, frozen_new _ _ _ _, HN.out⟩⟩, bel_alloc (Below.refl _ _) _⟩
set_option maxRecDepth 100000 in
set_option maxHeartbeats 2000000 in
/-- A thing that is below the awaited one, or too far ahead of it. -/
theorem inPut_far (b : Nat) (mo : Option Nat) (s : Ws) (n : Nat) (t : List UInt8) (w : World) (h : WI w b mo s) (hn : n < 4294967296) (hf : belowB n s.nx = true ∨ belowB n s.nx = false ∧ 32 < distW n s.nx) :
    Calls Try.prog 73 #[.pointer (some ⟨b, 0, none⟩), itV n t] w (InPost w b mo (putW s n t)) := by
  have hnx := h.nx
  have hA : Below w.heap.size w (w.alloc (.cells #[.int .u32 (n : Int), .string (bs t)] 142)) := bel_alloc (Below.refl _ _) _
  have hc0 : w.cell? ⟨b, 0, none⟩ = some (.int .u32 (s.nx : Int)) := by
    rcases h with ⟨h1, h2, h3⟩ | ⟨r, h1, h2⟩
    · exact h3.c0
    · exact h2.c0
  have HBEL := Lib.hid (fun W => below_any n s.nx hn hnx W)
  have HWS := Lib.hid (wrap_sub n s.nx hn hnx)
  have HD := Lib.hid (distW_lt n s.nx)
  have HPW : Hid (putW s n t = (s, [], if belowB n s.nx = true then 11 else 8)) := Lib.hid (by
    unfold putW
    rcases hf with hf | ⟨hf, hf2⟩
    · rw [if_pos hf, if_pos hf]
    · rw [if_neg (by simp [hf]), if_pos hf2, if_neg (by simp [hf])])
  rw [HPW.out]
  have HW := Lib.hid h
  have HA := Lib.hid hA
  have x0 : (w.alloc (.cells #[.int .u32 (n : Int), .string (bs t)] 142)).cell? ⟨w.heap.size, 0, none⟩ = some (.int .u32 (n : Int)) := by simp
  have y0 : (w.alloc (.cells #[.int .u32 (n : Int), .string (bs t)] 142)).cell? ⟨b, 0, none⟩ = some (.int .u32 (s.nx : Int)) := alloc_cell hc0 _
  have hbl : b < (w.alloc (.cells #[.int .u32 (n : Int), .string (bs t)] 142)).heap.size := block_lt_of_cell y0
  have hXl : w.heap.size < (w.alloc (.cells #[.int .u32 (n : Int), .string (bs t)] 142)).heap.size := block_lt_of_cell x0
  unfold itV
  generalize hpost : InPost w b mo (s, [], if belowB n s.nx = true then 11 else 8) = Post
  have HPost := Lib.hid hpost
  clear h hA hpost hc0 HPW
  rcases hf with hf | ⟨hf, hf2⟩
  · rw [hf] at HBEL HPost
    go_enter Try.func73, Try.ntmps73
    go_upto_region 1 with (fail)
    generalize w.alloc (.cells #[.int .u32 (n : Int), .string (bs t)] 142) = W at HA x0 y0 hbl hXl ⊢
    generalize w.heap.size = X at x0 hXl ⊢
    go_quiet ((go_at_call 107; exact Calls.quiet_of_same (HBEL.out _)))
    have HB : Hid (Below w.heap.size w (W.drewN nq)) := Lib.hid (HA.out.trans ((drewN_bel W nq).mono HA.out.size))
    go_wp2
    rw [← HPost.out]
    exact inPost_none (e := 11) HW.out HB.out
  · rw [hf] at HBEL HPost
    have hd := HWS.out
    have hf3 : (32 : Int) < (distW n s.nx : Nat) := by omega
    generalize distW n s.nx = d at hd hf2 hf3 HD
    have HD2 := Lib.hid hd
    clear hd HWS
    go_enter Try.func73, Try.ntmps73
    go_upto_region 1 with (fail)
    generalize w.alloc (.cells #[.int .u32 (n : Int), .string (bs t)] 142) = W at HA x0 y0 hbl hXl ⊢
    generalize w.heap.size = X at x0 hXl ⊢
    go_quiet ((go_at_call 107; exact Calls.quiet_of_same (HBEL.out _)))
    have HB : Hid (Below w.heap.size w (W.drewN nq)) := Lib.hid (HA.out.trans ((drewN_bel W nq).mono HA.out.size))
    have x0' : (W.drewN nq).cell? ⟨X, 0, none⟩ = some (.int .u32 (n : Int)) := x0
    have y0' : (W.drewN nq).cell? ⟨b, 0, none⟩ = some (.int .u32 (s.nx : Int)) := y0
    have hbl' := block_lt_of_cell y0'
    have hXl' := block_lt_of_cell x0'
    simp only at hbl' hXl'
    clear x0 y0 hbl hXl HA
    generalize W.drewN nq = W2 at HB x0' y0' hbl' hXl' ⊢
    have hdd := HD2.out
    go_upto_region 3 with (fail)
    go_quiet (fail)
    have HB2 : Hid (Below w.heap.size w (W2.drewN nq)) := Lib.hid (HB.out.trans ((drewN_bel W2 nq).mono HB.out.size))
    go_wp2
    rw [← HPost.out]
    exact inPost_none (e := 8) HW.out HB2.out
end Go.Proofs.Ytlhcihjplolgiaa
