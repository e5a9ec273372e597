/-
  Layer 8: the document's own table: one more; one goes.
-/
import Derived.Test.YthggfjjiohdbmaaRefU1
import Derived.Deep.RegionHeld3
namespace Go.Proofs.Ythggfjjiohdbmaa
open Go.RowKit
set_option linter.unusedVariables false

section
variable {P : Program} (w : World)
/-- The step over an append of which is known what it leaves, in a region that draws its order. -/
theorem step_append_ex {ops : Array Oper} {o : Oper} {a : Act} {K : Act → World → Prop} {Q : Exit → Act → World → Prop} {E : Prop} (hgd : o.guard = none) (s x : Operand) (t u : TypeId)
    (ho : o.op = .call { callee := .builtin .append, args := #[s, x], argTypes := #[t, u] }) (v xv : Value) (hs : a.eval s = v) (hx : a.eval x = xv) (n : Nat) (R : Option Addr → Nat → World → Prop)
    (hr : ∃ a' c' w', (Builtin.append_ #[t, u] o.type #[v, xv]).run P w = .ok (.slice a' n c') w' ∧ R a' c' w') (h : ∀ a' c' w', R a' c' w' → K (a.put o.dst (.slice a' n c')) w') : if Region.wanted o (yielded ops a.tmps) = true then Oper.wp P o a w K Q else E := by
  obtain ⟨a', c', w', hrun, hR⟩ := hr
  exact step_append_run w hgd s x t u ho v xv hs hx (.slice a' n c') w' hrun (h a' c' w' hR)
end
theorem made0 {X : World} {k : Nat} (e : TypeId) (size : Nat) (hk : k = X.heap.size) : (X.alloc (.cells #[] e)).ownsRow 0 e size (.slice (some ⟨k, 0, none⟩) 0 0) 0 [] := by
  subst hk
  exact World.ownsRow_made X #[] 0 (Nat.zero_le _) (by simp [maxLen]) (by simp)
theorem ownsRow_drew {w : World} {base : Nat} {e : TypeId} {size : Nat} {v : Value} {n : Nat} {xs : List Value} (h : w.ownsRow base e size v n xs) : w.drew.ownsRow base e size v n xs := h
theorem app1 {W0 Wc : World} {a : Option Addr} {c k : Nat} {us : List Un} {ty : TypeId} (hbel : Below W0.heap.size W0 Wc) (hmade : Wc.ownsRow 0 53 6 (.slice (some ⟨k, 0, none⟩) 0 0) 0 []) (hk : W0.heap.size ≤ k) (hr : UnRow W0 a us) (hn : a = none → us = []) (hl : us.length ≤ 1000) :
    ∃ a' c' w', (Builtin.append_ #[28, 28] ty #[.slice (some ⟨k, 0, none⟩) 0 0, .slice a us.length c]).run Try.prog Wc = .ok (.slice a' us.length c') w' ∧ (NewRec 53 6 W0 a' c' (unsI us) w' ∧ Touch (fun b => b = k) Wc w') := by
  have h0 : NewRec 53 6 W0 (some ⟨k, 0, none⟩) 0 [] Wc := ⟨hmade, fun x hx => by cases hx; exact hk, hbel⟩
  obtain ⟨a', c', w', hrun, hnew, ht⟩ := newRec_more (t := 28) (u := 28) (ty := ty) (l := []) runTy Try.underlying28 Try.underlying28 h0 (unsI_wide us) a c (hr.below hbel) (fun e => by rw [hn e]; rfl) (by rw [unsI_len]; simp; omega)
  rw [List.nil_append] at hnew
  rw [List.length_nil, Nat.zero_add, unsI_len] at hrun
  exact ⟨a', c', w', hrun, hnew, ht.mono fun b _ h => by simpa using h.symm⟩
theorem app2 {W0 Wc : World} {a1 a2 : Option Addr} {c1 c2 : Nat} {us vs : List Un} {ty : TypeId} (h : NewRec 53 6 W0 a1 c1 (unsI us) Wc) (hv : UnRow Wc a2 vs) (hn : a2 = none → vs = []) (hl : us.length + vs.length ≤ 1000) :
    ∃ a' c' w', (Builtin.append_ #[28, 28] ty #[.slice a1 us.length c1, .slice a2 vs.length c2]).run Try.prog Wc = .ok (.slice a' (us.length + vs.length) c') w' ∧ NewRec 53 6 W0 a' c' (unsI (us ++ vs)) w' := by
  obtain ⟨a', c', w', hrun, hnew, -⟩ := newRec_more (t := 28) (u := 28) (ty := ty) runTy Try.underlying28 Try.underlying28 h (unsI_wide vs) a2 c2 hv (fun e => by rw [hn e]; rfl) (by rw [unsI_len, unsI_len]; omega)
  rw [unsI_len, unsI_len] at hrun
  rw [← unsI_append] at hnew
  exact ⟨a', c', w', hrun, hnew⟩
theorem newRec_rpost {W0 w w' : World} {a a0 : Option Addr} {c : Nat} {us : List Un} {nx : Int} {q : Value} (hb : Below w.heap.size w W0) (h : NewRec 53 6 W0 a c (unsI us) w') : RPost w a0 us nx q (.returned (.tuple #[.agg #[.slice a us.length c, .int .i64 nx], q])) w' := by
  have hr := h.row (unsI_wide us) (by decide)
  have h1 := h.1
  rw [unsI_len] at h1
  refine ⟨a, c, rfl, hr, fun e => ?_, ?_, ?_, .inr fun x hx => ⟨Nat.le_trans hb.size (h.2.1 x hx), ?_⟩, hb.trans (h.2.2.mono hb.size)⟩
  · subst e; exact List.eq_nil_of_length_eq_zero (own_noneR h1)
  · rcases h1.2 with ⟨hv, e⟩ | ⟨g, cap, cur, hv, -, -, hnc, -⟩
    · omega
    · cases hv; exact hnc
  · rcases h1.2 with ⟨hv, e⟩ | ⟨g, cap, cur, hv, -, -, -, hcm, -⟩
    · have : c = 0 := by simp at hv; exact hv.2.2
      rw [this]; simp [maxLen]
    · cases hv; exact hcm
  · subst hx; exact (h1.lt x.block (by simp [Value.ownBlock])).2
theorem newRec_rpost2 {W0 w w' : World} {a a0 : Option Addr} {c R : Nat} {us : List Un} {nx : Int} {q : Value} (hb : Below w.heap.size w W0) (h : NewRec 53 6 W0 a c (unsI us) w') (hR : w.heap.size ≤ R) (hR2 : R < W0.heap.size) (x0 x1 : Value) : RPost w a0 us nx q (.returned (.tuple #[.agg #[.slice a us.length c, .int .i64 nx], q])) ((w'.setCell ⟨R, 0, none⟩ x0).setCell ⟨R, 1, none⟩ x1) := by
  obtain ⟨a', c', e, h2, h3, h4, h5, h6, h7⟩ := newRec_rpost (a0 := some ⟨w'.heap.size, 0, none⟩) (nx := nx) (q := q) hb h
  simp only [Ending.returned.injEq, Value.tuple.injEq, Array.mk.injEq, List.cons.injEq, Value.agg.injEq, Value.slice.injEq, and_true, true_and] at e
  obtain ⟨rfl, rfl⟩ := e
  have ht := set2r_touch w' R x0 x1
  unfold set2r at ht
  refine ⟨a, c, rfl, h2.touch ht (fun x hx e => by have := h.2.1 x hx; omega), h3, h4, h5, .inr fun x hx => ?_, set2r_below h7 hR x0 x1⟩
  refine ⟨Nat.le_trans hb.size (h.2.1 x hx), ?_⟩
  have h1 := h.1
  subst hx
  have := (h1.lt x.block (by simp [Value.ownBlock])).2
  have := ht.size
  omega
theorem litAt {X : World} {k : Nat} (u : Un) (t : TypeId) (hk : k = X.heap.size) : UnRow (X.alloc (.cells #[.int .i64 u.id, .int .i64 u.kind, .int .i64 u.owner, .int .i64 u.x, .int .i64 u.y, .int .i64 u.health] t)) (some ⟨k, 0, none⟩) [u] := by
  subst hk
  exact RecRow.lit X [u.ints] (unsI_wide [u]) _ _ rfl
theorem UnRow.drew {w : World} {a : Option Addr} {l : List Un} (h : UnRow w a l) : UnRow w.drew a l := h
theorem k8b {W0 w' : World} (hb : Below W0.heap.size W0 w') {T U : Nat} {t0 t1 u0 u1 u2 u3 u4 u5 : Value} (h : W0.cell? ⟨T, 0, none⟩ = some t0 ∧ W0.cell? ⟨T, 1, none⟩ = some t1 ∧ W0.cell? ⟨U, 0, none⟩ = some u0 ∧ W0.cell? ⟨U, 1, none⟩ = some u1 ∧ W0.cell? ⟨U, 2, none⟩ = some u2 ∧ W0.cell? ⟨U, 3, none⟩ = some u3 ∧ W0.cell? ⟨U, 4, none⟩ = some u4 ∧ W0.cell? ⟨U, 5, none⟩ = some u5) : w'.cell? ⟨T, 0, none⟩ = some t0 ∧ w'.cell? ⟨T, 1, none⟩ = some t1 ∧ w'.cell? ⟨U, 0, none⟩ = some u0 ∧ w'.cell? ⟨U, 1, none⟩ = some u1 ∧ w'.cell? ⟨U, 2, none⟩ = some u2 ∧ w'.cell? ⟨U, 3, none⟩ = some u3 ∧ w'.cell? ⟨U, 4, none⟩ = some u4 ∧ w'.cell? ⟨U, 5, none⟩ = some u5 :=
  ⟨(hb.cell (p := ⟨T, 0, none⟩) (block_lt_of_cell h.1)).trans h.1, (hb.cell (p := ⟨T, 1, none⟩) (block_lt_of_cell h.2.1)).trans h.2.1, (hb.cell (p := ⟨U, 0, none⟩) (block_lt_of_cell h.2.2.1)).trans h.2.2.1, (hb.cell (p := ⟨U, 1, none⟩) (block_lt_of_cell h.2.2.2.1)).trans h.2.2.2.1, (hb.cell (p := ⟨U, 2, none⟩) (block_lt_of_cell h.2.2.2.2.1)).trans h.2.2.2.2.1, (hb.cell (p := ⟨U, 3, none⟩) (block_lt_of_cell h.2.2.2.2.2.1)).trans h.2.2.2.2.2.1, (hb.cell (p := ⟨U, 4, none⟩) (block_lt_of_cell h.2.2.2.2.2.2.1)).trans h.2.2.2.2.2.2.1, (hb.cell (p := ⟨U, 5, none⟩) (block_lt_of_cell h.2.2.2.2.2.2.2)).trans h.2.2.2.2.2.2.2⟩
theorem cell_set2 {w : World} {R X j : Nat} {v x y : Value} (hne : X ≠ R) (h : w.cell? ⟨X, j, none⟩ = some v) : ((w.setCell ⟨R, 0, none⟩ x).setCell ⟨R, 1, none⟩ y).cell? ⟨X, j, none⟩ = some v := by
  have ht := set2r_touch w R x y
  unfold set2r at ht
  exact (ht.cell (p := ⟨X, j, none⟩) (block_lt_of_cell h) hne).trans h
theorem k8s {w : World} {T U R : Nat} {t0 t1 u0 u1 u2 u3 u4 u5 x y : Value} (hT : T ≠ R) (hU : U ≠ R) (h : w.cell? ⟨T, 0, none⟩ = some t0 ∧ w.cell? ⟨T, 1, none⟩ = some t1 ∧ w.cell? ⟨U, 0, none⟩ = some u0 ∧ w.cell? ⟨U, 1, none⟩ = some u1 ∧ w.cell? ⟨U, 2, none⟩ = some u2 ∧ w.cell? ⟨U, 3, none⟩ = some u3 ∧ w.cell? ⟨U, 4, none⟩ = some u4 ∧ w.cell? ⟨U, 5, none⟩ = some u5) : ((w.setCell ⟨R, 0, none⟩ x).setCell ⟨R, 1, none⟩ y).cell? ⟨T, 0, none⟩ = some t0 ∧ ((w.setCell ⟨R, 0, none⟩ x).setCell ⟨R, 1, none⟩ y).cell? ⟨T, 1, none⟩ = some t1 ∧ ((w.setCell ⟨R, 0, none⟩ x).setCell ⟨R, 1, none⟩ y).cell? ⟨U, 0, none⟩ = some u0 ∧ ((w.setCell ⟨R, 0, none⟩ x).setCell ⟨R, 1, none⟩ y).cell? ⟨U, 1, none⟩ = some u1 ∧ ((w.setCell ⟨R, 0, none⟩ x).setCell ⟨R, 1, none⟩ y).cell? ⟨U, 2, none⟩ = some u2 ∧ ((w.setCell ⟨R, 0, none⟩ x).setCell ⟨R, 1, none⟩ y).cell? ⟨U, 3, none⟩ = some u3 ∧ ((w.setCell ⟨R, 0, none⟩ x).setCell ⟨R, 1, none⟩ y).cell? ⟨U, 4, none⟩ = some u4 ∧ ((w.setCell ⟨R, 0, none⟩ x).setCell ⟨R, 1, none⟩ y).cell? ⟨U, 5, none⟩ = some u5 :=
  ⟨cell_set2 hT h.1, cell_set2 hT h.2.1, cell_set2 hU h.2.2.1, cell_set2 hU h.2.2.2.1, cell_set2 hU h.2.2.2.2.1, cell_set2 hU h.2.2.2.2.2.1, cell_set2 hU h.2.2.2.2.2.2.1, cell_set2 hU h.2.2.2.2.2.2.2⟩
set_option maxRecDepth 100000 in
set_option maxHeartbeats 4000000 in
theorem refSpawn_yes (a : Option Addr) (c : Nat) (us : List Un) (g kind owner x y : Int) (w : World) (hl : us.length ≤ 64) (hg : 0 ≤ g ∧ g < 1099511627776) (hr : UnRow w a us) (hn : a = none → us = []) (hc : us.length ≤ c ∧ c ≤ maxLen) (hq : spawnQ us g kind owner x y = true) :
    Calls Try.prog 15 #[.agg #[.slice a us.length c, .int .i64 (g + 1)], .int .i64 kind, .int .i64 owner, .int .i64 x, .int .i64 y] w (RPost w a (us ++ [spawnU g kind owner x y]) (g + 1 + 1) (.int .i64 (g + 1))) := by
  have HR := Lib.hid hr
  have HN := Lib.hid hn
  simp only [spawnQ, Bool.and_eq_true, decide_eq_true_eq] at hq
  obtain ⟨q1, q2, q3⟩ := hq
  obtain ⟨m0, m1, m2, m3, -⟩ := (mayQ_iff _).1 q3
  have H0 := Lib.hid (show ∀ W, Calls Try.prog 34 #[.int .i64 0, .int .i64 kind] W fun r w' => r = .returned (.bool (mayN 0 kind)) ∧ W = w' from fun W => refMay_any 0 kind W (by decide))
  have H1 := Lib.hid (show ∀ W, Calls Try.prog 34 #[.int .i64 1, .int .i64 owner] W fun r w' => r = .returned (.bool (mayN 1 owner)) ∧ W = w' from fun W => refMay_any 1 owner W (by decide))
  have H2 := Lib.hid (show ∀ W, Calls Try.prog 34 #[.int .i64 2, .int .i64 x] W fun r w' => r = .returned (.bool (mayN 2 x)) ∧ W = w' from fun W => refMay_any 2 x W (by decide))
  have H3 := Lib.hid (show ∀ W, Calls Try.prog 34 #[.int .i64 3, .int .i64 y] W fun r w' => r = .returned (.bool (mayN 3 y)) ∧ W = w' from fun W => refMay_any 3 y W (by decide))
  rw [show mayN 0 kind = true from m0] at H0
  rw [show mayN 1 owner = true from m1] at H1
  rw [show mayN 2 x = true from m2] at H2
  rw [show mayN 3 y = true from m3] at H3
  obtain ⟨hg0, hg1⟩ := hg
  have hc1 := hc.1
  have d64 : decide ((64 : Int) ≤ (us.length : Int)) = false := by simp; omega
  have dge : decide ((1099511627776 : Int) ≤ g + 1) = false := by simp; omega
  have hwr : IntKind.i64.wrap (g + 1 + 1) = g + 1 + 1 := by rw [IntKind.wrap_i64]; omega
  have HPE := Lib.hid (show RPost w a (us ++ [spawnU g kind owner x y]) (g + 1 + 1) (.int .i64 (g + 1)) = RPost w a (us ++ [spawnU g kind owner x y]) (g + 1 + 1) (.int .i64 (g + 1)) from rfl)
  generalize hpost : RPost w a (us ++ [spawnU g kind owner x y]) (g + 1 + 1) (.int .i64 (g + 1)) = Post
  have HPOST := Lib.hid hpost
  clear hr hn q1 q2 q3 m0 m1 m2 m3 hc hpost HPE
  go_enter Try.func15, Try.ntmps15
  go_wp2_with (go_at_call 34; (first | with_reducible refine (H0.out _).mono ?_ | with_reducible refine (H1.out _).mono ?_ | with_reducible refine (H2.out _).mono ?_ | with_reducible refine (H3.out _).mono ?_); rintro e w' ⟨rfl, rfl⟩)
  have hWB : Below w.heap.size w (((w.alloc (.cells #[.slice a us.length c, .int .i64 (g + 1)] 30)).alloc (.cells #[.slice none 0 0, .int .i64 0] 30)).alloc (.cells #[.int .i64 (g + 1), .int .i64 kind, .int .i64 owner, .int .i64 x, .int .i64 y, .int .i64 1000] 53)) := bel_alloc (bel_alloc (bel_alloc (Below.refl _ _) _) _) _
  have t0 : (((w.alloc (.cells #[.slice a us.length c, .int .i64 (g + 1)] 30)).alloc (.cells #[.slice none 0 0, .int .i64 0] 30)).alloc (.cells #[.int .i64 (g + 1), .int .i64 kind, .int .i64 owner, .int .i64 x, .int .i64 y, .int .i64 1000] 53)).cell? ⟨w.heap.size, 0, none⟩ = some (.slice a us.length c) := by repeat' (first | exact new_cell (by first | rfl | (simp; done)) rfl | with_reducible refine alloc_cell ?_ _)
  have t1 : (((w.alloc (.cells #[.slice a us.length c, .int .i64 (g + 1)] 30)).alloc (.cells #[.slice none 0 0, .int .i64 0] 30)).alloc (.cells #[.int .i64 (g + 1), .int .i64 kind, .int .i64 owner, .int .i64 x, .int .i64 y, .int .i64 1000] 53)).cell? ⟨w.heap.size, 1, none⟩ = some (.int .i64 (g + 1)) := by repeat' (first | exact new_cell (by first | rfl | (simp; done)) rfl | with_reducible refine alloc_cell ?_ _)
  have r0 : (((w.alloc (.cells #[.slice a us.length c, .int .i64 (g + 1)] 30)).alloc (.cells #[.slice none 0 0, .int .i64 0] 30)).alloc (.cells #[.int .i64 (g + 1), .int .i64 kind, .int .i64 owner, .int .i64 x, .int .i64 y, .int .i64 1000] 53)).cell? ⟨w.heap.size + 1, 0, none⟩ = some (.slice none 0 0) := by repeat' (first | exact new_cell (by first | rfl | (simp; done)) rfl | with_reducible refine alloc_cell ?_ _)
  have r1 : (((w.alloc (.cells #[.slice a us.length c, .int .i64 (g + 1)] 30)).alloc (.cells #[.slice none 0 0, .int .i64 0] 30)).alloc (.cells #[.int .i64 (g + 1), .int .i64 kind, .int .i64 owner, .int .i64 x, .int .i64 y, .int .i64 1000] 53)).cell? ⟨w.heap.size + 1, 1, none⟩ = some (.int .i64 0) := by repeat' (first | exact new_cell (by first | rfl | (simp; done)) rfl | with_reducible refine alloc_cell ?_ _)
  have u0 : (((w.alloc (.cells #[.slice a us.length c, .int .i64 (g + 1)] 30)).alloc (.cells #[.slice none 0 0, .int .i64 0] 30)).alloc (.cells #[.int .i64 (g + 1), .int .i64 kind, .int .i64 owner, .int .i64 x, .int .i64 y, .int .i64 1000] 53)).cell? ⟨w.heap.size + 1 + 1, 0, none⟩ = some (.int .i64 (g + 1)) := by repeat' (first | exact new_cell (by first | rfl | (simp; done)) rfl | with_reducible refine alloc_cell ?_ _)
  have u1 : (((w.alloc (.cells #[.slice a us.length c, .int .i64 (g + 1)] 30)).alloc (.cells #[.slice none 0 0, .int .i64 0] 30)).alloc (.cells #[.int .i64 (g + 1), .int .i64 kind, .int .i64 owner, .int .i64 x, .int .i64 y, .int .i64 1000] 53)).cell? ⟨w.heap.size + 1 + 1, 1, none⟩ = some (.int .i64 kind) := by repeat' (first | exact new_cell (by first | rfl | (simp; done)) rfl | with_reducible refine alloc_cell ?_ _)
  have u2 : (((w.alloc (.cells #[.slice a us.length c, .int .i64 (g + 1)] 30)).alloc (.cells #[.slice none 0 0, .int .i64 0] 30)).alloc (.cells #[.int .i64 (g + 1), .int .i64 kind, .int .i64 owner, .int .i64 x, .int .i64 y, .int .i64 1000] 53)).cell? ⟨w.heap.size + 1 + 1, 2, none⟩ = some (.int .i64 owner) := by repeat' (first | exact new_cell (by first | rfl | (simp; done)) rfl | with_reducible refine alloc_cell ?_ _)
  have u3 : (((w.alloc (.cells #[.slice a us.length c, .int .i64 (g + 1)] 30)).alloc (.cells #[.slice none 0 0, .int .i64 0] 30)).alloc (.cells #[.int .i64 (g + 1), .int .i64 kind, .int .i64 owner, .int .i64 x, .int .i64 y, .int .i64 1000] 53)).cell? ⟨w.heap.size + 1 + 1, 3, none⟩ = some (.int .i64 x) := by repeat' (first | exact new_cell (by first | rfl | (simp; done)) rfl | with_reducible refine alloc_cell ?_ _)
  have u4 : (((w.alloc (.cells #[.slice a us.length c, .int .i64 (g + 1)] 30)).alloc (.cells #[.slice none 0 0, .int .i64 0] 30)).alloc (.cells #[.int .i64 (g + 1), .int .i64 kind, .int .i64 owner, .int .i64 x, .int .i64 y, .int .i64 1000] 53)).cell? ⟨w.heap.size + 1 + 1, 4, none⟩ = some (.int .i64 y) := by repeat' (first | exact new_cell (by first | rfl | (simp; done)) rfl | with_reducible refine alloc_cell ?_ _)
  have u5 : (((w.alloc (.cells #[.slice a us.length c, .int .i64 (g + 1)] 30)).alloc (.cells #[.slice none 0 0, .int .i64 0] 30)).alloc (.cells #[.int .i64 (g + 1), .int .i64 kind, .int .i64 owner, .int .i64 x, .int .i64 y, .int .i64 1000] 53)).cell? ⟨w.heap.size + 1 + 1, 5, none⟩ = some (.int .i64 1000) := by repeat' (first | exact new_cell (by first | rfl | (simp; done)) rfl | with_reducible refine alloc_cell ?_ _)
  have z0 : (((w.alloc (.cells #[.slice a us.length c, .int .i64 (g + 1)] 30)).alloc (.cells #[.slice none 0 0, .int .i64 0] 30)).alloc (.cells #[.int .i64 (g + 1), .int .i64 kind, .int .i64 owner, .int .i64 x, .int .i64 y, .int .i64 1000] 53)).frozen? ⟨w.heap.size + 1, 0, none⟩ = false := by
    rw [frozen_old _ _ _ (by simp), show w.heap.size + 1 = (w.alloc (.cells #[.slice a us.length c, .int .i64 (g + 1)] 30)).heap.size by simp]; exact frozen_new _ _ _ _
  have z1 : (((w.alloc (.cells #[.slice a us.length c, .int .i64 (g + 1)] 30)).alloc (.cells #[.slice none 0 0, .int .i64 0] 30)).alloc (.cells #[.int .i64 (g + 1), .int .i64 kind, .int .i64 owner, .int .i64 x, .int .i64 y, .int .i64 1000] 53)).frozen? ⟨w.heap.size + 1, 1, none⟩ = false := by
    rw [frozen_old _ _ _ (by simp), show w.heap.size + 1 = (w.alloc (.cells #[.slice a us.length c, .int .i64 (g + 1)] 30)).heap.size by simp]; exact frozen_new _ _ _ _
  generalize ((w.alloc (.cells #[.slice a us.length c, .int .i64 (g + 1)] 30)).alloc (.cells #[.slice none 0 0, .int .i64 0] 30)).alloc (.cells #[.int .i64 (g + 1), .int .i64 kind, .int .i64 owner, .int .i64 x, .int .i64 y, .int .i64 1000] 53) = W0 at hWB t0 t1 r0 r1 u0 u1 u2 u3 u4 u5 z0 z1 ⊢
  have HWB := Lib.hid hWB
  have HRW := Lib.hid (HR.out.below hWB)
  have hT : w.heap.size < W0.heap.size := block_lt_of_cell t0
  have hRb : w.heap.size + 1 < W0.heap.size := block_lt_of_cell r0
  have hUb : w.heap.size + 1 + 1 < W0.heap.size := block_lt_of_cell u0
  have hR0 : w.heap.size ≤ w.heap.size + 1 := by omega
  have hTR : w.heap.size ≠ w.heap.size + 1 := by omega
  have hUR : w.heap.size + 1 + 1 ≠ w.heap.size + 1 := by omega
  clear hWB
  generalize w.heap.size + 1 + 1 = U at u0 u1 u2 u3 u4 u5 hUb hUR ⊢
  generalize hRR : w.heap.size + 1 = R at r0 r1 z0 z1 hRb hR0 hTR hUR ⊢
  clear hRR
  generalize hTT : w.heap.size = T at t0 t1 hT hTR hR0 ⊢
  have HTT := Lib.hid hTT
  clear hTT
  go_region_held3 (fun w' => w'.cell? ⟨T, 0, none⟩ = some (.slice a us.length c) ∧ w'.cell? ⟨T, 1, none⟩ = some (.int .i64 (g + 1)) ∧ w'.cell? ⟨U, 0, none⟩ = some (.int .i64 (g + 1)) ∧ w'.cell? ⟨U, 1, none⟩ = some (.int .i64 kind) ∧ w'.cell? ⟨U, 2, none⟩ = some (.int .i64 owner) ∧ w'.cell? ⟨U, 3, none⟩ = some (.int .i64 x) ∧ w'.cell? ⟨U, 4, none⟩ = some (.int .i64 y) ∧ w'.cell? ⟨U, 5, none⟩ = some (.int .i64 1000))
    (first | (refine k8s hTR hUR ?_; exact k8b (W0 := W0) HN5.out.2.2 ⟨t0, t1, u0, u1, u2, u3, u4, u5⟩) | exact k8b (W0 := W0) (by repeat' (first | exact Below.refl _ _ | exact HN5.out.2.2 | exact HN4.out.2.2 | refine Below.drew ?_ | refine bel_alloc ?_ _)) ⟨t0, t1, u0, u1, u2, u3, u4, u5⟩)
    (first
      | (refine step_append_ex _ rfl (.tmp 51) (.tmp 53) 28 28 rfl _ _ (by rfl) (by rfl) us.length _ (app1 (W0 := W0) (by repeat' (first | exact Below.refl _ _ | refine Below.drew ?_ | refine bel_alloc ?_ _)) (by first | exact ownsRow_drew (made0 _ _ (by first | rfl | (simp; done))) | exact ownsRow_drew (World.ownsRow.alloc (made0 _ _ (by first | rfl | (simp; done))) _)) (by first | omega | (simp; done)) HRW.out HN.out (by omega)) ?_; rintro a4 c4 w4 ⟨hn4, ht4⟩; have HN4 := Lib.hid hn4; have HT4 := Lib.hid ht4; clear hn4 ht4)
      | (refine step_append_ex _ rfl (.tmp 54) (.tmp 56) 28 28 rfl _ _ (by rfl) (by rfl) (us.length + 1) _ (app2 (W0 := W0) (vs := [spawnU g kind owner x y]) (by first | exact HN4.out | exact newRec_keep HN4.out (bel_alloc (Below.refl _ _) _)) (by first | exact litAt (spawnU g kind owner x y) _ (by first | rfl | (simp; done)) | exact UnRow.touch (UnRow.drew (litAt (spawnU g kind owner x y) _ (by first | rfl | (simp; done)))) HT4.out (fun x hx => by cases hx; first | omega | (simp; done) | (simp; omega)) | exact UnRow.touch (UnRow.drew (UnRow.below (litAt (spawnU g kind owner x y) _ (by first | rfl | (simp; done))) (bel_alloc (Below.refl _ _) _))) HT4.out (fun x hx => by cases hx; first | omega | (simp; done) | (simp; omega))) (fun h => by cases h) (by simp; omega)) ?_; rintro a5 c5 w5 hn5; have HN5 := Lib.hid hn5; have rr0 := (hn5.2.2.cell (p := ⟨R, 0, none⟩) hRb).trans r0; have rr1 := (hn5.2.2.cell (p := ⟨R, 1, none⟩) hRb).trans r1; have zz0 := (hn5.2.2.frozen (p := ⟨R, 0, none⟩) hRb).trans z0; have zz1 := (hn5.2.2.frozen (p := ⟨R, 1, none⟩) hRb).trans z1; clear hn5))
  all_goals
    have HFIN := Lib.hid (newRec_rpost2 (w := w) (a0 := a) (nx := g + 1 + 1) (q := .int .i64 (g + 1)) HWB.out HN5.out (by rw [HTT.out]; exact hR0) hRb (.slice a5 (us.length + 1) c5) (.int .i64 (g + 1 + 1)))
    have hlen : (us ++ [spawnU g kind owner x y]).length = us.length + 1 := by simp
    rw [hlen, HPOST.out] at HFIN
    clear HN4 HT4 HN5 hlen
    go_wp2
    exact bodyPost_ret (v := .tuple #[.agg #[.slice a5 (us.length + 1) c5, .int .i64 (g + 1 + 1)], .int .i64 (g + 1)]) (by simp [results, Try.results15, go_sem, rr0, rr1]) rfl HFIN.out
end Go.Proofs.Ythggfjjiohdbmaa
