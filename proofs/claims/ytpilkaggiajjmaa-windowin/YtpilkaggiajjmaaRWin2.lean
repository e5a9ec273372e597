/-
  Layer 13: the document's own: one more is sent.
-/
import Derived.Test.YtpilkaggiajjmaaVApp
namespace Go.Proofs.Ytpilkaggiajjmaa
open Go.RowKit
set_option linter.unusedVariables false

section
variable {P : Program} (w : World)
theorem step_app_ex {ops : Array Oper} {o : Oper} {a : Act} {K : Act → World → Prop} {Q : Exit → Act → World → Prop} {E : Prop} (hgd : o.guard = none) (s x : Operand) (t u : TypeId)
    (ho : o.op = .call { callee := .builtin .append, args := #[s, x], argTypes := #[t, u] }) (v xv : Value) (hs : a.eval s = v) (hx : a.eval x = xv) (n : Nat) (R : Option Addr → Nat → World → Prop)
    (hr : ∃ a' c' w', (Builtin.append_ #[t, u] o.type #[v, xv]).run P w = .ok (.slice a' n c') w' ∧ R a' c' w') (h : ∀ a' c' w', R a' c' w' → K (a.put o.dst (.slice a' n c')) w') : if Region.wanted o (yielded ops a.tmps) = true then Oper.wp P o a w K Q else E := by
  obtain ⟨a', c', w', hrun, hR⟩ := hr
  exact step_append_run w hgd s x t u ho v xv hs hx (.slice a' n c') w' hrun (h a' c' w' hR)
end
theorem app13a {W0 Wc : World} {a : Option Addr} {c k : Nat} {L : Its} {ty : TypeId} (hmade : NewV 39 2 W0 (some ⟨k, 0, none⟩) 0 [] Wc) (hr : RRow W0 a L) (hn : a = none → L = []) (hl : L.length ≤ 1000) :
    ∃ a' c' w', (Builtin.append_ #[27, 27] ty #[.slice (some ⟨k, 0, none⟩) 0 0, .slice a L.length c]).run Try.prog Wc = .ok (.slice a' L.length c') w' ∧ (NewV 39 2 W0 a' c' (L.map riC) w' ∧ Touch (fun b => b = k) Wc w') := by
  obtain ⟨a', c', w', hrun, hnew, ht⟩ := newV_more (ty := ty) (T := 27) riTy Try.underlying27 hmade (ri_wide L) a c (hr.below hmade.2) (fun e => by rw [hn e]; rfl) (by simp; omega)
  rw [List.nil_append] at hnew
  rw [List.length_nil, Nat.zero_add, List.length_map] at hrun
  exact ⟨a', c', w', hrun, hnew, ht.mono fun b _ h => by simpa using h.symm⟩
theorem app13b {W0 Wc : World} {a1 a2 : Option Addr} {c1 c2 : Nat} {L M : Its} {ty : TypeId} (h : NewV 39 2 W0 a1 c1 (L.map riC) Wc) (hv : RRow Wc a2 M) (hn : a2 = none → M = []) (hl : L.length + M.length ≤ 1000) :
    ∃ a' c' w', (Builtin.append_ #[27, 27] ty #[.slice a1 L.length c1, .slice a2 M.length c2]).run Try.prog Wc = .ok (.slice a' (L.length + M.length) c') w' ∧ NewV 39 2 W0 a' c' ((L ++ M).map riC) w' := by
  obtain ⟨a', c', w', hrun, hnew, -⟩ := newV_more (ty := ty) (T := 27) riTy Try.underlying27 h (ri_wide M) a2 c2 hv (fun e => by rw [hn e]; rfl) (by simp; omega)
  rw [List.length_map, List.length_map] at hrun
  rw [← List.map_append] at hnew
  exact ⟨a', c', w', hrun, hnew⟩
theorem lit13 {X : World} {k : Nat} (n : Nat) (t : List UInt8) (ty : TypeId) (hk : k = X.heap.size) : RRow (X.alloc (.cells #[.int .i64 (n : Int), .string (bs t)] ty)) (some ⟨k, 0, none⟩) [(n, t)] := by
  subst hk
  intro _
  refine ⟨_, _, rfl, fun i hi j hj => ?_⟩
  obtain rfl : i = 0 := by simpa using hi
  have : j = 0 ∨ j = 1 := by omega
  rcases this with rfl | rfl <;> simp [riC]
theorem RRow.drew {w : World} {a : Option Addr} {l : Its} (h : RRow w a l) : RRow w.drew a l := h
theorem k2b13 {W0 w' : World} (hb : Below W0.heap.size W0 w') {T : Nat} {t0 t1 : Value} (h : W0.cell? ⟨T, 0, none⟩ = some t0 ∧ W0.cell? ⟨T, 1, none⟩ = some t1) : w'.cell? ⟨T, 0, none⟩ = some t0 ∧ w'.cell? ⟨T, 1, none⟩ = some t1 :=
  ⟨(hb.cell (p := ⟨T, 0, none⟩) (block_lt_of_cell h.1)).trans h.1, (hb.cell (p := ⟨T, 1, none⟩) (block_lt_of_cell h.2)).trans h.2⟩
theorem set2_touch (w : World) (R : Nat) (x y : Value) : Touch (fun b => b = R) w ((w.setCell ⟨R, 0, none⟩ x).setCell ⟨R, 1, none⟩ y) :=
  ((Touch.refl (fun b => b = R) w).setCell (p := ⟨R, 0, none⟩) (fun _ => rfl) _).setCell (p := ⟨R, 1, none⟩) (fun _ => rfl) _
theorem k2s13 {w : World} {T R : Nat} {t0 t1 x y : Value} (hT : T ≠ R) (h : w.cell? ⟨T, 0, none⟩ = some t0 ∧ w.cell? ⟨T, 1, none⟩ = some t1) : ((w.setCell ⟨R, 0, none⟩ x).setCell ⟨R, 1, none⟩ y).cell? ⟨T, 0, none⟩ = some t0 ∧ ((w.setCell ⟨R, 0, none⟩ x).setCell ⟨R, 1, none⟩ y).cell? ⟨T, 1, none⟩ = some t1 :=
  ⟨((set2_touch w R x y).cell (p := ⟨T, 0, none⟩) (block_lt_of_cell h.1) hT).trans h.1, ((set2_touch w R x y).cell (p := ⟨T, 1, none⟩) (block_lt_of_cell h.2) hT).trans h.2⟩
/-- What is stored into a block of the call's own changes nothing of a row. -/
theorem RNew.set2 {w : World} {a0 a : Option Addr} {c : Nat} {L : Its} {w1 : World} (h : RNew w a0 a c L w1) {R : Nat} (hR : w.heap.size ≤ R) (ha : ∀ x, a = some x → x.block ≠ R) (x y : Value) : RNew w a0 a c L ((w1.setCell ⟨R, 0, none⟩ x).setCell ⟨R, 1, none⟩ y) := by
  have ht := set2_touch w1 R x y
  refine ⟨h.row.touch ht ha, h.nn, h.cap, h.cmax, h.fresh.imp id (fun g x hx => ⟨(g x hx).1, by have := (g x hx).2; have := ht.size; omega⟩), h.bel.trans (ht.below h.bel.size fun k hk e => by omega)⟩
def R13Post (w : World) (a0 : Option Addr) (n : Nat) (L : Its) (q : Value) (r : Ending) (w' : World) : Prop :=
  ∃ a c, r = .returned (.tuple #[.agg #[.int .i64 (n : Int), .slice a L.length c], q]) ∧ RNew w a0 a c L w'
set_option maxRecDepth 100000 in
set_option maxHeartbeats 2000000 in
theorem ref13Push_no (a : Option Addr) (c n : Nat) (p : Nat × List UInt8) (l' : Its) (t : List UInt8) (w : World) (hl : l'.length ≤ 900) (hn : n ≤ 10000) (hr : RRow w a (p :: l')) (hc : l'.length + 1 ≤ c ∧ c ≤ maxLen) (hf : 32 ≤ n - p.1) :
    Calls Try.prog 18 #[.agg #[.int .i64 (n : Int), .slice a (l'.length + 1) c], .string (bs t)] w (R13Post w a n (p :: l') (.bool false)) := by
  have HR := Lib.hid hr
  obtain ⟨g, off, rfl, hg, c0, -⟩ := hr.at (k := 0) (by simp)
  simp only [List.getElem_cons_zero, Nat.zero_mul, Nat.add_zero] at c0
  have hA : Below w.heap.size w ((w.alloc (.cells #[.int .i64 (n : Int), .slice (some ⟨g, off, none⟩) (l'.length + 1) c] 29)).alloc (.cells #[.int .i64 0, .slice none 0 0] 29)) := bel_alloc (bel_alloc (Below.refl _ _) _) _
  have d0 := (hA.cell (p := ⟨g, off, none⟩) hg).trans c0
  have hgl : g < ((w.alloc (.cells #[.int .i64 (n : Int), .slice (some ⟨g, off, none⟩) (l'.length + 1) c] 29)).alloc (.cells #[.int .i64 0, .slice none 0 0] 29)).heap.size := block_lt_of_cell d0
  have hpos : decide ((0 : Int) < (l'.length : Int) + 1) = true := decide_eq_true (by omega)
  have hpos2 : (0 : Int) < (l'.length : Int) + 1 := by omega
  have hw1 : IntKind.i64.wrap ((n : Int) - (p.1 : Int)) = (n : Int) - (p.1 : Int) := by rw [IntKind.wrap_i64]; omega
  have hd : decide ((32 : Int) ≤ (n : Int) - (p.1 : Int)) = true := decide_eq_true (by omega)
  have HF : Hid (∀ nq x y, R13Post w (some ⟨g, off, none⟩) n (p :: l') (.bool false) (.returned (.tuple #[.agg #[.int .i64 (n : Int), .slice (some ⟨g, off, none⟩) (l'.length + 1) c], .bool false])) (((((w.alloc (.cells #[.int .i64 (n : Int), .slice (some ⟨g, off, none⟩) (l'.length + 1) c] 29)).alloc (.cells #[.int .i64 0, .slice none 0 0] 29)).drewN nq).setCell ⟨w.heap.size + 1, 0, none⟩ x).setCell ⟨w.heap.size + 1, 1, none⟩ y)) := Lib.hid (fun nq x y => by
    refine ⟨some ⟨g, off, none⟩, c, rfl, ?_⟩
    refine RNew.set2 (w1 := ((w.alloc (.cells #[.int .i64 (n : Int), .slice (some ⟨g, off, none⟩) (l'.length + 1) c] 29)).alloc (.cells #[.int .i64 0, .slice none 0 0] 29)).drewN nq) ?_ (by omega) (fun x hx => by cases hx; simp only; omega) x y
    have hB := hA.trans ((drewN_bel _ nq).mono hA.size)
    exact ⟨HR.out.below hB, (fun e => by cases e), by simpa using hc.1, hc.2, .inl rfl, hB⟩)
  generalize hpost : R13Post w (some ⟨g, off, none⟩) n (p :: l') (.bool false) = Post at HF
  clear hr c0 hA hpost
  go_enter Try.func18, Try.ntmps18
  go_upto_region 1 with (fail)
  go_quiet (fail)
  go_wp2
  exact bodyPost_ret (v := .tuple #[.agg #[.int .i64 (n : Int), .slice (some ⟨g, off, none⟩) (l'.length + 1) c], .bool false]) (by simp [results, Try.results18, go_sem]) rfl (HF.out _ _ _)
theorem push13_fin {w W0 w5 : World} {a0 a : Option Addr} {c n R : Nat} {L : Its} (hb : Below w.heap.size w W0) (hR : w.heap.size ≤ R) (hR2 : R < W0.heap.size) (h : NewV 39 2 W0 a c (L.map riC) w5) (k : Nat) (hk : L.length = k) (q : Value) (x y : Value) : R13Post w a0 n L q (.returned (.tuple #[.agg #[.int .i64 (n : Int), .slice a k c], q])) ((w5.setCell ⟨R, 0, none⟩ x).setCell ⟨R, 1, none⟩ y) := by
  subst hk
  exact ⟨a, c, rfl, (h.rnew hb).set2 hR (fun z hz => by have := h.1.2 z hz; omega) x y⟩
theorem frozen_new13 (W : World) (n : Nat) (h : n = W.heap.size) (cs : Array Value) (t : TypeId) (j : Nat) : (W.alloc (.cells cs t)).frozen? ⟨n, j, none⟩ = false := by subst h; exact frozen_new _ _ _ _
/-- What came, at T; the answer's box, at T + 1. -/
structure Pu13 (w : World) (n N : Nat) (a : Option Addr) (c : Nat) (wx : World) : Prop where
  t0 : wx.cell? ⟨w.heap.size, 0, none⟩ = some (.int .i64 (n : Int))
  t1 : wx.cell? ⟨w.heap.size, 1, none⟩ = some (.slice a N c)
  r0 : wx.cell? ⟨w.heap.size + 1, 0, none⟩ = some (.int .i64 0)
  r1 : wx.cell? ⟨w.heap.size + 1, 1, none⟩ = some (.slice none 0 0)
  z0 : wx.frozen? ⟨w.heap.size + 1, 0, none⟩ = false
  z1 : wx.frozen? ⟨w.heap.size + 1, 1, none⟩ = false
  bel : Below w.heap.size w wx
theorem pu13 (w : World) (n N : Nat) (a : Option Addr) (c nq : Nat) (y1 y2 : TypeId) : Pu13 w n N a c (((w.alloc (.cells #[.int .i64 (n : Int), .slice a N c] y1)).alloc (.cells #[.int .i64 0, .slice none 0 0] y2)).drewN nq) := by
  have hA : Below w.heap.size w ((w.alloc (.cells #[.int .i64 (n : Int), .slice a N c] y1)).alloc (.cells #[.int .i64 0, .slice none 0 0] y2)) := bel_alloc (bel_alloc (Below.refl _ _) _) _
  refine ⟨?_, ?_, ?_, ?_, ?_, ?_, hA.trans ((drewN_bel _ nq).mono hA.size)⟩
  · exact alloc_cell (new_cell rfl rfl) _
  · exact alloc_cell (new_cell rfl rfl) _
  · exact new_cell (by simp) rfl
  · exact new_cell (by simp) rfl
  · exact frozen_new13 _ _ (by simp) _ _ _
  · exact frozen_new13 _ _ (by simp) _ _ _
set_option maxRecDepth 100000 in
set_option maxHeartbeats 4000000 in
theorem ref13Push_yes (a : Option Addr) (c n : Nat) (L : Its) (t : List UInt8) (w : World) (hl : L.length ≤ 900) (hn : n ≤ 10000) (hr : RRow w a L) (hnn : a = none → L = []) (hlt : ∀ p ∈ L, p.1 < n) (hf : roomR n L) :
    Calls Try.prog 18 #[.agg #[.int .i64 (n : Int), .slice a L.length c], .string (bs t)] w (R13Post w a (n + 1) (L ++ [(n, t)]) (.bool true)) := by
  have HR := Lib.hid hr
  have HN := Lib.hid hnn
  have hwn : IntKind.i64.wrap ((n : Int) + 1) = (n : Int) + 1 := by rw [IntKind.wrap_i64]; omega
  have hcs : (L.length = 0) ∨ ∃ g off m p1 : Nat, a = some ⟨g, off, none⟩ ∧ g < w.heap.size ∧ w.cell? ⟨g, off, none⟩ = some (.int .i64 (p1 : Int)) ∧ L.length = m + 1 ∧ n - p1 < 32 ∧ p1 < n := by
    rcases hf with rfl | ⟨p, l', rfl, hp⟩
    · exact .inl rfl
    · obtain ⟨g, off, rfl, hg, c0, -⟩ := hr.at (k := 0) (by simp)
      simp only [List.getElem_cons_zero, Nat.zero_mul, Nat.add_zero] at c0
      exact .inr ⟨g, off, l'.length, p.1, rfl, hg, c0, rfl, hp, hlt p (by simp)⟩
  generalize hNL : L.length = N at hcs hl ⊢
  have HNL := Lib.hid hNL
  have HCS := Lib.hid hcs
  clear hr hnn hf hlt hNL hcs
  have hbA : ∀ o1 o2, Below w.heap.size w ((w.alloc o1).alloc o2) := fun o1 o2 => bel_alloc (bel_alloc (Below.refl _ _) _) _
  have HBA := Lib.hid hbA
  generalize hpost : R13Post w a (n + 1) (L ++ [(n, t)]) (.bool true) = Post
  have HPost := Lib.hid hpost
  clear hbA hpost
  go_enter Try.func18, Try.ntmps18
  go_upto_region 1 with (fail)
  go_cut [20] (fun v20 wx => v20 = .bool false ∧ Hid (Pu13 w n N a c wx))
  case first =>
    rcases HCS.out with rfl | ⟨g, off, m, p1, rfl, hg, c0, rfl, hp, hpn⟩
    · go_quiet (fail)
      go_wp2_with fail
      go_meet
      exact ⟨rfl, Lib.hid (pu13 _ _ _ _ _ _ _ _)⟩
    · have d0 := ((HBA.out (.cells #[.int .i64 (n : Int), .slice (some ⟨g, off, none⟩) (m + 1) c] 29) (.cells #[.int .i64 0, .slice none 0 0] 29)).cell (p := ⟨g, off, none⟩) hg).trans c0
      have hgl := block_lt_of_cell d0
      simp only at hgl
      have hpos : decide ((0 : Int) < (m : Int) + 1) = true := decide_eq_true (by omega)
      have hpos2 : (0 : Int) < (m : Int) + 1 := by omega
      have hw1 : IntKind.i64.wrap ((n : Int) - (p1 : Int)) = (n : Int) - (p1 : Int) := by rw [IntKind.wrap_i64]; omega
      have hd : decide ((32 : Int) ≤ (n : Int) - (p1 : Int)) = false := by simp; omega
      go_quiet (fail)
      go_wp2_with fail
      go_meet
      exact ⟨rfl, Lib.hid (pu13 _ _ _ _ _ _ _ _)⟩
  case rest =>
    obtain ⟨rfl, HP⟩ := hcut
    go_upto_region 3 with (fail)
    have HRW := Lib.hid (HR.out.below HP.out.bel)
    have t0 := HP.out.t0
    have t1 := HP.out.t1
    have r0 := HP.out.r0
    have r1 := HP.out.r1
    have z0 := HP.out.z0
    have z1 := HP.out.z1
    have HWB := Lib.hid HP.out.bel
    have hRb : w.heap.size + 1 < wc.heap.size := block_lt_of_cell r0
    have hTb : w.heap.size < wc.heap.size := block_lt_of_cell t0
    have hR0 : w.heap.size ≤ w.heap.size + 1 := by omega
    have hTR : w.heap.size ≠ w.heap.size + 1 := by omega
    clear HP HCS HBA HR
    generalize wc = W0 at t0 t1 r0 r1 z0 z1 hRb hTb HWB HRW ⊢
    generalize hRR : w.heap.size + 1 = R at r0 r1 z0 z1 hRb hR0 hTR ⊢
    clear hRR
    generalize hTT : w.heap.size = T at t0 t1 hTb hTR hR0 ⊢
    have HTT := Lib.hid hTT
    clear hTT
    have HNL' : Hid (N = L.length) := Lib.hid HNL.out.symm
    go_region_held3 (fun w' => w'.cell? ⟨T, 0, none⟩ = some (.int .i64 (n : Int)) ∧ w'.cell? ⟨T, 1, none⟩ = some (.slice a N c))
      (first | (refine k2s13 hTR ?_; exact k2b13 (W0 := W0) HN5.out.2 ⟨t0, t1⟩) | exact k2b13 (W0 := W0) (by repeat' (first | exact Below.refl _ _ | exact HN5.out.2 | exact HN4.out.2 | refine Below.drew ?_ | refine bel_alloc ?_ _)) ⟨t0, t1⟩)
      (first
        | (refine step_app_ex _ rfl (.tmp 25) (.tmp 27) 27 27 rfl _ _ (by rfl) (by rfl) N _ (by rw [HNL'.out]; exact app13a (W0 := W0) (by first | exact (NewV.made _ _ (by repeat' (first | exact Below.refl _ _ | refine Below.drew ?_ | refine bel_alloc ?_ _)) _ (by first | rfl | (simp; done))).drew | exact ((NewV.made _ _ (by repeat' (first | exact Below.refl _ _ | refine Below.drew ?_ | refine bel_alloc ?_ _)) _ (by first | rfl | (simp; done))).keep (bel_alloc (Below.refl _ _) _)).drew) HRW.out HN.out (by have := HNL.out; omega)) ?_; rintro a4 c4 w4 ⟨hn4, ht4⟩; have HN4 := Lib.hid hn4; have HT4 := Lib.hid ht4; clear hn4 ht4)
        | (refine step_app_ex _ rfl (.tmp 28) (.tmp 33) 27 27 rfl _ _ (by rfl) (by rfl) (N + 1) _ (by rw [HNL'.out]; exact app13b (W0 := W0) (M := [(n, t)]) (by first | exact HN4.out | exact HN4.out.keep (bel_alloc (Below.refl _ _) _)) (by first | exact lit13 n t _ (by first | rfl | (simp; done)) | exact RRow.touch (RRow.drew (lit13 n t _ (by first | rfl | (simp; done)))) HT4.out (fun x hx => by cases hx; first | omega | (simp; done) | (simp; omega)) | exact RRow.touch (RRow.drew (RRow.below (lit13 n t _ (by first | rfl | (simp; done))) (bel_alloc (Below.refl _ _) _))) HT4.out (fun x hx => by cases hx; first | omega | (simp; done) | (simp; omega))) (fun h => by cases h) (by have := HNL.out; simp; omega)) ?_; rintro a5 c5 w5 hn5; have HN5 := Lib.hid hn5; have rr0 := (hn5.2.cell (p := ⟨R, 0, none⟩) hRb).trans r0; have rr1 := (hn5.2.cell (p := ⟨R, 1, none⟩) hRb).trans r1; have zz0 := (hn5.2.frozen (p := ⟨R, 0, none⟩) hRb).trans z0; have zz1 := (hn5.2.frozen (p := ⟨R, 1, none⟩) hRb).trans z1; clear hn5))
    all_goals
      have HFIN := Lib.hid (push13_fin (w := w) (a0 := a) (n := n + 1) HWB.out (by rw [HTT.out]; exact hR0) hRb HN5.out (N + 1) (by have := HNL.out; simp; omega) (.bool true) (.int .i64 ((n : Int) + 1)) (.slice a5 (N + 1) c5))
      rw [HPost.out] at HFIN
      clear HN4 HT4 HN5
      go_wp2
      exact bodyPost_ret (v := .tuple #[.agg #[.int .i64 ((n : Int) + 1), .slice a5 (N + 1) c5], .bool true]) (by simp [results, Try.results18, go_sem, rr0, rr1]) rfl HFIN.out
end Go.Proofs.Ytpilkaggiajjmaa
