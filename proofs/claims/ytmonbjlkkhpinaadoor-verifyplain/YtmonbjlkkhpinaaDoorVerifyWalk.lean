/-
  Layer 4: the walk through a function, as a thing in memory: reach.
-/
import Derived.Test.YtmonbjlkkhpinaaDoorVerify
import Derived.Test.YtmonbjlkkhpinaaDoorCodeMake
namespace Go.Proofs.YtmonbjlkkhpinaaDoor
open Go.RowKit
set_option linter.unusedVariables false

def intV (n : Int) : Value := .int .i64 n
/-- An instruction is reached, with so many values. -/
def reachS (d : List Int) (r : List Nat) (to depth : Int) : Bool × List Int × List Nat :=
  if to < 0 ∨ (d.length : Int) ≤ to then (false, d, r)
  else if d.getD to.toNat 0 = -1 then (true, d.set to.toNat depth, r ++ [to.toNat])
  else (d.getD to.toNat 0 == depth, d, r)
/-- The walk's thing lies at V: all that is its own lies from w0's end on. -/
structure WkMem (w0 : World) (V : Nat) (M : List Fn) (a0 : Option Addr) (c0 : Nat) (f : Fn) (af : Option Addr) (cf : Nat) (d : List Int) (ad : Option Addr) (cd : Nat) (r : List Nat) (ar : Option Addr) (cr : Nat) (wr : World) : Prop where
  v0 : wr.cell? ⟨V, 0, none⟩ = some (.slice a0 M.length c0)
  v1 : wr.cell? ⟨V, 1, none⟩ = some (.int .i64 f.args)
  v2 : wr.cell? ⟨V, 2, none⟩ = some (.int .i64 f.locals)
  v3 : wr.cell? ⟨V, 3, none⟩ = some (.slice af f.code.length cf)
  v4 : wr.cell? ⟨V, 4, none⟩ = some (.slice ad d.length cd)
  v5 : wr.cell? ⟨V, 5, none⟩ = some (.slice ar r.length cr)
  z5 : wr.frozen? ⟨V, 5, none⟩ = false
  drow : wr.ownsRow 0 3 1 (.slice ad d.length cd) d.length (d.map intV)
  rrow : wr.ownsRow 0 3 1 (.slice ar r.length cr) r.length (r.map fun (n : Nat) => intV (n : Int))
  down : ∀ k, (Value.slice ad d.length cd).ownBlock = some k → w0.heap.size ≤ k ∧ k ≠ V ∧ (Value.slice ar r.length cr).ownBlock ≠ some k
  rown : ∀ k, (Value.slice ar r.length cr).ownBlock = some k → w0.heap.size ≤ k ∧ k ≠ V
  hV : w0.heap.size ≤ V
  fns : FnRow w0 a0 M
  ins : InsRow w0 af f.code
  bel : Below w0.heap.size w0 wr
theorem WkMem.lt {w0 : World} {V : Nat} {M : List Fn} {a0 : Option Addr} {c0 : Nat} {f : Fn} {af : Option Addr} {cf : Nat} {d : List Int} {ad : Option Addr} {cd : Nat} {r : List Nat} {ar : Option Addr} {cr : Nat} {wr : World} (h : WkMem w0 V M a0 c0 f af cf d ad cd r ar cr wr) : V < wr.heap.size := block_lt_of_cell h.v0
theorem WkMem.eff {w0 : World} {V : Nat} {M : List Fn} {a0 : Option Addr} {c0 : Nat} {f : Fn} {af : Option Addr} {cf : Nat} {d : List Int} {ad : Option Addr} {cd : Nat} {r : List Nat} {ar : Option Addr} {cr : Nat} {wr : World} (h : WkMem w0 V M a0 c0 f af cf d ad cd r ar cr wr) : WkEff V M a0 c0 f.locals wr :=
  ⟨h.v0, h.v2, h.fns.below h.bel⟩
theorem WkMem.keep {w0 : World} {V : Nat} {M : List Fn} {a0 : Option Addr} {c0 : Nat} {f : Fn} {af : Option Addr} {cf : Nat} {d : List Int} {ad : Option Addr} {cd : Nat} {r : List Nat} {ar : Option Addr} {cr : Nat} {wr w' : World} (h : WkMem w0 V M a0 c0 f af cf d ad cd r ar cr wr) (hb : Below wr.heap.size wr w') : WkMem w0 V M a0 c0 f af cf d ad cd r ar cr w' := by
  have hl := h.lt
  have kc : ∀ j, w'.cell? ⟨V, j, none⟩ = wr.cell? ⟨V, j, none⟩ := fun j => hb.cell (p := ⟨V, j, none⟩) hl
  exact ⟨(kc 0).trans h.v0, (kc 1).trans h.v1, (kc 2).trans h.v2, (kc 3).trans h.v3, (kc 4).trans h.v4, (kc 5).trans h.v5, (hb.frozen (p := ⟨V, 5, none⟩) hl).trans h.z5, own_touch h.drow (touch_of_below (S := fun _ => False) hb) (fun _ _ => id), own_touch h.rrow (touch_of_below (S := fun _ => False) hb) (fun _ _ => id), h.down, h.rown, h.hV, h.fns, h.ins, h.bel.trans (hb.mono h.bel.size)⟩
/-- A depth is written. -/
theorem WkMem.setDepth {w0 : World} {V : Nat} {M : List Fn} {a0 : Option Addr} {c0 : Nat} {f : Fn} {af : Option Addr} {cf : Nat} {d : List Int} {g cd : Nat} {r : List Nat} {ar : Option Addr} {cr : Nat} {wr : World} (h : WkMem w0 V M a0 c0 f af cf d (some ⟨g, 0, none⟩) cd r ar cr wr) (k : Nat) (v : Int) :
    WkMem w0 V M a0 c0 f af cf (d.set k v) (some ⟨g, 0, none⟩) cd r ar cr (wr.setCell ⟨g, k, none⟩ (.int .i64 v)) := by
  obtain ⟨hg1, hg2, hg3⟩ := h.down g rfl
  have hl := h.lt
  have ht : Touch (fun k => k = g) wr (wr.setCell ⟨g, k, none⟩ (.int .i64 v)) := (Touch.refl (fun k => k = g) wr).setCell (p := ⟨g, k, none⟩) (fun _ => rfl) _
  have nV : ¬ V = g := fun e => hg2 e.symm
  have kc : ∀ j, (wr.setCell ⟨g, k, none⟩ (.int .i64 v)).cell? ⟨V, j, none⟩ = wr.cell? ⟨V, j, none⟩ := fun j => ht.cell (p := ⟨V, j, none⟩) hl nV
  have hln : (d.set k v).length = d.length := by simp
  have hst := (h.drow.stored k (.int .i64 v)).1
  refine ⟨(kc 0).trans h.v0, (kc 1).trans h.v1, (kc 2).trans h.v2, (kc 3).trans h.v3, by rw [hln]; exact (kc 4).trans h.v4, (kc 5).trans h.v5, (ht.frozen (p := ⟨V, 5, none⟩) hl nV).trans h.z5, ?_, own_touch h.rrow ht (fun j hj e => hg3 (e ▸ hj)), by rw [hln]; exact h.down, h.rown, h.hV, h.fns, h.ins, h.bel.setCell (by exact hg1) _⟩
  rw [hln, List.map_set]
  exact hst
theorem infoInt : (Tryd.prog.info? 3).map (fun i => (i.zero, i.size, i.bytes)) = some (some (.int .i64 0), 1, 8) := by kernel_rfl
/-- An instruction more that is reached. -/
theorem WkMem.push {w0 : World} {V : Nat} {M : List Fn} {a0 : Option Addr} {c0 : Nat} {f : Fn} {af : Option Addr} {cf : Nat} {d : List Int} {ad : Option Addr} {cd : Nat} {r : List Nat} {ar : Option Addr} {cr : Nat} {w4 : World} (h : WkMem w0 V M a0 c0 f af cf d ad cd r ar cr w4) (n : Nat) (hr : r.length ≤ 100000) :
    ∃ a5 c5 w5, (Builtin.append_ #[58, 58] 58 #[.slice ar r.length cr, .slice (some ⟨w4.heap.size, 0, none⟩) 1 1]).run Tryd.prog (w4.alloc (.cells #[.int .i64 (n : Int)] 3)) = .ok (.slice a5 (r.length + 1) c5) w5 ∧
      w5.cell? ⟨V, 5, none⟩ = some (.slice ar r.length cr) ∧ w5.frozen? ⟨V, 5, none⟩ = false ∧ V < w5.heap.size ∧ w4.heap.size ≤ w5.heap.size ∧ Touch (fun k => k = V ∨ (Value.slice ar r.length cr).ownBlock = some k) w4 (w5.setCell ⟨V, 5, none⟩ (.slice a5 (r.length + 1) c5)) ∧ WkMem w0 V M a0 c0 f af cf d ad cd (r ++ [n]) a5 c5 (w5.setCell ⟨V, 5, none⟩ (.slice a5 (r.length + 1) c5)) := by
  obtain ⟨i0, hi, hz0, hz1, hz2⟩ := info_parts infoInt
  obtain ⟨v5, w5, hrun, ho5, hg5, hf5⟩ := append_exact (P := Tryd.prog) (w4.alloc (.cells #[.int .i64 (n : Int)] 3)) 58 58 3 i0 (.int .i64 0) 1 8 Tryd.underlying58 hi hz0 hz1 hz2 rfl (by decide) (.slice ar r.length cr) r.length (r.map fun (n : Nat) => intV (n : Int)) (h.rrow.alloc _)
    ⟨w4.heap.size, 0, none⟩ 1 1 [intV (n : Int)] rfl (fun j u hj => by
      match j, hj with
      | 0, hj => simp at hj; subst hj; simp [Addr.add, intV]) (fun u hu => by simp at hu; subst hu; rfl) (by unfold maxLen; omega) (by omega)
  obtain ⟨a5, c5, rfl⟩ := own_slice ho5
  have ht5 : Touch (fun k => (Value.slice ar r.length cr).ownBlock = some k) w4 w5 := ((Touch.refl _ w4).alloc _).trans (touch_grown hg5)
  have hz5 := ht5.size
  have hl := h.lt
  have nV : ¬ (Value.slice ar r.length cr).ownBlock = some V := fun e => (h.rown V e).2 rfl
  have kc : ∀ j, w5.cell? ⟨V, j, none⟩ = w4.cell? ⟨V, j, none⟩ := fun j => ht5.cell (p := ⟨V, j, none⟩) hl nV
  have kf : w5.frozen? ⟨V, 5, none⟩ = false := (ht5.frozen (p := ⟨V, 5, none⟩) hl nV).trans h.z5
  have hS : Touch (fun k => k = V) w5 (w5.setCell ⟨V, 5, none⟩ (.slice a5 (r.length + 1) c5)) := (Touch.refl (fun k => k = V) w5).setCell (p := ⟨V, 5, none⟩) (fun _ => rfl) _
  have sc : ∀ j, j ≠ 5 → (w5.setCell ⟨V, 5, none⟩ (.slice a5 (r.length + 1) c5)).cell? ⟨V, j, none⟩ = w4.cell? ⟨V, j, none⟩ := fun j hj => by rw [World.cell?_setCell_other _ _ _ _ (by intro e; cases e; exact hj rfl)]; exact kc j
  have hll : (r ++ [n]).length = r.length + 1 := by simp
  have hnew : ∀ k, (Value.slice a5 (r.length + 1) c5).ownBlock = some k → (Value.slice ar r.length cr).ownBlock = some k ∨ w4.heap.size + 1 ≤ k := fun k hk => by
    rcases hf5 k hk with h' | h'
    · exact .inl h'
    · exact .inr (by simpa using h')
  have hdl : ∀ k, (Value.slice ad d.length cd).ownBlock = some k → k < w4.heap.size := fun k hk => (h.drow.lt k hk).2
  have hw0 := h.bel.size
  refine ⟨a5, c5, w5, hrun, (kc 5).trans h.v5, kf, by omega, hz5, (ht5.mono (fun k _ h => .inr h)).setCell (p := ⟨V, 5, none⟩) (fun _ => .inl rfl) _, ⟨(sc 0 (by decide)).trans h.v0, (sc 1 (by decide)).trans h.v1, (sc 2 (by decide)).trans h.v2, (sc 3 (by decide)).trans h.v3, (sc 4 (by decide)).trans h.v4, ?_, by simpa using kf, ?_, ?_, ?_, ?_, h.hV, h.fns, h.ins, ?_⟩⟩
  · rw [hll]; exact World.cell?_setCell_same _ _ _ ((kc 5).trans h.v5)
  · exact own_touch (own_touch h.drow ht5 (fun k hk => (h.down k hk).2.2)) hS (fun k hk => (h.down k hk).2.1)
  · rw [hll, List.map_append]
    refine own_touch ho5 hS (fun k hk e => ?_)
    rcases hnew k hk with h' | h'
    · exact (h.rown k h').2 e
    · omega
  · intro k hk
    obtain ⟨h1, h2, h3⟩ := h.down k hk
    refine ⟨h1, h2, fun e => ?_⟩
    rw [hll] at e
    rcases hnew k e with h' | h'
    · exact h3 h'
    · have := hdl k hk; omega
  · rw [hll]
    intro k hk
    rcases hnew k hk with h' | h'
    · exact h.rown k h'
    · exact ⟨by omega, by omega⟩
  · exact (h.bel.trans (ht5.below hw0 (fun k hk e => by have := (h.rown k e).1; omega))).setCell (by exact h.hV) _
theorem own_some2 {w : World} {base : Nat} {e : TypeId} {size : Nat} {a : Option Addr} {n c : Nat} {xs : List Value} (h : w.ownsRow base e size (.slice a n c) n xs) (hn : 0 < n) : ∃ g, a = some ⟨g, 0, none⟩ := by
  rcases h.2 with ⟨_, h0⟩ | ⟨g, cap, cur, hv, -⟩
  · omega
  · cases hv; exact ⟨g, rfl⟩
def WkTo (w0 : World) (V : Nat) (M : List Fn) (a0 : Option Addr) (c0 : Nat) (f : Fn) (af : Option Addr) (cf : Nat) (ad : Option Addr) (cd : Nat) (S : Nat → Prop) (w : World) (q : Bool × List Int × List Nat) (e : Ending) (w' : World) : Prop :=
  ∃ ar cr, e = .returned (.bool q.1) ∧ WkMem w0 V M a0 c0 f af cf q.2.1 ad cd q.2.2 ar cr w' ∧ Touch S w w'
set_option maxHeartbeats 4000000 in
set_option maxRecDepth 100000 in
theorem reach_any (w0 : World) (V : Nat) (M : List Fn) (a0 : Option Addr) (c0 : Nat) (f : Fn) (af : Option Addr) (cf : Nat) (d : List Int) (ad : Option Addr) (cd : Nat) (r : List Nat) (ar : Option Addr) (cr : Nat) (w : World) (to depth : Int) (hd : d.length ≤ 100000) (hr : r.length ≤ 100000) (hdep : 0 ≤ depth ∧ depth ≤ 100000) (h : WkMem w0 V M a0 c0 f af cf d ad cd r ar cr w) :
    Calls Tryd.prog 62 #[.pointer (some ⟨V, 0, none⟩), .int .i64 to, .int .i64 depth] w (WkTo w0 V M a0 c0 f af cf ad cd (fun k => k = V ∨ (Value.slice ad d.length cd).ownBlock = some k ∨ (Value.slice ar r.length cr).ownBlock = some k) w (reachS d r to depth)) := by
  have v4 := h.v4
  have hl := h.lt
  have HM := Lib.hid h
  clear h
  by_cases hb : to < 0 ∨ (d.length : Int) ≤ to
  · have HR := Lib.hid (show reachS d r to depth = (false, d, r) from if_pos hb)
    by_cases h0 : to < 0
    · clear hb
      go_enter Tryd.func62, Tryd.ntmps62
      go_wp2
      go_ret
      exact ⟨ar, cr, by rw [HR.out]; rfl, by rw [HR.out]; exact HM.out, Touch.refl _ _⟩
    · have h1 : (d.length : Int) ≤ to := by omega
      have h2 : 0 ≤ to := by omega
      clear hb
      go_enter Tryd.func62, Tryd.ntmps62
      go_wp2
      go_ret
      exact ⟨ar, cr, by rw [HR.out]; rfl, by rw [HR.out]; exact HM.out, Touch.refl _ _⟩
  · have h1 : 0 ≤ to := by omega
    obtain ⟨k, rfl⟩ := Int.eq_ofNat_of_zero_le h1
    have hk : k < d.length := by omega
    have hRS : reachS d r (k : Int) depth = if d.getD k 0 = -1 then (true, d.set k depth, r ++ [k]) else (d.getD k 0 == depth, d, r) := by
      unfold reachS; rw [if_neg hb]; rfl
    have hgd : d.getD k 0 = d[k] := by rw [List.getD_eq_getElem?_getD, List.getElem?_eq_getElem hk]; rfl
    rw [hgd] at hRS
    obtain ⟨g, rfl⟩ := own_some2 HM.out.drow (by omega)
    have c0' : w.cell? ⟨g, k, none⟩ = some (.int .i64 d[k]) := by
      have := HM.out.drow.cellAt k (by omega)
      rw [this, List.getElem?_map, List.getElem?_eq_getElem hk]; rfl
    have z0' := HM.out.drow.frozenAt k
    have hgl := block_lt_of_cell c0'
    have HRS := Lib.hid hRS
    clear hb hRS hgd h1
    by_cases hu : d[k] = -1
    · rw [hu] at c0'
      have HR := Lib.hid (HRS.out.trans (if_pos hu))
      have HD := Lib.hid (HM.out.setDepth k depth)
      have hds : (d.set k depth).length = d.length := by simp
      have hgs : (d.set k depth)[k]'(by omega) = depth := by simp
      have hsz : (w.setCell ⟨g, k, none⟩ (.int .i64 depth)).heap.size = w.heap.size := by simp
      obtain ⟨a5, c5, w5, hr5, q5, z5, hV5, hzz, htt, hm5⟩ := HD.out.push k hr
      rw [hsz] at hr5 hzz
      have HTT : Hid (Touch (fun j => j = V ∨ (Value.slice (some ⟨g, 0, none⟩) d.length cd).ownBlock = some j ∨ (Value.slice ar r.length cr).ownBlock = some j) w (w5.setCell ⟨V, 5, none⟩ (.slice a5 (r.length + 1) c5))) := Lib.hid (((Touch.refl _ w).setCell (p := ⟨g, k, none⟩) (fun _ => .inr (.inl rfl)) _).trans (htt.mono (fun j _ h => h.elim .inl (fun h => .inr (.inr h)))))
      clear htt
      have v5 : (w.setCell ⟨g, k, none⟩ (.int .i64 depth)).cell? ⟨V, 5, none⟩ = some (.slice ar r.length cr) := HD.out.v5
      have HR5 := Lib.hid hr5
      have HM5 := Lib.hid hm5
      have x4 : (w5.setCell ⟨V, 5, none⟩ (.slice a5 (r.length + 1) c5)).cell? ⟨V, 4, none⟩ = some (.slice (some ⟨g, 0, none⟩) d.length cd) := by have := hm5.v4; rwa [hds] at this
      have xd : (w5.setCell ⟨V, 5, none⟩ (.slice a5 (r.length + 1) c5)).cell? ⟨g, k, none⟩ = some (.int .i64 depth) := by
        have := hm5.drow.cellAt k (by omega)
        rw [this, List.getElem?_map, List.getElem?_eq_getElem (by omega), hgs]; rfl
      clear hr5 hm5 hds hgs hsz hu
      go_enter Tryd.func62, Tryd.ntmps62
      go_wp2_with (first | (at_builtin; refine wpList_append_run _ rfl (.tmp 37) (.tmp 39) 58 58 rfl _ _ rfl rfl (.slice a5 (r.length + 1) c5) w5 HR5.out ?_))
      go_ret
      exact ⟨a5, c5, by rw [HR.out]; rfl, by rw [HR.out]; exact HM5.out, HTT.out⟩
    · have hub : (d[k] == -1) = false := by simpa using hu
      have HR := Lib.hid (HRS.out.trans (if_neg hu))
      clear hu
      generalize d[k] = dk at c0' hub HR
      go_enter Tryd.func62, Tryd.ntmps62
      go_wp2
      go_ret
      exact ⟨ar, cr, by rw [HR.out]; rfl, by rw [HR.out]; exact HM.out, Touch.refl _ _⟩
end Go.Proofs.YtmonbjlkkhpinaaDoor
