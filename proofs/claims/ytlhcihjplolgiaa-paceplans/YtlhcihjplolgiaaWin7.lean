/-
  Layer 13: what was sent: one more; what stands at the head of the laws.
-/
import Derived.Test.YtlhcihjplolgiaaWin6
namespace Go.Proofs.Ytlhcihjplolgiaa
open Go.RowKit
set_option linter.unusedVariables false

def itCells (p : Nat × List UInt8) : List Value := [.int .u32 (p.1 : Int), .string (bs p.2)]
theorem it_wide (l : List (Nat × List UInt8)) : VWide 2 (l.map itCells) := by
  intro x hx
  obtain ⟨p, -, rfl⟩ := List.mem_map.1 hx
  refine ⟨rfl, fun u hu => ?_⟩
  simp only [itCells, List.mem_cons, List.not_mem_nil, or_false] at hu
  rcases hu with rfl | rfl <;> rfl
theorem itTy : VTy 142 2 (.agg #[.int .u32 0, .string ⟨#[]⟩]) 24 := ⟨by kernel_rfl, rfl, by decide, by decide⟩
/-- What was sent, at b: the next number, what is on its way. -/
structure OAt (w : World) (b n : Nat) (a : Option Addr) (c : Nat) (l : List (Nat × List UInt8)) : Prop where
  c0 : w.cell? ⟨b, 0, none⟩ = some (.int .u32 (n : Int))
  c1 : w.cell? ⟨b, 1, none⟩ = some (.slice a l.length c)
  f0 : w.frozen? ⟨b, 0, none⟩ = false
  f1 : w.frozen? ⟨b, 1, none⟩ = false
  row : OwnV 142 2 0 a c (l.map itCells) w
  ne : ∀ x, a = some x → x.block ≠ b
  nx : n < 4294967296
theorem OAt.lt {w : World} {b n : Nat} {a : Option Addr} {c : Nat} {l : List (Nat × List UInt8)} (h : OAt w b n a c l) : b < w.heap.size := block_lt_of_cell h.c0
theorem OAt.touch {S : Nat → Prop} {w w' : World} {b n : Nat} {a : Option Addr} {c : Nat} {l : List (Nat × List UInt8)} (h : OAt w b n a c l) (ht : Touch S w w') (hb : ¬ S b) (ha : ∀ x, a = some x → ¬ S x.block) : OAt w' b n a c l :=
  ⟨(ht.cell (p := ⟨b, 0, none⟩) h.lt hb).trans h.c0, (ht.cell (p := ⟨b, 1, none⟩) h.lt hb).trans h.c1, (ht.frozen (p := ⟨b, 0, none⟩) h.lt hb).trans h.f0, (ht.frozen (p := ⟨b, 1, none⟩) h.lt hb).trans h.f1, h.row.touch ht ha, h.ne, h.nx⟩
theorem OAt.keep {w w' : World} {b n : Nat} {a : Option Addr} {c : Nat} {l : List (Nat × List UInt8)} (h : OAt w b n a c l) (hb : Below w.heap.size w w') : OAt w' b n a c l := h.touch (touch_of_below (S := fun _ => False) hb) id (fun _ _ => id)
theorem O0At.oat {w : World} {b n : Nat} (h : O0At w b n) (hn : n < 4294967296) : OAt w b n none 0 [] :=
  ⟨h.c0, h.c1, h.f0, h.f1, ⟨World.ownsRow_nil _ _ _ _, (fun x hx => by cases hx)⟩, (fun x hx => by cases hx), hn⟩
/-- One thing more: what the append and the stores come to. -/
theorem OAt.one {w : World} {b n : Nat} {a : Option Addr} {c : Nat} {l : List (Nat × List UInt8)} (h : OAt w b n a c l) (t : List UInt8) (hl : l.length ≤ 100000) (k : Nat) (hk : l.length = k) :
    ∃ a' c' w1, (Builtin.append_ #[135, 135] 135 #[.slice a k c, .slice (some ⟨w.heap.size, 0, none⟩) 1 1]).run Try.prog (w.alloc (.cells #[.int .u32 (n : Int), .string (bs t)] 142)) = .ok (.slice a' (k + 1) c') w1 ∧ w1.cell? ⟨b, 1, none⟩ = some (.slice a k c) ∧ w1.cell? ⟨b, 0, none⟩ = some (.int .u32 (n : Int)) ∧ w1.frozen? ⟨b, 1, none⟩ = false ∧ w1.frozen? ⟨b, 0, none⟩ = false ∧ b < w1.heap.size ∧
      (∀ x, a' = some x → a.map (·.block) = some x.block ∨ w.heap.size ≤ x.block) ∧ Touch (fun j => j = b ∨ a.map (·.block) = some j) w ((w1.setCell ⟨b, 1, none⟩ (.slice a' (k + 1) c')).setCell ⟨b, 0, none⟩ (.int .u32 (((n + 1) % 4294967296 : Nat) : Int))) ∧ OAt ((w1.setCell ⟨b, 1, none⟩ (.slice a' (k + 1) c')).setCell ⟨b, 0, none⟩ (.int .u32 (((n + 1) % 4294967296 : Nat) : Int))) b ((n + 1) % 4294967296) a' c' (l ++ [(n, t)]) := by
  obtain ⟨a', c', w1, h1, h2, h3, h4⟩ := own_app itTy Try.underlying135 (h.row.touch (touch_of_below (S := fun _ => False) (bel_alloc (Below.refl _ _) (.cells #[.int .u32 (n : Int), .string (bs t)] 142))) (fun _ _ => id)) w.heap.size 0 1 1 [itCells (n, t)] (it_wide [(n, t)]) rfl
    (fun i hi j hj => by
      obtain rfl : i = 0 := by simpa using hi
      have : j = 0 ∨ j = 1 := by omega
      rcases this with rfl | rfl <;> simp [itCells]) (by simp; omega) k (by simpa using hk)
  rw [show l.map itCells ++ [itCells (n, t)] = (l ++ [(n, t)]).map itCells by simp] at h2
  have hbl := h.lt
  have hT : Touch (fun j => a.map (·.block) = some j) w w1 := ((Touch.refl (fun j => a.map (·.block) = some j) w).alloc (.cells #[.int .u32 (n : Int), .string (bs t)] 142)).trans h3
  have hnb : ¬ a.map (·.block) = some b := fun e => by
    cases a with
    | none => simp at e
    | some x => simp at e; exact h.ne x rfl e
  have q1 := (hT.cell (p := ⟨b, 1, none⟩) hbl hnb).trans h.c1
  have q0 := (hT.cell (p := ⟨b, 0, none⟩) hbl hnb).trans h.c0
  have g1 := (hT.frozen (p := ⟨b, 1, none⟩) hbl hnb).trans h.f1
  have g0 := (hT.frozen (p := ⟨b, 0, none⟩) hbl hnb).trans h.f0
  rw [hk] at q1
  have hfr : ∀ x, a' = some x → a.map (·.block) = some x.block ∨ w.heap.size ≤ x.block := fun x hx => (h4 x hx).imp id fun e => by simp at e; omega
  have hne : ∀ x, a' = some x → x.block ≠ b := fun x hx e => by
    rcases hfr x hx with e2 | e2
    · exact hnb (e ▸ e2)
    · omega
  have ht2 : Touch (fun j => j = b) w1 ((w1.setCell ⟨b, 1, none⟩ (.slice a' (k + 1) c')).setCell ⟨b, 0, none⟩ (.int .u32 (((n + 1) % 4294967296 : Nat) : Int))) := ((Touch.refl (fun j => j = b) w1).setCell (p := ⟨b, 1, none⟩) (fun _ => rfl) _).setCell (p := ⟨b, 0, none⟩) (fun _ => rfl) _
  refine ⟨a', c', w1, h1, q1, q0, g1, g0, by have := hT.size; omega, hfr, (hT.mono (fun _ _ e => .inr e)).trans' ht2 (fun _ _ e => .inl e), ⟨World.cell?_setCell_same _ _ _ ((World.cell?_setCell_other _ _ _ _ (by simp)).trans q0), ?_, by simpa using g0, by simpa using g1, h2.touch ht2 (fun x hx => hne x hx), hne, Nat.mod_lt _ (by decide)⟩⟩
  have : (w1.setCell ⟨b, 1, none⟩ (.slice a' (k + 1) c')).cell? ⟨b, 1, none⟩ = some (.slice a' (k + 1) c') := World.cell?_setCell_same _ _ _ q1
  rw [List.length_append, hk]
  exact (World.cell?_setCell_other _ _ _ _ (by simp)).trans this
def WPushPost (w : World) (b n : Nat) (a : Option Addr) (l : List (Nat × List UInt8)) (t : List UInt8) (r : Ending) (w' : World) : Prop :=
  r = .returned (.tuple #[.int .u32 (n : Int), .int .i64 0]) ∧ ∃ a' c', OAt w' b ((n + 1) % 4294967296) a' c' (l ++ [(n, t)]) ∧ (∀ x, a' = some x → a.map (·.block) = some x.block ∨ w.heap.size ≤ x.block) ∧ Touch (fun j => j = b ∨ a.map (·.block) = some j) w w'
set_option maxRecDepth 100000 in
set_option maxHeartbeats 2000000 in
theorem push_ok (b n : Nat) (a : Option Addr) (c : Nat) (l : List (Nat × List UInt8)) (t : List UInt8) (w : World) (h : OAt w b n a c l) (hl : l.length ≤ 1000) (hks : ∀ p ∈ l, p.1 < 4294967296) (hr : l = [] ∨ ∃ p l', l = p :: l' ∧ distW n p.1 < 32) :
    Calls Try.prog 123 #[.pointer (some ⟨b, 0, none⟩), .string (bs t)] w (WPushPost w b n a l t) := by
  have hws := wrap_succ n h.nx
  have HWS := Lib.hid hws
  clear hws
  generalize hpost : WPushPost w b n a l t = Post
  have HPost := Lib.hid hpost
  clear hpost
  have c0 := h.c0
  have c1 := h.c1
  have hbl := h.lt
  have HH := Lib.hid h
  rcases hr with rfl | ⟨p, l', rfl, hd⟩
  · simp only [List.length_nil] at c1
    clear h
    go_enter Try.func123, Try.ntmps123
    go_upto_region 1 with (fail)
    go_quiet (fail)
    have HK := Lib.hid (HH.out.keep (drewN_bel w nq))
    have HB : Hid (Below w.heap.size w (w.drewN nq)) := Lib.hid (drewN_bel w nq)
    generalize w.drewN nq = W2 at HK HB ⊢
    clear c0 c1 hbl
    have c0 := HK.out.c0
    have c1 := HK.out.c1
    have hbl := HK.out.lt
    simp only [List.length_nil] at c1
    obtain ⟨a', c', w1, hrun, q1, q0, g1, g0, hb1, hfr, hto, hoat⟩ := HK.out.one t (by simp only [List.length_nil]; omega) (0) rfl
    have HRUN := Lib.hid hrun
    have HOA := Lib.hid hoat
    have HFR := Lib.hid hfr
    have HTO := Lib.hid ((touch_of_below HB.out).trans hto)
    have hws := HWS.out
    clear hrun hoat hfr hto HK
    generalize hm2 : (n + 1) % 4294967296 = m2 at HOA HTO hws
    have HM2 := Lib.hid hm2
    clear hm2
    go_wp2_with (at_builtin; refine wpList_append_run _ rfl (.tmp 36) (.tmp 40) 135 135 rfl _ _ rfl rfl (.slice a' (0 + 1) c') w1 HRUN.out ?_)
    rw [← HPost.out]
    exact ⟨rfl, a', c', by rw [HM2.out]; exact HOA.out, fun x hx => (HFR.out x hx).imp id fun e => by have := HB.out.size; omega, HTO.out⟩
  · have hg := h.row.row (it_wide _) (by simp)
    obtain ⟨g, off, rfl, hc⟩ := hg
    have x0 := hc 0 (by simp) 0 (by decide)
    simp only [List.map_cons, List.getElem_cons_zero, Nat.zero_mul, Nat.add_zero] at x0
    have x0' : w.cell? ⟨g, off, none⟩ = some (.int .u32 (p.1 : Int)) := x0
    have hgl := block_lt_of_cell x0'
    simp only at hgl
    have hp := hks p (by simp)
    have hwd := wrap_sub n p.1 h.nx hp
    have hll : l'.length + 1 ≤ 1000 := by simpa using hl
    simp only [List.length_cons] at c1
    have hpos : decide ((0 : Int) < (l'.length : Int) + 1) = true := decide_eq_true (by omega)
    have hdi : decide ((32 : Int) ≤ (distW n p.1 : Nat)) = false := by simp; omega
    generalize distW n p.1 = d at hd hwd hdi
    have hpos2 : (0 : Int) < (l'.length : Int) + 1 := by omega
    clear h hc x0
    go_enter Try.func123, Try.ntmps123
    go_upto_region 1 with (fail)
    go_quiet (fail)
    clear hwd hdi hpos x0' hgl
    have HK := Lib.hid (HH.out.keep (drewN_bel w nq))
    have HB : Hid (Below w.heap.size w (w.drewN nq)) := Lib.hid (drewN_bel w nq)
    generalize w.drewN nq = W2 at HK HB ⊢
    clear c0 c1 hbl
    have c0 := HK.out.c0
    have c1 := HK.out.c1
    have hbl := HK.out.lt
    simp only [List.length_cons] at c1
    obtain ⟨a', c', w1, hrun, q1, q0, g1, g0, hb1, hfr, hto, hoat⟩ := HK.out.one t (by simp only [List.length_cons]; omega) (l'.length + 1) rfl
    have HRUN := Lib.hid hrun
    have HOA := Lib.hid hoat
    have HFR := Lib.hid hfr
    have HTO := Lib.hid ((touch_of_below HB.out).trans hto)
    have hws := HWS.out
    clear hrun hoat hfr hto HK
    generalize hm2 : (n + 1) % 4294967296 = m2 at HOA HTO hws
    have HM2 := Lib.hid hm2
    clear hm2
    go_wp2_with (at_builtin; refine wpList_append_run _ rfl (.tmp 36) (.tmp 40) 135 135 rfl _ _ rfl rfl (.slice a' (l'.length + 1 + 1) c') w1 HRUN.out ?_)
    rw [← HPost.out]
    exact ⟨rfl, a', c', by rw [HM2.out]; exact HOA.out, fun x hx => (HFR.out x hx).imp id fun e => by have := HB.out.size; omega, HTO.out⟩
end Go.Proofs.Ytlhcihjplolgiaa
