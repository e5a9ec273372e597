/-
  PROVED: for every first number of 32 bits and every list of whole numbers the law WindowAcks answers true, and all read afterwards as before. No condition of our own.
-/
import Derived.Test.YtfkhfincggligaaWinG
import Derived.Test.YtfkhfincggligaaWin6
import Derived.Test.YtfkhfincggligaaWalkFAll
import Derived.Test.YtfkhfincggligaaMp
import Derived.Test.YtfkhfincggligaaWireOut
import Derived.OpenShut
import Derived.ProofKit
import Derived.ChangeSlices
import Derived.Test.YtfkhfincggligaaOrdEq
import Derived.Test.YtfkhfincggligaaOuts
import Derived.Deep.RegionHeld3
import Derived.Test.YtfkhfincggligaaWireRef
import Derived.Test.YtfkhfincggligaaCodec
import Derived.Test.YtfkhfincggligaaOrdRead
import Derived.Test.YtfkhfincggligaaRecs
import Derived.Deep.Slices
import Derived.WalkKit
import Derived.ShutString
import Derived.ChangeOld
import Derived.Below
import Derived.SliceStrings
namespace Go.Proofs.Ytfkhfincggligaa
open Go.RowKit Go.ChangeMaps
set_option linter.unusedVariables false

theorem bits_zero {P : Nat → Prop} (h : ∀ k, ¬ P k) : ∀ k, Nat.testBit 0 k = true ↔ P k := fun k => by simp [h k]
set_option maxRecDepth 100000 in
set_option maxHeartbeats 2000000 in
theorem inAck_none (b nx : Nat) (w : World) (h : W0At w b nx) : Calls Try.prog 36 #[.pointer (some ⟨b, 0, none⟩)] w (AckPost w ⟨nx, []⟩) := by
  have c0 := h.c0
  have c1 := h.c1
  have hbl := h.lt
  have hrg := run_range_nilMap (P := Try.prog) ((w.alloc (.cells #[.int .u32 0, .int .u32 0] 72)).alloc (.cells #[.int .u32 (nx : Int), .int .u32 0] 72)) 104 54 81 Try.underlying104
  have hnn := fun ty => run_next_nilMap (P := Try.prog) ((w.alloc (.cells #[.int .u32 0, .int .u32 0] 72)).alloc (.cells #[.int .u32 (nx : Int), .int .u32 0] 72)) ty 0 0 #[]
  have e2 : ((w.alloc (.cells #[.int .u32 0, .int .u32 0] 72)).alloc (.cells #[.int .u32 (nx : Int), .int .u32 0] 72)).heap.size = w.heap.size + 1 + 1 := by simp
  simp only [e2] at hrg hnn
  clear e2
  generalize hpost : AckPost w ⟨nx, []⟩ = Post
  have HPost := Lib.hid hpost
  clear h hpost
  go_enter Try.func36, Try.ntmps36
  go_wp2
  refine wp_loop_rounds 1 ?_
  rw [rounds_succ]
  go_wp2
  exact bodyPost_ret (v := .agg #[.int .u32 (nx : Int), .int .u32 0]) (by simp [results, Try.results36, go_sem]) rfl (by rw [← HPost.out]; exact ⟨⟨0, rfl, by decide, fun k => by simp⟩, bel_alloc (bel_alloc (bel_alloc (Below.refl _ _) _) _) _⟩)
theorem inAck_any (b : Nat) (mo : Option Nat) (s : Ws) (w : World) (h : WI w b mo s) (hok : OkW s) : Calls Try.prog 36 #[.pointer (some ⟨b, 0, none⟩)] w (AckPost w s) := by
  rcases h with ⟨h1, h2, h3⟩ | ⟨r, h1, h2⟩
  · obtain ⟨nx, l⟩ := s
    simp only at h2 h3
    subst h2
    exact inAck_none b nx w h3
  · exact inAck_some b r s w h2 hok
theorem len_map {w : World} {r : Nat} {L : List (Nat × Value)} {q : IntKind} (h : MpAt q w r L) (t ty : TypeId) {k e : TypeId} (ht : Try.prog.underlying t = some (.map k e)) : (Builtin.len_ #[t] ty #[.map (some r)]).run Try.prog w = .ok (.int .i64 (L.length : Int)) w := by
  obtain ⟨es, clock, hb, he, -⟩ := h.ex
  have hl := ents_len he
  simp [Builtin.len_, run_underlying ht, MapKept.run_getObj_map hb, Result.andThen, hl]
  rfl
theorem inLen_any (b : Nat) (mo : Option Nat) (s : Ws) (w : World) (h : WI w b mo s) : Calls Try.prog 37 #[.pointer (some ⟨b, 0, none⟩)] w fun r w' => r = .returned (.int .i64 (s.l.length : Int)) ∧ w = w' := by
  rcases h with ⟨rfl, h2, h3⟩ | ⟨r, rfl, h2⟩
  · have c1 := h3.c1
    have hbl := h3.lt
    rw [h2]
    clear h3
    go_enter Try.func37, Try.ntmps37
    go_wp2
    go_ret
    exact ⟨rfl, rfl⟩
  · have c1 := h2.c1
    have hbl := h2.lt
    have hlm := fun ty => len_map h2.mp 104 ty Try.underlying104
    have he : (entL s.l).length = s.l.length := by simp [entL]
    rw [he] at hlm
    clear h2 he
    go_enter Try.func37, Try.ntmps37
    go_wp2
    go_ret
    exact ⟨rfl, rfl⟩
end Go.Proofs.Ytfkhfincggligaa
namespace Go.Proofs.Ytfkhfincggligaa
open Go.RowKit
set_option linter.unusedVariables false

def itCells (p : Nat × List UInt8) : List Value := [.int .u32 (p.1 : Int), .string (bs p.2)]
theorem it_wide (l : List (Nat × List UInt8)) : VWide 2 (l.map itCells) := by
  intro x hx
  obtain ⟨p, -, rfl⟩ := List.mem_map.1 hx
  refine ⟨rfl, fun u hu => ?_⟩
  simp only [itCells, List.mem_cons, List.not_mem_nil, or_false] at hu
  rcases hu with rfl | rfl <;> rfl
theorem itTy : VTy 81 2 (.agg #[.int .u32 0, .string ⟨#[]⟩]) 24 := ⟨by kernel_rfl, rfl, by decide, by decide⟩
/-- What was sent, at b: the next number, what is on its way. -/
structure OAt (w : World) (b n : Nat) (a : Option Addr) (c : Nat) (l : List (Nat × List UInt8)) : Prop where
  c0 : w.cell? ⟨b, 0, none⟩ = some (.int .u32 (n : Int))
  c1 : w.cell? ⟨b, 1, none⟩ = some (.slice a l.length c)
  f0 : w.frozen? ⟨b, 0, none⟩ = false
  f1 : w.frozen? ⟨b, 1, none⟩ = false
  row : OwnV 81 2 0 a c (l.map itCells) w
  ne : ∀ x, a = some x → x.block ≠ b
  nx : n < 4294967296
theorem OAt.lt {w : World} {b n : Nat} {a : Option Addr} {c : Nat} {l : List (Nat × List UInt8)} (h : OAt w b n a c l) : b < w.heap.size := block_lt_of_cell h.c0
theorem OAt.touch {S : Nat → Prop} {w w' : World} {b n : Nat} {a : Option Addr} {c : Nat} {l : List (Nat × List UInt8)} (h : OAt w b n a c l) (ht : Touch S w w') (hb : ¬ S b) (ha : ∀ x, a = some x → ¬ S x.block) : OAt w' b n a c l :=
  ⟨(ht.cell (p := ⟨b, 0, none⟩) h.lt hb).trans h.c0, (ht.cell (p := ⟨b, 1, none⟩) h.lt hb).trans h.c1, (ht.frozen (p := ⟨b, 0, none⟩) h.lt hb).trans h.f0, (ht.frozen (p := ⟨b, 1, none⟩) h.lt hb).trans h.f1, h.row.touch ht ha, h.ne, h.nx⟩
theorem OAt.keep {w w' : World} {b n : Nat} {a : Option Addr} {c : Nat} {l : List (Nat × List UInt8)} (h : OAt w b n a c l) (hb : Below w.heap.size w w') : OAt w' b n a c l := h.touch (touch_of_below (S := fun _ => False) hb) id (fun _ _ => id)
theorem O0At.oat {w : World} {b n : Nat} (h : O0At w b n) (hn : n < 4294967296) : OAt w b n none 0 [] :=
  ⟨h.c0, h.c1, h.f0, h.f1, ⟨World.ownsRow_nil _ _ _ _, (fun x hx => by cases hx)⟩, (fun x hx => by cases hx), hn⟩
/-- One thing more: what the append and the stores come to. -/
theorem OAt.one {w : World} {b n : Nat} {a : Option Addr} {c : Nat} {l : List (Nat × List UInt8)} (h : OAt w b n a c l) (t : List UInt8) (hl : l.length ≤ 100000) (k : Nat) (hk : l.length = k) :
    ∃ a' c' w1, (Builtin.append_ #[76, 76] 76 #[.slice a k c, .slice (some ⟨w.heap.size, 0, none⟩) 1 1]).run Try.prog (w.alloc (.cells #[.int .u32 (n : Int), .string (bs t)] 81)) = .ok (.slice a' (k + 1) c') w1 ∧ w1.cell? ⟨b, 1, none⟩ = some (.slice a k c) ∧ w1.cell? ⟨b, 0, none⟩ = some (.int .u32 (n : Int)) ∧ w1.frozen? ⟨b, 1, none⟩ = false ∧ w1.frozen? ⟨b, 0, none⟩ = false ∧ b < w1.heap.size ∧
      (∀ x, a' = some x → a.map (·.block) = some x.block ∨ w.heap.size ≤ x.block) ∧ Touch (fun j => j = b ∨ a.map (·.block) = some j) w ((w1.setCell ⟨b, 1, none⟩ (.slice a' (k + 1) c')).setCell ⟨b, 0, none⟩ (.int .u32 (((n + 1) % 4294967296 : Nat) : Int))) ∧ OAt ((w1.setCell ⟨b, 1, none⟩ (.slice a' (k + 1) c')).setCell ⟨b, 0, none⟩ (.int .u32 (((n + 1) % 4294967296 : Nat) : Int))) b ((n + 1) % 4294967296) a' c' (l ++ [(n, t)]) := by
  obtain ⟨a', c', w1, h1, h2, h3, h4⟩ := own_app itTy Try.underlying76 (h.row.touch (touch_of_below (S := fun _ => False) (bel_alloc (Below.refl _ _) (.cells #[.int .u32 (n : Int), .string (bs t)] 81))) (fun _ _ => id)) w.heap.size 0 1 1 [itCells (n, t)] (it_wide [(n, t)]) rfl
    (fun i hi j hj => by
      obtain rfl : i = 0 := by simpa using hi
      have : j = 0 ∨ j = 1 := by omega
      rcases this with rfl | rfl <;> simp [itCells]) (by simp; omega) k (by simpa using hk)
  rw [show l.map itCells ++ [itCells (n, t)] = (l ++ [(n, t)]).map itCells by simp] at h2
  have hbl := h.lt
  have hT : Touch (fun j => a.map (·.block) = some j) w w1 := ((Touch.refl (fun j => a.map (·.block) = some j) w).alloc (.cells #[.int .u32 (n : Int), .string (bs t)] 81)).trans h3
  have hnb : ¬ a.map (·.block) = some b := fun e => by
    cases a with
    | none => simp at e
    | some x => simp at e; exact h.ne x rfl e
  have q1 := (hT.cell (p := ⟨b, 1, none⟩) hbl hnb).trans h.c1
  have q0 := (hT.cell (p := ⟨b, 0, none⟩) hbl hnb).trans h.c0
  have g1 := (hT.frozen (p := ⟨b, 1, none⟩) hbl hnb).trans h.f1
  have g0 := (hT.frozen (p := ⟨b, 0, none⟩) hbl hnb).trans h.f0
  rw [hk] at q1
  have hfr : ∀ x, a' = some x → a.map (·.block) = some x.block ∨ w.heap.size ≤ x.block := fun x hx => (h4 x hx).imp id fun e => by simp at e; omega
  have hne : ∀ x, a' = some x → x.block ≠ b := fun x hx e => by
    rcases hfr x hx with e2 | e2
    · exact hnb (e ▸ e2)
    · omega
  have ht2 : Touch (fun j => j = b) w1 ((w1.setCell ⟨b, 1, none⟩ (.slice a' (k + 1) c')).setCell ⟨b, 0, none⟩ (.int .u32 (((n + 1) % 4294967296 : Nat) : Int))) := ((Touch.refl (fun j => j = b) w1).setCell (p := ⟨b, 1, none⟩) (fun _ => rfl) _).setCell (p := ⟨b, 0, none⟩) (fun _ => rfl) _
  refine ⟨a', c', w1, h1, q1, q0, g1, g0, by have := hT.size; omega, hfr, (hT.mono (fun _ _ e => .inr e)).trans' ht2 (fun _ _ e => .inl e), ⟨World.cell?_setCell_same _ _ _ ((World.cell?_setCell_other _ _ _ _ (by simp)).trans q0), ?_, by simpa using g0, by simpa using g1, h2.touch ht2 (fun x hx => hne x hx), hne, Nat.mod_lt _ (by decide)⟩⟩
  have : (w1.setCell ⟨b, 1, none⟩ (.slice a' (k + 1) c')).cell? ⟨b, 1, none⟩ = some (.slice a' (k + 1) c') := World.cell?_setCell_same _ _ _ q1
  rw [List.length_append, hk]
  exact (World.cell?_setCell_other _ _ _ _ (by simp)).trans this
def PushPost (w : World) (b n : Nat) (a : Option Addr) (l : List (Nat × List UInt8)) (t : List UInt8) (r : Ending) (w' : World) : Prop :=
  r = .returned (.tuple #[.int .u32 (n : Int), .int .i64 0]) ∧ ∃ a' c', OAt w' b ((n + 1) % 4294967296) a' c' (l ++ [(n, t)]) ∧ (∀ x, a' = some x → a.map (·.block) = some x.block ∨ w.heap.size ≤ x.block) ∧ Touch (fun j => j = b ∨ a.map (·.block) = some j) w w'
set_option maxRecDepth 100000 in
set_option maxHeartbeats 2000000 in
theorem push_ok (b n : Nat) (a : Option Addr) (c : Nat) (l : List (Nat × List UInt8)) (t : List UInt8) (w : World) (h : OAt w b n a c l) (hl : l.length ≤ 1000) (hks : ∀ p ∈ l, p.1 < 4294967296) (hr : l = [] ∨ ∃ p l', l = p :: l' ∧ distW n p.1 < 32) :
    Calls Try.prog 26 #[.pointer (some ⟨b, 0, none⟩), .string (bs t)] w (PushPost w b n a l t) := by
  have hws := wrap_succ n h.nx
  have HWS := Lib.hid hws
  clear hws
  generalize hpost : PushPost w b n a l t = Post
  have HPost := Lib.hid hpost
  clear hpost
  have c0 := h.c0
  have c1 := h.c1
  have hbl := h.lt
  have HH := Lib.hid h
  rcases hr with rfl | ⟨p, l', rfl, hd⟩
  · simp only [List.length_nil] at c1
    clear h
    go_enter Try.func26, Try.ntmps26
    go_upto_region 1 with (fail)
    go_quiet (fail)
    have HK := Lib.hid (HH.out.keep (drewN_bel w nq))
    have HB : Hid (Below w.heap.size w (w.drewN nq)) := Lib.hid (drewN_bel w nq)
    generalize w.drewN nq = W2 at HK HB ⊢
    clear c0 c1 hbl
    have c0 := HK.out.c0
    have c1 := HK.out.c1
    have hbl := HK.out.lt
    simp only [List.length_nil] at c1
    obtain ⟨a', c', w1, hrun, q1, q0, g1, g0, hb1, hfr, hto, hoat⟩ := HK.out.one t (by simp only [List.length_nil]; omega) (0) rfl
    have HRUN := Lib.hid hrun
    have HOA := Lib.hid hoat
    have HFR := Lib.hid hfr
    have HTO := Lib.hid ((touch_of_below HB.out).trans hto)
    have hws := HWS.out
    clear hrun hoat hfr hto HK
    generalize hm2 : (n + 1) % 4294967296 = m2 at HOA HTO hws
    have HM2 := Lib.hid hm2
    clear hm2
    go_wp2_with (at_builtin; refine wpList_append_run _ rfl (.tmp 36) (.tmp 40) 76 76 rfl _ _ rfl rfl (.slice a' (0 + 1) c') w1 HRUN.out ?_)
    rw [← HPost.out]
    exact ⟨rfl, a', c', by rw [HM2.out]; exact HOA.out, fun x hx => (HFR.out x hx).imp id fun e => by have := HB.out.size; omega, HTO.out⟩
  · have hg := h.row.row (it_wide _) (by simp)
    obtain ⟨g, off, rfl, hc⟩ := hg
    have x0 := hc 0 (by simp) 0 (by decide)
    simp only [List.map_cons, List.getElem_cons_zero, Nat.zero_mul, Nat.add_zero] at x0
    have x0' : w.cell? ⟨g, off, none⟩ = some (.int .u32 (p.1 : Int)) := x0
    have hgl := block_lt_of_cell x0'
    simp only at hgl
    have hp := hks p (by simp)
    have hwd := wrap_sub n p.1 h.nx hp
    have hll : l'.length + 1 ≤ 1000 := by simpa using hl
    simp only [List.length_cons] at c1
    have hpos : decide ((0 : Int) < (l'.length : Int) + 1) = true := decide_eq_true (by omega)
    have hdi : decide ((32 : Int) ≤ (distW n p.1 : Nat)) = false := by simp; omega
    generalize distW n p.1 = d at hd hwd hdi
    have hpos2 : (0 : Int) < (l'.length : Int) + 1 := by omega
    clear h hc x0
    go_enter Try.func26, Try.ntmps26
    go_upto_region 1 with (fail)
    go_quiet (fail)
    clear hwd hdi hpos x0' hgl
    have HK := Lib.hid (HH.out.keep (drewN_bel w nq))
    have HB : Hid (Below w.heap.size w (w.drewN nq)) := Lib.hid (drewN_bel w nq)
    generalize w.drewN nq = W2 at HK HB ⊢
    clear c0 c1 hbl
    have c0 := HK.out.c0
    have c1 := HK.out.c1
    have hbl := HK.out.lt
    simp only [List.length_cons] at c1
    obtain ⟨a', c', w1, hrun, q1, q0, g1, g0, hb1, hfr, hto, hoat⟩ := HK.out.one t (by simp only [List.length_cons]; omega) (l'.length + 1) rfl
    have HRUN := Lib.hid hrun
    have HOA := Lib.hid hoat
    have HFR := Lib.hid hfr
    have HTO := Lib.hid ((touch_of_below HB.out).trans hto)
    have hws := HWS.out
    clear hrun hoat hfr hto HK
    generalize hm2 : (n + 1) % 4294967296 = m2 at HOA HTO hws
    have HM2 := Lib.hid hm2
    clear hm2
    go_wp2_with (at_builtin; refine wpList_append_run _ rfl (.tmp 36) (.tmp 40) 76 76 rfl _ _ rfl rfl (.slice a' (l'.length + 1 + 1) c') w1 HRUN.out ?_)
    rw [← HPost.out]
    exact ⟨rfl, a', c', by rw [HM2.out]; exact HOA.out, fun x hx => (HFR.out x hx).imp id fun e => by have := HB.out.size; omega, HTO.out⟩
end Go.Proofs.Ytfkhfincggligaa
namespace Go.Proofs.Ytfkhfincggligaa
open Go.RowKit
set_option linter.unusedVariables false

/-- What came at b1, what was sent at b2. -/
structure Aw (w : World) (b1 b2 : Nat) (mo : Option Nat) (s : Ws) (wr : World) : Prop where
  wi : WI wr b1 mo s
  o0 : O0At wr b2 7
  bel : Below w.heap.size w wr
  h1 : w.heap.size ≤ b1
  h2 : w.heap.size ≤ b2
  ne : b1 ≠ b2
  hm : ∀ r, mo = some r → w.heap.size ≤ r ∧ r ≠ b2
theorem Aw.keep {w : World} {b1 b2 : Nat} {mo : Option Nat} {s : Ws} {wr w' : World} (h : Aw w b1 b2 mo s wr) (hb : Below wr.heap.size wr w') : Aw w b1 b2 mo s w' :=
  ⟨h.wi.keep hb, h.o0.touch (touch_of_below (S := fun _ => False) hb) id, h.bel.trans (hb.mono h.bel.size), h.h1, h.h2, h.ne, h.hm⟩
theorem Aw.put {w : World} {b1 b2 : Nat} {mo mo' : Option Nat} {s s' : Ws} {wr w' : World} (h : Aw w b1 b2 mo s wr) (hw : WI w' b1 mo' s') (hf : ∀ r, mo' = some r → mo = some r ∨ wr.heap.size ≤ r) (ht : Touch (fun k => k = b1 ∨ mo = some k) wr w') : Aw w b1 b2 mo' s' w' := by
  have hs := h.bel.size
  have hol := h.o0.lt
  refine ⟨hw, h.o0.touch ht (fun e => ?_), h.bel.trans (ht.below hs fun k hk e => ?_), h.h1, h.h2, h.ne, fun r hr => ?_⟩
  · rcases e with e | e
    · exact h.ne e.symm
    · exact (h.hm _ e).2 rfl
  · rcases e with e | e
    · have := h.h1; omega
    · have := (h.hm _ e).1; omega
  · rcases hf r hr with e | e
    · exact h.hm r e
    · exact ⟨by omega, by omega⟩
theorem WI.wat {w : World} {b : Nat} {mo : Option Nat} {s : Ws} (h : WI w b mo s) (hl : s.l ≠ []) : ∃ r, WAt w b r s := by
  rcases h with ⟨h1, h2, h3⟩ | ⟨r, h1, h2⟩
  · exact absurd h2 hl
  · exact ⟨r, h2⟩
theorem bits_five (B : Nat) (h : ∀ k, B.testBit k = true ↔ ∃ p ∈ ([(6, [98]), (8, [100])] : List (Nat × List UInt8)), distW p.1 5 = k + 1) : B = 5 := by
  apply Nat.eq_of_testBit_eq
  intro k
  have hk := h k
  have e6 : distW 6 5 = 1 := by decide
  have e8 : distW 8 5 = 3 := by decide
  simp only [List.mem_cons, List.not_mem_nil, or_false, exists_eq_or_imp, exists_eq_left, e6, e8] at hk
  have h5 : Nat.testBit 5 k = true ↔ 1 = k + 1 ∨ 3 = k + 1 := by
    match k with
    | 0 => decide
    | 1 => decide
    | 2 => decide
    | k + 3 =>
      have : Nat.testBit 5 (k + 3) = false := Nat.testBit_lt_two_pow (Nat.lt_of_lt_of_le (by decide : 5 < 2 ^ 3) (Nat.pow_le_pow_right (by decide) (by omega)))
      rw [this]; simp
  cases hB : B.testBit k <;> cases h5B : Nat.testBit 5 k <;> simp_all
theorem bits_one (B : Nat) (h : ∀ k, B.testBit k = true ↔ ∃ p ∈ [((8 : Nat), ([100] : List UInt8))], distW p.1 7 = k + 1) : B = 1 := by
  apply Nat.eq_of_testBit_eq
  intro k
  have hk := h k
  have e8 : distW 8 7 = 1 := by decide
  simp only [List.mem_cons, List.not_mem_nil, or_false, exists_eq_left, e8] at hk
  have h5 : Nat.testBit 1 k = true ↔ 1 = k + 1 := by
    match k with
    | 0 => decide
    | k + 1 =>
      have : Nat.testBit 1 (k + 1) = false := Nat.testBit_lt_two_pow (Nat.lt_of_lt_of_le (by decide : 1 < 2 ^ 1) (Nat.pow_le_pow_right (by decide) (by omega)))
      rw [this]; simp
  cases hB : B.testBit k <;> cases h5B : Nat.testBit 1 k <;> simp_all
theorem ack_same (a b : Int) (w : World) : (binOp .eql 72 (.agg #[.int .u32 a, .int .u32 b]) (.agg #[.int .u32 a, .int .u32 b])).run Try.prog w = .ok (.bool true) w := by
  go_simp
theorem aw_put1 : putW ⟨5, []⟩ 6 [98] = (⟨5, [(6, [98])]⟩, [], 0) := by kernel_rfl
theorem aw_put2 : putW ⟨5, [(6, [98])]⟩ 8 [100] = (⟨5, [(6, [98]), (8, [100])]⟩, [], 0) := by kernel_rfl
theorem aw_put3 : putW ⟨5, [(6, [98]), (8, [100])]⟩ 5 [97] = (⟨7, [(8, [100])]⟩, [[97], [98]], 0) := by kernel_rfl
theorem aw_ok2 : OkW ⟨5, [(6, [98]), (8, [100])]⟩ := by
  intro p hp
  simp only [List.mem_cons, List.not_mem_nil, or_false] at hp
  rcases hp with rfl | rfl <;> decide
theorem aw_ok3 : OkW ⟨7, [(8, [100])]⟩ := by
  intro p hp
  simp only [List.mem_cons, List.not_mem_nil, or_false] at hp
  subst hp; decide
set_option maxRecDepth 100000 in
set_option maxHeartbeats 2000000 in
theorem awake13_any (w : World) : Calls Try.prog 24 #[] w fun e w' => e = .returned (.bool true) ∧ Below w.heap.size w w' := by
  have HEX := Lib.hid (fun W => expect_any 5 (by decide) W)
  have HBG := Lib.hid (fun W => begin_any 7 W)
  have HP1 := Lib.hid (fun b mo W h => inPut_any b mo ⟨5, []⟩ 6 [98] W h (by decide) (by simp))
  have HP2 := Lib.hid (fun b mo W h => inPut_any b mo ⟨5, [(6, [98])]⟩ 8 [100] W h (by decide) (by simp))
  have HP3 := Lib.hid (fun b mo W h => inPut_any b mo ⟨5, [(6, [98]), (8, [100])]⟩ 5 [97] W h (by decide) (by simp))
  rw [aw_put1] at HP1
  rw [aw_put2] at HP2
  rw [aw_put3] at HP3
  unfold itV at HP1 HP2 HP3
  have HH6 := Lib.hid (fun W => has_any 5 5 6 W (by decide) (by decide) (by decide))
  have HH5 := Lib.hid (fun W => has_any 5 5 5 W (by decide) (by decide) (by decide))
  rw [show hasB 5 5 6 = true by decide] at HH6
  rw [show hasB 5 5 5 = false by decide] at HH5
  go_enter Try.func24, Try.ntmps24
  go_wp2_with fail
  refine (HEX.out _).mono ?_
  rintro r w1 ⟨rfl, hwi, hb1⟩
  have HWI := Lib.hid hwi
  have HB1 := Lib.hid hb1
  clear hwi hb1 HEX
  go_wp2_with fail
  refine (HBG.out _).mono ?_
  rintro r w2 ⟨rfl, ho, hb2⟩
  have HA2 : Hid (Aw w w.heap.size w1.heap.size none ⟨5, []⟩ w2) := Lib.hid ⟨HWI.out.keep hb2, ho, HB1.out.trans (hb2.mono HB1.out.size), Nat.le_refl _, HB1.out.size, by have := HWI.out.lt; omega, (fun r hr => by cases hr)⟩
  clear ho hb2 HBG HWI HB1
  generalize w.heap.size = b1 at HA2 ⊢
  generalize w1.heap.size = b2 at HA2 ⊢
  go_wp2_with fail
  refine (HP1.out _ _ _ HA2.out.wi).mono ?_
  rintro r w3 ⟨a3, c3, mo3, rfl, hw3, hf3, -, ht3⟩
  have HA3 := Lib.hid (HA2.out.put hw3 hf3 ht3)
  clear hw3 hf3 ht3 HA2 HP1
  go_wp2_with fail
  refine (HP2.out _ _ _ HA3.out.wi).mono ?_
  rintro r w4 ⟨a4, c4, mo4, rfl, hw4, hf4, -, ht4⟩
  have HA4 := Lib.hid (HA3.out.put hw4 hf4 ht4)
  clear hw4 hf4 ht4 HA3 HP2
  obtain ⟨r4, hwat⟩ := HA4.out.wi.wat (by simp)
  have HAK := Lib.hid (inAck_some b1 r4 _ w4 hwat aw_ok2)
  clear hwat
  go_wp2_with fail
  refine HAK.out.mono ?_
  rintro r w5 ⟨⟨B, rfl, -, hB⟩, hb5⟩
  have hB5 := bits_five B hB
  subst hB5
  have HA5 := Lib.hid (HA4.out.keep hb5)
  clear hb5 HA4 HAK hB
  have HA6 := Lib.hid (HA5.out.keep (bel_alloc (Below.refl _ _) (.cells #[.int .u32 5, .int .u32 5] 72)))
  have x0 : (w5.alloc (.cells #[.int .u32 5, .int .u32 5] 72)).cell? ⟨w5.heap.size, 0, none⟩ = some (.int .u32 5) := by simp
  have x1 : (w5.alloc (.cells #[.int .u32 5, .int .u32 5] 72)).cell? ⟨w5.heap.size, 1, none⟩ = some (.int .u32 5) := by simp
  have HX0 := Lib.hid x0
  have HX1 := Lib.hid x1
  have HN1 : Hid (∀ k, mo4 = some k → k ≠ w5.heap.size) := Lib.hid (fun k hk => by
    rcases HA5.out.wi with ⟨h1, -⟩ | ⟨r', h1, h2⟩
    · rw [h1] at hk; cases hk
    · rw [h1] at hk; cases hk; have := h2.mp.lt; omega)
  have hb1l := HA5.out.wi.lt
  have hb2l := HA5.out.o0.lt
  clear x0 x1 HA5
  go_wp2_with fail
  generalize w5.alloc (.cells #[.int .u32 5, .int .u32 5] 72) = W6 at HA6 HX0 HX1 ⊢
  generalize w5.heap.size = X at HX0 HX1 HN1 hb1l hb2l ⊢
  refine (HP3.out _ _ _ HA6.out.wi).mono ?_
  rintro r w7 ⟨a7, c7, mo7, rfl, hw7, hf7, -, ht7⟩
  have hnX : ¬ (X = b1 ∨ mo4 = some X) := by
    rintro (e | e)
    · omega
    · exact HN1.out X e rfl
  have y0 := (ht7.cell (p := ⟨X, 0, none⟩) (block_lt_of_cell HX0.out) hnX).trans HX0.out
  have y1 := (ht7.cell (p := ⟨X, 1, none⟩) (block_lt_of_cell HX1.out) hnX).trans HX1.out
  have HA7 := Lib.hid (HA6.out.put hw7 hf7 ht7)
  have HX0 := Lib.hid y0
  have HX1 := Lib.hid y1
  clear hw7 hf7 ht7 HA6 HP3 y0 y1
  have HPU := Lib.hid (push_ok b2 7 none 0 [] [120] w7 (HA7.out.o0.oat (by decide)) (by simp) (by simp) (.inl rfl))
  go_wp2_with fail
  refine HPU.out.mono ?_
  rintro r w8 ⟨rfl, a8, c8, -, -, ht8⟩
  have hn8 : ∀ k, k ≠ b2 → ¬ (k = b2 ∨ (none : Option Addr).map (·.block) = some k) := fun k hk e => by
    rcases e with e | e
    · exact hk e
    · simp at e
  have y0 := (ht8.cell (p := ⟨X, 0, none⟩) (block_lt_of_cell HX0.out) (hn8 X (by omega))).trans HX0.out
  have y1 := (ht8.cell (p := ⟨X, 1, none⟩) (block_lt_of_cell HX1.out) (hn8 X (by omega))).trans HX1.out
  have HW8 := Lib.hid (HA7.out.wi.touch ht8 (hn8 b1 HA7.out.ne) (fun r hr => hn8 r (HA7.out.hm r hr).2))
  have HB8 := Lib.hid (HA7.out.bel.trans (ht8.below HA7.out.bel.size (fun k hk => hn8 k (by have := HA7.out.h2; omega))))
  clear ht8 HPU HX0 HX1
  obtain ⟨r8, hwat⟩ := HW8.out.wat (by simp)
  have HAK := Lib.hid (inAck_some b1 r8 _ w8 hwat aw_ok3)
  clear hwat
  have hs1 := ack_same 5 5
  have hs2 := ack_same 7 1
  have hXl := block_lt_of_cell y0
  simp only at hXl
  go_wp2_with fail
  refine HAK.out.mono ?_
  rintro r w9 ⟨⟨B, rfl, -, hB⟩, hb9⟩
  have hB1 := bits_one B hB
  subst hB1
  have z0 := (hb9.cell (p := ⟨X, 0, none⟩) (block_lt_of_cell y0)).trans y0
  have z1 := (hb9.cell (p := ⟨X, 1, none⟩) (block_lt_of_cell y1)).trans y1
  have HB9 := Lib.hid (HB8.out.trans (hb9.mono HB8.out.size))
  clear hb9 HAK hB y0 y1 hXl
  have hXl := block_lt_of_cell z0
  simp only at hXl
  go_wp2_with fail
  refine (HH6.out _).mono ?_
  rintro r w10 ⟨rfl, hb10⟩
  have y0 := (hb10.cell (p := ⟨X, 0, none⟩) (block_lt_of_cell z0)).trans z0
  have y1 := (hb10.cell (p := ⟨X, 1, none⟩) (block_lt_of_cell z1)).trans z1
  have HB10 := Lib.hid (HB9.out.trans (hb10.mono HB9.out.size))
  clear hb10 z0 z1 hXl HH6
  have hXl := block_lt_of_cell y0
  simp only at hXl
  go_wp2_with fail
  refine (HH5.out _).mono ?_
  rintro r w11 ⟨rfl, hb11⟩
  have HB11 := Lib.hid (HB10.out.trans (hb11.mono HB10.out.size))
  clear hb11
  go_wp2
  go_ret
  exact ⟨rfl, HB11.out⟩
end Go.Proofs.Ytfkhfincggligaa
namespace Go.Proofs.Ytfkhfincggligaa
open Go.RowKit
set_option linter.unusedVariables false

/-- Two rows of the call's own. -/
structure Two (e1 k1 e2 k2 : Nat) (w : World) (a1 : Option Addr) (c1 : Nat) (l1 : List (List Value)) (a2 : Option Addr) (c2 : Nat) (l2 : List (List Value)) (wr : World) : Prop where
  r1 : OwnV e1 k1 0 a1 c1 l1 wr
  r2 : OwnV e2 k2 0 a2 c2 l2 wr
  n1 : ∀ x, a1 = some x → w.heap.size ≤ x.block
  n2 : ∀ x, a2 = some x → w.heap.size ≤ x.block
  dj : ∀ x y, a1 = some x → a2 = some y → x.block ≠ y.block
  bel : Below w.heap.size w wr
theorem Two.keep {e1 k1 e2 k2 : Nat} {w : World} {a1 a2 : Option Addr} {c1 c2 : Nat} {l1 l2 : List (List Value)} {wr w' : World} (h : Two e1 k1 e2 k2 w a1 c1 l1 a2 c2 l2 wr) (hb : Below wr.heap.size wr w') : Two e1 k1 e2 k2 w a1 c1 l1 a2 c2 l2 w' :=
  ⟨h.r1.touch (touch_of_below (S := fun _ => False) hb) (fun _ _ => id), h.r2.touch (touch_of_below (S := fun _ => False) hb) (fun _ _ => id), h.n1, h.n2, h.dj, h.bel.trans (hb.mono h.bel.size)⟩
theorem Two.none (e1 k1 e2 k2 : Nat) (w : World) : Two e1 k1 e2 k2 w none 0 [] none 0 [] w :=
  ⟨⟨World.ownsRow_nil _ _ _ _, (fun x hx => by cases hx)⟩, ⟨World.ownsRow_nil _ _ _ _, (fun x hx => by cases hx)⟩, (fun x hx => by cases hx), (fun x hx => by cases hx), (fun x y hx => by cases hx), Below.refl _ _⟩
theorem Two.first {e1 k1 e2 k2 : Nat} {w : World} {a1 a2 a' : Option Addr} {c1 c2 c' : Nat} {l1 l2 l' : List (List Value)} {wr w' : World} (h : Two e1 k1 e2 k2 w a1 c1 l1 a2 c2 l2 wr) (ho : OwnV e1 k1 0 a' c' l' w') (ht : Touch (fun k => a1.map (·.block) = some k) wr w') (hn : ∀ x, a' = some x → a1.map (·.block) = some x.block ∨ wr.heap.size ≤ x.block) : Two e1 k1 e2 k2 w a' c' l' a2 c2 l2 w' := by
  have hs := h.bel.size
  refine ⟨ho, h.r2.touch ht (fun y hy e => map_none (P := fun k => k = y.block → False) (fun x hx e => h.dj x y hx hy e) _ e rfl), fun x hx => ?_, h.n2, fun x y hx hy => ?_, h.bel.trans (ht.below hs fun k hk e => by have := map_none (P := fun k => w.heap.size ≤ k) h.n1 k e; omega)⟩
  · rcases hn x hx with e | e
    · exact map_none (P := fun k => w.heap.size ≤ k) h.n1 _ e
    · omega
  · rcases hn x hx with e | e
    · exact map_none (P := fun k => k ≠ y.block) (fun z hz => h.dj z y hz hy) _ e
    · have := h.r2.lt y hy; omega
theorem Two.second {e1 k1 e2 k2 : Nat} {w : World} {a1 a2 a' : Option Addr} {c1 c2 c' : Nat} {l1 l2 l' : List (List Value)} {wr w' : World} (h : Two e1 k1 e2 k2 w a1 c1 l1 a2 c2 l2 wr) (ho : OwnV e2 k2 0 a' c' l' w') (ht : Touch (fun k => a2.map (·.block) = some k) wr w') (hn : ∀ x, a' = some x → a2.map (·.block) = some x.block ∨ wr.heap.size ≤ x.block) : Two e1 k1 e2 k2 w a1 c1 l1 a' c' l' w' := by
  have hs := h.bel.size
  refine ⟨h.r1.touch ht (fun y hy e => map_none (P := fun k => y.block = k → False) (fun x hx e => h.dj y x hy hx e) _ e rfl), ho, h.n1, fun x hx => ?_, fun x y hx hy => ?_, h.bel.trans (ht.below hs fun k hk e => by have := map_none (P := fun k => w.heap.size ≤ k) h.n2 k e; omega)⟩
  · rcases hn x hx with e | e
    · exact map_none (P := fun k => w.heap.size ≤ k) h.n2 _ e
    · omega
  · rcases hn y hy with e | e
    · exact map_none (P := fun k => x.block ≠ k) (fun z hz => h.dj x z hx hz) _ e
    · have := h.r1.lt x hx; omega
theorem u32Ty : VTy 54 1 (.int .u32 0) 4 := ⟨by kernel_rfl, rfl, by decide, by decide⟩
def u32C (n : Nat) : List Value := [.int .u32 (n : Int)]
theorem num_wide (l : List Nat) : VWide 1 (l.map u32C) := by
  intro x hx
  obtain ⟨p, -, rfl⟩ := List.mem_map.1 hx
  exact ⟨rfl, fun u hu => by simp only [u32C, List.mem_singleton] at hu; subst hu; rfl⟩
/-- One record more, made on the spot. -/
theorem own_one {e T : TypeId} {k by' : Nat} {z : Value} (H : VTy e k z by') (hT : Try.prog.underlying T = some (.slice e)) {w : World} {B : Nat} {a : Option Addr} {c : Nat} {ls : List (List Value)} (h : OwnV e k B a c ls w) (x : List Value) (hw : VWide k [x]) (hl : ls.length ≤ 100000) (n : Nat) (hn : ls.length = n) (cs : Array Value) (hcs : cs = x.toArray) :
    ∃ a' c' w', (Builtin.append_ #[T, T] T #[.slice a n c, .slice (some ⟨w.heap.size, 0, none⟩) 1 1]).run Try.prog (w.alloc (.cells cs e)) = .ok (.slice a' (n + 1) c') w' ∧ OwnV e k 0 a' c' (ls ++ [x]) w' ∧ Touch (fun b => a.map (·.block) = some b) w w' ∧ (∀ x, a' = some x → a.map (·.block) = some x.block ∨ w.heap.size ≤ x.block) := by
  subst hcs
  obtain ⟨a', c', w', h1, h2, h3, h4⟩ := own_app H hT (h.touch (touch_of_below (S := fun _ => False) (bel_alloc (Below.refl _ _) (.cells x.toArray e))) (fun _ _ => id)) w.heap.size 0 1 1 [x] hw rfl
    (fun i hi j hj => by
      obtain rfl : i = 0 := by simpa using hi
      rw [new_at _ _ rfl]
      simp) (by omega) n hn
  refine ⟨a', c', w', h1, h2, ?_, fun x hx => (h4 x hx).imp id fun e => by simp at e; omega⟩
  exact ((Touch.refl (fun b => a.map (·.block) = some b) w).alloc (.cells x.toArray e)).trans h3
theorem outLen_any (b n : Nat) (a : Option Addr) (c : Nat) (l : List (Nat × List UInt8)) (w : World) (h : OAt w b n a c l) : Calls Try.prog 31 #[.pointer (some ⟨b, 0, none⟩)] w fun r w' => r = .returned (.int .i64 (l.length : Int)) ∧ w = w' := by
  have c1 := h.c1
  have hbl := h.lt
  clear h
  go_enter Try.func31, Try.ntmps31
  go_wp2
  go_ret
  exact ⟨rfl, rfl⟩
theorem outNext_any (b n : Nat) (a : Option Addr) (c : Nat) (l : List (Nat × List UInt8)) (w : World) (h : OAt w b n a c l) : Calls Try.prog 32 #[.pointer (some ⟨b, 0, none⟩)] w fun r w' => r = .returned (.int .u32 (n : Int)) ∧ w = w' := by
  have c0 := h.c0
  have hbl := h.lt
  clear h
  go_enter Try.func32, Try.ntmps32
  go_wp2
  go_ret
  exact ⟨rfl, rfl⟩
set_option maxRecDepth 100000 in
set_option maxHeartbeats 2000000 in
theorem wpush_full (b n : Nat) (a : Option Addr) (c : Nat) (p : Nat × List UInt8) (l' : List (Nat × List UInt8)) (t : List UInt8) (w : World) (h : OAt w b n a c (p :: l')) (hl : l'.length ≤ 1000) (hp : p.1 < 4294967296) (hd : 32 ≤ distW n p.1) :
    Calls Try.prog 26 #[.pointer (some ⟨b, 0, none⟩), .string (bs t)] w fun r w' => r = .returned (.tuple #[.int .u32 0, .int .i64 8]) ∧ Below w.heap.size w w' := by
  have c0 := h.c0
  have c1 := h.c1
  have hbl := h.lt
  have hg := h.row.row (it_wide _) (by simp)
  obtain ⟨g, off, rfl, hc⟩ := hg
  have x0 := hc 0 (by simp) 0 (by decide)
  simp only [List.map_cons, List.getElem_cons_zero, Nat.zero_mul, Nat.add_zero] at x0
  have x0' : w.cell? ⟨g, off, none⟩ = some (.int .u32 (p.1 : Int)) := x0
  have hgl := block_lt_of_cell x0'
  simp only at hgl
  have hwd := wrap_sub n p.1 h.nx hp
  simp only [List.length_cons] at c1
  have hpos : decide ((0 : Int) < (l'.length : Int) + 1) = true := decide_eq_true (by omega)
  have hdi : decide ((32 : Int) ≤ (distW n p.1 : Nat)) = true := decide_eq_true (by omega)
  generalize distW n p.1 = d at hd hwd hdi
  have hpos2 : (0 : Int) < (l'.length : Int) + 1 := by omega
  clear h hc x0
  go_enter Try.func26, Try.ntmps26
  go_upto_region 1 with (fail)
  go_quiet (fail)
  have HB : Hid (Below w.heap.size w (w.drewN nq)) := Lib.hid (drewN_bel w nq)
  go_wp2
  go_ret2
  exact ⟨rfl, HB.out⟩
end Go.Proofs.Ytfkhfincggligaa
namespace Go.Proofs.Ytfkhfincggligaa
open Go.RowKit
set_option linter.unusedVariables false

def cameO (nx B : Nat) (l : List (Nat × List UInt8)) : List Nat := (l.filter (fun p => hasB nx B p.1)).map (·.1)
def restO (nx B : Nat) (l : List (Nat × List UInt8)) : List (Nat × List UInt8) := l.filter (fun p => !hasB nx B p.1)
def OAckPost (w : World) (b n : Nat) (came : List Nat) (rest : List (Nat × List UInt8)) (r : Ending) (w' : World) : Prop :=
  ∃ a1 c1 a2 c2, r = .returned (.slice a1 came.length c1) ∧ OAt w' b n a2 c2 rest ∧ OwnV 54 1 w.heap.size a1 c1 (came.map u32C) w' ∧ (∀ x, a2 = some x → w.heap.size ≤ x.block) ∧ (∀ x y, a1 = some x → a2 = some y → x.block ≠ y.block) ∧ Touch (fun j => j = b) w w'
theorem cell_it {w : World} {a : Option Addr} {c B : Nat} {l : List (Nat × List UInt8)} (h : OwnV 81 2 B a c (l.map itCells) w) (h0 : 0 < l.length) : ∃ gb, a = some ⟨gb, 0, none⟩ ∧ gb < w.heap.size ∧ ∀ i (hi : i < l.length), w.cell? ⟨gb, i * 2, none⟩ = some (.int .u32 (l[i].1 : Int)) ∧ w.cell? ⟨gb, i * 2 + 1, none⟩ = some (.string (bs l[i].2)) := by
  have hlen : (l.map itCells).length = l.length := by simp
  rcases h.1.2 with ⟨-, h00⟩ | ⟨g, cap, cur, hv, -, hg, hnc, -, hsz, htk⟩
  · omega
  · have hr := h.row (it_wide _) (by rw [hlen]; exact h0)
    obtain ⟨b, off, e1, hc⟩ := hr
    simp only [Value.slice.injEq] at hv
    rw [hv.1] at e1
    simp only [Option.some.injEq, Addr.mk.injEq] at e1
    obtain ⟨rfl, rfl, -⟩ := e1
    refine ⟨g, hv.1, (Array.getElem?_eq_some_iff.1 hg).1, fun i hi => ?_⟩
    have hx : ∀ j, j < 2 → w.cell? ⟨g, i * 2 + j, none⟩ = (itCells l[i])[j]? := fun j hj => by
      have h1 := hc i (by rw [hlen]; exact hi) j hj
      rw [Nat.zero_add] at h1
      rw [h1]
      simp
    exact ⟨hx 0 (by decide), hx 1 (by decide)⟩
theorem came_snoc (nx B : Nat) (l : List (Nat × List UInt8)) (p : Nat × List UInt8) : cameO nx B (l ++ [p]) = cameO nx B l ++ (if hasB nx B p.1 = true then [p.1] else []) := by
  unfold cameO
  rw [List.filter_append, List.map_append]
  congr 1
  by_cases h : hasB nx B p.1 = true <;> simp [h]
theorem rest_snoc (nx B : Nat) (l : List (Nat × List UInt8)) (p : Nat × List UInt8) : restO nx B (l ++ [p]) = restO nx B l ++ (if hasB nx B p.1 = true then [] else [p]) := by
  unfold restO
  rw [List.filter_append]
  congr 1
  by_cases h : hasB nx B p.1 = true <;> simp [h]
theorem came_len (nx B : Nat) (l : List (Nat × List UInt8)) : (cameO nx B l).length ≤ l.length ∧ (restO nx B l).length ≤ l.length :=
  ⟨by unfold cameO; rw [List.length_map]; exact List.length_filter_le _ _, List.length_filter_le _ _⟩
set_option maxRecDepth 100000 in
set_option maxHeartbeats 2000000 in
theorem outAck_ok (b n : Nat) (a : Option Addr) (c : Nat) (l : List (Nat × List UInt8)) (nx B : Nat) (w : World) (h : OAt w b n a c l) (hl : l.length ≤ 1000) (hks : ∀ p ∈ l, p.1 < 4294967296) (hx : nx < 4294967296) (hB : B < 4294967296) (hgo : nx = n ∨ nx ≠ n ∧ belowB nx n = true) :
    Calls Try.prog 28 #[.pointer (some ⟨b, 0, none⟩), .agg #[.int .u32 (nx : Int), .int .u32 (B : Int)]] w (OAckPost w b n (cameO nx B l) (restO nx B l)) := by
  have hA : Below w.heap.size w (w.alloc (.cells #[.int .u32 (nx : Int), .int .u32 (B : Int)] 72)) := bel_alloc (Below.refl _ _) _
  have x0 : (w.alloc (.cells #[.int .u32 (nx : Int), .int .u32 (B : Int)] 72)).cell? ⟨w.heap.size, 0, none⟩ = some (.int .u32 (nx : Int)) := by simp
  have x1 : (w.alloc (.cells #[.int .u32 (nx : Int), .int .u32 (B : Int)] 72)).cell? ⟨w.heap.size, 1, none⟩ = some (.int .u32 (B : Int)) := by simp
  have HBEL := Lib.hid (fun W => below_any nx n hx h.nx W)
  have HO := Lib.hid (h.keep hA)
  have HA := Lib.hid hA
  have hbw := h.lt
  have HAL := Lib.hid h.row.lt
  have HNE := Lib.hid h.ne
  have HKS := Lib.hid hks
  generalize hpost : OAckPost w b n (cameO nx B l) (restO nx B l) = Post
  have HPost := Lib.hid hpost
  clear hpost h hA hks
  have hcs : ((nx : Int) != (n : Int)) = false ∨ ((nx : Int) != (n : Int)) = true ∧ belowB nx n = true := by
    rcases hgo with e | ⟨e, e2⟩
    · left; subst e; simp
    · right; exact ⟨by rw [bne_iff_ne]; omega, e2⟩
  clear hgo
  rcases hcs with hc1 | ⟨hc1, hc2⟩
  all_goals (try rw [hc2] at HBEL)
  all_goals
    go_enter Try.func28, Try.ntmps28
    go_upto_region 1 with (fail)
    have y0 := HO.out.c0
    have hbl := HO.out.lt
    have hXl := block_lt_of_cell x0
    simp only at hXl
    go_quiet ((go_at_call 41; exact Calls.quiet_of_same (HBEL.out _)))
    have z0 : ((w.alloc (.cells #[.int .u32 (nx : Int), .int .u32 (B : Int)] 72)).drewN nq).cell? ⟨w.heap.size, 0, none⟩ = some (.int .u32 (nx : Int)) := x0
    have z1 : ((w.alloc (.cells #[.int .u32 (nx : Int), .int .u32 (B : Int)] 72)).drewN nq).cell? ⟨w.heap.size, 1, none⟩ = some (.int .u32 (B : Int)) := x1
    have HO1 := Lib.hid (HO.out.keep (drewN_bel _ nq))
    have HA1 := Lib.hid (HA.out.trans ((drewN_bel _ nq).mono HA.out.size))
    clear x0 x1 y0 hbl hXl HO HA hc1
    generalize (w.alloc (.cells #[.int .u32 (nx : Int), .int .u32 (B : Int)] 72)).drewN nq = W1 at z0 z1 HO1 HA1 ⊢
    generalize hX : w.heap.size = X at z0 z1 ⊢
    have HX := Lib.hid hX
    clear hX
    have c1 := HO1.out.c1
    have hbl := HO1.out.lt
    have hXl := block_lt_of_cell z0
    simp only at hXl
    go_wp2
    go_loopw [5, 6, 31] (fun v5 v6 iv wr => ∃ (k n1 n2 : Nat) (a1 : Option Addr) (c1 : Nat) (a2 : Option Addr) (c2 : Nat), k ≤ l.length ∧ n1 ≤ k ∧ n2 ≤ k ∧ v5 = .slice a1 n1 c1 ∧ v6 = .slice a2 n2 c2 ∧ iv = .int .i64 k ∧ Hid ((cameO nx B (l.take k)).length = n1 ∧ (restO nx B (l.take k)).length = n2 ∧ Two 54 1 81 2 W1 a1 c1 ((cameO nx B (l.take k)).map u32C) a2 c2 ((restO nx B (l.take k)).map itCells) wr)) (fun _ _ iv _ => l.length - (intOf iv).toNat)
    case atStart => exact ⟨0, 0, 0, none, 0, none, 0, Nat.zero_le _, Nat.le_refl _, Nat.le_refl _, rfl, rfl, rfl, Lib.hid ⟨rfl, rfl, Two.none _ _ _ _ _⟩⟩
    case round =>
      obtain ⟨k, n1, n2, a1, c1', a2, c2', hk, hn1, hn2, rfl, rfl, rfl, HS⟩ := hrel
      by_cases hlt : k < l.length
      · obtain ⟨g, rfl, hg, hcells⟩ := cell_it HO1.out.row (by omega)
        obtain ⟨u0, u1⟩ := hcells k hlt
        have hbel := HS.out.2.2.bel
        have d0 := (hbel.cell (p := ⟨g, k * 2, none⟩) hg).trans u0
        have d1 := (hbel.cell (p := ⟨g, k * 2 + 1, none⟩) hg).trans u1
        have e0 := (hbel.cell (p := ⟨X, 0, none⟩) hXl).trans z0
        have e1 := (hbel.cell (p := ⟨X, 1, none⟩) hXl).trans z1
        have hgr : g < wr.heap.size := block_lt_of_cell d0
        have hXr : X < wr.heap.size := block_lt_of_cell e0
        have hkp := HKS.out l[k] (List.getElem_mem hlt)
        have HCN := Lib.hid (show cameO nx B (l.take (k + 1)) = cameO nx B (l.take k) ++ (if hasB nx B l[k].1 = true then [l[k].1] else []) by rw [List.take_succ_eq_append_getElem hlt]; exact came_snoc _ _ _ _)
        have HRN := Lib.hid (show restO nx B (l.take (k + 1)) = restO nx B (l.take k) ++ (if hasB nx B l[k].1 = true then [] else [l[k]]) by rw [List.take_succ_eq_append_getElem hlt]; exact rest_snoc _ _ _ _)
        have HHA := Lib.hid (fun W => has_any nx B l[k].1 W hx hB hkp)
        clear hcells u0 u1 hbel
        generalize l[k] = p at d0 d1 hkp HCN HRN HHA
        obtain ⟨pn, pt⟩ := p
        simp only at d0 d1 hkp HCN HRN HHA
        have hi0 : (0 : Int) ≤ (k : Int) := by omega
        have hi1 : (k : Int) < (l.length : Int) := by omega
        have HT1 := Lib.hid (HS.out.2.2.keep (bel_alloc (Below.refl _ _) (.cells #[.int .u32 (pn : Int), .string (bs pt)] 81)))
        have q0 : (wr.alloc (.cells #[.int .u32 (pn : Int), .string (bs pt)] 81)).cell? ⟨wr.heap.size, 0, none⟩ = some (.int .u32 (pn : Int)) := by simp
        have q1 : (wr.alloc (.cells #[.int .u32 (pn : Int), .string (bs pt)] 81)).cell? ⟨wr.heap.size, 1, none⟩ = some (.string (bs pt)) := by simp
        have HQ0 := Lib.hid q0
        have HQ1 := Lib.hid q1
        clear q0 q1
        go_wp2_with fail
        refine (HHA.out _).mono ?_
        rintro r w4 ⟨rfl, hb4⟩
        have q0 := (hb4.cell (p := ⟨wr.heap.size, 0, none⟩) (block_lt_of_cell HQ0.out)).trans HQ0.out
        have q1 := (hb4.cell (p := ⟨wr.heap.size, 1, none⟩) (block_lt_of_cell HQ1.out)).trans HQ1.out
        have HT4 := Lib.hid (HT1.out.keep hb4)
        have hql := block_lt_of_cell q0
        simp only at hql
        clear hb4 HT1 HQ0 HQ1 d0 d1 e0 e1 hgr hXr HHA
        generalize wr.heap.size = Y at q0 q1 hql ⊢
        cases hh : hasB nx B pn
        · rw [hh] at HCN HRN
          obtain ⟨a5, c5, w5, hrun, ho, hto, hnw⟩ := own_one itTy Try.underlying76 HT4.out.r2 (itCells (pn, pt)) (it_wide [(pn, pt)]) (by rw [List.length_map]; have := HS.out.2.1; omega) n2 (by rw [List.length_map]; exact HS.out.2.1) #[.int .u32 (pn : Int), .string (bs pt)] rfl
          have HRUN := Lib.hid hrun
          have HT5 : Hid (Two 54 1 81 2 W1 a1 c1' ((cameO nx B (l.take (k + 1))).map u32C) a5 c5 ((restO nx B (l.take (k + 1))).map itCells) w5) := Lib.hid (by
            rw [HCN.out, HRN.out]
            have := HT4.out.second ho hto hnw
            simpa using this)
          clear hrun ho hto hnw HT4
          go_wp2_with (at_builtin; refine wpList_append_run _ rfl (.tmp 44) (.tmp 46) 76 76 rfl _ _ rfl rfl (.slice a5 (n2 + 1) c5) w5 HRUN.out ?_)
          go_roundw
          case rel => exact ⟨k + 1, n1, n2 + 1, a1, c1', a5, c5, by omega, by omega, by omega, rfl, rfl, by go_num, Lib.hid ⟨by rw [HCN.out]; simpa using HS.out.1, by rw [HRN.out]; simpa using HS.out.2.1, HT5.out⟩⟩
          case measure => simp [intOf] <;> omega
        · rw [hh] at HCN HRN
          obtain ⟨a5, c5, w5, hrun, ho, hto, hnw⟩ := own_one u32Ty Try.underlying69 HT4.out.r1 (u32C pn) (num_wide [pn]) (by rw [List.length_map]; have := HS.out.1; omega) n1 (by rw [List.length_map]; exact HS.out.1) #[.int .u32 (pn : Int)] rfl
          have HRUN := Lib.hid hrun
          have HT5 : Hid (Two 54 1 81 2 W1 a5 c5 ((cameO nx B (l.take (k + 1))).map u32C) a2 c2' ((restO nx B (l.take (k + 1))).map itCells) w5) := Lib.hid (by
            rw [HCN.out, HRN.out]
            have := HT4.out.first ho hto hnw
            simpa using this)
          clear hrun ho hto hnw HT4
          go_wp2_with (at_builtin; refine wpList_append_run _ rfl (.tmp 39) (.tmp 42) 69 69 rfl _ _ rfl rfl (.slice a5 (n1 + 1) c5) w5 HRUN.out ?_)
          go_roundw
          case rel => exact ⟨k + 1, n1 + 1, n2, a5, c5, a2, c2', by omega, by omega, by omega, rfl, rfl, by go_num, Lib.hid ⟨by rw [HCN.out]; simpa using HS.out.1, by rw [HRN.out]; simpa using HS.out.2.1, HT5.out⟩⟩
          case measure => simp [intOf] <;> omega
      · obtain rfl : k = l.length := by omega
        rw [List.take_length] at HS
        obtain ⟨hl1, hl2, htwo⟩ := HS.out
        have HT := Lib.hid htwo
        have HL1 := Lib.hid hl1
        have HL2 := Lib.hid hl2
        have b1 := (htwo.bel.cell (p := ⟨b, 1, none⟩) hbl).trans c1
        have f1 := (htwo.bel.frozen (p := ⟨b, 1, none⟩) hbl).trans HO1.out.f1
        have hb5 : b < wr.heap.size := block_lt_of_cell b1
        have hi1 : (l.length : Int) ≤ (l.length : Int) := by omega
        have HF : Hid (OAckPost w b n (cameO nx B l) (restO nx B l) (.returned (.slice a1 n1 c1')) (wr.setCell ⟨b, 1, none⟩ (.slice a2 n2 c2'))) := Lib.hid (by
          have hs1 := HA1.out.size
          have ht : Touch (fun j => j = b) wr (wr.setCell ⟨b, 1, none⟩ (.slice a2 n2 c2')) := (Touch.refl (fun j => j = b) wr).setCell (p := ⟨b, 1, none⟩) (fun _ => rfl) _
          have b0 := (htwo.bel.cell (p := ⟨b, 0, none⟩) hbl).trans HO1.out.c0
          have f0 := (htwo.bel.frozen (p := ⟨b, 0, none⟩) hbl).trans HO1.out.f0
          refine ⟨a1, c1', a2, c2', by rw [hl1], ⟨(World.cell?_setCell_other _ _ _ _ (by simp)).trans b0, by rw [hl2]; exact World.cell?_setCell_same _ _ _ b1, by simpa using f0, by simpa using f1, htwo.r2.touch ht (fun x hx e => by have := htwo.n2 x hx; omega), (fun x hx e => by have := htwo.n2 x hx; omega), HO1.out.nx⟩, ⟨(htwo.r1.touch ht (fun x hx e => by have := htwo.n1 x hx; omega)).1, fun x hx => by have := htwo.n1 x hx; omega⟩, (fun x hx => by have := htwo.n2 x hx; omega), htwo.dj, ?_⟩
          exact ((touch_of_below (S := fun j => j = b) HA1.out).trans' (touch_of_below (S := fun _ => False) htwo.bel) (fun _ _ => False.elim)).setCell (p := ⟨b, 1, none⟩) (fun _ => rfl) _)
        clear hl1 hl2 htwo
        go_wp2
        rw [← HPost.out]
        exact HF.out
theorem imade0 (W : World) (k : Nat) (hk : W.heap.size = k) : OwnV 81 2 0 (some ⟨k, 0, none⟩) 0 ([] : List (List Value)) (W.alloc (.cells #[] 81)) := by
  subst hk
  refine ⟨⟨by simp, .inr ⟨W.heap.size, 0, #[], rfl, Nat.zero_le _, ?_, Nat.le_refl _, by unfold maxLen; omega, by simp, by simp⟩⟩, fun _ _ => Nat.zero_le _⟩
  show (W.heap.push (.cells #[] 81))[W.heap.size]? = _
  simp
theorem sl_nil (w : World) : (binOp .eql 76 (.slice none 0 0) (.slice none 0 0)).run Try.prog w = .ok (.bool true) w := by kernel_rfl
theorem sl_some (x : Addr) (n c : Nat) (w : World) : (binOp .eql 76 (.slice (some x) n c) (.slice none 0 0)).run Try.prog w = .ok (.bool false) w := by kernel_rfl
def AllO (w : World) (l : List (Nat × List UInt8)) (r : Ending) (w' : World) : Prop := ∃ a c, r = .returned (.slice a l.length c) ∧ OwnV 81 2 w.heap.size a c (l.map itCells) w' ∧ Below w.heap.size w w'
set_option maxRecDepth 100000 in
theorem clone_it (a : Option Addr) (c : Nat) (l : List (Nat × List UInt8)) (w : World) (h : OwnV 81 2 0 a c (l.map itCells) w) (hl : l.length ≤ 1000) : Calls Try.prog 43 #[.slice a l.length c] w (AllO w l) := by
  generalize hpost : AllO w l = Post
  have HPost := Lib.hid hpost
  clear hpost
  cases a with
  | none =>
    have h0 : l.length = 0 ∧ c = 0 := by
      rcases h.1.2 with ⟨hv, h0⟩ | ⟨g, cap, cur, hv, -⟩
      · simp only [List.length_map] at hv h0
        simp only [Value.slice.injEq] at hv
        exact ⟨h0, hv.2.2⟩
      · simp at hv
    obtain ⟨h1, rfl⟩ := h0
    have hn : l = [] := List.eq_nil_of_length_eq_zero h1
    subst hn
    have HE : Hid (AllO w [] (.returned (.slice none 0 0)) w) := Lib.hid ⟨none, 0, rfl, ⟨World.ownsRow_nil _ _ _ _, (fun x hx => by cases hx)⟩, Below.refl _ _⟩
    simp only [List.length_nil]
    clear h h1
    have hq := sl_nil
    go_enter Try.func43, Try.ntmps43
    go_wp2
    rw [← HPost.out]
    exact HE.out
  | some x =>
    have hx : ∃ g, x = ⟨g, 0, none⟩ := by
      rcases h.1.2 with ⟨hv, -⟩ | ⟨g, cap, cur, hv, -⟩
      · simp at hv
      · simp only [Value.slice.injEq, Option.some.injEq] at hv; exact ⟨g, hv.1⟩
    obtain ⟨g, rfl⟩ := hx
    have hgl := h.lt _ rfl
    have hA : Below w.heap.size w (w.alloc (.cells #[] 81)) := bel_alloc (Below.refl _ _) _
    have hrow : ∀ i (hi : i < (l.map itCells).length) j, j < 2 → (w.alloc (.cells #[] 81)).cell? ⟨g, 0 + i * 2 + j, none⟩ = (l.map itCells)[i][j]? := fun i hi j hj => by
      have hvr := (h.touch (touch_of_below (S := fun _ => False) hA) (fun _ _ => id)).row (it_wide l) (by omega)
      obtain ⟨g', off', e1, hvc⟩ := hvr
      simp only [Option.some.injEq, Addr.mk.injEq] at e1
      obtain ⟨rfl, rfl, -⟩ := e1
      exact hvc i hi j hj
    obtain ⟨a', c', w', hrun, ho, hto, hnw⟩ := own_app itTy Try.underlying76 (imade0 w _ rfl) g 0 l.length c (l.map itCells) (it_wide l) (by simp) hrow (by simp; omega) 0 rfl
    have HRUN := Lib.hid hrun
    have HE : Hid (AllO w l (.returned (.slice a' l.length c')) w') := Lib.hid ⟨a', c', rfl, ⟨by simpa using ho.1, fun y hy => by
      rcases hnw y hy with e | e
      · simp at e; omega
      · simp at e; omega⟩, hA.trans (hto.below (by simp) (fun k hk e => by simp at e; omega))⟩
    clear h hrow hrun ho hto hnw hgl hA
    have hq := sl_some ⟨g, 0, none⟩ l.length c
    go_enter Try.func43, Try.ntmps43
    go_wp2_with (at_builtin; refine wpList_append_run _ rfl (.tmp 5) (.tmp 6) 76 76 rfl _ _ rfl rfl (.slice a' (0 + l.length) c') w' HRUN.out ?_)
    rw [← HPost.out]
    exact HE.out
theorem outAll_any (b n : Nat) (a : Option Addr) (c : Nat) (l : List (Nat × List UInt8)) (w : World) (h : OAt w b n a c l) (hl : l.length ≤ 1000) : Calls Try.prog 30 #[.pointer (some ⟨b, 0, none⟩)] w (AllO w l) := by
  have HC := Lib.hid (clone_it a c l w h.row hl)
  have c1 := h.c1
  have hbl := h.lt
  generalize hpost : AllO w l = Post at HC
  have HPost := Lib.hid hpost
  clear h hpost
  go_enter Try.func30, Try.ntmps30
  go_wp2_with fail
  refine HC.out.mono ?_
  intro r w1 hr
  rw [← HPost.out] at hr
  obtain ⟨a1, c1', rfl, ho, hb⟩ := hr
  have HE : Hid (AllO w l (.returned (.slice a1 l.length c1')) w1) := Lib.hid ⟨a1, c1', rfl, ho, hb⟩
  clear ho hb HC
  go_wp2
  rw [← HPost.out]
  exact HE.out
end Go.Proofs.Ytfkhfincggligaa
namespace Go.Proofs.Ytfkhfincggligaa
open Go.RowKit Go.ChangeMaps
set_option linter.unusedVariables false

def setL (L : List (Nat × Value)) (n : Nat) (v : Value) : List (Nat × Value) := L.map (fun p => if p.1 = n then (p.1, v) else p)
theorem setL_keys (L : List (Nat × Value)) (n : Nat) (v : Value) : (setL L n v).map (·.1) = L.map (·.1) := by
  unfold setL
  rw [List.map_map]
  apply List.map_congr_left
  intro p hp
  simp only [Function.comp]
  split <;> rfl
theorem setL_same {L : List (Nat × Value)} {n : Nat} {v : Value} (h : ∀ p ∈ L, p.1 ≠ n) : setL L n v = L := by
  unfold setL
  conv => rhs; rw [← List.map_id L]
  apply List.map_congr_left
  intro p hp
  rw [if_neg (h p hp)]; rfl
theorem modify_set {q : IntKind} {es : List MapEntry} {L : List (Nat × Value)} (he : EntsAre q es L) (nd : (L.map (·.1)).Nodup) (j : Nat) (x : MapEntry) (n : Nat) (v : Value) (hj : es[j]? = some x) (hx : x.key = .int q (n : Int)) :
    EntsAre q (es.set j ⟨.int q (n : Int), v, x.born⟩) (setL L n v) ∧ (es.set j ⟨.int q (n : Int), v, x.born⟩).map (·.born) = es.map (·.born) := by
  induction es generalizing L j with
  | nil => simp at hj
  | cons y es ih =>
    cases L with
    | nil => simp [EntsAre] at he
    | cons p L =>
      unfold EntsAre at he
      simp only [List.map_cons, List.cons.injEq, Prod.mk.injEq] at he
      obtain ⟨⟨e1, e2⟩, e3⟩ := he
      simp only [List.map_cons, List.nodup_cons] at nd
      cases j with
      | zero =>
        simp at hj; subst hj
        rw [hx] at e1
        have hn := int_inj e1
        have hs : setL L n v = L := setL_same fun z hz e => nd.1 (by rw [← hn, ← e]; exact List.mem_map.2 ⟨z, hz, rfl⟩)
        refine ⟨?_, by simp⟩
        show EntsAre q _ (setL (p :: L) n v)
        have hsc : setL (p :: L) n v = (p.1, v) :: setL L n v := by unfold setL; simp [hn]
        rw [hsc, hs]
        unfold EntsAre
        simp only [List.set_cons_zero, List.map_cons, e3, hn]
      | succ j =>
        have hj' : es[j]? = some x := by simpa using hj
        have hne : p.1 ≠ n := fun e => by
          obtain ⟨p', hp', e4, -⟩ := ents_mem (q := q) (L := L) e3 (List.mem_of_getElem? hj')
          rw [hx] at e4
          have := int_inj e4
          exact nd.1 (List.mem_map.2 ⟨p', hp', by omega⟩)
        obtain ⟨i1, i2⟩ := ih e3 nd.2 j hj'
        have hsc : setL (p :: L) n v = p :: setL L n v := by unfold setL; simp [hne]
        rw [hsc]
        unfold EntsAre at i1 ⊢
        simp only [List.set_cons_succ, List.map_cons, i1, i2, e1, e2, and_self]
theorem modify_is {α : Type} (l : List α) (j : Nat) (f : α → α) (x : α) (h : l[j]? = some x) : l.modify j f = l.set j (f x) := by
  induction l generalizing j with
  | nil => simp at h
  | cons y l ih =>
    cases j with
    | zero => simp at h; subst h; rfl
    | succ j =>
      have h' : l[j]? = some x := by simpa using h
      rw [List.set_cons_succ, ← ih j h']
      rfl
theorem mp_put {P : Program} {q : IntKind} {k t e : TypeId} (hk : P.underlying k = some (.int q)) (ht : P.underlying t = some (.map k e)) {w : World} {r : Nat} {L : List (Nat × Value)} (h : MpAt q w r L) (n : Nat) (hn : (Lit.int q (n : Int)).wf = true) (v0 v : Value) (hin : (n, v0) ∈ L) :
    ∃ w', (Instr.mapUpdate t (.map (some r)) (.int q (n : Int)) v).run P w = .ok () w' ∧ MpAt q w' r (setL L n v) ∧ Touch (fun j => j = r) w w' := by
  obtain ⟨es, clock, hb, he, hbn, hbc⟩ := h.ex
  rcases mp_find (w := w) hk he h.wf n hn with ⟨h1, h2⟩ | ⟨j, x, h1, h2, h3, h4⟩
  · exact absurd rfl (h2 _ hin)
  · obtain ⟨m1, m2⟩ := modify_set he h.nd j x n v h2 h3
    have hjl : j < es.length := (List.getElem?_eq_some_iff.1 h2).1
    have hxj : es[j] = x := (List.getElem?_eq_some_iff.1 h2).2
    have hmod : es.toArray.modify j (fun e => { e with key := .int q (n : Int), val := v }) = (es.set j ⟨.int q (n : Int), v, x.born⟩).toArray := by
      apply Array.toList_inj.1
      simp only [Array.toList_modify]
      exact modify_is es j _ x h2
    refine ⟨setBlock w r (.map ((es.set j ⟨.int q (n : Int), v, x.born⟩).toArray) clock), ?_, ⟨⟨_, clock, heap_setBlock_same hb _, m1, by rw [m2]; exact hbn, fun y hy => ?_⟩, by rw [setL_keys]; exact h.nd, fun p hp => ?_⟩, touch_block hb _⟩
    · rw [← hmod]
      simp [Instr.mapUpdate, run_underlying ht, MapKept.run_getObj_map hb, (Maps.int_keyed hk).check w false (Maps.keyOf_int_mk hk hn), h1, h2, h3, (Maps.int_keyed hk).stays w (Maps.keyOf_int_mk hk hn), MapKept.run_setObj_map _ hb, Result.andThen, setBlock]
    · have : y.born ∈ (es.set j ⟨.int q (n : Int), v, x.born⟩).map (·.born) := List.mem_map.2 ⟨y, hy, rfl⟩
      rw [m2] at this
      obtain ⟨z, hz, e1⟩ := List.mem_map.1 this
      rw [← e1]; exact hbc z hz
    · have : p.1 ∈ (setL L n v).map (·.1) := List.mem_map.2 ⟨p, hp, rfl⟩
      rw [setL_keys] at this
      obtain ⟨z, hz, e1⟩ := List.mem_map.1 this
      rw [← e1]; exact h.wf z hz
end Go.Proofs.Ytfkhfincggligaa
namespace Go.Proofs.Ytfkhfincggligaa
open Go.RowKit
set_option linter.unusedVariables false

def xT : Nat → List UInt8 := fun _ => [120]
def itemsO (first k : Nat) : List (Nat × List UInt8) := (List.range k).map (fun d => (numW first d, [120]))
theorem itemsO_succ (first k : Nat) : itemsO first (k + 1) = itemsO first k ++ [(numW first k, [120])] := by simp [itemsO, List.range_succ]
theorem itemsO_len (first k : Nat) : (itemsO first k).length = k := by simp [itemsO]
theorem itemsO_lt (first k : Nat) : ∀ p ∈ itemsO first k, p.1 < 4294967296 := by
  intro p hp
  obtain ⟨d, -, rfl⟩ := List.mem_map.1 hp
  exact numW_lt _ _
theorem itemsO_head (first k : Nat) (hk : k < 32) : itemsO first k = [] ∨ ∃ p l', itemsO first k = p :: l' ∧ distW (numW first k) p.1 < 32 := by
  cases k with
  | zero => exact .inl rfl
  | succ k =>
    right
    refine ⟨(numW first 0, [120]), (List.range k).map (fun d => (numW first (d + 1), [120])), ?_, ?_⟩
    · unfold itemsO; rw [List.range_succ_eq_map]; simp [Function.comp_def]
    · simp only; rw [dist_ge first (k + 1) 0 (by omega) (by omega)]; omega
theorem itemsO_full (first : Nat) : ∃ l', itemsO first 32 = (numW first 0, [120]) :: l' ∧ l'.length = 31 ∧ 32 ≤ distW (numW first 32) (numW first 0) := by
  refine ⟨(List.range 31).map (fun d => (numW first (d + 1), [120])), ?_, by simp, ?_⟩
  · unfold itemsO; rw [show (32 : Nat) = 31 + 1 from rfl, List.range_succ_eq_map]; simp [Function.comp_def]
  · rw [dist_ge first 32 0 (by omega) (by omega)]; omega
def cntG (G : Nat → Bool) : Nat := ((List.range 32).filter G).length
theorem cnt_add (l : List Nat) (hn : l.Nodup) (G : Nat → Bool) (d : Nat) (hd : d ∈ l) (hg : G d = false) : (l.filter (addG G d)).length = (l.filter G).length + 1 := by
  induction l with
  | nil => simp at hd
  | cons x l ih =>
    obtain ⟨h1, h2⟩ := List.nodup_cons.1 hn
    by_cases hx : x = d
    · subst hx
      have hsame : l.filter (addG G x) = l.filter G := by
        apply List.filter_congr
        intro y hy
        have : y ≠ x := fun e => h1 (e ▸ hy)
        simp [addG, this]
      rw [List.filter_cons_of_pos (by simp [addG]), List.filter_cons_of_neg (by simp [hg]), hsame]
      simp
    · have hd' : d ∈ l := by
        rcases List.mem_cons.1 hd with e | e
        · exact absurd e.symm hx
        · exact e
      have := ih h2 hd'
      by_cases hgx : G x = true
      · rw [List.filter_cons_of_pos (by simp [addG, hgx]), List.filter_cons_of_pos hgx]; simp; omega
      · rw [List.filter_cons_of_neg (by simp [addG, hgx, hx]), List.filter_cons_of_neg hgx]; exact this
theorem cntG_add (G : Nat → Bool) (d : Nat) (hd : d < 32) (hg : G d = false) : cntG (addG G d) = cntG G + 1 := cnt_add _ List.nodup_range G d (List.mem_range.2 hd) hg
theorem addG_same (G : Nat → Bool) (d : Nat) (hg : G d = true) : addG G d = G := by
  funext e
  unfold addG
  by_cases h : e = d
  · subst h; rw [hg]; rfl
  · simp [h]
/-- How often each came. -/
structure GotL (first : Nat) (G : Nat → Bool) (c : Nat) (L : List (Nat × Value)) : Prop where
  mem : ∀ n v, (n, v) ∈ L → ∃ d, d < 32 ∧ G d = true ∧ n = numW first d ∧ ∃ z : Nat, v = .int .i64 (z : Int) ∧ 1 ≤ z ∧ z ≤ c
  all : ∀ d, d < 32 → G d = true → ∃ v, (numW first d, v) ∈ L
  len : L.length = cntG G
theorem GotL.new {first : Nat} {G : Nat → Bool} {c : Nat} {L : List (Nat × Value)} (h : GotL first G c L) (d : Nat) (hd : d < 32) (hg : G d = false) : GotL first (addG G d) (c + 1) (L ++ [(numW first d, .int .i64 1)]) := by
  refine ⟨fun n v hv => ?_, fun e he hge => ?_, by rw [List.length_append, h.len, cntG_add G d hd hg]; rfl⟩
  · rcases List.mem_append.1 hv with hv | hv
    · obtain ⟨e, h1, h2, h3, z, h4, h5, h6⟩ := h.mem n v hv
      exact ⟨e, h1, by unfold addG; rw [h2]; rfl, h3, z, h4, h5, by omega⟩
    · simp only [List.mem_singleton, Prod.mk.injEq] at hv
      obtain ⟨rfl, rfl⟩ := hv
      exact ⟨d, hd, by simp [addG], rfl, 1, rfl, by omega, by omega⟩
  · by_cases hed : e = d
    · subst hed; exact ⟨.int .i64 1, List.mem_append.2 (.inr (by simp))⟩
    · have : G e = true := by unfold addG at hge; simpa [hed] using hge
      obtain ⟨v, hv⟩ := h.all e he this
      exact ⟨v, List.mem_append.2 (.inl hv)⟩
theorem GotL.more {first : Nat} {G : Nat → Bool} {c : Nat} {L : List (Nat × Value)} (h : GotL first G c L) (n z : Nat) (hz1 : 1 ≤ z) (hz : z ≤ c) : GotL first G (c + 1) (setL L n (.int .i64 ((z : Int) + 1))) := by
  refine ⟨fun m v hv => ?_, fun e he hge => ?_, by unfold setL; rw [List.length_map]; exact h.len⟩
  · obtain ⟨p, hp, e1⟩ := List.mem_map.1 hv
    by_cases hpn : p.1 = n
    · rw [if_pos hpn] at e1
      simp only [Prod.mk.injEq] at e1
      obtain ⟨d, h1, h2, h3, -⟩ := h.mem p.1 p.2 hp
      exact ⟨d, h1, h2, by rw [← e1.1]; exact h3, z + 1, by rw [← e1.2]; rfl, by omega, by omega⟩
    · rw [if_neg hpn] at e1
      subst e1
      obtain ⟨d, h1, h2, h3, z', h4, h5, h6⟩ := h.mem _ _ hp
      exact ⟨d, h1, h2, h3, z', h4, h5, by omega⟩
  · obtain ⟨v, hv⟩ := h.all e he hge
    refine ⟨if numW first e = n then .int .i64 ((z : Int) + 1) else v, List.mem_map.2 ⟨_, hv, ?_⟩⟩
    simp only
    split <;> rfl
theorem GotL.none {first : Nat} : GotL first (fun _ => false) 0 [] := ⟨(fun n v hv => by simp at hv), (fun d hd hg => by cases hg), by unfold cntG; rw [List.filter_eq_nil_iff.2 (fun a _ => by simp)]; rfl⟩
theorem GotL.no {first : Nat} {G : Nat → Bool} {c : Nat} {L : List (Nat × Value)} (h : GotL first G c L) (d : Nat) (hd : d < 32) (hno : ∀ p ∈ L, p.1 ≠ numW first d) : G d = false := by
  cases hg : G d with
  | false => rfl
  | true => obtain ⟨v, hv⟩ := h.all d hd hg; exact absurd rfl (hno _ hv)
theorem GotL.yes {first : Nat} {G : Nat → Bool} {c : Nat} {L : List (Nat × Value)} (h : GotL first G c L) (d : Nat) (hd : d < 32) {v : Value} (hv : (numW first d, v) ∈ L) : G d = true ∧ ∃ z : Nat, v = .int .i64 (z : Int) ∧ 1 ≤ z ∧ z ≤ c := by
  obtain ⟨e, h1, h2, h3, hz⟩ := h.mem _ _ hv
  have := num_inj first d e h3 (by omega) (by omega)
  subst this
  exact ⟨h2, hz⟩
theorem goW_len (f : Nat) (s : Ws) : (goW f s).1.l.length ≤ s.l.length := by
  induction f generalizing s with
  | zero => exact Nat.le_refl _
  | succ f ih =>
    cases h : findW s.l s.nx with
    | none => rw [goW_none h]; exact Nat.le_refl _
    | some t =>
      rw [goW_some h]
      exact Nat.le_trans (ih _) (List.length_filter_le _ _)
theorem putW_len (s : Ws) (n : Nat) (t : List UInt8) : (putW s n t).1.l.length ≤ s.l.length + 1 := by
  unfold putW
  split
  · simp
  · split
    · simp
    · split
      · simp
      · exact Nat.le_trans (goW_len _ _) (by simp)
/-- All that the second loop knows of what came. -/
def InA (first : Nat) (G : Nat → Bool) (s : Ws) : Prop := (∀ d, G d = true → d < 32) ∧ ∃ m, InG first m xT G s
theorem InA.put {first : Nat} {G : Nat → Bool} {s : Ws} (h : InA first G s) (d : Nat) (hd : d < 32) : InA first (addG G d) (putW s (numW first d) [120]).1 := by
  obtain ⟨h1, m, h2⟩ := h
  refine ⟨fun e he => ?_, ?_⟩
  · unfold addG at he
    rw [Bool.or_eq_true] at he
    rcases he with he | he
    · exact h1 e he
    · have : e = d := by simpa using he
      omega
  · have hm : m ≤ 32 := by
      apply Classical.byContradiction
      intro hc
      have := h1 32 (h2.lo 32 (by omega))
      omega
    by_cases hdm : d < m
    · rw [h2.put_old d hdm (by omega), addG_same G d (h2.lo d hdm)]
      exact ⟨m, h2⟩
    · rcases h2.put d (by omega) (by omega) with ⟨g1, g2⟩ | ⟨g1, s', m', -, g2, g3⟩
      · rw [show ([120] : List UInt8) = xT d from rfl, g2, addG_same G d g1]
        exact ⟨m, h2⟩
      · rw [show ([120] : List UInt8) = xT d from rfl, g2]
        exact ⟨m', g3⟩
theorem InA.ok {first : Nat} {G : Nat → Bool} {s : Ws} (h : InA first G s) : OkW s := by obtain ⟨-, m, h2⟩ := h; exact h2.ok
/-- What the ack tells: just what came; and it is no ack of what wasn't sent. -/
theorem InA.ack {first : Nat} {G : Nat → Bool} {s : Ws} (h : InA first G s) {B : Nat} (hB : ∀ k, B.testBit k = true ↔ ∃ p ∈ s.l, distW p.1 s.nx = k + 1) : (∀ d, d < 32 → hasB s.nx B (numW first d) = G d) ∧ (s.nx = numW first 32 ∨ s.nx ≠ numW first 32 ∧ belowB s.nx (numW first 32) = true) := by
  obtain ⟨h1, m, h2⟩ := h
  have hm : m ≤ 32 := by
    apply Classical.byContradiction
    intro hc
    have := h1 32 (h2.lo 32 (by omega))
    omega
  refine ⟨fun d hd => h2.has hB d (by omega) (by omega), ?_⟩
  rcases Nat.eq_or_lt_of_le hm with e | e
  · left; rw [h2.nx, e]
  · right
    refine ⟨fun e2 => ?_, ?_⟩
    · rw [h2.nx] at e2
      have := num_inj first m 32 e2 (by omega) (by omega)
      omega
    · unfold belowB
      rw [h2.nx, dist_lt first m 32 e (by omega)]
      exact decide_eq_true (by omega)
theorem filter_any (first : Nat) (F : Nat → Bool) (G : Nat → Bool) (R : List Nat) (h : ∀ d ∈ R, F (numW first d) = G d) : ((R.map (fun d => (numW first d, ([120] : List UInt8)))).filter (fun p => F p.1)).map (·.1) = (R.filter G).map (numW first) ∧ (R.map (fun d => (numW first d, ([120] : List UInt8)))).filter (fun p => !F p.1) = (R.filter (fun d => !G d)).map (fun d => (numW first d, [120])) := by
  induction R with
  | nil => exact ⟨rfl, rfl⟩
  | cons d R ih =>
    obtain ⟨i1, i2⟩ := ih (fun e he => h e (by simp [he]))
    have hd := h d (by simp)
    cases hg : G d with
    | true =>
      rw [hg] at hd
      refine ⟨?_, ?_⟩
      · rw [List.map_cons, List.filter_cons_of_pos (by simpa using hd), List.map_cons, i1, List.filter_cons_of_pos hg, List.map_cons]
      · rw [List.map_cons, List.filter_cons_of_neg (by simp [hd]), i2, List.filter_cons_of_neg (by simp [hg])]
    | false =>
      rw [hg] at hd
      refine ⟨?_, ?_⟩
      · rw [List.map_cons, List.filter_cons_of_neg (by simp [hd]), i1, List.filter_cons_of_neg (by simp [hg])]
      · rw [List.map_cons, List.filter_cons_of_pos (by simp [hd]), i2, List.filter_cons_of_pos (by simp [hg]), List.map_cons]
theorem filter_items (first nx B : Nat) (G : Nat → Bool) (h : ∀ d, d < 32 → hasB nx B (numW first d) = G d) : cameO nx B (itemsO first 32) = ((List.range 32).filter G).map (numW first) ∧ restO nx B (itemsO first 32) = ((List.range 32).filter (fun d => !G d)).map (fun d => (numW first d, [120])) := by
  unfold cameO restO itemsO
  exact filter_any first (hasB nx B) G (List.range 32) (fun d hd => h d (List.mem_range.1 hd))
theorem rest_rest (nx B : Nat) (l : List (Nat × List UInt8)) : cameO nx B (restO nx B l) = [] ∧ restO nx B (restO nx B l) = restO nx B l := by
  unfold cameO restO
  refine ⟨?_, ?_⟩
  · rw [List.map_eq_nil_iff, List.filter_eq_nil_iff]
    intro p hp
    have := (List.mem_filter.1 hp).2
    simpa using this
  · rw [List.filter_filter]
    simp
theorem cnt_rest (G : Nat → Bool) : ((List.range 32).filter (fun d => !G d)).length + cntG G = 32 := by
  unfold cntG
  have h : ∀ l : List Nat, (l.filter (fun d => !G d)).length + (l.filter G).length = l.length := by
    intro l
    induction l with
    | nil => rfl
    | cons x l ih =>
      by_cases hg : G x = true
      · rw [List.filter_cons_of_neg (by simp [hg]), List.filter_cons_of_pos hg]; simp; omega
      · rw [List.filter_cons_of_pos (by simp [hg]), List.filter_cons_of_neg hg]; simp; omega
  rw [h]; simp
end Go.Proofs.Ytfkhfincggligaa
namespace Go.Proofs.Ytfkhfincggligaa
open Go.RowKit Go.WideShapes Go.ChangeShapes
set_option linter.unusedVariables false

/-- A list of numbers came in. -/
def NumArg (k : IntKind) (w : World) (a : Option Addr) (len cap : Nat) (ns : List Int) : Prop :=
  len = ns.length ∧ len ≤ maxLen ∧ len ≤ cap ∧ cap ≤ maxLen ∧ IntRow k w a ns ∧ (a = none → ns = []) ∧ ∀ n ∈ ns, (Lit.int k n).wf = true
theorem cell_addN {w : World} {b off j : Nat} {v : Value} (h : w.cell? ((⟨b, off, none⟩ : Addr).add j) = some v) : w.cell? ⟨b, off + j, none⟩ = some v := by
  by_cases hz : j = 0
  · subst hz; simpa [Addr.add] using h
  · simpa [Addr.add, hz] using h
theorem wf_i64 {n : Int} (h : (Lit.int .i64 n).wf = true) : -9223372036854775808 ≤ n ∧ n ≤ 9223372036854775807 := by
  simpa [Lit.wf, IntKind.min, IntKind.max, IntKind.signed, IntKind.bits] using h
theorem wf_u64 {n : Int} (h : (Lit.int .u64 n).wf = true) : 0 ≤ n ∧ n ≤ 18446744073709551615 := by
  simpa [Lit.wf, IntKind.min, IntKind.max, IntKind.signed, IntKind.bits] using h
theorem nums_of {H : Type} {enc : TypeId × Value → H} {P : Program} {w : World} {base : Nat} {sp : Nat → Bool} {held : Bool} {fuel : Nat} {a : Option Addr} {len cap : Nat} {t e : TypeId} {k : IntKind} {x : DataW H × List MemPlace}
    (ht : P.underlying t = some (.slice e)) (he : P.underlying e = some (.int k)) (hc : P.cellsOf e = 1)
    (h : DataW.trod enc P w base sp held fuel t [.slice a len cap] = some x) : ∃ ns, NumArg k w a len cap ns := by
  rcases open_ints ht he hc h with ⟨hcs, _⟩ | ⟨ad, l, c, zs, hcs, _, hl, hm, hz, _, hcell, hwf⟩
  · simp at hcs
    obtain ⟨rfl, rfl, rfl⟩ := hcs
    exact ⟨[], rfl, by simp [maxLen], Nat.le_refl _, by simp [maxLen], fun h => by simp at h, fun _ => rfl, by simp⟩
  · simp at hcs
    obtain ⟨rfl, rfl, rfl⟩ := hcs
    have hzl : len ≤ zs.length := by rw [hz]; split <;> omega
    refine ⟨zs.take len, by simp; omega, by omega, hl, hm, fun h0 => ?_, (fun h => by cases h), fun n hn => hwf n (List.mem_of_mem_take hn)⟩
    have h0' : 0 < len := by simp at h0; omega
    obtain ⟨b, off, spot⟩ := ad
    have h00 := hcell 0 (by omega)
    have hspot : spot = none := by simpa [Addr.add] using World.cell?_spot h00
    subst hspot
    refine ⟨b, off, rfl, fun i hi => ?_⟩
    have hi' : i < len := by simp at hi; omega
    have := cell_addN (hcell i (by omega))
    rw [List.getElem_take]
    rw [this]
    congr 2
    simp [List.getD, List.getElem?_eq_getElem (show i < zs.length by omega)]
theorem IntRow.below {k : IntKind} {w w' : World} {a : Option Addr} {ns : List Int} (h : IntRow k w a ns) (hb : Below w.heap.size w w') : IntRow k w' a ns := by
  intro h0
  obtain ⟨b, off, e, hc⟩ := h h0
  exact ⟨b, off, e, fun i hi => by rw [hb.cell (p := ⟨b, off + i, none⟩) (block_lt_of_cell (hc i hi))]; exact hc i hi⟩
theorem IntRow.touch {k : IntKind} {S : Nat → Prop} {w w' : World} {a : Option Addr} {ns : List Int} (h : IntRow k w a ns) (ht : Touch S w w') (hs : ∀ x, a = some x → ¬ S x.block) : IntRow k w' a ns := by
  intro h0
  obtain ⟨b, off, e, hc⟩ := h h0
  exact ⟨b, off, e, fun i hi => by rw [ht.cell (p := ⟨b, off + i, none⟩) (block_lt_of_cell (hc i hi)) (by have := hs _ e; exact this)]; exact hc i hi⟩
theorem IntRow.take {k : IntKind} {w : World} {a : Option Addr} {ns : List Int} (h : IntRow k w a ns) (n : Nat) : IntRow k w a (ns.take n) := by
  intro h0
  have h0' : 0 < ns.length := by simp at h0; omega
  obtain ⟨b, off, e, hc⟩ := h h0'
  refine ⟨b, off, e, fun i hi => ?_⟩
  have : i < ns.length := by simp at hi; omega
  rw [List.getElem_take]
  exact hc i this
theorem IntRow.lt {k : IntKind} {w : World} {a : Option Addr} {ns : List Int} (h : IntRow k w a ns) (h0 : 0 < ns.length) : ∃ b off, a = some ⟨b, off, none⟩ ∧ b < w.heap.size := by
  obtain ⟨b, off, e, hc⟩ := h h0
  exact ⟨b, off, e, block_lt_of_cell (hc 0 h0)⟩
end Go.Proofs.Ytfkhfincggligaa
namespace Go.Proofs.Ytfkhfincggligaa
open Go.RowKit
set_option linter.unusedVariables false

/-- An order whose numbers can be written. -/
def OrdIn (o : Ord) : Prop := 0 ≤ o.kind ∧ o.kind ≤ 4 ∧ 0 ≤ o.unit ∧ o.unit ≤ 1099511627776 ∧ B64 o.a ∧ B64 o.b
def ordB (o : Ord) : List UInt8 := countsB [o.kind] ++ numsB [o.unit.toNat] ++ intsB [o.a, o.b]
def ordsB (l : List Ord) : List UInt8 := (l.map ordB).flatten
def batchB (l : List Ord) : List UInt8 := countsB [(l.length : Int)] ++ ordsB l
theorem ordsB_snoc (l : List Ord) (k : Nat) (h : k < l.length) : ordsB (l.take (k + 1)) = ordsB (l.take k) ++ ordB l[k] := by
  unfold ordsB; rw [List.take_succ_eq_append_getElem h, List.map_append, List.flatten_append]; simp
theorem intsB_len2 {ns : List Int} (h : ∀ x ∈ ns, B64 x) : (intsB ns).length ≤ 10 * ns.length := by
  have := numsB_len (ns.map zig) (by intro n hn; simp only [List.mem_map] at hn; obtain ⟨a, ha, rfl⟩ := hn; exact zig_lt (h a ha).1 (h a ha).2)
  simpa [intsB] using this
theorem ordB_len {o : Ord} (h : OrdIn o) : (ordB o).length ≤ 40 := by
  obtain ⟨h1, h2, h3, h4, h5, h6⟩ := h
  have e1 := countsB_len (ns := [o.kind]) (by intro x hx; simp at hx; omega)
  have e2 := numsB_len [o.unit.toNat] (by intro x hx; simp at hx; omega)
  have e3 := intsB_len2 (ns := [o.a, o.b]) (by intro x hx; simp at hx; rcases hx with rfl | rfl; exact h5; exact h6)
  unfold ordB
  simp only [List.length_append]
  simp at e1 e2 e3
  omega
theorem ordsB_len {l : List Ord} (h : ∀ o ∈ l, OrdIn o) : (ordsB l).length ≤ 40 * l.length := by
  induction l with
  | nil => simp [ordsB]
  | cons x l ih =>
    have h1 := ordB_len (h x (by simp))
    have h2 := ih (fun y hy => h y (by simp [hy]))
    simp only [ordsB, List.map_cons, List.flatten_cons, List.length_append, List.length_cons] at h2 ⊢
    omega
theorem keepX {S : Nat → Prop} {W w' : World} (ht : Touch (fun k => ¬ S k) W w') {X : Nat} (hg : S X) {x y z u : Value} (h : W.cell? ⟨X, 0, none⟩ = some x ∧ W.cell? ⟨X, 1, none⟩ = some y ∧ W.cell? ⟨X, 2, none⟩ = some z ∧ W.cell? ⟨X, 3, none⟩ = some u) :
    w'.cell? ⟨X, 0, none⟩ = some x ∧ w'.cell? ⟨X, 1, none⟩ = some y ∧ w'.cell? ⟨X, 2, none⟩ = some z ∧ w'.cell? ⟨X, 3, none⟩ = some u :=
  ⟨keep_cell ht hg h.1, keep_cell ht hg h.2.1, keep_cell ht hg h.2.2.1, keep_cell ht hg h.2.2.2⟩
theorem keepXa {W : World} {X : Nat} {x y z u : Value} (o : Obj) (h : W.cell? ⟨X, 0, none⟩ = some x ∧ W.cell? ⟨X, 1, none⟩ = some y ∧ W.cell? ⟨X, 2, none⟩ = some z ∧ W.cell? ⟨X, 3, none⟩ = some u) :
    (W.alloc o).cell? ⟨X, 0, none⟩ = some x ∧ (W.alloc o).cell? ⟨X, 1, none⟩ = some y ∧ (W.alloc o).cell? ⟨X, 2, none⟩ = some z ∧ (W.alloc o).cell? ⟨X, 3, none⟩ = some u :=
  ⟨alloc_cell h.1 o, alloc_cell h.2.1 o, alloc_cell h.2.2.1 o, alloc_cell h.2.2.2 o⟩
theorem keepXd {W : World} {X : Nat} {x y z u : Value} (o : Obj) (h : W.drew.cell? ⟨X, 0, none⟩ = some x ∧ W.drew.cell? ⟨X, 1, none⟩ = some y ∧ W.drew.cell? ⟨X, 2, none⟩ = some z ∧ W.drew.cell? ⟨X, 3, none⟩ = some u) :
    (W.alloc o).drew.cell? ⟨X, 0, none⟩ = some x ∧ (W.alloc o).drew.cell? ⟨X, 1, none⟩ = some y ∧ (W.alloc o).drew.cell? ⟨X, 2, none⟩ = some z ∧ (W.alloc o).drew.cell? ⟨X, 3, none⟩ = some u := keepXa (W := W) o h
theorem touchKK {K : Nat → Prop} {wp W w' : World} (hb : Below wp.heap.size wp W) (h : Touch (fun k => ¬ KK K wp W k) W w') : Touch (fun k => ¬ K k) wp w' :=
  (touch_of_below hb).trans (h.mono fun k _ h1 h2 => h1 (.inl h2))
end Go.Proofs.Ytfkhfincggligaa
namespace Go.Proofs.Ytfkhfincggligaa
open Go.RowKit
set_option linter.unusedVariables false

theorem OrdRow.lt {w : World} {a : Option Addr} {l : List Ord} (h : OrdRow w a l) (h0 : 0 < l.length) : ∀ x, a = some x → x.block < w.heap.size := by
  obtain ⟨b, off, e, hb, -⟩ := h.at h0
  intro x hx
  rw [e] at hx
  cases hx
  exact hb
theorem ordB_parts (o : Ord) : ordB o = numB o.kind.toNat ++ numB o.unit.toNat ++ numB (zig o.a) ++ numB (zig o.b) := by
  simp [ordB, countsB, numsB, intsB, List.append_assoc]
theorem keepR {W w' : World} (hb : Below W.heap.size W w') {X : Nat} {x y z u : Value} (h : W.cell? ⟨X, 0, none⟩ = some x ∧ W.cell? ⟨X, 1, none⟩ = some y ∧ W.cell? ⟨X, 2, none⟩ = some z ∧ W.cell? ⟨X, 3, none⟩ = some u) :
    w'.cell? ⟨X, 0, none⟩ = some x ∧ w'.cell? ⟨X, 1, none⟩ = some y ∧ w'.cell? ⟨X, 2, none⟩ = some z ∧ w'.cell? ⟨X, 3, none⟩ = some u := by
  have hX := block_lt_of_cell h.1
  exact ⟨(hb.cell (p := ⟨X, 0, none⟩) hX).trans h.1, (hb.cell (p := ⟨X, 1, none⟩) hX).trans h.2.1, (hb.cell (p := ⟨X, 2, none⟩) hX).trans h.2.2.1, (hb.cell (p := ⟨X, 3, none⟩) hX).trans h.2.2.2⟩
end Go.Proofs.Ytfkhfincggligaa
namespace Go.Proofs.Ytfkhfincggligaa
set_option linter.unusedVariables false

/-- Nothing is taken; an error, if there is one to tell. -/
theorem Codec.fail {α : Type} (a : α) (x : Nat) : Codec (fun st => (failS st x, a)) (fun _ => []) (fun y => y = a ∧ x = 0) where
  back y r h := by obtain ⟨rfl, rfl⟩ := h; simp [failS]
  cut y p h hp hne := absurd (List.prefix_nil.1 hp) hne
  stick e he := by show failS ([], e) x = _; unfold failS; rw [if_neg (fun h => he h.1)]
  spell l h := by
    have h' : (failS (l, 0) x).2 = 0 := h
    show l = [] ++ (failS (l, 0) x).1
    unfold failS at h' ⊢
    split at h'
    · rename_i hc; exact absurd h' hc.2
    · rename_i hc; rw [if_neg hc]; rfl
  nil l h := by
    have h' : (failS (l, 0) x).2 ≠ 0 := h
    show (failS (l, 0) x).1 = []
    unfold failS at h' ⊢
    split at h'
    · rename_i hc; rw [if_pos hc]
    · exact absurd rfl h'
def OrdDom (o : Ord) : Prop := checkN o = 0
theorem okN_zero {q : Bool} (h : okN q = 0) : q = true := by
  cases q
  · simp [okN] at h
  · rfl
theorem numQ_is {n : Int} (h : numQ n = true) : 1 ≤ n ∧ n < 1099511627776 := by simpa [numQ] using h
theorem placeQ_is {n : Int} (h : placeQ n = true) : -1000 ≤ n ∧ n ≤ 1000 := by simpa [placeQ] using h
theorem kindQ_is {n : Int} (h : kindQ n = true) : 0 ≤ n ∧ n ≤ 255 := by simpa [kindQ] using h
theorem ordDom_in {o : Ord} (h : OrdDom o) : OrdIn o := by
  obtain ⟨k, u, a, b⟩ := o
  unfold OrdDom checkN at h
  unfold OrdIn B64
  simp only at h ⊢
  by_cases h1 : k = 1
  · rw [if_pos h1] at h
    have := okN_zero h
    simp only [Bool.and_eq_true] at this
    have p := numQ_is this.1; have q := placeQ_is this.2.1; have r := placeQ_is this.2.2
    omega
  rw [if_neg h1] at h
  by_cases h2 : k = 2
  · rw [if_pos h2] at h
    have := okN_zero h
    simp only [Bool.and_eq_true, decide_eq_true_eq] at this
    have p := numQ_is this.1; have q := numQ_is this.2.1; have r := this.2.2
    omega
  rw [if_neg h2] at h
  by_cases h3 : k = 3
  · rw [if_pos h3] at h
    have := okN_zero h
    simp only [Bool.and_eq_true, decide_eq_true_eq] at this
    have p := this.1; have q := kindQ_is this.2.1; have r := placeQ_is this.2.2
    omega
  rw [if_neg h3] at h
  by_cases h4 : k = 4
  · rw [if_pos h4] at h
    have := okN_zero h
    simp only [Bool.and_eq_true, decide_eq_true_eq] at this
    have p := numQ_is this.1; have q := this.2.1; have r := this.2.2
    omega
  rw [if_neg h4] at h
  omega
def ordG3 (k u a b : Int) (st : St) : St × Ord := (failS st (checkN ⟨k, u, a, b⟩), ⟨k, u, a, b⟩)
def ordG2 (k u a : Int) (st : St) : St × Ord := ordG3 k u a (unzig (numS st).2) (numS st).1
def ordG1 (k u : Int) (st : St) : St × Ord := ordG2 k u (unzig (numS st).2) (numS st).1
def ordG0 (k : Int) (st : St) : St × Ord := ordG1 k ((countS st 1099511627776).2 : Nat) (countS st 1099511627776).1
theorem ordG3C (k u a b : Int) : Codec (ordG3 k u a b) (fun _ => []) (fun o => o = ⟨k, u, a, b⟩ ∧ checkN ⟨k, u, a, b⟩ = 0) := Codec.fail _ _
theorem ordG2C (k u a : Int) : Codec (ordG2 k u a) (fun o => numB (zig o.b)) (fun o => o.kind = k ∧ o.unit = u ∧ o.a = a ∧ OrdDom o) := by
  have h : Codec (ordG2 k u a) (fun o : Ord => numB (zig o.b) ++ []) (fun o => (-9223372036854775808 ≤ o.b ∧ o.b ≤ 9223372036854775807) ∧ (o = ⟨k, u, a, o.b⟩ ∧ checkN ⟨k, u, a, o.b⟩ = 0)) := Codec.bind intC (ordG3C k u a) (fun o => o.b) (fun b st => rfl)
  simp only [List.append_nil] at h
  have hd : ∀ o : Ord, (o.kind = k ∧ o.unit = u ∧ o.a = a ∧ OrdDom o) → (-9223372036854775808 ≤ o.b ∧ o.b ≤ 9223372036854775807) ∧ (o = ⟨k, u, a, o.b⟩ ∧ checkN ⟨k, u, a, o.b⟩ = 0) := by
    intro o ho
    have hi := ordDom_in ho.2.2.2
    obtain ⟨k', u', a', b'⟩ := o
    obtain ⟨rfl, rfl, rfl, hdom⟩ := ho
    exact ⟨hi.2.2.2.2.2, rfl, hdom⟩
  exact ⟨fun x r hx => h.back x r (hd x hx), fun x p hx => h.cut x p (hd x hx), h.stick, h.spell, h.nil⟩
theorem ordG1C (k u : Int) : Codec (ordG1 k u) (fun o => numB (zig o.a) ++ numB (zig o.b)) (fun o => o.kind = k ∧ o.unit = u ∧ OrdDom o) := by
  have h : Codec (ordG1 k u) (fun o : Ord => numB (zig o.a) ++ numB (zig o.b)) (fun o => (-9223372036854775808 ≤ o.a ∧ o.a ≤ 9223372036854775807) ∧ (o.kind = k ∧ o.unit = u ∧ o.a = o.a ∧ OrdDom o)) := Codec.bind intC (ordG2C k u) (fun o => o.a) (fun a st => rfl)
  have hd : ∀ o : Ord, (o.kind = k ∧ o.unit = u ∧ OrdDom o) → (-9223372036854775808 ≤ o.a ∧ o.a ≤ 9223372036854775807) ∧ (o.kind = k ∧ o.unit = u ∧ o.a = o.a ∧ OrdDom o) := fun o ho => ⟨(ordDom_in ho.2.2).2.2.2.2.1, ho.1, ho.2.1, rfl, ho.2.2⟩
  exact ⟨fun x r hx => h.back x r (hd x hx), fun x p hx => h.cut x p (hd x hx), h.stick, h.spell, h.nil⟩
theorem ordG0C (k : Int) : Codec (ordG0 k) (fun o => numB o.unit.toNat ++ (numB (zig o.a) ++ numB (zig o.b))) (fun o => o.kind = k ∧ OrdDom o) := by
  have h : Codec (ordG0 k) (fun o : Ord => numB o.unit.toNat ++ (numB (zig o.a) ++ numB (zig o.b))) (fun o => o.unit.toNat ≤ 1099511627776 ∧ (o.kind = k ∧ o.unit = (o.unit.toNat : Int) ∧ OrdDom o)) := Codec.bind (countC 1099511627776 (by decide)) (fun u => ordG1C k (u : Int)) (fun o => o.unit.toNat) (fun a st => rfl)
  have hd : ∀ o : Ord, (o.kind = k ∧ OrdDom o) → o.unit.toNat ≤ 1099511627776 ∧ (o.kind = k ∧ o.unit = (o.unit.toNat : Int) ∧ OrdDom o) := fun o ho => by
    have hi := ordDom_in ho.2
    have h3 := hi.2.2.1
    have h4 := hi.2.2.2.1
    exact ⟨by omega, ho.1, by omega, ho.2⟩
  exact ⟨fun x r hx => h.back x r (hd x hx), fun x p hx => h.cut x p (hd x hx), h.stick, h.spell, h.nil⟩
theorem orderC : Codec orderS ordB OrdDom := by
  have h : Codec orderS (fun o : Ord => numB o.kind.toNat ++ (numB o.unit.toNat ++ (numB (zig o.a) ++ numB (zig o.b)))) (fun o => o.kind.toNat ≤ 4 ∧ (o.kind = (o.kind.toNat : Int) ∧ OrdDom o)) := Codec.bind (countC 4 (by decide)) (fun k => ordG0C (k : Int)) (fun o => o.kind.toNat) (fun a st => rfl)
  have e2 : (fun o : Ord => numB o.kind.toNat ++ (numB o.unit.toNat ++ (numB (zig o.a) ++ numB (zig o.b)))) = ordB := by
    funext o; rw [ordB_parts]; simp only [List.append_assoc]
  rw [e2] at h
  have hd : ∀ o : Ord, OrdDom o → o.kind.toNat ≤ 4 ∧ (o.kind = (o.kind.toNat : Int) ∧ OrdDom o) := fun o ho => by
    have hi := ordDom_in ho
    have h1 := hi.1
    have h2 := hi.2.1
    exact ⟨by omega, by omega, ho⟩
  exact ⟨fun x r hx => h.back x r (hd x hx), fun x p hx => h.cut x p (hd x hx), h.stick, h.spell, h.nil⟩
def BatchDom (l : List Ord) : Prop := l.length ≤ 8 ∧ ∀ o ∈ l, OrdDom o
theorem batchC : Codec batchS batchB BatchDom := by
  have h : Codec batchS (fun m : List Ord => numB m.length ++ (m.map ordB).flatten) (fun m => m.length ≤ 8 ∧ (m.length = m.length ∧ ∀ f ∈ m, OrdDom f)) := Codec.bind (countC 8 (by decide)) (fun n => orderC.run n) (fun m => m.length) (fun n st => runS_len orderS n st)
  have e2 : (fun m : List Ord => numB m.length ++ (m.map ordB).flatten) = batchB := by
    funext m; unfold batchB; simp [countsB, numsB, ordsB]
  rw [e2] at h
  exact ⟨fun x r hx => h.back x r ⟨hx.1, rfl, hx.2⟩, fun x p hx => h.cut x p ⟨hx.1, rfl, hx.2⟩, h.stick, h.spell, h.nil⟩
theorem firstN_dom {l : List Ord} (h : firstN l = 0) : ∀ o ∈ l, OrdDom o := by
  induction l with
  | nil => intro o ho; simp at ho
  | cons x l ih =>
    unfold firstN at h
    split at h
    · rename_i hx; exact absurd h hx
    · rename_i hx
      intro o ho
      rcases List.mem_cons.1 ho with rfl | ho
      · exact Classical.not_not.1 hx
      · exact ih h o ho
theorem batchN_dom {l : List Ord} (h : batchN l = 0) : BatchDom l := by
  unfold batchN at h
  split at h
  · omega
  · rename_i hl
    exact ⟨by omega, firstN_dom h⟩
theorem batchN_of {l : List Ord} (h : BatchDom l) : batchN l = 0 := by
  unfold batchN
  rw [if_neg (by have := h.1; omega)]
  have h2 := h.2
  clear h
  induction l with
  | nil => rfl
  | cons x l ih =>
    unfold firstN
    rw [if_neg (by have := h2 x (by simp); simpa [OrdDom] using this)]
    exact ih (fun o ho => h2 o (by simp [ho]))
/-- A batch of bytes, the error. -/
def parseO (l : List UInt8) : List Ord × Nat := if (endS (batchS (l, 0)).1).2 ≠ 0 then ([], (endS (batchS (l, 0)).1).2) else ((batchS (l, 0)).2, 0)
theorem parseO_back (m : List Ord) (h : BatchDom m) : parseO (batchB m) = (m, 0) := by
  have := batchC.back m [] h
  rw [List.append_nil] at this
  unfold parseO
  rw [this]
  rfl
theorem parseO_more (m : List Ord) (h : BatchDom m) (b : UInt8) (r : List UInt8) : parseO (batchB m ++ b :: r) = ([], 2) := by
  unfold parseO
  rw [batchC.back m (b :: r) h]
  simp [endS, failS]
theorem parseO_cut (m : List Ord) (h : BatchDom m) (p : List UInt8) (hp : p <+: batchB m) (hne : p ≠ batchB m) : parseO p = ([], 1) := by
  unfold parseO
  rw [batchC.cut m p h hp hne]
  simp [endS]
theorem parseO_err (l : List UInt8) (h : (endS (batchS (l, 0)).1).2 = 0) : (batchS (l, 0)).1.2 = 0 := by
  unfold endS at h
  split at h
  · unfold failS at h
    split at h
    · simp at h
    · exact h
  · exact h
theorem batchB_pos (m : List Ord) : 0 < (batchB m).length := by
  unfold batchB
  have : 0 < (countsB [(m.length : Int)]).length := by
    simp only [countsB, numsB, List.map_cons, List.map_nil, List.flatten_cons, List.flatten_nil, List.append_nil]
    by_cases h : ((m.length : Int).toNat) < 128
    · rw [numB_lt h]; simp
    · rw [numB_ge (by omega)]; simp
  rw [List.length_append]; omega
end Go.Proofs.Ytfkhfincggligaa
namespace Go.Proofs.Ytfkhfincggligaa
open Go.RowKit
set_option linter.unusedVariables false

/-- What Parse answers. -/
def OParsePost (w : World) (t : List Ord × Nat) (r : Ending) (w' : World) : Prop :=
  ∃ a c, r = .returned (.tuple #[.slice a t.1.length c, .int .i64 (t.2 : Nat)]) ∧ OrdRow w' a t.1 ∧ Below w.heap.size w w'
theorem awakeB : batchB [⟨1, 1, 2, -1⟩] = [1, 1, 1, 4, 1] := by decide +kernel
theorem awakeD : BatchDom [⟨1, 1, 2, -1⟩] := ⟨by decide, by intro o ho; simp at ho; subst ho; rfl⟩
theorem awakeP : parseO [1, 1, 1, 4, 1] = ([⟨1, 1, 2, -1⟩], 0) := by rw [← awakeB]; exact parseO_back _ awakeD
theorem awakeL : (bs [1, 1, 1, 4, 1]).toList = [1, 1, 1, 4, 1] := by simp [bs]
theorem keep8 {W w' : World} (hb : Below W.heap.size W w') {X Y o p : Nat} {x y z u x' y' z' u' : Value} (h : (W.cell? ⟨X, o, none⟩ = some x ∧ W.cell? ⟨X, o + 1, none⟩ = some y ∧ W.cell? ⟨X, o + 2, none⟩ = some z ∧ W.cell? ⟨X, o + 3, none⟩ = some u) ∧ (W.cell? ⟨Y, p, none⟩ = some x' ∧ W.cell? ⟨Y, p + 1, none⟩ = some y' ∧ W.cell? ⟨Y, p + 2, none⟩ = some z' ∧ W.cell? ⟨Y, p + 3, none⟩ = some u')) :
    (w'.cell? ⟨X, o, none⟩ = some x ∧ w'.cell? ⟨X, o + 1, none⟩ = some y ∧ w'.cell? ⟨X, o + 2, none⟩ = some z ∧ w'.cell? ⟨X, o + 3, none⟩ = some u) ∧ (w'.cell? ⟨Y, p, none⟩ = some x' ∧ w'.cell? ⟨Y, p + 1, none⟩ = some y' ∧ w'.cell? ⟨Y, p + 2, none⟩ = some z' ∧ w'.cell? ⟨Y, p + 3, none⟩ = some u') := by
  have hX := block_lt_of_cell h.1.1
  have hY := block_lt_of_cell h.2.1
  exact ⟨⟨(hb.cell (p := ⟨X, o, none⟩) hX).trans h.1.1, (hb.cell (p := ⟨X, o + 1, none⟩) hX).trans h.1.2.1, (hb.cell (p := ⟨X, o + 2, none⟩) hX).trans h.1.2.2.1, (hb.cell (p := ⟨X, o + 3, none⟩) hX).trans h.1.2.2.2⟩,
    ⟨(hb.cell (p := ⟨Y, p, none⟩) hY).trans h.2.1, (hb.cell (p := ⟨Y, p + 1, none⟩) hY).trans h.2.2.1, (hb.cell (p := ⟨Y, p + 2, none⟩) hY).trans h.2.2.2.1, (hb.cell (p := ⟨Y, p + 3, none⟩) hY).trans h.2.2.2.2⟩⟩
end Go.Proofs.Ytfkhfincggligaa
namespace Go.Proofs.Ytfkhfincggligaa
open Go.RowKit Go.WideShapes Go.ChangeShapes
set_option linter.unusedVariables false

def RecArg (k : Nat) (w : World) (a : Option Addr) (len cap : Nat) (ls : List (List Int)) : Prop :=
  len = ls.length ∧ len ≤ cap ∧ cap ≤ maxLen ∧ Wide k ls ∧ RecRow k w a ls ∧ (a = none → ls = []) ∧ ∀ r ∈ ls, ∀ y ∈ r, B64 y
theorem RecArg.below {k : Nat} (hk : 0 < k) {w w' : World} {a : Option Addr} {len cap : Nat} {ls : List (List Int)} (h : RecArg k w a len cap ls) (hb : Below w.heap.size w w') : RecArg k w' a len cap ls :=
  ⟨h.1, h.2.1, h.2.2.1, h.2.2.2.1, h.2.2.2.2.1.below hk hb, h.2.2.2.2.2⟩
theorem list_4 {α : Type} {l : List α} (h : l.length = 4) : ∃ a b c d, l = [a, b, c, d] := by
  match l, h with
  | [a, b, c, d], _ => exact ⟨a, b, c, d, rfl⟩
theorem list_6 {α : Type} {l : List α} (h : l.length = 6) : ∃ a b c d e f, l = [a, b, c, d, e, f] := by
  match l, h with
  | [a, b, c, d, e, f], _ => exact ⟨a, b, c, d, e, f, rfl⟩
theorem list_7 {α : Type} {l : List α} (h : l.length = 7) : ∃ a b c d e f g, l = [a, b, c, d, e, f, g] := by
  match l, h with
  | [a, b, c, d, e, f, g], _ => exact ⟨a, b, c, d, e, f, g, rfl⟩
theorem recArg_of (k : Nat) (hk : 0 < k) {w : World} {ad : Addr} {len cap : Nat} (hl : len ≤ cap) (hm : cap ≤ maxLen)
    (each : ∀ i, i < len → ∃ r : List Int, r.length = k ∧ (∀ j, j < k → w.cell? (ad.add (i * k + j)) = some (.int .i64 (r.getD j 0))) ∧ ∀ y ∈ r, B64 y) : ∃ ls, RecArg k w (some ad) len cap ls := by
  let F : Nat → List Int := fun i => if hi : i < len then (each i hi).choose else []
  have hF : ∀ i, i < len → (F i).length = k ∧ (∀ j, j < k → w.cell? (ad.add (i * k + j)) = some (.int .i64 ((F i).getD j 0))) ∧ ∀ y ∈ F i, B64 y := by
    intro i hi
    have := (each i hi).choose_spec
    simp only [F, hi, dif_pos]
    exact this
  clear_value F
  refine ⟨(List.range len).map F, by simp, hl, hm, fun x hx => ?_, fun h0 => ?_, fun h => (by cases h), fun x hx => ?_⟩
  · simp only [List.mem_map, List.mem_range] at hx
    obtain ⟨i, hi, rfl⟩ := hx
    exact (hF i hi).1
  · obtain ⟨b, off, spot⟩ := ad
    have hlen : 0 < len := by simpa using h0
    have h00 := (hF 0 hlen).2.1 0 hk
    have hspot : spot = none := by simpa [Addr.add] using World.cell?_spot h00
    subst hspot
    refine ⟨b, off, rfl, fun i hi j hj => ?_⟩
    have hil : i < len := by simpa using hi
    simp only [List.getElem_map, List.getElem_range]
    rw [Nat.add_assoc]
    exact cell_addR ((hF i hil).2.1 j hj)
  · simp only [List.mem_map, List.mem_range] at hx
    obtain ⟨i, hi, rfl⟩ := hx
    exact (hF i hi).2.2
end Go.Proofs.Ytfkhfincggligaa
namespace Go.Proofs.Ytfkhfincggligaa
open Go.RowKit
set_option linter.unusedVariables false

theorem andM (a : Int) (m : Nat) (mi : Int) (hm : mi = (m : Int)) (h : m ≤ 9223372036854775807) : ∃ k : Nat, k ≤ m ∧ bits .and .i64 a mi = (k : Int) := by
  subst hm
  have e : (BitVec.ofInt 64 (m : Int)).toNat = m := by simp; omega
  have hle : (BitVec.ofInt 64 a &&& BitVec.ofInt 64 (m : Int)).toNat ≤ m := by
    rw [BitVec.toNat_and, e]; exact Nat.and_le_right
  refine ⟨(BitVec.ofInt 64 a &&& BitVec.ofInt 64 (m : Int)).toNat, hle, ?_⟩
  show IntKind.i64.wrap ((BitVec.ofInt 64 a &&& BitVec.ofInt 64 (m : Int)).toNat : Int) = _
  rw [IntKind.wrap_i64]
  omega
/-- Records as orders. -/
def toOrd (r : List Int) : Ord := ⟨r.getD 0 0, r.getD 1 0, r.getD 2 0, r.getD 3 0⟩
theorem toOrd_ints (r : List Int) (h : r.length = 4) : (toOrd r).ints = r := by
  obtain ⟨a, b, c, d, rfl⟩ := list_4 h
  rfl
theorem toOrds {ls : List (List Int)} (h : Wide 4 ls) : ordsI (ls.map toOrd) = ls := by
  unfold ordsI
  rw [List.map_map]
  have : ∀ x ∈ ls, (Ord.ints ∘ toOrd) x = x := fun x hx => toOrd_ints x (h x hx)
  conv => rhs; rw [← List.map_id ls]
  exact List.map_congr_left this
def OrdArg (w : World) (a : Option Addr) (len cap : Nat) (l : List Ord) : Prop :=
  len = l.length ∧ len ≤ cap ∧ cap ≤ maxLen ∧ OrdRow w a l ∧ (a = none → l = []) ∧ ∀ o ∈ l, OrdOk o
theorem RecArg.ords {w : World} {a : Option Addr} {len cap : Nat} {ls : List (List Int)} (h : RecArg 4 w a len cap ls) : OrdArg w a len cap (ls.map toOrd) := by
  obtain ⟨h1, h2, h3, h4, h5, h6, h7⟩ := h
  refine ⟨by rw [h1]; simp, h2, h3, by unfold OrdRow; rw [toOrds h4]; exact h5, fun e => by rw [h6 e]; rfl, fun o ho => ?_⟩
  simp only [List.mem_map] at ho
  obtain ⟨r, hr, rfl⟩ := ho
  obtain ⟨a, b, c, d, rfl⟩ := list_4 (h4 r hr)
  have := h7 _ hr
  exact ⟨this a (by simp), this b (by simp), this c (by simp), this d (by simp)⟩
theorem OrdArg.below {w w' : World} {a : Option Addr} {len cap : Nat} {l : List Ord} (h : OrdArg w a len cap l) (hb : Below w.heap.size w w') : OrdArg w' a len cap l := ⟨h.1, h.2.1, h.2.2.1, h.2.2.2.1.below hb, h.2.2.2.2⟩
theorem dom_move (u a b : Nat) (hu : u ≤ 63) (ha : a ≤ 127) (hb : b ≤ 127) : OrdDom ⟨1, 1 + u, 1 + a, b⟩ := by
  have h1 : numQ (1 + u) = true := by simp [numQ]; omega
  have h2 : placeQ (1 + a) = true := by simp [placeQ]; omega
  have h3 : placeQ b = true := by simp [placeQ]; omega
  simp [OrdDom, checkN, h1, h2, h3, okN]
theorem dom_hit (u a : Nat) (hu : u ≤ 63) (ha : a ≤ 127) : OrdDom ⟨2, 1 + u, 1 + a, 0⟩ := by
  have h1 : numQ (1 + u) = true := by simp [numQ]; omega
  have h2 : numQ (1 + a) = true := by simp [numQ]; omega
  simp [OrdDom, checkN, h1, h2, okN]
theorem dom_build (a b : Nat) (ha : a ≤ 127) (hb : b ≤ 127) : OrdDom ⟨3, 0, 1 + a, b⟩ := by
  have h2 : kindQ (1 + a) = true := by simp [kindQ]; omega
  have h3 : placeQ b = true := by simp [placeQ]; omega
  simp [OrdDom, checkN, h2, h3, okN]
theorem dom_halt (u : Nat) (hu : u ≤ 63) : OrdDom ⟨4, 1 + u, 0, 0⟩ := by
  have h1 : numQ (1 + u) = true := by simp [numQ]; omega
  simp [OrdDom, checkN, h1, okN]
end Go.Proofs.Ytfkhfincggligaa
namespace Go.Proofs.Ytfkhfincggligaa
open Go.RowKit
set_option linter.unusedVariables false

/-- What was sent at b1, what came at b2. -/
structure Ak1 (w : World) (b1 b2 n : Nat) (a : Option Addr) (c : Nat) (l : List (Nat × List UInt8)) (mo : Option Nat) (s : Ws) (wr : World) : Prop where
  o : OAt wr b1 n a c l
  i : WI wr b2 mo s
  bel : Below w.heap.size w wr
  d12 : b1 ≠ b2
  h1 : w.heap.size ≤ b1
  h2 : w.heap.size ≤ b2
  ha : ∀ x, a = some x → w.heap.size ≤ x.block ∧ x.block ≠ b2
  hm : ∀ k, mo = some k → w.heap.size ≤ k ∧ k ≠ b1
  ham : ∀ x k, a = some x → mo = some k → x.block ≠ k
theorem Ak1.keep {w : World} {b1 b2 n : Nat} {a : Option Addr} {c : Nat} {l : List (Nat × List UInt8)} {mo : Option Nat} {s : Ws} {wr w' : World} (h : Ak1 w b1 b2 n a c l mo s wr) (hb : Below wr.heap.size wr w') : Ak1 w b1 b2 n a c l mo s w' :=
  ⟨h.o.keep hb, h.i.keep hb, h.bel.trans (hb.mono h.bel.size), h.d12, h.h1, h.h2, h.ha, h.hm, h.ham⟩
theorem WI.mlt {w : World} {b : Nat} {mo : Option Nat} {s : Ws} (h : WI w b mo s) (k : Nat) (hk : mo = some k) : k < w.heap.size := by
  rcases h with ⟨h1, -⟩ | ⟨r, h1, h2⟩
  · rw [h1] at hk; cases hk
  · rw [h1] at hk; cases hk; exact h2.mp.lt
theorem Ak1.push {w : World} {b1 b2 n n' : Nat} {a a' : Option Addr} {c c' : Nat} {l l' : List (Nat × List UInt8)} {mo : Option Nat} {s : Ws} {wr w' : World} (h : Ak1 w b1 b2 n a c l mo s wr) (hO : OAt w' b1 n' a' c' l') (hf : ∀ x, a' = some x → a.map (·.block) = some x.block ∨ wr.heap.size ≤ x.block) (ht : Touch (fun j => j = b1 ∨ a.map (·.block) = some j) wr w') : Ak1 w b1 b2 n' a' c' l' mo s w' := by
  have hs := h.bel.size
  have hb2 := h.i.lt
  refine ⟨hO, h.i.touch ht ?_ (fun k hk => ?_), h.bel.trans (ht.below hs fun k hk e => ?_), h.d12, h.h1, h.h2, fun x hx => ?_, h.hm, fun x k hx hk => ?_⟩
  · rintro (e | e)
    · exact h.d12 e.symm
    · exact map_none (P := fun j => j ≠ b2) (fun y hy => (h.ha y hy).2) _ e rfl
  · rintro (e | e)
    · exact (h.hm k hk).2 e
    · exact map_none (P := fun j => j ≠ k) (fun y hy => h.ham y k hy hk) _ e rfl
  · rcases e with e | e
    · have := h.h1; omega
    · have := map_none (P := fun j => w.heap.size ≤ j) (fun y hy => (h.ha y hy).1) _ e; omega
  · rcases hf x hx with e | e
    · exact map_none (P := fun j => w.heap.size ≤ j ∧ j ≠ b2) h.ha _ e
    · exact ⟨by omega, by omega⟩
  · rcases hf x hx with e | e
    · exact map_none (P := fun j => j ≠ k) (fun y hy => h.ham y k hy hk) _ e
    · have := h.i.mlt k hk; omega
/-- And how often each came, at r. -/
structure Ak (w : World) (b1 b2 r n : Nat) (a : Option Addr) (c : Nat) (l : List (Nat × List UInt8)) (mo : Option Nat) (s : Ws) (L : List (Nat × Value)) (wr : World) : Prop where
  k1 : Ak1 w b1 b2 n a c l mo s wr
  g : MpAt .u32 wr r L
  hr : w.heap.size ≤ r
  r1 : r ≠ b1
  r2 : r ≠ b2
  ra : ∀ x, a = some x → x.block ≠ r
  rm : ∀ k, mo = some k → k ≠ r
theorem Ak.keep {w : World} {b1 b2 r n : Nat} {a : Option Addr} {c : Nat} {l : List (Nat × List UInt8)} {mo : Option Nat} {s : Ws} {L : List (Nat × Value)} {wr w' : World} (h : Ak w b1 b2 r n a c l mo s L wr) (hb : Below wr.heap.size wr w') : Ak w b1 b2 r n a c l mo s L w' :=
  ⟨h.k1.keep hb, h.g.touch (touch_of_below (S := fun _ => False) hb) id, h.hr, h.r1, h.r2, h.ra, h.rm⟩
theorem Ak1.made {w : World} {b1 b2 n : Nat} {a : Option Addr} {c : Nat} {l : List (Nat × List UInt8)} {mo : Option Nat} {s : Ws} {wr : World} (h : Ak1 w b1 b2 n a c l mo s wr) : Ak w b1 b2 wr.heap.size n a c l mo s [] (wr.alloc (.map #[] 0)) := by
  have hs := h.bel.size
  have hb1 := h.o.lt
  have hb2 := h.i.lt
  exact ⟨h.keep (bel_alloc (Below.refl _ _) _), MpAt.made .u32 wr, hs, by omega, by omega, fun x hx e => by have := h.o.row.lt x hx; omega, fun k hk e => by have := h.i.mlt k hk; omega⟩
theorem Ak.put {w : World} {b1 b2 r n : Nat} {a : Option Addr} {c : Nat} {l : List (Nat × List UInt8)} {mo mo' : Option Nat} {s s' : Ws} {L : List (Nat × Value)} {wr w' : World} (h : Ak w b1 b2 r n a c l mo s L wr) (hw : WI w' b2 mo' s') (hf : ∀ k, mo' = some k → mo = some k ∨ wr.heap.size ≤ k) (ht : Touch (fun k => k = b2 ∨ mo = some k) wr w') : Ak w b1 b2 r n a c l mo' s' L w' := by
  have hs := h.k1.bel.size
  have hb1 := h.k1.o.lt
  have hrl := h.g.lt
  refine ⟨⟨h.k1.o.touch ht ?_ (fun x hx => ?_), hw, h.k1.bel.trans (ht.below hs fun k hk e => ?_), h.k1.d12, h.k1.h1, h.k1.h2, h.k1.ha, fun k hk => ?_, fun x k hx hk => ?_⟩, h.g.touch ht ?_, h.hr, h.r1, h.r2, h.ra, fun k hk => ?_⟩
  · rintro (e | e)
    · exact h.k1.d12 e
    · exact (h.k1.hm _ e).2 rfl
  · rintro (e | e)
    · exact (h.k1.ha x hx).2 e
    · exact h.k1.ham x _ hx e rfl
  · rcases e with e | e
    · have := h.k1.h2; omega
    · have := (h.k1.hm _ e).1; omega
  · rcases hf k hk with e | e
    · exact h.k1.hm k e
    · exact ⟨by omega, by omega⟩
  · rcases hf k hk with e | e
    · exact h.k1.ham x k hx e
    · have := h.k1.o.row.lt x hx; omega
  · rintro (e | e)
    · exact h.r2 e
    · exact h.rm _ e rfl
  · rcases hf k hk with e | e
    · exact h.rm k e
    · omega
theorem Ak.upd {w : World} {b1 b2 r n : Nat} {a : Option Addr} {c : Nat} {l : List (Nat × List UInt8)} {mo : Option Nat} {s : Ws} {L L' : List (Nat × Value)} {wr w' : World} (h : Ak w b1 b2 r n a c l mo s L wr) (hg : MpAt .u32 w' r L') (ht : Touch (fun k => k = r) wr w') : Ak w b1 b2 r n a c l mo s L' w' := by
  have hs := h.k1.bel.size
  exact ⟨⟨h.k1.o.touch ht (fun e => h.r1 e.symm) (fun x hx => h.ra x hx), h.k1.i.touch ht (fun e => h.r2 e.symm) (fun k hk => h.rm k hk), h.k1.bel.trans (ht.below hs fun k hk e => by have := h.hr; omega), h.k1.d12, h.k1.h1, h.k1.h2, h.k1.ha, h.k1.hm, h.k1.ham⟩, hg, h.hr, h.r1, h.r2, h.ra, h.rm⟩
theorem Ak.ack {w : World} {b1 b2 r n : Nat} {a a' : Option Addr} {c c' : Nat} {l l' : List (Nat × List UInt8)} {mo : Option Nat} {s : Ws} {L : List (Nat × Value)} {wr w' : World} (h : Ak w b1 b2 r n a c l mo s L wr) (hO : OAt w' b1 n a' c' l') (hf : ∀ x, a' = some x → wr.heap.size ≤ x.block) (ht : Touch (fun j => j = b1) wr w') : Ak w b1 b2 r n a' c' l' mo s L w' := by
  have hs := h.k1.bel.size
  have hb2 := h.k1.i.lt
  have hrl := h.g.lt
  refine ⟨⟨hO, h.k1.i.touch ht (fun e => h.k1.d12 e.symm) (fun k hk => (h.k1.hm k hk).2), h.k1.bel.trans (ht.below hs fun k hk e => by have := h.k1.h1; omega), h.k1.d12, h.k1.h1, h.k1.h2, fun x hx => ?_, h.k1.hm, fun x k hx hk => ?_⟩, h.g.touch ht h.r1, h.hr, h.r1, h.r2, fun x hx => ?_, h.rm⟩
  · have := hf x hx; exact ⟨by omega, by omega⟩
  · have := hf x hx; have := h.k1.i.mlt k hk; omega
  · have := hf x hx; omega
theorem wrap_add (a d : Nat) : IntKind.u32.wrap ((a : Int) + (d : Int)) = (numW a d : Nat) := by
  unfold numW
  rw [IntKind.wrap_u32]
  omega
theorem zero_int (w : World) : (zeroValue 3).run Try.prog w = .ok (.int .i64 0) w := by kernel_rfl
end Go.Proofs.Ytfkhfincggligaa
namespace Go.Proofs.Ytfkhfincggligaa
open Go.RowKit
set_option linter.unusedVariables false

theorem own_u32 {B : Nat} {a : Option Addr} {c : Nat} {ms : List Nat} {w : World} (h : OwnV 54 1 B a c (ms.map u32C) w) (h0 : 0 < ms.length) : ∃ gb, a = some ⟨gb, 0, none⟩ ∧ gb < w.heap.size ∧ ∀ i (hi : i < ms.length), w.cell? ⟨gb, i, none⟩ = some (.int .u32 (ms[i] : Int)) := by
  have hlen : (ms.map u32C).length = ms.length := by simp
  rcases h.1.2 with ⟨-, h00⟩ | ⟨g, cap, cur, hv, -, hg, hnc, -, hsz, htk⟩
  · omega
  · have hr := h.row (num_wide _) (by rw [hlen]; exact h0)
    obtain ⟨b, off, e1, hc⟩ := hr
    simp only [Value.slice.injEq] at hv
    rw [hv.1] at e1
    simp only [Option.some.injEq, Addr.mk.injEq] at e1
    obtain ⟨rfl, rfl, -⟩ := e1
    refine ⟨g, hv.1, (Array.getElem?_eq_some_iff.1 hg).1, fun i hi => ?_⟩
    have h1 := hc i (by rw [hlen]; exact hi) 0 (by decide)
    rw [Nat.zero_add, Nat.mul_one, Nat.add_zero] at h1
    rw [h1]
    simp [u32C]
/-- All that lies there behind the ack. -/
structure AkF (w : World) (b1 b2 r n : Nat) (a : Option Addr) (c : Nat) (l : List (Nat × List UInt8)) (mo : Option Nat) (s : Ws) (L : List (Nat × Value)) (X nx B : Nat) (wr : World) : Prop where
  ak : Ak w b1 b2 r n a c l mo s L wr
  x0 : wr.cell? ⟨X, 0, none⟩ = some (.int .u32 (nx : Int))
  x1 : wr.cell? ⟨X, 1, none⟩ = some (.int .u32 (B : Int))
theorem AkF.keep {w : World} {b1 b2 r n : Nat} {a : Option Addr} {c : Nat} {l : List (Nat × List UInt8)} {mo : Option Nat} {s : Ws} {L : List (Nat × Value)} {X nx B : Nat} {wr w' : World} (h : AkF w b1 b2 r n a c l mo s L X nx B wr) (hb : Below wr.heap.size wr w') : AkF w b1 b2 r n a c l mo s L X nx B w' :=
  ⟨h.ak.keep hb, (hb.cell (p := ⟨X, 0, none⟩) (block_lt_of_cell h.x0)).trans h.x0, (hb.cell (p := ⟨X, 1, none⟩) (block_lt_of_cell h.x1)).trans h.x1⟩
theorem AkF.ack {w : World} {b1 b2 r n : Nat} {a a' : Option Addr} {c c' : Nat} {l l' : List (Nat × List UInt8)} {mo : Option Nat} {s : Ws} {L : List (Nat × Value)} {X nx B : Nat} {wr w' : World} (h : AkF w b1 b2 r n a c l mo s L X nx B wr) (hX : X ≠ b1) (hO : OAt w' b1 n a' c' l') (hf : ∀ x, a' = some x → wr.heap.size ≤ x.block) (ht : Touch (fun j => j = b1) wr w') : AkF w b1 b2 r n a' c' l' mo s L X nx B w' :=
  ⟨h.ak.ack hO hf ht, (ht.cell (p := ⟨X, 0, none⟩) (block_lt_of_cell h.x0) hX).trans h.x0, (ht.cell (p := ⟨X, 1, none⟩) (block_lt_of_cell h.x1) hX).trans h.x1⟩
set_option maxRecDepth 100000 in
set_option maxHeartbeats 4000000 in
theorem windowAcks_walk (w : World) (first : Nat) (hfirst : first < 4294967296) (a0 : Option Addr) (cap : Nat) (ns : List Int) (hlm : ns.length ≤ 9223372036854775807) (hrow : IntRow .i64 w a0 ns) :
    Calls Try.prog 12 #[.int .u32 (first : Int), .slice a0 ns.length cap] w fun e w' => e = .returned (.bool true) ∧ Below w.heap.size w w' := by
  have HAW := Lib.hid (fun W => awake13_any W)
  have HBG := Lib.hid (fun W => begin_any first W)
  have HEX := Lib.hid (fun W => expect_any first hfirst W)
  have HROW := Lib.hid hrow
  have HN0 : Hid (numW first 0 = first) := Lib.hid (by unfold numW; omega)
  clear hrow
  go_enter Try.func12, Try.ntmps12
  go_wp2_with fail
  refine (HAW.out _).mono ?_
  rintro r w1 ⟨rfl, hb1⟩
  have HB1 := Lib.hid hb1
  clear hb1 HAW
  go_wp2_with fail
  refine (HBG.out _).mono ?_
  rintro r w2 ⟨rfl, ho, hb2⟩
  have HO2 := Lib.hid ho
  have HB2 := Lib.hid hb2
  clear ho hb2 HBG
  go_wp2_with fail
  refine (HEX.out _).mono ?_
  rintro r w3 ⟨rfl, hwi, hb3⟩
  have HA3 : Hid (Ak1 w w1.heap.size w2.heap.size (numW first 0) none 0 (itemsO first 0) none ⟨first, []⟩ w3) := Lib.hid (by
    have hs1 := HB1.out.size
    have hs2 := HB2.out.size
    have hol := HO2.out.lt
    rw [HN0.out]
    exact ⟨(HO2.out.oat hfirst).keep hb3, hwi, (HB1.out.trans (HB2.out.mono hs1)).trans (hb3.mono (by omega)), by omega, hs1, by omega, (fun x hx => by cases hx), (fun k hk => by cases hk), (fun x k hx => by cases hx)⟩)
  clear hwi hb3 HEX HO2 HB1 HB2 HN0
  generalize w1.heap.size = b1 at HA3 ⊢
  generalize w2.heap.size = b2 at HA3 ⊢
  go_wp2
  go_loopw [26] (fun iv wr => ∃ (k : Nat) (a : Option Addr) (c : Nat), k ≤ 32 ∧ iv = .int .i64 k ∧ Hid (Ak1 w b1 b2 (numW first k) a c (itemsO first k) none ⟨first, []⟩ wr)) (fun iv _ => 32 - (intOf iv).toNat)
  case atStart => exact ⟨0, none, 0, by omega, rfl, HA3⟩
  case round =>
    obtain ⟨k, a, c, hk, rfl, HA⟩ := hrel
    by_cases hlt : k < 32
    · have HPU := Lib.hid (push_ok b1 (numW first k) a c (itemsO first k) [120] wr HA.out.o (by rw [itemsO_len]; omega) (itemsO_lt _ _) (itemsO_head first k hlt))
      have hi1 : (k : Int) < 32 := by omega
      go_wp2_with fail
      refine HPU.out.mono ?_
      rintro r w4 ⟨rfl, a4, c4, hO4, hf4, ht4⟩
      have HA4 : Hid (Ak1 w b1 b2 (numW first (k + 1)) a4 c4 (itemsO first (k + 1)) none ⟨first, []⟩ w4) := Lib.hid (by
        have := HA.out.push hO4 hf4 ht4
        rw [numW_succ, ← itemsO_succ] at this
        exact this)
      clear hO4 hf4 ht4 HA HPU
      go_wp2
      go_roundw
      case rel => exact ⟨k + 1, a4, c4, by omega, by go_num, HA4⟩
      case measure => simp [intOf] <;> omega
    · obtain rfl : k = 32 := by omega
      obtain ⟨l', hl', hlen', hdist⟩ := itemsO_full first
      have HPF := Lib.hid (wpush_full b1 (numW first 32) a c (numW first 0, [120]) l' [121] wr (by rw [← hl']; exact HA.out.o) (by omega) (numW_lt _ _) hdist)
      clear hl' hlen' hdist
      go_wp2_with fail
      refine HPF.out.mono ?_
      rintro r w5 ⟨rfl, hb5⟩
      have HK5 := Lib.hid (HA.out.keep hb5).made
      clear hb5 HPF HA HA3
      have hmm := @run_makeMap Try.prog
      go_wp2
      generalize w5.alloc (.map #[] 0) = W5 at HK5 ⊢
      generalize w5.heap.size = r at HK5 ⊢
      clear hmm
      generalize hN : numW first 32 = N32 at HK5
      have HN := Lib.hid hN
      clear hN
      go_loopw [12] (fun iv wr => ∃ (k : Nat) (s : Ws) (G : Nat → Bool) (mo : Option Nat) (L : List (Nat × Value)), k ≤ 30 ∧ iv = .int .i64 k ∧ Hid (InA first G s ∧ s.l.length ≤ k ∧ GotL first G k L ∧ Ak w b1 b2 r N32 a c (itemsO first 32) mo s L wr)) (fun iv _ => 30 - (intOf iv).toNat)
      case atStart => exact ⟨0, ⟨first, []⟩, fun _ => false, none, [], by omega, rfl, Lib.hid ⟨⟨(fun d hd => by cases hd), 0, InG.start first hfirst xT⟩, by simp, GotL.none, HK5.out⟩⟩
      case round =>
        obtain ⟨k, s, G, mo, L, hk, rfl, HS⟩ := hrel
        by_cases hgo : k < ns.length ∧ k < 30
        · obtain ⟨hlt, h30⟩ := hgo
          obtain ⟨gb, off, rfl, hc⟩ := HROW.out (by omega)
          have c0 := hc k hlt
          have hgl : gb < w.heap.size := block_lt_of_cell c0
          have d0 : wr.cell? ⟨gb, off + k, none⟩ = some (.int .i64 ns[k]) := (HS.out.2.2.2.k1.bel.cell (p := ⟨gb, off + k, none⟩) hgl).trans c0
          have hgr : gb < wr.heap.size := block_lt_of_cell d0
          obtain ⟨d, hd, ed⟩ := andM ns[k] 31 31 rfl (by decide)
          clear c0 hc
          generalize ns[k] = z at d0 ed
          have hwa := wrap_add first d
          have hwd : IntKind.u32.wrap (d : Int) = (d : Int) := by rw [IntKind.wrap_u32]; omega
          have hi0 : (0 : Int) ≤ (k : Int) := by omega
          have hi1 : (k : Int) < (ns.length : Int) := by omega
          have hi2 : (k : Int) < 30 := by omega
          have hnl := numW_lt first d
          have HIA := Lib.hid (HS.out.1.put d (by omega))
          have HPL := Lib.hid (putW_len s (numW first d) [120])
          have HPUT := Lib.hid (inPut_any b2 mo s (numW first d) [120] wr HS.out.2.2.2.k1.i hnl (by have := HS.out.2.1; omega))
          unfold itV at HPUT
          have HGN := Lib.hid (fun hg => HS.out.2.2.1.new d (by omega) hg)
          have HGM := Lib.hid (fun z h1 h2 => HS.out.2.2.1.more (numW first d) z h1 h2)
          have HGNO := Lib.hid (fun hno => HS.out.2.2.1.no d (by omega) hno)
          have HGY := Lib.hid (fun v hv => HS.out.2.2.1.yes d (by omega) (v := v) hv)
          have HSL := Lib.hid HS.out.2.1
          have HAKS := Lib.hid HS.out.2.2.2
          clear HS
          generalize numW first d = nd at hwa hnl HIA HPL HPUT HGN HGM HGNO HGY
          go_wp2_with fail
          refine HPUT.out.mono ?_
          rintro e w6 ⟨a6, c6, mo6, rfl, hw6, hf6, -, ht6⟩
          have HA6 := Lib.hid (HAKS.out.put hw6 hf6 ht6)
          clear hw6 hf6 ht6 HPUT HAKS d0 hgr
          rcases mp_look (k := 54) (t := 96) (e := 3) Try.underlying54 Try.underlying96 HA6.out.g (zero_int w6) nd (wf_u32 nd hnl) false with ⟨hno, hlk⟩ | ⟨v, hin, hlk⟩
          · obtain ⟨w7, hup, hg7, ht7⟩ := mp_store (k := 54) (t := 96) (e := 3) Try.underlying54 Try.underlying96 HA6.out.g nd (wf_u32 nd hnl) hno (.int .i64 1)
            have hG := HGNO.out hno
            have HS7 : Hid (InA first (addG G d) (putW s nd [120]).1 ∧ (putW s nd [120]).1.l.length ≤ k + 1 ∧ GotL first (addG G d) (k + 1) (L ++ [(nd, .int .i64 1)]) ∧ Ak w b1 b2 r N32 a c (itemsO first 32) mo6 (putW s nd [120]).1 (L ++ [(nd, .int .i64 1)]) w7) := Lib.hid ⟨HIA.out, by have := HPL.out; have := HSL.out; omega, HGN.out hG, HA6.out.upd hg7 ht7⟩
            simp only [Bool.false_eq_true, if_false] at hlk
            clear hno hg7 ht7 hG HA6 HIA HPL HGN HGM HGNO HGY HSL
            go_wp2
            go_roundw
            case rel => exact ⟨k + 1, _, _, _, _, by omega, by go_num, HS7⟩
            case measure => simp [intOf] <;> omega
          · obtain ⟨hG, z', rfl, hz1, hz2⟩ := HGY.out v hin
            obtain ⟨w7, hup, hg7, ht7⟩ := mp_put (k := 54) (t := 96) (e := 3) Try.underlying54 Try.underlying96 HA6.out.g nd (wf_u32 nd hnl) _ (.int .i64 ((z' : Int) + 1)) hin
            have HS7 : Hid (InA first (addG G d) (putW s nd [120]).1 ∧ (putW s nd [120]).1.l.length ≤ k + 1 ∧ GotL first (addG G d) (k + 1) (setL L nd (.int .i64 ((z' : Int) + 1))) ∧ Ak w b1 b2 r N32 a c (itemsO first 32) mo6 (putW s nd [120]).1 (setL L nd (.int .i64 ((z' : Int) + 1))) w7) := Lib.hid ⟨HIA.out, by have := HPL.out; have := HSL.out; omega, by rw [addG_same G d hG]; exact HGM.out z' hz1 hz2, HA6.out.upd hg7 ht7⟩
            simp only [Bool.false_eq_true, if_false] at hlk
            clear hin hg7 ht7 hG HA6 HIA HPL HGN HGM HGNO HGY HSL
            go_wp2
            go_roundw
            case rel => exact ⟨k + 1, _, _, _, _, by omega, by go_num, HS7⟩
            case measure => simp [intOf] <;> omega
        · have hend : ((ns.length : Int) ≤ (k : Int)) ∨ ((k : Int) < (ns.length : Int) ∧ (30 : Int) ≤ (k : Int)) := by omega
          obtain ⟨hia, hsl, hgot, hak⟩ := HS.out
          have HIA := Lib.hid hia
          have HGOT := Lib.hid hgot
          have HAK := Lib.hid hak
          have HACK := Lib.hid (inAck_any b2 mo s wr hak.k1.i hia.ok)
          have HXN := Lib.hid hak.k1.i.nx
          clear HS hia hsl hgot hak hgo
          rcases hend with hend | ⟨hend, hend2⟩
          all_goals
            go_wp2_with fail
            refine HACK.out.mono ?_
            rintro e w6 ⟨⟨B, rfl, hB, hbits⟩, hb6⟩
            obtain ⟨hhas, hgo⟩ := HIA.out.ack hbits
            rw [HN.out] at hgo
            obtain ⟨hfc, hfr⟩ := filter_items first s.nx B G hhas
            obtain ⟨hrr1, hrr2⟩ := rest_rest s.nx B (itemsO first 32)
            have HHAS := Lib.hid hhas
            have HF6 : Hid (AkF w b1 b2 r N32 a c (itemsO first 32) mo s L w6.heap.size s.nx B (w6.alloc (.cells #[.int .u32 (s.nx : Int), .int .u32 (B : Int)] 72))) := Lib.hid ⟨(HAK.out.keep hb6).keep (bel_alloc (Below.refl _ _) _), by simp, by simp⟩
            have HX1 : Hid (w6.heap.size ≠ b1) := Lib.hid (by have := (HAK.out.keep hb6).k1.o.lt; omega)
            have HOA := Lib.hid (outAck_ok b1 N32 a c (itemsO first 32) s.nx B _ HF6.out.ak.k1.o (by rw [itemsO_len]; omega) (itemsO_lt _ _) HXN.out hB hgo)
            have HRLT : Hid (∀ p ∈ restO s.nx B (itemsO first 32), p.1 < 4294967296) := Lib.hid (fun p hp => itemsO_lt first 32 p (List.mem_filter.1 hp).1)
            have HRLE : Hid ((restO s.nx B (itemsO first 32)).length ≤ 1000) := Lib.hid (by have := (came_len s.nx B (itemsO first 32)).2; rw [itemsO_len] at this; omega)
            have HOB := Lib.hid (fun a' c' W hO => outAck_ok b1 N32 a' c' (restO s.nx B (itemsO first 32)) s.nx B W hO HRLE.out HRLT.out HXN.out hB hgo)
            rw [hrr1, hrr2] at HOB
            have HHB := Lib.hid (fun n W hn => has_any s.nx B n W HXN.out hB hn)
            have hq : (cameO s.nx B (itemsO first 32)).length = cntG G := by rw [hfc, List.length_map]; rfl
            have hp : (restO s.nx B (itemsO first 32)).length + cntG G = 32 := by rw [hfr, List.length_map]; exact cnt_rest G
            have hLq : L.length = cntG G := HGOT.out.len
            generalize hcm : cameO s.nx B (itemsO first 32) = came at HOA hfc hq
            generalize hrs : restO s.nx B (itemsO first 32) = rest at HOA HOB HRLT HRLE hfr hp
            have HFC := Lib.hid hfc
            have HFR := Lib.hid hfr
            have HQ := Lib.hid hq
            have HLQ := Lib.hid hLq
            clear hcm hrs hfc hfr hrr1 hrr2 hb6 hhas hbits HACK HAK hq hLq hgo hB
            generalize hqq : cntG G = q at hp HQ HLQ
            have hq32 : q ≤ 32 := by omega
            clear hqq
            have HP := Lib.hid hp
            clear hp
            go_wp2_with fail
            generalize w6.alloc (.cells #[.int .u32 (s.nx : Int), .int .u32 (B : Int)] 72) = W6 at HF6 HOA ⊢
            generalize w6.heap.size = X at HF6 HX1 ⊢
            refine HOA.out.mono ?_
            rintro e w7 ⟨a1, c1, a2, c2, rfl, hO7, hrow7, hf7, hdj7, ht7⟩
            have HF7 := Lib.hid (HF6.out.ack HX1.out hO7 hf7 ht7)
            have HR7 : Hid (OwnV 54 1 0 a1 c1 (came.map u32C) w7 ∧ ∀ x, a1 = some x → x.block ≠ b1) := Lib.hid ⟨⟨hrow7.1, fun _ _ => Nat.zero_le _⟩, fun x hx => by have := hrow7.2 x hx; have := HF6.out.ak.k1.o.lt; omega⟩
            rw [HQ.out]
            have hlm := fun ty => len_map HF7.out.ak.g 96 ty Try.underlying96
            rw [HLQ.out] at hlm
            have HLEN := Lib.hid (outLen_any b1 N32 a2 c2 rest w7 HF7.out.ak.k1.o)
            have hpe : ((rest.length : Int) != 32 - (q : Int)) = false := by have := HP.out; rw [bne_eq_false_iff_eq]; omega
            have HOB7 := Lib.hid (HOB.out a2 c2 w7 HF7.out.ak.k1.o)
            clear hO7 hrow7 hf7 hdj7 ht7 HF6 HOA HOB
            have y0 := HF7.out.x0
            have y1 := HF7.out.x1
            have hXl := block_lt_of_cell y0
            simp only at hXl
            go_wp2_with fail
            refine HLEN.out.mono ?_
            rintro e w7' ⟨rfl, rfl⟩
            go_wp2_with fail
            refine HOB7.out.mono ?_
            rintro e w8 ⟨a3, c3, a4, c4, rfl, hO8, -, hf8, -, ht8⟩
            have HF8 := Lib.hid (HF7.out.ack HX1.out hO8 hf8 ht8)
            have HR8 : Hid (OwnV 54 1 0 a1 c1 (came.map u32C) w8) := Lib.hid (HR7.out.1.touch ht8 HR7.out.2)
            clear hO8 hf8 ht8 HF7 HR7 HOB7 HLEN hlm y0 y1 hXl hpe
            simp only [List.length_nil]
            go_wp2
            go_loopw [97] (fun iv wr => ∃ j : Nat, j ≤ q ∧ iv = .int .i64 j ∧ Hid (AkF w b1 b2 r N32 a4 c4 rest mo s L X s.nx B wr ∧ OwnV 54 1 0 a1 c1 (came.map u32C) wr)) (fun iv _ => q - (intOf iv).toNat)
            case atStart => exact ⟨0, Nat.zero_le _, rfl, Lib.hid ⟨HF8.out, HR8.out⟩⟩
            case round =>
              obtain ⟨j, hj, rfl, HJ⟩ := hrel
              by_cases hjq : j < q
              · obtain ⟨g, rfl, hg, hcells⟩ := own_u32 HJ.out.2 (by rw [HQ.out]; omega)
                have x2 := hcells j (by rw [HQ.out]; exact hjq)
                generalize hy : came[j]'(by rw [HQ.out]; exact hjq) = y at x2
                have hym : y ∈ came := by rw [← hy]; exact List.getElem_mem _
                rw [HFC.out] at hym
                obtain ⟨d, hdm, rfl⟩ := List.mem_map.1 hym
                obtain ⟨hd1, hd2⟩ := List.mem_filter.1 hdm
                have hd32 : d < 32 := List.mem_range.1 hd1
                have HHV := Lib.hid (HHAS.out d hd32)
                rw [hd2] at HHV
                have hyl := numW_lt first d
                have HHC := Lib.hid (fun W => HHB.out (numW first d) W hyl)
                rw [HHV.out] at HHC
                obtain ⟨z, hz, hlk⟩ : ∃ z : Nat, 1 ≤ z ∧ (Instr.lookup 96 (.map (some r)) (.int .u32 (numW first d : Int)) false).run Try.prog wr = .ok (.int .i64 (z : Int)) wr := by
                  rcases mp_look (k := 54) (t := 96) (e := 3) Try.underlying54 Try.underlying96 HJ.out.1.ak.g (zero_int wr) (numW first d) (wf_u32 _ hyl) false with ⟨hno, -⟩ | ⟨v, hin, hlk⟩
                  · have := HGOT.out.no d hd32 hno
                    rw [hd2] at this; cases this
                  · obtain ⟨-, z, rfl, hz1, -⟩ := HGOT.out.yes d hd32 hin
                    exact ⟨z, hz1, by simpa using hlk⟩
                have hz0 : ((z : Int) == 0) = false := by rw [beq_eq_false_iff_ne]; omega
                generalize numW first d = y at x2 hyl HHC hlk
                have y0 := HJ.out.1.x0
                have y1 := HJ.out.1.x1
                have hXl := block_lt_of_cell y0
                simp only at hXl
                have hj0 : (0 : Int) ≤ (j : Int) := by omega
                have hj1 : (j : Int) < (q : Int) := by omega
                clear hcells hy hym hdm hd1 hd2 HHV
                go_wp2_with fail
                refine (HHC.out _).mono ?_
                rintro e w9 ⟨rfl, hb9⟩
                have HJ9 := Lib.hid (show AkF w b1 b2 r N32 a4 c4 rest mo s L X s.nx B w9 ∧ OwnV 54 1 0 (some ⟨g, 0, none⟩) c1 (came.map u32C) w9 from ⟨HJ.out.1.keep hb9, HJ.out.2.touch (touch_of_below (S := fun _ => False) hb9) (fun _ _ => id)⟩)
                clear hb9 HHC hlk x2 y0 y1 hXl HJ hz0
                go_wp2
                go_roundw
                case rel => exact ⟨j + 1, by omega, by go_num, HJ9⟩
                case measure => simp [intOf] <;> omega
              · obtain rfl : j = q := by omega
                have HALL := Lib.hid (outAll_any b1 N32 a4 c4 rest wr HJ.out.1.ak.k1.o HRLE.out)
                have HFJ := Lib.hid HJ.out.1
                clear HJ HR8 HF8
                go_wp2_with fail
                refine HALL.out.mono ?_
                rintro e w9 ⟨a5, c5, rfl, hrow9, hb9⟩
                have HF9 := Lib.hid (show AkF w b1 b2 r N32 a4 c4 rest mo s L X s.nx B w9 ∧ OwnV 81 2 0 a5 c5 (rest.map itCells) w9 from ⟨HFJ.out.keep hb9, hrow9.1, fun _ _ => Nat.zero_le _⟩)
                have hrl : rest.length ≤ 32 := by have := HP.out; omega
                clear hrow9 hb9 HALL HFJ
                go_wp2
                go_loopw [115] (fun iv wr => ∃ j : Nat, j ≤ rest.length ∧ iv = .int .i64 j ∧ Hid (AkF w b1 b2 r N32 a4 c4 rest mo s L X s.nx B wr ∧ OwnV 81 2 0 a5 c5 (rest.map itCells) wr)) (fun iv _ => rest.length - (intOf iv).toNat)
                case atStart => exact ⟨0, Nat.zero_le _, rfl, HF9⟩
                case round =>
                  obtain ⟨i, hi, rfl, HI⟩ := hrel
                  by_cases hir : i < rest.length
                  · obtain ⟨g, rfl, hg, hcells⟩ := cell_it HI.out.2 (by omega)
                    obtain ⟨x2, x3⟩ := hcells i hir
                    generalize hy : rest[i] = p at x2 x3
                    have hym : p ∈ rest := by rw [← hy]; exact List.getElem_mem _
                    rw [HFR.out] at hym
                    obtain ⟨d, hdm, rfl⟩ := List.mem_map.1 hym
                    obtain ⟨hd1, hd2⟩ := List.mem_filter.1 hdm
                    have hd32 : d < 32 := List.mem_range.1 hd1
                    have hGd : G d = false := by simpa using hd2
                    have HHV := Lib.hid (HHAS.out d hd32)
                    rw [hGd] at HHV
                    have hyl := numW_lt first d
                    have HHC := Lib.hid (fun W => HHB.out (numW first d) W hyl)
                    rw [HHV.out] at HHC
                    have HF10 := Lib.hid (HI.out.1.keep (bel_alloc (Below.refl _ _) (.cells #[.int .u32 (numW first d : Int), .string (bs [120])] 81)))
                    have HR10 := Lib.hid (HI.out.2.touch (touch_of_below (S := fun _ => False) (bel_alloc (Below.refl _ _) (.cells #[.int .u32 (numW first d : Int), .string (bs [120])] 81))) (fun _ _ => id))
                    have hlk : (Instr.lookup 96 (.map (some r)) (.int .u32 (numW first d : Int)) false).run Try.prog (wr.alloc (.cells #[.int .u32 (numW first d : Int), .string (bs [120])] 81)) = .ok (.int .i64 0) (wr.alloc (.cells #[.int .u32 (numW first d : Int), .string (bs [120])] 81)) := by
                      rcases mp_look (k := 54) (t := 96) (e := 3) Try.underlying54 Try.underlying96 HF10.out.ak.g (zero_int _) (numW first d) (wf_u32 _ hyl) false with ⟨-, hlk⟩ | ⟨v, hin, -⟩
                      · simpa using hlk
                      · have := (HGOT.out.yes d hd32 hin).1
                        rw [hGd] at this; cases this
                    simp only at x2 x3
                    generalize numW first d = y at x2 hyl HHC hlk HF10 HR10
                    generalize bs [120] = T at x3 hlk HF10 HR10
                    have y0 := HF10.out.x0
                    have y1 := HF10.out.x1
                    have hXl := block_lt_of_cell y0
                    simp only at hXl
                    have hj0 : (0 : Int) ≤ (i : Int) := by omega
                    have hj1 : (i : Int) < (rest.length : Int) := by omega
                    clear hcells hy hym hdm hd1 hd2 HHV hGd
                    go_wp2_with fail
                    generalize wr.alloc (.cells #[.int .u32 (y : Int), .string T] 81) = W10 at HF10 HR10 hlk y0 y1 hXl ⊢
                    refine (HHC.out _).mono ?_
                    rintro e w11 ⟨rfl, hb11⟩
                    have HJ11 := Lib.hid (show AkF w b1 b2 r N32 a4 c4 rest mo s L X s.nx B w11 ∧ OwnV 81 2 0 (some ⟨g, 0, none⟩) c5 (rest.map itCells) w11 from ⟨HF10.out.keep hb11, HR10.out.touch (touch_of_below (S := fun _ => False) hb11) (fun _ _ => id)⟩)
                    clear hb11 HHC hlk x2 x3 y0 y1 hXl HI HF10 HR10
                    go_wp2
                    go_roundw
                    case rel => exact ⟨i + 1, by omega, by go_num, HJ11⟩
                    case measure => simp [intOf] <;> omega
                  · obtain rfl : i = rest.length := by omega
                    have HB := Lib.hid HI.out.1.ak.k1.bel
                    go_wp2
                    go_ret
                    exact ⟨rfl, HB.out⟩
end Go.Proofs.Ytfkhfincggligaa
namespace Go.Proofs.Ytfkhfincggligaa.windowAcks
open Go.ChangeShapes Go.WideShapes Go.ChangeAt Go.RowKit
open Go.ChangeMaps (open_string shut_string)
set_option linter.unusedVariables false
theorem nat32 {a : Int} (h : (Lit.int .u32 a).wf = true) : ∃ n : Nat, a = (n : Int) ∧ n < 4294967296 := by
  have h2 : 0 ≤ a ∧ a ≤ 4294967295 := by simpa [Lit.wf, IntKind.min, IntKind.max, IntKind.signed, IntKind.bits] using h
  exact ⟨a.toNat, by omega, by omega⟩
theorem walk (w : World) (a0 : Int) (w0 : (Lit.int .u32 a0).wf = true) (a1 : Option Addr) (len1 cap1 : Nat) (n1 : List Int) (w1 : NumArg .i64 w a1 len1 cap1 n1) :
    Calls Try.prog 12 #[.int .u32 a0, .slice a1 len1 cap1] w fun e w' => e = .returned (.bool true) ∧ Below w.heap.size w w' := by
  obtain ⟨n, rfl, hn⟩ := nat32 w0
  obtain ⟨rfl, hl, -, -, hr, -⟩ := w1
  exact windowAcks_walk w n hn a1 cap1 n1 hl hr

/-! ### THE ROW's STEP -/
theorem own : ownKnob Try.prog.godebug = none := by kernel_rfl
theorem laidOut : laidOutB Try.prog = true := by kernel_rfl
set_option maxRecDepth 100000 in
theorem lifted (os : Os) (started : os.Started) (H : Type) (enc : TypeId × Value → H) :
    ReturnsInHanded {} Try.checked os 12 .any (Rows.windowAcksSpec.pre6 enc Try.prog Try.f12 Rows.windowAcksRow.domain false) (Rows.windowAcksSpec.post enc Try.prog Try.f12 false true false false) := by
  refine returnsInHanded_of_change (C := Try.checked) own started (by kernel_rfl) Try.func12
    (ChangeSpec.witness6 (enc := enc) (C := Try.checked) false ⟨#[], #[.int .u32 0, .slice none 0 0], []⟩ 8 (by kernel_rfl) (by kernel_rfl) (by kernel_rfl) (by kernel_rfl)) ?_
  intro W base args ds gs before hval0 hW hcnd _
  have hval : ∀ (j : Nat) t v, Try.f12.params[j]? = some t → args[j]? = some v → Value.okWide Try.prog W .any base t v := hval0
  have hW' := hW
  obtain ⟨p, q, hA0, hV, rfl, hfz, hnd⟩ := hW
  have hA : DataW.TrodAll enc Try.prog W 0 (fun _ => true) true Try.f12.params.toList args.toList ds p := hA0
  rw [Try.params12] at hA hval
  obtain ⟨v0, vs0, d0, ds0, p0, q0, hargs, rfl, rfl, h0, r0⟩ := trodAll_cons hA
  obtain ⟨v1, vs1, d1, ds1, p1, q1, rfl, rfl, rfl, h1, r1⟩ := trodAll_cons r0
  obtain ⟨rfl, rfl, rfl⟩ := trodAll_nil r1
  obtain rfl : args = #[v0, v1] := by cases args; simp_all
  obtain ⟨rfl, rfl⟩ := trodVars_none hV
  have k0 := h0
  have lt0 : ∀ x ∈ p0, x.block < W.heap.size := by obtain ⟨m, hm⟩ := k0; exact DataW.trod_lt m _ _ _ hm
  obtain ⟨a0, rfl, rfl, rfl, w0⟩ := open_int Try.underlying54 (hval 0 54 v0 rfl rfl) h0
  have k1 := h1
  have lt1 : ∀ x ∈ p1, x.block < W.heap.size := by obtain ⟨m, hm⟩ := k1; exact DataW.trod_lt m _ _ _ hm
  obtain ⟨a1, len1, cap1, rfl⟩ := okWide_slice Try.underlying73 (hval 1 73 v1 rfl rfl)
  obtain ⟨n1, w1⟩ : ∃ ns, NumArg .i64 W a1 len1 cap1 ns := by
    obtain ⟨fuel, hf⟩ := h1
    exact nums_of Try.underlying73 Try.underlying3 (by kernel_rfl) hf
  clear hA0 hval0
  refine (walk W a0 w0 a1 len1 cap1 n1 w1).mono fun e W' ⟨he, bel⟩ => ?_
  subst he
  exact ⟨_, rfl, _, _, _, [], _, [], hW', trodAll_mk1 (shut_bool Try.underlying4 _), (trodAll_cons_mk (Below.trod laidOut (by kernel_rfl) (of_decide_eq_true (by kernel_rfl)) k0 bel lt0) (trodAll_cons_mk (Below.trod laidOut (by kernel_rfl) (of_decide_eq_true (by kernel_rfl)) k1 bel lt1) trodAll_mk0)), rfl, bel.frame _, fun h => by cases h⟩

theorem over : Rows.windowAcksRow.holds Try.pinned (OpenSpec.ofChange Rows.windowAcksSpec) :=
  OpenClaim.holds_of_wide 12 Try.f12 rfl rfl rfl rfl rfl rfl rfl ⟨rfl, rfl, rfl, rfl, rfl⟩ rfl rfl rfl rfl rfl (by kernel_rfl) Try.func12 (by kernel_rfl)
    (of_decide_eq_true (by kernel_rfl)) (by unfold Func.isWrapper; first | (rw [if_pos (by decide +kernel)]; kernel_rfl) | (rw [if_neg (by decide +kernel)]; exact ⟨rfl, rfl⟩))
    (fun os started H enc _ => lifted os started H enc)

end Go.Proofs.Ytfkhfincggligaa.windowAcks
namespace Go.Proofs.Ytfkhfincggligaa
theorem windowAcks_proved : Rows.WindowAcksSaid := windowAcks.over
end Go.Proofs.Ytfkhfincggligaa
