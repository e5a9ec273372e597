/-
  Layer 4: may an image be run.
-/
import Derived.Test.YtmonbjlkkhpinaaDoorVerifyNew
namespace Go.Proofs.YtmonbjlkkhpinaaDoor
open Go.RowKit
set_option linter.unusedVariables false

/-- Are a function's numbers such that it may be looked into? -/
def shapedB (n : Nat) (f : Fn) : Bool :=
  if f.args < 0 ∨ f.locals < f.args ∨ 16 < f.locals then false else if n < 2 ∧ f.args ≠ entryN n then false else decide (1 ≤ f.code.length) && decide (f.code.length ≤ 128)
theorem below_dN {B : Nat} {a w : World} (h : Below B a w) (n : Nat) : Below B a (w.drewN n) := ⟨h.os, h.tape, h.output, h.size, h.block⟩
def ShapedPost (w : World) (b : Bool) (e : Ending) (w' : World) : Prop := e = .returned (.bool b) ∧ Below w.heap.size w w'
set_option maxHeartbeats 4000000 in
theorem shaped_any (n : Nat) (f : Fn) (af : Option Addr) (cf : Nat) (w : World) (hn : n ≤ 1000) (hc : f.code.length ≤ 1000) :
    Calls Tryd.prog 51 #[.int .i64 (n : Int), .agg #[.int .i64 f.args, .int .i64 f.locals, .slice af f.code.length cf]] w (ShapedPost w (shapedB n f)) := by
  obtain ⟨ar, lo, co⟩ := f
  simp only at hc ⊢
  have hS : shapedB n ⟨ar, lo, co⟩ = if ar < 0 ∨ lo < ar ∨ 16 < lo then false else if n < 2 ∧ ar ≠ entryN n then false else decide (1 ≤ co.length) && decide (co.length ≤ 128) := rfl
  generalize shapedB n ⟨ar, lo, co⟩ = Q at hS
  have HS := Lib.hid hS
  clear hS
  by_cases h1 : ar < 0 ∨ lo < ar ∨ 16 < lo
  · have HQ := Lib.hid (HS.out.trans (if_pos h1))
    clear HS
    by_cases ha : ar < 0
    · clear h1
      go_enter Tryd.func51, Tryd.ntmps51
      go_wp2
      go_ret
      exact ⟨by rw [HQ.out]; rfl, (Below.refl _ _).alloc (Nat.le_refl _) _⟩
    · by_cases hb : lo < ar
      · have ha' : 0 ≤ ar := by omega
        clear h1 ha
        go_enter Tryd.func51, Tryd.ntmps51
        go_wp2
        go_ret
        exact ⟨by rw [HQ.out]; rfl, (Below.refl _ _).alloc (Nat.le_refl _) _⟩
      · have hb' : ar ≤ lo := by omega
        have hc' : 16 < lo := by omega
        have ha' : 0 ≤ ar := by omega
        clear h1 ha hb
        go_enter Tryd.func51, Tryd.ntmps51
        go_wp2
        go_ret
        exact ⟨by rw [HQ.out]; rfl, (Below.refl _ _).alloc (Nat.le_refl _) _⟩
  · have HQ := Lib.hid (HS.out.trans (if_neg h1))
    have ha' : 0 ≤ ar := by omega
    have hb' : ar ≤ lo := by omega
    have hc' : lo ≤ 16 := by omega
    clear HS h1
    by_cases h2 : n < 2
    · have hnb : decide ((n : Int) < 2) = true := by simp; omega
      have HEN := Lib.hid (fun W => entry_any (n : Int) W)
      by_cases h3 : ar = entryN n
      · have HQ2 := Lib.hid (HQ.out.trans (if_neg (fun h => h.2 h3)))
        have heq : (ar != entryN (n : Int)) = false := by rw [h3]; simp
        clear HQ h3
        generalize entryN (n : Int) = en at heq HEN
        by_cases hlen : 1 ≤ co.length
        · have HQ3 : Hid (Q = decide ((co.length : Int) ≤ 128)) := Lib.hid (by rw [HQ2.out, decide_eq_true hlen, Bool.true_and]; exact decide_eq_decide.2 (by omega))
          have hl1 : (1 : Int) ≤ (co.length : Int) := by omega
          go_enter Tryd.func51, Tryd.ntmps51
          go_wp2_with fail
          go_quiet ((go_at_call 34; exact Calls.quiet_of_same ((HEN.out _).mono fun _ _ h => ⟨h.1, h.2.symm⟩)))
          go_wp2
          go_ret
          exact ⟨by rw [HQ3.out]; first | rfl | simp, below_dN ((Below.refl _ _).alloc (Nat.le_refl _) _) _⟩
        · have HQ3 : Hid (Q = false) := Lib.hid (by rw [HQ2.out]; simp [hlen])
          have hl1 : decide ((1 : Int) ≤ (co.length : Int)) = false := decide_eq_false (by omega)
          have hl2 : co.length = 0 := by omega
          have hl3 : decide (1 ≤ co.length) = false := decide_eq_false (by omega)
          clear hlen hl2
          go_enter Tryd.func51, Tryd.ntmps51
          go_wp2_with fail
          go_quiet ((go_at_call 34; exact Calls.quiet_of_same ((HEN.out _).mono fun _ _ h => ⟨h.1, h.2.symm⟩)))
          go_wp2
          go_ret
          exact ⟨by rw [HQ3.out]; rfl, below_dN ((Below.refl _ _).alloc (Nat.le_refl _) _) _⟩
      · have HQ2 := Lib.hid (HQ.out.trans (if_pos ⟨h2, h3⟩))
        have heq : (ar != entryN (n : Int)) = true := by simpa using h3
        clear HQ h3
        generalize entryN (n : Int) = en at heq HEN
        go_enter Tryd.func51, Tryd.ntmps51
        go_wp2_with fail
        go_quiet ((go_at_call 34; exact Calls.quiet_of_same ((HEN.out _).mono fun _ _ h => ⟨h.1, h.2.symm⟩)))
        go_wp2
        go_ret
        exact ⟨by rw [HQ2.out]; rfl, below_dN ((Below.refl _ _).alloc (Nat.le_refl _) _) _⟩
    · have hnb : decide ((n : Int) < 2) = false := by simp; omega
      have HQ2 := Lib.hid (HQ.out.trans (if_neg (fun h => h2 h.1)))
      clear HQ h2
      by_cases hlen : 1 ≤ co.length
      · have HQ3 : Hid (Q = decide ((co.length : Int) ≤ 128)) := Lib.hid (by rw [HQ2.out, decide_eq_true hlen, Bool.true_and]; exact decide_eq_decide.2 (by omega))
        have hl1 : (1 : Int) ≤ (co.length : Int) := by omega
        go_enter Tryd.func51, Tryd.ntmps51
        go_wp2_with fail
        go_quiet ((fail))
        go_wp2
        go_ret
        exact ⟨by rw [HQ3.out]; first | rfl | simp, below_dN ((Below.refl _ _).alloc (Nat.le_refl _) _) _⟩
      · have HQ3 : Hid (Q = false) := Lib.hid (by rw [HQ2.out]; simp [hlen])
        have hl1 : decide ((1 : Int) ≤ (co.length : Int)) = false := decide_eq_false (by omega)
        have hl2 : co.length = 0 := by omega
        have hl3 : decide (1 ≤ co.length) = false := decide_eq_false (by omega)
        clear hlen hl2
        go_enter Tryd.func51, Tryd.ntmps51
        go_wp2_with fail
        go_quiet ((fail))
        go_wp2
        go_ret
        exact ⟨by rw [HQ3.out]; rfl, below_dN ((Below.refl _ _).alloc (Nat.le_refl _) _) _⟩
/-- The first one that isn't so. -/
def firstBad (p : Nat → Fn → Bool) : Nat → List Fn → Option Nat
  | _, [] => none
  | i, f :: l => if p i f then firstBad p (i + 1) l else some i
/-- What the walk through a function comes to. -/
def runOf (M : List Fn) (f : Fn) : Int × Bool := (runW M f (f.code.length + 1) 0 ((List.replicate f.code.length (-1)).set 0 0) [0]).1
def checkS (M : List Fn) : (Int × Int) × Nat :=
  if M.length < 2 ∨ 16 < M.length then ((0, 0), 14)
  else match firstBad shapedB 0 M with
    | some i => (((i : Nat), -1), 14)
    | none => match firstBad (fun _ f => (runOf M f).2) 0 M with
      | some i => (((i : Nat), (runOf M (M.getD i ⟨0, 0, []⟩)).1), 14)
      | none => ((0, 0), 0)
def CheckPost (w : World) (q : (Int × Int) × Nat) (e : Ending) (w' : World) : Prop := e = .returned (.tuple #[.agg #[.int .i64 q.1.1, .int .i64 q.1.2], .int .i64 (q.2 : Nat)]) ∧ Below w.heap.size w w'
theorem firstBad_none (p : Nat → Fn → Bool) (l : List Fn) : ∀ i, firstBad p i l = none → ∀ k (h : k < l.length), p (i + k) l[k] = true := by
  induction l with
  | nil => intro i _ k h; simp at h
  | cons f l ih =>
    intro i hb k h
    unfold firstBad at hb
    by_cases hp : p i f = true
    · rw [if_pos hp] at hb
      cases k with
      | zero => simpa using hp
      | succ k =>
        have := ih (i + 1) hb k (by simpa using h)
        rw [show i + (k + 1) = i + 1 + k by omega]
        simpa using this
    · rw [if_neg hp] at hb; cases hb
theorem firstBad_drop (p : Nat → Fn → Bool) (M : List Fn) (k : Nat) (h : k < M.length) : firstBad p k (M.drop k) = if p k M[k] then firstBad p (k + 1) (M.drop (k + 1)) else some k := by
  rw [List.drop_eq_getElem_cons h, firstBad]
theorem winv_start (n : Nat) (h : 0 < n) : WInv ((List.replicate n (-1)).set 0 0) [0] := by
  obtain ⟨m, rfl⟩ : ∃ m, n = m + 1 := ⟨n - 1, by omega⟩
  rw [List.replicate_succ, List.set_cons_zero]
  refine ⟨fun x hx => ?_, ?_⟩
  · simp at hx
    subst hx
    simp
  · simp
    omega
theorem shaped_facts {n : Nat} {f : Fn} (h : shapedB n f = true) : 0 ≤ f.args ∧ f.args ≤ 16 ∧ 0 < f.code.length ∧ f.code.length ≤ 128 := by
  unfold shapedB at h
  by_cases h1 : f.args < 0 ∨ f.locals < f.args ∨ 16 < f.locals
  · rw [if_pos h1] at h; cases h
  · rw [if_neg h1] at h
    by_cases h2 : n < 2 ∧ f.args ≠ entryN n
    · rw [if_pos h2] at h; cases h
    · rw [if_neg h2] at h
      simp only [Bool.and_eq_true, decide_eq_true_eq] at h
      omega
/-- The memory of Check: the image's box, the result not yet written. -/
structure CkMem (w : World) (v : Value) (wr : World) : Prop where
  c0 : wr.cell? ⟨w.heap.size, 0, none⟩ = some v
  r0 : wr.cell? ⟨w.heap.size + 1, 0, none⟩ = some (.int .i64 0)
  r1 : wr.cell? ⟨w.heap.size + 1, 1, none⟩ = some (.int .i64 0)
  g0 : wr.frozen? ⟨w.heap.size + 1, 0, none⟩ = false
  g1 : wr.frozen? ⟨w.heap.size + 1, 1, none⟩ = false
  lt : w.heap.size + 1 < wr.heap.size
  bel : Below w.heap.size w wr
theorem CkMem.keep {w : World} {v : Value} {wr w' : World} (h : CkMem w v wr) (hb : Below wr.heap.size wr w') : CkMem w v w' := by
  have hl := h.lt
  exact ⟨(hb.cell (p := ⟨w.heap.size, 0, none⟩) (by show w.heap.size < _; omega)).trans h.c0, (hb.cell (p := ⟨w.heap.size + 1, 0, none⟩) hl).trans h.r0, (hb.cell (p := ⟨w.heap.size + 1, 1, none⟩) hl).trans h.r1, (hb.frozen (p := ⟨w.heap.size + 1, 0, none⟩) hl).trans h.g0, (hb.frozen (p := ⟨w.heap.size + 1, 1, none⟩) hl).trans h.g1, by have := hb.size; omega, h.bel.trans (hb.mono h.bel.size)⟩
theorem CkMem.start (w : World) (v : Value) (t t' : TypeId) : CkMem w v ((w.alloc (.cells #[v] t)).alloc (.cells #[.int .i64 0, .int .i64 0] t')) := by
  have hz : (w.alloc (.cells #[v] t)).heap.size = w.heap.size + 1 := by simp
  exact ⟨by rw [World.cell?_alloc_lt _ _ _ (by show w.heap.size < _; omega)]; simp, (cell_new2 _ _ hz _ _ 0).trans rfl, (cell_new2 _ _ hz _ _ 1).trans rfl, frozen_new2 _ _ hz _ _ 0, frozen_new2 _ _ hz _ _ 1, by simp, ((Below.refl _ _).alloc (Nat.le_refl _) _).alloc (by simp) _⟩
set_option maxHeartbeats 8000000 in
set_option maxRecDepth 100000 in
theorem check_any (a : Option Addr) (cap : Nat) (M : List Fn) (w : World) (hM : ImgOk M) (hr : FnRow w a M) (hH : HostsAt w) : Calls Tryd.prog 28 #[.agg #[.slice a M.length cap]] w (CheckPost w (checkS M)) := by
  have hl := hM.1
  have HM := Lib.hid hM.2
  have HR := Lib.hid hr
  have HH := Lib.hid hH
  clear hM hr hH
  by_cases hb : M.length < 2 ∨ 16 < M.length
  · have HQ := Lib.hid (show checkS M = ((0, 0), 14) from if_pos hb)
    by_cases h2 : M.length < 2
    · clear hb
      go_enter Tryd.func28, Tryd.ntmps28
      go_wp2
      exact bodyPost_ret (v := .tuple #[.agg #[.int .i64 0, .int .i64 0], .int .i64 14]) (by simp [results, Tryd.results28, go_sem]) rfl ⟨by rw [HQ.out]; rfl, ((Below.refl _ _).alloc (Nat.le_refl _) _).alloc (by simp) _⟩
    · have h16 : 16 < M.length := by omega
      have h2' : 2 ≤ M.length := by omega
      clear hb h2
      go_enter Tryd.func28, Tryd.ntmps28
      go_wp2
      exact bodyPost_ret (v := .tuple #[.agg #[.int .i64 0, .int .i64 0], .int .i64 14]) (by simp [results, Tryd.results28, go_sem]) rfl ⟨by rw [HQ.out]; rfl, ((Below.refl _ _).alloc (Nat.le_refl _) _).alloc (by simp) _⟩
  · have h2 : 2 ≤ M.length := by omega
    have h16 : M.length ≤ 16 := by omega
    have hQ : checkS M = match firstBad shapedB 0 M with
      | some i => (((i : Nat), -1), 14)
      | none => match firstBad (fun _ f => (runOf M f).2) 0 M with
        | some i => (((i : Nat), (runOf M (M.getD i ⟨0, 0, []⟩)).1), 14)
        | none => ((0, 0), 0) := if_neg hb
    generalize checkS M = Q at hQ
    have HQ := Lib.hid hQ
    clear hb hQ
    go_enter Tryd.func28, Tryd.ntmps28
    go_wp2
    have HC0 := Lib.hid (CkMem.start w (.slice a M.length cap) 24 55)
    generalize (w.alloc (.cells #[.slice a M.length cap] 24)).alloc (.cells #[.int .i64 0, .int .i64 0] 55) = w2 at HC0
    go_loopw [24] (fun i wr => ∃ k : Nat, k ≤ M.length ∧ i = .int .i64 k ∧ Hid (firstBad shapedB 0 M = firstBad shapedB k (M.drop k)) ∧ Hid (CkMem w (.slice a M.length cap) wr)) (fun i _ => M.length - (intOf i).toNat)
    case atStart => exact ⟨0, by omega, rfl, Lib.hid rfl, HC0⟩
    case round =>
      obtain ⟨k, hk, rfl, HFB, HC⟩ := hrel
      have c0 := HC.out.c0
      have hlc := block_lt_of_cell c0
      by_cases hlt : k < M.length
      · obtain ⟨b, off, rfl, hcell⟩ := HR.out.below HC.out.bel (by omega)
        obtain ⟨e0, e1, x, cx, e2, -⟩ := hcell k hlt
        have hbl := block_lt_of_cell e0
        have HFD := Lib.hid (HFB.out.trans (firstBad_drop shapedB M k hlt))
        have hcl := (HM.out _ (List.getElem_mem hlt)).2.2.2.2.1
        have HSH := Lib.hid (fun W => shaped_any k M[k] x cx W (by omega) hcl)
        clear hcell
        generalize M[k] = f at e0 e1 e2 HFD hcl HSH
        generalize shapedB k f = sb at HFD HSH
        obtain ⟨ar, lo, co⟩ := f
        simp only at e0 e1 e2 hcl HSH
        have HC1 := Lib.hid (HC.out.keep ((Below.refl _ wr).alloc (Nat.le_refl _) (.cells #[.int .i64 ar, .int .i64 lo, .slice x co.length cx] 29)))
        cases sb
        · have HF2 := Lib.hid (HFD.out.trans (if_neg (by simp)))
          have HQ2 : Hid (Q = (((k : Int), (-1 : Int)), 14)) := Lib.hid (by rw [HQ.out, HF2.out])
          go_wp2_with fail
          refine (HSH.out _).mono ?_
          rintro e w5 ⟨rfl, hb5⟩
          have HC5 := Lib.hid (HC1.out.keep hb5)
          clear hb5 HC1 HC c0 hlc
          have r0 := HC5.out.r0
          have r1 := HC5.out.r1
          have g0 := HC5.out.g0
          have g1 := HC5.out.g1
          have hlt1 := HC5.out.lt
          go_wp2
          exact bodyPost_ret (v := .tuple #[.agg #[.int .i64 (k : Int), .int .i64 (-1)], .int .i64 14]) (by simp [results, Tryd.results28, go_sem, r0, r1]) rfl ⟨by rw [HQ2.out]; rfl, (HC5.out.bel.setCell (by simp) _).setCell (by simp) _⟩
        · have HF2 := Lib.hid (HFD.out.trans (if_pos rfl))
          go_wp2_with fail
          refine (HSH.out _).mono ?_
          rintro e w5 ⟨rfl, hb5⟩
          have HC5 := Lib.hid (HC1.out.keep hb5)
          clear hb5 HC1 HC c0 hlc
          go_wp2
          go_roundw
          case rel => exact ⟨k + 1, by omega, by go_num, HF2, HC5⟩
          case measure => simp [intOf]; omega
      · obtain rfl : k = M.length := by omega
        have HNone : Hid (firstBad shapedB 0 M = none) := Lib.hid (by rw [HFB.out, List.drop_length]; rfl)
        have HAll : Hid (∀ j (h : j < M.length), shapedB j M[j] = true) := Lib.hid (fun j h => by have := firstBad_none shapedB M 0 HNone.out j h; simpa using this)
        have HArgs : Hid (∀ g ∈ M, 0 ≤ g.args ∧ g.args ≤ 1000) := Lib.hid (fun g hg => by
          obtain ⟨j, hj, rfl⟩ := List.getElem_of_mem hg
          have := shaped_facts (HAll.out j hj)
          omega)
        have HQ1 : Hid (Q = match firstBad (fun _ f => (runOf M f).2) 0 M with
          | some i => (((i : Nat), (runOf M (M.getD i ⟨0, 0, []⟩)).1), 14)
          | none => ((0, 0), 0)) := Lib.hid (by rw [HQ.out, HNone.out])
        clear HFB HQ hk
        go_wp2
        clear c0 hlc
        obtain ⟨wl, rfl⟩ : ∃ wl : World, wl = wr := ⟨_, rfl⟩
        go_loopw [39] (fun i wr => ∃ k : Nat, k ≤ M.length ∧ i = .int .i64 k ∧ Hid (firstBad (fun _ f => (runOf M f).2) 0 M = firstBad (fun _ f => (runOf M f).2) k (M.drop k)) ∧ Hid (CkMem w (.slice a M.length cap) wr)) (fun i _ => M.length - (intOf i).toNat)
        case atStart => exact ⟨0, by omega, rfl, Lib.hid rfl, HC⟩
        case round =>
          obtain ⟨k, hk, rfl, HFB, HCk⟩ := hrel
          have c0 := HCk.out.c0
          have hlc := block_lt_of_cell c0
          by_cases hlt : k < M.length
          · obtain ⟨b, off, rfl, hcell⟩ := HR.out.below HCk.out.bel (by omega)
            obtain ⟨e0, e1, x, cx, e2, hir⟩ := hcell k hlt
            have hbl := block_lt_of_cell e0
            have HFD := Lib.hid (HFB.out.trans (firstBad_drop (fun _ f => (runOf M f).2) M k hlt))
            have hcl := (HM.out _ (List.getElem_mem hlt)).2.2.2.2.1
            have hsf := shaped_facts (HAll.out k hlt)
            have HFO := Lib.hid (HM.out _ (List.getElem_mem hlt))
            have HGD : Hid (M.getD k ⟨0, 0, []⟩ = M[k]) := Lib.hid (by rw [List.getD_eq_getElem?_getD, List.getElem?_eq_getElem hlt]; rfl)
            have hbb : Below wr.heap.size wr (wr.alloc (.cells #[.int .i64 M[k].args, .int .i64 M[k].locals, .slice x M[k].code.length cx] 29)) := (Below.refl _ wr).alloc (Nat.le_refl _) _
            have HNW := Lib.hid (newWalk_any M (some ⟨b, off, none⟩) cap M[k] x cx _ hcl hsf.2.2.1 ((HR.out.below HCk.out.bel).below hbb) (hir.below hbb))
            have HRN := Lib.hid (fun V ad cd ar cr W' => run_any (wr.alloc (.cells #[.int .i64 M[k].args, .int .i64 M[k].locals, .slice x M[k].code.length cx] 29)) V M (some ⟨b, off, none⟩) cap M[k] x cx ((List.replicate M[k].code.length (-1)).set 0 0) ad cd [0] ar cr W' hl HArgs.out HFO.out (by simp) (winv_start _ hsf.2.2.1) ((HH.out.below HCk.out.bel).below hbb))
            have HC1 := Lib.hid (HCk.out.keep hbb)
            have HRO : Hid (runOf M M[k] = (runW M M[k] (M[k].code.length + 1) 0 ((List.replicate M[k].code.length (-1)).set 0 0) [0]).1) := Lib.hid rfl
            clear hcell hir hbb hcl hsf HFO
            generalize M[k] = f at e0 e1 e2 HFD HNW HRN HC1 HRO HGD
            generalize hqq : runW M f (f.code.length + 1) 0 ((List.replicate f.code.length (-1)).set 0 0) [0] = qq at HRN HRO
            obtain ⟨⟨at_, okk⟩, dq, rq⟩ := qq
            simp only at HRO
            clear hqq
            go_wp2_with fail
            refine HNW.out.mono ?_
            rintro e w5 ⟨V, ad, cd, ar5, cr5, rfl, hm5⟩
            have HM5 := Lib.hid hm5
            clear hm5 HNW
            go_wp2_with fail
            refine (HRN.out V ad cd ar5 cr5 w5 HM5.out).mono ?_
            rintro e w6 ⟨ar6, cr6, rfl, hm6⟩
            have HC6 := Lib.hid (HC1.out.keep hm6.bel)
            clear hm6 HRN HM5 HC1 HCk c0 hlc
            simp only
            cases okk
            · have HF2 := Lib.hid (HFD.out.trans (if_neg (by rw [HRO.out]; simp)))
              have HQ2 : Hid (Q = (((k : Int), at_), 14)) := Lib.hid (by rw [HQ1.out, HF2.out]; simp only; rw [HGD.out, HRO.out])
              have r0 := HC6.out.r0
              have r1 := HC6.out.r1
              have g0 := HC6.out.g0
              have g1 := HC6.out.g1
              have hlt1 := HC6.out.lt
              go_wp2
              exact bodyPost_ret (v := .tuple #[.agg #[.int .i64 (k : Int), .int .i64 at_], .int .i64 14]) (by simp [results, Tryd.results28, go_sem, r0, r1]) rfl ⟨by rw [HQ2.out]; rfl, (HC6.out.bel.setCell (by simp) _).setCell (by simp) _⟩
            · have HF2 := Lib.hid (HFD.out.trans (if_pos (by rw [HRO.out])))
              go_wp2
              go_roundw
              case rel => exact ⟨k + 1, by omega, by go_num, HF2, HC6⟩
              case measure => simp [intOf]; omega
          · obtain rfl : k = M.length := by omega
            have HQ2 : Hid (Q = ((0, 0), 0)) := Lib.hid (by rw [HQ1.out, HFB.out, List.drop_length]; rfl)
            have r0 := HCk.out.r0
            have r1 := HCk.out.r1
            have g0 := HCk.out.g0
            have g1 := HCk.out.g1
            have hlt1 := HCk.out.lt
            go_wp2
            exact bodyPost_ret (v := .tuple #[.agg #[.int .i64 0, .int .i64 0], .int .i64 0]) (by simp [results, Tryd.results28, go_sem, r0, r1]) rfl ⟨by rw [HQ2.out]; rfl, (HCk.out.bel.setCell (by simp) _).setCell (by simp) _⟩
end Go.Proofs.YtmonbjlkkhpinaaDoor
