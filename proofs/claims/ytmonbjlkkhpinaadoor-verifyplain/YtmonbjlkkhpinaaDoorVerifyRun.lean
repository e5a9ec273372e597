/-
  Layer 4: all of the walk.
-/
import Derived.Test.YtmonbjlkkhpinaaDoorVerifyStep
namespace Go.Proofs.YtmonbjlkkhpinaaDoor
open Go.RowKit
set_option linter.unusedVariables false

/-- What holds all along: what is reached has its values; as many are reached as have any. -/
def WInv (d : List Int) (r : List Nat) : Prop := (∀ x ∈ r, x < d.length ∧ 0 ≤ d.getD x 0 ∧ d.getD x 0 ≤ 64) ∧ r.length + d.count (-1) = d.length
theorem getD_set (d : List Int) (k x : Nat) (v : Int) (hk : k < d.length) : (d.set k v).getD x 0 = if k = x then v else d.getD x 0 := by
  rw [List.getD_eq_getElem?_getD, List.getElem?_set, List.getD_eq_getElem?_getD]
  by_cases h : k = x
  · subst h; simp [hk]
  · simp [h]
theorem count_set (d : List Int) : ∀ (k : Nat) (v : Int), k < d.length → d.getD k 0 = -1 → v ≠ -1 → (d.set k v).count (-1) + 1 = d.count (-1) := by
  induction d with
  | nil => intro k v h; simp at h
  | cons a d ih =>
    intro k v h hg hv
    cases k with
    | zero =>
      simp at hg
      subst hg
      simp [hv]
    | succ k =>
      have := ih k v (by simpa using h) (by simpa using hg) hv
      simp only [List.set_cons_succ, List.count_cons]
      omega
theorem reachS_inv {d : List Int} {r : List Nat} (h : WInv d r) (to depth : Int) (h0 : 0 ≤ depth) (h1 : depth ≤ 64) : WInv (reachS d r to depth).2.1 (reachS d r to depth).2.2 := by
  unfold reachS
  split
  · exact h
  · rename_i hb
    split
    · rename_i hu
      have hk : to.toNat < d.length := by omega
      refine ⟨fun x hx => ?_, ?_⟩
      · rw [List.length_set, getD_set d _ _ _ hk]
        rcases List.mem_append.1 hx with hx | hx
        · have hx1 := h.1 x hx
          refine ⟨hx1.1, ?_⟩
          split
          · omega
          · exact hx1.2
        · simp at hx
          subst hx
          simp; omega
      · have := count_set d to.toNat depth hk hu (by omega)
        have h2 := h.2
        simp only [List.length_append, List.length_cons, List.length_nil, List.length_set]
        omega
    · exact h
theorem stepS_inv {M : List Fn} {f : Fn} {d : List Int} {r : List Nat} (hM : ∀ g ∈ M, 0 ≤ g.args ∧ g.args ≤ 1000) (h : WInv d r) (k : Nat) : WInv (stepS M f d r k).2.1 (stepS M f d r k).2.2 ∧ (stepS M f d r k).2.1.length = d.length := by
  have hbd := effS_bd M hM f.locals (f.code.getD k (0, 0))
  unfold stepS
  simp only
  split
  · exact ⟨h, rfl⟩
  · rename_i h1
    have h1' : (effS M f.locals (f.code.getD k (0, 0))).1 ≤ d.getD k 0 := by
      by_cases hh : d.getD k 0 < (effS M f.locals (f.code.getD k (0, 0))).1
      · exact absurd (.inr hh) h1
      · omega
    split
    · exact ⟨h, rfl⟩
    · rename_i h2
      have hd0 : 0 ≤ d.getD k 0 - (effS M f.locals (f.code.getD k (0, 0))).1 + (effS M f.locals (f.code.getD k (0, 0))).2.1 := by omega
      have hd1 : d.getD k 0 - (effS M f.locals (f.code.getD k (0, 0))).1 + (effS M f.locals (f.code.getD k (0, 0))).2.1 ≤ 64 := by omega
      generalize d.getD k 0 - (effS M f.locals (f.code.getD k (0, 0))).1 + (effS M f.locals (f.code.getD k (0, 0))).2.1 = dp at hd0 hd1
      split
      · exact ⟨h, rfl⟩
      · split
        · exact ⟨reachS_inv h _ _ hd0 hd1, (reachS_len _ _ _ _).1⟩
        · split
          · split
            · exact ⟨reachS_inv (reachS_inv h _ _ hd0 hd1) _ _ hd0 hd1, (reachS_len _ _ _ _).1.trans (reachS_len _ _ _ _).1⟩
            · exact ⟨reachS_inv h _ _ hd0 hd1, (reachS_len _ _ _ _).1⟩
          · exact ⟨reachS_inv h _ _ hd0 hd1, (reachS_len _ _ _ _).1⟩
theorem stepS_mem {M : List Fn} {f : Fn} {d : List Int} {r : List Nat} (k : Nat) : r.length ≤ (stepS M f d r k).2.2.length := by
  have hr : ∀ d r to dp, (r : List Nat).length ≤ (reachS d r to dp).2.2.length := fun d r to dp => by unfold reachS; repeat' split <;> simp
  unfold stepS
  simp only
  (repeat' split) <;> first | exact Nat.le_refl _ | exact hr _ _ _ _ | exact Nat.le_trans (hr _ _ _ _) (hr _ _ _ _)
/-- All instructions that are reached, one behind the other. -/
def runW (M : List Fn) (f : Fn) : Nat → Nat → List Int → List Nat → (Int × Bool) × List Int × List Nat
  | 0, k, d, r => ((0, true), d, r)
  | n + 1, k, d, r => if k < r.length then
      (if (stepS M f d r (r.getD k 0)).1 then runW M f n (k + 1) (stepS M f d r (r.getD k 0)).2.1 (stepS M f d r (r.getD k 0)).2.2
       else (((r.getD k 0 : Nat), false), (stepS M f d r (r.getD k 0)).2))
    else ((0, true), d, r)
def RunTo (w0 : World) (V : Nat) (M : List Fn) (a0 : Option Addr) (c0 : Nat) (f : Fn) (af : Option Addr) (cf : Nat) (ad : Option Addr) (cd : Nat) (w : World) (q : (Int × Bool) × List Int × List Nat) (e : Ending) (w' : World) : Prop :=
  ∃ ar cr, e = .returned (.tuple #[.int .i64 q.1.1, .bool q.1.2]) ∧ WkMem w0 V M a0 c0 f af cf q.2.1 ad cd q.2.2 ar cr w'
set_option maxHeartbeats 8000000 in
theorem run_any (w0 : World) (V : Nat) (M : List Fn) (a0 : Option Addr) (c0 : Nat) (f : Fn) (af : Option Addr) (cf : Nat) (d : List Int) (ad : Option Addr) (cd : Nat) (r : List Nat) (ar : Option Addr) (cr : Nat) (w : World)
    (hM : M.length ≤ 1000) (hMa : ∀ g ∈ M, 0 ≤ g.args ∧ g.args ≤ 1000) (hf : FnOk f) (hd : d.length = f.code.length) (hi : WInv d r) (hH : HostsAt w0) (h : WkMem w0 V M a0 c0 f af cf d ad cd r ar cr w) :
    Calls Tryd.prog 53 #[.pointer (some ⟨V, 0, none⟩)] w (RunTo w0 V M a0 c0 f af cf ad cd w (runW M f (f.code.length + 1) 0 d r)) := by
  have hcl := hf.2.2.2.2.1
  have HMa := Lib.hid hMa
  have HF := Lib.hid hf
  have HI := Lib.hid hi
  have HHo := Lib.hid hH
  have HMem := Lib.hid h
  have HD := Lib.hid hd
  have hpost : RunTo w0 V M a0 c0 f af cf ad cd w (runW M f (f.code.length + 1) 0 d r) = RunTo w0 V M a0 c0 f af cf ad cd w (runW M f (f.code.length + 1) 0 d r) := rfl
  generalize hQ : runW M f (f.code.length + 1) 0 d r = Q
  have HQ := Lib.hid hQ
  clear hMa hf hi hH h hd hpost hQ
  go_enter Tryd.func53, Tryd.ntmps53
  go_wp2
  go_loopw [4] (fun i wr => ∃ (k : Nat) (d' : List Int) (r' : List Nat) (ar' : Option Addr) (cr' : Nat), k ≤ r'.length ∧ r'.length ≤ f.code.length ∧ i = .int .i64 k ∧ Hid (d'.length = f.code.length) ∧ Hid (WInv d' r') ∧ Hid (runW M f (f.code.length + 1 - k) k d' r' = Q) ∧ Hid (WkMem w0 V M a0 c0 f af cf d' ad cd r' ar' cr' wr)) (fun i _ => f.code.length - (intOf i).toNat)
  case atStart => exact ⟨0, d, r, ar, cr, by omega, by have := HI.out.2; have := HD.out; omega, rfl, HD, HI, HQ, HMem⟩
  case round =>
    obtain ⟨k, d', r', ar', cr', hk, hrl, rfl, HD', HI', HQ', HM'⟩ := hrel
    have v5 := HM'.out.v5
    have hl := HM'.out.lt
    by_cases hlt : k < r'.length
    · obtain ⟨g, rfl⟩ := own_some2 HM'.out.rrow (by omega)
      have hge : r'.getD k 0 = r'[k] := by rw [List.getD_eq_getElem?_getD, List.getElem?_eq_getElem hlt]; rfl
      have ck : wr.cell? ⟨g, k, none⟩ = some (.int .i64 (r'[k] : Int)) := by
        have := HM'.out.rrow.cellAt k (by omega)
        rw [this, List.getElem?_map, List.getElem?_eq_getElem hlt]; rfl
      have hgl := block_lt_of_cell ck
      have hx := HI'.out.1 r'[k] (List.getElem_mem hlt)
      have HST := Lib.hid (step_any w0 V M a0 c0 f af cf d' ad cd r' (some ⟨g, 0, none⟩) cr' wr r'[k] hM HMa.out HF.out HD'.out (by omega) (by have := HD'.out; omega) ⟨hx.2.1, by omega⟩ HHo.out HM'.out)
      have HSI := Lib.hid (stepS_inv (f := f) HMa.out HI'.out r'[k])
      have HSM := Lib.hid (stepS_mem (M := M) (f := f) (d := d') (r := r') r'[k])
      have HRW : Hid (Q = if (stepS M f d' r' r'[k]).1 then runW M f (f.code.length - k) (k + 1) (stepS M f d' r' r'[k]).2.1 (stepS M f d' r' r'[k]).2.2 else (((r'[k] : Nat), false), (stepS M f d' r' r'[k]).2)) := Lib.hid (by
        rw [← HQ'.out, show f.code.length + 1 - k = (f.code.length - k) + 1 by omega, runW, if_pos hlt, hge])
      clear hge HQ' hx
      generalize r'[k] = at_ at ck HST HSI HSM HRW
      generalize stepS M f d' r' at_ = q at HST HSI HSM HRW
      obtain ⟨qb, d2, r2⟩ := q
      simp only at HSI HSM HRW
      have hlk : (k : Int) < (r'.length : Int) := by omega
      cases qb
      · have HRQ := Lib.hid (HRW.out.trans (if_neg (by simp)))
        go_wp2_with fail
        refine HST.out.mono ?_
        rintro e w5 ⟨ar5, cr5, rfl, hm5, -⟩
        have HM5 := Lib.hid hm5
        clear hm5
        go_wp2
        go_ret2
        exact ⟨ar5, cr5, by rw [HRQ.out]; rfl, by rw [HRQ.out]; exact HM5.out⟩
      · have HRQ := Lib.hid (HRW.out.trans (if_pos rfl))
        go_wp2_with fail
        refine HST.out.mono ?_
        rintro e w5 ⟨ar5, cr5, rfl, hm5, -⟩
        have HM5 := Lib.hid hm5
        have h2l : r2.length ≤ f.code.length := by have h1 := HSI.out.1.2; have h2 := HSI.out.2; have h3 := HD'.out; omega
        have h2k : k + 1 ≤ r2.length := by have := HSM.out; omega
        clear hm5
        go_wp2
        go_roundw
        case rel => exact ⟨k + 1, d2, r2, ar5, cr5, h2k, h2l, by go_num, Lib.hid (HSI.out.2.trans HD'.out), Lib.hid HSI.out.1, Lib.hid (by rw [HRQ.out, show f.code.length + 1 - (k + 1) = f.code.length - k by omega]), HM5⟩
        case measure => simp [intOf]; omega
    · have HRQ : Hid (Q = ((0, true), d', r')) := Lib.hid (by
        rw [← HQ'.out, show f.code.length + 1 - k = (f.code.length - k) + 1 by omega, runW, if_neg hlt])
      go_wp2
      go_ret2
      exact ⟨ar', cr', by rw [HRQ.out]; rfl, by rw [HRQ.out]; exact HM'.out⟩
end Go.Proofs.YtmonbjlkkhpinaaDoor
