/-
  Layer 4: a walk that begins.
-/
import Derived.Test.YtmonbjlkkhpinaaDoorVerifyRun
import Derived.Deep.OwnRows
namespace Go.Proofs.YtmonbjlkkhpinaaDoor
open Go.RowKit
set_option linter.unusedVariables false

def NewPost (w : World) (M : List Fn) (a0 : Option Addr) (c0 : Nat) (f : Fn) (af : Option Addr) (cf : Nat) (e : Ending) (w' : World) : Prop :=
  ∃ V ad cd ar cr, e = .returned (.pointer (some ⟨V, 0, none⟩)) ∧ WkMem w V M a0 c0 f af cf ((List.replicate f.code.length (-1)).set 0 0) ad cd [0] ar cr w'
theorem set_next (n k : Nat) (h : k < n) : (List.replicate k (-1) ++ List.replicate (n - k) (0 : Int)).set k (-1) = List.replicate (k + 1) (-1) ++ List.replicate (n - (k + 1)) 0 := by
  rw [List.set_append_right _ _ (by simp)]
  simp only [List.length_replicate, Nat.sub_self]
  rw [show n - k = (n - (k + 1)) + 1 by omega, List.replicate_succ, List.set_cons_zero, List.replicate_succ', List.append_assoc]
  rfl
theorem made_zero (n : Nat) : (madeCells #[.int .i64 0] n).toList = (List.replicate n (0 : Int)).map intV := by
  rw [toList_madeCells_one, List.map_replicate]; rfl
theorem WkMem.start {w W2 : World} {M : List Fn} {a0 : Option Addr} {c0 : Nat} {f : Fn} {af : Option Addr} {cf : Nat} (hz : W2.heap.size = w.heap.size + 1 + 1) (hb : Below w.heap.size w W2) (hr : FnRow w a0 M) (hi : InsRow w af f.code) (hc : f.code.length ≤ 1000) :
    WkMem w (w.heap.size + 1 + 1 + 1) M a0 c0 f af cf (List.replicate f.code.length 0) (some ⟨w.heap.size + 1 + 1, 0, none⟩) f.code.length [] none 0
      ((W2.alloc (.cells (madeCells #[.int .i64 0] f.code.length) 3)).alloc (.cells #[.slice a0 M.length c0, .int .i64 f.args, .int .i64 f.locals, .slice af f.code.length cf, .slice (some ⟨w.heap.size + 1 + 1, 0, none⟩) f.code.length f.code.length, .slice none 0 0] 106)) := by
  have hz3 : (W2.alloc (.cells (madeCells #[.int .i64 0] f.code.length) 3)).heap.size = w.heap.size + 1 + 1 + 1 := by simp; omega
  have hrow : (W2.alloc (.cells (madeCells #[.int .i64 0] f.code.length) 3)).ownsRow 0 3 1 (.slice (some ⟨w.heap.size + 1 + 1, 0, none⟩) f.code.length f.code.length) f.code.length ((List.replicate f.code.length (0 : Int)).map intV) := by
    have := World.ownsRow_lit (base := 0) (e := 3) (size := 1) W2 (madeCells #[.int .i64 0] f.code.length) f.code.length (Nat.zero_le _) (by unfold maxLen; omega) (by rw [size_madeCells]; omega)
    rwa [hz, made_zero] at this
  have hb3 := hb.alloc hb.size (.cells (madeCells #[.int .i64 0] f.code.length) 3)
  generalize W2.alloc (.cells (madeCells #[.int .i64 0] f.code.length) 3) = W3 at hz3 hrow hb3 ⊢
  have hln : (List.replicate f.code.length (0 : Int)).length = f.code.length := by simp
  refine ⟨(cell_new2 _ _ hz3 _ _ 0).trans rfl, (cell_new2 _ _ hz3 _ _ 1).trans rfl, (cell_new2 _ _ hz3 _ _ 2).trans rfl, (cell_new2 _ _ hz3 _ _ 3).trans rfl, ?_, (cell_new2 _ _ hz3 _ _ 5).trans rfl, frozen_new2 _ _ hz3 _ _ 5, ?_, World.ownsRow_nil _ _ _ _, ?_, ?_, by omega, hr, hi, hb3.alloc hb3.size _⟩
  · rw [hln]; exact (cell_new2 _ _ hz3 _ _ 4).trans rfl
  · rw [hln]; exact hrow.alloc _
  · intro k hk
    simp [Value.ownBlock] at hk
    exact ⟨by omega, by omega, by simp [Value.ownBlock]⟩
  · intro k hk
    simp [Value.ownBlock] at hk
set_option maxHeartbeats 8000000 in
theorem newWalk_any (M : List Fn) (a0 : Option Addr) (c0 : Nat) (f : Fn) (af : Option Addr) (cf : Nat) (w : World) (hc : f.code.length ≤ 1000) (hp : 0 < f.code.length) (hr : FnRow w a0 M) (hi : InsRow w af f.code) :
    Calls Tryd.prog 52 #[.agg #[.slice a0 M.length c0], .agg #[.int .i64 f.args, .int .i64 f.locals, .slice af f.code.length cf]] w (NewPost w M a0 c0 f af cf) := by
  have HR := Lib.hid hr
  have HI := Lib.hid hi
  clear hr hi
  obtain ⟨i0, hi, hz0, hz1, hz2⟩ := info_parts infoInt
  have hmk : ∀ u : World, (Instr.makeSlice 58 (.int .i64 (f.code.length : Int)) (.int .i64 (f.code.length : Int))).run Tryd.prog u = .ok (.slice (some ⟨u.heap.size, 0, none⟩) f.code.length f.code.length) (u.alloc (.cells (madeCells #[.int .i64 0] f.code.length) 3)) := fun u => by
    have := run_make (P := Tryd.prog) u 58 3 i0 (.int .i64 0) Tryd.underlying58 hi hz0 .i64 .i64 (f.code.length : Int) (f.code.length : Int) (by omega) (Int.le_refl _) (by rw [hz2]; omega) (by omega)
    rw [hz1] at this
    simpa [Value.cells] using this
  clear hi hz0 hz1 hz2
  obtain ⟨ar, lo, co⟩ := f
  simp only at hc hp hmk HI ⊢
  go_enter Tryd.func52, Tryd.ntmps52
  go_wp2_with fail
  go_region
  go_wp2
  have HM : Hid (WkMem w (w.heap.size + 1 + 1 + 1) M a0 c0 ⟨ar, lo, co⟩ af cf (List.replicate co.length 0) (some ⟨w.heap.size + 1 + 1, 0, none⟩) co.length [] none 0
      ((((w.alloc (.cells #[.slice a0 M.length c0] 24)).alloc (.cells #[.int .i64 ar, .int .i64 lo, .slice af co.length cf] 29)).alloc (.cells (madeCells #[.int .i64 0] co.length) 3)).alloc (.cells #[.slice a0 M.length c0, .int .i64 ar, .int .i64 lo, .slice af co.length cf, .slice (some ⟨w.heap.size + 1 + 1, 0, none⟩) co.length co.length, .slice none 0 0] 106)).drew) := Lib.hid (by
    have := WkMem.start (w := w) (W2 := (w.alloc (.cells #[.slice a0 M.length c0] 24)).alloc (.cells #[.int .i64 ar, .int .i64 lo, .slice af co.length cf] 29)) (M := M) (a0 := a0) (c0 := c0) (f := ⟨ar, lo, co⟩) (af := af) (cf := cf) (by simp) (((Below.refl _ _).alloc (Nat.le_refl _) _).alloc (by simp) _) HR.out HI.out hc
    exact this.keep ((Below.refl _ _).drew))
  generalize ((((w.alloc (.cells #[.slice a0 M.length c0] 24)).alloc (.cells #[.int .i64 ar, .int .i64 lo, .slice af co.length cf] 29)).alloc (.cells (madeCells #[.int .i64 0] co.length) 3)).alloc (.cells #[.slice a0 M.length c0, .int .i64 ar, .int .i64 lo, .slice af co.length cf, .slice (some ⟨w.heap.size + 1 + 1, 0, none⟩) co.length co.length, .slice none 0 0] 106)).drew = W at HM
  clear hmk
  generalize hV : w.heap.size + 1 + 1 + 1 = V at HM
  generalize hDd : w.heap.size + 1 + 1 = D at HM
  clear hV hDd
  go_loopw [20] (fun i wr => ∃ k : Nat, k ≤ co.length ∧ i = .int .i64 k ∧ Hid (WkMem w V M a0 c0 ⟨ar, lo, co⟩ af cf (List.replicate k (-1) ++ List.replicate (co.length - k) 0) (some ⟨D, 0, none⟩) co.length [] none 0 wr)) (fun i _ => co.length - (intOf i).toNat)
  case atStart => exact ⟨0, by omega, rfl, Lib.hid (by simpa using HM.out)⟩
  case round =>
    obtain ⟨k, hk, rfl, HMk⟩ := hrel
    have hln : (List.replicate k (-1) ++ List.replicate (co.length - k) (0 : Int)).length = co.length := by simp; omega
    by_cases hlt : k < co.length
    · have v4 := HMk.out.v4
      rw [hln] at v4
      have hl := HMk.out.lt
      have hD := HMk.out.drow
      have ck : wr.cell? ⟨D, k, none⟩ = some (.int .i64 0) := by
        rw [hln] at hD
        have := hD.cellAt k (by omega)
        rw [this, List.getElem?_map, List.getElem?_append_right (by simp), List.getElem?_replicate, if_pos (by rw [List.length_replicate]; omega)]
        rfl
      have zk : wr.frozen? ⟨D, k, none⟩ = false := by rw [hln] at hD; exact hD.frozenAt k
      have hDl := block_lt_of_cell ck
      have hn := HMk.out.setDepth k (-1)
      rw [set_next co.length k hlt] at hn
      have HN := Lib.hid hn
      have hlk : (k : Int) < (co.length : Int) := by omega
      clear hn hD hln
      go_wp2
      go_roundw
      case rel => exact ⟨k + 1, by omega, by go_num, HN⟩
      case measure => simp [intOf]; omega
    · obtain rfl : k = co.length := by omega
      have HM2 : Hid (WkMem w V M a0 c0 ⟨ar, lo, co⟩ af cf (List.replicate co.length (-1)) (some ⟨D, 0, none⟩) co.length [] none 0 wr) := Lib.hid (by simpa using HMk.out)
      have HRE : Hid (reachS (List.replicate co.length (-1)) [] 0 0 = (true, (List.replicate co.length (-1)).set 0 0, [0])) := Lib.hid (by
        unfold reachS
        rw [if_neg (by rintro (h | h); · omega
                       · rw [List.length_replicate] at h; omega), if_pos (by rw [List.getD_eq_getElem?_getD, List.getElem?_replicate]; simp [hp])]
        rfl)
      have HRA := reach_any w V M a0 c0 ⟨ar, lo, co⟩ af cf (List.replicate co.length (-1)) (some ⟨D, 0, none⟩) co.length [] none 0 wr 0 0 (by simp; omega) (by simp) (by omega) HM2.out
      rw [HRE.out] at HRA
      have HRA := Lib.hid HRA
      clear hln
      go_wp2_with fail
      refine HRA.out.mono ?_
      rintro e w5 ⟨ar5, cr5, rfl, hm5, -⟩
      have HM5 := Lib.hid hm5
      clear hm5
      go_wp2
      go_ret
      exact ⟨V, _, _, ar5, cr5, rfl, HM5.out⟩
end Go.Proofs.YtmonbjlkkhpinaaDoor
