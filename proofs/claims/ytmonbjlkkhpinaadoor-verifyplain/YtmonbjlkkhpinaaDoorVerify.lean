/-
  Layer 4: what instructions take and leave.
-/
import Derived.Test.YtmonbjlkkhpinaaDoorCodeText
import Derived.Test.YtmonbjlkkhpinaaDoorLaid
import Derived.Deep.QuietTactic
import Derived.BigQuiet
namespace Go.Proofs.YtmonbjlkkhpinaaDoor
open Go.RowKit
set_option linter.unusedVariables false

/-- How many arguments a call of the host takes. -/
def hostA (n : Int) : Int := if 0 ≤ n ∧ n < 7 then hostT.getD n.toNat 0 else -1
theorem hostArgs_any (n : Int) (w : World) (hH : HostsAt w) (h1 : -9223372036854775808 ≤ n) (h2 : n ≤ 9223372036854775807) : Calls Tryd.prog 32 #[.int .i64 n] w fun e w' => e = .returned (.int .i64 (hostA n)) ∧ w = w' := by
  by_cases h : 0 ≤ n ∧ n < 7
  · obtain ⟨h3, h4⟩ := h
    obtain ⟨k, rfl⟩ := Int.eq_ofNat_of_zero_le h3
    have HA := Lib.hid (show hostA (k : Int) = hostT.getD k 0 by unfold hostA; rw [if_pos ⟨h3, h4⟩]; rfl)
    have hc := hH k (by omega)
    have hk7 : k < 7 := by omega
    have hl := block_lt_of_cell hc
    clear hH
    generalize hostT.getD k 0 = v at HA hc
    go_enter Tryd.func32, Tryd.ntmps32
    go_wp2
    go_ret
    exact ⟨by rw [HA.out]; rfl, rfl⟩
  · have HA := Lib.hid (show hostA n = -1 from if_neg h)
    by_cases h3 : n < 0
    · go_enter Tryd.func32, Tryd.ntmps32
      go_wp2
      go_ret
      exact ⟨by rw [HA.out]; rfl, rfl⟩
    · have h4 : 7 ≤ n := by omega
      clear h
      go_enter Tryd.func32, Tryd.ntmps32
      go_wp2
      go_ret
      exact ⟨by rw [HA.out]; rfl, rfl⟩
/-- How many arguments a function of that number takes as an entry. -/
def entryN (n : Int) : Int := if n = 0 then 1 else 4
theorem entry_any (n : Int) (w : World) : Calls Tryd.prog 34 #[.int .i64 n] w fun e w' => e = .returned (.int .i64 (entryN n)) ∧ w = w' := by
  by_cases h : n = 0
  · subst h
    go_enter Tryd.func34, Tryd.ntmps34
    go_wp2
    go_ret
    exact ⟨rfl, rfl⟩
  · have hb : (n == 0) = false := by simp; omega
    have HI := Lib.hid (show entryN n = 4 from if_neg h)
    clear h
    go_enter Tryd.func34, Tryd.ntmps34
    go_wp2
    go_ret
    exact ⟨by rw [HI.out]; rfl, rfl⟩
theorem hostT_cases (n : Int) (h : hostA n ≠ -1) : n = 0 ∨ n = 1 ∨ n = 2 ∨ n = 3 ∨ n = 4 ∨ n = 5 ∨ n = 6 := by
  unfold hostA at h
  split at h
  · omega
  · exact absurd rfl h
theorem refHostArgs_any (n : Int) (w : World) : Calls Tryd.prog 33 #[.int .i64 n] w fun e w' => e = .returned (.int .i64 (hostA n)) ∧ w = w' := by
  by_cases h : hostA n = -1
  · have hn : n ≠ 0 ∧ n ≠ 1 ∧ n ≠ 2 ∧ n ≠ 3 ∧ n ≠ 4 ∧ n ≠ 5 ∧ n ≠ 6 := by
      refine ⟨?_, ?_, ?_, ?_, ?_, ?_, ?_⟩ <;> (rintro rfl; revert h; decide)
    obtain ⟨n0, n1, n2, n3, n4, n5, n6⟩ := hn
    have b0 : (n == 0) = false := by simp; omega
    have b1 : (n == 1) = false := by simp; omega
    have b2 : (n == 2) = false := by simp; omega
    have b3 : (n == 3) = false := by simp; omega
    have b4 : (n == 4) = false := by simp; omega
    have b5 : (n == 5) = false := by simp; omega
    have b6 : (n == 6) = false := by simp; omega
    have HA := Lib.hid h
    clear h n0 n1 n2 n3 n4 n5 n6
    go_enter Tryd.func33, Tryd.ntmps33
    go_wp2
    go_ret
    exact ⟨by rw [HA.out]; rfl, rfl⟩
  · have hc := hostT_cases n h
    clear h
    rcases hc with rfl | rfl | rfl | rfl | rfl | rfl | rfl
    all_goals
      go_enter Tryd.func33, Tryd.ntmps33
      go_wp2
      go_ret
      exact ⟨rfl, rfl⟩
/-- What a called function takes; below 0: there is none such. -/
def callA (M : List Fn) (n : Int) : Int := if 0 ≤ n ∧ n < (M.length : Int) then (M.getD n.toNat ⟨0, 0, []⟩).args else -1
/-- What an instruction takes, leaves; may it be. -/
def effS (M : List Fn) (locals : Int) (x : Nat × Int) : Int × Int × Bool :=
  if x.1 = 1 then (0, 1, true)
  else if x.1 = 17 then (0, 1, decide (0 ≤ x.2) && decide (x.2 < locals))
  else if x.1 = 18 then (1, 0, decide (0 ≤ x.2) && decide (x.2 < locals))
  else if x.1 = 2 ∨ x.1 = 14 ∨ x.1 = 16 then (1, 0, true)
  else if x.1 = 3 then (1, 2, true)
  else if x.1 = 4 then (2, 2, true)
  else if x.1 = 5 ∨ x.1 = 6 ∨ x.1 = 7 ∨ x.1 = 8 ∨ x.1 = 9 ∨ x.1 = 10 ∨ x.1 = 11 then (2, 1, true)
  else if x.1 = 12 ∨ x.1 = 19 ∨ x.1 = 21 then (1, 1, true)
  else if x.1 = 20 then (2, 0, true)
  else if x.1 = 13 then (0, 0, true)
  else if x.1 = 15 then (callA M x.2, 1, decide (0 ≤ callA M x.2))
  else if x.1 = 22 then (hostA x.2, 1, decide (0 ≤ hostA x.2))
  else (0, 0, false)
theorem oneOf_any (n : Int) (w : World) : Calls Tryd.prog 71 #[.int .i64 n] w fun e w' => e = .returned (.agg #[.int .i64 n, .int .i64 1, .bool (decide (0 ≤ n))]) ∧ Below w.heap.size w w' := by
  go_enter Tryd.func71, Tryd.ntmps71
  go_wp2
  exact bodyPost_ret (v := .agg #[.int .i64 n, .int .i64 1, .bool (decide (0 ≤ n))]) (by simp [results, Tryd.results71, go_sem]) rfl ⟨rfl, (Below.refl _ _).alloc (Nat.le_refl _) _⟩
/-- What the walk's thing holds that effects hang on. -/
structure WkEff (V : Nat) (M : List Fn) (a0 : Option Addr) (c0 : Nat) (locals : Int) (wr : World) : Prop where
  v0 : wr.cell? ⟨V, 0, none⟩ = some (.slice a0 M.length c0)
  v2 : wr.cell? ⟨V, 2, none⟩ = some (.int .i64 locals)
  fns : FnRow wr a0 M
theorem isLocal_any (V : Nat) (M : List Fn) (a0 : Option Addr) (c0 : Nat) (locals n : Int) (w : World) (h : WkEff V M a0 c0 locals w) :
    Calls Tryd.prog 70 #[.pointer (some ⟨V, 0, none⟩), .int .i64 n] w fun e w' => e = .returned (.bool (decide (0 ≤ n) && decide (n < locals))) ∧ w = w' := by
  have v2 := h.v2
  have hl := block_lt_of_cell v2
  clear h
  by_cases h0 : 0 ≤ n
  · have hd : decide (0 ≤ n) = true := by simpa using h0
    go_enter Tryd.func70, Tryd.ntmps70
    go_wp2
    go_ret
    exact ⟨by simp, rfl⟩
  · have hd : decide (0 ≤ n) = false := by simpa using h0
    go_enter Tryd.func70, Tryd.ntmps70
    go_wp2
    go_ret
    exact ⟨by simp, rfl⟩
theorem callArgs_any (V : Nat) (M : List Fn) (a0 : Option Addr) (c0 : Nat) (locals n : Int) (w : World) (hM : M.length ≤ 1000) (h : WkEff V M a0 c0 locals w) :
    Calls Tryd.prog 72 #[.pointer (some ⟨V, 0, none⟩), .int .i64 n] w fun e w' => e = .returned (.int .i64 (callA M n)) ∧ w = w' := by
  have v0 := h.v0
  have hl := block_lt_of_cell v0
  have HF := Lib.hid h.fns
  clear h
  by_cases h0 : 0 ≤ n ∧ n < (M.length : Int)
  · obtain ⟨h1, h2⟩ := h0
    obtain ⟨k, rfl⟩ := Int.eq_ofNat_of_zero_le h1
    have hk : k < M.length := by omega
    obtain ⟨b, off, rfl, hcell⟩ := HF.out (by omega)
    obtain ⟨c1, -, -⟩ := hcell k hk
    have hb := block_lt_of_cell c1
    have HA := Lib.hid (show callA M (k : Int) = M[k].args by
      unfold callA
      rw [if_pos ⟨h1, h2⟩, List.getD_eq_getElem?_getD, Int.toNat_natCast, List.getElem?_eq_getElem hk]; rfl)
    clear hcell h1 h2
    generalize M[k].args = v at HA c1
    go_enter Tryd.func72, Tryd.ntmps72
    go_wp2
    go_ret
    exact ⟨by rw [HA.out]; rfl, rfl⟩
  · have HA := Lib.hid (show callA M n = -1 from if_neg h0)
    by_cases h3 : n < 0
    · go_enter Tryd.func72, Tryd.ntmps72
      go_wp2
      go_ret
      exact ⟨by rw [HA.out]; rfl, rfl⟩
    · have h4 : (M.length : Int) ≤ n := by omega
      have h5 : 0 ≤ n := by omega
      clear h0
      go_enter Tryd.func72, Tryd.ntmps72
      go_wp2
      go_ret
      exact ⟨by rw [HA.out]; rfl, rfl⟩
theorem WkEff.below {V : Nat} {M : List Fn} {a0 : Option Addr} {c0 : Nat} {locals : Int} {wr w' : World} (h : WkEff V M a0 c0 locals wr) (hb : Below wr.heap.size wr w') : WkEff V M a0 c0 locals w' :=
  ⟨(hb.cell (p := ⟨V, 0, none⟩) (block_lt_of_cell h.v0)).trans h.v0, (hb.cell (p := ⟨V, 2, none⟩) (block_lt_of_cell h.v2)).trans h.v2, h.fns.below hb⟩
theorem cell_new2 (W : World) (n : Nat) (h : W.heap.size = n) (cs : Array Value) (t : TypeId) (j : Nat) : (W.alloc (.cells cs t)).cell? ⟨n, j, none⟩ = cs[j]? := by subst h; simp
theorem frozen_new2 (W : World) (n : Nat) (h : W.heap.size = n) (cs : Array Value) (t : TypeId) (j : Nat) : (W.alloc (.cells cs t)).frozen? ⟨n, j, none⟩ = false := by subst h; exact frozen_new _ _ _ _
def EffPost (w : World) (e3 : Int × Int × Bool) (r : Ending) (w' : World) : Prop := r = .returned (.agg #[.int .i64 e3.1, .int .i64 e3.2.1, .bool e3.2.2]) ∧ Below w.heap.size w w'
theorem effS_cases (o : Nat) : (o = 1 ∨ o = 2 ∨ o = 3 ∨ o = 4 ∨ o = 5 ∨ o = 6 ∨ o = 7 ∨ o = 8 ∨ o = 9 ∨ o = 10 ∨ o = 11 ∨ o = 12 ∨ o = 13 ∨ o = 14 ∨ o = 16 ∨ o = 19 ∨ o = 20 ∨ o = 21) ∨ o = 15 ∨ o = 17 ∨ o = 18 ∨ o = 22 ∨ (o = 0 ∨ 22 < o) := by omega
set_option maxHeartbeats 4000000 in
theorem effectOf_any (V : Nat) (M : List Fn) (a0 : Option Addr) (c0 : Nat) (locals : Int) (o : Nat) (ag : Int) (w : World) (hM : M.length ≤ 1000) (hH : HostsAt w) (hx : InsOk (o, ag)) (h : WkEff V M a0 c0 locals w) :
    Calls Tryd.prog 69 #[.pointer (some ⟨V, 0, none⟩), .agg #[.int .u8 o, .int .i64 ag]] w (EffPost w (effS M locals (o, ag))) := by
  have hbb : Below w.heap.size w ((w.alloc (.cells #[.int .u8 o, .int .i64 ag] 47)).alloc (.cells #[.int .i64 0, .int .i64 0, .bool false] 131)) := ((Below.refl _ _).alloc (Nat.le_refl _) _).alloc (by simp) _
  have HL := Lib.hid (isLocal_any V M a0 c0 locals ag _ (h.below hbb))
  have HCA := Lib.hid (callArgs_any V M a0 c0 locals ag _ hM (h.below hbb))
  have HHA := Lib.hid (hostArgs_any ag _ (hH.below hbb) hx.2.1 hx.2.2)
  have HBB := Lib.hid hbb
  clear hbb h hH
  rcases effS_cases o with h1 | rfl | rfl | rfl | rfl | h1
  · rcases h1 with rfl | rfl | rfl | rfl | rfl | rfl | rfl | rfl | rfl | rfl | rfl | rfl | rfl | rfl | rfl | rfl | rfl | rfl
    all_goals
      clear hx HL HCA HHA
      go_enter Tryd.func69, Tryd.ntmps69
      go_wp2
      first
        | exact bodyPost_ret (v := .agg #[.int .i64 0, .int .i64 1, .bool true]) (by simp [results, Tryd.results69, go_sem]) rfl ⟨rfl, ((Below.refl _ _).alloc (Nat.le_refl _) _).alloc (by simp) _⟩
        | exact bodyPost_ret (v := .agg #[.int .i64 1, .int .i64 0, .bool true]) (by simp [results, Tryd.results69, go_sem]) rfl ⟨rfl, ((Below.refl _ _).alloc (Nat.le_refl _) _).alloc (by simp) _⟩
        | exact bodyPost_ret (v := .agg #[.int .i64 1, .int .i64 2, .bool true]) (by simp [results, Tryd.results69, go_sem]) rfl ⟨rfl, ((Below.refl _ _).alloc (Nat.le_refl _) _).alloc (by simp) _⟩
        | exact bodyPost_ret (v := .agg #[.int .i64 2, .int .i64 2, .bool true]) (by simp [results, Tryd.results69, go_sem]) rfl ⟨rfl, ((Below.refl _ _).alloc (Nat.le_refl _) _).alloc (by simp) _⟩
        | exact bodyPost_ret (v := .agg #[.int .i64 2, .int .i64 1, .bool true]) (by simp [results, Tryd.results69, go_sem]) rfl ⟨rfl, ((Below.refl _ _).alloc (Nat.le_refl _) _).alloc (by simp) _⟩
        | exact bodyPost_ret (v := .agg #[.int .i64 1, .int .i64 1, .bool true]) (by simp [results, Tryd.results69, go_sem]) rfl ⟨rfl, ((Below.refl _ _).alloc (Nat.le_refl _) _).alloc (by simp) _⟩
        | exact bodyPost_ret (v := .agg #[.int .i64 2, .int .i64 0, .bool true]) (by simp [results, Tryd.results69, go_sem]) rfl ⟨rfl, ((Below.refl _ _).alloc (Nat.le_refl _) _).alloc (by simp) _⟩
        | exact bodyPost_ret (v := .agg #[.int .i64 0, .int .i64 0, .bool true]) (by simp [results, Tryd.results69, go_sem]) rfl ⟨rfl, ((Below.refl _ _).alloc (Nat.le_refl _) _).alloc (by simp) _⟩
  · clear hx HL HHA
    have HE : Hid (effS M locals (15, ag) = (callA M ag, 1, decide (0 ≤ callA M ag))) := Lib.hid rfl
    generalize callA M ag = tk at HCA HE
    go_enter Tryd.func69, Tryd.ntmps69
    go_wp2_with fail
    refine HCA.out.mono ?_
    rintro e w' ⟨rfl, rfl⟩
    go_wp2_with fail
    refine (oneOf_any tk _).mono ?_
    rintro e w1 ⟨rfl, hb1⟩
    have hz : ((w.alloc (.cells #[.int .u8 15, .int .i64 ag] 47)).alloc (.cells #[.int .i64 0, .int .i64 0, .bool false] 131)).heap.size = w.heap.size + 1 + 1 := by simp
    have c0 : w1.cell? ⟨w.heap.size + 1, 0, none⟩ = some (.int .i64 0) := (hb1.cell (p := ⟨w.heap.size + 1, 0, none⟩) (by show w.heap.size + 1 < _; omega)).trans ((cell_new2 _ _ (by simp) _ _ 0).trans rfl)
    have c1 : w1.cell? ⟨w.heap.size + 1, 1, none⟩ = some (.int .i64 0) := (hb1.cell (p := ⟨w.heap.size + 1, 1, none⟩) (by show w.heap.size + 1 < _; omega)).trans ((cell_new2 _ _ (by simp) _ _ 1).trans rfl)
    have c2 : w1.cell? ⟨w.heap.size + 1, 2, none⟩ = some (.bool false) := (hb1.cell (p := ⟨w.heap.size + 1, 2, none⟩) (by show w.heap.size + 1 < _; omega)).trans ((cell_new2 _ _ (by simp) _ _ 2).trans rfl)
    have z0 := (hb1.frozen (p := ⟨w.heap.size + 1, 0, none⟩) (by show w.heap.size + 1 < _; omega)).trans (frozen_new2 _ _ (by simp) _ _ 0)
    have z1 := (hb1.frozen (p := ⟨w.heap.size + 1, 1, none⟩) (by show w.heap.size + 1 < _; omega)).trans (frozen_new2 _ _ (by simp) _ _ 1)
    have z2 := (hb1.frozen (p := ⟨w.heap.size + 1, 2, none⟩) (by show w.heap.size + 1 < _; omega)).trans (frozen_new2 _ _ (by simp) _ _ 2)
    have hz1 := block_lt_of_cell c0
    have HB1 := Lib.hid (HBB.out.trans (hb1.mono (by omega)))
    clear hb1 hz
    generalize decide (0 ≤ tk) = bb at HE
    go_wp2
    exact bodyPost_ret (v := .agg #[.int .i64 tk, .int .i64 1, .bool bb]) (by simp [results, Tryd.results69, go_sem, c0, c1, c2]) rfl ⟨by rw [HE.out], ((HB1.out.setCell (by simp) _).setCell (by simp) _).setCell (by simp) _⟩
  · clear hx HCA HHA
    have HE : Hid (effS M locals (17, ag) = (0, 1, decide (0 ≤ ag) && decide (ag < locals))) := Lib.hid rfl
    generalize (decide (0 ≤ ag) && decide (ag < locals)) = bb at HL HE
    go_enter Tryd.func69, Tryd.ntmps69
    go_wp2_with fail
    refine HL.out.mono ?_
    rintro e w' ⟨rfl, rfl⟩
    go_wp2
    exact bodyPost_ret (v := .agg #[.int .i64 0, .int .i64 1, .bool bb]) (by simp [results, Tryd.results69, go_sem]) rfl ⟨by rw [HE.out], ((Below.refl _ _).alloc (Nat.le_refl _) _).alloc (by simp) _⟩
  · clear hx HCA HHA
    have HE : Hid (effS M locals (18, ag) = (1, 0, decide (0 ≤ ag) && decide (ag < locals))) := Lib.hid rfl
    generalize (decide (0 ≤ ag) && decide (ag < locals)) = bb at HL HE
    go_enter Tryd.func69, Tryd.ntmps69
    go_wp2_with fail
    refine HL.out.mono ?_
    rintro e w' ⟨rfl, rfl⟩
    go_wp2
    exact bodyPost_ret (v := .agg #[.int .i64 1, .int .i64 0, .bool bb]) (by simp [results, Tryd.results69, go_sem]) rfl ⟨by rw [HE.out], ((Below.refl _ _).alloc (Nat.le_refl _) _).alloc (by simp) _⟩
  · clear hx HL HCA
    have HE : Hid (effS M locals (22, ag) = (hostA ag, 1, decide (0 ≤ hostA ag))) := Lib.hid rfl
    generalize hostA ag = tk at HHA HE
    go_enter Tryd.func69, Tryd.ntmps69
    go_wp2_with fail
    refine HHA.out.mono ?_
    rintro e w' ⟨rfl, rfl⟩
    go_wp2_with fail
    refine (oneOf_any tk _).mono ?_
    rintro e w1 ⟨rfl, hb1⟩
    have hz : ((w.alloc (.cells #[.int .u8 22, .int .i64 ag] 47)).alloc (.cells #[.int .i64 0, .int .i64 0, .bool false] 131)).heap.size = w.heap.size + 1 + 1 := by simp
    have c0 : w1.cell? ⟨w.heap.size + 1, 0, none⟩ = some (.int .i64 0) := (hb1.cell (p := ⟨w.heap.size + 1, 0, none⟩) (by show w.heap.size + 1 < _; omega)).trans ((cell_new2 _ _ (by simp) _ _ 0).trans rfl)
    have c1 : w1.cell? ⟨w.heap.size + 1, 1, none⟩ = some (.int .i64 0) := (hb1.cell (p := ⟨w.heap.size + 1, 1, none⟩) (by show w.heap.size + 1 < _; omega)).trans ((cell_new2 _ _ (by simp) _ _ 1).trans rfl)
    have c2 : w1.cell? ⟨w.heap.size + 1, 2, none⟩ = some (.bool false) := (hb1.cell (p := ⟨w.heap.size + 1, 2, none⟩) (by show w.heap.size + 1 < _; omega)).trans ((cell_new2 _ _ (by simp) _ _ 2).trans rfl)
    have z0 := (hb1.frozen (p := ⟨w.heap.size + 1, 0, none⟩) (by show w.heap.size + 1 < _; omega)).trans (frozen_new2 _ _ (by simp) _ _ 0)
    have z1 := (hb1.frozen (p := ⟨w.heap.size + 1, 1, none⟩) (by show w.heap.size + 1 < _; omega)).trans (frozen_new2 _ _ (by simp) _ _ 1)
    have z2 := (hb1.frozen (p := ⟨w.heap.size + 1, 2, none⟩) (by show w.heap.size + 1 < _; omega)).trans (frozen_new2 _ _ (by simp) _ _ 2)
    have hz1 := block_lt_of_cell c0
    have HB1 := Lib.hid (HBB.out.trans (hb1.mono (by omega)))
    clear hb1 hz
    generalize decide (0 ≤ tk) = bb at HE
    go_wp2
    exact bodyPost_ret (v := .agg #[.int .i64 tk, .int .i64 1, .bool bb]) (by simp [results, Tryd.results69, go_sem, c0, c1, c2]) rfl ⟨by rw [HE.out], ((HB1.out.setCell (by simp) _).setCell (by simp) _).setCell (by simp) _⟩
  · have HE : Hid (effS M locals (o, ag) = (0, 0, false)) := Lib.hid (by
      unfold effS
      simp only
      repeat (first | rw [if_neg (by omega)] | rfl))
    have b1 : ((o : Int) == 1) = false := by simp; omega
    have b2 : ((o : Int) == 2) = false := by simp; omega
    have b3 : ((o : Int) == 3) = false := by simp; omega
    have b4 : ((o : Int) == 4) = false := by simp; omega
    have b5 : ((o : Int) == 5) = false := by simp; omega
    have b6 : ((o : Int) == 6) = false := by simp; omega
    have b7 : ((o : Int) == 7) = false := by simp; omega
    have b8 : ((o : Int) == 8) = false := by simp; omega
    have b9 : ((o : Int) == 9) = false := by simp; omega
    have b10 : ((o : Int) == 10) = false := by simp; omega
    have b11 : ((o : Int) == 11) = false := by simp; omega
    have b12 : ((o : Int) == 12) = false := by simp; omega
    have b13 : ((o : Int) == 13) = false := by simp; omega
    have b14 : ((o : Int) == 14) = false := by simp; omega
    have b15 : ((o : Int) == 15) = false := by simp; omega
    have b16 : ((o : Int) == 16) = false := by simp; omega
    have b17 : ((o : Int) == 17) = false := by simp; omega
    have b18 : ((o : Int) == 18) = false := by simp; omega
    have b19 : ((o : Int) == 19) = false := by simp; omega
    have b20 : ((o : Int) == 20) = false := by simp; omega
    have b21 : ((o : Int) == 21) = false := by simp; omega
    have b22 : ((o : Int) == 22) = false := by simp; omega
    clear hx HL HCA HHA h1
    go_enter Tryd.func69, Tryd.ntmps69
    go_wp2
    exact bodyPost_ret (v := .agg #[.int .i64 0, .int .i64 0, .bool false]) (by simp [results, Tryd.results69, go_sem]) rfl ⟨by rw [HE.out], ((Below.refl _ _).alloc (Nat.le_refl _) _).alloc (by simp) _⟩
end Go.Proofs.YtmonbjlkkhpinaaDoor
