/-
  PROVED: for every text, the law UnitReads answers true, and all read afterwards as before. No condition of our own.
-/
import Derived.Test.YtdkokfpbmmjfkaaUnit7
import Derived.Laws.StructEq
import Derived.Deep.RegionHeld3
import Derived.Test.YtdkokfpbmmjfkaaWireOut
import Derived.OpenShut
import Derived.ProofKit
import Derived.ChangeSlices
import Derived.Test.YtdkokfpbmmjfkaaRecs
import Derived.Deep.Slices
import Derived.Test.YtdkokfpbmmjfkaaRefURead1
import Derived.Test.YtdkokfpbmmjfkaaUnB
import Derived.Test.YtdkokfpbmmjfkaaOrdText
import Derived.Test.YtdkokfpbmmjfkaaSums
import Derived.Below
import Derived.Deep.LoopGhost
import Derived.WalkKit
import Derived.ShutString
import Derived.ChangeOld
import Derived.SliceStrings
namespace Go.Proofs.Ytdkokfpbmmjfkaa
open Go.RowKit
set_option linter.unusedVariables false

set_option maxHeartbeats 1000000 in
theorem arr5_in (k : Nat) (a b c d e a' b' c' d' e' : Int) (w : World) : (Op.equalIn (k + 2) 33 (.agg #[.int .i64 a, .int .i64 b, .int .i64 c, .int .i64 d, .int .i64 e]) (.agg #[.int .i64 a', .int .i64 b', .int .i64 c', .int .i64 d', .int .i64 e'])).run Try.prog w = .ok (a == a' && (b == b' && (c == c' && (d == d' && e == e')))) w := by
  obtain ⟨i0, hi, hz0, hz1, hz2⟩ := info_is info64
  have hE : ∀ (x y : Int) (w : World), (Op.equalIn (k + 1) 2 (.int .i64 x) (.int .i64 y)).run Try.prog w = .ok (x == y) w := fun x y w => by
    simp [Op.equalIn, run_underlying Try.underlying2]
  have hr : List.range' 0 5 = [0, 1, 2, 3, 4] := rfl
  unfold Op.equalIn
  simp only [Sem.run_bind, run_underlying Try.underlying33, Result.andThen_ok]
  by_cases h0 : a = a'
  · by_cases h1 : b = b'
    · by_cases h2 : c = c'
      · by_cases h3 : d = d'
        · by_cases h4 : e = e'
          · simp [sizeOf, typeInfo, hi, hz1, part, hE, hr, isAgg, run_underlying Try.underlying2, h0, h1, h2, h3, h4]
          · simp [sizeOf, typeInfo, hi, hz1, part, hE, hr, isAgg, run_underlying Try.underlying2, h0, h1, h2, h3, h4]
        · simp [sizeOf, typeInfo, hi, hz1, part, hE, hr, isAgg, run_underlying Try.underlying2, h0, h1, h2, h3]
      · simp [sizeOf, typeInfo, hi, hz1, part, hE, hr, isAgg, run_underlying Try.underlying2, h0, h1, h2]
    · simp [sizeOf, typeInfo, hi, hz1, part, hE, hr, isAgg, run_underlying Try.underlying2, h0, h1]
  · simp [sizeOf, typeInfo, hi, hz1, part, hE, hr, isAgg, run_underlying Try.underlying2, h0]
theorem arr5_eq (a b c d e a' b' c' d' e' : Int) (w : World) : (binOp .eql 33 (.agg #[.int .i64 a, .int .i64 b, .int .i64 c, .int .i64 d, .int .i64 e]) (.agg #[.int .i64 a', .int .i64 b', .int .i64 c', .int .i64 d', .int .i64 e'])).run Try.prog w = .ok (.bool (a == a' && (b == b' && (c == c' && (d == d' && e == e'))))) w := by
  have h := arr5_in 9998 a b c d e a' b' c' d' e' w
  go_simp
def unQ (u v : Un) : Bool := u.id == v.id && (u.kind == v.kind && (u.owner == v.owner && (u.x == v.x && (u.y == v.y && u.health == v.health))))
theorem unQ_iff (u v : Un) : unQ u v = true ↔ u = v := by
  obtain ⟨i, a, b, c, d, e⟩ := u
  obtain ⟨i', a', b', c', d', e'⟩ := v
  simp [unQ]
theorem un_eq (u v : Un) (w : World) : (binOp .eql 35 (unV u) (unV v)).run Try.prog w = .ok (.bool (unQ u v)) w := by
  obtain ⟨i, a, b, c, d, e⟩ := u
  obtain ⟨i', a', b', c', d', e'⟩ := v
  have h := arr5_in 9997 a b c d e a' b' c' d' e' w
  unfold unV unQ
  simp only
  generalize (a == a' && (b == b' && (c == c' && (d == d' && e == e')))) = q at h ⊢
  by_cases hi : i = i'
  · subst hi
    go_simp
    cases q <;> simp
  · go_simp
theorem un_neq (u v : Un) (w : World) : (binOp .neq 35 (unV u) (unV v)).run Try.prog w = .ok (.bool (!unQ u v)) w := by
  obtain ⟨i, a, b, c, d, e⟩ := u
  obtain ⟨i', a', b', c', d', e'⟩ := v
  have h := arr5_in 9997 a b c d e a' b' c' d' e' w
  unfold unV unQ
  simp only
  generalize (a == a' && (b == b' && (c == c' && (d == d' && e == e')))) = q at h ⊢
  by_cases hi : i = i'
  · subst hi
    go_simp
    cases q <;> simp
  · go_simp
theorem run_neq (u v : Un) (w : World) : (binOp .neq 113 (unV u) (unV v)).run Try.prog w = .ok (.bool (!unQ u v)) w := by
  obtain ⟨i, a, b, c, d, e⟩ := u
  obtain ⟨i', a', b', c', d', e'⟩ := v
  have h := arr5_in 9997 a b c d e a' b' c' d' e' w
  unfold unV unQ
  simp only
  generalize (a == a' && (b == b' && (c == c' && (d == d' && e == e')))) = q at h ⊢
  by_cases hi : i = i'
  · subst hi
    go_simp
    cases q <;> simp
  · go_simp
def oneU : Un := ⟨1, 3, 1, 0, 5, 1000⟩
theorem one_find : FindIs [oneU] 1 0 := ⟨by decide, fun h hh => by
  have : h = 0 := by simpa using hh
  subst this
  simp [oneU]⟩
set_option maxRecDepth 100000 in
set_option maxHeartbeats 2000000 in
theorem awake8_any (w : World) : Calls Try.prog 11 #[] w fun e w' => e = .returned (.bool true) ∧ Below w.heap.size w w' := by
  have HNEW := Lib.hid (tabNew_any (fun k => k < w.heap.size) w (fun k hk => hk))
  have HSP := Lib.hid (fun (W : World) (h : TabQ (fun k => k < w.heap.size) w.heap.size [] 0 W) => (show Calls Try.prog 50 #[.pointer (some ⟨w.heap.size, 0, none⟩), .int .i64 3, .int .i64 1, .int .i64 0, .int .i64 5] W fun r w' => r = .returned (.int .i64 1) ∧ TabTo (fun k => k < w.heap.size) w.heap.size [oneU] 1 W w' from spawn_yes w.heap.size [] 0 3 1 0 5 W h (by decide)))
  have HUN := Lib.hid (fun (W : World) (h : TabQ (fun k => k < w.heap.size) w.heap.size [oneU] 1 W) => tabUnit_some w.heap.size [oneU] 1 1 0 W h one_find (by decide) rfl)
  have HST := Lib.hid (fun (W : World) (h : TabQ (fun k => k < w.heap.size) w.heap.size [oneU] 1 W) => set_kill w.heap.size [oneU] 1 1 0 0 W h one_find (by decide) rfl (by decide))
  have harr := arr5_eq 3 1 0 5 1000 3 1 0 5 1000
  have hbt : ((3 : Int) == 3 && ((1 : Int) == 1 && ((0 : Int) == 0 && ((5 : Int) == 5 && (1000 : Int) == 1000)))) = true := by decide
  rw [hbt] at harr
  clear hbt
  go_enter Try.func11, Try.ntmps11
  go_wp2_with fail
  refine HNEW.out.mono ?_
  rintro r w1 ⟨rfl, hq1, hb1⟩
  have HQ1 := Lib.hid hq1
  have HB1 := Lib.hid hb1
  clear hq1 hb1 HNEW
  go_wp2_with fail
  refine (HSP.out _ HQ1.out).mono ?_
  rintro r w2 ⟨rfl, hq2, ht2⟩
  have HQ2 := Lib.hid hq2
  have HB2 := Lib.hid (HB1.out.trans (ht2.below HB1.out.size (fun k hk h => h hk)))
  clear hq2 ht2 HSP HB1 HQ1
  go_wp2_with fail
  refine (HUN.out _ HQ2.out).mono ?_
  rintro r w3 ⟨rfl, hb3⟩
  have HQ3 := Lib.hid (HQ2.out.below hb3)
  have HB3 := Lib.hid (HB2.out.trans (hb3.mono HB2.out.size))
  clear hb3 HUN HQ2 HB2
  unfold unV oneU
  simp only [List.getElem_cons_zero]
  have HQ4 := Lib.hid (HQ3.out.below ((Below.refl _ w3).alloc (Nat.le_refl _) (.cells #[.int .i64 1, .int .i64 3, .int .i64 1, .int .i64 0, .int .i64 5, .int .i64 1000] 35)))
  have HB4 := Lib.hid (HB3.out.alloc HB3.out.size (.cells #[.int .i64 1, .int .i64 3, .int .i64 1, .int .i64 0, .int .i64 5, .int .i64 1000] 35))
  go_wp2_with fail
  refine (HST.out _ HQ4.out).mono ?_
  rintro r w5 ⟨rfl, hq5, ht5⟩
  have HQ5 := Lib.hid hq5
  have HB5 := Lib.hid (HB4.out.trans (ht5.below HB4.out.size (fun k hk h => h hk)))
  have HLE := Lib.hid (tabLen_any w.heap.size _ 1 w5 hq5)
  have HNX := Lib.hid (tabNext_any w.heap.size _ 1 w5 hq5)
  clear hq5 ht5 HST HQ4 HB4 HQ3 HB3
  go_wp2_with fail
  refine HLE.out.mono ?_
  rintro r w6 ⟨rfl, rfl⟩
  have hz : (([oneU].eraseIdx 0).length : Nat) = 0 := rfl
  rw [hz]
  go_wp2_with fail
  refine HNX.out.mono ?_
  rintro r w6 ⟨rfl, rfl⟩
  go_wp2
  go_ret
  exact ⟨rfl, HB5.out⟩
end Go.Proofs.Ytdkokfpbmmjfkaa
namespace Go.Proofs.Ytdkokfpbmmjfkaa
open Go.RowKit
set_option linter.unusedVariables false

theorem runTy : RecTy 113 6 (.agg #[.int .i64 0, .int .i64 0, .int .i64 0, .int .i64 0, .int .i64 0, .int .i64 0]) := ⟨by kernel_rfl, rfl, by decide, by decide⟩
/-- The place, or -1. -/
def findR (us : List Un) (id : Int) (n : Nat) : Int := if foundQ us id n then (n : Int) else -1
theorem found_at {us : List Un} {id : Int} {n k : Nat} (hr : Rising us) (hn : FindIs us id n) (hk : k < us.length) (he : us[k].id = id) : k = n ∧ foundQ us id n = true := by
  have h1 : ¬ k < n := fun h => by have := (hn.2 k hk).2 h; omega
  have h2 : ¬ n < k := fun h => by
    have hnl : n < us.length := by omega
    have := hr n k hnl hk h
    have h3 := (hn.2 n hnl).1 (by omega)
    omega
  have e : k = n := by omega
  subst e
  exact ⟨rfl, by rw [foundQ_lt hk]; simpa using he⟩
set_option maxRecDepth 100000 in
set_option maxHeartbeats 1000000 in
theorem refFind_any (a : Option Addr) (c : Nat) (us : List Un) (nx id : Int) (n : Nat) (w : World) (hl : us.length ≤ 100000) (hrise : Rising us) (hr : UnRow w a us) (hn : FindIs us id n) :
    Calls Try.prog 16 #[.agg #[.slice a us.length c, .int .i64 nx], .int .i64 id] w fun r w' => r = .returned (.int .i64 (findR us id n)) ∧ Below w.heap.size w w' := by
  have HR := Lib.hid hr
  have HN := Lib.hid hn
  have HI := Lib.hid hrise
  have HB0 := Lib.hid ((Below.refl _ w).alloc (Nat.le_refl _) (.cells #[.slice a us.length c, .int .i64 nx] 28))
  clear hr hn hrise
  go_enter Try.func16, Try.ntmps16
  go_wp2
  go_loopw [10] (fun i wr => ∃ k : Nat, k ≤ us.length ∧ i = .int .i64 k ∧ Hid ((∀ j (hj : j < us.length), j < k → us[j].id ≠ id) ∧ Below w.heap.size w wr)) (fun i _ => us.length - (intOf i).toNat)
  case atStart => exact ⟨0, by omega, rfl, Lib.hid ⟨fun j hj h => by omega, HB0.out⟩⟩
  case round =>
    obtain ⟨k, hk, rfl, HM⟩ := hrel
    by_cases hlt : k < us.length
    · obtain ⟨b, off, rfl, hb, c0, c1, c2, c3, c4, c5⟩ := (HR.out.below HM.out.2).at hlt
      have HX := Lib.hid (show us[k].id = us[k].id from rfl)
      have HF := Lib.hid (fun he => found_at HI.out HN.out hlt he)
      have HNX := Lib.hid (show us[k].id ≠ id → ∀ j (hj : j < us.length), j < k + 1 → us[j].id ≠ id from fun h j hj hjk => by
        by_cases e : j = k
        · subst e; exact h
        · exact HM.out.1 j hj (by omega))
      generalize us[k] = u at c0 c1 c2 c3 c4 c5 HF HNX HX
      obtain ⟨u0, u1, u2, u3, u4, u5⟩ := u
      simp only at c0 c1 c2 c3 c4 c5 HF HNX
      have HB1 := Lib.hid (HM.out.2.alloc HM.out.2.size (.cells #[.int .i64 u0, .int .i64 u1, .int .i64 u2, .int .i64 u3, .int .i64 u4, .int .i64 u5] 113))
      by_cases he : u0 = id
      · subst he
        have HE := Lib.hid (show findR us u0 n = (k : Int) by
          obtain ⟨e, hq⟩ := HF.out rfl
          unfold findR; rw [hq, ← e]; rfl)
        go_wp2
        go_ret
        exact ⟨by rw [HE.out]; rfl, HB1.out⟩
      · have heb : (u0 == id) = false := by simpa using he
        have HN2 := Lib.hid (HNX.out he)
        clear he
        go_wp2
        go_roundw
        case rel => exact ⟨k + 1, by omega, by go_num, Lib.hid ⟨HN2.out, HB1.out⟩⟩
        case measure => simp [intOf]; omega
    · have HE := Lib.hid (show findR us id n = -1 by
        unfold findR
        cases hq : foundQ us id n
        · rfl
        · obtain ⟨hnl, hne⟩ := findIs_lt hq
          exact absurd hne (HM.out.1 n hnl (by omega)))
      go_wp2
      go_ret
      exact ⟨by rw [HE.out]; rfl, HM.out.2⟩
/-- What the document's calls answer: a table of its own, or the one that came. -/
def RPost (w : World) (a0 : Option Addr) (us : List Un) (nx : Int) (q : Value) (r : Ending) (w' : World) : Prop :=
  ∃ a c, r = .returned (.tuple #[.agg #[.slice a us.length c, .int .i64 nx], q]) ∧ UnRow w' a us ∧ (a = none → us = []) ∧ us.length ≤ c ∧ c ≤ maxLen ∧ (a = a0 ∨ ∀ x, a = some x → w.heap.size ≤ x.block ∧ x.block < w'.heap.size) ∧ Below w.heap.size w w'
theorem RPost.from {w w0 : World} {a0 : Option Addr} {us : List Un} {nx : Int} {q : Value} {r : Ending} {w' : World} (h : RPost w0 a0 us nx q r w') (hb : Below w.heap.size w w0) : RPost w a0 us nx q r w' := by
  obtain ⟨a, c, h1, h2, h3, h4, h5, h6, h7⟩ := h
  refine ⟨a, c, h1, h2, h3, h4, h5, ?_, hb.trans (h7.mono hb.size)⟩
  rcases h6 with h | h
  · exact .inl h
  · exact .inr fun x hx => ⟨Nat.le_trans hb.size (h x hx).1, (h x hx).2⟩
def set2r (w : World) (X : Nat) (x0 x1 : Value) : World := (w.setCell ⟨X, 0, none⟩ x0).setCell ⟨X, 1, none⟩ x1
theorem set2r_below {w0 w : World} {X : Nat} (h : Below w0.heap.size w0 w) (hX : w0.heap.size ≤ X) (x0 x1 : Value) : Below w0.heap.size w0 (set2r w X x0 x1) :=
  (h.setCell (p := ⟨X, 0, none⟩) hX _).setCell (p := ⟨X, 1, none⟩) hX _
theorem set2r_touch (w : World) (X : Nat) (x0 x1 : Value) : Touch (fun k => k = X) w (set2r w X x0 x1) := ((Touch.refl (fun k => k = X) w).setCell (p := ⟨X, 0, none⟩) (fun _ => rfl) _).setCell (p := ⟨X, 1, none⟩) (fun _ => rfl) _
set_option maxRecDepth 100000 in
set_option maxHeartbeats 2000000 in
theorem refSpawn_no (a : Option Addr) (c : Nat) (us : List Un) (g kind owner x y : Int) (w : World) (hl : us.length ≤ 64) (hg : 0 ≤ g ∧ g < 1099511627776) (hr : UnRow w a us) (hn : a = none → us = []) (hc : us.length ≤ c ∧ c ≤ maxLen) (hq : spawnQ us g kind owner x y = false) :
    Calls Try.prog 54 #[.agg #[.slice a us.length c, .int .i64 (g + 1)], .int .i64 kind, .int .i64 owner, .int .i64 x, .int .i64 y] w (RPost w a us (g + 1) (.int .i64 0)) := by
  have hW : Below w.heap.size w ((w.alloc (.cells #[.slice a us.length c, .int .i64 (g + 1)] 28)).alloc (.cells #[.slice none 0 0, .int .i64 0] 28)) := bel_alloc ((Below.refl _ w).alloc (Nat.le_refl _) _) _
  have HP := Lib.hid (show ∀ W, Below w.heap.size w W → RPost w a us (g + 1) (.int .i64 0) (.returned (.tuple #[.agg #[.slice a us.length c, .int .i64 (g + 1)], .int .i64 0])) W from fun W hb => ⟨a, c, rfl, hr.below hb, hn, hc.1, hc.2, .inl rfl, hb⟩)
  have H0 := Lib.hid (show ∀ W, Calls Try.prog 85 #[.int .i64 0, .int .i64 kind] W fun r w' => r = .returned (.bool (mayN 0 kind)) ∧ W = w' from fun W => refMay_any 0 kind W (by decide))
  have H1 := Lib.hid (show ∀ W, Calls Try.prog 85 #[.int .i64 1, .int .i64 owner] W fun r w' => r = .returned (.bool (mayN 1 owner)) ∧ W = w' from fun W => refMay_any 1 owner W (by decide))
  have H2 := Lib.hid (show ∀ W, Calls Try.prog 85 #[.int .i64 2, .int .i64 x] W fun r w' => r = .returned (.bool (mayN 2 x)) ∧ W = w' from fun W => refMay_any 2 x W (by decide))
  have H3 := Lib.hid (show ∀ W, Calls Try.prog 85 #[.int .i64 3, .int .i64 y] W fun r w' => r = .returned (.bool (mayN 3 y)) ∧ W = w' from fun W => refMay_any 3 y W (by decide))
  have HQ := Lib.hid (show (decide (us.length ≠ 64) && (decide (g + 1 ≠ 1099511627776) && (mayN 0 kind && (mayN 1 owner && (mayN 2 x && mayN 3 y))))) = false by
    have : mayQ (spawnU g kind owner x y) = (mayN 0 kind && (mayN 1 owner && (mayN 2 x && mayN 3 y))) := by simp [mayQ, spawnU, show mayN 4 1000 = true by decide]
    rw [← this]; exact hq)
  have HW := Lib.hid hW
  generalize hpost : RPost w a us (g + 1) (.int .i64 0) = Post at HP ⊢
  clear hr hn hq hW hpost
  generalize mayN 0 kind = q0 at H0 HQ
  generalize mayN 1 owner = q1 at H1 HQ
  generalize mayN 2 x = q2 at H2 HQ
  generalize mayN 3 y = q3 at H3 HQ
  obtain ⟨hg0, hg1⟩ := hg
  have hc1 := hc.1
  clear hc
  generalize us.length = n at *
  have hFB := Lib.hid (show ∀ W, Below w.heap.size w W → Below w.heap.size w W from fun W h => h)
  by_cases h64 : 64 ≤ n
  · obtain rfl : n = 64 := by omega
    clear hl h64 HQ
    go_enter Try.func54, Try.ntmps54
    go_wp2_with (go_at_call 85; (first | with_reducible refine (H0.out _).mono ?_ | with_reducible refine (H1.out _).mono ?_ | with_reducible refine (H2.out _).mono ?_ | with_reducible refine (H3.out _).mono ?_); rintro e w' ⟨rfl, rfl⟩)
    refine bodyPost_ret (v := .tuple #[.agg #[.slice a 64 c, .int .i64 (g + 1)], .int .i64 0]) (by simp [results, Try.results54, go_sem]) rfl (HP.out _ ?_)
    exact bel_alloc (bel_alloc (Below.refl _ _) _) _
  · have d64 : decide ((64 : Int) ≤ (n : Int)) = false := by simp; omega
    cases q0
    · clear HQ
      go_enter Try.func54, Try.ntmps54
      go_wp2_with (go_at_call 85; (first | with_reducible refine (H0.out _).mono ?_ | with_reducible refine (H1.out _).mono ?_ | with_reducible refine (H2.out _).mono ?_ | with_reducible refine (H3.out _).mono ?_); rintro e w' ⟨rfl, rfl⟩)
      refine bodyPost_ret (v := .tuple #[.agg #[.slice a n c, .int .i64 (g + 1)], .int .i64 0]) (by simp [results, Try.results54, go_sem]) rfl (HP.out _ ?_)
      exact bel_alloc (bel_alloc (Below.refl _ _) _) _

    · skip
      cases q1
      · clear HQ
        go_enter Try.func54, Try.ntmps54
        go_wp2_with (go_at_call 85; (first | with_reducible refine (H0.out _).mono ?_ | with_reducible refine (H1.out _).mono ?_ | with_reducible refine (H2.out _).mono ?_ | with_reducible refine (H3.out _).mono ?_); rintro e w' ⟨rfl, rfl⟩)
        refine bodyPost_ret (v := .tuple #[.agg #[.slice a n c, .int .i64 (g + 1)], .int .i64 0]) (by simp [results, Try.results54, go_sem]) rfl (HP.out _ ?_)
        exact bel_alloc (bel_alloc (Below.refl _ _) _) _

      · skip
        cases q2
        · clear HQ
          go_enter Try.func54, Try.ntmps54
          go_wp2_with (go_at_call 85; (first | with_reducible refine (H0.out _).mono ?_ | with_reducible refine (H1.out _).mono ?_ | with_reducible refine (H2.out _).mono ?_ | with_reducible refine (H3.out _).mono ?_); rintro e w' ⟨rfl, rfl⟩)
          refine bodyPost_ret (v := .tuple #[.agg #[.slice a n c, .int .i64 (g + 1)], .int .i64 0]) (by simp [results, Try.results54, go_sem]) rfl (HP.out _ ?_)
          exact bel_alloc (bel_alloc (Below.refl _ _) _) _

        · skip
          cases q3
          · clear HQ
            go_enter Try.func54, Try.ntmps54
            go_wp2_with (go_at_call 85; (first | with_reducible refine (H0.out _).mono ?_ | with_reducible refine (H1.out _).mono ?_ | with_reducible refine (H2.out _).mono ?_ | with_reducible refine (H3.out _).mono ?_); rintro e w' ⟨rfl, rfl⟩)
            refine bodyPost_ret (v := .tuple #[.agg #[.slice a n c, .int .i64 (g + 1)], .int .i64 0]) (by simp [results, Try.results54, go_sem]) rfl (HP.out _ ?_)
            exact bel_alloc (bel_alloc (Below.refl _ _) _) _

          · have hge : g + 1 = 1099511627776 := by
              have h1 : n ≠ 64 := by omega
              have := HQ.out
              simpa [h1] using this
            have dge : decide ((1099511627776 : Int) ≤ g + 1) = true := by simp; omega
            clear HQ hge
            go_enter Try.func54, Try.ntmps54
            go_wp2_with (go_at_call 85; (first | with_reducible refine (H0.out _).mono ?_ | with_reducible refine (H1.out _).mono ?_ | with_reducible refine (H2.out _).mono ?_ | with_reducible refine (H3.out _).mono ?_); rintro e w' ⟨rfl, rfl⟩)
            refine bodyPost_ret (v := .tuple #[.agg #[.slice a n c, .int .i64 (g + 1)], .int .i64 0]) (by simp [results, Try.results54, go_sem]) rfl (HP.out _ ?_)
            exact bel_alloc (bel_alloc (Below.refl _ _) _) _
end Go.Proofs.Ytdkokfpbmmjfkaa
namespace Go.Proofs.Ytdkokfpbmmjfkaa
open Go.RowKit
set_option linter.unusedVariables false

section
variable {P : Program} (w : World)
/-- The step over an append of which is known what it leaves, in a region that draws its order. -/
theorem step_append_ex {ops : Array Oper} {o : Oper} {a : Act} {K : Act → World → Prop} {Q : Exit → Act → World → Prop} {E : Prop} (hgd : o.guard = none) (s x : Operand) (t u : TypeId)
    (ho : o.op = .call { callee := .builtin .append, args := #[s, x], argTypes := #[t, u] }) (v xv : Value) (hs : a.eval s = v) (hx : a.eval x = xv) (n : Nat) (R : Option Addr → Nat → World → Prop)
    (hr : ∃ a' c' w', (Builtin.append_ #[t, u] o.type #[v, xv]).run P w = .ok (.slice a' n c') w' ∧ R a' c' w') (h : ∀ a' c' w', R a' c' w' → K (a.put o.dst (.slice a' n c')) w') : if Region.wanted o (yielded ops a.tmps) = true then Oper.wp P o a w K Q else E := by
  obtain ⟨a', c', w', hrun, hR⟩ := hr
  exact step_append_run w hgd s x t u ho v xv hs hx (.slice a' n c') w' hrun (h a' c' w' hR)
end
theorem made0 {X : World} {k : Nat} (e : TypeId) (size : Nat) (hk : k = X.heap.size) : (X.alloc (.cells #[] e)).ownsRow 0 e size (.slice (some ⟨k, 0, none⟩) 0 0) 0 [] := by
  subst hk
  exact World.ownsRow_made X #[] 0 (Nat.zero_le _) (by simp [maxLen]) (by simp)
theorem ownsRow_drew {w : World} {base : Nat} {e : TypeId} {size : Nat} {v : Value} {n : Nat} {xs : List Value} (h : w.ownsRow base e size v n xs) : w.drew.ownsRow base e size v n xs := h
theorem app1 {W0 Wc : World} {a : Option Addr} {c k : Nat} {us : List Un} {ty : TypeId} (hbel : Below W0.heap.size W0 Wc) (hmade : Wc.ownsRow 0 113 6 (.slice (some ⟨k, 0, none⟩) 0 0) 0 []) (hk : W0.heap.size ≤ k) (hr : UnRow W0 a us) (hn : a = none → us = []) (hl : us.length ≤ 1000) :
    ∃ a' c' w', (Builtin.append_ #[26, 26] ty #[.slice (some ⟨k, 0, none⟩) 0 0, .slice a us.length c]).run Try.prog Wc = .ok (.slice a' us.length c') w' ∧ (NewRec 113 6 W0 a' c' (unsI us) w' ∧ Touch (fun b => b = k) Wc w') := by
  have h0 : NewRec 113 6 W0 (some ⟨k, 0, none⟩) 0 [] Wc := ⟨hmade, fun x hx => by cases hx; exact hk, hbel⟩
  obtain ⟨a', c', w', hrun, hnew, ht⟩ := newRec_more (t := 26) (u := 26) (ty := ty) (l := []) runTy Try.underlying26 Try.underlying26 h0 (unsI_wide us) a c (hr.below hbel) (fun e => by rw [hn e]; rfl) (by rw [unsI_len]; simp; omega)
  rw [List.nil_append] at hnew
  rw [List.length_nil, Nat.zero_add, unsI_len] at hrun
  exact ⟨a', c', w', hrun, hnew, ht.mono fun b _ h => by simpa using h.symm⟩
theorem app2 {W0 Wc : World} {a1 a2 : Option Addr} {c1 c2 : Nat} {us vs : List Un} {ty : TypeId} (h : NewRec 113 6 W0 a1 c1 (unsI us) Wc) (hv : UnRow Wc a2 vs) (hn : a2 = none → vs = []) (hl : us.length + vs.length ≤ 1000) :
    ∃ a' c' w', (Builtin.append_ #[26, 26] ty #[.slice a1 us.length c1, .slice a2 vs.length c2]).run Try.prog Wc = .ok (.slice a' (us.length + vs.length) c') w' ∧ NewRec 113 6 W0 a' c' (unsI (us ++ vs)) w' := by
  obtain ⟨a', c', w', hrun, hnew, -⟩ := newRec_more (t := 26) (u := 26) (ty := ty) runTy Try.underlying26 Try.underlying26 h (unsI_wide vs) a2 c2 hv (fun e => by rw [hn e]; rfl) (by rw [unsI_len, unsI_len]; omega)
  rw [unsI_len, unsI_len] at hrun
  rw [← unsI_append] at hnew
  exact ⟨a', c', w', hrun, hnew⟩
theorem newRec_rpost {W0 w w' : World} {a a0 : Option Addr} {c : Nat} {us : List Un} {nx : Int} {q : Value} (hb : Below w.heap.size w W0) (h : NewRec 113 6 W0 a c (unsI us) w') : RPost w a0 us nx q (.returned (.tuple #[.agg #[.slice a us.length c, .int .i64 nx], q])) w' := by
  have hr := h.row (unsI_wide us) (by decide)
  have h1 := h.1
  rw [unsI_len] at h1
  refine ⟨a, c, rfl, hr, fun e => ?_, ?_, ?_, .inr fun x hx => ⟨Nat.le_trans hb.size (h.2.1 x hx), ?_⟩, hb.trans (h.2.2.mono hb.size)⟩
  · subst e; exact List.eq_nil_of_length_eq_zero (own_noneR h1)
  · rcases h1.2 with ⟨hv, e⟩ | ⟨g, cap, cur, hv, -, -, hnc, -⟩
    · omega
    · cases hv; exact hnc
  · rcases h1.2 with ⟨hv, e⟩ | ⟨g, cap, cur, hv, -, -, -, hcm, -⟩
    · have : c = 0 := by simp at hv; exact hv.2.2
      rw [this]; simp [maxLen]
    · cases hv; exact hcm
  · subst hx; exact (h1.lt x.block (by simp [Value.ownBlock])).2
theorem newRec_rpost2 {W0 w w' : World} {a a0 : Option Addr} {c R : Nat} {us : List Un} {nx : Int} {q : Value} (hb : Below w.heap.size w W0) (h : NewRec 113 6 W0 a c (unsI us) w') (hR : w.heap.size ≤ R) (hR2 : R < W0.heap.size) (x0 x1 : Value) : RPost w a0 us nx q (.returned (.tuple #[.agg #[.slice a us.length c, .int .i64 nx], q])) ((w'.setCell ⟨R, 0, none⟩ x0).setCell ⟨R, 1, none⟩ x1) := by
  obtain ⟨a', c', e, h2, h3, h4, h5, h6, h7⟩ := newRec_rpost (a0 := some ⟨w'.heap.size, 0, none⟩) (nx := nx) (q := q) hb h
  simp only [Ending.returned.injEq, Value.tuple.injEq, Array.mk.injEq, List.cons.injEq, Value.agg.injEq, Value.slice.injEq, and_true, true_and] at e
  obtain ⟨rfl, rfl⟩ := e
  have ht := set2r_touch w' R x0 x1
  unfold set2r at ht
  refine ⟨a, c, rfl, h2.touch ht (fun x hx e => by have := h.2.1 x hx; omega), h3, h4, h5, .inr fun x hx => ?_, set2r_below h7 hR x0 x1⟩
  refine ⟨Nat.le_trans hb.size (h.2.1 x hx), ?_⟩
  have h1 := h.1
  subst hx
  have := (h1.lt x.block (by simp [Value.ownBlock])).2
  have := ht.size
  omega
theorem litAt {X : World} {k : Nat} (u : Un) (t : TypeId) (hk : k = X.heap.size) : UnRow (X.alloc (.cells #[.int .i64 u.id, .int .i64 u.kind, .int .i64 u.owner, .int .i64 u.x, .int .i64 u.y, .int .i64 u.health] t)) (some ⟨k, 0, none⟩) [u] := by
  subst hk
  exact RecRow.lit X [u.ints] (unsI_wide [u]) _ _ rfl
theorem UnRow.drew {w : World} {a : Option Addr} {l : List Un} (h : UnRow w a l) : UnRow w.drew a l := h
theorem k8b {W0 w' : World} (hb : Below W0.heap.size W0 w') {T U : Nat} {t0 t1 u0 u1 u2 u3 u4 u5 : Value} (h : W0.cell? ⟨T, 0, none⟩ = some t0 ∧ W0.cell? ⟨T, 1, none⟩ = some t1 ∧ W0.cell? ⟨U, 0, none⟩ = some u0 ∧ W0.cell? ⟨U, 1, none⟩ = some u1 ∧ W0.cell? ⟨U, 2, none⟩ = some u2 ∧ W0.cell? ⟨U, 3, none⟩ = some u3 ∧ W0.cell? ⟨U, 4, none⟩ = some u4 ∧ W0.cell? ⟨U, 5, none⟩ = some u5) : w'.cell? ⟨T, 0, none⟩ = some t0 ∧ w'.cell? ⟨T, 1, none⟩ = some t1 ∧ w'.cell? ⟨U, 0, none⟩ = some u0 ∧ w'.cell? ⟨U, 1, none⟩ = some u1 ∧ w'.cell? ⟨U, 2, none⟩ = some u2 ∧ w'.cell? ⟨U, 3, none⟩ = some u3 ∧ w'.cell? ⟨U, 4, none⟩ = some u4 ∧ w'.cell? ⟨U, 5, none⟩ = some u5 :=
  ⟨(hb.cell (p := ⟨T, 0, none⟩) (block_lt_of_cell h.1)).trans h.1, (hb.cell (p := ⟨T, 1, none⟩) (block_lt_of_cell h.2.1)).trans h.2.1, (hb.cell (p := ⟨U, 0, none⟩) (block_lt_of_cell h.2.2.1)).trans h.2.2.1, (hb.cell (p := ⟨U, 1, none⟩) (block_lt_of_cell h.2.2.2.1)).trans h.2.2.2.1, (hb.cell (p := ⟨U, 2, none⟩) (block_lt_of_cell h.2.2.2.2.1)).trans h.2.2.2.2.1, (hb.cell (p := ⟨U, 3, none⟩) (block_lt_of_cell h.2.2.2.2.2.1)).trans h.2.2.2.2.2.1, (hb.cell (p := ⟨U, 4, none⟩) (block_lt_of_cell h.2.2.2.2.2.2.1)).trans h.2.2.2.2.2.2.1, (hb.cell (p := ⟨U, 5, none⟩) (block_lt_of_cell h.2.2.2.2.2.2.2)).trans h.2.2.2.2.2.2.2⟩
theorem cell_set2 {w : World} {R X j : Nat} {v x y : Value} (hne : X ≠ R) (h : w.cell? ⟨X, j, none⟩ = some v) : ((w.setCell ⟨R, 0, none⟩ x).setCell ⟨R, 1, none⟩ y).cell? ⟨X, j, none⟩ = some v := by
  have ht := set2r_touch w R x y
  unfold set2r at ht
  exact (ht.cell (p := ⟨X, j, none⟩) (block_lt_of_cell h) hne).trans h
theorem k8s {w : World} {T U R : Nat} {t0 t1 u0 u1 u2 u3 u4 u5 x y : Value} (hT : T ≠ R) (hU : U ≠ R) (h : w.cell? ⟨T, 0, none⟩ = some t0 ∧ w.cell? ⟨T, 1, none⟩ = some t1 ∧ w.cell? ⟨U, 0, none⟩ = some u0 ∧ w.cell? ⟨U, 1, none⟩ = some u1 ∧ w.cell? ⟨U, 2, none⟩ = some u2 ∧ w.cell? ⟨U, 3, none⟩ = some u3 ∧ w.cell? ⟨U, 4, none⟩ = some u4 ∧ w.cell? ⟨U, 5, none⟩ = some u5) : ((w.setCell ⟨R, 0, none⟩ x).setCell ⟨R, 1, none⟩ y).cell? ⟨T, 0, none⟩ = some t0 ∧ ((w.setCell ⟨R, 0, none⟩ x).setCell ⟨R, 1, none⟩ y).cell? ⟨T, 1, none⟩ = some t1 ∧ ((w.setCell ⟨R, 0, none⟩ x).setCell ⟨R, 1, none⟩ y).cell? ⟨U, 0, none⟩ = some u0 ∧ ((w.setCell ⟨R, 0, none⟩ x).setCell ⟨R, 1, none⟩ y).cell? ⟨U, 1, none⟩ = some u1 ∧ ((w.setCell ⟨R, 0, none⟩ x).setCell ⟨R, 1, none⟩ y).cell? ⟨U, 2, none⟩ = some u2 ∧ ((w.setCell ⟨R, 0, none⟩ x).setCell ⟨R, 1, none⟩ y).cell? ⟨U, 3, none⟩ = some u3 ∧ ((w.setCell ⟨R, 0, none⟩ x).setCell ⟨R, 1, none⟩ y).cell? ⟨U, 4, none⟩ = some u4 ∧ ((w.setCell ⟨R, 0, none⟩ x).setCell ⟨R, 1, none⟩ y).cell? ⟨U, 5, none⟩ = some u5 :=
  ⟨cell_set2 hT h.1, cell_set2 hT h.2.1, cell_set2 hU h.2.2.1, cell_set2 hU h.2.2.2.1, cell_set2 hU h.2.2.2.2.1, cell_set2 hU h.2.2.2.2.2.1, cell_set2 hU h.2.2.2.2.2.2.1, cell_set2 hU h.2.2.2.2.2.2.2⟩
set_option maxRecDepth 100000 in
set_option maxHeartbeats 4000000 in
theorem refSpawn_yes (a : Option Addr) (c : Nat) (us : List Un) (g kind owner x y : Int) (w : World) (hl : us.length ≤ 64) (hg : 0 ≤ g ∧ g < 1099511627776) (hr : UnRow w a us) (hn : a = none → us = []) (hc : us.length ≤ c ∧ c ≤ maxLen) (hq : spawnQ us g kind owner x y = true) :
    Calls Try.prog 54 #[.agg #[.slice a us.length c, .int .i64 (g + 1)], .int .i64 kind, .int .i64 owner, .int .i64 x, .int .i64 y] w (RPost w a (us ++ [spawnU g kind owner x y]) (g + 1 + 1) (.int .i64 (g + 1))) := by
  have HR := Lib.hid hr
  have HN := Lib.hid hn
  simp only [spawnQ, Bool.and_eq_true, decide_eq_true_eq] at hq
  obtain ⟨q1, q2, q3⟩ := hq
  obtain ⟨m0, m1, m2, m3, -⟩ := (mayQ_iff _).1 q3
  have H0 := Lib.hid (show ∀ W, Calls Try.prog 85 #[.int .i64 0, .int .i64 kind] W fun r w' => r = .returned (.bool (mayN 0 kind)) ∧ W = w' from fun W => refMay_any 0 kind W (by decide))
  have H1 := Lib.hid (show ∀ W, Calls Try.prog 85 #[.int .i64 1, .int .i64 owner] W fun r w' => r = .returned (.bool (mayN 1 owner)) ∧ W = w' from fun W => refMay_any 1 owner W (by decide))
  have H2 := Lib.hid (show ∀ W, Calls Try.prog 85 #[.int .i64 2, .int .i64 x] W fun r w' => r = .returned (.bool (mayN 2 x)) ∧ W = w' from fun W => refMay_any 2 x W (by decide))
  have H3 := Lib.hid (show ∀ W, Calls Try.prog 85 #[.int .i64 3, .int .i64 y] W fun r w' => r = .returned (.bool (mayN 3 y)) ∧ W = w' from fun W => refMay_any 3 y W (by decide))
  rw [show mayN 0 kind = true from m0] at H0
  rw [show mayN 1 owner = true from m1] at H1
  rw [show mayN 2 x = true from m2] at H2
  rw [show mayN 3 y = true from m3] at H3
  obtain ⟨hg0, hg1⟩ := hg
  have hc1 := hc.1
  have d64 : decide ((64 : Int) ≤ (us.length : Int)) = false := by simp; omega
  have dge : decide ((1099511627776 : Int) ≤ g + 1) = false := by simp; omega
  have hwr : IntKind.i64.wrap (g + 1 + 1) = g + 1 + 1 := by rw [IntKind.wrap_i64]; omega
  have HPE := Lib.hid (show RPost w a (us ++ [spawnU g kind owner x y]) (g + 1 + 1) (.int .i64 (g + 1)) = RPost w a (us ++ [spawnU g kind owner x y]) (g + 1 + 1) (.int .i64 (g + 1)) from rfl)
  generalize hpost : RPost w a (us ++ [spawnU g kind owner x y]) (g + 1 + 1) (.int .i64 (g + 1)) = Post
  have HPOST := Lib.hid hpost
  clear hr hn q1 q2 q3 m0 m1 m2 m3 hc hpost HPE
  go_enter Try.func54, Try.ntmps54
  go_wp2_with (go_at_call 85; (first | with_reducible refine (H0.out _).mono ?_ | with_reducible refine (H1.out _).mono ?_ | with_reducible refine (H2.out _).mono ?_ | with_reducible refine (H3.out _).mono ?_); rintro e w' ⟨rfl, rfl⟩)
  have hWB : Below w.heap.size w (((w.alloc (.cells #[.slice a us.length c, .int .i64 (g + 1)] 28)).alloc (.cells #[.slice none 0 0, .int .i64 0] 28)).alloc (.cells #[.int .i64 (g + 1), .int .i64 kind, .int .i64 owner, .int .i64 x, .int .i64 y, .int .i64 1000] 113)) := bel_alloc (bel_alloc (bel_alloc (Below.refl _ _) _) _) _
  have t0 : (((w.alloc (.cells #[.slice a us.length c, .int .i64 (g + 1)] 28)).alloc (.cells #[.slice none 0 0, .int .i64 0] 28)).alloc (.cells #[.int .i64 (g + 1), .int .i64 kind, .int .i64 owner, .int .i64 x, .int .i64 y, .int .i64 1000] 113)).cell? ⟨w.heap.size, 0, none⟩ = some (.slice a us.length c) := by repeat' (first | exact new_cell (by first | rfl | (simp; done)) rfl | with_reducible refine alloc_cell ?_ _)
  have t1 : (((w.alloc (.cells #[.slice a us.length c, .int .i64 (g + 1)] 28)).alloc (.cells #[.slice none 0 0, .int .i64 0] 28)).alloc (.cells #[.int .i64 (g + 1), .int .i64 kind, .int .i64 owner, .int .i64 x, .int .i64 y, .int .i64 1000] 113)).cell? ⟨w.heap.size, 1, none⟩ = some (.int .i64 (g + 1)) := by repeat' (first | exact new_cell (by first | rfl | (simp; done)) rfl | with_reducible refine alloc_cell ?_ _)
  have r0 : (((w.alloc (.cells #[.slice a us.length c, .int .i64 (g + 1)] 28)).alloc (.cells #[.slice none 0 0, .int .i64 0] 28)).alloc (.cells #[.int .i64 (g + 1), .int .i64 kind, .int .i64 owner, .int .i64 x, .int .i64 y, .int .i64 1000] 113)).cell? ⟨w.heap.size + 1, 0, none⟩ = some (.slice none 0 0) := by repeat' (first | exact new_cell (by first | rfl | (simp; done)) rfl | with_reducible refine alloc_cell ?_ _)
  have r1 : (((w.alloc (.cells #[.slice a us.length c, .int .i64 (g + 1)] 28)).alloc (.cells #[.slice none 0 0, .int .i64 0] 28)).alloc (.cells #[.int .i64 (g + 1), .int .i64 kind, .int .i64 owner, .int .i64 x, .int .i64 y, .int .i64 1000] 113)).cell? ⟨w.heap.size + 1, 1, none⟩ = some (.int .i64 0) := by repeat' (first | exact new_cell (by first | rfl | (simp; done)) rfl | with_reducible refine alloc_cell ?_ _)
  have u0 : (((w.alloc (.cells #[.slice a us.length c, .int .i64 (g + 1)] 28)).alloc (.cells #[.slice none 0 0, .int .i64 0] 28)).alloc (.cells #[.int .i64 (g + 1), .int .i64 kind, .int .i64 owner, .int .i64 x, .int .i64 y, .int .i64 1000] 113)).cell? ⟨w.heap.size + 1 + 1, 0, none⟩ = some (.int .i64 (g + 1)) := by repeat' (first | exact new_cell (by first | rfl | (simp; done)) rfl | with_reducible refine alloc_cell ?_ _)
  have u1 : (((w.alloc (.cells #[.slice a us.length c, .int .i64 (g + 1)] 28)).alloc (.cells #[.slice none 0 0, .int .i64 0] 28)).alloc (.cells #[.int .i64 (g + 1), .int .i64 kind, .int .i64 owner, .int .i64 x, .int .i64 y, .int .i64 1000] 113)).cell? ⟨w.heap.size + 1 + 1, 1, none⟩ = some (.int .i64 kind) := by repeat' (first | exact new_cell (by first | rfl | (simp; done)) rfl | with_reducible refine alloc_cell ?_ _)
  have u2 : (((w.alloc (.cells #[.slice a us.length c, .int .i64 (g + 1)] 28)).alloc (.cells #[.slice none 0 0, .int .i64 0] 28)).alloc (.cells #[.int .i64 (g + 1), .int .i64 kind, .int .i64 owner, .int .i64 x, .int .i64 y, .int .i64 1000] 113)).cell? ⟨w.heap.size + 1 + 1, 2, none⟩ = some (.int .i64 owner) := by repeat' (first | exact new_cell (by first | rfl | (simp; done)) rfl | with_reducible refine alloc_cell ?_ _)
  have u3 : (((w.alloc (.cells #[.slice a us.length c, .int .i64 (g + 1)] 28)).alloc (.cells #[.slice none 0 0, .int .i64 0] 28)).alloc (.cells #[.int .i64 (g + 1), .int .i64 kind, .int .i64 owner, .int .i64 x, .int .i64 y, .int .i64 1000] 113)).cell? ⟨w.heap.size + 1 + 1, 3, none⟩ = some (.int .i64 x) := by repeat' (first | exact new_cell (by first | rfl | (simp; done)) rfl | with_reducible refine alloc_cell ?_ _)
  have u4 : (((w.alloc (.cells #[.slice a us.length c, .int .i64 (g + 1)] 28)).alloc (.cells #[.slice none 0 0, .int .i64 0] 28)).alloc (.cells #[.int .i64 (g + 1), .int .i64 kind, .int .i64 owner, .int .i64 x, .int .i64 y, .int .i64 1000] 113)).cell? ⟨w.heap.size + 1 + 1, 4, none⟩ = some (.int .i64 y) := by repeat' (first | exact new_cell (by first | rfl | (simp; done)) rfl | with_reducible refine alloc_cell ?_ _)
  have u5 : (((w.alloc (.cells #[.slice a us.length c, .int .i64 (g + 1)] 28)).alloc (.cells #[.slice none 0 0, .int .i64 0] 28)).alloc (.cells #[.int .i64 (g + 1), .int .i64 kind, .int .i64 owner, .int .i64 x, .int .i64 y, .int .i64 1000] 113)).cell? ⟨w.heap.size + 1 + 1, 5, none⟩ = some (.int .i64 1000) := by repeat' (first | exact new_cell (by first | rfl | (simp; done)) rfl | with_reducible refine alloc_cell ?_ _)
  have z0 : (((w.alloc (.cells #[.slice a us.length c, .int .i64 (g + 1)] 28)).alloc (.cells #[.slice none 0 0, .int .i64 0] 28)).alloc (.cells #[.int .i64 (g + 1), .int .i64 kind, .int .i64 owner, .int .i64 x, .int .i64 y, .int .i64 1000] 113)).frozen? ⟨w.heap.size + 1, 0, none⟩ = false := by
    rw [frozen_old _ _ _ (by simp), show w.heap.size + 1 = (w.alloc (.cells #[.slice a us.length c, .int .i64 (g + 1)] 28)).heap.size by simp]; exact frozen_new _ _ _ _
  have z1 : (((w.alloc (.cells #[.slice a us.length c, .int .i64 (g + 1)] 28)).alloc (.cells #[.slice none 0 0, .int .i64 0] 28)).alloc (.cells #[.int .i64 (g + 1), .int .i64 kind, .int .i64 owner, .int .i64 x, .int .i64 y, .int .i64 1000] 113)).frozen? ⟨w.heap.size + 1, 1, none⟩ = false := by
    rw [frozen_old _ _ _ (by simp), show w.heap.size + 1 = (w.alloc (.cells #[.slice a us.length c, .int .i64 (g + 1)] 28)).heap.size by simp]; exact frozen_new _ _ _ _
  generalize ((w.alloc (.cells #[.slice a us.length c, .int .i64 (g + 1)] 28)).alloc (.cells #[.slice none 0 0, .int .i64 0] 28)).alloc (.cells #[.int .i64 (g + 1), .int .i64 kind, .int .i64 owner, .int .i64 x, .int .i64 y, .int .i64 1000] 113) = W0 at hWB t0 t1 r0 r1 u0 u1 u2 u3 u4 u5 z0 z1 ⊢
  have HWB := Lib.hid hWB
  have HRW := Lib.hid (HR.out.below hWB)
  have hT : w.heap.size < W0.heap.size := block_lt_of_cell t0
  have hRb : w.heap.size + 1 < W0.heap.size := block_lt_of_cell r0
  have hUb : w.heap.size + 1 + 1 < W0.heap.size := block_lt_of_cell u0
  have hR0 : w.heap.size ≤ w.heap.size + 1 := by omega
  have hTR : w.heap.size ≠ w.heap.size + 1 := by omega
  have hUR : w.heap.size + 1 + 1 ≠ w.heap.size + 1 := by omega
  clear hWB
  generalize w.heap.size + 1 + 1 = U at u0 u1 u2 u3 u4 u5 hUb hUR ⊢
  generalize hRR : w.heap.size + 1 = R at r0 r1 z0 z1 hRb hR0 hTR hUR ⊢
  clear hRR
  generalize hTT : w.heap.size = T at t0 t1 hT hTR hR0 ⊢
  have HTT := Lib.hid hTT
  clear hTT
  go_region_held3 (fun w' => w'.cell? ⟨T, 0, none⟩ = some (.slice a us.length c) ∧ w'.cell? ⟨T, 1, none⟩ = some (.int .i64 (g + 1)) ∧ w'.cell? ⟨U, 0, none⟩ = some (.int .i64 (g + 1)) ∧ w'.cell? ⟨U, 1, none⟩ = some (.int .i64 kind) ∧ w'.cell? ⟨U, 2, none⟩ = some (.int .i64 owner) ∧ w'.cell? ⟨U, 3, none⟩ = some (.int .i64 x) ∧ w'.cell? ⟨U, 4, none⟩ = some (.int .i64 y) ∧ w'.cell? ⟨U, 5, none⟩ = some (.int .i64 1000))
    (first | (refine k8s hTR hUR ?_; exact k8b (W0 := W0) HN5.out.2.2 ⟨t0, t1, u0, u1, u2, u3, u4, u5⟩) | exact k8b (W0 := W0) (by repeat' (first | exact Below.refl _ _ | exact HN5.out.2.2 | exact HN4.out.2.2 | refine Below.drew ?_ | refine bel_alloc ?_ _)) ⟨t0, t1, u0, u1, u2, u3, u4, u5⟩)
    (first
      | (refine step_append_ex _ rfl (.tmp 51) (.tmp 53) 26 26 rfl _ _ (by rfl) (by rfl) us.length _ (app1 (W0 := W0) (by repeat' (first | exact Below.refl _ _ | refine Below.drew ?_ | refine bel_alloc ?_ _)) (by first | exact ownsRow_drew (made0 _ _ (by first | rfl | (simp; done))) | exact ownsRow_drew (World.ownsRow.alloc (made0 _ _ (by first | rfl | (simp; done))) _)) (by first | omega | (simp; done)) HRW.out HN.out (by omega)) ?_; rintro a4 c4 w4 ⟨hn4, ht4⟩; have HN4 := Lib.hid hn4; have HT4 := Lib.hid ht4; clear hn4 ht4)
      | (refine step_append_ex _ rfl (.tmp 54) (.tmp 56) 26 26 rfl _ _ (by rfl) (by rfl) (us.length + 1) _ (app2 (W0 := W0) (vs := [spawnU g kind owner x y]) (by first | exact HN4.out | exact newRec_keep HN4.out (bel_alloc (Below.refl _ _) _)) (by first | exact litAt (spawnU g kind owner x y) _ (by first | rfl | (simp; done)) | exact UnRow.touch (UnRow.drew (litAt (spawnU g kind owner x y) _ (by first | rfl | (simp; done)))) HT4.out (fun x hx => by cases hx; first | omega | (simp; done) | (simp; omega)) | exact UnRow.touch (UnRow.drew (UnRow.below (litAt (spawnU g kind owner x y) _ (by first | rfl | (simp; done))) (bel_alloc (Below.refl _ _) _))) HT4.out (fun x hx => by cases hx; first | omega | (simp; done) | (simp; omega))) (fun h => by cases h) (by simp; omega)) ?_; rintro a5 c5 w5 hn5; have HN5 := Lib.hid hn5; have rr0 := (hn5.2.2.cell (p := ⟨R, 0, none⟩) hRb).trans r0; have rr1 := (hn5.2.2.cell (p := ⟨R, 1, none⟩) hRb).trans r1; have zz0 := (hn5.2.2.frozen (p := ⟨R, 0, none⟩) hRb).trans z0; have zz1 := (hn5.2.2.frozen (p := ⟨R, 1, none⟩) hRb).trans z1; clear hn5))
  all_goals
    have HFIN := Lib.hid (newRec_rpost2 (w := w) (a0 := a) (nx := g + 1 + 1) (q := .int .i64 (g + 1)) HWB.out HN5.out (by rw [HTT.out]; exact hR0) hRb (.slice a5 (us.length + 1) c5) (.int .i64 (g + 1 + 1)))
    have hlen : (us ++ [spawnU g kind owner x y]).length = us.length + 1 := by simp
    rw [hlen, HPOST.out] at HFIN
    clear HN4 HT4 HN5 hlen
    go_wp2
    exact bodyPost_ret (v := .tuple #[.agg #[.slice a5 (us.length + 1) c5, .int .i64 (g + 1 + 1)], .int .i64 (g + 1)]) (by simp [results, Try.results54, go_sem, rr0, rr1]) rfl HFIN.out
end Go.Proofs.Ytdkokfpbmmjfkaa
namespace Go.Proofs.Ytdkokfpbmmjfkaa
open Go.RowKit
set_option linter.unusedVariables false

theorem UnRow.take {w : World} {a : Option Addr} {l : List Un} (h : UnRow w a l) (k : Nat) : UnRow w a (l.take k) := by
  have := RecRow.take h k
  unfold UnRow
  rw [show unsI (l.take k) = (unsI l).take k by simp [unsI, List.map_take]]
  exact this
theorem UnRow.dropAt {w : World} {b off : Nat} {l : List Un} (h : UnRow w (some ⟨b, off, none⟩) l) (k : Nat) : UnRow w (some ⟨b, off + k * 6, none⟩) (l.drop k) := by
  intro h0
  rw [unsI_len, List.length_drop] at h0
  obtain ⟨b', off', e, hc⟩ := h (by rw [unsI_len]; omega)
  cases e
  refine ⟨b, off + k * 6, rfl, fun i hi j hj => ?_⟩
  rw [unsI_len, List.length_drop] at hi
  have := hc (k + i) (by rw [unsI_len]; omega) j hj
  rw [show off + k * 6 + i * 6 + j = off + (k + i) * 6 + j by omega, this]
  simp [unsI]
theorem refKill_no (a : Option Addr) (c : Nat) (us : List Un) (nx id : Int) (n : Nat) (w : World) (hl : us.length ≤ 64) (hrise : Rising us) (hr : UnRow w a us) (hn : a = none → us = []) (hc : us.length ≤ c ∧ c ≤ maxLen) (hf : FindIs us id n) (hq : foundQ us id n = false) :
    Calls Try.prog 56 #[.agg #[.slice a us.length c, .int .i64 nx], .int .i64 id] w (RPost w a us nx (.bool false)) := by
  have hB : Below w.heap.size w ((w.alloc (.cells #[.slice a us.length c, .int .i64 nx] 28)).alloc (.cells #[.slice none 0 0, .int .i64 0] 28)) := bel_alloc (bel_alloc (Below.refl _ _) _) _
  have HF := Lib.hid (refFind_any a c us nx id n _ (by omega) hrise (hr.below hB) hf)
  rw [show findR us id n = -1 by unfold findR; rw [hq]; rfl] at HF
  have HP := Lib.hid (show ∀ W, Below w.heap.size w W → RPost w a us nx (.bool false) (.returned (.tuple #[.agg #[.slice a us.length c, .int .i64 nx], .bool false])) W from fun W hb => ⟨a, c, rfl, hr.below hb, hn, hc.1, hc.2, .inl rfl, hb⟩)
  have HB := Lib.hid hB
  generalize hpost : RPost w a us nx (.bool false) = Post at HP ⊢
  clear hr hn hq hB hpost hf hrise
  go_enter Try.func56, Try.ntmps56
  go_wp2_with fail
  refine HF.out.mono ?_
  rintro r w1 ⟨rfl, hb1⟩
  have t0 : w1.cell? ⟨w.heap.size, 0, none⟩ = some (.slice a us.length c) := (hb1.cell (p := ⟨w.heap.size, 0, none⟩) (by simp; omega)).trans (by repeat' (first | exact new_cell (by first | rfl | (simp; done)) rfl | with_reducible refine alloc_cell ?_ _))
  have t1 : w1.cell? ⟨w.heap.size, 1, none⟩ = some (.int .i64 nx) := (hb1.cell (p := ⟨w.heap.size, 1, none⟩) (by simp; omega)).trans (by repeat' (first | exact new_cell (by first | rfl | (simp; done)) rfl | with_reducible refine alloc_cell ?_ _))
  have r0 : w1.cell? ⟨w.heap.size + 1, 0, none⟩ = some (.slice none 0 0) := (hb1.cell (p := ⟨w.heap.size + 1, 0, none⟩) (by simp)).trans (by repeat' (first | exact new_cell (by first | rfl | (simp; done)) rfl | with_reducible refine alloc_cell ?_ _))
  have r1 : w1.cell? ⟨w.heap.size + 1, 1, none⟩ = some (.int .i64 0) := (hb1.cell (p := ⟨w.heap.size + 1, 1, none⟩) (by simp)).trans (by repeat' (first | exact new_cell (by first | rfl | (simp; done)) rfl | with_reducible refine alloc_cell ?_ _))
  have z0 : w1.frozen? ⟨w.heap.size + 1, 0, none⟩ = false := (hb1.frozen (p := ⟨w.heap.size + 1, 0, none⟩) (by simp)).trans (by rw [show w.heap.size + 1 = (w.alloc (.cells #[.slice a us.length c, .int .i64 nx] 28)).heap.size by simp]; exact frozen_new _ _ _ _)
  have z1 : w1.frozen? ⟨w.heap.size + 1, 1, none⟩ = false := (hb1.frozen (p := ⟨w.heap.size + 1, 1, none⟩) (by simp)).trans (by rw [show w.heap.size + 1 = (w.alloc (.cells #[.slice a us.length c, .int .i64 nx] 28)).heap.size by simp]; exact frozen_new _ _ _ _)
  have hB1 : Below w.heap.size w w1 := HB.out.trans (hb1.mono HB.out.size)
  have HB2 := Lib.hid (set2r_below hB1 (show w.heap.size ≤ w.heap.size + 1 by omega) (.slice a us.length c) (.int .i64 nx))
  unfold set2r at HB2
  have hTl := block_lt_of_cell t0
  have hRl := block_lt_of_cell r0
  clear hb1 HF HB hB1
  go_wp2
  exact bodyPost_ret (v := .tuple #[.agg #[.slice a us.length c, .int .i64 nx], .bool false]) (by simp [results, Try.results56, go_sem, r0, r1]) rfl (HP.out _ HB2.out)
theorem k2b {W0 w' : World} (hb : Below W0.heap.size W0 w') {T : Nat} {t0 t1 : Value} (h : W0.cell? ⟨T, 0, none⟩ = some t0 ∧ W0.cell? ⟨T, 1, none⟩ = some t1) : w'.cell? ⟨T, 0, none⟩ = some t0 ∧ w'.cell? ⟨T, 1, none⟩ = some t1 :=
  ⟨(hb.cell (p := ⟨T, 0, none⟩) (block_lt_of_cell h.1)).trans h.1, (hb.cell (p := ⟨T, 1, none⟩) (block_lt_of_cell h.2)).trans h.2⟩
theorem k2s {w : World} {T R : Nat} {t0 t1 x y : Value} (hT : T ≠ R) (h : w.cell? ⟨T, 0, none⟩ = some t0 ∧ w.cell? ⟨T, 1, none⟩ = some t1) : ((w.setCell ⟨R, 0, none⟩ x).setCell ⟨R, 1, none⟩ y).cell? ⟨T, 0, none⟩ = some t0 ∧ ((w.setCell ⟨R, 0, none⟩ x).setCell ⟨R, 1, none⟩ y).cell? ⟨T, 1, none⟩ = some t1 :=
  ⟨cell_set2 hT h.1, cell_set2 hT h.2⟩
theorem app1n {W0 Wc : World} {a : Option Addr} {c k n : Nat} {us : List Un} {ty : TypeId} (hbel : Below W0.heap.size W0 Wc) (hmade : Wc.ownsRow 0 113 6 (.slice (some ⟨k, 0, none⟩) 0 0) 0 []) (hk : W0.heap.size ≤ k) (hr : UnRow W0 a us) (hn : a = none → us = []) (hl : us.length ≤ 1000) (hnn : us.length = n) :
    ∃ a' c' w', (Builtin.append_ #[26, 26] ty #[.slice (some ⟨k, 0, none⟩) 0 0, .slice a n c]).run Try.prog Wc = .ok (.slice a' n c') w' ∧ NewRec 113 6 W0 a' c' (unsI us) w' := by
  subst hnn
  obtain ⟨a', c', w', h1, h2, -⟩ := app1 (ty := ty) (c := c) hbel hmade hk hr hn hl
  exact ⟨a', c', w', h1, h2⟩
theorem app2n {W0 Wc : World} {a1 a2 : Option Addr} {c1 c2 n m s : Nat} {us vs : List Un} {ty : TypeId} (h : NewRec 113 6 W0 a1 c1 (unsI us) Wc) (hv : UnRow W0 a2 vs) (hn : a2 = none → vs = []) (hl : us.length + vs.length ≤ 1000) (e1 : us.length = n) (e2 : vs.length = m) (e3 : n + m = s) :
    ∃ a' c' w', (Builtin.append_ #[26, 26] ty #[.slice a1 n c1, .slice a2 m c2]).run Try.prog Wc = .ok (.slice a' s c') w' ∧ NewRec 113 6 W0 a' c' (unsI (us ++ vs)) w' := by
  subst e1 e2 e3
  exact app2 h (hv.below h.2.2) hn hl
set_option maxRecDepth 100000 in
set_option maxHeartbeats 4000000 in
theorem refKill_yes (a : Option Addr) (c : Nat) (us : List Un) (nx id : Int) (n : Nat) (w : World) (hl : us.length ≤ 64) (hrise : Rising us) (hr : UnRow w a us) (hn : a = none → us = []) (hc : us.length ≤ c ∧ c ≤ maxLen) (hf : FindIs us id n) (hq : foundQ us id n = true) :
    Calls Try.prog 56 #[.agg #[.slice a us.length c, .int .i64 nx], .int .i64 id] w (RPost w a (us.eraseIdx n) nx (.bool true)) := by
  have hB : Below w.heap.size w ((w.alloc (.cells #[.slice a us.length c, .int .i64 nx] 28)).alloc (.cells #[.slice none 0 0, .int .i64 0] 28)) := bel_alloc (bel_alloc (Below.refl _ _) _) _
  have HF := Lib.hid (refFind_any a c us nx id n _ (by omega) hrise (hr.below hB) hf)
  rw [show findR us id n = (n : Int) by unfold findR; rw [hq]; rfl] at HF
  obtain ⟨hnl, -⟩ := findIs_lt hq
  have HR := Lib.hid hr
  obtain ⟨gb, off, rfl, -⟩ := hr.at hnl
  have HB := Lib.hid hB
  have hc1 := hc.1
  have hc2 := hc.2
  unfold maxLen at hc2
  have HER := Lib.hid (List.eraseIdx_eq_take_drop_succ us n)
  have HEL := Lib.hid (show (us.eraseIdx n).length = us.length - 1 by rw [List.length_eraseIdx, if_pos hnl])
  generalize hpost : RPost w (some ⟨gb, off, none⟩) (us.eraseIdx n) nx (.bool true) = Post
  have HPOST := Lib.hid hpost
  clear hr hn hq hB hpost hf hrise hc
  go_enter Try.func56, Try.ntmps56
  go_wp2_with fail
  refine HF.out.mono ?_
  rintro r W0 ⟨rfl, hb1⟩
  have t0 : W0.cell? ⟨w.heap.size, 0, none⟩ = some (.slice (some ⟨gb, off, none⟩) us.length c) := (hb1.cell (p := ⟨w.heap.size, 0, none⟩) (by simp; omega)).trans (by repeat' (first | exact new_cell (by first | rfl | (simp; done)) rfl | with_reducible refine alloc_cell ?_ _))
  have t1 : W0.cell? ⟨w.heap.size, 1, none⟩ = some (.int .i64 nx) := (hb1.cell (p := ⟨w.heap.size, 1, none⟩) (by simp; omega)).trans (by repeat' (first | exact new_cell (by first | rfl | (simp; done)) rfl | with_reducible refine alloc_cell ?_ _))
  have r0 : W0.cell? ⟨w.heap.size + 1, 0, none⟩ = some (.slice none 0 0) := (hb1.cell (p := ⟨w.heap.size + 1, 0, none⟩) (by simp)).trans (by repeat' (first | exact new_cell (by first | rfl | (simp; done)) rfl | with_reducible refine alloc_cell ?_ _))
  have r1 : W0.cell? ⟨w.heap.size + 1, 1, none⟩ = some (.int .i64 0) := (hb1.cell (p := ⟨w.heap.size + 1, 1, none⟩) (by simp)).trans (by repeat' (first | exact new_cell (by first | rfl | (simp; done)) rfl | with_reducible refine alloc_cell ?_ _))
  have z0 : W0.frozen? ⟨w.heap.size + 1, 0, none⟩ = false := (hb1.frozen (p := ⟨w.heap.size + 1, 0, none⟩) (by simp)).trans (by rw [show w.heap.size + 1 = (w.alloc (.cells #[.slice (some ⟨gb, off, none⟩) us.length c, .int .i64 nx] 28)).heap.size by simp]; exact frozen_new _ _ _ _)
  have z1 : W0.frozen? ⟨w.heap.size + 1, 1, none⟩ = false := (hb1.frozen (p := ⟨w.heap.size + 1, 1, none⟩) (by simp)).trans (by rw [show w.heap.size + 1 = (w.alloc (.cells #[.slice (some ⟨gb, off, none⟩) us.length c, .int .i64 nx] 28)).heap.size by simp]; exact frozen_new _ _ _ _)
  have hWB : Below w.heap.size w W0 := HB.out.trans (hb1.mono HB.out.size)
  have HWB := Lib.hid hWB
  have HRW := Lib.hid (HR.out.below hWB)
  have HR1 := Lib.hid (HRW.out.take n)
  have HR2 := Lib.hid (show ∀ A, (if c = n + 1 then some (⟨gb, off, none⟩ : Addr) else some ⟨gb, off + (n + 1) * 6, none⟩) = A → UnRow W0 A (us.drop (n + 1)) ∧ (A = none → us.drop (n + 1) = []) from fun A hA => by
    by_cases hcn : c = n + 1
    · rw [if_pos hcn] at hA
      have : us.drop (n + 1) = [] := List.drop_of_length_le (by omega)
      rw [this]
      exact ⟨fun h => by simp [unsI] at h, fun _ => rfl⟩
    · rw [if_neg hcn] at hA
      subst hA
      exact ⟨HRW.out.dropAt (n + 1), fun h => by cases h⟩)
  have hT : w.heap.size < W0.heap.size := block_lt_of_cell t0
  have hRb : w.heap.size + 1 < W0.heap.size := block_lt_of_cell r0
  have hR0 : w.heap.size ≤ w.heap.size + 1 := by omega
  have hTR : w.heap.size ≠ w.heap.size + 1 := by omega
  have i1 : (0 : Int) ≤ (n : Int) := by omega
  have i2 : (n : Int) ≤ (c : Int) := by omega
  have i3 : (0 : Int) ≤ (n : Int) + 1 := by omega
  have i4 : (n : Int) + 1 ≤ (us.length : Int) := by omega
  have i5 : IntKind.i64.wrap ((n : Int) + 1) = (n : Int) + 1 := by rw [IntKind.wrap_i64]; omega
  have i6 : ((n : Int) + 1).toNat = n + 1 := by omega
  have i7 : (n : Int) ≤ (n : Int) + 1 := by omega
  have i8 : (n : Int) + 1 ≤ (c : Int) := by omega
  have e1 : (us.take n).length = n := by simp; omega
  have e2 : (us.drop (n + 1)).length = us.length - (n + 1) := by simp
  have HE1 := Lib.hid e1
  have HE2 := Lib.hid e2
  have hn64 : n ≤ 64 := by omega
  clear hWB hb1 HF HB e1 e2
  go_wp2
  generalize hRR : w.heap.size + 1 = R at r0 r1 z0 z1 hRb hR0 hTR ⊢
  clear hRR
  generalize hTT : w.heap.size = T at t0 t1 hT hTR hR0 ⊢
  have HTT := Lib.hid hTT
  clear hTT
  by_cases hcn : c = n + 1
  · have HR3 := Lib.hid (HR2.out (some ⟨gb, off, none⟩) (if_pos hcn))
    clear HR2
    go_region_held3 (fun w' => w'.cell? ⟨T, 0, none⟩ = some (.slice (some ⟨gb, off, none⟩) us.length c) ∧ w'.cell? ⟨T, 1, none⟩ = some (.int .i64 nx))
      (first | (refine k2s hTR ?_; exact k2b (W0 := W0) HN5.out.2.2 ⟨t0, t1⟩) | exact k2b (W0 := W0) (by repeat' (first | exact Below.refl _ _ | exact HN5.out.2.2 | exact HN4.out.2.2 | refine Below.drew ?_ | refine bel_alloc ?_ _)) ⟨t0, t1⟩)
      (first
        | (refine step_append_ex _ rfl (.tmp 13) (.tmp 17) 26 26 rfl _ _ (by rfl) (by rfl) n _ (app1n (W0 := W0) (by repeat' (first | exact Below.refl _ _ | refine Below.drew ?_ | refine bel_alloc ?_ _)) (by first | exact ownsRow_drew (made0 _ _ (by first | rfl | (simp; done))) | exact made0 _ _ (by first | rfl | (simp; done))) (by first | omega | (simp; done)) HR1.out (fun h => by cases h) (by rw [HE1.out]; omega) HE1.out) ?_; rintro a4 c4 w4 hn4; have HN4 := Lib.hid hn4; clear hn4)
        | (refine step_append_ex _ rfl (.tmp 18) (.tmp 23) 26 26 rfl _ _ (by rfl) (by rfl) (us.length - 1) _ (app2n (W0 := W0) (vs := us.drop (n + 1)) HN4.out HR3.out.1 HR3.out.2 (by rw [HE1.out, HE2.out]; omega) HE1.out HE2.out (by omega)) ?_; rintro a5 c5 w5 hn5; have HN5 := Lib.hid hn5; have rr0 := (hn5.2.2.cell (p := ⟨R, 0, none⟩) hRb).trans r0; have rr1 := (hn5.2.2.cell (p := ⟨R, 1, none⟩) hRb).trans r1; have zz0 := (hn5.2.2.frozen (p := ⟨R, 0, none⟩) hRb).trans z0; have zz1 := (hn5.2.2.frozen (p := ⟨R, 1, none⟩) hRb).trans z1; clear hn5))
    all_goals
      have HFIN := Lib.hid (newRec_rpost2 (w := w) (a0 := some ⟨gb, off, none⟩) (nx := nx) (q := .bool true) HWB.out HN5.out (by rw [HTT.out]; exact hR0) hRb (.slice a5 (us.length - 1) c5) (.int .i64 nx))
      rw [← HER.out, HEL.out, HPOST.out] at HFIN
      clear HN4 HN5
      go_wp2
      exact bodyPost_ret (v := .tuple #[.agg #[.slice a5 (us.length - 1) c5, .int .i64 nx], .bool true]) (by simp [results, Try.results56, go_sem, rr0, rr1]) rfl HFIN.out
  · have HR3 := Lib.hid (HR2.out (some ⟨gb, off + (n + 1) * 6, none⟩) (if_neg hcn))
    clear HR2
    go_region_held3 (fun w' => w'.cell? ⟨T, 0, none⟩ = some (.slice (some ⟨gb, off, none⟩) us.length c) ∧ w'.cell? ⟨T, 1, none⟩ = some (.int .i64 nx))
      (first | (refine k2s hTR ?_; exact k2b (W0 := W0) HN5.out.2.2 ⟨t0, t1⟩) | exact k2b (W0 := W0) (by repeat' (first | exact Below.refl _ _ | exact HN5.out.2.2 | exact HN4.out.2.2 | refine Below.drew ?_ | refine bel_alloc ?_ _)) ⟨t0, t1⟩)
      (first
        | (refine step_append_ex _ rfl (.tmp 13) (.tmp 17) 26 26 rfl _ _ (by rfl) (by rfl) n _ (app1n (W0 := W0) (by repeat' (first | exact Below.refl _ _ | refine Below.drew ?_ | refine bel_alloc ?_ _)) (by first | exact ownsRow_drew (made0 _ _ (by first | rfl | (simp; done))) | exact made0 _ _ (by first | rfl | (simp; done))) (by first | omega | (simp; done)) HR1.out (fun h => by cases h) (by rw [HE1.out]; omega) HE1.out) ?_; rintro a4 c4 w4 hn4; have HN4 := Lib.hid hn4; clear hn4)
        | (refine step_append_ex _ rfl (.tmp 18) (.tmp 23) 26 26 rfl _ _ (by rfl) (by rfl) (us.length - 1) _ (app2n (W0 := W0) (vs := us.drop (n + 1)) HN4.out HR3.out.1 HR3.out.2 (by rw [HE1.out, HE2.out]; omega) HE1.out HE2.out (by omega)) ?_; rintro a5 c5 w5 hn5; have HN5 := Lib.hid hn5; have rr0 := (hn5.2.2.cell (p := ⟨R, 0, none⟩) hRb).trans r0; have rr1 := (hn5.2.2.cell (p := ⟨R, 1, none⟩) hRb).trans r1; have zz0 := (hn5.2.2.frozen (p := ⟨R, 0, none⟩) hRb).trans z0; have zz1 := (hn5.2.2.frozen (p := ⟨R, 1, none⟩) hRb).trans z1; clear hn5))
    all_goals
      have HFIN := Lib.hid (newRec_rpost2 (w := w) (a0 := some ⟨gb, off, none⟩) (nx := nx) (q := .bool true) HWB.out HN5.out (by rw [HTT.out]; exact hR0) hRb (.slice a5 (us.length - 1) c5) (.int .i64 nx))
      rw [← HER.out, HEL.out, HPOST.out] at HFIN
      clear HN4 HN5
      go_wp2
      exact bodyPost_ret (v := .tuple #[.agg #[.slice a5 (us.length - 1) c5, .int .i64 nx], .bool true]) (by simp [results, Try.results56, go_sem, rr0, rr1]) rfl HFIN.out
end Go.Proofs.Ytdkokfpbmmjfkaa
namespace Go.Proofs.Ytdkokfpbmmjfkaa
open Go.RowKit Go.WideShapes Go.ChangeShapes
set_option linter.unusedVariables false

/-- A list of numbers came in. -/
def NumArg (k : IntKind) (w : World) (a : Option Addr) (len cap : Nat) (ns : List Int) : Prop :=
  len = ns.length ∧ len ≤ maxLen ∧ len ≤ cap ∧ cap ≤ maxLen ∧ IntRow k w a ns ∧ (a = none → ns = []) ∧ ∀ n ∈ ns, (Lit.int k n).wf = true
theorem cell_addN {w : World} {b off j : Nat} {v : Value} (h : w.cell? ((⟨b, off, none⟩ : Addr).add j) = some v) : w.cell? ⟨b, off + j, none⟩ = some v := by
  by_cases hz : j = 0
  · subst hz; simpa [Addr.add] using h
  · simpa [Addr.add, hz] using h
theorem wf_i64 {n : Int} (h : (Lit.int .i64 n).wf = true) : -9223372036854775808 ≤ n ∧ n ≤ 9223372036854775807 := by
  simpa [Lit.wf, IntKind.min, IntKind.max, IntKind.signed, IntKind.bits] using h
theorem wf_u64 {n : Int} (h : (Lit.int .u64 n).wf = true) : 0 ≤ n ∧ n ≤ 18446744073709551615 := by
  simpa [Lit.wf, IntKind.min, IntKind.max, IntKind.signed, IntKind.bits] using h
theorem nums_of {H : Type} {enc : TypeId × Value → H} {P : Program} {w : World} {base : Nat} {sp : Nat → Bool} {held : Bool} {fuel : Nat} {a : Option Addr} {len cap : Nat} {t e : TypeId} {k : IntKind} {x : DataW H × List MemPlace}
    (ht : P.underlying t = some (.slice e)) (he : P.underlying e = some (.int k)) (hc : P.cellsOf e = 1)
    (h : DataW.trod enc P w base sp held fuel t [.slice a len cap] = some x) : ∃ ns, NumArg k w a len cap ns := by
  rcases open_ints ht he hc h with ⟨hcs, _⟩ | ⟨ad, l, c, zs, hcs, _, hl, hm, hz, _, hcell, hwf⟩
  · simp at hcs
    obtain ⟨rfl, rfl, rfl⟩ := hcs
    exact ⟨[], rfl, by simp [maxLen], Nat.le_refl _, by simp [maxLen], fun h => by simp at h, fun _ => rfl, by simp⟩
  · simp at hcs
    obtain ⟨rfl, rfl, rfl⟩ := hcs
    have hzl : len ≤ zs.length := by rw [hz]; split <;> omega
    refine ⟨zs.take len, by simp; omega, by omega, hl, hm, fun h0 => ?_, (fun h => by cases h), fun n hn => hwf n (List.mem_of_mem_take hn)⟩
    have h0' : 0 < len := by simp at h0; omega
    obtain ⟨b, off, spot⟩ := ad
    have h00 := hcell 0 (by omega)
    have hspot : spot = none := by simpa [Addr.add] using World.cell?_spot h00
    subst hspot
    refine ⟨b, off, rfl, fun i hi => ?_⟩
    have hi' : i < len := by simp at hi; omega
    have := cell_addN (hcell i (by omega))
    rw [List.getElem_take]
    rw [this]
    congr 2
    simp [List.getD, List.getElem?_eq_getElem (show i < zs.length by omega)]
theorem IntRow.below {k : IntKind} {w w' : World} {a : Option Addr} {ns : List Int} (h : IntRow k w a ns) (hb : Below w.heap.size w w') : IntRow k w' a ns := by
  intro h0
  obtain ⟨b, off, e, hc⟩ := h h0
  exact ⟨b, off, e, fun i hi => by rw [hb.cell (p := ⟨b, off + i, none⟩) (block_lt_of_cell (hc i hi))]; exact hc i hi⟩
theorem IntRow.touch {k : IntKind} {S : Nat → Prop} {w w' : World} {a : Option Addr} {ns : List Int} (h : IntRow k w a ns) (ht : Touch S w w') (hs : ∀ x, a = some x → ¬ S x.block) : IntRow k w' a ns := by
  intro h0
  obtain ⟨b, off, e, hc⟩ := h h0
  exact ⟨b, off, e, fun i hi => by rw [ht.cell (p := ⟨b, off + i, none⟩) (block_lt_of_cell (hc i hi)) (by have := hs _ e; exact this)]; exact hc i hi⟩
theorem IntRow.take {k : IntKind} {w : World} {a : Option Addr} {ns : List Int} (h : IntRow k w a ns) (n : Nat) : IntRow k w a (ns.take n) := by
  intro h0
  have h0' : 0 < ns.length := by simp at h0; omega
  obtain ⟨b, off, e, hc⟩ := h h0'
  refine ⟨b, off, e, fun i hi => ?_⟩
  have : i < ns.length := by simp at hi; omega
  rw [List.getElem_take]
  exact hc i this
theorem IntRow.lt {k : IntKind} {w : World} {a : Option Addr} {ns : List Int} (h : IntRow k w a ns) (h0 : 0 < ns.length) : ∃ b off, a = some ⟨b, off, none⟩ ∧ b < w.heap.size := by
  obtain ⟨b, off, e, hc⟩ := h h0
  exact ⟨b, off, e, block_lt_of_cell (hc 0 h0)⟩
end Go.Proofs.Ytdkokfpbmmjfkaa
namespace Go.Proofs.Ytdkokfpbmmjfkaa
open Go.RowKit Go.WideShapes Go.ChangeShapes
set_option linter.unusedVariables false

def RecArg (k : Nat) (w : World) (a : Option Addr) (len cap : Nat) (ls : List (List Int)) : Prop :=
  len = ls.length ∧ len ≤ cap ∧ cap ≤ maxLen ∧ Wide k ls ∧ RecRow k w a ls ∧ (a = none → ls = []) ∧ ∀ r ∈ ls, ∀ y ∈ r, B64 y
theorem RecArg.below {k : Nat} (hk : 0 < k) {w w' : World} {a : Option Addr} {len cap : Nat} {ls : List (List Int)} (h : RecArg k w a len cap ls) (hb : Below w.heap.size w w') : RecArg k w' a len cap ls :=
  ⟨h.1, h.2.1, h.2.2.1, h.2.2.2.1, h.2.2.2.2.1.below hk hb, h.2.2.2.2.2⟩
theorem list_4 {α : Type} {l : List α} (h : l.length = 4) : ∃ a b c d, l = [a, b, c, d] := by
  match l, h with
  | [a, b, c, d], _ => exact ⟨a, b, c, d, rfl⟩
theorem list_6 {α : Type} {l : List α} (h : l.length = 6) : ∃ a b c d e f, l = [a, b, c, d, e, f] := by
  match l, h with
  | [a, b, c, d, e, f], _ => exact ⟨a, b, c, d, e, f, rfl⟩
theorem list_7 {α : Type} {l : List α} (h : l.length = 7) : ∃ a b c d e f g, l = [a, b, c, d, e, f, g] := by
  match l, h with
  | [a, b, c, d, e, f, g], _ => exact ⟨a, b, c, d, e, f, g, rfl⟩
theorem recArg_of (k : Nat) (hk : 0 < k) {w : World} {ad : Addr} {len cap : Nat} (hl : len ≤ cap) (hm : cap ≤ maxLen)
    (each : ∀ i, i < len → ∃ r : List Int, r.length = k ∧ (∀ j, j < k → w.cell? (ad.add (i * k + j)) = some (.int .i64 (r.getD j 0))) ∧ ∀ y ∈ r, B64 y) : ∃ ls, RecArg k w (some ad) len cap ls := by
  let F : Nat → List Int := fun i => if hi : i < len then (each i hi).choose else []
  have hF : ∀ i, i < len → (F i).length = k ∧ (∀ j, j < k → w.cell? (ad.add (i * k + j)) = some (.int .i64 ((F i).getD j 0))) ∧ ∀ y ∈ F i, B64 y := by
    intro i hi
    have := (each i hi).choose_spec
    simp only [F, hi, dif_pos]
    exact this
  clear_value F
  refine ⟨(List.range len).map F, by simp, hl, hm, fun x hx => ?_, fun h0 => ?_, fun h => (by cases h), fun x hx => ?_⟩
  · simp only [List.mem_map, List.mem_range] at hx
    obtain ⟨i, hi, rfl⟩ := hx
    exact (hF i hi).1
  · obtain ⟨b, off, spot⟩ := ad
    have hlen : 0 < len := by simpa using h0
    have h00 := (hF 0 hlen).2.1 0 hk
    have hspot : spot = none := by simpa [Addr.add] using World.cell?_spot h00
    subst hspot
    refine ⟨b, off, rfl, fun i hi j hj => ?_⟩
    have hil : i < len := by simpa using hi
    simp only [List.getElem_map, List.getElem_range]
    rw [Nat.add_assoc]
    exact cell_addR ((hF i hil).2.1 j hj)
  · simp only [List.mem_map, List.mem_range] at hx
    obtain ⟨i, hi, rfl⟩ := hx
    exact (hF i hi).2.2
theorem acts8_of {H : Type} {enc : TypeId × Value → H} {w : World} {base : Nat} {sp : Nat → Bool} {held : Bool} {fuel : Nat} {a : Option Addr} {len cap : Nat} {x : DataW H × List MemPlace} (h : DataW.trod enc Try.prog w base sp held fuel 22 [.slice a len cap] = some x) : ∃ ls, RecArg 7 w a len cap ls := by
  rcases Deep.open_slice Try.underlying22 h with ⟨hcs, _⟩ | ⟨ad, l, c, m, n, D, Pl, hcs, _, hl, hm, hmm, _, hx⟩
  · simp at hcs
    obtain ⟨rfl, rfl, rfl⟩ := hcs
    exact ⟨[], rfl, Nat.le_refl _, by simp [maxLen], fun x hx => by simp at hx, fun h => by simp at h, fun _ => rfl, fun x hx => by simp at hx⟩
  · simp at hcs
    obtain ⟨rfl, rfl, rfl⟩ := hcs
    have hmc : len ≤ m := by rw [hmm]; split <;> omega
    have cS : Try.prog.cellsOf 32 = 7 := by kernel_rfl
    have c_int : Try.prog.cellsOf 3 = 1 := by kernel_rfl
    have c_int64 : Try.prog.cellsOf 2 = 1 := by kernel_rfl
    rw [cS] at hx
    have each : ∀ i, i < len → ∃ r : List Int, r.length = 7 ∧ (∀ j, j < 7 → w.cell? (ad.add (i * 7 + j)) = some (.int .i64 (r.getD j 0))) ∧ ∀ y ∈ r, B64 y := by
      intro i hi
      obtain ⟨cs', hc, ht⟩ := hx i (by omega)
      obtain ⟨ys, n', hn', hy, hlen, hyl, hf⟩ := DataW.trod_struct Try.underlying32 ht
      obtain ⟨_, hcl, hat⟩ := World.cells?_some hc
      obtain ⟨v0, v1, v2, v3, v4, v5, v6, rfl⟩ := list_7 hcl
      obtain ⟨y0, y1, y2, y3, y4, y5, y6, rfl⟩ := list_7 (show ys.length = 7 by simpa using hyl)
      have g0 : DataW.trod enc Try.prog w base sp held n' 3 [v0] = some y0 := by simpa [c_int] using hf 0 _ rfl
      have g1 : DataW.trod enc Try.prog w base sp held n' 3 [v1] = some y1 := by simpa [c_int] using hf 1 _ rfl
      have g2 : DataW.trod enc Try.prog w base sp held n' 3 [v2] = some y2 := by simpa [c_int] using hf 2 _ rfl
      have g3 : DataW.trod enc Try.prog w base sp held n' 2 [v3] = some y3 := by simpa [c_int64] using hf 3 _ rfl
      have g4 : DataW.trod enc Try.prog w base sp held n' 2 [v4] = some y4 := by simpa [c_int64] using hf 4 _ rfl
      have g5 : DataW.trod enc Try.prog w base sp held n' 2 [v5] = some y5 := by simpa [c_int64] using hf 5 _ rfl
      have g6 : DataW.trod enc Try.prog w base sp held n' 2 [v6] = some y6 := by simpa [c_int64] using hf 6 _ rfl
      obtain ⟨k0, q0, _, wf0⟩ := DataW.trod_int Try.underlying3 g0
      obtain ⟨k1, q1, _, wf1⟩ := DataW.trod_int Try.underlying3 g1
      obtain ⟨k2, q2, _, wf2⟩ := DataW.trod_int Try.underlying3 g2
      obtain ⟨k3, q3, _, wf3⟩ := DataW.trod_int Try.underlying2 g3
      obtain ⟨k4, q4, _, wf4⟩ := DataW.trod_int Try.underlying2 g4
      obtain ⟨k5, q5, _, wf5⟩ := DataW.trod_int Try.underlying2 g5
      obtain ⟨k6, q6, _, wf6⟩ := DataW.trod_int Try.underlying2 g6
      simp only [List.cons.injEq, and_true] at q0 q1 q2 q3 q4 q5 q6
      subst q0 q1 q2 q3 q4 q5 q6
      refine ⟨[k0, k1, k2, k3, k4, k5, k6], rfl, fun j hj => ?_, fun y hy => ?_⟩
      · have a0 := hat j (by simpa using hj)
        rw [Deep.add_add] at a0
        rw [a0]
        have : j = 0 ∨ j = 1 ∨ j = 2 ∨ j = 3 ∨ j = 4 ∨ j = 5 ∨ j = 6 := by omega
        rcases this with rfl | rfl | rfl | rfl | rfl | rfl | rfl <;> rfl
      · simp only [List.mem_cons, List.not_mem_nil, or_false] at hy
        rcases hy with rfl | rfl | rfl | rfl | rfl | rfl | rfl
        · exact wf_i64 wf0
        · exact wf_i64 wf1
        · exact wf_i64 wf2
        · exact wf_i64 wf3
        · exact wf_i64 wf4
        · exact wf_i64 wf5
        · exact wf_i64 wf6
    exact recArg_of 7 (by decide) hl hm each

end Go.Proofs.Ytdkokfpbmmjfkaa
namespace Go.Proofs.Ytdkokfpbmmjfkaa
open Go.RowKit
set_option linter.unusedVariables false

theorem RPost.set2 {w w1 w2 : World} {a : Option Addr} {us : List Un} {nx : Int} {q : Value} {r : Ending} {R : Nat} (h : RPost w1 a us nx q r w2) (hb : Below w.heap.size w w1) (ha : ∀ x, a = some x → x.block < w.heap.size) (hR1 : w.heap.size ≤ R) (hR2 : R < w1.heap.size) (x0 x1 : Value) : RPost w a us nx q r ((w2.setCell ⟨R, 0, none⟩ x0).setCell ⟨R, 1, none⟩ x1) := by
  obtain ⟨a5, c5, h1, h2, h3, h4, h5, h6, h7⟩ := h
  have ht := set2r_touch w2 R x0 x1
  have hbb := set2r_below (hb.trans (h7.mono hb.size)) hR1 x0 x1
  unfold set2r at ht hbb
  refine ⟨a5, c5, h1, h2.touch ht (fun x hx e => ?_), h3, h4, h5, ?_, hbb⟩
  · rcases h6 with h | h
    · rw [h] at hx; have := ha x hx; omega
    · have := (h x hx).1; omega
  · rcases h6 with h | h
    · exact .inl h
    · exact .inr fun x hx => ⟨Nat.le_trans hb.size (h x hx).1, Nat.lt_of_lt_of_le (h x hx).2 ht.size⟩
set_option maxRecDepth 100000 in
set_option maxHeartbeats 2000000 in
theorem refSet_no (a : Option Addr) (c : Nat) (us : List Un) (nx id f x : Int) (n : Nat) (w : World) (hl : us.length ≤ 64) (hrise : Rising us) (hr : UnRow w a us) (hn : a = none → us = []) (hc : us.length ≤ c ∧ c ≤ maxLen) (hf : FindIs us id n) (hno : foundQ us id n = false ∨ f < 2 ∨ 4 < f ∨ (¬ (f = 4 ∧ x < 1) ∧ mayN f.toNat x = false)) :
    Calls Try.prog 57 #[.agg #[.slice a us.length c, .int .i64 nx], .int .i64 id, .int .i64 f, .int .i64 x] w (RPost w a us nx (.bool false)) := by
  have hB : Below w.heap.size w ((w.alloc (.cells #[.slice a us.length c, .int .i64 nx] 28)).alloc (.cells #[.slice none 0 0, .int .i64 0] 28)) := bel_alloc (bel_alloc (Below.refl _ _) _) _
  have HF := Lib.hid (refFind_any a c us nx id n _ (by omega) hrise (hr.below hB) hf)
  have HB := Lib.hid hB
  have HP := Lib.hid (show ∀ W, Below w.heap.size w W → RPost w a us nx (.bool false) (.returned (.tuple #[.agg #[.slice a us.length c, .int .i64 nx], .bool false])) W from fun W hb => ⟨a, c, rfl, hr.below hb, hn, hc.1, hc.2, .inl rfl, hb⟩)
  generalize hpost : RPost w a us nx (.bool false) = Post at HP ⊢
  clear hr hn hB hpost hf hrise hc
  unfold findR at HF
  cases hq : foundQ us id n
  · rw [hq] at HF
    simp only [Bool.false_eq_true, if_false] at HF
    clear hno hq
    go_enter Try.func57, Try.ntmps57
    go_wp2_with fail
    refine HF.out.mono ?_
    rintro r w1 ⟨rfl, hb1⟩
    have t0 : w1.cell? ⟨w.heap.size, 0, none⟩ = some (.slice a us.length c) := (hb1.cell (p := ⟨w.heap.size, 0, none⟩) (by simp; omega)).trans (by repeat' (first | exact new_cell (by first | rfl | (simp; done)) rfl | with_reducible refine alloc_cell ?_ _))
    have t1 : w1.cell? ⟨w.heap.size, 1, none⟩ = some (.int .i64 nx) := (hb1.cell (p := ⟨w.heap.size, 1, none⟩) (by simp; omega)).trans (by repeat' (first | exact new_cell (by first | rfl | (simp; done)) rfl | with_reducible refine alloc_cell ?_ _))
    have r0 : w1.cell? ⟨w.heap.size + 1, 0, none⟩ = some (.slice none 0 0) := (hb1.cell (p := ⟨w.heap.size + 1, 0, none⟩) (by simp)).trans (by repeat' (first | exact new_cell (by first | rfl | (simp; done)) rfl | with_reducible refine alloc_cell ?_ _))
    have r1 : w1.cell? ⟨w.heap.size + 1, 1, none⟩ = some (.int .i64 0) := (hb1.cell (p := ⟨w.heap.size + 1, 1, none⟩) (by simp)).trans (by repeat' (first | exact new_cell (by first | rfl | (simp; done)) rfl | with_reducible refine alloc_cell ?_ _))
    have z0 : w1.frozen? ⟨w.heap.size + 1, 0, none⟩ = false := (hb1.frozen (p := ⟨w.heap.size + 1, 0, none⟩) (by simp)).trans (by rw [show w.heap.size + 1 = (w.alloc (.cells #[.slice a us.length c, .int .i64 nx] 28)).heap.size by simp]; exact frozen_new _ _ _ _)
    have z1 : w1.frozen? ⟨w.heap.size + 1, 1, none⟩ = false := (hb1.frozen (p := ⟨w.heap.size + 1, 1, none⟩) (by simp)).trans (by rw [show w.heap.size + 1 = (w.alloc (.cells #[.slice a us.length c, .int .i64 nx] 28)).heap.size by simp]; exact frozen_new _ _ _ _)
    have hB1 : Below w.heap.size w w1 := HB.out.trans (hb1.mono HB.out.size)
    have hTl := block_lt_of_cell t0
    have hRl := block_lt_of_cell r0
    have HB2 := Lib.hid (set2r_below hB1 (show w.heap.size ≤ w.heap.size + 1 by omega) (.slice a us.length c) (.int .i64 nx))
    unfold set2r at HB2
    clear hb1 HF HB hB1
    go_wp2
    exact bodyPost_ret (v := .tuple #[.agg #[.slice a us.length c, .int .i64 nx], .bool false]) (by simp [results, Try.results57, go_sem, r0, r1]) rfl (HP.out _ HB2.out)
  · rw [hq] at HF hno
    simp only [if_true, Bool.true_eq_false, false_or] at HF hno
    obtain ⟨hnl, -⟩ := findIs_lt hq
    have dn : decide ((n : Int) < 0) = false := by simp
    have hn64 : n < 64 := by omega
    clear hq hnl
    by_cases hf2 : f < 2
    · have d2 : decide (f < 2) = true := by simpa using hf2
      clear hno hf2
      go_enter Try.func57, Try.ntmps57
      go_wp2_with fail
      refine HF.out.mono ?_
      rintro r w1 ⟨rfl, hb1⟩
      have t0 : w1.cell? ⟨w.heap.size, 0, none⟩ = some (.slice a us.length c) := (hb1.cell (p := ⟨w.heap.size, 0, none⟩) (by simp; omega)).trans (by repeat' (first | exact new_cell (by first | rfl | (simp; done)) rfl | with_reducible refine alloc_cell ?_ _))
      have t1 : w1.cell? ⟨w.heap.size, 1, none⟩ = some (.int .i64 nx) := (hb1.cell (p := ⟨w.heap.size, 1, none⟩) (by simp; omega)).trans (by repeat' (first | exact new_cell (by first | rfl | (simp; done)) rfl | with_reducible refine alloc_cell ?_ _))
      have r0 : w1.cell? ⟨w.heap.size + 1, 0, none⟩ = some (.slice none 0 0) := (hb1.cell (p := ⟨w.heap.size + 1, 0, none⟩) (by simp)).trans (by repeat' (first | exact new_cell (by first | rfl | (simp; done)) rfl | with_reducible refine alloc_cell ?_ _))
      have r1 : w1.cell? ⟨w.heap.size + 1, 1, none⟩ = some (.int .i64 0) := (hb1.cell (p := ⟨w.heap.size + 1, 1, none⟩) (by simp)).trans (by repeat' (first | exact new_cell (by first | rfl | (simp; done)) rfl | with_reducible refine alloc_cell ?_ _))
      have z0 : w1.frozen? ⟨w.heap.size + 1, 0, none⟩ = false := (hb1.frozen (p := ⟨w.heap.size + 1, 0, none⟩) (by simp)).trans (by rw [show w.heap.size + 1 = (w.alloc (.cells #[.slice a us.length c, .int .i64 nx] 28)).heap.size by simp]; exact frozen_new _ _ _ _)
      have z1 : w1.frozen? ⟨w.heap.size + 1, 1, none⟩ = false := (hb1.frozen (p := ⟨w.heap.size + 1, 1, none⟩) (by simp)).trans (by rw [show w.heap.size + 1 = (w.alloc (.cells #[.slice a us.length c, .int .i64 nx] 28)).heap.size by simp]; exact frozen_new _ _ _ _)
      have hB1 : Below w.heap.size w w1 := HB.out.trans (hb1.mono HB.out.size)
      have hTl := block_lt_of_cell t0
      have hRl := block_lt_of_cell r0
      have HB2 := Lib.hid (set2r_below hB1 (show w.heap.size ≤ w.heap.size + 1 by omega) (.slice a us.length c) (.int .i64 nx))
      unfold set2r at HB2
      clear hb1 HF HB hB1
      go_wp2
      exact bodyPost_ret (v := .tuple #[.agg #[.slice a us.length c, .int .i64 nx], .bool false]) (by simp [results, Try.results57, go_sem, r0, r1]) rfl (HP.out _ HB2.out)
    · have d2 : decide (f < 2) = false := by simpa using hf2
      by_cases hf4 : 4 < f
      · have d4 : decide (4 < f) = true := by simpa using hf4
        clear hno hf2 hf4
        go_enter Try.func57, Try.ntmps57
        go_wp2_with fail
        refine HF.out.mono ?_
        rintro r w1 ⟨rfl, hb1⟩
        have t0 : w1.cell? ⟨w.heap.size, 0, none⟩ = some (.slice a us.length c) := (hb1.cell (p := ⟨w.heap.size, 0, none⟩) (by simp; omega)).trans (by repeat' (first | exact new_cell (by first | rfl | (simp; done)) rfl | with_reducible refine alloc_cell ?_ _))
        have t1 : w1.cell? ⟨w.heap.size, 1, none⟩ = some (.int .i64 nx) := (hb1.cell (p := ⟨w.heap.size, 1, none⟩) (by simp; omega)).trans (by repeat' (first | exact new_cell (by first | rfl | (simp; done)) rfl | with_reducible refine alloc_cell ?_ _))
        have r0 : w1.cell? ⟨w.heap.size + 1, 0, none⟩ = some (.slice none 0 0) := (hb1.cell (p := ⟨w.heap.size + 1, 0, none⟩) (by simp)).trans (by repeat' (first | exact new_cell (by first | rfl | (simp; done)) rfl | with_reducible refine alloc_cell ?_ _))
        have r1 : w1.cell? ⟨w.heap.size + 1, 1, none⟩ = some (.int .i64 0) := (hb1.cell (p := ⟨w.heap.size + 1, 1, none⟩) (by simp)).trans (by repeat' (first | exact new_cell (by first | rfl | (simp; done)) rfl | with_reducible refine alloc_cell ?_ _))
        have z0 : w1.frozen? ⟨w.heap.size + 1, 0, none⟩ = false := (hb1.frozen (p := ⟨w.heap.size + 1, 0, none⟩) (by simp)).trans (by rw [show w.heap.size + 1 = (w.alloc (.cells #[.slice a us.length c, .int .i64 nx] 28)).heap.size by simp]; exact frozen_new _ _ _ _)
        have z1 : w1.frozen? ⟨w.heap.size + 1, 1, none⟩ = false := (hb1.frozen (p := ⟨w.heap.size + 1, 1, none⟩) (by simp)).trans (by rw [show w.heap.size + 1 = (w.alloc (.cells #[.slice a us.length c, .int .i64 nx] 28)).heap.size by simp]; exact frozen_new _ _ _ _)
        have hB1 : Below w.heap.size w w1 := HB.out.trans (hb1.mono HB.out.size)
        have hTl := block_lt_of_cell t0
        have hRl := block_lt_of_cell r0
        have HB2 := Lib.hid (set2r_below hB1 (show w.heap.size ≤ w.heap.size + 1 by omega) (.slice a us.length c) (.int .i64 nx))
        unfold set2r at HB2
        clear hb1 HF HB hB1
        go_wp2
        exact bodyPost_ret (v := .tuple #[.agg #[.slice a us.length c, .int .i64 nx], .bool false]) (by simp [results, Try.results57, go_sem, r0, r1]) rfl (HP.out _ HB2.out)
      · have d4 : decide (4 < f) = false := by simpa using hf4
        have hf' : ¬ (f = 4 ∧ x < 1) ∧ mayN f.toNat x = false := by rcases hno with h | h | h; exact absurd h hf2; exact absurd h hf4; exact h
        have HM := Lib.hid (fun W => refMay_any f.toNat x W (by omega))
        rw [hf'.2] at HM
        obtain ⟨fn, rfl⟩ := Int.eq_ofNat_of_zero_le (show 0 ≤ f by omega)
        simp only [Int.toNat_natCast] at HM
        by_cases h4 : fn = 4
        · subst h4
          have hx : ¬ x < 1 := fun h => hf'.1 ⟨rfl, h⟩
          have dx : decide (x < 1) = false := by simpa using hx
          clear hno hf' hf2 hf4 d2 d4 hx
          go_enter Try.func57, Try.ntmps57
          go_wp2_with fail
          refine HF.out.mono ?_
          rintro r w1 ⟨rfl, hb1⟩
          have t0 : w1.cell? ⟨w.heap.size, 0, none⟩ = some (.slice a us.length c) := (hb1.cell (p := ⟨w.heap.size, 0, none⟩) (by simp; omega)).trans (by repeat' (first | exact new_cell (by first | rfl | (simp; done)) rfl | with_reducible refine alloc_cell ?_ _))
          have t1 : w1.cell? ⟨w.heap.size, 1, none⟩ = some (.int .i64 nx) := (hb1.cell (p := ⟨w.heap.size, 1, none⟩) (by simp; omega)).trans (by repeat' (first | exact new_cell (by first | rfl | (simp; done)) rfl | with_reducible refine alloc_cell ?_ _))
          have r0 : w1.cell? ⟨w.heap.size + 1, 0, none⟩ = some (.slice none 0 0) := (hb1.cell (p := ⟨w.heap.size + 1, 0, none⟩) (by simp)).trans (by repeat' (first | exact new_cell (by first | rfl | (simp; done)) rfl | with_reducible refine alloc_cell ?_ _))
          have r1 : w1.cell? ⟨w.heap.size + 1, 1, none⟩ = some (.int .i64 0) := (hb1.cell (p := ⟨w.heap.size + 1, 1, none⟩) (by simp)).trans (by repeat' (first | exact new_cell (by first | rfl | (simp; done)) rfl | with_reducible refine alloc_cell ?_ _))
          have z0 : w1.frozen? ⟨w.heap.size + 1, 0, none⟩ = false := (hb1.frozen (p := ⟨w.heap.size + 1, 0, none⟩) (by simp)).trans (by rw [show w.heap.size + 1 = (w.alloc (.cells #[.slice a us.length c, .int .i64 nx] 28)).heap.size by simp]; exact frozen_new _ _ _ _)
          have z1 : w1.frozen? ⟨w.heap.size + 1, 1, none⟩ = false := (hb1.frozen (p := ⟨w.heap.size + 1, 1, none⟩) (by simp)).trans (by rw [show w.heap.size + 1 = (w.alloc (.cells #[.slice a us.length c, .int .i64 nx] 28)).heap.size by simp]; exact frozen_new _ _ _ _)
          have hB1 : Below w.heap.size w w1 := HB.out.trans (hb1.mono HB.out.size)
          have hTl := block_lt_of_cell t0
          have hRl := block_lt_of_cell r0
          have HB2 := Lib.hid (set2r_below hB1 (show w.heap.size ≤ w.heap.size + 1 by omega) (.slice a us.length c) (.int .i64 nx))
          unfold set2r at HB2
          clear hb1 HF HB hB1
          go_wp2_with (go_at_call 85; (refine (HM.out _).mono ?_); rintro e w' ⟨rfl, rfl⟩)
          exact bodyPost_ret (v := .tuple #[.agg #[.slice a us.length c, .int .i64 nx], .bool false]) (by simp [results, Try.results57, go_sem, r0, r1]) rfl (HP.out _ HB2.out)
        · have h4b : ((fn : Int) == 4) = false := by simp; omega
          clear hno hf' h4
          go_enter Try.func57, Try.ntmps57
          go_wp2_with fail
          refine HF.out.mono ?_
          rintro r w1 ⟨rfl, hb1⟩
          have t0 : w1.cell? ⟨w.heap.size, 0, none⟩ = some (.slice a us.length c) := (hb1.cell (p := ⟨w.heap.size, 0, none⟩) (by simp; omega)).trans (by repeat' (first | exact new_cell (by first | rfl | (simp; done)) rfl | with_reducible refine alloc_cell ?_ _))
          have t1 : w1.cell? ⟨w.heap.size, 1, none⟩ = some (.int .i64 nx) := (hb1.cell (p := ⟨w.heap.size, 1, none⟩) (by simp; omega)).trans (by repeat' (first | exact new_cell (by first | rfl | (simp; done)) rfl | with_reducible refine alloc_cell ?_ _))
          have r0 : w1.cell? ⟨w.heap.size + 1, 0, none⟩ = some (.slice none 0 0) := (hb1.cell (p := ⟨w.heap.size + 1, 0, none⟩) (by simp)).trans (by repeat' (first | exact new_cell (by first | rfl | (simp; done)) rfl | with_reducible refine alloc_cell ?_ _))
          have r1 : w1.cell? ⟨w.heap.size + 1, 1, none⟩ = some (.int .i64 0) := (hb1.cell (p := ⟨w.heap.size + 1, 1, none⟩) (by simp)).trans (by repeat' (first | exact new_cell (by first | rfl | (simp; done)) rfl | with_reducible refine alloc_cell ?_ _))
          have z0 : w1.frozen? ⟨w.heap.size + 1, 0, none⟩ = false := (hb1.frozen (p := ⟨w.heap.size + 1, 0, none⟩) (by simp)).trans (by rw [show w.heap.size + 1 = (w.alloc (.cells #[.slice a us.length c, .int .i64 nx] 28)).heap.size by simp]; exact frozen_new _ _ _ _)
          have z1 : w1.frozen? ⟨w.heap.size + 1, 1, none⟩ = false := (hb1.frozen (p := ⟨w.heap.size + 1, 1, none⟩) (by simp)).trans (by rw [show w.heap.size + 1 = (w.alloc (.cells #[.slice a us.length c, .int .i64 nx] 28)).heap.size by simp]; exact frozen_new _ _ _ _)
          have hB1 : Below w.heap.size w w1 := HB.out.trans (hb1.mono HB.out.size)
          have hTl := block_lt_of_cell t0
          have hRl := block_lt_of_cell r0
          have HB2 := Lib.hid (set2r_below hB1 (show w.heap.size ≤ w.heap.size + 1 by omega) (.slice a us.length c) (.int .i64 nx))
          unfold set2r at HB2
          clear hb1 HF HB hB1
          go_wp2_with (go_at_call 85; (refine (HM.out _).mono ?_); rintro e w' ⟨rfl, rfl⟩)
          exact bodyPost_ret (v := .tuple #[.agg #[.slice a us.length c, .int .i64 nx], .bool false]) (by simp [results, Try.results57, go_sem, r0, r1]) rfl (HP.out _ HB2.out)
set_option maxRecDepth 100000 in
set_option maxHeartbeats 2000000 in
theorem refSet_kill (a : Option Addr) (c : Nat) (us : List Un) (nx id x : Int) (n : Nat) (w : World) (hl : us.length ≤ 64) (hrise : Rising us) (hr : UnRow w a us) (hn : a = none → us = []) (hc : us.length ≤ c ∧ c ≤ maxLen) (hf : FindIs us id n) (hq : foundQ us id n = true) (hx : x < 1) :
    Calls Try.prog 57 #[.agg #[.slice a us.length c, .int .i64 nx], .int .i64 id, .int .i64 4, .int .i64 x] w (RPost w a (us.eraseIdx n) nx (.bool true)) := by
  have hB : Below w.heap.size w ((w.alloc (.cells #[.slice a us.length c, .int .i64 nx] 28)).alloc (.cells #[.slice none 0 0, .int .i64 0] 28)) := bel_alloc (bel_alloc (Below.refl _ _) _) _
  have HF := Lib.hid (refFind_any a c us nx id n _ (by omega) hrise (hr.below hB) hf)
  have HB := Lib.hid hB
  have HK := Lib.hid (fun (W : World) (hb : Below w.heap.size w W) => refKill_yes a c us nx id n W hl hrise (hr.below hb) hn hc hf hq)
  rw [show findR us id n = (n : Int) by unfold findR; rw [hq]; rfl] at HF
  have dn : decide ((n : Int) < 0) = false := by simp
  have dx : decide (x < 1) = true := by simpa using hx
  obtain ⟨hnl, -⟩ := findIs_lt hq
  have hn64 : n < 64 := by omega
  have HAL := Lib.hid (show ∀ x, a = some x → x.block < w.heap.size from fun x hx => by
    obtain ⟨gb, off, e, hlt, -⟩ := hr.at hnl
    rw [e] at hx
    cases hx
    exact hlt)
  generalize hpost : RPost w a (us.eraseIdx n) nx (.bool true) = Post
  have HPOST := Lib.hid hpost
  clear hr hn hB hf hrise hc hq hx hnl hpost
  go_enter Try.func57, Try.ntmps57
  go_wp2_with fail
  refine HF.out.mono ?_
  rintro r w1 ⟨rfl, hb1⟩
  have t0 : w1.cell? ⟨w.heap.size, 0, none⟩ = some (.slice a us.length c) := (hb1.cell (p := ⟨w.heap.size, 0, none⟩) (by simp; omega)).trans (by repeat' (first | exact new_cell (by first | rfl | (simp; done)) rfl | with_reducible refine alloc_cell ?_ _))
  have t1 : w1.cell? ⟨w.heap.size, 1, none⟩ = some (.int .i64 nx) := (hb1.cell (p := ⟨w.heap.size, 1, none⟩) (by simp; omega)).trans (by repeat' (first | exact new_cell (by first | rfl | (simp; done)) rfl | with_reducible refine alloc_cell ?_ _))
  have r0 : w1.cell? ⟨w.heap.size + 1, 0, none⟩ = some (.slice none 0 0) := (hb1.cell (p := ⟨w.heap.size + 1, 0, none⟩) (by simp)).trans (by repeat' (first | exact new_cell (by first | rfl | (simp; done)) rfl | with_reducible refine alloc_cell ?_ _))
  have r1 : w1.cell? ⟨w.heap.size + 1, 1, none⟩ = some (.int .i64 0) := (hb1.cell (p := ⟨w.heap.size + 1, 1, none⟩) (by simp)).trans (by repeat' (first | exact new_cell (by first | rfl | (simp; done)) rfl | with_reducible refine alloc_cell ?_ _))
  have z0 : w1.frozen? ⟨w.heap.size + 1, 0, none⟩ = false := (hb1.frozen (p := ⟨w.heap.size + 1, 0, none⟩) (by simp)).trans (by rw [show w.heap.size + 1 = (w.alloc (.cells #[.slice a us.length c, .int .i64 nx] 28)).heap.size by simp]; exact frozen_new _ _ _ _)
  have z1 : w1.frozen? ⟨w.heap.size + 1, 1, none⟩ = false := (hb1.frozen (p := ⟨w.heap.size + 1, 1, none⟩) (by simp)).trans (by rw [show w.heap.size + 1 = (w.alloc (.cells #[.slice a us.length c, .int .i64 nx] 28)).heap.size by simp]; exact frozen_new _ _ _ _)
  have hB1 : Below w.heap.size w w1 := HB.out.trans (hb1.mono HB.out.size)
  have hTl := block_lt_of_cell t0
  have hRl := block_lt_of_cell r0
  have HB1 := Lib.hid hB1
  clear hb1 HF HB hB1
  go_wp2_with fail
  refine (HK.out w1 HB1.out).mono ?_
  rintro r w2 hp
  have HFIN := Lib.hid (fun x0 x1 => hp.set2 HB1.out HAL.out (show w.heap.size ≤ w.heap.size + 1 by omega) hRl x0 x1)
  obtain ⟨a5, c5, rfl, h2, h3, h4, h5, h6, h7⟩ := hp
  rw [HPOST.out] at HFIN
  have rr0 := (h7.cell (p := ⟨w.heap.size + 1, 0, none⟩) hRl).trans r0
  have rr1 := (h7.cell (p := ⟨w.heap.size + 1, 1, none⟩) hRl).trans r1
  have zz0 := (h7.frozen (p := ⟨w.heap.size + 1, 0, none⟩) hRl).trans z0
  have zz1 := (h7.frozen (p := ⟨w.heap.size + 1, 1, none⟩) hRl).trans z1
  have hRl2 := block_lt_of_cell rr0
  clear h2 h3 h4 h5 h6 h7 t0 t1 r0 r1 z0 z1 HK
  go_wp2
  exact bodyPost_ret (v := .tuple #[.agg #[.slice a5 (us.eraseIdx n).length c5, .int .i64 nx], .bool true]) (by simp [results, Try.results57, go_sem, rr0, rr1]) rfl (HFIN.out _ _)
theorem own_set6 {e : TypeId} {B g c : Nat} {w : World} {ls : List (List Int)} (h : OwnRec e 6 B (some ⟨g, 0, none⟩) c ls w) (hw : Wide 6 ls) (i : Nat) (hi : i < ls.length) (v0 v1 v2 v3 v4 v5 : Int) :
    OwnRec e 6 B (some ⟨g, 0, none⟩) c (ls.set i [v0, v1, v2, v3, v4, v5]) ((((((w.setCell ⟨g, i * 6, none⟩ (.int .i64 v0)).setCell ⟨g, i * 6 + 1, none⟩ (.int .i64 v1)).setCell ⟨g, i * 6 + 2, none⟩ (.int .i64 v2)).setCell ⟨g, i * 6 + 3, none⟩ (.int .i64 v3)).setCell ⟨g, i * 6 + 4, none⟩ (.int .i64 v4)).setCell ⟨g, i * 6 + 5, none⟩ (.int .i64 v5)) := by
  have hl : ls[i].length = 6 := hw _ (List.getElem_mem hi)
  have step : ∀ (W : World) (x : List Int) (hx : x.length = 6) (j : Nat) (hj : j < 6) (v : Int), OwnRec e 6 B (some ⟨g, 0, none⟩) c (ls.set i x) W → OwnRec e 6 B (some ⟨g, 0, none⟩) c (ls.set i (x.set j v)) (W.setCell ⟨g, i * 6 + j, none⟩ (.int .i64 v)) := by
    intro W x hx j hj v hW
    have h1 := hW.set (wide_set hw i x hx) i (by simpa using hi) j hj v
    rw [List.getElem_set_self, List.set_set] at h1
    exact h1
  have s0 : OwnRec e 6 B (some ⟨g, 0, none⟩) c (ls.set i ls[i]) w := by rw [List.set_getElem_self]; exact h
  have s1 := step _ _ hl 0 (by decide) v0 s0
  have s2 := step _ _ (by simpa using hl) 1 (by decide) v1 s1
  have s3 := step _ _ (by simpa using hl) 2 (by decide) v2 s2
  have s4 := step _ _ (by simpa using hl) 3 (by decide) v3 s3
  have s5 := step _ _ (by simpa using hl) 4 (by decide) v4 s4
  have s6 := step _ _ (by simpa using hl) 5 (by decide) v5 s5
  have e6 : (((((ls[i].set 0 v0).set 1 v1).set 2 v2).set 3 v3).set 4 v4).set 5 v5 = [v0, v1, v2, v3, v4, v5] := by
    obtain ⟨a, b, c, d, e, f, h⟩ := list_6 hl
    rw [h]; rfl
  rw [e6] at s6
  exact s6
end Go.Proofs.Ytdkokfpbmmjfkaa
namespace Go.Proofs.Ytdkokfpbmmjfkaa
open Go.RowKit
set_option linter.unusedVariables false

theorem set2_same0 {w : World} {R : Nat} {v x y : Value} (h : w.cell? ⟨R, 0, none⟩ = some v) : ((w.setCell ⟨R, 0, none⟩ x).setCell ⟨R, 1, none⟩ y).cell? ⟨R, 0, none⟩ = some x := by
  rw [World.cell?_setCell_other _ _ _ _ (by simp)]; exact World.cell?_setCell_same _ _ _ h
theorem set2_same1 {w : World} {R : Nat} {v x y : Value} (h : w.cell? ⟨R, 1, none⟩ = some v) : ((w.setCell ⟨R, 0, none⟩ x).setCell ⟨R, 1, none⟩ y).cell? ⟨R, 1, none⟩ = some y :=
  World.cell?_setCell_same _ _ _ ((World.cell?_setCell_other _ _ _ _ (by simp)).trans h)
theorem RPost.keep {w w1 w2 : World} {a : Option Addr} {us : List Un} {nx : Int} {q : Value} {r : Ending} (h : RPost w a us nx q r w1) (hb : Below w1.heap.size w1 w2) : RPost w a us nx q r w2 := by
  obtain ⟨a5, c5, h1, h2, h3, h4, h5, h6, h7⟩ := h
  refine ⟨a5, c5, h1, h2.below hb, h3, h4, h5, ?_, h7.trans (hb.mono h7.size)⟩
  rcases h6 with h | h
  · exact .inl h
  · exact .inr fun x hx => ⟨(h x hx).1, Nat.lt_of_lt_of_le (h x hx).2 hb.size⟩
set_option maxRecDepth 100000 in
set_option maxHeartbeats 4000000 in
theorem refSet_yes (a : Option Addr) (c : Nat) (us : List Un) (nx id x : Int) (f : Nat) (n : Nat) (w : World) (hl : us.length ≤ 64) (hrise : Rising us) (hr : UnRow w a us) (hn : a = none → us = []) (hc : us.length ≤ c ∧ c ≤ maxLen) (hf : FindIs us id n) (hq : foundQ us id n = true) (hnl : n < us.length) (h2 : 2 ≤ f) (h4 : f ≤ 4) (hm : mayN f x = true) :
    Calls Try.prog 57 #[.agg #[.slice a us.length c, .int .i64 nx], .int .i64 id, .int .i64 f, .int .i64 x] w (RPost w a (us.set n (us[n].setF f x)) nx (.bool true)) := by
  have hB : Below w.heap.size w ((w.alloc (.cells #[.slice a us.length c, .int .i64 nx] 28)).alloc (.cells #[.slice none 0 0, .int .i64 0] 28)) := bel_alloc (bel_alloc (Below.refl _ _) _) _
  have HF := Lib.hid (refFind_any a c us nx id n _ (by omega) hrise (hr.below hB) hf)
  have HB := Lib.hid hB
  rw [show findR us id n = (n : Int) by unfold findR; rw [hq]; rfl] at HF
  have dn : decide ((n : Int) < 0) = false := by simp
  have hn64 : n < 64 := by omega
  have HM := Lib.hid (fun W => refMay_any f x W (by omega))
  rw [hm] at HM
  have hx4 : f = 4 → ¬ x < 1 := fun e => by subst e; simp [mayN] at hm; omega
  have HR := Lib.hid hr
  have HN := Lib.hid hn
  have HSI := Lib.hid (show (unsI us).set n (us[n].setF f x).ints = unsI (us.set n (us[n].setF f x)) by unfold unsI; rw [List.map_set])
  generalize hpost : RPost w a (us.set n (us[n].setF f x)) nx (.bool true) = Post
  have HPOST := Lib.hid hpost
  clear hr hn hB hf hrise hc hq hm hpost
  have h3 : f = 2 ∨ f = 3 ∨ f = 4 := by omega
  rcases h3 with rfl | rfl | rfl
  · clear h2 h4 hx4
    go_enter Try.func57, Try.ntmps57
    go_wp2_with fail
    refine HF.out.mono ?_
    rintro r w1 ⟨rfl, hb1⟩
    have t0 : w1.cell? ⟨w.heap.size, 0, none⟩ = some (.slice a us.length c) := (hb1.cell (p := ⟨w.heap.size, 0, none⟩) (by simp; omega)).trans (by repeat' (first | exact new_cell (by first | rfl | (simp; done)) rfl | with_reducible refine alloc_cell ?_ _))
    have t1 : w1.cell? ⟨w.heap.size, 1, none⟩ = some (.int .i64 nx) := (hb1.cell (p := ⟨w.heap.size, 1, none⟩) (by simp; omega)).trans (by repeat' (first | exact new_cell (by first | rfl | (simp; done)) rfl | with_reducible refine alloc_cell ?_ _))
    have r0 : w1.cell? ⟨w.heap.size + 1, 0, none⟩ = some (.slice none 0 0) := (hb1.cell (p := ⟨w.heap.size + 1, 0, none⟩) (by simp)).trans (by repeat' (first | exact new_cell (by first | rfl | (simp; done)) rfl | with_reducible refine alloc_cell ?_ _))
    have r1 : w1.cell? ⟨w.heap.size + 1, 1, none⟩ = some (.int .i64 0) := (hb1.cell (p := ⟨w.heap.size + 1, 1, none⟩) (by simp)).trans (by repeat' (first | exact new_cell (by first | rfl | (simp; done)) rfl | with_reducible refine alloc_cell ?_ _))
    have z0 : w1.frozen? ⟨w.heap.size + 1, 0, none⟩ = false := (hb1.frozen (p := ⟨w.heap.size + 1, 0, none⟩) (by simp)).trans (by rw [show w.heap.size + 1 = (w.alloc (.cells #[.slice a us.length c, .int .i64 nx] 28)).heap.size by simp]; exact frozen_new _ _ _ _)
    have z1 : w1.frozen? ⟨w.heap.size + 1, 1, none⟩ = false := (hb1.frozen (p := ⟨w.heap.size + 1, 1, none⟩) (by simp)).trans (by rw [show w.heap.size + 1 = (w.alloc (.cells #[.slice a us.length c, .int .i64 nx] 28)).heap.size by simp]; exact frozen_new _ _ _ _)
    have hB1 : Below w.heap.size w w1 := HB.out.trans (hb1.mono HB.out.size)
    have hTl := block_lt_of_cell t0
    have hRl := block_lt_of_cell r0
    have HB1 := Lib.hid hB1
    obtain ⟨a4, c4, w4, hrun, hn4, -⟩ := app1 (W0 := w1) (k := w1.heap.size) (c := c) (ty := 26) (bel_alloc (Below.refl _ _) _) (made0 _ _ rfl) (Nat.le_refl _) (HR.out.below hB1) HN.out (by omega)
    obtain ⟨g4, rfl⟩ := own_someR hn4.1 (by rw [unsI_len]; omega)
    have HRUN := Lib.hid hrun
    have HN4 := Lib.hid hn4
    have hg4 : w1.heap.size ≤ g4 := hn4.2.1 _ rfl
    obtain ⟨b', off', e', hg4l, e0, e1, e2, e3, e4, e5⟩ := (show UnRow w4 (some ⟨g4, 0, none⟩) us from hn4.row (unsI_wide us) (by decide)).at hnl
    cases e'
    simp only [Nat.zero_add] at e0 e1 e2 e3 e4 e5
    have q0 : w4.frozen? ⟨g4, n * 6, none⟩ = false := hn4.1.frozenAt _
    have q1 : w4.frozen? ⟨g4, n * 6 + 1, none⟩ = false := hn4.1.frozenAt _
    have q2 : w4.frozen? ⟨g4, n * 6 + 2, none⟩ = false := hn4.1.frozenAt _
    have q3 : w4.frozen? ⟨g4, n * 6 + 3, none⟩ = false := hn4.1.frozenAt _
    have q4 : w4.frozen? ⟨g4, n * 6 + 4, none⟩ = false := hn4.1.frozenAt _
    have q5 : w4.frozen? ⟨g4, n * 6 + 5, none⟩ = false := hn4.1.frozenAt _
    have tt1 := (hn4.2.2.cell (p := ⟨w.heap.size, 1, none⟩) hTl).trans t1
    have rr0 := (hn4.2.2.cell (p := ⟨w.heap.size + 1, 0, none⟩) hRl).trans r0
    have rr1 := (hn4.2.2.cell (p := ⟨w.heap.size + 1, 1, none⟩) hRl).trans r1
    have zz0 := (hn4.2.2.frozen (p := ⟨w.heap.size + 1, 0, none⟩) hRl).trans z0
    have zz1 := (hn4.2.2.frozen (p := ⟨w.heap.size + 1, 1, none⟩) hRl).trans z1
    have hT4 := block_lt_of_cell tt1
    have hR4 := block_lt_of_cell rr0
    have hTl2 : w.heap.size < w1.heap.size := hTl
    have hRl2 : w.heap.size + 1 < w1.heap.size := hRl
    have ne1 : w.heap.size ≠ g4 := by omega
    have ne2 : w.heap.size + 1 ≠ g4 := by omega
    have HUE := Lib.hid (show us[n].setF 2 x = us[n].setF 2 x from rfl)
    generalize us[n] = u at e0 e1 e2 e3 e4 e5 HSI HPOST
    obtain ⟨u0, u1, u2, u3, u4, u5⟩ := u
    simp only at e0 e1 e2 e3 e4 e5
    have HBE0 : Below w1.heap.size w1 ((((((w4.setCell ⟨g4, n * 6, none⟩ (.int .i64 u0)).setCell ⟨g4, n * 6 + 1, none⟩ (.int .i64 u1)).setCell ⟨g4, n * 6 + 2, none⟩ (.int .i64 u2)).setCell ⟨g4, n * 6 + 3, none⟩ (.int .i64 x)).setCell ⟨g4, n * 6 + 4, none⟩ (.int .i64 u4)).setCell ⟨g4, n * 6 + 5, none⟩ (.int .i64 u5)) := (((((hn4.2.2.setCell (p := ⟨g4, n * 6, none⟩) hg4 _).setCell (p := ⟨g4, n * 6 + 1, none⟩) hg4 _).setCell (p := ⟨g4, n * 6 + 2, none⟩) hg4 _).setCell (p := ⟨g4, n * 6 + 3, none⟩) hg4 _).setCell (p := ⟨g4, n * 6 + 4, none⟩) hg4 _).setCell (p := ⟨g4, n * 6 + 5, none⟩) hg4 _
    have HBE := Lib.hid HBE0
    have fr0 := alloc_cell (set2_same0 (x := .slice (some ⟨g4, 0, none⟩) us.length c4) (y := .int .i64 nx) ((HBE0.cell (p := ⟨w.heap.size + 1, 0, none⟩) hRl).trans r0)) (.cells #[.int .i64 u0, .int .i64 u1, .int .i64 u2, .int .i64 x, .int .i64 u4, .int .i64 u5] 113)
    have fr1 := alloc_cell (set2_same1 (x := .slice (some ⟨g4, 0, none⟩) us.length c4) (y := .int .i64 nx) ((HBE0.cell (p := ⟨w.heap.size + 1, 1, none⟩) hRl).trans r1)) (.cells #[.int .i64 u0, .int .i64 u1, .int .i64 u2, .int .i64 x, .int .i64 u4, .int .i64 u5] 113)
    have HFR0 := Lib.hid fr0
    have HFR1 := Lib.hid fr1
    clear fr0 fr1 HBE0
    have HFIN := Lib.hid (show RPost w a (us.set n (Un.setF ⟨u0, u1, u2, u3, u4, u5⟩ 2 x)) nx (.bool true) (.returned (.tuple #[.agg #[.slice (some ⟨g4, 0, none⟩) us.length c4, .int .i64 nx], .bool true])) (((((((((w4.setCell ⟨g4, n * 6, none⟩ (.int .i64 u0)).setCell ⟨g4, n * 6 + 1, none⟩ (.int .i64 u1)).setCell ⟨g4, n * 6 + 2, none⟩ (.int .i64 u2)).setCell ⟨g4, n * 6 + 3, none⟩ (.int .i64 x)).setCell ⟨g4, n * 6 + 4, none⟩ (.int .i64 u4)).setCell ⟨g4, n * 6 + 5, none⟩ (.int .i64 u5)).setCell ⟨w.heap.size + 1, 0, none⟩ (.slice (some ⟨g4, 0, none⟩) us.length c4)).setCell ⟨w.heap.size + 1, 1, none⟩ (.int .i64 nx)).alloc (.cells #[.int .i64 u0, .int .i64 u1, .int .i64 u2, .int .i64 x, .int .i64 u4, .int .i64 u5] 113)) from by
      have ho := own_set6 (NewRec.own HN4.out) (unsI_wide us) n (by rw [unsI_len]; exact hnl) u0 u1 u2 x u4 u5
      have hset : (unsI us).set n [u0, u1, u2, x, u4, u5] = unsI (us.set n (Un.setF ⟨u0, u1, u2, u3, u4, u5⟩ 2 x)) := HSI.out
      rw [hset] at ho
      have hbe := HBE.out
      have hnew : NewRec 113 6 w1 (some ⟨g4, 0, none⟩) c4 (unsI (us.set n (Un.setF ⟨u0, u1, u2, u3, u4, u5⟩ 2 x))) ((((((w4.setCell ⟨g4, n * 6, none⟩ (.int .i64 u0)).setCell ⟨g4, n * 6 + 1, none⟩ (.int .i64 u1)).setCell ⟨g4, n * 6 + 2, none⟩ (.int .i64 u2)).setCell ⟨g4, n * 6 + 3, none⟩ (.int .i64 x)).setCell ⟨g4, n * 6 + 4, none⟩ (.int .i64 u4)).setCell ⟨g4, n * 6 + 5, none⟩ (.int .i64 u5)) := ⟨ho.1, ho.2, hbe⟩
      have h5 := newRec_rpost2 (w := w) (a0 := a) (nx := nx) (q := .bool true) HB1.out hnew (show w.heap.size ≤ w.heap.size + 1 by omega) hRl (.slice (some ⟨g4, 0, none⟩) us.length c4) (.int .i64 nx)
      rw [List.length_set] at h5
      exact h5.keep (bel_alloc (Below.refl _ _) _))
    rw [HPOST.out] at HFIN
    clear hb1 HF HB hB1 hrun hn4 t1 r0 r1 z0 z1 HN4 HSI
    go_wp2_with (first | (go_at_call 85; (refine (HM.out _).mono ?_); rintro e w' ⟨rfl, rfl⟩) | (at_builtin; refine wpList_append_run _ rfl (.tmp 43) (.tmp 45) 26 26 rfl _ _ rfl rfl (.slice (some ⟨g4, 0, none⟩) us.length c4) w4 HRUN.out ?_))
    have fr0 := HFR0.out
    have fr1 := HFR1.out
    exact bodyPost_ret (v := .tuple #[.agg #[.slice (some ⟨g4, 0, none⟩) us.length c4, .int .i64 nx], .bool true]) (by simp [results, Try.results57, go_sem, fr0, fr1]) rfl HFIN.out
  · clear h2 h4 hx4
    go_enter Try.func57, Try.ntmps57
    go_wp2_with fail
    refine HF.out.mono ?_
    rintro r w1 ⟨rfl, hb1⟩
    have t0 : w1.cell? ⟨w.heap.size, 0, none⟩ = some (.slice a us.length c) := (hb1.cell (p := ⟨w.heap.size, 0, none⟩) (by simp; omega)).trans (by repeat' (first | exact new_cell (by first | rfl | (simp; done)) rfl | with_reducible refine alloc_cell ?_ _))
    have t1 : w1.cell? ⟨w.heap.size, 1, none⟩ = some (.int .i64 nx) := (hb1.cell (p := ⟨w.heap.size, 1, none⟩) (by simp; omega)).trans (by repeat' (first | exact new_cell (by first | rfl | (simp; done)) rfl | with_reducible refine alloc_cell ?_ _))
    have r0 : w1.cell? ⟨w.heap.size + 1, 0, none⟩ = some (.slice none 0 0) := (hb1.cell (p := ⟨w.heap.size + 1, 0, none⟩) (by simp)).trans (by repeat' (first | exact new_cell (by first | rfl | (simp; done)) rfl | with_reducible refine alloc_cell ?_ _))
    have r1 : w1.cell? ⟨w.heap.size + 1, 1, none⟩ = some (.int .i64 0) := (hb1.cell (p := ⟨w.heap.size + 1, 1, none⟩) (by simp)).trans (by repeat' (first | exact new_cell (by first | rfl | (simp; done)) rfl | with_reducible refine alloc_cell ?_ _))
    have z0 : w1.frozen? ⟨w.heap.size + 1, 0, none⟩ = false := (hb1.frozen (p := ⟨w.heap.size + 1, 0, none⟩) (by simp)).trans (by rw [show w.heap.size + 1 = (w.alloc (.cells #[.slice a us.length c, .int .i64 nx] 28)).heap.size by simp]; exact frozen_new _ _ _ _)
    have z1 : w1.frozen? ⟨w.heap.size + 1, 1, none⟩ = false := (hb1.frozen (p := ⟨w.heap.size + 1, 1, none⟩) (by simp)).trans (by rw [show w.heap.size + 1 = (w.alloc (.cells #[.slice a us.length c, .int .i64 nx] 28)).heap.size by simp]; exact frozen_new _ _ _ _)
    have hB1 : Below w.heap.size w w1 := HB.out.trans (hb1.mono HB.out.size)
    have hTl := block_lt_of_cell t0
    have hRl := block_lt_of_cell r0
    have HB1 := Lib.hid hB1
    obtain ⟨a4, c4, w4, hrun, hn4, -⟩ := app1 (W0 := w1) (k := w1.heap.size) (c := c) (ty := 26) (bel_alloc (Below.refl _ _) _) (made0 _ _ rfl) (Nat.le_refl _) (HR.out.below hB1) HN.out (by omega)
    obtain ⟨g4, rfl⟩ := own_someR hn4.1 (by rw [unsI_len]; omega)
    have HRUN := Lib.hid hrun
    have HN4 := Lib.hid hn4
    have hg4 : w1.heap.size ≤ g4 := hn4.2.1 _ rfl
    obtain ⟨b', off', e', hg4l, e0, e1, e2, e3, e4, e5⟩ := (show UnRow w4 (some ⟨g4, 0, none⟩) us from hn4.row (unsI_wide us) (by decide)).at hnl
    cases e'
    simp only [Nat.zero_add] at e0 e1 e2 e3 e4 e5
    have q0 : w4.frozen? ⟨g4, n * 6, none⟩ = false := hn4.1.frozenAt _
    have q1 : w4.frozen? ⟨g4, n * 6 + 1, none⟩ = false := hn4.1.frozenAt _
    have q2 : w4.frozen? ⟨g4, n * 6 + 2, none⟩ = false := hn4.1.frozenAt _
    have q3 : w4.frozen? ⟨g4, n * 6 + 3, none⟩ = false := hn4.1.frozenAt _
    have q4 : w4.frozen? ⟨g4, n * 6 + 4, none⟩ = false := hn4.1.frozenAt _
    have q5 : w4.frozen? ⟨g4, n * 6 + 5, none⟩ = false := hn4.1.frozenAt _
    have tt1 := (hn4.2.2.cell (p := ⟨w.heap.size, 1, none⟩) hTl).trans t1
    have rr0 := (hn4.2.2.cell (p := ⟨w.heap.size + 1, 0, none⟩) hRl).trans r0
    have rr1 := (hn4.2.2.cell (p := ⟨w.heap.size + 1, 1, none⟩) hRl).trans r1
    have zz0 := (hn4.2.2.frozen (p := ⟨w.heap.size + 1, 0, none⟩) hRl).trans z0
    have zz1 := (hn4.2.2.frozen (p := ⟨w.heap.size + 1, 1, none⟩) hRl).trans z1
    have hT4 := block_lt_of_cell tt1
    have hR4 := block_lt_of_cell rr0
    have hTl2 : w.heap.size < w1.heap.size := hTl
    have hRl2 : w.heap.size + 1 < w1.heap.size := hRl
    have ne1 : w.heap.size ≠ g4 := by omega
    have ne2 : w.heap.size + 1 ≠ g4 := by omega
    have HUE := Lib.hid (show us[n].setF 3 x = us[n].setF 3 x from rfl)
    generalize us[n] = u at e0 e1 e2 e3 e4 e5 HSI HPOST
    obtain ⟨u0, u1, u2, u3, u4, u5⟩ := u
    simp only at e0 e1 e2 e3 e4 e5
    have HBE0 : Below w1.heap.size w1 ((((((w4.setCell ⟨g4, n * 6, none⟩ (.int .i64 u0)).setCell ⟨g4, n * 6 + 1, none⟩ (.int .i64 u1)).setCell ⟨g4, n * 6 + 2, none⟩ (.int .i64 u2)).setCell ⟨g4, n * 6 + 3, none⟩ (.int .i64 u3)).setCell ⟨g4, n * 6 + 4, none⟩ (.int .i64 x)).setCell ⟨g4, n * 6 + 5, none⟩ (.int .i64 u5)) := (((((hn4.2.2.setCell (p := ⟨g4, n * 6, none⟩) hg4 _).setCell (p := ⟨g4, n * 6 + 1, none⟩) hg4 _).setCell (p := ⟨g4, n * 6 + 2, none⟩) hg4 _).setCell (p := ⟨g4, n * 6 + 3, none⟩) hg4 _).setCell (p := ⟨g4, n * 6 + 4, none⟩) hg4 _).setCell (p := ⟨g4, n * 6 + 5, none⟩) hg4 _
    have HBE := Lib.hid HBE0
    have fr0 := alloc_cell (set2_same0 (x := .slice (some ⟨g4, 0, none⟩) us.length c4) (y := .int .i64 nx) ((HBE0.cell (p := ⟨w.heap.size + 1, 0, none⟩) hRl).trans r0)) (.cells #[.int .i64 u0, .int .i64 u1, .int .i64 u2, .int .i64 u3, .int .i64 x, .int .i64 u5] 113)
    have fr1 := alloc_cell (set2_same1 (x := .slice (some ⟨g4, 0, none⟩) us.length c4) (y := .int .i64 nx) ((HBE0.cell (p := ⟨w.heap.size + 1, 1, none⟩) hRl).trans r1)) (.cells #[.int .i64 u0, .int .i64 u1, .int .i64 u2, .int .i64 u3, .int .i64 x, .int .i64 u5] 113)
    have HFR0 := Lib.hid fr0
    have HFR1 := Lib.hid fr1
    clear fr0 fr1 HBE0
    have HFIN := Lib.hid (show RPost w a (us.set n (Un.setF ⟨u0, u1, u2, u3, u4, u5⟩ 3 x)) nx (.bool true) (.returned (.tuple #[.agg #[.slice (some ⟨g4, 0, none⟩) us.length c4, .int .i64 nx], .bool true])) (((((((((w4.setCell ⟨g4, n * 6, none⟩ (.int .i64 u0)).setCell ⟨g4, n * 6 + 1, none⟩ (.int .i64 u1)).setCell ⟨g4, n * 6 + 2, none⟩ (.int .i64 u2)).setCell ⟨g4, n * 6 + 3, none⟩ (.int .i64 u3)).setCell ⟨g4, n * 6 + 4, none⟩ (.int .i64 x)).setCell ⟨g4, n * 6 + 5, none⟩ (.int .i64 u5)).setCell ⟨w.heap.size + 1, 0, none⟩ (.slice (some ⟨g4, 0, none⟩) us.length c4)).setCell ⟨w.heap.size + 1, 1, none⟩ (.int .i64 nx)).alloc (.cells #[.int .i64 u0, .int .i64 u1, .int .i64 u2, .int .i64 u3, .int .i64 x, .int .i64 u5] 113)) from by
      have ho := own_set6 (NewRec.own HN4.out) (unsI_wide us) n (by rw [unsI_len]; exact hnl) u0 u1 u2 u3 x u5
      have hset : (unsI us).set n [u0, u1, u2, u3, x, u5] = unsI (us.set n (Un.setF ⟨u0, u1, u2, u3, u4, u5⟩ 3 x)) := HSI.out
      rw [hset] at ho
      have hbe := HBE.out
      have hnew : NewRec 113 6 w1 (some ⟨g4, 0, none⟩) c4 (unsI (us.set n (Un.setF ⟨u0, u1, u2, u3, u4, u5⟩ 3 x))) ((((((w4.setCell ⟨g4, n * 6, none⟩ (.int .i64 u0)).setCell ⟨g4, n * 6 + 1, none⟩ (.int .i64 u1)).setCell ⟨g4, n * 6 + 2, none⟩ (.int .i64 u2)).setCell ⟨g4, n * 6 + 3, none⟩ (.int .i64 u3)).setCell ⟨g4, n * 6 + 4, none⟩ (.int .i64 x)).setCell ⟨g4, n * 6 + 5, none⟩ (.int .i64 u5)) := ⟨ho.1, ho.2, hbe⟩
      have h5 := newRec_rpost2 (w := w) (a0 := a) (nx := nx) (q := .bool true) HB1.out hnew (show w.heap.size ≤ w.heap.size + 1 by omega) hRl (.slice (some ⟨g4, 0, none⟩) us.length c4) (.int .i64 nx)
      rw [List.length_set] at h5
      exact h5.keep (bel_alloc (Below.refl _ _) _))
    rw [HPOST.out] at HFIN
    clear hb1 HF HB hB1 hrun hn4 t1 r0 r1 z0 z1 HN4 HSI
    go_wp2_with (first | (go_at_call 85; (refine (HM.out _).mono ?_); rintro e w' ⟨rfl, rfl⟩) | (at_builtin; refine wpList_append_run _ rfl (.tmp 43) (.tmp 45) 26 26 rfl _ _ rfl rfl (.slice (some ⟨g4, 0, none⟩) us.length c4) w4 HRUN.out ?_))
    have fr0 := HFR0.out
    have fr1 := HFR1.out
    exact bodyPost_ret (v := .tuple #[.agg #[.slice (some ⟨g4, 0, none⟩) us.length c4, .int .i64 nx], .bool true]) (by simp [results, Try.results57, go_sem, fr0, fr1]) rfl HFIN.out
  · have dx : decide (x < 1) = false := by simpa using hx4 rfl
    clear h2 h4 hx4
    go_enter Try.func57, Try.ntmps57
    go_wp2_with fail
    refine HF.out.mono ?_
    rintro r w1 ⟨rfl, hb1⟩
    have t0 : w1.cell? ⟨w.heap.size, 0, none⟩ = some (.slice a us.length c) := (hb1.cell (p := ⟨w.heap.size, 0, none⟩) (by simp; omega)).trans (by repeat' (first | exact new_cell (by first | rfl | (simp; done)) rfl | with_reducible refine alloc_cell ?_ _))
    have t1 : w1.cell? ⟨w.heap.size, 1, none⟩ = some (.int .i64 nx) := (hb1.cell (p := ⟨w.heap.size, 1, none⟩) (by simp; omega)).trans (by repeat' (first | exact new_cell (by first | rfl | (simp; done)) rfl | with_reducible refine alloc_cell ?_ _))
    have r0 : w1.cell? ⟨w.heap.size + 1, 0, none⟩ = some (.slice none 0 0) := (hb1.cell (p := ⟨w.heap.size + 1, 0, none⟩) (by simp)).trans (by repeat' (first | exact new_cell (by first | rfl | (simp; done)) rfl | with_reducible refine alloc_cell ?_ _))
    have r1 : w1.cell? ⟨w.heap.size + 1, 1, none⟩ = some (.int .i64 0) := (hb1.cell (p := ⟨w.heap.size + 1, 1, none⟩) (by simp)).trans (by repeat' (first | exact new_cell (by first | rfl | (simp; done)) rfl | with_reducible refine alloc_cell ?_ _))
    have z0 : w1.frozen? ⟨w.heap.size + 1, 0, none⟩ = false := (hb1.frozen (p := ⟨w.heap.size + 1, 0, none⟩) (by simp)).trans (by rw [show w.heap.size + 1 = (w.alloc (.cells #[.slice a us.length c, .int .i64 nx] 28)).heap.size by simp]; exact frozen_new _ _ _ _)
    have z1 : w1.frozen? ⟨w.heap.size + 1, 1, none⟩ = false := (hb1.frozen (p := ⟨w.heap.size + 1, 1, none⟩) (by simp)).trans (by rw [show w.heap.size + 1 = (w.alloc (.cells #[.slice a us.length c, .int .i64 nx] 28)).heap.size by simp]; exact frozen_new _ _ _ _)
    have hB1 : Below w.heap.size w w1 := HB.out.trans (hb1.mono HB.out.size)
    have hTl := block_lt_of_cell t0
    have hRl := block_lt_of_cell r0
    have HB1 := Lib.hid hB1
    obtain ⟨a4, c4, w4, hrun, hn4, -⟩ := app1 (W0 := w1) (k := w1.heap.size) (c := c) (ty := 26) (bel_alloc (Below.refl _ _) _) (made0 _ _ rfl) (Nat.le_refl _) (HR.out.below hB1) HN.out (by omega)
    obtain ⟨g4, rfl⟩ := own_someR hn4.1 (by rw [unsI_len]; omega)
    have HRUN := Lib.hid hrun
    have HN4 := Lib.hid hn4
    have hg4 : w1.heap.size ≤ g4 := hn4.2.1 _ rfl
    obtain ⟨b', off', e', hg4l, e0, e1, e2, e3, e4, e5⟩ := (show UnRow w4 (some ⟨g4, 0, none⟩) us from hn4.row (unsI_wide us) (by decide)).at hnl
    cases e'
    simp only [Nat.zero_add] at e0 e1 e2 e3 e4 e5
    have q0 : w4.frozen? ⟨g4, n * 6, none⟩ = false := hn4.1.frozenAt _
    have q1 : w4.frozen? ⟨g4, n * 6 + 1, none⟩ = false := hn4.1.frozenAt _
    have q2 : w4.frozen? ⟨g4, n * 6 + 2, none⟩ = false := hn4.1.frozenAt _
    have q3 : w4.frozen? ⟨g4, n * 6 + 3, none⟩ = false := hn4.1.frozenAt _
    have q4 : w4.frozen? ⟨g4, n * 6 + 4, none⟩ = false := hn4.1.frozenAt _
    have q5 : w4.frozen? ⟨g4, n * 6 + 5, none⟩ = false := hn4.1.frozenAt _
    have tt1 := (hn4.2.2.cell (p := ⟨w.heap.size, 1, none⟩) hTl).trans t1
    have rr0 := (hn4.2.2.cell (p := ⟨w.heap.size + 1, 0, none⟩) hRl).trans r0
    have rr1 := (hn4.2.2.cell (p := ⟨w.heap.size + 1, 1, none⟩) hRl).trans r1
    have zz0 := (hn4.2.2.frozen (p := ⟨w.heap.size + 1, 0, none⟩) hRl).trans z0
    have zz1 := (hn4.2.2.frozen (p := ⟨w.heap.size + 1, 1, none⟩) hRl).trans z1
    have hT4 := block_lt_of_cell tt1
    have hR4 := block_lt_of_cell rr0
    have hTl2 : w.heap.size < w1.heap.size := hTl
    have hRl2 : w.heap.size + 1 < w1.heap.size := hRl
    have ne1 : w.heap.size ≠ g4 := by omega
    have ne2 : w.heap.size + 1 ≠ g4 := by omega
    have HUE := Lib.hid (show us[n].setF 4 x = us[n].setF 4 x from rfl)
    generalize us[n] = u at e0 e1 e2 e3 e4 e5 HSI HPOST
    obtain ⟨u0, u1, u2, u3, u4, u5⟩ := u
    simp only at e0 e1 e2 e3 e4 e5
    have HBE0 : Below w1.heap.size w1 ((((((w4.setCell ⟨g4, n * 6, none⟩ (.int .i64 u0)).setCell ⟨g4, n * 6 + 1, none⟩ (.int .i64 u1)).setCell ⟨g4, n * 6 + 2, none⟩ (.int .i64 u2)).setCell ⟨g4, n * 6 + 3, none⟩ (.int .i64 u3)).setCell ⟨g4, n * 6 + 4, none⟩ (.int .i64 u4)).setCell ⟨g4, n * 6 + 5, none⟩ (.int .i64 x)) := (((((hn4.2.2.setCell (p := ⟨g4, n * 6, none⟩) hg4 _).setCell (p := ⟨g4, n * 6 + 1, none⟩) hg4 _).setCell (p := ⟨g4, n * 6 + 2, none⟩) hg4 _).setCell (p := ⟨g4, n * 6 + 3, none⟩) hg4 _).setCell (p := ⟨g4, n * 6 + 4, none⟩) hg4 _).setCell (p := ⟨g4, n * 6 + 5, none⟩) hg4 _
    have HBE := Lib.hid HBE0
    have fr0 := alloc_cell (set2_same0 (x := .slice (some ⟨g4, 0, none⟩) us.length c4) (y := .int .i64 nx) ((HBE0.cell (p := ⟨w.heap.size + 1, 0, none⟩) hRl).trans r0)) (.cells #[.int .i64 u0, .int .i64 u1, .int .i64 u2, .int .i64 u3, .int .i64 u4, .int .i64 x] 113)
    have fr1 := alloc_cell (set2_same1 (x := .slice (some ⟨g4, 0, none⟩) us.length c4) (y := .int .i64 nx) ((HBE0.cell (p := ⟨w.heap.size + 1, 1, none⟩) hRl).trans r1)) (.cells #[.int .i64 u0, .int .i64 u1, .int .i64 u2, .int .i64 u3, .int .i64 u4, .int .i64 x] 113)
    have HFR0 := Lib.hid fr0
    have HFR1 := Lib.hid fr1
    clear fr0 fr1 HBE0
    have HFIN := Lib.hid (show RPost w a (us.set n (Un.setF ⟨u0, u1, u2, u3, u4, u5⟩ 4 x)) nx (.bool true) (.returned (.tuple #[.agg #[.slice (some ⟨g4, 0, none⟩) us.length c4, .int .i64 nx], .bool true])) (((((((((w4.setCell ⟨g4, n * 6, none⟩ (.int .i64 u0)).setCell ⟨g4, n * 6 + 1, none⟩ (.int .i64 u1)).setCell ⟨g4, n * 6 + 2, none⟩ (.int .i64 u2)).setCell ⟨g4, n * 6 + 3, none⟩ (.int .i64 u3)).setCell ⟨g4, n * 6 + 4, none⟩ (.int .i64 u4)).setCell ⟨g4, n * 6 + 5, none⟩ (.int .i64 x)).setCell ⟨w.heap.size + 1, 0, none⟩ (.slice (some ⟨g4, 0, none⟩) us.length c4)).setCell ⟨w.heap.size + 1, 1, none⟩ (.int .i64 nx)).alloc (.cells #[.int .i64 u0, .int .i64 u1, .int .i64 u2, .int .i64 u3, .int .i64 u4, .int .i64 x] 113)) from by
      have ho := own_set6 (NewRec.own HN4.out) (unsI_wide us) n (by rw [unsI_len]; exact hnl) u0 u1 u2 u3 u4 x
      have hset : (unsI us).set n [u0, u1, u2, u3, u4, x] = unsI (us.set n (Un.setF ⟨u0, u1, u2, u3, u4, u5⟩ 4 x)) := HSI.out
      rw [hset] at ho
      have hbe := HBE.out
      have hnew : NewRec 113 6 w1 (some ⟨g4, 0, none⟩) c4 (unsI (us.set n (Un.setF ⟨u0, u1, u2, u3, u4, u5⟩ 4 x))) ((((((w4.setCell ⟨g4, n * 6, none⟩ (.int .i64 u0)).setCell ⟨g4, n * 6 + 1, none⟩ (.int .i64 u1)).setCell ⟨g4, n * 6 + 2, none⟩ (.int .i64 u2)).setCell ⟨g4, n * 6 + 3, none⟩ (.int .i64 u3)).setCell ⟨g4, n * 6 + 4, none⟩ (.int .i64 u4)).setCell ⟨g4, n * 6 + 5, none⟩ (.int .i64 x)) := ⟨ho.1, ho.2, hbe⟩
      have h5 := newRec_rpost2 (w := w) (a0 := a) (nx := nx) (q := .bool true) HB1.out hnew (show w.heap.size ≤ w.heap.size + 1 by omega) hRl (.slice (some ⟨g4, 0, none⟩) us.length c4) (.int .i64 nx)
      rw [List.length_set] at h5
      exact h5.keep (bel_alloc (Below.refl _ _) _))
    rw [HPOST.out] at HFIN
    clear hb1 HF HB hB1 hrun hn4 t1 r0 r1 z0 z1 HN4 HSI
    go_wp2_with (first | (go_at_call 85; (refine (HM.out _).mono ?_); rintro e w' ⟨rfl, rfl⟩) | (at_builtin; refine wpList_append_run _ rfl (.tmp 43) (.tmp 45) 26 26 rfl _ _ rfl rfl (.slice (some ⟨g4, 0, none⟩) us.length c4) w4 HRUN.out ?_))
    have fr0 := HFR0.out
    have fr1 := HFR1.out
    exact bodyPost_ret (v := .tuple #[.agg #[.slice (some ⟨g4, 0, none⟩) us.length c4, .int .i64 nx], .bool true]) (by simp [results, Try.results57, go_sem, fr0, fr1]) rfl HFIN.out
end Go.Proofs.Ytdkokfpbmmjfkaa
namespace Go.Proofs.Ytdkokfpbmmjfkaa
open Go.RowKit
set_option linter.unusedVariables false

theorem tabTo_same {K : Nat → Prop} {b : Nat} {us : List Un} {g : Int} {w w' : World} (h : TabQ K b us g w) (hb : Below w.heap.size w w') : TabTo K b us g w w' := ⟨h.below hb, touch_of_below hb⟩
/-- What the document's table is to its calls. -/
structure RT (w : World) (a : Option Addr) (c : Nat) (us : List Un) : Prop where
  row : UnRow w a us
  nil : a = none → us = []
  len : us.length ≤ c
  cap : c ≤ maxLen
theorem kill_both {K : Nat → Prop} (b : Nat) (us : List Un) (g id : Int) (hok : TabOk us g) : ∃ us' q, (∀ W, TabQ K b us g W → Calls Try.prog 55 #[.pointer (some ⟨b, 0, none⟩), .int .i64 id] W fun r w' => r = .returned (.bool q) ∧ TabTo K b us' g W w') ∧
    (∀ W a c, RT W a c us → Calls Try.prog 56 #[.agg #[.slice a us.length c, .int .i64 (g + 1)], .int .i64 id] W (RPost W a us' (g + 1) (.bool q))) := by
  obtain ⟨n, hn⟩ := find_is us id hok.2.1
  cases hq : foundQ us id n
  · exact ⟨us, false, fun W h => (kill_no b us g id n W h hn hq).mono fun r w' ⟨h1, h2⟩ => ⟨h1, tabTo_same h h2⟩, fun W a c h => refKill_no a c us (g + 1) id n W hok.1 hok.2.1 h.row h.nil ⟨h.len, h.cap⟩ hn hq⟩
  · obtain ⟨hlt, he⟩ := findIs_lt hq
    exact ⟨us.eraseIdx n, true, fun W h => kill_yes b us g id n W h hn hlt he, fun W a c h => refKill_yes a c us (g + 1) id n W hok.1 hok.2.1 h.row h.nil ⟨h.len, h.cap⟩ hn hq⟩
theorem spawn_both {K : Nat → Prop} (b : Nat) (us : List Un) (g kind owner x y : Int) (hok : TabOk us g) : ∃ us' g' z, (∀ W, TabQ K b us g W → Calls Try.prog 50 #[.pointer (some ⟨b, 0, none⟩), .int .i64 kind, .int .i64 owner, .int .i64 x, .int .i64 y] W fun r w' => r = .returned (.int .i64 z) ∧ TabTo K b us' g' W w') ∧
    (∀ W a c, RT W a c us → Calls Try.prog 54 #[.agg #[.slice a us.length c, .int .i64 (g + 1)], .int .i64 kind, .int .i64 owner, .int .i64 x, .int .i64 y] W (RPost W a us' (g' + 1) (.int .i64 z))) := by
  cases hq : spawnQ us g kind owner x y
  · exact ⟨us, g, 0, fun W h => (spawn_no b us g kind owner x y W h hq).mono fun r w' ⟨h1, h2⟩ => ⟨h1, tabTo_same h h2⟩, fun W a c h => refSpawn_no a c us g kind owner x y W hok.1 hok.2.2.2 h.row h.nil ⟨h.len, h.cap⟩ hq⟩
  · exact ⟨us ++ [spawnU g kind owner x y], g + 1, g + 1, fun W h => spawn_yes b us g kind owner x y W h hq, fun W a c h => refSpawn_yes a c us g kind owner x y W hok.1 hok.2.2.2 h.row h.nil ⟨h.len, h.cap⟩ hq⟩
theorem set_both {K : Nat → Prop} (b : Nat) (us : List Un) (g id f x : Int) (hok : TabOk us g) : ∃ us' q, (∀ W, TabQ K b us g W → Calls Try.prog 51 #[.pointer (some ⟨b, 0, none⟩), .int .i64 id, .int .i64 f, .int .i64 x] W fun r w' => r = .returned (.bool q) ∧ TabTo K b us' g W w') ∧
    (∀ W a c, RT W a c us → Calls Try.prog 57 #[.agg #[.slice a us.length c, .int .i64 (g + 1)], .int .i64 id, .int .i64 f, .int .i64 x] W (RPost W a us' (g + 1) (.bool q))) := by
  obtain ⟨n, hn⟩ := find_is us id hok.2.1
  by_cases hno : foundQ us id n = false ∨ f < 2 ∨ 4 < f ∨ (¬ (f = 4 ∧ x < 1) ∧ mayN f.toNat x = false)
  · exact ⟨us, false, fun W h => (set_no b us g id f x n W h hn hno).mono fun r w' ⟨h1, h2⟩ => ⟨h1, tabTo_same h h2⟩, fun W a c h => refSet_no a c us (g + 1) id f x n W hok.1 hok.2.1 h.row h.nil ⟨h.len, h.cap⟩ hn hno⟩
  · have hq : foundQ us id n = true := by
      cases h : foundQ us id n
      · exact absurd (.inl h) hno
      · rfl
    have hf2 : ¬ f < 2 := fun h => hno (.inr (.inl h))
    have hf4 : ¬ 4 < f := fun h => hno (.inr (.inr (.inl h)))
    obtain ⟨hlt, he⟩ := findIs_lt hq
    by_cases hk : f = 4 ∧ x < 1
    · obtain ⟨rfl, hx⟩ := hk
      exact ⟨us.eraseIdx n, true, fun W h => set_kill b us g id x n W h hn hlt he hx, fun W a c h => refSet_kill a c us (g + 1) id x n W hok.1 hok.2.1 h.row h.nil ⟨h.len, h.cap⟩ hn hq hx⟩
    · have hm : mayN f.toNat x = true := by
        cases h : mayN f.toNat x
        · exact absurd (.inr (.inr (.inr ⟨hk, h⟩))) hno
        · rfl
      obtain ⟨fn, rfl⟩ := Int.eq_ofNat_of_zero_le (show 0 ≤ f by omega)
      simp only [Int.toNat_natCast] at hm
      exact ⟨us.set n (us[n].setF fn x), true, fun W h => set_yes b us g id x fn n W h hn hlt he (by omega) (by omega) hm, fun W a c h => refSet_yes a c us (g + 1) id x fn n W hok.1 hok.2.1 h.row h.nil ⟨h.len, h.cap⟩ hn hq hlt (by omega) (by omega) hm⟩
/-- The blocks that a law's table may not have: those of K0, and the document's row. -/
def KA (K0 : Nat → Prop) (a : Option Addr) (k : Nat) : Prop := K0 k ∨ a.map (·.block) = some k
structure DoMem (K0 : Nat → Prop) (b : Nat) (us : List Un) (g : Int) (a : Option Addr) (c : Nat) (wr : World) : Prop where
  tab : TabQ (KA K0 a) b us g wr
  rt : RT wr a c us
theorem RT.below {w w' : World} {a : Option Addr} {c : Nat} {us : List Un} (h : RT w a c us) (hb : Below w.heap.size w w') : RT w' a c us := ⟨h.row.below hb, h.nil, h.len, h.cap⟩
theorem DoMem.keep {K0 : Nat → Prop} {wr w' : World} {b : Nat} {us : List Un} {g : Int} {a : Option Addr} {c : Nat} (h : DoMem K0 b us g a c wr) (hb : Below wr.heap.size wr w') : DoMem K0 b us g a c w' :=
  ⟨h.tab.below hb, h.rt.below hb⟩
theorem TabQ.touchK {K S : Nat → Prop} {w w' : World} {b : Nat} {us : List Un} {g : Int} (h : TabQ K b us g w) (ht : Touch S w w') (hS : ∀ k, S k → K k) : TabQ K b us g w' := by
  obtain ⟨⟨a, c, h1, h2, h3⟩, h4, h5⟩ := h
  exact ⟨⟨a, c, h1.touch ht (fun h => h2 (hS _ h)) (fun x hx h => h3 x hx (hS _ h)), h2, h3⟩, fun k hk => Nat.lt_of_lt_of_le (h4 k hk) ht.size, h5⟩
/-- What is stored into a block of K0 that is none of the document's row. -/
theorem DoMem.set {K0 S : Nat → Prop} {wr w' : World} {b : Nat} {us : List Un} {g : Int} {a : Option Addr} {c : Nat} (h : DoMem K0 b us g a c wr) (ht : Touch S wr w') (hS : ∀ k, S k → K0 k) (ha : ∀ x, a = some x → ¬ S x.block) : DoMem K0 b us g a c w' :=
  ⟨h.tab.touchK ht (fun k hk => .inl (hS k hk)), ⟨h.rt.row.touch ht ha, h.rt.nil, h.rt.len, h.rt.cap⟩⟩
/-- Blocks B and the two behind it, beside those of KA. -/
def KB (K0 : Nat → Prop) (a : Option Addr) (B k : Nat) : Prop := KA K0 a k ∨ (B ≤ k ∧ k < B + 3)
theorem does_fin {K0 : Nat → Prop} {w w2 w3 : World} {a a' : Option Addr} {b B c' : Nat} {us' : List Un} {g' : Int} (hq : TabQ (KB K0 a B) b us' g' w2) (h2 : UnRow w3 a' us') (h3 : a' = none → us' = []) (h4 : us'.length ≤ c') (h5 : c' ≤ maxLen) (h6 : a' = a ∨ ∀ x, a' = some x → w2.heap.size ≤ x.block ∧ x.block < w3.heap.size) (h7 : Below w2.heap.size w2 w3)
    (hbel : Touch (fun k => ¬ K0 k) w w2) (hB : ∀ k, K0 k → k < B) (ha : ∀ x, a = some x → x.block < B) (x0 x1 : Value) (o : Obj) : DoMem K0 b us' g' a' c' (((w3.setCell ⟨B + 2, 0, none⟩ x0).setCell ⟨B + 2, 1, none⟩ x1).alloc o) ∧ Touch (fun k => ¬ K0 k) w (((w3.setCell ⟨B + 2, 0, none⟩ x0).setCell ⟨B + 2, 1, none⟩ x1).alloc o) ∧ (a' = a ∨ ∀ x, a' = some x → w2.heap.size ≤ x.block) := by
  have ht := set2r_touch w3 (B + 2) x0 x1
  unfold set2r at ht
  have hB2 : B + 2 < w2.heap.size := hq.2.1 _ (.inr ⟨by omega, by omega⟩)
  have hq3 : TabQ (fun k => KB K0 a B k ∨ (∃ x, a' = some x ∧ a' ≠ a ∧ k = x.block)) b us' g' w3 := hq.grow h7 (fun k hk => by
    obtain ⟨x, hx, hne, rfl⟩ := hk
    rcases h6 with h | h
    · exact absurd h hne
    · exact h x hx)
  have hq4 := hq3.touchK ht (fun k hk => .inl (.inr (by omega)))
  have hq5 := hq4.below ((Below.refl _ _).alloc (Nat.le_refl _) o)
  have hba : ∀ x, a' = some x → x.block ≠ B + 2 := fun x hx e => by
    rcases h6 with h | h
    · rw [h] at hx; have := ha x hx; omega
    · have := (h x hx).1; omega
  refine ⟨⟨hq5.sub (fun k hk => ?_), ⟨(h2.touch ht (fun x hx e => hba x hx e)).below ((Below.refl _ _).alloc (Nat.le_refl _) o), h3, h4, h5⟩⟩, ?_, ?_⟩
  · rcases hk with h | h
    · exact .inl (.inl (.inl h))
    · by_cases e : a' = a
      · rw [e] at h; exact .inl (.inl (.inr h))
      · cases ha' : a' with
        | none => rw [ha'] at h; simp at h
        | some x => rw [ha'] at h; simp at h; exact .inr ⟨x, rfl, by rw [← ha']; exact e, h.symm⟩
  · refine ((hbel.trans (touch_of_below h7)).trans (ht.mono fun k _ e hk => ?_)).alloc o
    have := hB k hk
    omega
  · rcases h6 with h | h
    · exact .inl h
    · exact .inr fun x hx => (h x hx).1
end Go.Proofs.Ytdkokfpbmmjfkaa
namespace Go.Proofs.Ytdkokfpbmmjfkaa
open Go.RowKit
set_option linter.unusedVariables false

/-- What the document's Read answers. -/
def RReadPost (w : World) (t : St × (List Un × Int)) (r : Ending) (w' : World) : Prop :=
  ∃ a len c, r = .returned (.tuple #[.agg #[.string (bs t.1.1), .int .i64 (t.1.2 : Nat)], .agg #[.slice a len c, .int .i64 (t.2.2 + 1)]]) ∧ Below w.heap.size w w' ∧
    (t.1.2 = 0 → len = t.2.1.length ∧ RT w' a c t.2.1 ∧ ∀ x, a = some x → w.heap.size ≤ x.block ∧ x.block < w'.heap.size)
theorem Bx.touch {S : Nat → Prop} {w wr w' : World} {A1 A2 A3 : Array Value} (h : Bx w wr A1 A2 A3) (ht : Touch S wr w') (hs : ∀ k, S k → w.heap.size + 1 + 1 < k) : Bx w w' A1 A2 A3 := by
  have hz := h.sz
  have n0 : ¬ S w.heap.size := fun e => by have := hs _ e; omega
  have n1 : ¬ S (w.heap.size + 1) := fun e => by have := hs _ e; omega
  have n2 : ¬ S (w.heap.size + 1 + 1) := fun e => by have := hs _ e; omega
  exact ⟨fun j => (ht.cell (p := ⟨w.heap.size, j, none⟩) (by show w.heap.size < _; omega) n0).trans (h.c1 j), fun j => (ht.cell (p := ⟨w.heap.size + 1, j, none⟩) (by show w.heap.size + 1 < _; omega) n1).trans (h.c2 j), fun j => (ht.cell (p := ⟨w.heap.size + 1 + 1, j, none⟩) hz n2).trans (h.c3 j),
    fun j => (ht.frozen (p := ⟨w.heap.size, j, none⟩) (by show w.heap.size < _; omega) n0).trans (h.f1 j), fun j => (ht.frozen (p := ⟨w.heap.size + 1, j, none⟩) (by show w.heap.size + 1 < _; omega) n1).trans (h.f2 j), fun j => (ht.frozen (p := ⟨w.heap.size + 1 + 1, j, none⟩) hz n2).trans (h.f3 j),
    by have := ht.size; omega, h.bel.trans (ht.below (by omega) (fun k hk e => by have := hs _ e; omega))⟩
/-- The document's reader in its box, the table at T with a row of its own behind it. -/
structure RRm (w : World) (T : Nat) (nx : Int) (st : St) (us : List Un) (a : Option Addr) (c : Nat) (wr : World) : Prop where
  bx : Bx w wr #[.string (bs st.1), .int .i64 (st.2 : Nat)] #[.string ⟨#[]⟩, .int .i64 0] #[.slice none 0 0, .int .i64 0]
  t0 : wr.cell? ⟨T, 0, none⟩ = some (.slice a us.length c)
  t1 : wr.cell? ⟨T, 1, none⟩ = some (.int .i64 nx)
  f0 : wr.frozen? ⟨T, 0, none⟩ = false
  row : OwnRec 113 6 (T + 1) a c (unsI us) wr
  lt : w.heap.size + 1 + 1 < T
theorem RRm.touch {S : Nat → Prop} {w : World} {T : Nat} {nx : Int} {st : St} {us : List Un} {a : Option Addr} {c : Nat} {wr w' : World} (h : RRm w T nx st us a c wr) (ht : Touch S wr w') (hs : ∀ k, S k → w.heap.size + 1 + 1 < k ∧ k < T) : RRm w T nx st us a c w' := by
  have nT : ¬ S T := fun e => by have := hs _ e; omega
  have hT := block_lt_of_cell h.t0
  exact ⟨h.bx.touch ht (fun k hk => (hs k hk).1), (ht.cell (p := ⟨T, 0, none⟩) hT nT).trans h.t0, (ht.cell (p := ⟨T, 1, none⟩) hT nT).trans h.t1, (ht.frozen (p := ⟨T, 0, none⟩) hT nT).trans h.f0, h.row.touch ht (fun j hj e => by have := hs _ e; omega), h.lt⟩
theorem RRm.keep {w : World} {T : Nat} {nx : Int} {st : St} {us : List Un} {a : Option Addr} {c : Nat} {wr w' : World} (h : RRm w T nx st us a c wr) (hb : Below wr.heap.size wr w') : RRm w T nx st us a c w' :=
  h.touch (touch_of_below (S := fun _ => False) hb) (fun k hk => hk.elim)
theorem RRm.set1 {w : World} {T : Nat} {nx : Int} {st : St} {us : List Un} {a : Option Addr} {c : Nat} {wr : World} (h : RRm w T nx st us a c wr) (st' : St) : RRm w T nx st' us a c ((wr.setCell ⟨w.heap.size, 0, none⟩ (.string (bs st'.1))).setCell ⟨w.heap.size, 1, none⟩ (.int .i64 (st'.2 : Nat))) := by
  have hl := h.lt
  have hT := block_lt_of_cell h.t0
  have ht : Touch (fun k => k = w.heap.size) wr ((wr.setCell ⟨w.heap.size, 0, none⟩ (.string (bs st'.1))).setCell ⟨w.heap.size, 1, none⟩ (.int .i64 (st'.2 : Nat))) := ((Touch.refl (fun k => k = w.heap.size) wr).setCell (p := ⟨w.heap.size, 0, none⟩) (fun _ => rfl) _).setCell (p := ⟨w.heap.size, 1, none⟩) (fun _ => rfl) _
  have nT : ¬ T = w.heap.size := by omega
  exact ⟨h.bx.set1 _ _, (ht.cell (p := ⟨T, 0, none⟩) hT nT).trans h.t0, (ht.cell (p := ⟨T, 1, none⟩) hT nT).trans h.t1, (ht.frozen (p := ⟨T, 0, none⟩) hT nT).trans h.f0, h.row.touch ht (fun j hj e => by omega), h.lt⟩
theorem RRm.step {w : World} {T : Nat} {nx : Int} {st : St} {us : List Un} {a : Option Addr} {c : Nat} {wr : World} (h : RRm w T nx st us a c wr) (u : Un) (hl : us.length ≤ 1000) (m : Nat) (hm : wr.heap.size = m) :
    ∃ a' c' w', (Builtin.append_ #[26, 26] 26 #[.slice a us.length c, .slice (some ⟨m, 0, none⟩) 1 1]).run Try.prog (wr.alloc (.cells #[.int .i64 u.id, .int .i64 u.kind, .int .i64 u.owner, .int .i64 u.x, .int .i64 u.y, .int .i64 u.health] 113)) = .ok (.slice a' (us.length + 1) c') w' ∧
      (∃ o, w'.cell? ⟨T, 0, none⟩ = some o) ∧ w'.frozen? ⟨T, 0, none⟩ = false ∧ T < w'.heap.size ∧ RRm w T nx st (us ++ [u]) a' c' (w'.setCell ⟨T, 0, none⟩ (.slice a' (us.length + 1) c')) := by
  subst hm
  have hlt := h.lt
  have hT := block_lt_of_cell h.t0
  simp only at hT
  obtain ⟨a', c', w', hrun, hnew, htch⟩ := h.row.one2 (t := 26) (u := 26) (ty := 26) runTy Try.underlying26 Try.underlying26 (by omega) u.ints rfl (by rw [unsI_len]; omega)
  rw [unsI_len] at hrun
  have hno : ∀ j, a.map (·.block) = some j → T + 1 ≤ j := fun j hj => by
    cases a with
    | none => simp at hj
    | some x => simp at hj; subst hj; exact h.row.2 x rfl
  have nT : ¬ a.map (·.block) = some T := fun e => by have := hno _ e; omega
  have t0 := (htch.cell (p := ⟨T, 0, none⟩) hT nT).trans h.t0
  have t1 := (htch.cell (p := ⟨T, 1, none⟩) hT nT).trans h.t1
  have f0 := (htch.frozen (p := ⟨T, 0, none⟩) hT nT).trans h.f0
  have hT' := block_lt_of_cell t0
  have hs : Touch (fun k => k = T) w' (w'.setCell ⟨T, 0, none⟩ (.slice a' (us.length + 1) c')) := (Touch.refl (fun k => k = T) w').setCell (p := ⟨T, 0, none⟩) (fun _ => rfl) _
  have hbx := h.bx.touch htch (fun k hk => by have := hno _ hk; omega)
  refine ⟨a', c', w', hrun, ⟨_, t0⟩, f0, hT', hbx.far hlt _, ?_, (World.cell?_setCell_other _ _ _ _ (by simp)).trans t1, by simpa using f0, ?_, hlt⟩
  · rw [List.length_append]; exact World.cell?_setCell_same _ _ _ t0
  · exact OwnRec.touch (by rw [unsI_append]; exact hnew) hs (fun j hj e => by omega)
theorem RT.drew {w : World} {a : Option Addr} {c : Nat} {us : List Un} (h : RT w a c us) : RT w.drew a c us := ⟨h.row, h.nil, h.len, h.cap⟩
theorem RRm.fin {w : World} {T : Nat} {nx : Int} {st : St} {us : List Un} {a : Option Addr} {c : Nat} {wr : World} (h : RRm w T nx st us a c wr) (y0 y1 x0 x1 : Value) :
    Below w.heap.size w ((((wr.setCell ⟨w.heap.size + 1, 0, none⟩ y0).setCell ⟨w.heap.size + 1, 1, none⟩ y1).setCell ⟨w.heap.size + 1 + 1, 0, none⟩ x0).setCell ⟨w.heap.size + 1 + 1, 1, none⟩ x1) ∧
    RT ((((wr.setCell ⟨w.heap.size + 1, 0, none⟩ y0).setCell ⟨w.heap.size + 1, 1, none⟩ y1).setCell ⟨w.heap.size + 1 + 1, 0, none⟩ x0).setCell ⟨w.heap.size + 1 + 1, 1, none⟩ x1) a c us ∧ ∀ x, a = some x → w.heap.size ≤ x.block ∧ x.block < ((((wr.setCell ⟨w.heap.size + 1, 0, none⟩ y0).setCell ⟨w.heap.size + 1, 1, none⟩ y1).setCell ⟨w.heap.size + 1 + 1, 0, none⟩ x0).setCell ⟨w.heap.size + 1 + 1, 1, none⟩ x1).heap.size := by
  have a1 : w.heap.size ≤ w.heap.size + 1 := by omega
  have a2 : w.heap.size ≤ w.heap.size + 1 + 1 := by omega
  have hlt := h.lt
  have ht : Touch (fun k => k = w.heap.size + 1 ∨ k = w.heap.size + 1 + 1) wr ((((wr.setCell ⟨w.heap.size + 1, 0, none⟩ y0).setCell ⟨w.heap.size + 1, 1, none⟩ y1).setCell ⟨w.heap.size + 1 + 1, 0, none⟩ x0).setCell ⟨w.heap.size + 1 + 1, 1, none⟩ x1) := ((((Touch.refl _ wr).setCell (p := ⟨w.heap.size + 1, 0, none⟩) (fun _ => .inl rfl) _).setCell (p := ⟨w.heap.size + 1, 1, none⟩) (fun _ => .inl rfl) _).setCell (p := ⟨w.heap.size + 1 + 1, 0, none⟩) (fun _ => .inr rfl) _).setCell (p := ⟨w.heap.size + 1 + 1, 1, none⟩) (fun _ => .inr rfl) _
  have hrow := h.row.touch ht (fun j hj e => by omega)
  refine ⟨(((h.bx.bel.setCell (p := ⟨w.heap.size + 1, 0, none⟩) a1 _).setCell (p := ⟨w.heap.size + 1, 1, none⟩) a1 _).setCell (p := ⟨w.heap.size + 1 + 1, 0, none⟩) a2 _).setCell (p := ⟨w.heap.size + 1 + 1, 1, none⟩) a2 _, ⟨RecRow.of_own (unsI_wide us) (by decide) hrow.1, ?_, ?_, ?_⟩, fun x hx => ⟨by have := h.row.2 x hx; omega, hrow.lt x hx⟩⟩
  · intro hn
    rcases hrow.1.2 with ⟨-, h0⟩ | ⟨g, cap, cur, hv, -⟩
    · rw [unsI_len] at h0; exact List.eq_nil_of_length_eq_zero h0
    · rw [hn] at hv; simp at hv
  · rcases hrow.1.2 with ⟨hv, h0⟩ | ⟨g, cap, cur, hv, -, -, h1, h2, -⟩
    · rw [unsI_len] at h0; omega
    · simp only [Value.slice.injEq] at hv; rw [unsI_len] at h1; omega
  · rcases hrow.1.2 with ⟨hv, h0⟩ | ⟨g, cap, cur, hv, -, -, h1, h2, -⟩
    · simp only [Value.slice.injEq] at hv; rw [hv.2.2]; exact Nat.zero_le _
    · simp only [Value.slice.injEq] at hv; omega
set_option maxRecDepth 100000 in
set_option maxHeartbeats 1000000 in
theorem refTabRead_any (st : St) (w : World) (h : StOk st) : Calls Try.prog 20 #[.agg #[.string (bs st.1), .int .i64 (st.2 : Nat)]] w (RReadPost w (tabS st)) := by
  have hC := fun W => refTakeCount_any st.1 st.2 1099511627776 W (by decide) (by decide) h.2 h.1
  rw [show countS (st.1, st.2) 1099511627776 = cntS 1099511627776 st from rfl] at hC
  have hle := (cntR 1099511627776 (by decide)).le st
  have hok := (cntR 1099511627776 (by decide)).ok st h
  have hS := tabG_eq oneO (cntS 1099511627776) (cntS 64) st
  rw [← show tabS st = tabG oneO (cntS 1099511627776) (cntS 64) st from rfl] at hS
  generalize tabS st = res at hS
  obtain ⟨l0, e0⟩ := st
  simp only at hC ⊢
  generalize cntS 1099511627776 (l0, e0) = t at hC hle hok hS
  obtain ⟨s1, next⟩ := t
  simp only [inV_eq] at hC
  simp only at hle hok hS
  have hC2 := fun W => refTakeCount_any s1.1 s1.2 64 W (by decide) (by decide) hok.2 hok.1
  rw [show countS (s1.1, s1.2) 64 = cntS 64 s1 from rfl] at hC2
  have hle2 := (cntR 64 (by decide)).le s1
  have hok2 := (cntR 64 (by decide)).ok s1 hok
  generalize cntS 64 s1 = t at hC2 hle2 hok2 hS
  obtain ⟨s2, n⟩ := t
  simp only [inV_eq] at hC2
  simp only at hle2 hok2 hS
  have hS' : res = (failS (rdUn (next : Int) n s2).1 (if next = 0 then 4 else 0), ((rdUn (next : Int) n s2).2, (next : Int) - 1)) := hS
  have HC := Lib.hid hC
  have HC2 := Lib.hid hC2
  have HS := Lib.hid hS'
  have HOK := Lib.hid hok2
  have HB0 := Lib.hid (Bx.new w #[.string (bs l0), .int .i64 (e0 : Nat)] #[.string ⟨#[]⟩, .int .i64 0] #[.slice none 0 0, .int .i64 0] 46 46 28)
  generalize hpost : RReadPost w res = Post
  have HPost := Lib.hid hpost
  clear hC hC2 hS hS' h hpost hok hok2
  go_enter Try.func20, Try.ntmps20
  go_wp2_with fail
  refine (HC.out _).mono ?_
  rintro r w1 ⟨rfl, hb1⟩
  have HB1 := Lib.hid (HB0.out.keep hb1)
  have HB2 := Lib.hid (HB1.out.set1 (.string (bs s1.1)) (.int .i64 (s1.2 : Nat)))
  have a0 := (HB1.out.c1 0).trans rfl
  have a1 := (HB1.out.c1 1).trans rfl
  have g0 := HB1.out.f1 0
  have g1 := HB1.out.f1 1
  have hz := HB1.out.sz
  have hzw : w.heap.size < w1.heap.size := by omega
  clear hb1 HB0 HB1 HC
  go_wp2_with fail
  clear a0 a1 g0 g1 hz hzw
  refine (HC2.out _).mono ?_
  rintro r w2 ⟨rfl, hb2⟩
  have HB3 := Lib.hid (HB2.out.keep hb2)
  have HB4 := Lib.hid (HB3.out.set1 (.string (bs s2.1)) (.int .i64 (s2.2 : Nat)))
  have a0 := (HB3.out.c1 0).trans rfl
  have a1 := (HB3.out.c1 1).trans rfl
  have g0 := HB3.out.f1 0
  have g1 := HB3.out.f1 1
  have hz := HB3.out.sz
  have hzw : w.heap.size < w2.heap.size := by omega
  clear hb2 HB2 HB3 HC2
  have HM : Hid (RRm w w2.heap.size (next : Int) (rdUn (next : Int) 0 s2).1 (rdUn (next : Int) 0 s2).2 none 0 (((w2.setCell ⟨w.heap.size, 0, none⟩ (.string (bs s2.1))).setCell ⟨w.heap.size, 1, none⟩ (.int .i64 (s2.2 : Nat))).alloc (.cells #[.slice none 0 0, .int .i64 (next : Int)] 28))) := by
    have hsz : ((w2.setCell ⟨w.heap.size, 0, none⟩ (.string (bs s2.1))).setCell ⟨w.heap.size, 1, none⟩ (.int .i64 (s2.2 : Nat))).heap.size = w2.heap.size := by simp
    have hb4 := HB4.out
    generalize (w2.setCell ⟨w.heap.size, 0, none⟩ (.string (bs s2.1))).setCell ⟨w.heap.size, 1, none⟩ (.int .i64 (s2.2 : Nat)) = W at hsz hb4 ⊢
    rw [← hsz] at hz ⊢
    exact Lib.hid ⟨hb4.keep (bel_alloc (Below.refl _ _) _), new_cell rfl rfl, new_cell rfl rfl, frozen_new _ _ _ _, ⟨World.ownsRow_nil _ _ _ _, fun x hx => by cases hx⟩, hz⟩
  go_wp2
  clear a0 a1 g0 g1 hz hzw HB4
  generalize w2.heap.size = T at HM ⊢
  go_loopw [7, 8] (fun lv iv wr => ∃ (k : Nat) (a : Option Addr) (c : Nat), k ≤ n ∧ lv = .int .i64 (lastId 0 (rdUn (next : Int) k s2).2) ∧ iv = .int .i64 k ∧ Hid (RRm w T (next : Int) (rdUn (next : Int) k s2).1 (rdUn (next : Int) k s2).2 a c wr ∧ ((rdUn (next : Int) k s2).1.2 = 0 → 0 ≤ lastId 0 (rdUn (next : Int) k s2).2 ∧ lastId 0 (rdUn (next : Int) k s2).2 ≤ next))) (fun _ iv _ => n - (intOf iv).toNat)
  case atStart => exact ⟨0, none, 0, by omega, rfl, rfl, Lib.hid ⟨HM.out, fun _ => ⟨by show (0 : Int) ≤ 0; omega, by show (0 : Int) ≤ (next : Int); omega⟩⟩⟩
  case round =>
    obtain ⟨k, a, c, hk, rfl, rfl, HR⟩ := hrel
    have hln := rdUn_len (next : Int) k s2
    have hokq : StOk (rdUn (next : Int) k s2).1 := unsG_stOk (oneR (next : Int)) HOK.out
    by_cases hgo : k < n ∧ (rdUn (next : Int) k s2).1.2 = 0
    · obtain ⟨hlt, he0⟩ := hgo
      have hN := unsG_succ (oneO (next : Int)) 0 k s2
      rw [← show rdUn (next : Int) (k + 1) s2 = unsG (oneO (next : Int)) 0 (k + 1) s2 from rfl, ← show rdUn (next : Int) k s2 = unsG (oneO (next : Int)) 0 k s2 from rfl] at hN
      generalize rdUn (next : Int) k s2 = q at HR hN hln hokq he0
      obtain ⟨sq, lq⟩ := q
      simp only at HR hN hln hokq he0
      have HLA := Lib.hid (lastId_append 0 lq)
      generalize lastId 0 lq = last at HR hN
      have hb := HR.out.2 he0
      have HON := Lib.hid (fun W => refOne_any sq last (next : Int) W hokq hb.1 (by omega))
      have HZ := Lib.hid (fun hh => ((oneR (next : Int)).zero last sq hh).2)
      generalize oneO (next : Int) last sq = t at HON hN HZ
      obtain ⟨s3, u⟩ := t
      simp only at hN HON HZ
      have HN := Lib.hid hN
      obtain ⟨lq1, eq1⟩ := sq
      simp only at he0
      subst he0
      have i0 := (HR.out.1.bx.c1 0).trans rfl
      have i1 := (HR.out.1.bx.c1 1).trans rfl
      have t1 := HR.out.1.t1
      have hT := block_lt_of_cell t1
      have hlT := HR.out.1.lt
      have hsz := HR.out.1.bx.sz
      have hsz0 : w.heap.size < wr.heap.size := by omega
      simp only at hT
      clear hN hokq HM
      go_wp2_with fail
      refine (HON.out _).mono ?_
      rintro r w3 ⟨rfl, hb3⟩
      have HM3 := Lib.hid (HR.out.1.keep hb3)
      have HBD := Lib.hid hb
      have HLN := Lib.hid hln
      clear hb3 HON i0 i1 t1 hT hsz hsz0 HR hb
      obtain ⟨u0, u1, u2', u3, u4, u5⟩ := u
      unfold unV
      simp only
      have i0 := (HM3.out.bx.c1 0).trans rfl
      have i1 := (HM3.out.bx.c1 1).trans rfl
      have f0 := HM3.out.bx.f1 0
      have f1 := HM3.out.bx.f1 1
      have hsz := HM3.out.bx.sz
      have hsz0 : w.heap.size < w3.heap.size := by omega
      have HM4 := Lib.hid (((HM3.out.set1 s3).keep (bel_alloc (Below.refl _ _) (.cells #[.string (bs s3.1), .int .i64 (s3.2 : Nat)] 46))).keep (bel_alloc (Below.refl _ _) (.cells #[.int .i64 u0, .int .i64 u1, .int .i64 u2', .int .i64 u3, .int .i64 u4, .int .i64 u5] 113)))
      clear HM3
      go_upto_region 11 with (fail)
      have hz4 : ((((w3.setCell ⟨w.heap.size, 0, none⟩ (.string (bs s3.1))).setCell ⟨w.heap.size, 1, none⟩ (.int .i64 (s3.2 : Nat))).alloc (.cells #[.string (bs s3.1), .int .i64 (s3.2 : Nat)] 46)).heap.size) = w3.heap.size + 1 := by simp
      have hp : ∀ j v, (#[.int .i64 u0, .int .i64 u1, .int .i64 u2', .int .i64 u3, .int .i64 u4, .int .i64 u5] : Array Value)[j]? = some v → ((((w3.setCell ⟨w.heap.size, 0, none⟩ (.string (bs s3.1))).setCell ⟨w.heap.size, 1, none⟩ (.int .i64 (s3.2 : Nat))).alloc (.cells #[.string (bs s3.1), .int .i64 (s3.2 : Nat)] 46)).alloc (.cells #[.int .i64 u0, .int .i64 u1, .int .i64 u2', .int .i64 u3, .int .i64 u4, .int .i64 u5] 113)).cell? ⟨w3.heap.size + 1, j, none⟩ = some v := fun j v hv => by
        generalize (((w3.setCell ⟨w.heap.size, 0, none⟩ (.string (bs s3.1))).setCell ⟨w.heap.size, 1, none⟩ (.int .i64 (s3.2 : Nat))).alloc (.cells #[.string (bs s3.1), .int .i64 (s3.2 : Nat)] 46)) = W3 at hz4
        rw [cell_new _ _ hz4]; exact hv
      generalize ((((w3.setCell ⟨w.heap.size, 0, none⟩ (.string (bs s3.1))).setCell ⟨w.heap.size, 1, none⟩ (.int .i64 (s3.2 : Nat))).alloc (.cells #[.string (bs s3.1), .int .i64 (s3.2 : Nat)] 46)).alloc (.cells #[.int .i64 u0, .int .i64 u1, .int .i64 u2', .int .i64 u3, .int .i64 u4, .int .i64 u5] 113)) = W4 at HM4 hp ⊢
      have p0 := hp 0 _ rfl
      have p1 := hp 1 _ rfl
      have p2 := hp 2 _ rfl
      have p3 := hp 3 _ rfl
      have p4 := hp 4 _ rfl
      have p5 := hp 5 _ rfl
      have hpl := block_lt_of_cell p0
      simp only at hpl
      have t0 := HM4.out.t0
      have hT := block_lt_of_cell t0
      simp only at hT
      obtain ⟨a', c', w', hrun, ⟨o, hc⟩, hf, hTl, hmem⟩ := HM4.out.step ⟨u0, u1, u2', u3, u4, u5⟩ (by rw [HLN.out]; omega) _ rfl
      simp only at hrun
      have HRUN := Lib.hid hrun
      have HMEM := Lib.hid hmem
      clear hz4 hp i0 i1 f0 f1 hsz hsz0 hrun hmem HM4 hln
      generalize lq.length = ul at t0 HRUN HMEM
      generalize w3.heap.size + 1 = B at p0 p1 p2 p3 p4 p5 hpl ⊢
      go_wp2_with (at_builtin; refine wpList_append_run _ rfl (.tmp 45) (.tmp 47) 26 26 rfl _ _ rfl rfl (.slice a' (ul + 1) c') w' HRUN.out ?_)
      go_roundw
      case rel => exact ⟨k + 1, a', c', by omega, by rw [HN.out]; simp only [HLA.out], by go_num, Lib.hid (by rw [HN.out]; simp only [HLA.out]; exact ⟨HMEM.out, fun h0 => by have h1 := HZ.out h0; have h2 := h1.2.1; have h3 := h1.2.2.1; have h4 := HBD.out; simp only at h2 h3; omega⟩)⟩
      case measure => simp [intOf]; omega
    · have HX : Hid ((rdUn (next : Int) n s2).1 = (rdUn (next : Int) k s2).1 ∧ ((rdUn (next : Int) k s2).1.2 = 0 → (rdUn (next : Int) n s2).2 = (rdUn (next : Int) k s2).2)) := Lib.hid (by
        by_cases he : (rdUn (next : Int) k s2).1.2 = 0
        · obtain rfl : n = k := by
            by_cases h : k < n
            · exact absurd ⟨h, he⟩ hgo
            · omega
          exact ⟨rfl, fun _ => rfl⟩
        · exact ⟨rdUn_stuck hk he (hokq.1 he), fun h => absurd h he⟩)
      have hex : (k < n ∧ (((rdUn (next : Int) k s2).1.2 : Int) == 0) = false) ∨ (¬ k < n ∧ decide ((k : Int) < (n : Int)) = false) := by
        by_cases h : k < n
        · refine .inl ⟨h, ?_⟩
          have : ¬ (rdUn (next : Int) k s2).1.2 = 0 := fun e => hgo ⟨h, e⟩
          simp; omega
        · exact .inr ⟨h, by simp; omega⟩
      generalize rdUn (next : Int) n s2 = qn at HX HS
      generalize rdUn (next : Int) k s2 = q at HR hln hokq HX hex
      obtain ⟨sq, lq⟩ := q
      simp only at HR hln hokq HX hex
      have HR1 := Lib.hid HR.out.1
      generalize lastId 0 lq = last
      obtain ⟨lz, ez⟩ := sq
      simp only at hex
      have i0 := (HR1.out.bx.c1 0).trans rfl
      have i1 := (HR1.out.bx.c1 1).trans rfl
      have hsz := HR1.out.bx.sz
      have hsz0 : w.heap.size < wr.heap.size := by omega
      clear hgo HR hln HM hk
      by_cases hn0 : next = 0
      · have hF0 := fun W => refFail_any lz ez 4 W
        have HF := Lib.hid (show res.1 = failS (lz, ez) 4 ∧ ((next : Int) = res.2.2 + 1 ∧ True) ∧ ((failS (lz, ez) 4).2 = 0 → False) from ⟨by rw [HS.out, if_pos hn0, HX.out.1], ⟨by rw [HS.out]; simp only; omega, trivial⟩, fun h => by have := (failS_zero h).2; omega⟩)
        generalize failS (lz, ez) 4 = s6 at hF0 HF
        simp only [inV_eq] at hF0
        have HFA := Lib.hid hF0
        have hnb : decide ((next : Int) < 1) = true := by simp; omega
        clear hF0 hn0 HS
        rcases hex with ⟨h1, h2⟩ | ⟨h1, h2⟩
        all_goals
          go_wp2_with fail
          refine (HFA.out _).mono ?_
          rintro r w5 ⟨rfl, hb5⟩
          have HM5 := Lib.hid (HR1.out.keep hb5)
          clear hb5 i0 i1 hsz hsz0
          have k0 := (HM5.out.bx.c1 0).trans rfl
          have k1 := (HM5.out.bx.c1 1).trans rfl
          have f0 := HM5.out.bx.f1 0
          have f1 := HM5.out.bx.f1 1
          have hsz := HM5.out.bx.sz
          have hsz0 : w.heap.size < w5.heap.size := by omega
          have HMz := Lib.hid (HM5.out.set1 s6)
          clear HM5
          go_upto_region 14 with (fail)
          generalize (w5.setCell ⟨w.heap.size, 0, none⟩ (.string (bs s6.1))).setCell ⟨w.heap.size, 1, none⟩ (.int .i64 (s6.2 : Nat)) = Wz at HMz ⊢
          clear k0 k1 f0 f1 hsz hsz0
          have i0 := (HMz.out.bx.c1 0).trans rfl
          have i1 := (HMz.out.bx.c1 1).trans rfl
          have p0 := (HMz.out.bx.c2 0).trans rfl
          have p1 := (HMz.out.bx.c2 1).trans rfl
          have q0 := (HMz.out.bx.c3 0).trans rfl
          have q1 := (HMz.out.bx.c3 1).trans rfl
          have d0 := HMz.out.bx.f2 0
          have d1 := HMz.out.bx.f2 1
          have z0 := HMz.out.bx.f3 0
          have z1 := HMz.out.bx.f3 1
          have v0 := HMz.out.t0
          have v1 := HMz.out.t1
          have hs9 := HMz.out.bx.sz
          have hTl := block_lt_of_cell v0
          simp only at hTl
          have hlT := HMz.out.lt
          have hs8 : w.heap.size + 1 < Wz.heap.size := by omega
          have hs7 : w.heap.size < Wz.heap.size := by omega
          have n1 : T ≠ w.heap.size + 1 := by omega
          have n2 : T ≠ w.heap.size + 1 + 1 := by omega
          have n3 : T ≠ w.heap.size := by omega
          generalize hul : lq.length = un at v0
          have HUL := Lib.hid hul
          clear hul
          go_region
          all_goals
            go_wp2
            refine bodyPost_ret (v := .tuple #[.agg #[.string (bs s6.1), .int .i64 (s6.2 : Nat)], .agg #[.slice a un c, .int .i64 (next : Int)]]) (by simp [results, Try.results20, go_sem, p0, p1, q0, q1]) rfl ?_
            rw [← HPost.out]
            exact ⟨a, un, c, by rw [HF.out.1, HF.out.2.1.1], (HMz.out.fin _ _ _ _).1.drew, fun h0 => (HF.out.2.2 (by rw [← HF.out.1]; exact h0)).elim⟩
      · have HF := Lib.hid (show res.1 = (lz, ez) ∧ (next : Int) = res.2.2 + 1 ∧ (ez = 0 → res.2.1 = lq) from ⟨by rw [HS.out, if_neg hn0, HX.out.1]; simp [failS], by rw [HS.out]; simp only; omega, fun h => by rw [HS.out]; exact HX.out.2 h⟩)
        have hnb : decide ((next : Int) < 1) = false := by simp; omega
        have HMz := Lib.hid HR1.out
        clear hn0 HS
        rcases hex with ⟨h1, h2⟩ | ⟨h1, h2⟩
        all_goals
          go_upto_region 14 with (fail)
          clear i0 i1 hsz hsz0
          generalize wr = Wz at HMz ⊢
          have i0 := (HMz.out.bx.c1 0).trans rfl
          have i1 := (HMz.out.bx.c1 1).trans rfl
          have p0 := (HMz.out.bx.c2 0).trans rfl
          have p1 := (HMz.out.bx.c2 1).trans rfl
          have q0 := (HMz.out.bx.c3 0).trans rfl
          have q1 := (HMz.out.bx.c3 1).trans rfl
          have d0 := HMz.out.bx.f2 0
          have d1 := HMz.out.bx.f2 1
          have z0 := HMz.out.bx.f3 0
          have z1 := HMz.out.bx.f3 1
          have v0 := HMz.out.t0
          have v1 := HMz.out.t1
          have hs9 := HMz.out.bx.sz
          have hTl := block_lt_of_cell v0
          simp only at hTl
          have hlT := HMz.out.lt
          have hs8 : w.heap.size + 1 < Wz.heap.size := by omega
          have hs7 : w.heap.size < Wz.heap.size := by omega
          have n1 : T ≠ w.heap.size + 1 := by omega
          have n2 : T ≠ w.heap.size + 1 + 1 := by omega
          have n3 : T ≠ w.heap.size := by omega
          generalize hul : lq.length = un at v0
          have HUL := Lib.hid hul
          clear hul
          go_region
          all_goals
            go_wp2
            refine bodyPost_ret (v := .tuple #[.agg #[.string (bs lz), .int .i64 (ez : Nat)], .agg #[.slice a un c, .int .i64 (next : Int)]]) (by simp [results, Try.results20, go_sem, p0, p1, q0, q1]) rfl ?_
            rw [← HPost.out]
            refine ⟨a, un, c, by rw [HF.out.1, HF.out.2.1], (HMz.out.fin _ _ _ _).1.drew, fun h0 => ?_⟩
            have hx1 := HF.out.2.2 (by rw [HF.out.1] at h0; exact h0)
            rw [hx1]
            exact ⟨HUL.out.symm, ((HMz.out.fin _ _ _ _).2.1).drew, (HMz.out.fin _ _ _ _).2.2⟩
end Go.Proofs.Ytdkokfpbmmjfkaa
namespace Go.Proofs.Ytdkokfpbmmjfkaa
open Go.RowKit
set_option linter.unusedVariables false

theorem intRow5 {k : IntKind} {w : World} {g : Nat} {x y z u v : Int} (h1 : w.cell? ⟨g, 1, none⟩ = some (.int k x)) (h2 : w.cell? ⟨g, 2, none⟩ = some (.int k y)) (h3 : w.cell? ⟨g, 3, none⟩ = some (.int k z)) (h4 : w.cell? ⟨g, 4, none⟩ = some (.int k u)) (h5 : w.cell? ⟨g, 5, none⟩ = some (.int k v)) : IntRow k w (some ⟨g, 1, none⟩) [x, y, z, u, v] := fun _ => ⟨g, 1, rfl, fun i hi => by
  have e : i = 0 ∨ i = 1 ∨ i = 2 ∨ i = 3 ∨ i = 4 := by simp at hi; omega
  rcases e with rfl | rfl | rfl | rfl | rfl
  · exact h1
  · exact h2
  · exact h3
  · exact h4
  · exact h5⟩
/-- Six cells of a box. -/
def Six (Y : Nat) (u0 u1 u2 u3 u4 u5 : Int) (W : World) : Prop := W.cell? ⟨Y, 0, none⟩ = some (.int .i64 u0) ∧ W.cell? ⟨Y, 1, none⟩ = some (.int .i64 u1) ∧ W.cell? ⟨Y, 2, none⟩ = some (.int .i64 u2) ∧ W.cell? ⟨Y, 3, none⟩ = some (.int .i64 u3) ∧ W.cell? ⟨Y, 4, none⟩ = some (.int .i64 u4) ∧ W.cell? ⟨Y, 5, none⟩ = some (.int .i64 u5)
theorem Six.keep {S : Nat → Prop} {Y : Nat} {u0 u1 u2 u3 u4 u5 : Int} {W w' : World} (ht : Touch (fun k => ¬ S k) W w') (hg : S Y) (h : Six Y u0 u1 u2 u3 u4 u5 W) : Six Y u0 u1 u2 u3 u4 u5 w' :=
  ⟨keep_cell ht hg h.1, keep_cell ht hg h.2.1, keep_cell ht hg h.2.2.1, keep_cell ht hg h.2.2.2.1, keep_cell ht hg h.2.2.2.2.1, keep_cell ht hg h.2.2.2.2.2⟩
theorem Six.alloc {Y : Nat} {u0 u1 u2 u3 u4 u5 : Int} {W : World} (o : Obj) (h : Six Y u0 u1 u2 u3 u4 u5 W) : Six Y u0 u1 u2 u3 u4 u5 (W.alloc o) :=
  ⟨alloc_cell h.1 o, alloc_cell h.2.1 o, alloc_cell h.2.2.1 o, alloc_cell h.2.2.2.1 o, alloc_cell h.2.2.2.2.1 o, alloc_cell h.2.2.2.2.2 o⟩
theorem Six.row {Y : Nat} {u0 u1 u2 u3 u4 u5 : Int} {W : World} (h : Six Y u0 u1 u2 u3 u4 u5 W) : IntRow .i64 W (some ⟨Y, 1, none⟩) [u1, u2, u3, u4, u5] := intRow5 h.2.1 h.2.2.1 h.2.2.2.1 h.2.2.2.2.1 h.2.2.2.2.2
theorem unB_len {last : Int} {u : Un} (h1 : u.id - last < 18446744073709551616) (hm : UnMay u) : (unB last u).length ≤ 60 := by
  have e2 := numsB_len [(u.id - last).toNat] (by intro x hx; simp at hx; omega)
  have e3 := intsB_len2 (ns := u.ints.tail) (by
    obtain ⟨m0, m1, m2, m3, m4⟩ := hm
    simp [mayN] at m0 m1 m2 m3 m4
    intro x hx
    simp [Un.ints] at hx
    unfold B64
    rcases hx with rfl | rfl | rfl | rfl | rfl <;> omega)
  have e4 : u.ints.tail.length = 5 := rfl
  unfold unB
  simp only [List.length_append]
  rw [e4] at e3
  simp at e2
  omega
theorem unsB_len {us : List Un} {g : Int} (h : TabOk us g) (k : Nat) (hk : k ≤ us.length) : (unsB 0 (us.take k)).length ≤ 60 * k := by
  induction k with
  | zero => simp [unsB]
  | succ k ih =>
    have h1 := ih (by omega)
    have h2 := lastId_lt h k (by omega)
    have h3 := h.2.2.1 _ (List.getElem_mem (show k < us.length by omega))
    have h4 := unB_len (last := lastId 0 (us.take k)) (u := us[k]) (by have := h.2.2.2.2; omega) h3.2.2
    rw [unsB_snoc us k (by omega), List.length_append]
    omega
set_option maxRecDepth 100000 in
set_option maxHeartbeats 4000000 in
theorem tabText_any {K : Nat → Prop} (b : Nat) (us : List Un) (g : Int) (w : World) (h : TabQ K b us g w) :
    Calls Try.prog 23 #[.pointer (some ⟨b, 0, none⟩)] w fun r w' => r = .returned (.string (bs (tabB us g))) ∧ Below w.heap.size w w' := by
  have HNX := Lib.hid (fun (W : World) (hb : Below w.heap.size w W) => tabNext_any b us g W (h.below hb))
  obtain ⟨⟨a, c, h1, -⟩, -, hok⟩ := h
  have c0 := h1.c0
  have HOK := Lib.hid hok
  have HAT := Lib.hid h1
  have HST := Lib.hid (OutQ.start (K := fun k => k < w.heap.size) w 93 (fun k hk => hk))
  have hbl := block_lt_of_cell c0
  simp only at hbl
  clear h1 hok
  have y0 : (w.alloc (.cells #[.slice none 0 0] 93)).cell? ⟨b, 0, none⟩ = some (.slice a us.length c) := alloc_cell c0 _
  have hg0 := HOK.out.2.2.2.1
  have hg1 := HOK.out.2.2.2.2
  have hwu : IntKind.u64.wrap (g + 1) = g + 1 := by rw [IntKind.wrap_u64]; omega
  have HU := Lib.hid (show (((g + 1).toNat : Nat) : Int) = g + 1 by omega)
  have h64 := HOK.out.1
  generalize hul : us.length = n at c0 y0 h64
  have HN := Lib.hid hul
  clear hul
  have HN1 := Lib.hid (show ∀ x ∈ [(g + 1).toNat], x < 18446744073709551616 by intro x hx; simp at hx; omega)
  have HL1 := Lib.hid (show ([] : List UInt8).length + 10 * [(g + 1).toNat].length ≤ 1000000000 by simp)
  have HN2 := Lib.hid (show ∀ x ∈ [(n : Int)], x ≤ 9223372036854775807 by intro x hx; simp at hx; omega)
  have HL2 := Lib.hid (show ([] ++ numsB [(g + 1).toNat]).length + 10 * [(n : Int)].length ≤ 1000000000 by
    have h2 := numsB_len [(g + 1).toNat] HN1.out
    simp at h2; simp; omega)
  have HB0 := Lib.hid (bel_alloc (Below.refl _ w) (.cells #[.slice none 0 0] 93))
  go_enter Try.func23, Try.ntmps23
  go_wp2_with fail
  have hX : w.heap.size < (w.alloc (.cells #[.slice none 0 0] 93)).heap.size := by simp
  generalize w.alloc (.cells #[.slice none 0 0] 93) = W0 at HST HB0 y0 hX ⊢
  have HSZ := Lib.hid HB0.out.size
  go_region_held3 (fun w' => w'.cell? ⟨b, 0, none⟩ = some (.slice a n c))
    (first | (refine keep_cell HT2.out (.inl (.inl hbl)) ?_; assumption) | (refine keep_cell HT1.out (.inl hbl) ?_; assumption) | (refine alloc_cell ?_ _; assumption) | (refine drew_cell (alloc_cell ?_ _); assumption) | exact y0)
    (first
      | (go_at_call 53; refine (HNX.out _ (by repeat' (first | exact HB0.out | refine Below.drew ?_ | refine bel_alloc ?_ _))).mono ?_; rintro r wK ⟨rfl, rfl⟩)
      | (go_at_call 68; refine (outNum_q HST.out [(g + 1).toNat] HL1.out HN1.out (by repeat' (first | exact Below.refl _ _ | refine Below.drew ?_ | refine bel_alloc ?_ _)) _ 0 1 1 rfl (intRow1 (by show _ = some (Value.int .u64 (((g + 1).toNat : Nat) : Int)); rw [HU.out]; repeat' (first | exact new_cell (by first | rfl | (simp; done)) rfl | exact .inr ⟨by first | omega | (simp; done) | (simp; omega), by first | omega | (simp; done) | (simp; omega)⟩ | exact .inl (.inr ⟨by first | omega | (simp; done) | (simp; omega), by first | omega | (simp; done) | (simp; omega)⟩) | with_reducible refine drew_cell ?_ | with_reducible refine alloc_cell ?_ _ | with_reducible refine keep_cell HT1.out ?_ ?_))) (.inr (by first | omega | (simp; done) | (simp; omega)))).mono ?_; rintro r wA ⟨rfl, ho, ht⟩; have HO1 := Lib.hid ho; have HT1 := Lib.hid ht; clear ho ht)
      | (go_at_call 69; refine (outCount_q HO1.out [(n : Int)] HL2.out HN2.out (by repeat' (first | exact Below.refl _ _ | refine Below.drew ?_ | refine bel_alloc ?_ _)) _ 0 1 1 rfl (intRow1 (by repeat' (first | exact new_cell (by first | rfl | (simp; done)) rfl | exact .inr ⟨by first | omega | (simp; done) | (simp; omega), by first | omega | (simp; done) | (simp; omega)⟩ | exact .inl (.inr ⟨by first | omega | (simp; done) | (simp; omega), by first | omega | (simp; done) | (simp; omega)⟩) | with_reducible refine drew_cell ?_ | with_reducible refine alloc_cell ?_ _ | with_reducible refine keep_cell HT1.out ?_ ?_))) (by first | exact .inr (by first | omega | (simp; done) | (simp; omega)) | exact .inl (.inr ⟨by first | omega | (simp; done) | (simp; omega), by first | omega | (simp; done) | (simp; omega)⟩))).mono ?_; rintro r wB ⟨rfl, ho, ht⟩; have HO2 := Lib.hid ho; have HT2 := Lib.hid ht; clear ho ht))
  all_goals
    have HW := Lib.hid (show Touch (fun k => ¬ k < w.heap.size) W0 wB from (touchKK (K := fun k => k < w.heap.size) (wp := W0) (by repeat' (first | exact Below.refl _ _ | refine Below.drew ?_ | refine bel_alloc ?_ _)) HT1.out).trans (touchKK (K := fun k => k < w.heap.size) (wp := wA) (by repeat' (first | exact Below.refl _ _ | refine Below.drew ?_ | refine bel_alloc ?_ _)) (HT2.out.mono fun k _ h1 h2 => h1 (h2.elim (fun h => .inl (.inl h)) .inr))))
    have HBB := Lib.hid (HB0.out.trans (HW.out.below HSZ.out (fun k hk h => h hk)))
    have HQ := Lib.hid (HO2.out.sub (K := fun k => k < w.heap.size) (fun k hk => .inl (.inl hk)))
    have HROW := Lib.hid (show UnRow w a us from RecRow.of_own (unsI_wide us) (by decide) (by rw [unsI_len]; exact HAT.out.row))
    clear HO1 HO2 HT1 HT2 HW HNX HAT HSZ HB0 HST HL1 HL2 HN1 HN2 y0
    generalize W0.heap.size = s1
    generalize wA.heap.size = s2
    rw [List.nil_append] at HQ
    go_wp2
    go_loopw [4, 24] (fun av iv wr => ∃ k : Nat, k ≤ n ∧ iv = .int .i64 k ∧ av = .int .i64 (lastId 0 (us.take k)) ∧ Hid (OutQ (fun k => k < w.heap.size) w.heap.size (numsB [(g + 1).toNat] ++ countsB [(n : Int)] ++ unsB 0 (us.take k)) wr) ∧ Hid (Below w.heap.size w wr)) (fun _ iv _ => n - (intOf iv).toNat)
    case atStart => exact ⟨0, by omega, rfl, by simp [lastId], Lib.hid (by simpa [unsB] using HQ.out), HBB⟩
    case round =>
      obtain ⟨k, hk, rfl, rfl, HO, HB⟩ := hrel
      by_cases hlt : k < n
      · have hlu : k < us.length := by rw [HN.out]; exact hlt
        have HS := Lib.hid (unsB_snoc us k hlu)
        have HLI := Lib.hid (lastId_snoc us k hlu)
        have HLT := Lib.hid (lastId_lt HOK.out k hlu)
        have HUK := Lib.hid (HOK.out.2.2.1 _ (List.getElem_mem hlu))
        have HLN : Hid ((numsB [(g + 1).toNat] ++ countsB [(n : Int)] ++ unsB 0 (us.take k)).length ≤ 5000) := Lib.hid (by
          have h1 := numsB_len [(g + 1).toNat] (by intro x hx; simp at hx; omega)
          have h2 := countsB_len (ns := [(n : Int)]) (by intro x hx; simp at hx; omega)
          have h3 := unsB_len HOK.out k (by omega)
          simp only [List.length_append]
          simp at h1 h2
          omega)
        obtain ⟨gb, off, rfl, hgb, c0', c1, c2, c3, c4, c5⟩ := (HROW.out.below HB.out).at hlu
        generalize us[k] = u at c0' c1 c2 c3 c4 c5 HS HLI HLT HUK
        generalize hla : lastId 0 (us.take k) = la at HS HLT ⊢
        clear hla
        obtain ⟨u0, u1, u2, u3, u4, u5⟩ := u
        simp only at c0' c1 c2 c3 c4 c5
        have b0 := HLT.out
        have b1 := HUK.out.2.1
        simp only at b0 b1
        have hwi : IntKind.i64.wrap (u0 - la) = u0 - la := by rw [IntKind.wrap_i64]; omega
        have hwv : IntKind.u64.wrap (u0 - la) = u0 - la := by rw [IntKind.wrap_u64]; omega
        have HU2 := Lib.hid (show (((u0 - la).toNat : Nat) : Int) = u0 - la by omega)
        have hk0 : (0 : Int) ≤ (k : Int) := by omega
        have hk1 : (k : Int) < (n : Int) := by omega
        have HN3 := Lib.hid (show ∀ x ∈ [(u0 - la).toNat], x < 18446744073709551616 by intro x hx; simp at hx; omega)
        have HN4 := Lib.hid (show ∀ x ∈ [u1, u2, u3, u4, u5], -9223372036854775808 ≤ x ∧ x ≤ 9223372036854775807 by
          obtain ⟨m0, m1, m2, m3, m4⟩ := HUK.out.2.2
          simp [mayN] at m0 m1 m2 m3 m4
          intro x hx
          simp at hx
          rcases hx with rfl | rfl | rfl | rfl | rfl <;> omega)
        generalize hLE : numsB [(g + 1).toNat] ++ countsB [(n : Int)] ++ unsB 0 (us.take k) = L at HO HLN
        have HLE := Lib.hid hLE
        clear hLE b0 b1
        have HL3 := Lib.hid (show L.length + 10 * [(u0 - la).toNat].length ≤ 1000000000 by have := HLN.out; simp; omega)
        have HL4 := Lib.hid (show (L ++ numsB [(u0 - la).toNat]).length + 10 * [u1, u2, u3, u4, u5].length ≤ 1000000000 by
          have := HLN.out; have h2 := numsB_len [(u0 - la).toNat] HN3.out; simp at h2; simp; omega)
        go_upto_region 7 with (fail)
        have HO0 := Lib.hid (HO.out.add (.cells #[.int .i64 u0, .int .i64 u1, .int .i64 u2, .int .i64 u3, .int .i64 u4, .int .i64 u5] 35))
        have HBW := Lib.hid (bel_alloc (Below.refl _ wr) (.cells #[.int .i64 u0, .int .i64 u1, .int .i64 u2, .int .i64 u3, .int .i64 u4, .int .i64 u5] 35))
        have HSX : Six wr.heap.size u0 u1 u2 u3 u4 u5 (wr.alloc (.cells #[.int .i64 u0, .int .i64 u1, .int .i64 u2, .int .i64 u3, .int .i64 u4, .int .i64 u5] 35)) := ⟨by simp, by simp, by simp, by simp, by simp, by simp⟩
        clear HO c0' c1 c2 c3 c4 c5
        generalize wr.alloc (.cells #[.int .i64 u0, .int .i64 u1, .int .i64 u2, .int .i64 u3, .int .i64 u4, .int .i64 u5] 35) = W1 at HO0 HBW HSX ⊢
        generalize hY : wr.heap.size = Y at HO0 HSX ⊢
        have HY := Lib.hid hY
        clear hY
        have x0 := HSX.1
        go_region_held3 (fun w' => w'.cell? ⟨Y, 0, none⟩ = some (.int .i64 u0) ∧ w'.cell? ⟨Y, 1, none⟩ = some (.int .i64 u1) ∧ w'.cell? ⟨Y, 2, none⟩ = some (.int .i64 u2) ∧ w'.cell? ⟨Y, 3, none⟩ = some (.int .i64 u3) ∧ w'.cell? ⟨Y, 4, none⟩ = some (.int .i64 u4) ∧ w'.cell? ⟨Y, 5, none⟩ = some (.int .i64 u5))
          (first | (refine Six.keep HT2.out (.inl (.inl (.inr rfl))) ?_; assumption) | (refine Six.keep HT1.out (.inl (.inr rfl)) ?_; assumption) | (refine Six.alloc _ ?_; assumption) | (refine Six.alloc (W := World.drew _) _ ?_; assumption) | exact HSX)
          (first
            | (go_at_call 68; refine (outNum_q HO0.out [(u0 - la).toNat] HL3.out HN3.out (by repeat' (first | exact Below.refl _ _ | refine Below.drew ?_ | refine bel_alloc ?_ _)) _ 0 1 1 rfl (intRow1 (by show _ = some (Value.int .u64 (((u0 - la).toNat : Nat) : Int)); rw [HU2.out]; repeat' (first | exact new_cell (by first | rfl | (simp; done)) rfl | exact .inr ⟨by first | omega | (simp; done) | (simp; omega), by first | omega | (simp; done) | (simp; omega)⟩ | exact .inl (.inr ⟨by first | omega | (simp; done) | (simp; omega), by first | omega | (simp; done) | (simp; omega)⟩) | with_reducible refine drew_cell ?_ | with_reducible refine alloc_cell ?_ _ | with_reducible refine keep_cell HT1.out ?_ ?_))) (.inr (by first | omega | (simp; done) | (simp; omega)))).mono ?_; rintro r wA ⟨rfl, ho, ht⟩; have HO1 := Lib.hid ho; have HT1 := Lib.hid ht; clear ho ht)
            | (go_at_call 70; refine (outInt_q HO1.out [u1, u2, u3, u4, u5] HL4.out HN4.out (by repeat' (first | exact Below.refl _ _ | refine Below.drew ?_ | refine bel_alloc ?_ _)) Y 1 5 5 rfl (Six.row (u0 := u0) (by assumption)) (.inl (.inl (.inr rfl)))).mono ?_; rintro r wB ⟨rfl, ho, ht⟩; have HO2 := Lib.hid ho; have HT2 := Lib.hid ht; clear ho ht))
        all_goals
          have x0' : wB.cell? ⟨Y, 0, none⟩ = some (.int .i64 u0) := (show Six Y u0 u1 u2 u3 u4 u5 wB by assumption).1
          have hYl := block_lt_of_cell x0'
          simp only at hYl
          have HW := Lib.hid (show Touch (fun k => ¬ k < w.heap.size) W1 wB from (touchKK (K := fun k => k < w.heap.size) (wp := W1) (by repeat' (first | exact Below.refl _ _ | refine Below.drew ?_ | refine bel_alloc ?_ _)) (HT1.out.mono fun k _ h1 h2 => h1 (h2.elim (fun h => .inl (.inl h)) .inr))).trans
            (touchKK (K := fun k => k < w.heap.size) (wp := wA) (by repeat' (first | exact Below.refl _ _ | refine Below.drew ?_ | refine bel_alloc ?_ _)) (HT2.out.mono fun k _ h1 h2 => h1 (h2.elim (fun h => .inl (.inl (.inl h))) .inr))))
          have HQ2 := Lib.hid (HO2.out.sub (K := fun k => k < w.heap.size) (fun k hk => .inl (.inl (.inl hk))))
          have HB2 := Lib.hid (HB.out.trans ((HBW.out.mono HB.out.size).trans (HW.out.below (by have := HB.out.size; have := HBW.out.size; omega) (fun k hk h => h hk))))
          clear HO1 HO2 HT1 HT2 HW HO0 HBW
          go_wp2
          go_roundw
          case rel => exact ⟨k + 1, by omega, by go_num, by rw [HLI.out], Lib.hid (by rw [HS.out, ← List.append_assoc, HLE.out]; unfold unB; rw [← List.append_assoc]; exact HQ2.out), HB2⟩
          case measure => simp [intOf]; omega
      · obtain rfl : k = n := by omega
        have HE := Lib.hid (show numsB [(g + 1).toNat] ++ countsB [(k : Int)] ++ unsB 0 (us.take k) = tabB us g by unfold tabB; rw [HN.out, ← HN.out, List.take_length])
        rw [HE.out] at HO
        have HTX := Lib.hid (outText_q HO.out)
        go_wp2_with fail
        refine HTX.out.mono ?_
        rintro r w2 ⟨rfl, rfl⟩
        go_wp2
        go_ret
        exact ⟨rfl, HB.out⟩
end Go.Proofs.Ytdkokfpbmmjfkaa
namespace Go.Proofs.Ytdkokfpbmmjfkaa
open Go.RowKit
set_option linter.unusedVariables false

theorem index5_any (a b c d e : Int) (j : Nat) (hj : j < 5) : ∀ w : World, (Instr.index 33 (.agg #[.int .i64 a, .int .i64 b, .int .i64 c, .int .i64 d, .int .i64 e]) (.int .i64 (j : Int))).run Try.prog w = .ok (.int .i64 ([a, b, c, d, e].getD j 0)) w := by
  have h : j = 0 ∨ j = 1 ∨ j = 2 ∨ j = 3 ∨ j = 4 := by omega
  rcases h with rfl | rfl | rfl | rfl | rfl
  · exact index5_0 a b c d e
  · exact index5_1 a b c d e
  · exact index5_2 a b c d e
  · exact index5_3 a b c d e
  · exact index5_4 a b c d e
theorem intsB_snoc5 (l : List Int) (j : Nat) (h : j < l.length) : intsB (l.take (j + 1)) = intsB (l.take j) ++ numB (zig (l.getD j 0)) := by
  have e : l.getD j 0 = l[j] := by simp [h]
  rw [intsB_snoc l j h, e]
theorem keep2c {W w' : World} (hb : Below W.heap.size W w') {X : Nat} {x y : Value} (h : W.cell? ⟨X, 0, none⟩ = some x ∧ W.cell? ⟨X, 1, none⟩ = some y) : w'.cell? ⟨X, 0, none⟩ = some x ∧ w'.cell? ⟨X, 1, none⟩ = some y := by
  have hX := block_lt_of_cell h.1
  exact ⟨(hb.cell (p := ⟨X, 0, none⟩) hX).trans h.1, (hb.cell (p := ⟨X, 1, none⟩) hX).trans h.2⟩
set_option maxRecDepth 100000 in
set_option maxHeartbeats 4000000 in
theorem refTabText_any (a : Option Addr) (c : Nat) (us : List Un) (g : Int) (w : World) (hok : TabOk us g) (h : RT w a c us) :
    Calls Try.prog 60 #[.agg #[.slice a us.length c, .int .i64 (g + 1)]] w fun r w' => r = .returned (.string (bs (tabB us g))) ∧ Below w.heap.size w w' := by
  have HOK := Lib.hid hok
  have HROW := Lib.hid h.row
  have hg0 := hok.2.2.2.1
  have hg1 := hok.2.2.2.2
  have h64 := hok.1
  generalize hul : us.length = n at h64 ⊢
  have HN := Lib.hid hul
  clear hul h hok
  have hwu : IntKind.u64.wrap (g + 1) = g + 1 := by rw [IntKind.wrap_u64]; omega
  have HU := Lib.hid (show (((g + 1).toNat : Nat) : Int) = g + 1 by omega)
  have hc1 := fun W => refNum_any (g + 1).toNat W (by omega)
  rw [HU.out] at hc1
  have hc2 := fun W => refCount_any (n : Int) W (by omega) (by omega)
  have s1 : (bs (numB (g + 1).toNat)).size ≤ 10 := by rw [bs_size]; exact numB_ten (by omega)
  have s2 : (bs (numB ((n : Int)).toNat)).size ≤ 10 := by rw [bs_size]; exact numB_ten (by omega)
  have HJ := Lib.hid (show bs (numB (g + 1).toNat) ++ bs (numB ((n : Int)).toNat) = bs (numsB [(g + 1).toNat] ++ countsB [(n : Int)]) by simp [numsB, countsB, bs_append])
  generalize bs (numB (g + 1).toNat) = A1 at hc1 HJ s1
  generalize bs (numB ((n : Int)).toNat) = A2 at hc2 HJ s2
  have v1 : ∀ W, (Op.stringOp .add A1 A2).run Try.prog W = .ok (.string (A1 ++ A2)) W := fun W => run_string_add_sum W _ _ (by omega)
  have HC1 := Lib.hid hc1
  have HC2 := Lib.hid hc2
  clear hc1 hc2 s1 s2
  have HBc := Lib.hid (bel_alloc (Below.refl _ w) (.cells #[.slice a n c, .int .i64 (g + 1)] 28)).drew
  have x0 : (w.alloc (.cells #[.slice a n c, .int .i64 (g + 1)] 28)).cell? ⟨w.heap.size, 0, none⟩ = some (.slice a n c) := by simp
  have x1 : (w.alloc (.cells #[.slice a n c, .int .i64 (g + 1)] 28)).cell? ⟨w.heap.size, 1, none⟩ = some (.int .i64 (g + 1)) := by simp
  go_enter Try.func60, Try.ntmps60
  go_wp2_with fail
  generalize w.alloc (.cells #[.slice a n c, .int .i64 (g + 1)] 28) = W0 at HBc x0 x1 ⊢
  generalize hX : w.heap.size = X at x0 x1 ⊢
  have HX := Lib.hid hX
  clear hX
  go_region_held3 (fun w' => w'.cell? ⟨X, 0, none⟩ = some (.slice a n c) ∧ w'.cell? ⟨X, 1, none⟩ = some (.int .i64 (g + 1)))
    (first | (refine keep2c hbK ?_; assumption) | exact ⟨x0, x1⟩)
    (first
      | (go_at_call 79; (with_reducible refine (HC1.out _).mono ?_); rintro e wK ⟨rfl, hbK⟩; have HBc := Lib.hid (HBc.out.trans (hbK.mono HBc.out.size)))
      | (go_at_call 78; (with_reducible refine (HC2.out _).mono ?_); rintro e wK ⟨rfl, hbK⟩; have HBc := Lib.hid (HBc.out.trans (hbK.mono HBc.out.size))))
  all_goals
    have HB1 := Lib.hid HBc.out
    have x0' : wK.cell? ⟨X, 0, none⟩ = some (.slice a n c) := (show wK.cell? ⟨X, 0, none⟩ = some (.slice a n c) ∧ wK.cell? ⟨X, 1, none⟩ = some (.int .i64 (g + 1)) by assumption).1
    have hXl := block_lt_of_cell x0'
    simp only at hXl
    rw [HJ.out]
    clear v1 HC1 HC2 HBc x0 x1 HJ
    go_wp2
    go_loopw [3, 4, 21] (fun sv av iv wr => ∃ k : Nat, k ≤ n ∧ iv = .int .i64 k ∧ av = .int .i64 (lastId 0 (us.take k)) ∧ sv = .string (bs (numsB [(g + 1).toNat] ++ countsB [(n : Int)] ++ unsB 0 (us.take k))) ∧ Hid (Below w.heap.size w wr)) (fun _ _ iv _ => n - (intOf iv).toNat)
    case atStart => exact ⟨0, by omega, rfl, by simp [lastId], by simp [unsB], HB1⟩
    case round =>
      obtain ⟨k, hk, rfl, rfl, rfl, HB⟩ := hrel
      by_cases hlt : k < n
      · have hlu : k < us.length := by rw [HN.out]; exact hlt
        have HS := Lib.hid (unsB_snoc us k hlu)
        have HLI := Lib.hid (lastId_snoc us k hlu)
        have HLT := Lib.hid (lastId_lt HOK.out k hlu)
        have HUK := Lib.hid (HOK.out.2.2.1 _ (List.getElem_mem hlu))
        have HLN : Hid ((numsB [(g + 1).toNat] ++ countsB [(n : Int)] ++ unsB 0 (us.take k)).length ≤ 5000) := Lib.hid (by
          have h1 := numsB_len [(g + 1).toNat] (by intro x hx; simp at hx; omega)
          have h2 := countsB_len (ns := [(n : Int)]) (by intro x hx; simp at hx; omega)
          have h3 := unsB_len HOK.out k (by omega)
          simp only [List.length_append]
          simp at h1 h2
          omega)
        obtain ⟨gb, off, rfl, hgb, c0', c1, c2, c3, c4, c5⟩ := (HROW.out.below HB.out).at hlu
        generalize us[k] = u at c0' c1 c2 c3 c4 c5 HS HLI HLT HUK
        generalize hla : lastId 0 (us.take k) = la at HS HLT ⊢
        clear hla
        obtain ⟨u0, u1, u2, u3, u4, u5⟩ := u
        simp only at c0' c1 c2 c3 c4 c5
        have b0 := HLT.out
        have b1 := HUK.out.2.1
        simp only at b0 b1
        have hwi : IntKind.i64.wrap (u0 - la) = u0 - la := by rw [IntKind.wrap_i64]; omega
        have hwv : IntKind.u64.wrap (u0 - la) = u0 - la := by rw [IntKind.wrap_u64]; omega
        have HU2 := Lib.hid (show (((u0 - la).toNat : Nat) : Int) = u0 - la by omega)
        have hk0 : (0 : Int) ≤ (k : Int) := by omega
        have hk1 : (k : Int) < (n : Int) := by omega
        have HN4 := Lib.hid (show ∀ x ∈ [u1, u2, u3, u4, u5], B64 x by
          obtain ⟨m0, m1, m2, m3, m4⟩ := HUK.out.2.2
          simp [mayN] at m0 m1 m2 m3 m4
          intro x hx
          simp at hx
          unfold B64
          rcases hx with rfl | rfl | rfl | rfl | rfl <;> omega)
        have hc3 := fun W => refNum_any (u0 - la).toNat W (by omega)
        rw [HU2.out] at hc3
        have HC3 := Lib.hid hc3
        generalize hLE : numsB [(g + 1).toNat] ++ countsB [(n : Int)] ++ unsB 0 (us.take k) = L at HLN
        have HLE := Lib.hid hLE
        have s3 : (bs (numB (u0 - la).toNat)).size ≤ 10 := by rw [bs_size]; exact numB_ten (by omega)
        have s4 : (bs L).size ≤ 5000 := by rw [bs_size]; exact HLN.out
        have HJ2 := Lib.hid (show bs L ++ bs (numB (u0 - la).toNat) = bs (L ++ numsB [(u0 - la).toNat]) by simp [numsB, bs_append])
        have HML := Lib.hid (show (L ++ numsB [(u0 - la).toNat]).length ≤ 5010 by
          have h2 := numsB_len [(u0 - la).toNat] (by intro x hx; simp at hx; omega)
          have := HLN.out
          simp at h2; simp; omega)
        generalize hM : L ++ numsB [(u0 - la).toNat] = M at HJ2 HML
        have HM := Lib.hid hM
        generalize bs (numB (u0 - la).toNat) = A3 at HC3 HJ2 s3
        generalize bs L = S0 at HJ2 s4 ⊢
        have v2 : ∀ W, (Op.stringOp .add S0 A3).run Try.prog W = .ok (.string (S0 ++ A3)) W := fun W => run_string_add_sum W _ _ (by omega)
        clear hLE hM hc3 b0 b1 s3 s4
        have HBA := Lib.hid (bel_alloc HB.out (.cells #[.int .i64 u0, .int .i64 u1, .int .i64 u2, .int .i64 u3, .int .i64 u4, .int .i64 u5] 113))
        go_wp2_with fail
        refine (HC3.out _).mono ?_
        rintro r w2 ⟨rfl, hb2⟩
        have q0 : w2.cell? ⟨wr.heap.size, 0, none⟩ = some (.int .i64 u0) := (hb2.cell (p := ⟨wr.heap.size, 0, none⟩) (by simp)).trans (by simp)
        have q1 : w2.cell? ⟨wr.heap.size, 1, none⟩ = some (.int .i64 u1) := (hb2.cell (p := ⟨wr.heap.size, 1, none⟩) (by simp)).trans (by simp)
        have q2 : w2.cell? ⟨wr.heap.size, 2, none⟩ = some (.int .i64 u2) := (hb2.cell (p := ⟨wr.heap.size, 2, none⟩) (by simp)).trans (by simp)
        have q3 : w2.cell? ⟨wr.heap.size, 3, none⟩ = some (.int .i64 u3) := (hb2.cell (p := ⟨wr.heap.size, 3, none⟩) (by simp)).trans (by simp)
        have q4 : w2.cell? ⟨wr.heap.size, 4, none⟩ = some (.int .i64 u4) := (hb2.cell (p := ⟨wr.heap.size, 4, none⟩) (by simp)).trans (by simp)
        have q5 : w2.cell? ⟨wr.heap.size, 5, none⟩ = some (.int .i64 u5) := (hb2.cell (p := ⟨wr.heap.size, 5, none⟩) (by simp)).trans (by simp)
        have hYl := block_lt_of_cell q0
        simp only at hYl
        have HB2 := Lib.hid (HBA.out.trans (hb2.mono HBA.out.size))
        generalize wr.heap.size = Y at q0 q1 q2 q3 q4 q5 hYl ⊢
        clear hb2 HC3 HBA c0' c1 c2 c3 c4 c5
        have HI5 := Lib.hid (index5_any u1 u2 u3 u4 u5)
        have HSN := Lib.hid (fun j (hj : j < 5) => intsB_snoc5 [u1, u2, u3, u4, u5] j hj)
        have HFB := Lib.hid (fun j (hj : j < 5) => HN4.out _ (show [u1, u2, u3, u4, u5].getD j 0 ∈ [u1, u2, u3, u4, u5] by
          have e : j = 0 ∨ j = 1 ∨ j = 2 ∨ j = 3 ∨ j = 4 := by omega
          rcases e with rfl | rfl | rfl | rfl | rfl <;> simp))
        have HFL := Lib.hid (fun j (hj : j ≤ 5) => show (intsB ([u1, u2, u3, u4, u5].take j)).length ≤ 50 by
          have h1 := intsB_len2 (ns := [u1, u2, u3, u4, u5].take j) (fun x hx => HN4.out x (List.mem_of_mem_take hx))
          have h2 := List.length_take_le j [u1, u2, u3, u4, u5]
          omega)
        have HT5 := Lib.hid (show [u1, u2, u3, u4, u5].take 5 = [u1, u2, u3, u4, u5] from rfl)
        generalize hF : [u1, u2, u3, u4, u5] = F at HI5 HSN HFB HFL HT5
        have HF := Lib.hid hF
        clear hF
        go_wp2
        rw [HJ2.out]
        clear v2
        go_loopw [3, 35] (fun sv jv wr => ∃ j : Nat, j ≤ 5 ∧ jv = .int .i64 j ∧ sv = .string (bs (M ++ intsB (F.take j))) ∧ Hid (Below w.heap.size w wr) ∧ wr.cell? ⟨Y, 0, none⟩ = some (.int .i64 u0)) (fun _ jv _ => 5 - (intOf jv).toNat)
        case atStart => exact ⟨0, by omega, rfl, by simp [intsB, numsB], HB2, q0⟩
        case round =>
          obtain ⟨j, hj, rfl, rfl, HB3, q0'⟩ := hrel
          have hYl3 := block_lt_of_cell q0'
          simp only at hYl3
          by_cases hlt5 : j < 5
          · have hix := HI5.out j hlt5
            have HSJ := Lib.hid (HSN.out j hlt5)
            have fb := HFB.out j hlt5
            have fl := HFL.out j hj
            have ml := HML.out
            generalize F.getD j 0 = f at hix HSJ fb
            have hc4 := fun W => refInt_any f W fb.1 fb.2
            have s5 : (bs (numB (zig f))).size ≤ 10 := by rw [bs_size]; exact numB_ten (zig_lt fb.1 fb.2)
            have s6 : (bs (M ++ intsB (F.take j))).size ≤ 5060 := by rw [bs_size, List.length_append]; omega
            have HJ3 := Lib.hid (show bs (M ++ intsB (F.take j)) ++ bs (numB (zig f)) = bs (M ++ intsB (F.take (j + 1))) by rw [HSJ.out, ← List.append_assoc, bs_append])
            generalize bs (numB (zig f)) = A5 at hc4 s5 HJ3
            generalize bs (M ++ intsB (F.take j)) = S5 at s6 HJ3 ⊢
            have v3 : ∀ W, (Op.stringOp .add S5 A5).run Try.prog W = .ok (.string (S5 ++ A5)) W := fun W => run_string_add_sum W _ _ (by omega)
            have HC4 := Lib.hid hc4
            clear hc4 s5 s6 fb fl ml
            have hj0 : (0 : Int) ≤ (j : Int) := by omega
            have hj1 : (j : Int) < (5 : Int) := by omega
            go_wp2_with fail
            refine (HC4.out _).mono ?_
            rintro r w6 ⟨rfl, hb6⟩
            have q6 : w6.cell? ⟨Y, 0, none⟩ = some (.int .i64 u0) := (hb6.cell (p := ⟨Y, 0, none⟩) hYl3).trans q0'
            have HB6 := Lib.hid (HB3.out.trans (hb6.mono HB3.out.size))
            clear hb6 HC4
            go_wp2
            go_roundw
            case rel => exact ⟨j + 1, by omega, by go_num, by rw [HJ3.out], HB6, q6⟩
            case measure => simp [intOf]; omega
          · obtain rfl : j = 5 := by omega
            have HEN := Lib.hid (show M ++ intsB (F.take 5) = numsB [(g + 1).toNat] ++ countsB [(n : Int)] ++ unsB 0 (us.take (k + 1)) by
              rw [HT5.out, HS.out, ← List.append_assoc, HLE.out, ← HM.out, ← HF.out, List.append_assoc]; rfl)
            rw [HEN.out]
            go_wp2
            go_roundw
            case rel => exact ⟨k + 1, by omega, by go_num, by rw [HLI.out], rfl, HB3⟩
            case measure => simp [intOf]; omega
      · obtain rfl : k = n := by omega
        have HE := Lib.hid (show numsB [(g + 1).toNat] ++ countsB [(k : Int)] ++ unsB 0 (us.take k) = tabB us g by unfold tabB; rw [HN.out, ← HN.out, List.take_length])
        rw [HE.out]
        go_wp2
        go_ret
        exact ⟨rfl, HB.out⟩
end Go.Proofs.Ytdkokfpbmmjfkaa
namespace Go.Proofs.Ytdkokfpbmmjfkaa
open Go.RowKit
set_option linter.unusedVariables false

theorem find_at {us : List Un} (h : Rising us) (k : Nat) (hk : k < us.length) : FindIs us us[k].id k := by
  refine ⟨by omega, fun j hj => ⟨fun hlt => ?_, fun hlt => h j k hj hk hlt⟩⟩
  rcases Nat.lt_trichotomy j k with e | e | e
  · exact e
  · subst e; omega
  · have := h k j hk hj e; omega
set_option maxRecDepth 100000 in
set_option maxHeartbeats 4000000 in
theorem is_any (K0 : Nat → Prop) (b : Nat) (us : List Un) (g : Int) (a : Option Addr) (c : Nat) (w : World) (h : DoMem K0 b us g a c w) :
    Calls Try.prog 15 #[.pointer (some ⟨b, 0, none⟩), .agg #[.slice a us.length c, .int .i64 (g + 1)]] w fun r w' => r = .returned (.int .i64 0) ∧ Below w.heap.size w w' := by
  have hok := h.tab.ok
  have HOK := Lib.hid hok
  have h64 := hok.1
  have hg0 := hok.2.2.2.1
  have hg1 := hok.2.2.2.2
  have HLE := Lib.hid (fun W (hh : DoMem K0 b us g a c W) => tabLen_any b us g W hh.tab)
  have HNX := Lib.hid (fun W (hh : DoMem K0 b us g a c W) => tabNext_any b us g W hh.tab)
  have HTX := Lib.hid (fun W (hh : DoMem K0 b us g a c W) => tabText_any b us g W hh.tab)
  have HRX := Lib.hid (fun W (hh : DoMem K0 b us g a c W) => refTabText_any a c us g W hok hh.rt)
  have HNT := Lib.hid (fun k W (hh : DoMem K0 b us g a c W) => tabNth_any b us g k W hh.tab)
  have HAL := Lib.hid (fun W (hh : DoMem K0 b us g a c W) => tabAll_any b us g W hh.tab)
  have HM0 := Lib.hid h
  have n1 : nthN us (-1) = 0 := by simp [nthN]
  have n2 : nthN us (us.length : Int) = 0 := by simp [nthN]
  have HN1 := Lib.hid (HNT.out (-1))
  have HN2 := Lib.hid (HNT.out (us.length : Int))
  rw [n1] at HN1
  rw [n2] at HN2
  clear h hok n1 n2
  generalize bs (tabB us g) = T at HTX HRX
  generalize hul : us.length = n at HLE HRX HAL HN2 h64 ⊢
  have HN := Lib.hid hul
  clear hul
  have HM1 := Lib.hid (HM0.out.keep (bel_alloc (Below.refl _ w) (.cells #[.slice a n c, .int .i64 (g + 1)] 28)))
  have HB1 := Lib.hid (bel_alloc (Below.refl _ w) (.cells #[.slice a n c, .int .i64 (g + 1)] 28))
  have x0 : (w.alloc (.cells #[.slice a n c, .int .i64 (g + 1)] 28)).cell? ⟨w.heap.size, 0, none⟩ = some (.slice a n c) := by simp
  have x1 : (w.alloc (.cells #[.slice a n c, .int .i64 (g + 1)] 28)).cell? ⟨w.heap.size, 1, none⟩ = some (.int .i64 (g + 1)) := by simp
  go_enter Try.func15, Try.ntmps15
  go_wp2_with fail
  refine (HAL.out _ HM1.out).mono ?_
  rintro r w1 ⟨a', c', rfl, hr1, hb1⟩
  have HR1 := Lib.hid hr1
  obtain ⟨y0, y1⟩ := keep2c hb1 ⟨x0, x1⟩
  have HMc := Lib.hid ((HM1.out.keep hb1).keep (w' := w1.drew) (Below.refl _ w1).drew)
  have HBc := Lib.hid (HB1.out.trans (hb1.mono HB1.out.size)).drew
  have HRc := Lib.hid (show UnRow w1.drew a' us from hr1)
  have hXl := block_lt_of_cell y0
  simp only at hXl
  clear hr1 hb1 x0 x1 HM1 HB1 HAL HR1
  generalize w.heap.size = X at y0 y1 hXl ⊢
  go_upto_region 2 with (fail)
  go_region_held3 (fun w' => w'.cell? ⟨X, 0, none⟩ = some (.slice a n c) ∧ w'.cell? ⟨X, 1, none⟩ = some (.int .i64 (g + 1)))
    (first | (refine keep2c hbK ?_; assumption) | assumption | exact ⟨y0, y1⟩)
    (first
      | (go_at_call 52; refine (HLE.out _ HMc.out).mono ?_; rintro e wK ⟨rfl, rfl⟩)
      | (go_at_call 53; refine (HNX.out _ HMc.out).mono ?_; rintro e wK ⟨rfl, rfl⟩)
      | (go_at_call 61; (first | with_reducible refine (HN1.out _ HMc.out).mono ?_ | with_reducible refine (HN2.out _ HMc.out).mono ?_ | refine (HN2.out _ HMc.out).mono ?_); rintro e wK ⟨rfl, rfl⟩)
      | (go_at_call 23; refine (HTX.out _ HMc.out).mono ?_; rintro e wK ⟨rfl, hbK⟩; have HRc := Lib.hid (UnRow.below HRc.out hbK); have HMc := Lib.hid (HMc.out.keep hbK); have HBc := Lib.hid (HBc.out.trans (hbK.mono HBc.out.size)))
      | (go_at_call 60; refine (HRX.out _ HMc.out).mono ?_; rintro e wK ⟨rfl, hbK⟩; have HRc := Lib.hid (UnRow.below HRc.out hbK); have HMc := Lib.hid (HMc.out.keep hbK); have HBc := Lib.hid (HBc.out.trans (hbK.mono HBc.out.size))))
  all_goals
    have z0 : wK.cell? ⟨X, 0, none⟩ = some (.slice a n c) := (show wK.cell? ⟨X, 0, none⟩ = some (.slice a n c) ∧ wK.cell? ⟨X, 1, none⟩ = some (.int .i64 (g + 1)) by assumption).1
    have hzl := block_lt_of_cell z0
    simp only at hzl
    have HMz := Lib.hid HMc.out
    have HBz := Lib.hid HBc.out
    have HRz := Lib.hid HRc.out
    clear HLE HNX HTX HRX HN1 HN2 y0 y1 hXl HM0
    go_wp2
    go_loopw [55] (fun iv wr => ∃ k : Nat, k ≤ n ∧ iv = .int .i64 k ∧ Hid (DoMem K0 b us g a c wr) ∧ Hid (Below w.heap.size w wr) ∧ Hid (UnRow wr a' us)) (fun iv _ => n - (intOf iv).toNat)
    case atStart => exact ⟨0, by omega, rfl, HMz, HBz, HRz⟩
    case round =>
      obtain ⟨k, hk, rfl, HM, HB, HR⟩ := hrel
      by_cases hlt : k < n
      · have hlu : k < us.length := by rw [HN.out]; exact hlt
        obtain ⟨gb, off, rfl, hgb, c0, c1, c2, c3, c4, c5⟩ := HM.out.rt.row.at hlu
        obtain ⟨gb', off', rfl, hgb', d0, d1, d2, d3, d4, d5⟩ := HR.out.at hlu
        have hun := fun W (hh : DoMem K0 b us g (some ⟨gb, off, none⟩) c W) => tabUnit_some b us g us[k].id k W hh.tab (find_at HOK.out.2.1 k hlu) hlu rfl
        have hnt := fun W (hh : DoMem K0 b us g (some ⟨gb, off, none⟩) c W) => HNT.out (k : Int) W hh
        rw [show nthN us (k : Int) = us[k].id by simp [nthN, hlu]; omega] at hnt
        have hne := run_neq us[k] us[k]
        rw [show unQ us[k] us[k] = true from (unQ_iff _ _).2 rfl] at hne
        generalize us[k] = u at c0 c1 c2 c3 c4 c5 d0 d1 d2 d3 d4 d5 hun hnt hne
        obtain ⟨u0, u1, u2, u3, u4, u5⟩ := u
        unfold unV at hun hne
        simp only [Bool.not_true] at c0 c1 c2 c3 c4 c5 d0 d1 d2 d3 d4 d5 hun hnt hne
        have HUN := Lib.hid hun
        have HNH := Lib.hid hnt
        have hk0 : (0 : Int) ≤ (k : Int) := by omega
        have hk1 : (k : Int) < (n : Int) := by omega
        have HM1 := Lib.hid (HM.out.keep (bel_alloc (Below.refl _ wr) (.cells #[.int .i64 u0, .int .i64 u1, .int .i64 u2, .int .i64 u3, .int .i64 u4, .int .i64 u5] 113)))
        have HB1 := Lib.hid (bel_alloc HB.out (.cells #[.int .i64 u0, .int .i64 u1, .int .i64 u2, .int .i64 u3, .int .i64 u4, .int .i64 u5] 113))
        have HR1 := Lib.hid (HR.out.below (bel_alloc (Below.refl _ wr) (.cells #[.int .i64 u0, .int .i64 u1, .int .i64 u2, .int .i64 u3, .int .i64 u4, .int .i64 u5] 113)))
        clear hun hnt HM HB HR HNT
        go_wp2_with fail
        refine (HUN.out _ HM1.out).mono ?_
        rintro r w2 ⟨rfl, hb2⟩
        have p0 : w2.cell? ⟨wr.heap.size, 0, none⟩ = some (.int .i64 u0) := (hb2.cell (p := ⟨wr.heap.size, 0, none⟩) (by simp)).trans (by simp)
        have p1 : w2.cell? ⟨wr.heap.size, 1, none⟩ = some (.int .i64 u1) := (hb2.cell (p := ⟨wr.heap.size, 1, none⟩) (by simp)).trans (by simp)
        have p2 : w2.cell? ⟨wr.heap.size, 2, none⟩ = some (.int .i64 u2) := (hb2.cell (p := ⟨wr.heap.size, 2, none⟩) (by simp)).trans (by simp)
        have p3 : w2.cell? ⟨wr.heap.size, 3, none⟩ = some (.int .i64 u3) := (hb2.cell (p := ⟨wr.heap.size, 3, none⟩) (by simp)).trans (by simp)
        have p4 : w2.cell? ⟨wr.heap.size, 4, none⟩ = some (.int .i64 u4) := (hb2.cell (p := ⟨wr.heap.size, 4, none⟩) (by simp)).trans (by simp)
        have p5 : w2.cell? ⟨wr.heap.size, 5, none⟩ = some (.int .i64 u5) := (hb2.cell (p := ⟨wr.heap.size, 5, none⟩) (by simp)).trans (by simp)
        have e0 := hb2.cell (p := ⟨gb', off' + k * 6, none⟩) (by simp; omega) |>.trans (alloc_cell d0 (.cells #[.int .i64 u0, .int .i64 u1, .int .i64 u2, .int .i64 u3, .int .i64 u4, .int .i64 u5] 113))
        have e1 := hb2.cell (p := ⟨gb', off' + k * 6 + 1, none⟩) (by simp; omega) |>.trans (alloc_cell d1 (.cells #[.int .i64 u0, .int .i64 u1, .int .i64 u2, .int .i64 u3, .int .i64 u4, .int .i64 u5] 113))
        have e2 := hb2.cell (p := ⟨gb', off' + k * 6 + 2, none⟩) (by simp; omega) |>.trans (alloc_cell d2 (.cells #[.int .i64 u0, .int .i64 u1, .int .i64 u2, .int .i64 u3, .int .i64 u4, .int .i64 u5] 113))
        have e3 := hb2.cell (p := ⟨gb', off' + k * 6 + 3, none⟩) (by simp; omega) |>.trans (alloc_cell d3 (.cells #[.int .i64 u0, .int .i64 u1, .int .i64 u2, .int .i64 u3, .int .i64 u4, .int .i64 u5] 113))
        have e4 := hb2.cell (p := ⟨gb', off' + k * 6 + 4, none⟩) (by simp; omega) |>.trans (alloc_cell d4 (.cells #[.int .i64 u0, .int .i64 u1, .int .i64 u2, .int .i64 u3, .int .i64 u4, .int .i64 u5] 113))
        have e5 := hb2.cell (p := ⟨gb', off' + k * 6 + 5, none⟩) (by simp; omega) |>.trans (alloc_cell d5 (.cells #[.int .i64 u0, .int .i64 u1, .int .i64 u2, .int .i64 u3, .int .i64 u4, .int .i64 u5] 113))
        have HM2 := Lib.hid ((HM1.out.keep hb2).keep (bel_alloc (Below.refl _ w2) (.cells #[.int .i64 u0, .int .i64 u1, .int .i64 u2, .int .i64 u3, .int .i64 u4, .int .i64 u5] 35)))
        have HB2 := Lib.hid (bel_alloc (HB1.out.trans (hb2.mono HB1.out.size)) (.cells #[.int .i64 u0, .int .i64 u1, .int .i64 u2, .int .i64 u3, .int .i64 u4, .int .i64 u5] 35))
        have HR2 := Lib.hid ((HR1.out.below hb2).below (bel_alloc (Below.refl _ w2) (.cells #[.int .i64 u0, .int .i64 u1, .int .i64 u2, .int .i64 u3, .int .i64 u4, .int .i64 u5] 35)))
        have hYl := block_lt_of_cell p0
        have hgl := block_lt_of_cell e0
        simp only at hYl hgl
        generalize wr.heap.size = Y at p0 p1 p2 p3 p4 p5 hYl ⊢
        clear hb2 HUN HM1 HB1 HR1 c0 c1 c2 c3 c4 c5 d0 d1 d2 d3 d4 d5
        go_upto_region 8 with (fail)
        have HM3 := Lib.hid (HM2.out.keep (w' := (w2.alloc (.cells #[.int .i64 u0, .int .i64 u1, .int .i64 u2, .int .i64 u3, .int .i64 u4, .int .i64 u5] 35)).drew) (Below.refl _ (w2.alloc (.cells #[.int .i64 u0, .int .i64 u1, .int .i64 u2, .int .i64 u3, .int .i64 u4, .int .i64 u5] 35))).drew)
        have HB3 := Lib.hid HB2.out.drew
        have HR3 := Lib.hid (show UnRow (w2.alloc (.cells #[.int .i64 u0, .int .i64 u1, .int .i64 u2, .int .i64 u3, .int .i64 u4, .int .i64 u5] 35)).drew (some ⟨gb', off', none⟩) us from HR2.out)
        have S1 : (w2.alloc (.cells #[.int .i64 u0, .int .i64 u1, .int .i64 u2, .int .i64 u3, .int .i64 u4, .int .i64 u5] 35)).cell? ⟨Y, 0, none⟩ = some (.int .i64 u0) ∧ (w2.alloc (.cells #[.int .i64 u0, .int .i64 u1, .int .i64 u2, .int .i64 u3, .int .i64 u4, .int .i64 u5] 35)).cell? ⟨Y, 1, none⟩ = some (.int .i64 u1) ∧ (w2.alloc (.cells #[.int .i64 u0, .int .i64 u1, .int .i64 u2, .int .i64 u3, .int .i64 u4, .int .i64 u5] 35)).cell? ⟨Y, 2, none⟩ = some (.int .i64 u2) ∧ (w2.alloc (.cells #[.int .i64 u0, .int .i64 u1, .int .i64 u2, .int .i64 u3, .int .i64 u4, .int .i64 u5] 35)).cell? ⟨Y, 3, none⟩ = some (.int .i64 u3) ∧ (w2.alloc (.cells #[.int .i64 u0, .int .i64 u1, .int .i64 u2, .int .i64 u3, .int .i64 u4, .int .i64 u5] 35)).cell? ⟨Y, 4, none⟩ = some (.int .i64 u4) ∧ (w2.alloc (.cells #[.int .i64 u0, .int .i64 u1, .int .i64 u2, .int .i64 u3, .int .i64 u4, .int .i64 u5] 35)).cell? ⟨Y, 5, none⟩ = some (.int .i64 u5) := ⟨alloc_cell p0 _, alloc_cell p1 _, alloc_cell p2 _, alloc_cell p3 _, alloc_cell p4 _, alloc_cell p5 _⟩
        have S2 : (w2.alloc (.cells #[.int .i64 u0, .int .i64 u1, .int .i64 u2, .int .i64 u3, .int .i64 u4, .int .i64 u5] 35)).cell? ⟨gb', off' + k * 6, none⟩ = some (.int .i64 u0) ∧ (w2.alloc (.cells #[.int .i64 u0, .int .i64 u1, .int .i64 u2, .int .i64 u3, .int .i64 u4, .int .i64 u5] 35)).cell? ⟨gb', off' + k * 6 + 1, none⟩ = some (.int .i64 u1) ∧ (w2.alloc (.cells #[.int .i64 u0, .int .i64 u1, .int .i64 u2, .int .i64 u3, .int .i64 u4, .int .i64 u5] 35)).cell? ⟨gb', off' + k * 6 + 2, none⟩ = some (.int .i64 u2) ∧ (w2.alloc (.cells #[.int .i64 u0, .int .i64 u1, .int .i64 u2, .int .i64 u3, .int .i64 u4, .int .i64 u5] 35)).cell? ⟨gb', off' + k * 6 + 3, none⟩ = some (.int .i64 u3) ∧ (w2.alloc (.cells #[.int .i64 u0, .int .i64 u1, .int .i64 u2, .int .i64 u3, .int .i64 u4, .int .i64 u5] 35)).cell? ⟨gb', off' + k * 6 + 4, none⟩ = some (.int .i64 u4) ∧ (w2.alloc (.cells #[.int .i64 u0, .int .i64 u1, .int .i64 u2, .int .i64 u3, .int .i64 u4, .int .i64 u5] 35)).cell? ⟨gb', off' + k * 6 + 5, none⟩ = some (.int .i64 u5) := ⟨alloc_cell e0 _, alloc_cell e1 _, alloc_cell e2 _, alloc_cell e3 _, alloc_cell e4 _, alloc_cell e5 _⟩
        have S3 : (w2.alloc (.cells #[.int .i64 u0, .int .i64 u1, .int .i64 u2, .int .i64 u3, .int .i64 u4, .int .i64 u5] 35)).cell? ⟨w2.heap.size, 0, none⟩ = some (.int .i64 u0) ∧ (w2.alloc (.cells #[.int .i64 u0, .int .i64 u1, .int .i64 u2, .int .i64 u3, .int .i64 u4, .int .i64 u5] 35)).cell? ⟨w2.heap.size, 1, none⟩ = some (.int .i64 u1) ∧ (w2.alloc (.cells #[.int .i64 u0, .int .i64 u1, .int .i64 u2, .int .i64 u3, .int .i64 u4, .int .i64 u5] 35)).cell? ⟨w2.heap.size, 2, none⟩ = some (.int .i64 u2) ∧ (w2.alloc (.cells #[.int .i64 u0, .int .i64 u1, .int .i64 u2, .int .i64 u3, .int .i64 u4, .int .i64 u5] 35)).cell? ⟨w2.heap.size, 3, none⟩ = some (.int .i64 u3) ∧ (w2.alloc (.cells #[.int .i64 u0, .int .i64 u1, .int .i64 u2, .int .i64 u3, .int .i64 u4, .int .i64 u5] 35)).cell? ⟨w2.heap.size, 4, none⟩ = some (.int .i64 u4) ∧ (w2.alloc (.cells #[.int .i64 u0, .int .i64 u1, .int .i64 u2, .int .i64 u3, .int .i64 u4, .int .i64 u5] 35)).cell? ⟨w2.heap.size, 5, none⟩ = some (.int .i64 u5) := ⟨by simp, by simp, by simp, by simp, by simp, by simp⟩
        clear p0 p1 p2 p3 p4 p5 e0 e1 e2 e3 e4 e5 HM2 HB2 HR2
        generalize w2.alloc (.cells #[.int .i64 u0, .int .i64 u1, .int .i64 u2, .int .i64 u3, .int .i64 u4, .int .i64 u5] 35) = W3 at S1 S2 S3 HM3 HB3 HR3 ⊢
        generalize w2.heap.size = Z at S3 ⊢
        go_region_held3 (fun w' => (w'.cell? ⟨Y, 0, none⟩ = some (.int .i64 u0) ∧ w'.cell? ⟨Y, 1, none⟩ = some (.int .i64 u1) ∧ w'.cell? ⟨Y, 2, none⟩ = some (.int .i64 u2) ∧ w'.cell? ⟨Y, 3, none⟩ = some (.int .i64 u3) ∧ w'.cell? ⟨Y, 4, none⟩ = some (.int .i64 u4) ∧ w'.cell? ⟨Y, 5, none⟩ = some (.int .i64 u5)) ∧ (w'.cell? ⟨gb', off' + k * 6, none⟩ = some (.int .i64 u0) ∧ w'.cell? ⟨gb', off' + k * 6 + 1, none⟩ = some (.int .i64 u1) ∧ w'.cell? ⟨gb', off' + k * 6 + 2, none⟩ = some (.int .i64 u2) ∧ w'.cell? ⟨gb', off' + k * 6 + 3, none⟩ = some (.int .i64 u3) ∧ w'.cell? ⟨gb', off' + k * 6 + 4, none⟩ = some (.int .i64 u4) ∧ w'.cell? ⟨gb', off' + k * 6 + 5, none⟩ = some (.int .i64 u5)) ∧ (w'.cell? ⟨Z, 0, none⟩ = some (.int .i64 u0) ∧ w'.cell? ⟨Z, 1, none⟩ = some (.int .i64 u1) ∧ w'.cell? ⟨Z, 2, none⟩ = some (.int .i64 u2) ∧ w'.cell? ⟨Z, 3, none⟩ = some (.int .i64 u3) ∧ w'.cell? ⟨Z, 4, none⟩ = some (.int .i64 u4) ∧ w'.cell? ⟨Z, 5, none⟩ = some (.int .i64 u5)))
          (first | assumption | exact ⟨S1, S2, S3⟩)
          (first | (go_at_call 61; refine (HNH.out _ HM3.out).mono ?_; rintro e wK ⟨rfl, rfl⟩))
        all_goals
          go_wp2
          go_roundw
          case rel => exact ⟨k + 1, by omega, by go_num, HM3, HB3, HR3⟩
          case measure => simp [intOf]; omega
      · obtain rfl : k = n := by omega
        go_wp2
        go_ret
        exact ⟨rfl, HB.out⟩
end Go.Proofs.Ytdkokfpbmmjfkaa
namespace Go.Proofs.Ytdkokfpbmmjfkaa
open Go.RowKit
set_option linter.unusedVariables false

theorem info9 : (Try.prog.info? 9).map (fun i => (i.zero, i.size, i.bytes)) = some (some (.string .empty), 1, 16) := by kernel_rfl
/-- WHAT THE ROW's READING SAYS OF A LIST OF TEXTS THAT CAME IN. -/
def IsStrs (w : World) (a : Option Addr) (len cap : Nat) (zs : List ByteArray) : Prop :=
  (a = none ∧ len = 0 ∧ cap = 0 ∧ zs = []) ∨ ∃ x, a = some x ∧ len ≤ cap ∧ cap ≤ maxLen ∧ zs.length = cap ∧ (∀ i, i < zs.length → w.cell? (x.add i) = some (.string (zs.getD i ByteArray.empty))) ∧ (∀ s ∈ zs, s.size ≤ maxLen)
theorem IsStrs.row {w : World} {a : Option Addr} {len cap : Nat} {zs : List ByteArray} (h : IsStrs w a len cap zs) : ∃ ss : List ByteArray, ss.length = len ∧ StrRow w a ss := by
  rcases h with ⟨rfl, rfl, rfl, rfl⟩ | ⟨x, rfl, hl, hm, hz, hcell, hw⟩
  · exact ⟨[], rfl, by simp [maxLen], fun i h => by simp at h, fun h => by simp at h⟩
  · have hlen : (zs.take len).length = len := by simp; omega
    refine ⟨zs.take len, hlen, by omega, fun i hi => ?_, fun h0 => ?_⟩
    · exact hw _ (List.mem_of_mem_take (List.getElem_mem hi))
    · obtain ⟨b, off, spot⟩ := x
      have h0' := hcell 0 (by omega)
      have hspot : spot = none := by simpa [Addr.add] using World.cell?_spot h0'
      subst hspot
      refine ⟨b, off, rfl, fun i hi => ?_⟩
      have hi' : i < zs.length := by omega
      have := hcell i hi'
      rw [List.getD_eq_getElem?_getD, List.getElem?_eq_getElem hi'] at this
      rw [List.getElem_take]
      cases i <;> simpa [Addr.add] using this

def fewL (ss : List ByteArray) (n m : Nat) : List ByteArray := (ss.take n).map (cutB · m)
theorem fewL_succ (ss : List ByteArray) (k m : Nat) (h : k < ss.length) : fewL ss (k + 1) m = fewL ss k m ++ [cutB ss[k] m] := by
  unfold fewL; rw [List.take_succ_eq_append_getElem h, List.map_append]; rfl
theorem fewL_length (ss : List ByteArray) (k m : Nat) (h : k ≤ ss.length) : (fewL ss k m).length = k := by
  unfold fewL; simp; omega
theorem bls_append (l m : List ByteArray) : bls (l ++ m) = bls l ++ bls m := by unfold bls; simp
/-- WHAT 'Few' LEAVES: a list of its own of the texts, and all of them. -/
def FewPost (w : World) (few : List ByteArray) (e : Ending) (w' : World) : Prop :=
  ∃ (a : Option Addr) (cap : Nat) (A : ByteArray), e = .returned (.tuple #[.slice a few.length cap, .string A]) ∧ A.data.toList = (bls few).flatten ∧ A.size ≤ maxLen ∧ StrRow w' a few ∧ Below w.heap.size w w'

theorem owns_row {w : World} {base : Nat} {v : Value} {few : List ByteArray} (h : w.ownsRow base 9 1 v few.length (few.map Value.string)) (hs : ∀ (i : Nat) (h : i < few.length), few[i].size ≤ maxLen) (hl : few.length ≤ maxLen) :
    ∃ a cap, v = .slice a few.length cap ∧ StrRow w a few := by
  rcases h.2 with ⟨hv, h0⟩ | ⟨g, cap, cur, hv, hg, hb, hn, hm, hsz, ht⟩
  · exact ⟨none, 0, by rw [hv, h0], hl, hs, fun h => by omega⟩
  · refine ⟨some ⟨g, 0, none⟩, cap, hv, hl, hs, fun _ => ⟨g, 0, rfl, fun i hi => ?_⟩⟩
    have hc := h.cells (g := g) (by rw [hv]; rfl) i (.string few[i]) (by simp [hi])
    cases i <;> simpa [Addr.add] using hc
theorem fewL_sizes (ss : List ByteArray) (n m : Nat) (hm : m ≤ 1000) : ∀ (i : Nat) (h : i < (fewL ss n m).length), (fewL ss n m)[i].size ≤ maxLen := by
  intro i h
  unfold fewL at h ⊢
  rw [List.getElem_map]
  exact cutB_le' _ _ (by omega)
theorem fewL_end (ss : List ByteArray) (k n m : Nat) (hk : k ≤ ss.length) (hn : k ≤ n) (h : ¬ (k < ss.length ∧ k < n)) : fewL ss n m = fewL ss k m := by
  by_cases h1 : k = n
  · rw [h1]
  · have : k = ss.length := by omega
    unfold fewL
    rw [List.take_of_length_le (by omega), List.take_of_length_le (by omega)]

theorem few_post {w wr : World} {ss : List ByteArray} {k n m : Nat} {v : Value} {A : ByteArray} (hm : m ≤ 1000) (hk : k ≤ 1000) (HE : fewL ss n m = fewL ss k m) (HL : (fewL ss k m).length = k)
    (HA : A.data.toList = (bls (fewL ss k m)).flatten) (hA : A.size ≤ 1000 * k) (HO : wr.ownsRow w.heap.size 9 1 v k ((fewL ss k m).map Value.string)) (hb : Below w.heap.size w wr) :
    FewPost w (fewL ss n m) (.returned (.tuple #[v, .string A])) wr := by
  rw [HE]
  obtain ⟨a, cap, hv, hr⟩ := owns_row (few := fewL ss k m) (by rw [HL]; exact HO) (fewL_sizes ss k m hm) (by rw [HL]; unfold maxLen; omega)
  exact ⟨a, cap, A, by rw [hv], HA, by unfold maxLen; omega, hr, hb⟩

end Go.Proofs.Ytdkokfpbmmjfkaa
namespace Go.Proofs.Ytdkokfpbmmjfkaa
open Go.RowKit
set_option linter.unusedVariables false

theorem both_mem {w3 w4 : World} {B : Nat} {us : List Un} {g : Int} {K : Nat → Prop} {a : Option Addr} {c : Nat} (hq : TabQ K B us g w3) (hb : Below w3.heap.size w3 w4) (hr : RT w4 a c us) (ha : ∀ x, a = some x → w3.heap.size ≤ x.block) (hl : ∀ x, a = some x → x.block < w4.heap.size) : DoMem K B us g a c w4 := by
  refine ⟨(hq.grow (N := fun k => a.map (·.block) = some k) hb (fun k hk => ?_)).sub (fun k hk => hk), hr⟩
  cases a with
  | none => simp at hk
  | some x => simp at hk; subst hk; exact ⟨ha x rfl, hl x rfl⟩
theorem keep4c {W w' : World} (hb : Below W.heap.size W w') {p q r t : Addr} {x y z u : Value} (h : (W.cell? p = some x ∧ W.cell? q = some y) ∧ (W.cell? r = some z ∧ W.cell? t = some u)) : (w'.cell? p = some x ∧ w'.cell? q = some y) ∧ (w'.cell? r = some z ∧ w'.cell? t = some u) :=
  ⟨⟨(hb.cell (block_lt_of_cell h.1.1)).trans h.1.1, (hb.cell (block_lt_of_cell h.1.2)).trans h.1.2⟩, (hb.cell (block_lt_of_cell h.2.1)).trans h.2.1, (hb.cell (block_lt_of_cell h.2.2)).trans h.2.2⟩
set_option maxRecDepth 100000 in
set_option maxHeartbeats 1000000 in
theorem unitReads_walk (w : World) (a0 : ByteArray) (w0 : a0.size ≤ maxLen) :
    Calls Try.prog 4 #[.string a0] w fun e w' => e = .returned (.bool true) ∧ Below w.heap.size w w' := by
  have HAW := Lib.hid (fun W => awake8_any W)
  go_enter Try.func4, Try.ntmps4
  go_wp2_with fail
  refine (cut_any a0 400 _ w0 (by decide)).mono ?_
  rintro e w' ⟨rfl, rfl⟩
  have hs := cutB_le a0 400
  generalize cutB a0 400 = s at hs ⊢
  go_wp2_with fail
  refine (open_any s _ (by omega)).mono ?_
  rintro r w2 ⟨rfl, hi2, hb2⟩
  have HRD := Lib.hid (tabRead_any w.heap.size _ w2 hi2)
  have HRR := Lib.hid (fun W => refTabRead_any (s.data.toList, 0) W ⟨fun h => absurd rfl h, by simpa using (show s.size ≤ 1000000000 by omega)⟩)
  have hlt2 := hi2.lt
  have HB2 := Lib.hid hb2
  have hb2s : w.heap.size ≤ w2.heap.size := hb2.size
  have HSP := Lib.hid (tabC.spell s.data.toList)
  clear hi2 hb2
  generalize tabS (s.data.toList, 0) = res at HRD HRR HSP
  obtain ⟨⟨l, e⟩, us, g⟩ := res
  simp only at HRR HSP
  rw [show bs s.data.toList = s from by simp [bs]] at HRR
  go_wp2_with fail
  refine HRD.out.mono ?_
  rintro r w3 ⟨hi3, hcase⟩
  simp only at hi3 hcase
  have HI3 := Lib.hid hi3
  have HBW3 := Lib.hid (HB2.out.trans (hi3.2.below hb2s (fun k hk e => by omega)))
  rcases hcase with ⟨he, B, rfl, hq⟩ | ⟨he, rfl⟩
  · subst he
    obtain rfl : s = bs (tabB us g) ++ bs l := by
      have h := HSP.out rfl
      rw [bs_append, ← h]; simp [bs]
    have HSZ := Lib.hid (show (bs (tabB us g)).size + (bs l).size = (bs (tabB us g) ++ bs l).size by simp)
    clear HSP
    have HQ3 := Lib.hid hq
    clear hq hi3 HRD
    go_wp2_with fail
    refine (HRR.out _).mono ?_
    rintro r w4 ⟨a, len, c, rfl, hb4, hx⟩
    obtain ⟨rfl, hrt, ha⟩ := hx rfl
    simp only at hrt ha
    have HM4 := Lib.hid (both_mem HQ3.out hb4 hrt (fun x hx => (ha x hx).1) (fun x hx => (ha x hx).2))
    have HI4 := Lib.hid (HI3.out.1.below hb4)
    have HB4 := Lib.hid (HBW3.out.trans (hb4.mono HBW3.out.size))
    simp only
    clear hb4 hrt ha hx HRR HQ3 HI3 HBW3
    generalize hul : us.length = un
    have HUL := Lib.hid hul
    clear hul
    go_wp2_with fail
    have HM5 := Lib.hid ((HM4.out.keep (bel_alloc (Below.refl _ _) (.cells #[.string (bs l), .int .i64 0] 46))).keep (bel_alloc (Below.refl _ _) (.cells #[.slice a un c, .int .i64 (g + 1)] 28)))
    have HI5 := Lib.hid ((HI4.out.alloc (.cells #[.string (bs l), .int .i64 0] 46)).alloc (.cells #[.slice a un c, .int .i64 (g + 1)] 28))
    have HB5 := Lib.hid (bel_alloc (bel_alloc HB4.out (.cells #[.string (bs l), .int .i64 0] 46)) (.cells #[.slice a un c, .int .i64 (g + 1)] 28))
    have hz4 : (w4.alloc (.cells #[.string (bs l), .int .i64 0] 46)).heap.size = w4.heap.size + 1 := by simp
    have x0 : ((w4.alloc (.cells #[.string (bs l), .int .i64 0] 46)).alloc (.cells #[.slice a un c, .int .i64 (g + 1)] 28)).cell? ⟨w4.heap.size, 0, none⟩ = some (.string (bs l)) := alloc_cell (new_cell rfl rfl) _
    have x1 : ((w4.alloc (.cells #[.string (bs l), .int .i64 0] 46)).alloc (.cells #[.slice a un c, .int .i64 (g + 1)] 28)).cell? ⟨w4.heap.size, 1, none⟩ = some (.int .i64 0) := alloc_cell (new_cell rfl rfl) _
    have y0 : ((w4.alloc (.cells #[.string (bs l), .int .i64 0] 46)).alloc (.cells #[.slice a un c, .int .i64 (g + 1)] 28)).cell? ⟨w4.heap.size + 1, 0, none⟩ = some (.slice a un c) := (cell_new _ _ hz4 _ _ _).trans rfl
    have y1 : ((w4.alloc (.cells #[.string (bs l), .int .i64 0] 46)).alloc (.cells #[.slice a un c, .int .i64 (g + 1)] 28)).cell? ⟨w4.heap.size + 1, 1, none⟩ = some (.int .i64 (g + 1)) := (cell_new _ _ hz4 _ _ _).trans rfl
    generalize (w4.alloc (.cells #[.string (bs l), .int .i64 0] 46)).alloc (.cells #[.slice a un c, .int .i64 (g + 1)] 28) = W5 at HM5 HI5 HB5 x0 x1 y0 y1 ⊢
    generalize w4.heap.size = X at x0 x1 y0 y1 ⊢
    have hXl := block_lt_of_cell x0
    have hYl := block_lt_of_cell y0
    simp only at hXl hYl
    have HMc := Lib.hid (HM5.out.keep (w' := W5.drew) (Below.refl _ W5).drew)
    have HIc := Lib.hid (HI5.out.below (w' := W5.drew) (Below.refl _ W5).drew)
    have HBc := Lib.hid HB5.out.drew
    clear HM4 HI4 HB4 HM5 HI5 HB5 hz4
    go_region_held3 (fun w' => (w'.cell? ⟨X, 0, none⟩ = some (.string (bs l)) ∧ w'.cell? ⟨X, 1, none⟩ = some (.int .i64 0)) ∧ (w'.cell? ⟨X + 1, 0, none⟩ = some (.slice a un c) ∧ w'.cell? ⟨X + 1, 1, none⟩ = some (.int .i64 (g + 1))))
      (first | (refine keep4c hbK ?_; assumption) | assumption | exact ⟨⟨x0, x1⟩, y0, y1⟩)
      (first
        | (go_at_call 11; refine (HAW.out _).mono ?_; rintro e wK ⟨rfl, hbK⟩; have HMc := Lib.hid (HMc.out.keep hbK); have HIc := Lib.hid (HIc.out.below hbK); have HBc := Lib.hid (HBc.out.trans (hbK.mono HBc.out.size)))
        | (go_at_call 21; refine (err_any _ l 0 _ HIc.out).mono ?_; rintro e wE ⟨rfl, rfl⟩))
    all_goals
      have hS : (wK.cell? ⟨X, 0, none⟩ = some (.string (bs l)) ∧ wK.cell? ⟨X, 1, none⟩ = some (.int .i64 0)) ∧ (wK.cell? ⟨X + 1, 0, none⟩ = some (.slice a un c) ∧ wK.cell? ⟨X + 1, 1, none⟩ = some (.int .i64 (g + 1))) := by assumption
      have HMk := Lib.hid HMc.out
      have HIk := Lib.hid HIc.out
      have HBk := Lib.hid HBc.out
      obtain ⟨⟨x0, x1⟩, y0, y1⟩ := hS
      clear HAW
      go_upto_region 7 with (fail)
      generalize wK = W6 at HMk HIk HBk x0 x1 y0 y1 ⊢
      have hXl := block_lt_of_cell x0
      have hYl := block_lt_of_cell y0
      simp only at hXl hYl
      have hz := bs_size l
      have hsz : (bs (tabB us g)).size + (bs l).size ≤ 400 := by rw [HSZ.out]; exact hs
      have v1 : ∀ W, (Op.stringOp .add (bs (tabB us g)) (bs l)).run Try.prog W = .ok (.string (bs (tabB us g) ++ bs l)) W := fun W => run_string_add_sum W _ _ (by omega)
      have HIS := Lib.hid (fun W hh => is_any (fun k => k < w2.heap.size) B us g a c W hh)
      have HTX := Lib.hid (fun W (hh : DoMem (fun k => k < w2.heap.size) B us g a c W) => tabText_any B us g W hh.tab)
      rw [HUL.out] at HIS
      have HMd := Lib.hid (HMk.out.keep (w' := W6.drew) (Below.refl _ W6).drew)
      have HId := Lib.hid (HIk.out.below (w' := W6.drew) (Below.refl _ W6).drew)
      have HBd := Lib.hid HBk.out.drew
      clear HMk HIk HBk hsz HSZ hs
      generalize bs (tabB us g) = T at v1 HTX ⊢
      go_region_held3 (fun w' => (w'.cell? ⟨X, 0, none⟩ = some (.string (bs l)) ∧ w'.cell? ⟨X, 1, none⟩ = some (.int .i64 0)) ∧ (w'.cell? ⟨X + 1, 0, none⟩ = some (.slice a un c) ∧ w'.cell? ⟨X + 1, 1, none⟩ = some (.int .i64 (g + 1))))
        (first | (refine keep4c hbL ?_; assumption) | assumption | exact ⟨⟨x0, x1⟩, y0, y1⟩)
        (first
          | (go_at_call 15; refine (HIS.out _ HMd.out).mono ?_; rintro e wL ⟨rfl, hbL⟩; have HMd := Lib.hid (HMd.out.keep hbL); have HId := Lib.hid (HId.out.below hbL); have HBd := Lib.hid (HBd.out.trans (hbL.mono HBd.out.size)))
          | (go_at_call 23; refine (HTX.out _ HMd.out).mono ?_; rintro e wL ⟨rfl, hbL⟩; have HMd := Lib.hid (HMd.out.keep hbL); have HId := Lib.hid (HId.out.below hbL); have HBd := Lib.hid (HBd.out.trans (hbL.mono HBd.out.size)))
          | (go_at_call 22; refine (len_any _ l 0 _ HId.out).mono ?_; rintro e wE ⟨rfl, rfl⟩))
      all_goals
        have HBz := Lib.hid HBd.out
        go_wp2
        go_ret
        exact ⟨rfl, HBz.out⟩
  · have heb : ((e : Int) == 0) = false := by simp; omega
    have heb2 : ((e : Int) != 0) = true := by simp; omega
    have HNE := Lib.hid he
    clear he hi3 HRD
    go_wp2_with fail
    refine (HRR.out _).mono ?_
    rintro r w4 ⟨a, len, c, rfl, hb4, -⟩
    have HI4 := Lib.hid (HI3.out.1.below hb4)
    have HB4 := Lib.hid (HBW3.out.trans (hb4.mono HBW3.out.size))
    simp only
    clear hb4 HRR HI3 HBW3
    go_wp2_with fail
    have HI5 := Lib.hid ((HI4.out.alloc (.cells #[.string (bs l), .int .i64 (e : Nat)] 46)).alloc (.cells #[.slice a len c, .int .i64 (g + 1)] 28))
    have HB5 := Lib.hid (bel_alloc (bel_alloc HB4.out (.cells #[.string (bs l), .int .i64 (e : Nat)] 46)) (.cells #[.slice a len c, .int .i64 (g + 1)] 28))
    have x0 : ((w4.alloc (.cells #[.string (bs l), .int .i64 (e : Nat)] 46)).alloc (.cells #[.slice a len c, .int .i64 (g + 1)] 28)).cell? ⟨w4.heap.size, 0, none⟩ = some (.string (bs l)) := alloc_cell (new_cell rfl rfl) _
    have x1 : ((w4.alloc (.cells #[.string (bs l), .int .i64 (e : Nat)] 46)).alloc (.cells #[.slice a len c, .int .i64 (g + 1)] 28)).cell? ⟨w4.heap.size, 1, none⟩ = some (.int .i64 (e : Nat)) := alloc_cell (new_cell rfl rfl) _
    generalize (w4.alloc (.cells #[.string (bs l), .int .i64 (e : Nat)] 46)).alloc (.cells #[.slice a len c, .int .i64 (g + 1)] 28) = W5 at HI5 HB5 x0 x1 ⊢
    generalize w4.heap.size = X at x0 x1 ⊢
    have hXl := block_lt_of_cell x0
    simp only at hXl
    have HIc := Lib.hid (HI5.out.below (w' := W5.drew) (Below.refl _ W5).drew)
    have HBc := Lib.hid HB5.out.drew
    clear HI4 HB4 HI5 HB5
    go_region_held3 (fun w' => w'.cell? ⟨X, 0, none⟩ = some (.string (bs l)) ∧ w'.cell? ⟨X, 1, none⟩ = some (.int .i64 (e : Nat)))
      (first | (refine keep2c hbK ?_; assumption) | assumption | exact ⟨x0, x1⟩)
      (first
        | (go_at_call 11; refine (HAW.out _).mono ?_; rintro e wK ⟨rfl, hbK⟩; have HIc := Lib.hid (HIc.out.below hbK); have HBc := Lib.hid (HBc.out.trans (hbK.mono HBc.out.size)))
        | (go_at_call 21; refine (err_any _ l e _ HIc.out).mono ?_; rintro e wE ⟨rfl, rfl⟩))
    all_goals
      have hS : wK.cell? ⟨X, 0, none⟩ = some (.string (bs l)) ∧ wK.cell? ⟨X, 1, none⟩ = some (.int .i64 (e : Nat)) := by assumption
      have HBk := Lib.hid HBc.out
      obtain ⟨x0, x1⟩ := hS
      clear HAW
      go_upto_region 7 with (fail)
      generalize wK = W6 at HBk x0 x1 ⊢
      have hXl := block_lt_of_cell x0
      simp only at hXl
      go_quiet (fail)
      have HBz : Hid (Below w.heap.size w (W6.drewN nq)) := Lib.hid ⟨HBk.out.os, HBk.out.tape, HBk.out.output, HBk.out.size, HBk.out.block⟩
      go_wp2
      go_ret
      exact ⟨rfl, HBz.out⟩
end Go.Proofs.Ytdkokfpbmmjfkaa
namespace Go.Proofs.Ytdkokfpbmmjfkaa.unitReads
open Go.ChangeShapes Go.WideShapes Go.ChangeAt Go.RowKit
open Go.ChangeMaps (open_string shut_string)
set_option linter.unusedVariables false
theorem walk (a0 : ByteArray) (w0 : a0.size ≤ maxLen) (w : World) :
    Calls Try.prog 4 #[.string a0] w fun e w' => e = .returned (.bool true) ∧ Below w.heap.size w w' :=
  unitReads_walk w a0 w0

/-! ### THE ROW's STEP -/
theorem own : ownKnob Try.prog.godebug = none := by kernel_rfl
theorem laidOut : laidOutB Try.prog = true := by kernel_rfl
set_option maxRecDepth 100000 in
theorem lifted (os : Os) (started : os.Started) (H : Type) (enc : TypeId × Value → H) :
    ReturnsInHanded {} Try.checked os 4 .any (Rows.unitReadsSpec.pre6 enc Try.prog Try.f4 Rows.unitReadsRow.domain false) (Rows.unitReadsSpec.post enc Try.prog Try.f4 false true false false) := by
  refine returnsInHanded_of_change (C := Try.checked) own started (by kernel_rfl) Try.func4
    (ChangeSpec.witness6 (enc := enc) (C := Try.checked) false ⟨#[], #[.string ByteArray.empty], []⟩ 8 (by kernel_rfl) (by kernel_rfl) (by kernel_rfl) (by kernel_rfl)) ?_
  intro W base args ds gs before hval0 hW hcnd _
  have hval : ∀ (j : Nat) t v, Try.f4.params[j]? = some t → args[j]? = some v → Value.okWide Try.prog W .any base t v := hval0
  have hW' := hW
  obtain ⟨p, q, hA0, hV, rfl, hfz, hnd⟩ := hW
  have hA : DataW.TrodAll enc Try.prog W 0 (fun _ => true) true Try.f4.params.toList args.toList ds p := hA0
  rw [Try.params4] at hA hval
  obtain ⟨v0, vs0, d0, ds0, p0, q0, hargs, rfl, rfl, h0, r0⟩ := trodAll_cons hA
  obtain ⟨rfl, rfl, rfl⟩ := trodAll_nil r0
  obtain rfl : args = #[v0] := by cases args; simp_all
  obtain ⟨rfl, rfl⟩ := trodVars_none hV
  have k0 := h0
  have lt0 : ∀ x ∈ p0, x.block < W.heap.size := by obtain ⟨m, hm⟩ := k0; exact DataW.trod_lt m _ _ _ hm
  obtain ⟨a0, rfl, rfl, rfl, w0⟩ := open_string Try.underlying9 (hval 0 9 v0 rfl rfl) h0
  clear hA0 hval0
  refine (walk a0 w0 W).mono fun e W' ⟨he, bel⟩ => ?_
  subst he
  exact ⟨_, rfl, _, _, _, [], _, [], hW', trodAll_mk1 (shut_bool Try.underlying4 _), (trodAll_cons_mk (Below.trod laidOut (by kernel_rfl) (of_decide_eq_true (by kernel_rfl)) k0 bel lt0) trodAll_mk0), rfl, bel.frame _, fun h => by cases h⟩

theorem over : Rows.unitReadsRow.holds Try.pinned (OpenSpec.ofChange Rows.unitReadsSpec) :=
  OpenClaim.holds_of_wide 4 Try.f4 rfl rfl rfl rfl rfl rfl rfl ⟨rfl, rfl, rfl, rfl, rfl⟩ rfl rfl rfl rfl rfl (by kernel_rfl) Try.func4 (by kernel_rfl)
    (of_decide_eq_true (by kernel_rfl)) (by unfold Func.isWrapper; first | (rw [if_pos (by decide +kernel)]; kernel_rfl) | (rw [if_neg (by decide +kernel)]; exact ⟨rfl, rfl⟩))
    (fun os started H enc _ => lifted os started H enc)

end Go.Proofs.Ytdkokfpbmmjfkaa.unitReads
namespace Go.Proofs.Ytdkokfpbmmjfkaa
theorem unitReads_proved : Rows.UnitReadsSaid := unitReads.over
end Go.Proofs.Ytdkokfpbmmjfkaa
