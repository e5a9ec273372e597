/-
  Layer 8: the document's own table: where one stands, one more.
-/
import Derived.Test.YthggfjjiohdbmaaAwake8
namespace Go.Proofs.Ythggfjjiohdbmaa
open Go.RowKit
set_option linter.unusedVariables false

theorem runTy : RecTy 53 6 (.agg #[.int .i64 0, .int .i64 0, .int .i64 0, .int .i64 0, .int .i64 0, .int .i64 0]) := ⟨by kernel_rfl, rfl, by decide, by decide⟩
/-- The place, or -1. -/
def findR (us : List Un) (id : Int) (n : Nat) : Int := if foundQ us id n then (n : Int) else -1
theorem found_at {us : List Un} {id : Int} {n k : Nat} (hr : Rising us) (hn : FindIs us id n) (hk : k < us.length) (he : us[k].id = id) : k = n ∧ foundQ us id n = true := by
  have h1 : ¬ k < n := fun h => by have := (hn.2 k hk).2 h; omega
  have h2 : ¬ n < k := fun h => by
    have hnl : n < us.length := by omega
    have := hr n k hnl hk h
    have h3 := (hn.2 n hnl).1 (by omega)
    omega
  have e : k = n := by omega
  subst e
  exact ⟨rfl, by rw [foundQ_lt hk]; simpa using he⟩
set_option maxRecDepth 100000 in
set_option maxHeartbeats 1000000 in
theorem refFind_any (a : Option Addr) (c : Nat) (us : List Un) (nx id : Int) (n : Nat) (w : World) (hl : us.length ≤ 100000) (hrise : Rising us) (hr : UnRow w a us) (hn : FindIs us id n) :
    Calls Try.prog 26 #[.agg #[.slice a us.length c, .int .i64 nx], .int .i64 id] w fun r w' => r = .returned (.int .i64 (findR us id n)) ∧ Below w.heap.size w w' := by
  have HR := Lib.hid hr
  have HN := Lib.hid hn
  have HI := Lib.hid hrise
  have HB0 := Lib.hid ((Below.refl _ w).alloc (Nat.le_refl _) (.cells #[.slice a us.length c, .int .i64 nx] 30))
  clear hr hn hrise
  go_enter Try.func26, Try.ntmps26
  go_wp2
  go_loopw [10] (fun i wr => ∃ k : Nat, k ≤ us.length ∧ i = .int .i64 k ∧ Hid ((∀ j (hj : j < us.length), j < k → us[j].id ≠ id) ∧ Below w.heap.size w wr)) (fun i _ => us.length - (intOf i).toNat)
  case atStart => exact ⟨0, by omega, rfl, Lib.hid ⟨fun j hj h => by omega, HB0.out⟩⟩
  case round =>
    obtain ⟨k, hk, rfl, HM⟩ := hrel
    by_cases hlt : k < us.length
    · obtain ⟨b, off, rfl, hb, c0, c1, c2, c3, c4, c5⟩ := (HR.out.below HM.out.2).at hlt
      have HX := Lib.hid (show us[k].id = us[k].id from rfl)
      have HF := Lib.hid (fun he => found_at HI.out HN.out hlt he)
      have HNX := Lib.hid (show us[k].id ≠ id → ∀ j (hj : j < us.length), j < k + 1 → us[j].id ≠ id from fun h j hj hjk => by
        by_cases e : j = k
        · subst e; exact h
        · exact HM.out.1 j hj (by omega))
      generalize us[k] = u at c0 c1 c2 c3 c4 c5 HF HNX HX
      obtain ⟨u0, u1, u2, u3, u4, u5⟩ := u
      simp only at c0 c1 c2 c3 c4 c5 HF HNX
      have HB1 := Lib.hid (HM.out.2.alloc HM.out.2.size (.cells #[.int .i64 u0, .int .i64 u1, .int .i64 u2, .int .i64 u3, .int .i64 u4, .int .i64 u5] 53))
      by_cases he : u0 = id
      · subst he
        have HE := Lib.hid (show findR us u0 n = (k : Int) by
          obtain ⟨e, hq⟩ := HF.out rfl
          unfold findR; rw [hq, ← e]; rfl)
        go_wp2
        go_ret
        exact ⟨by rw [HE.out]; rfl, HB1.out⟩
      · have heb : (u0 == id) = false := by simpa using he
        have HN2 := Lib.hid (HNX.out he)
        clear he
        go_wp2
        go_roundw
        case rel => exact ⟨k + 1, by omega, by go_num, Lib.hid ⟨HN2.out, HB1.out⟩⟩
        case measure => simp [intOf]; omega
    · have HE := Lib.hid (show findR us id n = -1 by
        unfold findR
        cases hq : foundQ us id n
        · rfl
        · obtain ⟨hnl, hne⟩ := findIs_lt hq
          exact absurd hne (HM.out.1 n hnl (by omega)))
      go_wp2
      go_ret
      exact ⟨by rw [HE.out]; rfl, HM.out.2⟩
/-- What the document's calls answer: a table of its own, or the one that came. -/
def RPost (w : World) (a0 : Option Addr) (us : List Un) (nx : Int) (q : Value) (r : Ending) (w' : World) : Prop :=
  ∃ a c, r = .returned (.tuple #[.agg #[.slice a us.length c, .int .i64 nx], q]) ∧ UnRow w' a us ∧ (a = none → us = []) ∧ us.length ≤ c ∧ c ≤ maxLen ∧ (a = a0 ∨ ∀ x, a = some x → w.heap.size ≤ x.block ∧ x.block < w'.heap.size) ∧ Below w.heap.size w w'
theorem RPost.from {w w0 : World} {a0 : Option Addr} {us : List Un} {nx : Int} {q : Value} {r : Ending} {w' : World} (h : RPost w0 a0 us nx q r w') (hb : Below w.heap.size w w0) : RPost w a0 us nx q r w' := by
  obtain ⟨a, c, h1, h2, h3, h4, h5, h6, h7⟩ := h
  refine ⟨a, c, h1, h2, h3, h4, h5, ?_, hb.trans (h7.mono hb.size)⟩
  rcases h6 with h | h
  · exact .inl h
  · exact .inr fun x hx => ⟨Nat.le_trans hb.size (h x hx).1, (h x hx).2⟩
def set2r (w : World) (X : Nat) (x0 x1 : Value) : World := (w.setCell ⟨X, 0, none⟩ x0).setCell ⟨X, 1, none⟩ x1
theorem set2r_below {w0 w : World} {X : Nat} (h : Below w0.heap.size w0 w) (hX : w0.heap.size ≤ X) (x0 x1 : Value) : Below w0.heap.size w0 (set2r w X x0 x1) :=
  (h.setCell (p := ⟨X, 0, none⟩) hX _).setCell (p := ⟨X, 1, none⟩) hX _
theorem set2r_touch (w : World) (X : Nat) (x0 x1 : Value) : Touch (fun k => k = X) w (set2r w X x0 x1) := ((Touch.refl (fun k => k = X) w).setCell (p := ⟨X, 0, none⟩) (fun _ => rfl) _).setCell (p := ⟨X, 1, none⟩) (fun _ => rfl) _
set_option maxRecDepth 100000 in
set_option maxHeartbeats 2000000 in
theorem refSpawn_no (a : Option Addr) (c : Nat) (us : List Un) (g kind owner x y : Int) (w : World) (hl : us.length ≤ 64) (hg : 0 ≤ g ∧ g < 1099511627776) (hr : UnRow w a us) (hn : a = none → us = []) (hc : us.length ≤ c ∧ c ≤ maxLen) (hq : spawnQ us g kind owner x y = false) :
    Calls Try.prog 15 #[.agg #[.slice a us.length c, .int .i64 (g + 1)], .int .i64 kind, .int .i64 owner, .int .i64 x, .int .i64 y] w (RPost w a us (g + 1) (.int .i64 0)) := by
  have hW : Below w.heap.size w ((w.alloc (.cells #[.slice a us.length c, .int .i64 (g + 1)] 30)).alloc (.cells #[.slice none 0 0, .int .i64 0] 30)) := bel_alloc ((Below.refl _ w).alloc (Nat.le_refl _) _) _
  have HP := Lib.hid (show ∀ W, Below w.heap.size w W → RPost w a us (g + 1) (.int .i64 0) (.returned (.tuple #[.agg #[.slice a us.length c, .int .i64 (g + 1)], .int .i64 0])) W from fun W hb => ⟨a, c, rfl, hr.below hb, hn, hc.1, hc.2, .inl rfl, hb⟩)
  have H0 := Lib.hid (show ∀ W, Calls Try.prog 34 #[.int .i64 0, .int .i64 kind] W fun r w' => r = .returned (.bool (mayN 0 kind)) ∧ W = w' from fun W => refMay_any 0 kind W (by decide))
  have H1 := Lib.hid (show ∀ W, Calls Try.prog 34 #[.int .i64 1, .int .i64 owner] W fun r w' => r = .returned (.bool (mayN 1 owner)) ∧ W = w' from fun W => refMay_any 1 owner W (by decide))
  have H2 := Lib.hid (show ∀ W, Calls Try.prog 34 #[.int .i64 2, .int .i64 x] W fun r w' => r = .returned (.bool (mayN 2 x)) ∧ W = w' from fun W => refMay_any 2 x W (by decide))
  have H3 := Lib.hid (show ∀ W, Calls Try.prog 34 #[.int .i64 3, .int .i64 y] W fun r w' => r = .returned (.bool (mayN 3 y)) ∧ W = w' from fun W => refMay_any 3 y W (by decide))
  have HQ := Lib.hid (show (decide (us.length ≠ 64) && (decide (g + 1 ≠ 1099511627776) && (mayN 0 kind && (mayN 1 owner && (mayN 2 x && mayN 3 y))))) = false by
    have : mayQ (spawnU g kind owner x y) = (mayN 0 kind && (mayN 1 owner && (mayN 2 x && mayN 3 y))) := by simp [mayQ, spawnU, show mayN 4 1000 = true by decide]
    rw [← this]; exact hq)
  have HW := Lib.hid hW
  generalize hpost : RPost w a us (g + 1) (.int .i64 0) = Post at HP ⊢
  clear hr hn hq hW hpost
  generalize mayN 0 kind = q0 at H0 HQ
  generalize mayN 1 owner = q1 at H1 HQ
  generalize mayN 2 x = q2 at H2 HQ
  generalize mayN 3 y = q3 at H3 HQ
  obtain ⟨hg0, hg1⟩ := hg
  have hc1 := hc.1
  clear hc
  generalize us.length = n at *
  have hFB := Lib.hid (show ∀ W, Below w.heap.size w W → Below w.heap.size w W from fun W h => h)
  by_cases h64 : 64 ≤ n
  · obtain rfl : n = 64 := by omega
    clear hl h64 HQ
    go_enter Try.func15, Try.ntmps15
    go_wp2_with (go_at_call 34; (first | with_reducible refine (H0.out _).mono ?_ | with_reducible refine (H1.out _).mono ?_ | with_reducible refine (H2.out _).mono ?_ | with_reducible refine (H3.out _).mono ?_); rintro e w' ⟨rfl, rfl⟩)
    refine bodyPost_ret (v := .tuple #[.agg #[.slice a 64 c, .int .i64 (g + 1)], .int .i64 0]) (by simp [results, Try.results15, go_sem]) rfl (HP.out _ ?_)
    exact bel_alloc (bel_alloc (Below.refl _ _) _) _
  · have d64 : decide ((64 : Int) ≤ (n : Int)) = false := by simp; omega
    cases q0
    · clear HQ
      go_enter Try.func15, Try.ntmps15
      go_wp2_with (go_at_call 34; (first | with_reducible refine (H0.out _).mono ?_ | with_reducible refine (H1.out _).mono ?_ | with_reducible refine (H2.out _).mono ?_ | with_reducible refine (H3.out _).mono ?_); rintro e w' ⟨rfl, rfl⟩)
      refine bodyPost_ret (v := .tuple #[.agg #[.slice a n c, .int .i64 (g + 1)], .int .i64 0]) (by simp [results, Try.results15, go_sem]) rfl (HP.out _ ?_)
      exact bel_alloc (bel_alloc (Below.refl _ _) _) _

    · skip
      cases q1
      · clear HQ
        go_enter Try.func15, Try.ntmps15
        go_wp2_with (go_at_call 34; (first | with_reducible refine (H0.out _).mono ?_ | with_reducible refine (H1.out _).mono ?_ | with_reducible refine (H2.out _).mono ?_ | with_reducible refine (H3.out _).mono ?_); rintro e w' ⟨rfl, rfl⟩)
        refine bodyPost_ret (v := .tuple #[.agg #[.slice a n c, .int .i64 (g + 1)], .int .i64 0]) (by simp [results, Try.results15, go_sem]) rfl (HP.out _ ?_)
        exact bel_alloc (bel_alloc (Below.refl _ _) _) _

      · skip
        cases q2
        · clear HQ
          go_enter Try.func15, Try.ntmps15
          go_wp2_with (go_at_call 34; (first | with_reducible refine (H0.out _).mono ?_ | with_reducible refine (H1.out _).mono ?_ | with_reducible refine (H2.out _).mono ?_ | with_reducible refine (H3.out _).mono ?_); rintro e w' ⟨rfl, rfl⟩)
          refine bodyPost_ret (v := .tuple #[.agg #[.slice a n c, .int .i64 (g + 1)], .int .i64 0]) (by simp [results, Try.results15, go_sem]) rfl (HP.out _ ?_)
          exact bel_alloc (bel_alloc (Below.refl _ _) _) _

        · skip
          cases q3
          · clear HQ
            go_enter Try.func15, Try.ntmps15
            go_wp2_with (go_at_call 34; (first | with_reducible refine (H0.out _).mono ?_ | with_reducible refine (H1.out _).mono ?_ | with_reducible refine (H2.out _).mono ?_ | with_reducible refine (H3.out _).mono ?_); rintro e w' ⟨rfl, rfl⟩)
            refine bodyPost_ret (v := .tuple #[.agg #[.slice a n c, .int .i64 (g + 1)], .int .i64 0]) (by simp [results, Try.results15, go_sem]) rfl (HP.out _ ?_)
            exact bel_alloc (bel_alloc (Below.refl _ _) _) _

          · have hge : g + 1 = 1099511627776 := by
              have h1 : n ≠ 64 := by omega
              have := HQ.out
              simpa [h1] using this
            have dge : decide ((1099511627776 : Int) ≤ g + 1) = true := by simp; omega
            clear HQ hge
            go_enter Try.func15, Try.ntmps15
            go_wp2_with (go_at_call 34; (first | with_reducible refine (H0.out _).mono ?_ | with_reducible refine (H1.out _).mono ?_ | with_reducible refine (H2.out _).mono ?_ | with_reducible refine (H3.out _).mono ?_); rintro e w' ⟨rfl, rfl⟩)
            refine bodyPost_ret (v := .tuple #[.agg #[.slice a n c, .int .i64 (g + 1)], .int .i64 0]) (by simp [results, Try.results15, go_sem]) rfl (HP.out _ ?_)
            exact bel_alloc (bel_alloc (Below.refl _ _) _) _
end Go.Proofs.Ythggfjjiohdbmaa
