/-
  The walk of the law TimerBackoff.
-/
import Derived.Test.YtpilkaggiajjmaaTim12
import Derived.Test.YtpilkaggiajjmaaTim9
import Derived.Test.YtpilkaggiajjmaaOrdTidy
namespace Go.Proofs.Ytpilkaggiajjmaa
open Go.RowKit
set_option linter.unusedVariables false

/-- One that waits: due again just as long behind the last time as it waits. -/
structure Bk (F M now last gap : Nat) (x : Tn) : Prop where
  n : x.n = 5
  due : x.due = last + x.long
  lo : F ≤ x.long
  hi : x.long ≤ M
  gap : gap ≤ x.long
  nw : now ≤ x.due
  ls : last < now
  tm : x.times ≤ now
theorem Bk.wait {F M now last gap : Nat} {x : Tn} (h : Bk F M now last gap x) (hd : ¬ x.due ≤ now) : Bk F M (now + 1) last gap x :=
  ⟨h.n, h.due, h.lo, h.hi, h.gap, by omega, by have := h.ls; omega, by have := h.tm; omega⟩
theorem Bk.go {F M now last gap : Nat} {x : Tn} (h : Bk F M now last gap x) (hF : 1 ≤ F) (hFM : F ≤ M) (hd : x.due ≤ now) : now = last + x.long ∧ Bk F M (now + 1) now x.long (againT now M x) := by
  have h1 := h.nw
  have h2 := h.due
  have h3 := h.lo
  have h4 := h.hi
  have h5 := h.tm
  refine ⟨by omega, ⟨h.n, rfl, ?_, ?_, ?_, ?_, by omega, ?_⟩⟩
  all_goals
    unfold againT
    simp only
    omega
set_option maxRecDepth 100000 in
set_option maxHeartbeats 2000000 in
theorem timerBackoff_walk (w : World) (first most ticks : Int) :
    Calls Try.prog 6 #[.int .i64 first, .int .i64 most, .int .i64 ticks] w fun e w' => e = .returned (.bool true) ∧ Below w.heap.size w w' := by
  have HAW := Lib.hid (fun W => awake14_any W)
  obtain ⟨d, hd, ed⟩ := andM first 7 7 rfl (by decide)
  obtain ⟨d2, hd2, ed2⟩ := andM most 63 63 rfl (by decide)
  obtain ⟨F, hF, hF1, hF8⟩ : ∃ F : Nat, (1 : Int) + (d : Int) = (F : Int) ∧ 1 ≤ F ∧ F ≤ 8 := ⟨1 + d, by omega, by omega, by omega⟩
  obtain ⟨M, hM, hM1, hM2⟩ : ∃ M : Nat, (F : Int) + (d2 : Int) = (M : Int) ∧ F ≤ M ∧ M ≤ 71 := ⟨F + d2, by omega, by omega, by omega⟩
  obtain ⟨E, hE, hE2⟩ : ∃ E : Nat, min (max ticks 0) 300 = (E : Int) ∧ E ≤ 300 := ⟨(min (max ticks 0) 300).toNat, by omega, by omega⟩
  have HNW := Lib.hid (fun W => (tnew_any (F : Int) (M : Int) W).mono (R' := fun r w' => ∃ b, r = .returned (.tuple #[.pointer (some ⟨b, 0, none⟩), .int .i64 0]) ∧ W.heap.size ≤ b ∧ TAt w' b (F : Int) (M : Int) none 0 [] ∧ Below W.heap.size W w') fun r w' h => by
    rcases h with ⟨-, h⟩ | ⟨h1, -⟩
    · exact h
    · unfold mayT at h1
      simp only [Bool.and_eq_false_iff, decide_eq_false_iff_not] at h1
      omega)
  have HE := Lib.hid hE
  clear hE
  go_enter Try.func6, Try.ntmps6
  go_wp2_with fail
  refine (HNW.out _).mono ?_
  rintro r w1 ⟨b, rfl, hb0, hta, hb1⟩
  have HA1 : Hid (Aw14 w b (F : Int) (M : Int) none 0 [] w1) := Lib.hid ⟨hta, hb0, (fun x hx => by cases hx), hb1⟩
  clear hb0 hta hb1 HNW hF ed hd hM ed2 hd2
  go_wp2_with fail
  refine (HAW.out _).mono ?_
  rintro r w2 ⟨rfl, hb2⟩
  have HA2 := Lib.hid (HA1.out.keep hb2)
  have HST := Lib.hid (start_any b 5 10 F (M : Int) none 0 [] w2 HA2.out.t (by simp) (by omega) (by omega))
  clear hb2 HA1 HAW
  go_wp2_with fail
  refine HST.out.mono ?_
  intro r w3 hr
  obtain ⟨rfl, a, c, h3, h4, h5⟩ := start_none 5 10 F rfl hr
  have HA3 := Lib.hid (HA2.out.next h3 h4 h5)
  have hE := HE.out
  clear hr h3 h4 h5 HST HA2
  go_upto_region 8 with (fail)
  clear hE
  go_wp2_with fail
  go_loopw [9, 10, 12] (fun v9 v10 v12 wr => ∃ (now last gap : Nat) (x : Tn), now ≤ 11 + E ∧ v9 = .int .i64 last ∧ v10 = .int .i64 gap ∧ v12 = .int .i64 now ∧ Hid (Bk F M now last gap x ∧ 11 ≤ now ∧ Aw14 w b (F : Int) (M : Int) a c [x] wr)) (fun _ _ v12 _ => 11 + E - (intOf v12).toNat)
  case atStart => exact ⟨11, 10, F, ⟨5, 10 + F, F, 0⟩, by omega, rfl, rfl, rfl, Lib.hid ⟨⟨rfl, rfl, Nat.le_refl _, hM1, Nat.le_refl _, by simp only; omega, by omega, by simp⟩, by omega, HA3.out⟩⟩
  case round =>
    obtain ⟨now, last, gap, x, hnow, rfl, rfl, rfl, HS⟩ := hrel
    obtain ⟨hbk, h11, haw⟩ := HS.out
    have hxo : x.Ok := ⟨by have := hbk.n; omega, by have := hbk.due; have := hbk.hi; have := hbk.ls; omega, by have := hbk.hi; omega, by have := hbk.tm; omega⟩
    by_cases hlt : now < 11 + E
    · have HDU := Lib.hid (due_any b now M (F : Int) a c [x] wr haw.t (by simp) (fun y hy => by
        have hy : y = x := by simpa using hy
        rw [hy]; exact hxo) (sorted_one (by unfold dueF; exact Nat.le_trans (List.length_filter_le _ _) (by simp))) (by omega) (by omega))
      unfold DuePost at HDU
      have hg1 := hbk.gap
      have hg2 := hbk.ls
      have hn5 := hbk.n
      have HAW3 := Lib.hid haw
      have hnowb : (now : Int) ≤ 311 := by omega
      have hlastb : (last : Int) < (now : Int) := by omega
      have hi1 : (now : Int) < 11 + (E : Int) := by omega
      by_cases hdue : x.due ≤ now
      · obtain ⟨hnl, hbk2⟩ := hbk.go hF1 hM1 hdue
        have e0 : isDue now x = true := by unfold isDue; exact decide_eq_true hdue
        have e1 : dueF now [x] = [x] := by unfold dueF; simp [e0]
        have e2 : agF now M [x] = [againT now M x] := by unfold agF; simp [e0]
        rw [e1, e2] at HDU
        simp only [List.length_cons, List.length_nil, List.map_cons, List.map_nil, Nat.zero_add] at HDU
        rw [hn5] at HDU
        have hlo := hbk.lo
        have hhi := hbk.hi
        have HB2 := Lib.hid hbk2
        generalize againT now M x = y at HDU HB2
        have hsub : (now : Int) - (last : Int) = (x.long : Int) := by omega
        clear hnl
        generalize x.long = g at hsub hlo hhi hg1 HB2
        have hd1 : decide ((g : Int) < (F : Int)) = false := decide_eq_false (by omega)
        have hd2 : decide ((M : Int) < (g : Int)) = false := decide_eq_false (by omega)
        have hd3 : decide ((g : Int) < (gap : Int)) = false := decide_eq_false (by omega)
        clear hbk hbk2 haw HS e0 e1 e2 hdue hxo hn5
        go_wp2_with fail
        refine HDU.out.mono ?_
        rintro r w4 ⟨a4, c4, rfl, ho, ht, htc⟩
        have HA4 := Lib.hid (HAW3.out.next ht (fun x hx => .inl (by rw [hx]; rfl)) (htc.mono (fun _ _ e => .inr e)))
        obtain ⟨g1, o1, rfl, hg, q0⟩ := VRow.at1 (f := u32C) (g := fun n => .int .u32 (n : Int)) (fun _ => rfl) (ms := [5]) (ho.row (num_wide [5])) (j := 0) (by simp)
        simp only [List.getElem_cons_zero, Nat.add_zero] at q0
        have q0' : w4.cell? ⟨g1, o1, none⟩ = some (.int .u32 5) := q0
        clear ho ht htc q0 HDU HAW3
        go_wp2
        go_roundw
        case rel => exact ⟨now + 1, now, g, y, by omega, rfl, rfl, by go_num, Lib.hid ⟨HB2.out, by omega, HA4.out⟩⟩
        case measure => simp [intOf] <;> omega
      · have HB2 := Lib.hid (hbk.wait hdue)
        have e0 : isDue now x = false := by unfold isDue; exact decide_eq_false hdue
        have e1 : dueF now [x] = [] := by unfold dueF; simp [e0]
        have e2 : agF now M [x] = [x] := by unfold agF; simp [e0]
        rw [e1, e2] at HDU
        simp only [List.length_nil, List.map_nil] at HDU
        have hd1 : decide ((M : Int) ≤ (now : Int) - (last : Int)) = false := decide_eq_false (by have := hbk.due; have := hbk.hi; omega)
        have hd2 : (now : Int) - (last : Int) < (M : Int) := by have := hbk.due; have := hbk.hi; omega
        clear hbk haw HS e0 e1 e2 hdue hxo hn5
        go_wp2_with fail
        refine HDU.out.mono ?_
        rintro r w4 ⟨a4, c4, rfl, ho, ht, htc⟩
        have HA4 := Lib.hid (HAW3.out.next ht (fun x hx => .inl (by rw [hx]; rfl)) (htc.mono (fun _ _ e => .inr e)))
        clear ho ht htc HDU HAW3
        go_wp2
        go_roundw
        case rel => exact ⟨now + 1, last, gap, x, by omega, rfl, rfl, by go_num, Lib.hid ⟨HB2.out, by omega, HA4.out⟩⟩
        case measure => simp [intOf] <;> omega
    · obtain rfl : now = 11 + E := by omega
      have hn5 := hbk.n
      have hA := bel_alloc (Below.refl wr.heap.size wr) (.cells #[.int .u32 5, .int .u32 5, .int .u32 6] 22)
      have haw2 := haw.keep hA
      have e1 : goneT [5, 5, 6] [x] = [] := by unfold goneT leftT inN; simp [hn5]
      have HSP := Lib.hid (tstop_any b (F : Int) (M : Int) a c [x] (some ⟨wr.heap.size, 0, none⟩) 3 [5, 5, 6] _ haw2.t (by simp) (by simp) (by
        intro _
        refine ⟨_, _, rfl, fun i hi j hj => ?_⟩
        simp at hi
        have hj : j = 0 := by omega
        subst hj
        have : i = 0 ∨ i = 1 ∨ i = 2 := by omega
        rcases this with rfl | rfl | rfl <;> simp [u32C]) (.inr (fun x' y' hx hy => by
        cases hx
        have := haw.t.row.lt y' hy
        simp only; omega)))
      unfold StopPost at HSP
      rw [e1] at HSP
      simp only [List.length_nil, List.length_cons, Nat.zero_add] at HSP
      have HAW4 := Lib.hid haw2
      have HD2 := Lib.hid (fun W h => due_any b (11 + E + 1000) M (F : Int) a c [] W h (by simp) (fun y hy => by simp at hy) (fun i hi => by simp [dueF] at hi) (by omega) (by omega))
      unfold DuePost at HD2
      have hcast : ((11 + E + 1000 : Nat) : Int) = 11 + (E : Int) + 1000 := by omega
      rw [hcast] at HD2
      have e2 : dueF (11 + E + 1000) [] = [] := rfl
      rw [e2] at HD2
      simp only [List.length_nil] at HD2
      have hi1 : (11 : Int) + (E : Int) ≤ 11 + (E : Int) := by omega
      have hEb : (E : Int) ≤ 300 := by omega
      have hE0 : (0 : Int) ≤ (E : Int) := by omega
      clear hbk haw HS hA haw2 e1 e2 hcast hxo hn5
      go_wp2_with fail
      generalize wr.alloc (.cells #[.int .u32 5, .int .u32 5, .int .u32 6] 22) = W4 at HSP HAW4 ⊢
      refine HSP.out.mono ?_
      rintro r w5 ⟨rfl, ht5, htc5⟩
      have HA5 := Lib.hid (HAW4.out.next ht5 (fun x hx => .inl (by rw [hx]; rfl)) htc5)
      clear ht5 htc5 HSP HAW4
      go_wp2_with fail
      refine (HD2.out _ HA5.out.t).mono ?_
      rintro r w6 ⟨a6, c6, rfl, -, ht6, htc6⟩
      have HA6 := Lib.hid (HA5.out.next ht6 (fun x hx => .inl (by rw [hx]; rfl)) (htc6.mono (fun _ _ e => .inr e)))
      clear ht6 htc6 HD2 HA5
      go_wp2
      go_ret
      exact ⟨rfl, HA6.out.bel⟩
end Go.Proofs.Ytpilkaggiajjmaa
