/-
  The walk of the law PaceRow.
-/
import Derived.Test.YtlhcihjplolgiaaPace8
namespace Go.Proofs.Ytlhcihjplolgiaa
open Go.RowKit
set_option linter.unusedVariables false

theorem len8 (l : List Int) : (addsS [] l).length = min l.length 8 := by have := addsS_len [] l; simpa [last8] using this
theorem len8b (l m : List Int) : (addsS (addsS [] l) m).length = min (l.length + m.length) 8 := by
  rw [addsS_nil, addsS_eq]
  simp [last8]; omega
theorem long8 (l m : List Int) (h : 8 ≤ m.length) : addsS (addsS [] l) m = addsS [] m := by
  rw [addsS_nil]; exact addsS_long _ _ h
theorem row17_lt {w : World} {a : Option Addr} {l : List Int} (hr : IntRow .i64 w a l) (h0 : 0 < l.length) : ∀ x, a = some x → x.block < w.heap.size := fun x hx => by
  obtain ⟨b, off, e, hc⟩ := hr h0
  rw [hx] at e
  cases e
  exact block_lt_of_cell (hc 0 h0)
/-- What is asked of a list that came in. -/
def AddsIt (w : World) (a : Option Addr) (N c : Nat) (l : List Int) : Prop :=
  ∀ (b : Nat) (L : List Int) (W : World), MeterAt W b L → w.heap.size ≤ b → Below w.heap.size w W → Calls Try.prog 44 #[.pointer (some ⟨b, 0, none⟩), .slice a N c] W fun r w' => r = .returned (.tuple #[]) ∧ MeterTo W b (addsS L l) w'
theorem add_arg (w : World) (a : Option Addr) (N c : Nat) (l : List Int) (hr : IntRow .i64 w a l) (hb : ∀ x ∈ l, bound64 x) (hN : l.length = N) (hN2 : N ≤ maxLen) : AddsIt w a N c l := fun b L W hm hwb hbel => by
  subst hN
  exact madd_any b L a c l W hm (hr.below hbel) (fun h0 x hx => by have := row17_lt hr h0 x hx; omega) hb hN2
/-- A list that came in, cut where it is longer than thirty. -/
theorem arg30 {w : World} {a : Option Addr} {len cap : Nat} {ns : List Int} (h : NumArg .i64 w a len cap ns) : ∃ l : List Int, ((30 < len ∧ AddsIt w a 30 cap l ∧ l.length = 30) ∨ (len ≤ 30 ∧ AddsIt w a len cap l ∧ l.length = len)) := by
  obtain ⟨rfl, h1, h2, h3, h4, -, h5⟩ := h
  have hb : ∀ x ∈ ns, bound64 x := fun x hx => wf_i64 (h5 x hx)
  by_cases hl : 30 < ns.length
  · exact ⟨ns.take 30, .inl ⟨hl, add_arg w a 30 cap _ (h4.take 30) (fun x hx => hb x (List.mem_of_mem_take hx)) (by simp; omega) (by unfold maxLen; omega), by simp; omega⟩⟩
  · exact ⟨ns, .inr ⟨by omega, add_arg w a _ cap _ h4 hb rfl h1, rfl⟩⟩
theorem ret_bool17 {b : Bool} (h : b = true) : Ending.returned (.bool b) = .returned (.bool true) := by rw [h]
set_option maxRecDepth 100000 in
set_option maxHeartbeats 2000000 in
theorem paceRow_walk (w : World) (a : Option Addr) (len cap : Nat) (ns : List Int) (h : NumArg .i64 w a len cap ns) (a1 : Option Addr) (len1 cap1 : Nat) (ns1 : List Int) (h1 : NumArg .i64 w a1 len1 cap1 ns1) (x y : Int) : Calls Try.prog 14 #[.slice a len cap, .slice a1 len1 cap1, .int .i64 x, .int .i64 y] w fun r w' => r = .returned (.bool true) ∧ Below w.heap.size w w' := by
  have HAW := Lib.hid (awake17_any w)
  have hc1 : len ≤ cap := h.2.2.1
  have hc2 : len1 ≤ cap1 := h1.2.2.1
  have hc3 : cap ≤ maxLen := h.2.2.2.1
  have hc4 : cap1 ≤ maxLen := h1.2.2.2.1
  unfold maxLen at hc3 hc4
  obtain ⟨la, hla⟩ := arg30 h
  obtain ⟨lb, hlb⟩ := arg30 h1
  clear h h1
  have hcs : ∀ q : Nat, (q < 8 ∧ decide ((q : Int) < 8) = true) ∨ (8 ≤ q ∧ decide ((q : Int) < 8) = false) := fun q => by
    by_cases hq : q < 8
    · exact .inl ⟨hq, decide_eq_true (by omega)⟩
    · exact .inr ⟨by omega, decide_eq_false (by omega)⟩
  rcases hla with ⟨ha0, hadd, hlen⟩ | ⟨ha0, hadd, hlen⟩
  all_goals
    have HADD := Lib.hid hadd
    have HLEN := Lib.hid hlen
    clear hadd hlen
    rcases hlb with ⟨hb0, hadd1, hlen1⟩ | ⟨hb0, hadd1, hlen1⟩
    all_goals
      have HADD1 := Lib.hid hadd1
      have HLEN1 := Lib.hid hlen1
      clear hadd1 hlen1
      go_enter Try.func14, Try.ntmps14
      go_wp2_with fail
      refine HAW.out.mono ?_
      rintro r w1 ⟨rfl, hb1⟩
      have HB1 := Lib.hid hb1
      clear hb1
      go_wp2_with fail
      have hZ1 := meter_new w1 #[.int .i64 0, .int .i64 0, .int .i64 0, .int .i64 0, .int .i64 0, .int .i64 0, .int .i64 0, .int .i64 0, .int .i64 0] rfl
      have HM1 := Lib.hid (hZ1.below (bel_alloc (Below.refl _ _) (.cells #[.int .i64 0, .int .i64 0, .int .i64 0, .int .i64 0, .int .i64 0, .int .i64 0, .int .i64 0, .int .i64 0, .int .i64 0] 80)))
      have hZ2 := meter_new (w1.alloc (.cells #[.int .i64 0, .int .i64 0, .int .i64 0, .int .i64 0, .int .i64 0, .int .i64 0, .int .i64 0, .int .i64 0, .int .i64 0] 80)) #[.int .i64 0, .int .i64 0, .int .i64 0, .int .i64 0, .int .i64 0, .int .i64 0, .int .i64 0, .int .i64 0, .int .i64 0] rfl
      have hsz : (w1.alloc (.cells #[.int .i64 0, .int .i64 0, .int .i64 0, .int .i64 0, .int .i64 0, .int .i64 0, .int .i64 0, .int .i64 0, .int .i64 0] 80)).heap.size = w1.heap.size + 1 := by simp
      rw [hsz] at hZ2
      have HM2 := Lib.hid hZ2
      have HB2 := Lib.hid (bel_alloc (bel_alloc HB1.out (.cells #[.int .i64 0, .int .i64 0, .int .i64 0, .int .i64 0, .int .i64 0, .int .i64 0, .int .i64 0, .int .i64 0, .int .i64 0] 80)) (.cells #[.int .i64 0, .int .i64 0, .int .i64 0, .int .i64 0, .int .i64 0, .int .i64 0, .int .i64 0, .int .i64 0, .int .i64 0] 80))
      have hM1 : w.heap.size ≤ w1.heap.size := HB1.out.size
      clear hZ1 hZ2 hsz HB1
      generalize (w1.alloc (.cells #[.int .i64 0, .int .i64 0, .int .i64 0, .int .i64 0, .int .i64 0, .int .i64 0, .int .i64 0, .int .i64 0, .int .i64 0] 80)).alloc (.cells #[.int .i64 0, .int .i64 0, .int .i64 0, .int .i64 0, .int .i64 0, .int .i64 0, .int .i64 0, .int .i64 0, .int .i64 0] 80) = W2 at HM1 HM2 HB2 ⊢
      generalize w1.heap.size = M at HM1 HM2 hM1 ⊢
      refine (HADD.out M [] W2 HM1.out hM1 HB2.out).mono ?_
      rintro r w3 ⟨rfl, hm3⟩
      have HM1 := Lib.hid hm3.1
      have HM2 := Lib.hid (HM2.out.touch hm3.2 (by omega))
      have HB3 := Lib.hid (HB2.out.trans (hm3.2.below HB2.out.size (fun k hk e => by omega)))
      clear hm3 HB2
      go_wp2_with fail
      refine (HADD1.out M _ w3 HM1.out hM1 HB3.out).mono ?_
      rintro r w4 ⟨rfl, hm4⟩
      have HM1 := Lib.hid hm4.1
      have HM2 := Lib.hid (HM2.out.touch hm4.2 (by omega))
      have HB4 := Lib.hid (HB3.out.trans (hm4.2.below HB3.out.size (fun k hk e => by omega)))
      clear hm4 HB3
      go_wp2_with fail
      refine (HADD1.out (M + 1) _ w4 HM2.out (by omega) HB4.out).mono ?_
      rintro r w5 ⟨rfl, hm5⟩
      have HM2 := Lib.hid hm5.1
      have HM1 := Lib.hid (HM1.out.touch hm5.2 (by omega))
      have HB5 := Lib.hid (HB4.out.trans (hm5.2.below HB4.out.size (fun k hk e => by omega)))
      clear hm5 HB4 HADD HADD1
      by_cases hq : lb.length < 8
      · have HLE := Lib.hid (len8b la lb)
        rw [HLEN.out, HLEN1.out] at HLE
        rw [HLEN1.out] at hq
        first
        | (exfalso; omega)
        | (have hq1 : (len1 : Int) < 8 := by omega
           go_wp2_with fail
           refine (meter_len M _ w5 HM1.out).mono ?_
           rintro r w6 ⟨rfl, rfl⟩
           rw [HLE.out]
           go_wp2
           go_ret
           refine ⟨ret_bool17 (beq_iff_eq.2 ?_), HB5.out⟩
           omega)
      · have HMM : Hid (MeterAt w5 M (addsS [] lb)) := Lib.hid (by rw [← long8 la lb (by omega)]; exact HM1.out)
        rw [HLEN1.out] at hq
        try have hq1 : (8 : Int) ≤ (len1 : Int) := by omega
        generalize addsS [] lb = L at HMM HM2
        have HMP := Lib.hid (show ∀ B, B = M ∨ B = M + 1 → MeterAt w5 B L from fun B hB => by rcases hB with rfl | rfl; exact HMM.out; exact HM2.out)
        clear HM1 HM2 HMM
        clear hq
        go_wp2_with fail
        refine (right17_any x y w5).mono ?_
        rintro r w6 ⟨T, D, rfl, -, hb6⟩
        have HMP := Lib.hid (fun B hB => (HMP.out B hB).below hb6)
        have HB6 := Lib.hid (HB5.out.trans (hb6.mono HB5.out.size))
        clear hb6 HB5
        go_wp2_with fail
        have hA : Below w6.heap.size w6 (w6.alloc (.cells #[.int .i64 T, .int .i64 D] 82)) := bel_alloc (Below.refl _ _) _
        have x0 : (w6.alloc (.cells #[.int .i64 T, .int .i64 D] 82)).cell? ⟨w6.heap.size, 0, none⟩ = some (.int .i64 T) := new_cell rfl rfl
        have x1 : (w6.alloc (.cells #[.int .i64 T, .int .i64 D] 82)).cell? ⟨w6.heap.size, 1, none⟩ = some (.int .i64 D) := new_cell rfl rfl
        have HMP := Lib.hid (fun B hB => ((HMP.out B hB).below hA).below (Below.refl _ _).drew)
        have HB := Lib.hid (HB6.out.trans (hA.mono HB6.out.size)).drew
        clear hA HB6
        generalize hX : w6.heap.size = X at x0 x1 ⊢
        clear hX
        generalize w6.alloc (.cells #[.int .i64 T, .int .i64 D] 82) = W7 at HMP HB x0 x1 ⊢
        have HWO := Lib.hid (fun W B (h : MeterAt W B L) => (worst17_any B L W h).mono (R' := fun r w' => r = .returned (.int .i64 (worstS L)) ∧ Below W.heap.size W w') fun r w' ⟨h1, m, h2⟩ => ⟨h1, by rw [h2]; exact bel17_drewN (Below.refl _ _) m⟩)
        have HME := Lib.hid (fun W B (h : MeterAt W B L) => (mean17_any B L W h).mono (R' := fun r w' => r = .returned (.int .i64 (meanS L)) ∧ Below W.heap.size W w') fun r w' ⟨h1, m, h2⟩ => ⟨h1, by rw [h2]; exact bel17_drewN (Below.refl _ _) m⟩)
        have HLN := Lib.hid (fun W B (h : MeterAt W B L) => (meter_len B L W h).mono (R' := fun r w' => r = .returned (.int .i64 (L.length : Nat)) ∧ Below W.heap.size W w') fun r w' ⟨h1, h2⟩ => ⟨h1, by rw [← h2]; exact Below.refl _ _⟩)
        have HNX := Lib.hid (fun W B (h : MeterAt W B L) => (mnext_any B L T D W h).mono (R' := fun r w' => r = .returned (.agg #[.int .i64 (nextS L T D).1, .int .i64 (nextS L T D).2]) ∧ Below W.heap.size W w') fun r w' h => h)
        generalize worstS L = q1 at HWO
        generalize meanS L = q2 at HME
        generalize (nextS L T D).1 = q3 at HNX
        generalize (nextS L T D).2 = q4 at HNX
        generalize L.length = q5 at HLN
        go_region_held3 (fun w' => w'.cell? ⟨X, 0, none⟩ = some (.int .i64 T) ∧ w'.cell? ⟨X, 1, none⟩ = some (.int .i64 D))
          (first | assumption | (refine keep2p hbK ?_; assumption) | exact ⟨x0, x1⟩)
          (first
            | (go_at_call 47; refine (HWO.out _ _ (HMP.out _ (by first | exact .inl rfl | exact .inr rfl))).mono ?_; rintro r wK ⟨rfl, hbK⟩; have HMP := Lib.hid (fun B hB => (HMP.out B hB).below hbK); have HB := Lib.hid (HB.out.trans (hbK.mono HB.out.size)))
            | (go_at_call 49; refine (HME.out _ _ (HMP.out _ (by first | exact .inl rfl | exact .inr rfl))).mono ?_; rintro r wK ⟨rfl, hbK⟩; have HMP := Lib.hid (fun B hB => (HMP.out B hB).below hbK); have HB := Lib.hid (HB.out.trans (hbK.mono HB.out.size)))
            | (go_at_call 51; refine (HLN.out _ _ (HMP.out _ (by first | exact .inl rfl | exact .inr rfl))).mono ?_; rintro r wK ⟨rfl, hbK⟩; have HMP := Lib.hid (fun B hB => (HMP.out B hB).below hbK); have HB := Lib.hid (HB.out.trans (hbK.mono HB.out.size)))
            | (go_at_call 45; refine (HNX.out _ _ (HMP.out _ (by first | exact .inl rfl | exact .inr rfl))).mono ?_; rintro r wK ⟨rfl, hbK⟩; have HMP := Lib.hid (fun B hB => (HMP.out B hB).below hbK); have HB := Lib.hid (HB.out.trans (hbK.mono HB.out.size))))
        all_goals
          have HBK := Lib.hid HB.out
          go_wp2
          go_ret
          exact ⟨rfl, HBK.out⟩
end Go.Proofs.Ytlhcihjplolgiaa
