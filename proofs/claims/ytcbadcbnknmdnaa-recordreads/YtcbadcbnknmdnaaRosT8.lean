/-
  Layer 18: a change and a roster, put behind other bytes.
-/
import Derived.Test.YtcbadcbnknmdnaaRosT7
import Derived.Test.YtcbadcbnknmdnaaOrdPut
namespace Go.Proofs.Ytcbadcbnknmdnaa
open Go.RowKit
set_option linter.unusedVariables false

set_option maxHeartbeats 400000 in
theorem outCount_nil (b : Nat) (a : Option Addr) (cap : Nat) (w : World) : Calls Try.prog 55 #[.pointer (some ⟨b, 0, none⟩), .slice a 0 cap] w fun r w' => r = .returned (.pointer (some ⟨b, 0, none⟩)) ∧ w = w' := by
  go_enter Try.func55, Try.ntmps55
  go_wp2
  go_loopw [9] (fun i wr => i = .int .i64 0 ∧ wr = w) (fun _ _ => 0)
  case atStart => exact ⟨rfl, rfl⟩
  case round =>
    obtain ⟨rfl, rfl⟩ := hrel
    go_wp2
    go_ret
    exact ⟨rfl, rfl⟩
theorem outCount_qa {K : Nat → Prop} {b : Nat} {l : List UInt8} {wp W : World} (h : OutQ K b l wp) (ns : List Int) (hl : l.length + 10 * ns.length ≤ 1000000000) (hns : ∀ x ∈ ns, x ≤ 9223372036854775807) (hb : Below wp.heap.size wp W) (a : Option Addr) (n cap : Nat) (hn : n = ns.length)
    (hr : IntRow .i64 W a ns) (hg : 0 < ns.length → ∀ x, a = some x → K x.block) :
    Calls Try.prog 55 #[.pointer (some ⟨b, 0, none⟩), .slice a n cap] W (QPost K b (l ++ countsB ns) wp W) := by
  by_cases h0 : 0 < ns.length
  · obtain ⟨g, off, rfl, hc⟩ := hr h0
    exact outCount_q h ns hl hns hb g off n cap hn hr (.inl (hg h0 _ rfl))
  · have : ns = [] := List.eq_nil_of_length_eq_zero (by omega)
    subst this
    subst hn
    refine (outCount_nil b a cap W).mono ?_
    rintro r w' ⟨rfl, rfl⟩
    have hq := h.below hb
    obtain ⟨⟨v, h1, h2, h3⟩, hK⟩ := h
    have e : l ++ countsB [] = l := by simp [countsB, numsB]
    rw [e]
    have hlt := h1.lt
    refine ⟨rfl, ⟨⟨v, h1.below hb, ?_, fun k hk => ?_⟩, fun k hk => ?_⟩, Touch.refl _ _⟩
    · rintro (h | h)
      · exact h2 h
      · omega
    · have := h1.fresh k hk
      rintro (h | h)
      · exact h3 k hk h
      · omega
    · rcases hk with h | h
      · have := hK k h; have := hb.size; omega
      · exact h.2
theorem intRow3 {k : IntKind} {w : World} {g off : Nat} {x y z : Int} (h : w.cell? ⟨g, off, none⟩ = some (.int k x) ∧ w.cell? ⟨g, off + 1, none⟩ = some (.int k y) ∧ w.cell? ⟨g, off + 2, none⟩ = some (.int k z)) : IntRow k w (some ⟨g, off, none⟩) [x, y, z] := fun _ => ⟨g, off, rfl, fun i hi => by
  have : i = 0 ∨ i = 1 ∨ i = 2 := by simp at hi; omega
  rcases this with rfl | rfl | rfl
  · exact h.1
  · exact h.2.1
  · exact h.2.2⟩
theorem keepC3 {S : Nat → Prop} {W w' : World} (ht : Touch (fun k => ¬ S k) W w') {X : Nat} (hg : S X) {x y z : Value} (h : W.cell? ⟨X, 0, none⟩ = some x ∧ W.cell? ⟨X, 1, none⟩ = some y ∧ W.cell? ⟨X, 2, none⟩ = some z) :
    w'.cell? ⟨X, 0, none⟩ = some x ∧ w'.cell? ⟨X, 1, none⟩ = some y ∧ w'.cell? ⟨X, 2, none⟩ = some z := ⟨keep_cell ht hg h.1, keep_cell ht hg h.2.1, keep_cell ht hg h.2.2⟩
theorem keepC3a {W : World} {X : Nat} {x y z : Value} (o : Obj) (h : W.cell? ⟨X, 0, none⟩ = some x ∧ W.cell? ⟨X, 1, none⟩ = some y ∧ W.cell? ⟨X, 2, none⟩ = some z) :
    (W.alloc o).cell? ⟨X, 0, none⟩ = some x ∧ (W.alloc o).cell? ⟨X, 1, none⟩ = some y ∧ (W.alloc o).cell? ⟨X, 2, none⟩ = some z := ⟨alloc_cell h.1 o, alloc_cell h.2.1 o, alloc_cell h.2.2 o⟩
theorem keepC3d {W : World} {X : Nat} {x y z : Value} (o : Obj) (h : W.drew.cell? ⟨X, 0, none⟩ = some x ∧ W.drew.cell? ⟨X, 1, none⟩ = some y ∧ W.drew.cell? ⟨X, 2, none⟩ = some z) :
    (W.alloc o).drew.cell? ⟨X, 0, none⟩ = some x ∧ (W.alloc o).drew.cell? ⟨X, 1, none⟩ = some y ∧ (W.alloc o).drew.cell? ⟨X, 2, none⟩ = some z := keepC3a (W := W) o h
def PutPost (K : Nat → Prop) (b : Nat) (l : List UInt8) (w : World) (r : Ending) (w' : World) : Prop := r = .returned (.tuple #[]) ∧ OutQ K b l w' ∧ Touch (fun k => ¬ K k) w w'
set_option maxRecDepth 100000 in
set_option maxHeartbeats 4000000 in
theorem chPut_any (K : Nat → Prop) (b : Nat) (l0 : List UInt8) (k p : Int) (a : Option Addr) (c : Nat) (V : List Int) (w : World) (h : OutQ K b l0 w) (hr : IntRow .i64 w a V) (ha : 0 < V.length → ∀ x, a = some x → K x.block) (hd : ChgDom ⟨k, p, V⟩) (hl0 : l0.length ≤ 100000000) (N : Nat) (hN : V.length = N) :
    Calls Try.prog 56 #[chV k p a N c, .pointer (some ⟨b, 0, none⟩)] w (PutPost K b (l0 ++ chgB ⟨k, p, V⟩) w) := by
  subst hN
  obtain ⟨d1, d2, d3, d4, d5, d6⟩ := hd
  simp only at d1 d2 d3 d4 d5 d6
  have HA := Lib.hid ha
  have HROW := Lib.hid (fun W (hW : Touch (fun k => ¬ K k) w W) => show IntRow .i64 W a V from fun h0 => by
    obtain ⟨g, off, e, hc⟩ := hr h0
    refine ⟨g, off, e, fun i hi => ?_⟩
    exact (hW.cell (p := ⟨g, off + i, none⟩) (block_lt_of_cell (hc i hi)) (fun hn => hn (show K g from ha h0 ⟨g, off, none⟩ e))).trans (hc i hi))
  have HE : Hid (∀ L, L = l0 ++ countsB [k, p, (V.length : Int)] ++ countsB V → L = l0 ++ chgB ⟨k, p, V⟩) := Lib.hid (fun L h => by rw [h, List.append_assoc]; rfl)
  have HO0 := Lib.hid (h.add (.cells #[.int .i64 k, .int .i64 p, .slice a V.length c] 97))
  have HT0 := Lib.hid (touch_of_below (S := fun k => ¬ K k) (bel_alloc (Below.refl _ w) (.cells #[.int .i64 k, .int .i64 p, .slice a V.length c] 97)))
  have x0 : (w.alloc (.cells #[.int .i64 k, .int .i64 p, .slice a V.length c] 97)).cell? ⟨w.heap.size, 0, none⟩ = some (.int .i64 k) := new_cell rfl rfl
  have x1 : (w.alloc (.cells #[.int .i64 k, .int .i64 p, .slice a V.length c] 97)).cell? ⟨w.heap.size, 1, none⟩ = some (.int .i64 p) := new_cell rfl rfl
  have x2 : (w.alloc (.cells #[.int .i64 k, .int .i64 p, .slice a V.length c] 97)).cell? ⟨w.heap.size, 2, none⟩ = some (.slice a V.length c) := new_cell rfl rfl
  have HL1 := Lib.hid (show l0.length + 10 * [k, p, (V.length : Int)].length ≤ 1000000000 by simp; omega)
  have HN1 := Lib.hid (show ∀ x ∈ [k, p, (V.length : Int)], x ≤ 9223372036854775807 by intro x hx; simp at hx; omega)
  have HL2 := Lib.hid (show (l0 ++ countsB [k, p, (V.length : Int)]).length + 10 * V.length ≤ 1000000000 by
    have h1 := countsB_len (ns := [k, p, (V.length : Int)]) HN1.out
    simp at h1; simp; omega)
  have HN2 := Lib.hid (show ∀ x ∈ V, x ≤ 9223372036854775807 by intro x hx; have := d6 x hx; omega)
  unfold chV PutPost
  clear hr ha h d6
  go_enter Try.func56, Try.ntmps56
  go_upto_region 1 with (fail)
  generalize w.alloc (.cells #[.int .i64 k, .int .i64 p, .slice a V.length c] 97) = W0 at HO0 HT0 x0 x1 x2 ⊢
  generalize w.heap.size = X at HO0 x0 x1 x2 ⊢
  have hX := block_lt_of_cell x0
  simp only at hX
  generalize hVN : V.length = N at x2 HL1 HN1 HL2 HE ⊢
  have HVN := Lib.hid hVN
  have HL2 := Lib.hid (show (l0 ++ countsB [k, p, (N : Int)]).length + 10 * V.length ≤ 1000000000 by rw [HVN.out]; exact HL2.out)
  clear hVN
  go_region_held3 (fun w' => w'.cell? ⟨X, 0, none⟩ = some (.int .i64 k) ∧ w'.cell? ⟨X, 1, none⟩ = some (.int .i64 p) ∧ w'.cell? ⟨X, 2, none⟩ = some (.slice a N c))
    (first | (refine keepC3 HT2.out (.inl (.inl (.inr rfl))) ?_; assumption) | (refine keepC3 HT1.out (.inl (.inr rfl)) ?_; assumption) | (refine keepC3a _ ?_; assumption) | (refine keepC3d _ ?_; assumption) | exact ⟨x0, x1, x2⟩)
    (first
      | (go_at_call 55; refine (outCount_qa HO1.out V HL2.out HN2.out (by repeat' (first | exact Below.refl _ _ | refine Below.drew ?_ | refine bel_alloc ?_ _)) a N c HVN.out.symm (HROW.out _ ((HT0.out.trans ((touchKK (wp := W0) (by repeat' (first | exact Below.refl _ _ | refine Below.drew ?_ | refine bel_alloc ?_ _)) HT1.out).mono fun k _ h1 h2 => h1 (.inl h2))).trans (touch_of_below (by repeat' (first | exact Below.refl _ _ | refine Below.drew ?_ | refine bel_alloc ?_ _))))) (fun h0 x hx => .inl (.inl (HA.out h0 x hx)))).mono ?_; rintro r wB ⟨rfl, ho, ht⟩; have HO2 := Lib.hid ho; have HT2 := Lib.hid ht; clear ho ht)
      | (go_at_call 55; refine (outCount_q HO0.out [k, p, (N : Int)] HL1.out HN1.out (by repeat' (first | exact Below.refl _ _ | refine Below.drew ?_ | refine bel_alloc ?_ _)) _ 0 3 3 rfl (intRow3 (by refine ⟨?_, ?_, ?_⟩ <;> (repeat' (first | exact new_cell (by first | rfl | (simp; done)) rfl | with_reducible refine drew_cell ?_ | with_reducible refine alloc_cell ?_ _)))) (.inr (by first | omega | (simp; done) | (simp; omega)))).mono ?_; rintro r wA ⟨rfl, ho, ht⟩; have HO1 := Lib.hid ho; have HT1 := Lib.hid ht; clear ho ht))
  all_goals
    have HW := Lib.hid (show Touch (fun k => ¬ K k) w wB from (HT0.out.trans ((touchKK (wp := W0) (by repeat' (first | exact Below.refl _ _ | refine Below.drew ?_ | refine bel_alloc ?_ _)) HT1.out).mono fun k _ h1 h2 => h1 (.inl h2))).trans ((touchKK (wp := wA) (by repeat' (first | exact Below.refl _ _ | refine Below.drew ?_ | refine bel_alloc ?_ _)) HT2.out).mono fun k _ h1 h2 => h1 (.inl (.inl h2))))
    have HQ := Lib.hid (HO2.out.sub (K := K) (fun k hk => .inl (.inl (.inl hk))))
    clear HO1 HO2 HT1 HT2 x0 x1 x2
    go_wp2
    go_end0
    refine ⟨rfl, ?_, HW.out⟩
    rw [← HE.out _ rfl]
    exact HQ.out
end Go.Proofs.Ytcbadcbnknmdnaa
