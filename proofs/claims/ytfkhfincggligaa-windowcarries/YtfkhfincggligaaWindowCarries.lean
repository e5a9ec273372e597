/-
  PROVED: for every first number of 32 bits, every count and every way (a list of whole numbers) the law WindowCarries answers true, and all read afterwards as before. No condition of our own.
-/
import Derived.Test.YtfkhfincggligaaWin5
import Derived.Test.YtfkhfincggligaaFrag8
import Derived.Test.YtfkhfincggligaaFew
import Derived.Test.YtfkhfincggligaaMp
import Derived.Test.YtfkhfincggligaaWireOut
import Derived.OpenShut
import Derived.ProofKit
import Derived.ChangeSlices
import Derived.Test.YtfkhfincggligaaOrdMath
import Derived.Test.YtfkhfincggligaaRecs
import Derived.Deep.Slices
import Derived.WalkKit
import Derived.ShutString
import Derived.ChangeOld
import Derived.Below
import Derived.SliceStrings
namespace Go.Proofs.Ytfkhfincggligaa
open Go.RowKit
set_option linter.unusedVariables false

theorem shr_bit (B y : Nat) (hB : B < 4294967296) : (bits .and .u32 ((B : Int) / 2 ^ min y 32) 1 == 1) = (decide (y < 32) && B.testBit y) := by
  have e : ((B : Int) / 2 ^ min y 32) = ((B / 2 ^ min y 32 : Nat) : Int) := by simp
  have hle : B / 2 ^ min y 32 < 4294967296 := Nat.lt_of_le_of_lt (Nat.div_le_self _ _) hB
  rw [e, show (1 : Int) = ((1 : Nat) : Int) from rfl, u32_and_nat _ _ hle (by decide), Nat.and_one_is_mod]
  by_cases h : y < 32
  · rw [Nat.min_eq_left (by omega), Nat.testBit_eq_decide_div_mod_eq]
    generalize B / 2 ^ y % 2 = z
    simp only [h, decide_true, Bool.true_and]
    by_cases hz : z = 1
    · subst hz; rfl
    · rw [decide_eq_false hz, beq_eq_false_iff_ne]; omega
  · rw [Nat.min_eq_right (by omega)]
    have : B / 2 ^ 32 = 0 := Nat.div_eq_of_lt hB
    rw [this]
    simp [h]
def hasB (nx B n : Nat) : Bool := belowB n nx || (decide (1 ≤ distW n nx) && (decide (distW n nx ≤ 32) && B.testBit (distW n nx - 1)))
set_option maxRecDepth 100000 in
set_option maxHeartbeats 1000000 in
theorem has_any (nx B n : Nat) (w : World) (hx : nx < 4294967296) (hB : B < 4294967296) (hn : n < 4294967296) : Calls Try.prog 40 #[.agg #[.int .u32 (nx : Int), .int .u32 (B : Int)], .int .u32 (n : Int)] w fun r w' => r = .returned (.bool (hasB nx B n)) ∧ Below w.heap.size w w' := by
  have HA := Lib.hid (show Below w.heap.size w (w.alloc (.cells #[.int .u32 (nx : Int), .int .u32 (B : Int)] 72)) from bel_alloc (Below.refl _ _) _)
  have HBEL := Lib.hid (fun W => below_any n nx hn hx W)
  have hw := wrap_sub n nx hn hx
  have hd := distW_lt n nx
  unfold hasB
  cases hbb : belowB n nx with
  | true =>
    rw [hbb] at HBEL
    go_enter Try.func40, Try.ntmps40
    go_wp2_with fail
    refine (HBEL.out _).mono ?_
    rintro r w1 ⟨rfl, rfl⟩
    go_wp2
    go_ret
    exact ⟨rfl, HA.out⟩
  | false =>
    rw [hbb] at HBEL
    have hlt : distW n nx < 2147483648 := by unfold belowB at hbb; simpa using hbb
    generalize distW n nx = d at hw hd hlt
    have HW := Lib.hid hw
    clear hw
    go_enter Try.func40, Try.ntmps40
    go_wp2_with fail
    refine (HBEL.out _).mono ?_
    rintro r w1 ⟨rfl, rfl⟩
    have hw := HW.out
    obtain ⟨y, hy, hyd⟩ : ∃ y : Nat, ((d : Int) - 1) % 4294967296 = (y : Int) ∧ (d = 0 ∧ y = 4294967295 ∨ 1 ≤ d ∧ y = d - 1) := by
      by_cases h0 : d = 0
      · exact ⟨4294967295, by omega, .inl ⟨h0, rfl⟩⟩
      · exact ⟨d - 1, by omega, .inr ⟨by omega, rfl⟩⟩
    have hy0 : (0 : Int) ≤ (y : Int) := by omega
    have HYD := Lib.hid hyd
    clear hyd
    have HSB := Lib.hid (shr_bit B y hB)
    go_wp2
    go_ret
    refine ⟨?_, HA.out⟩
    show Ending.returned (.bool (bits .and .u32 ((B : Int) / 2 ^ min y 32) 1 == 1)) = _
    rw [HSB.out]
    congr 2
    rcases HYD.out with ⟨h0, h1⟩ | ⟨h0, h1⟩
    · subst h0; subst h1; rfl
    · subst h1
      rw [decide_eq_true h0]
      simp only [Bool.false_or, Bool.true_and]
      congr 1
      by_cases h2 : d ≤ 32
      · rw [decide_eq_true h2, decide_eq_true (by omega)]
      · rw [decide_eq_false h2, decide_eq_false (by omega)]
theorem inPut_any (b : Nat) (mo : Option Nat) (s : Ws) (n : Nat) (t : List UInt8) (w : World) (h : WI w b mo s) (hn : n < 4294967296) (hsl : s.l.length ≤ 900) :
    Calls Try.prog 34 #[.pointer (some ⟨b, 0, none⟩), itV n t] w (InPost w b mo (putW s n t)) := by
  cases hb : belowB n s.nx with
  | true => exact inPut_far b mo s n t w h hn (.inl hb)
  | false =>
    by_cases hd : 32 < distW n s.nx
    · exact inPut_far b mo s n t w h hn (.inr ⟨hb, hd⟩)
    · exact inPut_near b mo s n t w h hn hb (by omega) hsl
/-- An Out on whose way nothing is. -/
structure O0At (w : World) (b n : Nat) : Prop where
  c0 : w.cell? ⟨b, 0, none⟩ = some (.int .u32 (n : Int))
  c1 : w.cell? ⟨b, 1, none⟩ = some (.slice none 0 0)
  f0 : w.frozen? ⟨b, 0, none⟩ = false
  f1 : w.frozen? ⟨b, 1, none⟩ = false
theorem O0At.lt {w : World} {b n : Nat} (h : O0At w b n) : b < w.heap.size := block_lt_of_cell h.c0
theorem O0At.touch {S : Nat → Prop} {w w' : World} {b n : Nat} (h : O0At w b n) (ht : Touch S w w') (hb : ¬ S b) : O0At w' b n :=
  ⟨(ht.cell (p := ⟨b, 0, none⟩) h.lt hb).trans h.c0, (ht.cell (p := ⟨b, 1, none⟩) h.lt hb).trans h.c1, (ht.frozen (p := ⟨b, 0, none⟩) h.lt hb).trans h.f0, (ht.frozen (p := ⟨b, 1, none⟩) h.lt hb).trans h.f1⟩
theorem begin_any (n : Nat) (w : World) : Calls Try.prog 25 #[.int .u32 (n : Int)] w fun r w' => r = .returned (.pointer (some ⟨w.heap.size, 0, none⟩)) ∧ O0At w' w.heap.size n ∧ Below w.heap.size w w' := by
  go_enter Try.func25, Try.ntmps25
  go_wp2
  go_ret
  exact ⟨rfl, ⟨by simp, by simp, frozen_new _ _ _ _, frozen_new _ _ _ _⟩, bel_alloc (Below.refl _ _) _⟩
end Go.Proofs.Ytfkhfincggligaa
namespace Go.Proofs.Ytfkhfincggligaa
open Go.RowKit
set_option linter.unusedVariables false

def numW (first d : Nat) : Nat := (first + d) % 4294967296
theorem numW_lt (first d : Nat) : numW first d < 4294967296 := Nat.mod_lt _ (by decide)
theorem numW_succ (first d : Nat) : (numW first d + 1) % 4294967296 = numW first (d + 1) := by unfold numW; omega
theorem dist_ge (first a b : Nat) (h : b ≤ a) (h2 : a - b < 4294967296) : distW (numW first a) (numW first b) = a - b := by
  unfold distW numW; omega
theorem dist_lt (first a b : Nat) (h : a < b) (h2 : b - a < 4294967296) : distW (numW first a) (numW first b) = 4294967296 - (b - a) := by
  unfold distW numW; omega
theorem num_inj (first a b : Nat) (h : numW first a = numW first b) (h1 : a < b + 4294967296) (h2 : b < a + 4294967296) : a = b := by
  unfold numW at h; omega
/-- Things that came, by their places: all below m; of those behind it, just those of G wait. -/
structure InG (first m : Nat) (T : Nat → List UInt8) (G : Nat → Bool) (s : Ws) : Prop where
  nx : s.nx = numW first m
  lo : ∀ d, d < m → G d = true
  gap : G m = false
  hi : ∀ d, G d = true → d ≤ m + 32
  keys : ∀ n t, (n, t) ∈ s.l ↔ ∃ d, G d = true ∧ m < d ∧ n = numW first d ∧ t = T d
  nd : (s.l.map (·.1)).Nodup
def addG (G : Nat → Bool) (d : Nat) : Nat → Bool := fun e => G e || e == d
theorem nodup_filter {l : List (Nat × List UInt8)} (h : (l.map (·.1)).Nodup) (p : Nat × List UInt8 → Bool) : ((l.filter p).map (·.1)).Nodup := h.sublist ((List.filter_sublist).map _)
theorem goW_G (first : Nat) (T : Nat → List UInt8) (G : Nat → Bool) (H : Nat) : ∀ (f : Nat) (s : Ws) (m : Nat), s.nx = numW first m → (∀ d, d < m → G d = true) → (∀ d, G d = true → d ≤ H) → H < m + 1000 → (∀ n t, (n, t) ∈ s.l ↔ ∃ d, G d = true ∧ m ≤ d ∧ n = numW first d ∧ t = T d) → (s.l.map (·.1)).Nodup → s.l.length < f →
    ∃ m', m ≤ m' ∧ (goW f s).2 = (List.range' m (m' - m)).map T ∧ (goW f s).1.nx = numW first m' ∧ (∀ d, d < m' → G d = true) ∧ G m' = false ∧ (∀ n t, (n, t) ∈ (goW f s).1.l ↔ ∃ d, G d = true ∧ m' < d ∧ n = numW first d ∧ t = T d) ∧ ((goW f s).1.l.map (·.1)).Nodup := by
  intro f
  induction f with
  | zero => intro s m _ _ _ _ _ _ hl; omega
  | succ f ih =>
    intro s m hnx hlo hhi hH hk hnd hl
    cases hg : G m with
    | false =>
      have hno : ∀ p ∈ s.l, p.1 ≠ s.nx := fun p hp e => by
        obtain ⟨d, h1, h2, h3, -⟩ := (hk p.1 p.2).1 hp
        have hd := hhi d h1
        rw [hnx, h3] at e
        have := num_inj first d m e (by omega) (by omega)
        subst this
        rw [hg] at h1; cases h1
      rw [goW_none (findW_none hno)]
      refine ⟨m, Nat.le_refl _, by simp, hnx, hlo, hg, fun n t => ?_, hnd⟩
      rw [hk n t]
      constructor
      · rintro ⟨d, h1, h2, h3, h4⟩
        refine ⟨d, h1, ?_, h3, h4⟩
        rcases Nat.eq_or_lt_of_le h2 with e | e
        · subst e; rw [hg] at h1; cases h1
        · exact e
      · rintro ⟨d, h1, h2, h3, h4⟩
        exact ⟨d, h1, by omega, h3, h4⟩
    | true =>
      have hin : (s.nx, T m) ∈ s.l := (hk _ _).2 ⟨m, hg, Nat.le_refl _, hnx, rfl⟩
      have hmH := hhi m hg
      rw [goW_some (findW_of hnd hin)]
      have hless := filter_less hin
      obtain ⟨m', h1, h2, h3, h4, h5, h6, h7⟩ := ih ⟨(s.nx + 1) % 4294967296, s.l.filter (fun p => p.1 != s.nx)⟩ (m + 1) (by simp only; rw [hnx]; exact numW_succ _ _) (fun d hd => by
          rcases Nat.eq_or_lt_of_le (Nat.le_of_lt_succ hd) with e | e
          · subst e; exact hg
          · exact hlo d e) hhi (by omega) (fun n t => by
          simp only [List.mem_filter, hk n t]
          constructor
          · rintro ⟨⟨d, g1, g2, g3, g4⟩, hne⟩
            refine ⟨d, g1, ?_, g3, g4⟩
            rcases Nat.eq_or_lt_of_le g2 with e | e
            · subst e
              simp [g3, hnx] at hne
            · exact e
          · rintro ⟨d, g1, g2, g3, g4⟩
            refine ⟨⟨d, g1, by omega, g3, g4⟩, ?_⟩
            have hd := hhi d g1
            have : n ≠ s.nx := fun e => by
              rw [g3, hnx] at e
              have := num_inj first d m e (by omega) (by omega)
              omega
            simpa using this) (nodup_filter hnd _) (by simp only; omega)
      refine ⟨m', by omega, ?_, h3, h4, h5, h6, h7⟩
      simp only [h2]
      have e1 : m' - m = (m' - (m + 1)) + 1 := by omega
      rw [e1, List.range'_succ]
      simp
theorem InG.put_old {first m : Nat} {T : Nat → List UInt8} {G : Nat → Bool} {s : Ws} (h : InG first m T G s) (d : Nat) (hd : d < m) (h2 : m < d + 2147483648) (t : List UInt8) : putW s (numW first d) t = (s, [], 11) := by
  unfold putW
  rw [if_pos]
  unfold belowB
  rw [h.nx, dist_lt first d m hd (by omega)]
  exact decide_eq_true (by omega)
theorem InG.find {first m : Nat} {T : Nat → List UInt8} {G : Nat → Bool} {s : Ws} (h : InG first m T G s) (d : Nat) (hd : m ≤ d) (h2 : d ≤ m + 32) : findW s.l (numW first d) = if G d = true then some (T d) else none := by
  cases hg : G d with
  | true =>
    have hne : m ≠ d := fun e => by subst e; rw [h.gap] at hg; cases hg
    exact findW_of h.nd ((h.keys _ _).2 ⟨d, hg, by omega, rfl, rfl⟩)
  | false =>
    refine findW_none fun p hp e => ?_
    obtain ⟨d', h1, h3, h4, -⟩ := (h.keys p.1 p.2).1 hp
    have := h.hi d' h1
    rw [h4] at e
    have := num_inj first d' d e (by omega) (by omega)
    subst this
    rw [hg] at h1; cases h1
theorem InG.put {first m : Nat} {T : Nat → List UInt8} {G : Nat → Bool} {s : Ws} (h : InG first m T G s) (d : Nat) (hd : m ≤ d) (h2 : d ≤ m + 32) : (G d = true ∧ putW s (numW first d) (T d) = (s, [], 10)) ∨ (G d = false ∧ ∃ s' m', m ≤ m' ∧ putW s (numW first d) (T d) = (s', (List.range' m (m' - m)).map T, 0) ∧ InG first m' T (addG G d) s') := by
  have hdist : distW (numW first d) s.nx = d - m := by rw [h.nx]; exact dist_ge first d m hd (by omega)
  have hb : belowB (numW first d) s.nx = false := by unfold belowB; rw [hdist]; exact decide_eq_false (by omega)
  have hf := h.find d hd h2
  have hpw : putW s (numW first d) (T d) = if findW s.l (numW first d) ≠ none then (s, [], 10) else ((goW (s.l.length + 2) ⟨s.nx, s.l ++ [(numW first d, T d)]⟩).1, (goW (s.l.length + 2) ⟨s.nx, s.l ++ [(numW first d, T d)]⟩).2, 0) := by
    unfold putW
    rw [if_neg (by rw [hb]; simp), if_neg (by rw [hdist]; omega)]
  cases hg : G d with
  | true =>
    left
    rw [hg] at hf
    exact ⟨rfl, by rw [hpw, hf]; simp⟩
  | false =>
    right
    rw [hg] at hf
    refine ⟨rfl, ?_⟩
    obtain ⟨m', h1, h3, h4, h5, h6, h7, h8⟩ := goW_G first T (addG G d) (m + 32) (s.l.length + 2) ⟨s.nx, s.l ++ [(numW first d, T d)]⟩ m h.nx (fun e he => by unfold addG; rw [h.lo e he]; rfl) (fun e he => by
        unfold addG at he
        rw [Bool.or_eq_true] at he
        rcases he with he | he
        · exact h.hi e he
        · have : e = d := by simpa using he
          omega) (by omega) (fun n t => by
        simp only [List.mem_append, List.mem_singleton, h.keys n t]
        unfold addG
        constructor
        · rintro (⟨e, g1, g2, g3, g4⟩ | e)
          · exact ⟨e, by rw [g1]; rfl, by omega, g3, g4⟩
          · simp only [Prod.mk.injEq] at e
            exact ⟨d, by simp, hd, e.1, e.2⟩
        · rintro ⟨e, g1, g2, g3, g4⟩
          rw [Bool.or_eq_true] at g1
          by_cases hed : e = d
          · subst hed; exact .inr (by rw [g3, g4])
          · rcases g1 with g1 | g1
            · left
              refine ⟨e, g1, ?_, g3, g4⟩
              rcases Nat.eq_or_lt_of_le g2 with e2 | e2
              · subst e2; rw [h.gap] at g1; cases g1
              · exact e2
            · exact absurd (by simpa using g1) hed) (by
        simp only [List.map_append, List.map_cons, List.map_nil]
        rw [List.nodup_append]
        refine ⟨h.nd, by simp, fun a ha b hb' => ?_⟩
        simp at hb'; subst hb'
        obtain ⟨p, hp, rfl⟩ := List.mem_map.1 ha
        intro e
        have := findW_of h.nd (show (numW first d, p.2) ∈ s.l by rw [← e]; exact hp)
        rw [hf] at this; simp at this) (by simp)
    refine ⟨(goW (s.l.length + 2) ⟨s.nx, s.l ++ [(numW first d, T d)]⟩).1, m', h1, ?_, ⟨h4, h5, h6, fun e he => ?_, h7, h8⟩⟩
    · rw [hpw, hf, h3]; simp
    · unfold addG at he
      rw [Bool.or_eq_true] at he
      rcases he with he | he
      · have := h.hi e he; omega
      · have : e = d := by simpa using he
        omega
theorem InG.ok {first m : Nat} {T : Nat → List UInt8} {G : Nat → Bool} {s : Ws} (h : InG first m T G s) : OkW s := by
  intro p hp
  obtain ⟨d, h1, h2, h3, -⟩ := (h.keys p.1 p.2).1 hp
  have := h.hi d h1
  rw [h3, h.nx, dist_ge first d m (by omega) (by omega)]
  exact ⟨numW_lt _ _, by omega, by omega⟩
/-- What an ack of it tells: just what came. -/
theorem InG.has {first m : Nat} {T : Nat → List UInt8} {G : Nat → Bool} {s : Ws} (h : InG first m T G s) {B : Nat} (hB : ∀ k, B.testBit k = true ↔ ∃ p ∈ s.l, distW p.1 s.nx = k + 1) (d : Nat) (h1 : m < d + 2147483648) (h2 : d < m + 2147483648) : hasB s.nx B (numW first d) = G d := by
  unfold hasB belowB
  by_cases hd : d < m
  · rw [h.nx, dist_lt first d m hd (by omega), decide_eq_true (by omega), h.lo d hd]; rfl
  · rw [h.nx, dist_ge first d m (by omega) (by omega), decide_eq_false (by omega), Bool.false_or]
    rcases Nat.eq_or_lt_of_le (Nat.le_of_not_lt hd) with e | e
    · subst e; rw [h.gap]; simp
    · rw [decide_eq_true (by omega : 1 ≤ d - m), Bool.true_and]
      have hb := hB (d - m - 1)
      rw [show d - m - 1 + 1 = d - m by omega] at hb
      cases hg : G d with
      | true =>
        have := h.hi d hg
        rw [decide_eq_true (by omega : d - m ≤ 32), Bool.true_and]
        refine hb.2 ⟨(numW first d, T d), (h.keys _ _).2 ⟨d, hg, e, rfl, rfl⟩, ?_⟩
        rw [h.nx]; exact dist_ge first d m (by omega) (by omega)
      | false =>
        cases ht : B.testBit (d - m - 1) with
        | false => simp
        | true =>
          obtain ⟨p, hp, hpd⟩ := hb.1 ht
          obtain ⟨d', g1, g2, g3, -⟩ := (h.keys p.1 p.2).1 hp
          have := h.hi d' g1
          rw [g3, h.nx, dist_ge first d' m (by omega) (by omega)] at hpd
          have : d' = d := by omega
          subst this
          rw [hg] at g1; cases g1
theorem InG.start (first : Nat) (hf : first < 4294967296) (T : Nat → List UInt8) : InG first 0 T (fun _ => false) ⟨first, []⟩ :=
  ⟨by unfold numW; simp only; omega, (fun d hd => by omega), rfl, (fun d hd => by cases hd), (fun n t => by simp), List.nodup_nil⟩
end Go.Proofs.Ytfkhfincggligaa
namespace Go.Proofs.Ytfkhfincggligaa
open Go.RowKit Go.ChangeMaps
set_option linter.unusedVariables false

theorem bits_zero {P : Nat → Prop} (h : ∀ k, ¬ P k) : ∀ k, Nat.testBit 0 k = true ↔ P k := fun k => by simp [h k]
set_option maxRecDepth 100000 in
set_option maxHeartbeats 2000000 in
theorem inAck_none (b nx : Nat) (w : World) (h : W0At w b nx) : Calls Try.prog 36 #[.pointer (some ⟨b, 0, none⟩)] w (AckPost w ⟨nx, []⟩) := by
  have c0 := h.c0
  have c1 := h.c1
  have hbl := h.lt
  have hrg := run_range_nilMap (P := Try.prog) ((w.alloc (.cells #[.int .u32 0, .int .u32 0] 72)).alloc (.cells #[.int .u32 (nx : Int), .int .u32 0] 72)) 104 54 81 Try.underlying104
  have hnn := fun ty => run_next_nilMap (P := Try.prog) ((w.alloc (.cells #[.int .u32 0, .int .u32 0] 72)).alloc (.cells #[.int .u32 (nx : Int), .int .u32 0] 72)) ty 0 0 #[]
  have e2 : ((w.alloc (.cells #[.int .u32 0, .int .u32 0] 72)).alloc (.cells #[.int .u32 (nx : Int), .int .u32 0] 72)).heap.size = w.heap.size + 1 + 1 := by simp
  simp only [e2] at hrg hnn
  clear e2
  generalize hpost : AckPost w ⟨nx, []⟩ = Post
  have HPost := Lib.hid hpost
  clear h hpost
  go_enter Try.func36, Try.ntmps36
  go_wp2
  refine wp_loop_rounds 1 ?_
  rw [rounds_succ]
  go_wp2
  exact bodyPost_ret (v := .agg #[.int .u32 (nx : Int), .int .u32 0]) (by simp [results, Try.results36, go_sem]) rfl (by rw [← HPost.out]; exact ⟨⟨0, rfl, by decide, fun k => by simp⟩, bel_alloc (bel_alloc (bel_alloc (Below.refl _ _) _) _) _⟩)
theorem inAck_any (b : Nat) (mo : Option Nat) (s : Ws) (w : World) (h : WI w b mo s) (hok : OkW s) : Calls Try.prog 36 #[.pointer (some ⟨b, 0, none⟩)] w (AckPost w s) := by
  rcases h with ⟨h1, h2, h3⟩ | ⟨r, h1, h2⟩
  · obtain ⟨nx, l⟩ := s
    simp only at h2 h3
    subst h2
    exact inAck_none b nx w h3
  · exact inAck_some b r s w h2 hok
theorem len_map {w : World} {r : Nat} {L : List (Nat × Value)} {q : IntKind} (h : MpAt q w r L) (t ty : TypeId) {k e : TypeId} (ht : Try.prog.underlying t = some (.map k e)) : (Builtin.len_ #[t] ty #[.map (some r)]).run Try.prog w = .ok (.int .i64 (L.length : Int)) w := by
  obtain ⟨es, clock, hb, he, -⟩ := h.ex
  have hl := ents_len he
  simp [Builtin.len_, run_underlying ht, MapKept.run_getObj_map hb, Result.andThen, hl]
  rfl
theorem inLen_any (b : Nat) (mo : Option Nat) (s : Ws) (w : World) (h : WI w b mo s) : Calls Try.prog 37 #[.pointer (some ⟨b, 0, none⟩)] w fun r w' => r = .returned (.int .i64 (s.l.length : Int)) ∧ w = w' := by
  rcases h with ⟨rfl, h2, h3⟩ | ⟨r, rfl, h2⟩
  · have c1 := h3.c1
    have hbl := h3.lt
    rw [h2]
    clear h3
    go_enter Try.func37, Try.ntmps37
    go_wp2
    go_ret
    exact ⟨rfl, rfl⟩
  · have c1 := h2.c1
    have hbl := h2.lt
    have hlm := fun ty => len_map h2.mp 104 ty Try.underlying104
    have he : (entL s.l).length = s.l.length := by simp [entL]
    rw [he] at hlm
    clear h2 he
    go_enter Try.func37, Try.ntmps37
    go_wp2
    go_ret
    exact ⟨rfl, rfl⟩
end Go.Proofs.Ytfkhfincggligaa
namespace Go.Proofs.Ytfkhfincggligaa
open Go.RowKit
set_option linter.unusedVariables false

def itCells (p : Nat × List UInt8) : List Value := [.int .u32 (p.1 : Int), .string (bs p.2)]
theorem it_wide (l : List (Nat × List UInt8)) : VWide 2 (l.map itCells) := by
  intro x hx
  obtain ⟨p, -, rfl⟩ := List.mem_map.1 hx
  refine ⟨rfl, fun u hu => ?_⟩
  simp only [itCells, List.mem_cons, List.not_mem_nil, or_false] at hu
  rcases hu with rfl | rfl <;> rfl
theorem itTy : VTy 81 2 (.agg #[.int .u32 0, .string ⟨#[]⟩]) 24 := ⟨by kernel_rfl, rfl, by decide, by decide⟩
/-- What was sent, at b: the next number, what is on its way. -/
structure OAt (w : World) (b n : Nat) (a : Option Addr) (c : Nat) (l : List (Nat × List UInt8)) : Prop where
  c0 : w.cell? ⟨b, 0, none⟩ = some (.int .u32 (n : Int))
  c1 : w.cell? ⟨b, 1, none⟩ = some (.slice a l.length c)
  f0 : w.frozen? ⟨b, 0, none⟩ = false
  f1 : w.frozen? ⟨b, 1, none⟩ = false
  row : OwnV 81 2 0 a c (l.map itCells) w
  ne : ∀ x, a = some x → x.block ≠ b
  nx : n < 4294967296
theorem OAt.lt {w : World} {b n : Nat} {a : Option Addr} {c : Nat} {l : List (Nat × List UInt8)} (h : OAt w b n a c l) : b < w.heap.size := block_lt_of_cell h.c0
theorem OAt.touch {S : Nat → Prop} {w w' : World} {b n : Nat} {a : Option Addr} {c : Nat} {l : List (Nat × List UInt8)} (h : OAt w b n a c l) (ht : Touch S w w') (hb : ¬ S b) (ha : ∀ x, a = some x → ¬ S x.block) : OAt w' b n a c l :=
  ⟨(ht.cell (p := ⟨b, 0, none⟩) h.lt hb).trans h.c0, (ht.cell (p := ⟨b, 1, none⟩) h.lt hb).trans h.c1, (ht.frozen (p := ⟨b, 0, none⟩) h.lt hb).trans h.f0, (ht.frozen (p := ⟨b, 1, none⟩) h.lt hb).trans h.f1, h.row.touch ht ha, h.ne, h.nx⟩
theorem OAt.keep {w w' : World} {b n : Nat} {a : Option Addr} {c : Nat} {l : List (Nat × List UInt8)} (h : OAt w b n a c l) (hb : Below w.heap.size w w') : OAt w' b n a c l := h.touch (touch_of_below (S := fun _ => False) hb) id (fun _ _ => id)
theorem O0At.oat {w : World} {b n : Nat} (h : O0At w b n) (hn : n < 4294967296) : OAt w b n none 0 [] :=
  ⟨h.c0, h.c1, h.f0, h.f1, ⟨World.ownsRow_nil _ _ _ _, (fun x hx => by cases hx)⟩, (fun x hx => by cases hx), hn⟩
/-- One thing more: what the append and the stores come to. -/
theorem OAt.one {w : World} {b n : Nat} {a : Option Addr} {c : Nat} {l : List (Nat × List UInt8)} (h : OAt w b n a c l) (t : List UInt8) (hl : l.length ≤ 100000) (k : Nat) (hk : l.length = k) :
    ∃ a' c' w1, (Builtin.append_ #[76, 76] 76 #[.slice a k c, .slice (some ⟨w.heap.size, 0, none⟩) 1 1]).run Try.prog (w.alloc (.cells #[.int .u32 (n : Int), .string (bs t)] 81)) = .ok (.slice a' (k + 1) c') w1 ∧ w1.cell? ⟨b, 1, none⟩ = some (.slice a k c) ∧ w1.cell? ⟨b, 0, none⟩ = some (.int .u32 (n : Int)) ∧ w1.frozen? ⟨b, 1, none⟩ = false ∧ w1.frozen? ⟨b, 0, none⟩ = false ∧ b < w1.heap.size ∧
      (∀ x, a' = some x → a.map (·.block) = some x.block ∨ w.heap.size ≤ x.block) ∧ Touch (fun j => j = b ∨ a.map (·.block) = some j) w ((w1.setCell ⟨b, 1, none⟩ (.slice a' (k + 1) c')).setCell ⟨b, 0, none⟩ (.int .u32 (((n + 1) % 4294967296 : Nat) : Int))) ∧ OAt ((w1.setCell ⟨b, 1, none⟩ (.slice a' (k + 1) c')).setCell ⟨b, 0, none⟩ (.int .u32 (((n + 1) % 4294967296 : Nat) : Int))) b ((n + 1) % 4294967296) a' c' (l ++ [(n, t)]) := by
  obtain ⟨a', c', w1, h1, h2, h3, h4⟩ := own_app itTy Try.underlying76 (h.row.touch (touch_of_below (S := fun _ => False) (bel_alloc (Below.refl _ _) (.cells #[.int .u32 (n : Int), .string (bs t)] 81))) (fun _ _ => id)) w.heap.size 0 1 1 [itCells (n, t)] (it_wide [(n, t)]) rfl
    (fun i hi j hj => by
      obtain rfl : i = 0 := by simpa using hi
      have : j = 0 ∨ j = 1 := by omega
      rcases this with rfl | rfl <;> simp [itCells]) (by simp; omega) k (by simpa using hk)
  rw [show l.map itCells ++ [itCells (n, t)] = (l ++ [(n, t)]).map itCells by simp] at h2
  have hbl := h.lt
  have hT : Touch (fun j => a.map (·.block) = some j) w w1 := ((Touch.refl (fun j => a.map (·.block) = some j) w).alloc (.cells #[.int .u32 (n : Int), .string (bs t)] 81)).trans h3
  have hnb : ¬ a.map (·.block) = some b := fun e => by
    cases a with
    | none => simp at e
    | some x => simp at e; exact h.ne x rfl e
  have q1 := (hT.cell (p := ⟨b, 1, none⟩) hbl hnb).trans h.c1
  have q0 := (hT.cell (p := ⟨b, 0, none⟩) hbl hnb).trans h.c0
  have g1 := (hT.frozen (p := ⟨b, 1, none⟩) hbl hnb).trans h.f1
  have g0 := (hT.frozen (p := ⟨b, 0, none⟩) hbl hnb).trans h.f0
  rw [hk] at q1
  have hfr : ∀ x, a' = some x → a.map (·.block) = some x.block ∨ w.heap.size ≤ x.block := fun x hx => (h4 x hx).imp id fun e => by simp at e; omega
  have hne : ∀ x, a' = some x → x.block ≠ b := fun x hx e => by
    rcases hfr x hx with e2 | e2
    · exact hnb (e ▸ e2)
    · omega
  have ht2 : Touch (fun j => j = b) w1 ((w1.setCell ⟨b, 1, none⟩ (.slice a' (k + 1) c')).setCell ⟨b, 0, none⟩ (.int .u32 (((n + 1) % 4294967296 : Nat) : Int))) := ((Touch.refl (fun j => j = b) w1).setCell (p := ⟨b, 1, none⟩) (fun _ => rfl) _).setCell (p := ⟨b, 0, none⟩) (fun _ => rfl) _
  refine ⟨a', c', w1, h1, q1, q0, g1, g0, by have := hT.size; omega, hfr, (hT.mono (fun _ _ e => .inr e)).trans' ht2 (fun _ _ e => .inl e), ⟨World.cell?_setCell_same _ _ _ ((World.cell?_setCell_other _ _ _ _ (by simp)).trans q0), ?_, by simpa using g0, by simpa using g1, h2.touch ht2 (fun x hx => hne x hx), hne, Nat.mod_lt _ (by decide)⟩⟩
  have : (w1.setCell ⟨b, 1, none⟩ (.slice a' (k + 1) c')).cell? ⟨b, 1, none⟩ = some (.slice a' (k + 1) c') := World.cell?_setCell_same _ _ _ q1
  rw [List.length_append, hk]
  exact (World.cell?_setCell_other _ _ _ _ (by simp)).trans this
def WPushPost (w : World) (b n : Nat) (a : Option Addr) (l : List (Nat × List UInt8)) (t : List UInt8) (r : Ending) (w' : World) : Prop :=
  r = .returned (.tuple #[.int .u32 (n : Int), .int .i64 0]) ∧ ∃ a' c', OAt w' b ((n + 1) % 4294967296) a' c' (l ++ [(n, t)]) ∧ (∀ x, a' = some x → a.map (·.block) = some x.block ∨ w.heap.size ≤ x.block) ∧ Touch (fun j => j = b ∨ a.map (·.block) = some j) w w'
set_option maxRecDepth 100000 in
set_option maxHeartbeats 2000000 in
theorem push_ok (b n : Nat) (a : Option Addr) (c : Nat) (l : List (Nat × List UInt8)) (t : List UInt8) (w : World) (h : OAt w b n a c l) (hl : l.length ≤ 1000) (hks : ∀ p ∈ l, p.1 < 4294967296) (hr : l = [] ∨ ∃ p l', l = p :: l' ∧ distW n p.1 < 32) :
    Calls Try.prog 26 #[.pointer (some ⟨b, 0, none⟩), .string (bs t)] w (WPushPost w b n a l t) := by
  have hws := wrap_succ n h.nx
  have HWS := Lib.hid hws
  clear hws
  generalize hpost : WPushPost w b n a l t = Post
  have HPost := Lib.hid hpost
  clear hpost
  have c0 := h.c0
  have c1 := h.c1
  have hbl := h.lt
  have HH := Lib.hid h
  rcases hr with rfl | ⟨p, l', rfl, hd⟩
  · simp only [List.length_nil] at c1
    clear h
    go_enter Try.func26, Try.ntmps26
    go_upto_region 1 with (fail)
    go_quiet (fail)
    have HK := Lib.hid (HH.out.keep (drewN_bel w nq))
    have HB : Hid (Below w.heap.size w (w.drewN nq)) := Lib.hid (drewN_bel w nq)
    generalize w.drewN nq = W2 at HK HB ⊢
    clear c0 c1 hbl
    have c0 := HK.out.c0
    have c1 := HK.out.c1
    have hbl := HK.out.lt
    simp only [List.length_nil] at c1
    obtain ⟨a', c', w1, hrun, q1, q0, g1, g0, hb1, hfr, hto, hoat⟩ := HK.out.one t (by simp only [List.length_nil]; omega) (0) rfl
    have HRUN := Lib.hid hrun
    have HOA := Lib.hid hoat
    have HFR := Lib.hid hfr
    have HTO := Lib.hid ((touch_of_below HB.out).trans hto)
    have hws := HWS.out
    clear hrun hoat hfr hto HK
    generalize hm2 : (n + 1) % 4294967296 = m2 at HOA HTO hws
    have HM2 := Lib.hid hm2
    clear hm2
    go_wp2_with (at_builtin; refine wpList_append_run _ rfl (.tmp 36) (.tmp 40) 76 76 rfl _ _ rfl rfl (.slice a' (0 + 1) c') w1 HRUN.out ?_)
    rw [← HPost.out]
    exact ⟨rfl, a', c', by rw [HM2.out]; exact HOA.out, fun x hx => (HFR.out x hx).imp id fun e => by have := HB.out.size; omega, HTO.out⟩
  · have hg := h.row.row (it_wide _) (by simp)
    obtain ⟨g, off, rfl, hc⟩ := hg
    have x0 := hc 0 (by simp) 0 (by decide)
    simp only [List.map_cons, List.getElem_cons_zero, Nat.zero_mul, Nat.add_zero] at x0
    have x0' : w.cell? ⟨g, off, none⟩ = some (.int .u32 (p.1 : Int)) := x0
    have hgl := block_lt_of_cell x0'
    simp only at hgl
    have hp := hks p (by simp)
    have hwd := wrap_sub n p.1 h.nx hp
    have hll : l'.length + 1 ≤ 1000 := by simpa using hl
    simp only [List.length_cons] at c1
    have hpos : decide ((0 : Int) < (l'.length : Int) + 1) = true := decide_eq_true (by omega)
    have hdi : decide ((32 : Int) ≤ (distW n p.1 : Nat)) = false := by simp; omega
    generalize distW n p.1 = d at hd hwd hdi
    have hpos2 : (0 : Int) < (l'.length : Int) + 1 := by omega
    clear h hc x0
    go_enter Try.func26, Try.ntmps26
    go_upto_region 1 with (fail)
    go_quiet (fail)
    clear hwd hdi hpos x0' hgl
    have HK := Lib.hid (HH.out.keep (drewN_bel w nq))
    have HB : Hid (Below w.heap.size w (w.drewN nq)) := Lib.hid (drewN_bel w nq)
    generalize w.drewN nq = W2 at HK HB ⊢
    clear c0 c1 hbl
    have c0 := HK.out.c0
    have c1 := HK.out.c1
    have hbl := HK.out.lt
    simp only [List.length_cons] at c1
    obtain ⟨a', c', w1, hrun, q1, q0, g1, g0, hb1, hfr, hto, hoat⟩ := HK.out.one t (by simp only [List.length_cons]; omega) (l'.length + 1) rfl
    have HRUN := Lib.hid hrun
    have HOA := Lib.hid hoat
    have HFR := Lib.hid hfr
    have HTO := Lib.hid ((touch_of_below HB.out).trans hto)
    have hws := HWS.out
    clear hrun hoat hfr hto HK
    generalize hm2 : (n + 1) % 4294967296 = m2 at HOA HTO hws
    have HM2 := Lib.hid hm2
    clear hm2
    go_wp2_with (at_builtin; refine wpList_append_run _ rfl (.tmp 36) (.tmp 40) 76 76 rfl _ _ rfl rfl (.slice a' (l'.length + 1 + 1) c') w1 HRUN.out ?_)
    rw [← HPost.out]
    exact ⟨rfl, a', c', by rw [HM2.out]; exact HOA.out, fun x hx => (HFR.out x hx).imp id fun e => by have := HB.out.size; omega, HTO.out⟩
end Go.Proofs.Ytfkhfincggligaa
namespace Go.Proofs.Ytfkhfincggligaa
open Go.RowKit
set_option linter.unusedVariables false

/-- What came at b1, what was sent at b2. -/
structure Aw (w : World) (b1 b2 : Nat) (mo : Option Nat) (s : Ws) (wr : World) : Prop where
  wi : WI wr b1 mo s
  o0 : O0At wr b2 7
  bel : Below w.heap.size w wr
  h1 : w.heap.size ≤ b1
  h2 : w.heap.size ≤ b2
  ne : b1 ≠ b2
  hm : ∀ r, mo = some r → w.heap.size ≤ r ∧ r ≠ b2
theorem Aw.keep {w : World} {b1 b2 : Nat} {mo : Option Nat} {s : Ws} {wr w' : World} (h : Aw w b1 b2 mo s wr) (hb : Below wr.heap.size wr w') : Aw w b1 b2 mo s w' :=
  ⟨h.wi.keep hb, h.o0.touch (touch_of_below (S := fun _ => False) hb) id, h.bel.trans (hb.mono h.bel.size), h.h1, h.h2, h.ne, h.hm⟩
theorem Aw.put {w : World} {b1 b2 : Nat} {mo mo' : Option Nat} {s s' : Ws} {wr w' : World} (h : Aw w b1 b2 mo s wr) (hw : WI w' b1 mo' s') (hf : ∀ r, mo' = some r → mo = some r ∨ wr.heap.size ≤ r) (ht : Touch (fun k => k = b1 ∨ mo = some k) wr w') : Aw w b1 b2 mo' s' w' := by
  have hs := h.bel.size
  have hol := h.o0.lt
  refine ⟨hw, h.o0.touch ht (fun e => ?_), h.bel.trans (ht.below hs fun k hk e => ?_), h.h1, h.h2, h.ne, fun r hr => ?_⟩
  · rcases e with e | e
    · exact h.ne e.symm
    · exact (h.hm _ e).2 rfl
  · rcases e with e | e
    · have := h.h1; omega
    · have := (h.hm _ e).1; omega
  · rcases hf r hr with e | e
    · exact h.hm r e
    · exact ⟨by omega, by omega⟩
theorem WI.wat {w : World} {b : Nat} {mo : Option Nat} {s : Ws} (h : WI w b mo s) (hl : s.l ≠ []) : ∃ r, WAt w b r s := by
  rcases h with ⟨h1, h2, h3⟩ | ⟨r, h1, h2⟩
  · exact absurd h2 hl
  · exact ⟨r, h2⟩
theorem bits_five (B : Nat) (h : ∀ k, B.testBit k = true ↔ ∃ p ∈ ([(6, [98]), (8, [100])] : List (Nat × List UInt8)), distW p.1 5 = k + 1) : B = 5 := by
  apply Nat.eq_of_testBit_eq
  intro k
  have hk := h k
  have e6 : distW 6 5 = 1 := by decide
  have e8 : distW 8 5 = 3 := by decide
  simp only [List.mem_cons, List.not_mem_nil, or_false, exists_eq_or_imp, exists_eq_left, e6, e8] at hk
  have h5 : Nat.testBit 5 k = true ↔ 1 = k + 1 ∨ 3 = k + 1 := by
    match k with
    | 0 => decide
    | 1 => decide
    | 2 => decide
    | k + 3 =>
      have : Nat.testBit 5 (k + 3) = false := Nat.testBit_lt_two_pow (Nat.lt_of_lt_of_le (by decide : 5 < 2 ^ 3) (Nat.pow_le_pow_right (by decide) (by omega)))
      rw [this]; simp
  cases hB : B.testBit k <;> cases h5B : Nat.testBit 5 k <;> simp_all
theorem bits_one (B : Nat) (h : ∀ k, B.testBit k = true ↔ ∃ p ∈ [((8 : Nat), ([100] : List UInt8))], distW p.1 7 = k + 1) : B = 1 := by
  apply Nat.eq_of_testBit_eq
  intro k
  have hk := h k
  have e8 : distW 8 7 = 1 := by decide
  simp only [List.mem_cons, List.not_mem_nil, or_false, exists_eq_left, e8] at hk
  have h5 : Nat.testBit 1 k = true ↔ 1 = k + 1 := by
    match k with
    | 0 => decide
    | k + 1 =>
      have : Nat.testBit 1 (k + 1) = false := Nat.testBit_lt_two_pow (Nat.lt_of_lt_of_le (by decide : 1 < 2 ^ 1) (Nat.pow_le_pow_right (by decide) (by omega)))
      rw [this]; simp
  cases hB : B.testBit k <;> cases h5B : Nat.testBit 1 k <;> simp_all
theorem ack_same (a b : Int) (w : World) : (binOp .eql 72 (.agg #[.int .u32 a, .int .u32 b]) (.agg #[.int .u32 a, .int .u32 b])).run Try.prog w = .ok (.bool true) w := by
  go_simp
theorem aw_put1 : putW ⟨5, []⟩ 6 [98] = (⟨5, [(6, [98])]⟩, [], 0) := by kernel_rfl
theorem aw_put2 : putW ⟨5, [(6, [98])]⟩ 8 [100] = (⟨5, [(6, [98]), (8, [100])]⟩, [], 0) := by kernel_rfl
theorem aw_put3 : putW ⟨5, [(6, [98]), (8, [100])]⟩ 5 [97] = (⟨7, [(8, [100])]⟩, [[97], [98]], 0) := by kernel_rfl
theorem aw_ok2 : OkW ⟨5, [(6, [98]), (8, [100])]⟩ := by
  intro p hp
  simp only [List.mem_cons, List.not_mem_nil, or_false] at hp
  rcases hp with rfl | rfl <;> decide
theorem aw_ok3 : OkW ⟨7, [(8, [100])]⟩ := by
  intro p hp
  simp only [List.mem_cons, List.not_mem_nil, or_false] at hp
  subst hp; decide
set_option maxRecDepth 100000 in
set_option maxHeartbeats 2000000 in
theorem awake13_any (w : World) : Calls Try.prog 24 #[] w fun e w' => e = .returned (.bool true) ∧ Below w.heap.size w w' := by
  have HEX := Lib.hid (fun W => expect_any 5 (by decide) W)
  have HBG := Lib.hid (fun W => begin_any 7 W)
  have HP1 := Lib.hid (fun b mo W h => inPut_any b mo ⟨5, []⟩ 6 [98] W h (by decide) (by simp))
  have HP2 := Lib.hid (fun b mo W h => inPut_any b mo ⟨5, [(6, [98])]⟩ 8 [100] W h (by decide) (by simp))
  have HP3 := Lib.hid (fun b mo W h => inPut_any b mo ⟨5, [(6, [98]), (8, [100])]⟩ 5 [97] W h (by decide) (by simp))
  rw [aw_put1] at HP1
  rw [aw_put2] at HP2
  rw [aw_put3] at HP3
  unfold itV at HP1 HP2 HP3
  have HH6 := Lib.hid (fun W => has_any 5 5 6 W (by decide) (by decide) (by decide))
  have HH5 := Lib.hid (fun W => has_any 5 5 5 W (by decide) (by decide) (by decide))
  rw [show hasB 5 5 6 = true by decide] at HH6
  rw [show hasB 5 5 5 = false by decide] at HH5
  go_enter Try.func24, Try.ntmps24
  go_wp2_with fail
  refine (HEX.out _).mono ?_
  rintro r w1 ⟨rfl, hwi, hb1⟩
  have HWI := Lib.hid hwi
  have HB1 := Lib.hid hb1
  clear hwi hb1 HEX
  go_wp2_with fail
  refine (HBG.out _).mono ?_
  rintro r w2 ⟨rfl, ho, hb2⟩
  have HA2 : Hid (Aw w w.heap.size w1.heap.size none ⟨5, []⟩ w2) := Lib.hid ⟨HWI.out.keep hb2, ho, HB1.out.trans (hb2.mono HB1.out.size), Nat.le_refl _, HB1.out.size, by have := HWI.out.lt; omega, (fun r hr => by cases hr)⟩
  clear ho hb2 HBG HWI HB1
  generalize w.heap.size = b1 at HA2 ⊢
  generalize w1.heap.size = b2 at HA2 ⊢
  go_wp2_with fail
  refine (HP1.out _ _ _ HA2.out.wi).mono ?_
  rintro r w3 ⟨a3, c3, mo3, rfl, hw3, hf3, -, ht3⟩
  have HA3 := Lib.hid (HA2.out.put hw3 hf3 ht3)
  clear hw3 hf3 ht3 HA2 HP1
  go_wp2_with fail
  refine (HP2.out _ _ _ HA3.out.wi).mono ?_
  rintro r w4 ⟨a4, c4, mo4, rfl, hw4, hf4, -, ht4⟩
  have HA4 := Lib.hid (HA3.out.put hw4 hf4 ht4)
  clear hw4 hf4 ht4 HA3 HP2
  obtain ⟨r4, hwat⟩ := HA4.out.wi.wat (by simp)
  have HAK := Lib.hid (inAck_some b1 r4 _ w4 hwat aw_ok2)
  clear hwat
  go_wp2_with fail
  refine HAK.out.mono ?_
  rintro r w5 ⟨⟨B, rfl, -, hB⟩, hb5⟩
  have hB5 := bits_five B hB
  subst hB5
  have HA5 := Lib.hid (HA4.out.keep hb5)
  clear hb5 HA4 HAK hB
  have HA6 := Lib.hid (HA5.out.keep (bel_alloc (Below.refl _ _) (.cells #[.int .u32 5, .int .u32 5] 72)))
  have x0 : (w5.alloc (.cells #[.int .u32 5, .int .u32 5] 72)).cell? ⟨w5.heap.size, 0, none⟩ = some (.int .u32 5) := by simp
  have x1 : (w5.alloc (.cells #[.int .u32 5, .int .u32 5] 72)).cell? ⟨w5.heap.size, 1, none⟩ = some (.int .u32 5) := by simp
  have HX0 := Lib.hid x0
  have HX1 := Lib.hid x1
  have HN1 : Hid (∀ k, mo4 = some k → k ≠ w5.heap.size) := Lib.hid (fun k hk => by
    rcases HA5.out.wi with ⟨h1, -⟩ | ⟨r', h1, h2⟩
    · rw [h1] at hk; cases hk
    · rw [h1] at hk; cases hk; have := h2.mp.lt; omega)
  have hb1l := HA5.out.wi.lt
  have hb2l := HA5.out.o0.lt
  clear x0 x1 HA5
  go_wp2_with fail
  generalize w5.alloc (.cells #[.int .u32 5, .int .u32 5] 72) = W6 at HA6 HX0 HX1 ⊢
  generalize w5.heap.size = X at HX0 HX1 HN1 hb1l hb2l ⊢
  refine (HP3.out _ _ _ HA6.out.wi).mono ?_
  rintro r w7 ⟨a7, c7, mo7, rfl, hw7, hf7, -, ht7⟩
  have hnX : ¬ (X = b1 ∨ mo4 = some X) := by
    rintro (e | e)
    · omega
    · exact HN1.out X e rfl
  have y0 := (ht7.cell (p := ⟨X, 0, none⟩) (block_lt_of_cell HX0.out) hnX).trans HX0.out
  have y1 := (ht7.cell (p := ⟨X, 1, none⟩) (block_lt_of_cell HX1.out) hnX).trans HX1.out
  have HA7 := Lib.hid (HA6.out.put hw7 hf7 ht7)
  have HX0 := Lib.hid y0
  have HX1 := Lib.hid y1
  clear hw7 hf7 ht7 HA6 HP3 y0 y1
  have HPU := Lib.hid (push_ok b2 7 none 0 [] [120] w7 (HA7.out.o0.oat (by decide)) (by simp) (by simp) (.inl rfl))
  go_wp2_with fail
  refine HPU.out.mono ?_
  rintro r w8 ⟨rfl, a8, c8, -, -, ht8⟩
  have hn8 : ∀ k, k ≠ b2 → ¬ (k = b2 ∨ (none : Option Addr).map (·.block) = some k) := fun k hk e => by
    rcases e with e | e
    · exact hk e
    · simp at e
  have y0 := (ht8.cell (p := ⟨X, 0, none⟩) (block_lt_of_cell HX0.out) (hn8 X (by omega))).trans HX0.out
  have y1 := (ht8.cell (p := ⟨X, 1, none⟩) (block_lt_of_cell HX1.out) (hn8 X (by omega))).trans HX1.out
  have HW8 := Lib.hid (HA7.out.wi.touch ht8 (hn8 b1 HA7.out.ne) (fun r hr => hn8 r (HA7.out.hm r hr).2))
  have HB8 := Lib.hid (HA7.out.bel.trans (ht8.below HA7.out.bel.size (fun k hk => hn8 k (by have := HA7.out.h2; omega))))
  clear ht8 HPU HX0 HX1
  obtain ⟨r8, hwat⟩ := HW8.out.wat (by simp)
  have HAK := Lib.hid (inAck_some b1 r8 _ w8 hwat aw_ok3)
  clear hwat
  have hs1 := ack_same 5 5
  have hs2 := ack_same 7 1
  have hXl := block_lt_of_cell y0
  simp only at hXl
  go_wp2_with fail
  refine HAK.out.mono ?_
  rintro r w9 ⟨⟨B, rfl, -, hB⟩, hb9⟩
  have hB1 := bits_one B hB
  subst hB1
  have z0 := (hb9.cell (p := ⟨X, 0, none⟩) (block_lt_of_cell y0)).trans y0
  have z1 := (hb9.cell (p := ⟨X, 1, none⟩) (block_lt_of_cell y1)).trans y1
  have HB9 := Lib.hid (HB8.out.trans (hb9.mono HB8.out.size))
  clear hb9 HAK hB y0 y1 hXl
  have hXl := block_lt_of_cell z0
  simp only at hXl
  go_wp2_with fail
  refine (HH6.out _).mono ?_
  rintro r w10 ⟨rfl, hb10⟩
  have y0 := (hb10.cell (p := ⟨X, 0, none⟩) (block_lt_of_cell z0)).trans z0
  have y1 := (hb10.cell (p := ⟨X, 1, none⟩) (block_lt_of_cell z1)).trans z1
  have HB10 := Lib.hid (HB9.out.trans (hb10.mono HB9.out.size))
  clear hb10 z0 z1 hXl HH6
  have hXl := block_lt_of_cell y0
  simp only at hXl
  go_wp2_with fail
  refine (HH5.out _).mono ?_
  rintro r w11 ⟨rfl, hb11⟩
  have HB11 := Lib.hid (HB10.out.trans (hb11.mono HB10.out.size))
  clear hb11
  go_wp2
  go_ret
  exact ⟨rfl, HB11.out⟩
end Go.Proofs.Ytfkhfincggligaa
namespace Go.Proofs.Ytfkhfincggligaa
open Go.RowKit
set_option linter.unusedVariables false

theorem own_str {B : Nat} {a : Option Addr} {c : Nat} {ms : List (List UInt8)} {w : World} (h : OwnV 9 1 B a c (ms.map strCells1) w) (h0 : 0 < ms.length) : ∃ gb, a = some ⟨gb, 0, none⟩ ∧ gb < w.heap.size ∧ ∀ i (hi : i < ms.length), w.cell? ⟨gb, i, none⟩ = some (.string (bs ms[i])) := by
  have hlen : (ms.map strCells1).length = ms.length := by simp
  rcases h.1.2 with ⟨-, h00⟩ | ⟨g, cap, cur, hv, -, hg, hnc, -, hsz, htk⟩
  · omega
  · have hr := h.row (str_wide _) (by rw [hlen]; exact h0)
    obtain ⟨b, off, e1, hc⟩ := hr
    simp only [Value.slice.injEq] at hv
    rw [hv.1] at e1
    simp only [Option.some.injEq, Addr.mk.injEq] at e1
    obtain ⟨rfl, rfl, -⟩ := e1
    refine ⟨g, hv.1, (Array.getElem?_eq_some_iff.1 hg).1, fun i hi => ?_⟩
    have h1 := hc i (by rw [hlen]; exact hi) 0 (by decide)
    rw [Nat.zero_add, Nat.mul_one, Nat.add_zero] at h1
    rw [h1]
    simp [strCells1]
/-- The parts of some messages, and these, each in a row of its own. -/
structure FaMem (w : World) (ms : List (List UInt8)) (a : Option Addr) (c : Nat) (a2 : Option Addr) (c2 : Nat) (ps : List Pt) (wr : World) : Prop where
  r1 : OwnV 34 2 0 a c (ps.map ptCells) wr
  r2 : OwnV 9 1 0 a2 c2 (ms.map strCells1) wr
  n1 : ∀ x, a = some x → w.heap.size ≤ x.block
  n2 : ∀ x, a2 = some x → w.heap.size ≤ x.block
  dj : ∀ x y, a = some x → a2 = some y → x.block ≠ y.block
  bel : Below w.heap.size w wr
theorem FaMem.keep {w : World} {ms : List (List UInt8)} {a a2 : Option Addr} {c c2 : Nat} {ps : List Pt} {wr w' : World} (h : FaMem w ms a c a2 c2 ps wr) (hb : Below wr.heap.size wr w') : FaMem w ms a c a2 c2 ps w' :=
  ⟨h.r1.touch (touch_of_below (S := fun _ => False) hb) (fun _ _ => id), h.r2.touch (touch_of_below (S := fun _ => False) hb) (fun _ _ => id), h.n1, h.n2, h.dj, h.bel.trans (hb.mono h.bel.size)⟩
theorem map_none {a : Option Addr} {P : Nat → Prop} (h : ∀ x, a = some x → P x.block) (k : Nat) (e : a.map (·.block) = some k) : P k := by
  cases a with
  | none => simp at e
  | some y => simp at e; subst e; exact h y rfl
theorem FaMem.parts {w : World} {ms : List (List UInt8)} {a a2 a' : Option Addr} {c c2 c' : Nat} {ps ps' : List Pt} {wr w' : World} (h : FaMem w ms a c a2 c2 ps wr) (ho : OwnV 34 2 0 a' c' (ps'.map ptCells) w') (ht : Touch (fun k => a.map (·.block) = some k) wr w') (hn : ∀ x, a' = some x → a.map (·.block) = some x.block ∨ wr.heap.size ≤ x.block) : FaMem w ms a' c' a2 c2 ps' w' := by
  have hs := h.bel.size
  refine ⟨ho, h.r2.touch ht (fun y hy e => map_none (P := fun k => k = y.block → False) (fun x hx e => h.dj x y hx hy e) _ e rfl), fun x hx => ?_, h.n2, fun x y hx hy => ?_, h.bel.trans (ht.below hs fun k hk e => by have := map_none (P := fun k => w.heap.size ≤ k) h.n1 k e; omega)⟩
  · rcases hn x hx with e | e
    · exact map_none (P := fun k => w.heap.size ≤ k) h.n1 _ e
    · omega
  · rcases hn x hx with e | e
    · exact map_none (P := fun k => k ≠ y.block) (fun z hz => h.dj z y hz hy) _ e
    · have := h.r2.lt y hy; omega
theorem FaMem.texts {w : World} {ms ms' : List (List UInt8)} {a a2 a' : Option Addr} {c c2 c' : Nat} {ps : List Pt} {wr w' : World} (h : FaMem w ms a c a2 c2 ps wr) (ho : OwnV 9 1 0 a' c' (ms'.map strCells1) w') (ht : Touch (fun k => a2.map (·.block) = some k) wr w') (hn : ∀ x, a' = some x → a2.map (·.block) = some x.block ∨ wr.heap.size ≤ x.block) : FaMem w ms' a c a' c' ps w' := by
  have hs := h.bel.size
  refine ⟨h.r1.touch ht (fun y hy e => map_none (P := fun k => y.block = k → False) (fun x hx e => h.dj y x hy hx e) _ e rfl), ho, h.n1, fun x hx => ?_, fun x y hx hy => ?_, h.bel.trans (ht.below hs fun k hk e => by have := map_none (P := fun k => w.heap.size ≤ k) h.n2 k e; omega)⟩
  · rcases hn x hx with e | e
    · exact map_none (P := fun k => w.heap.size ≤ k) h.n2 _ e
    · omega
  · rcases hn y hy with e | e
    · exact map_none (P := fun k => x.block ≠ k) (fun z hz => h.dj x z hx hz) _ e
    · have := h.r1.lt x hx; omega
theorem parts_snoc (ms : List (List UInt8)) (m : List UInt8) : partsOf (ms ++ [m]) = partsOf ms ++ cutL m := by simp [partsOf]
/-- All that the first loop knows. -/
structure FaIn (w : World) (k n : Nat) (ms : List (List UInt8)) (a : Option Addr) (c : Nat) (a2 : Option Addr) (c2 : Nat) (wr : World) : Prop where
  hn : (partsOf ms).length = n
  hk : ms.length = k
  sz : ∀ m ∈ ms, m.length ≤ 700
  mem : FaMem w ms a c a2 c2 (partsOf ms) wr
theorem parts_text (ms : List (List UInt8)) : ∀ p ∈ partsOf ms, p.text.length ≤ 1000000 := by
  intro p hp
  unfold partsOf at hp
  obtain ⟨x, hx, hpx⟩ := List.mem_flatten.1 hp
  obtain ⟨m, -, rfl⟩ := List.mem_map.1 hx
  obtain ⟨i, hi, rfl⟩ := List.getElem_of_mem hpx
  have := cutL_text m i hi
  omega
set_option maxRecDepth 100000 in
set_option maxHeartbeats 2000000 in
theorem fragAll_walk (w : World) (a0 : Option Addr) (cap : Nat) (ss : List ByteArray) (hrow : StrRow w a0 ss) :
    Calls Try.prog 5 #[.slice a0 ss.length cap] w fun e w' => e = .returned (.bool true) ∧ Below w.heap.size w w' := by
  have HAW := Lib.hid (fun W => awake12_any W)
  obtain ⟨hlm, hsz, hcells⟩ := hrow
  unfold maxLen at hlm
  have HSZ := Lib.hid hsz
  have HCE := Lib.hid hcells
  clear hsz hcells
  go_enter Try.func5, Try.ntmps5
  go_wp2_with fail
  refine (HAW.out _).mono ?_
  rintro r w1 ⟨rfl, hb1⟩
  have HM0 : Hid (FaIn w 0 0 [] none 0 none 0 w1) := Lib.hid ⟨rfl, rfl, (fun m hm => by simp at hm), ⟨⟨World.ownsRow_nil _ _ _ _, (fun x hx => by cases hx)⟩, ⟨World.ownsRow_nil _ _ _ _, (fun x hx => by cases hx)⟩, (fun x hx => by cases hx), (fun x hx => by cases hx), (fun x y hx => by cases hx), hb1⟩⟩
  clear hb1 HAW
  go_wp2
  go_loopw [3, 4, 5] (fun lv tv iv wr => ∃ (k n : Nat) (ms : List (List UInt8)) (a : Option Addr) (c : Nat) (a2 : Option Addr) (c2 : Nat), k ≤ 8 ∧ n ≤ 4 * k ∧ lv = .slice a n c ∧ tv = .slice a2 k c2 ∧ iv = .int .i64 k ∧ Hid (FaIn w k n ms a c a2 c2 wr)) (fun _ _ iv _ => 8 - (intOf iv).toNat)
  case atStart => exact ⟨0, 0, [], none, 0, none, 0, by omega, by omega, rfl, rfl, rfl, HM0⟩
  case round =>
    obtain ⟨k, n, ms, a, c, a2, c2, hk, hn, rfl, rfl, rfl, HM⟩ := hrel
    by_cases hgo : k < ss.length ∧ k < 8
    · obtain ⟨hlt, h8⟩ := hgo
      obtain ⟨gb, off, rfl, hc⟩ := HCE.out (by omega)
      have c0 := hc k hlt
      have hgl : gb < w.heap.size := block_lt_of_cell c0
      have d0 : wr.cell? ⟨gb, off + k, none⟩ = some (.string ss[k]) := (HM.out.mem.bel.cell (p := ⟨gb, off + k, none⟩) hgl).trans c0
      have hgr : gb < wr.heap.size := block_lt_of_cell d0
      obtain ⟨m, e0, hml⟩ := any_list ss[k] 700
      have HCUT := Lib.hid (fun W => cut_any ss[k] 700 W (HSZ.out k hlt) (by decide))
      rw [e0] at HCUT
      have HFC := Lib.hid (fun W => fragCut_any m W (by omega))
      clear c0 hc e0
      generalize ss[k] = s0 at d0 HCUT
      have hi0 : (0 : Int) ≤ (k : Int) := by omega
      have hi1 : (k : Int) < (ss.length : Int) := by omega
      have hi2 : (k : Int) < 8 := by omega
      have hmm : moreN m.length + 1 ≤ 4 := by unfold moreN; omega
      go_wp2_with fail
      refine (HCUT.out _).mono ?_
      rintro r w' ⟨rfl, rfl⟩
      clear HCUT d0
      go_wp2_with fail
      refine (HFC.out _).mono ?_
      rintro r w2 ⟨fa, fc, rfl, hpm⟩
      have HM2 := Lib.hid (HM.out.mem.keep hpm.bel)
      obtain ⟨g, rfl, hg, hgB, -⟩ := own_part hpm.row (by rw [cutL_len]; omega)
      have hvr := hpm.row.row (pt_wide _) (by rw [List.length_map, cutL_len]; omega)
      obtain ⟨g', off', e1, hvc⟩ := hvr
      simp only [Option.some.injEq, Addr.mk.injEq] at e1
      obtain ⟨rfl, rfl, -⟩ := e1
      obtain ⟨a3, c3, w3, hrun, ho, hto, hnw⟩ := own_app (T := 23) ptTy Try.underlying23 HM2.out.r1 g 0 (moreN m.length + 1) fc ((cutL m).map ptCells) (pt_wide _) (by rw [List.length_map, cutL_len]) hvc (by rw [List.length_map, HM.out.hn]; omega) n (by rw [List.length_map]; exact HM.out.hn)
      rw [← List.map_append] at ho
      have HRUN := Lib.hid hrun
      have HM3 := Lib.hid (HM2.out.parts ho hto hnw)
      obtain ⟨a4, c4, w4, hrun2, ho2, hto2, hnw2⟩ := str_one HM3.out.r2 m (by rw [HM.out.hk]; omega) k HM.out.hk
      have HRUN2 := Lib.hid hrun2
      have HM4 : Hid (FaIn w (k + 1) (n + (moreN m.length + 1)) (ms ++ [m]) a3 c3 a4 c4 w4) := Lib.hid ⟨by rw [parts_snoc, List.length_append, HM.out.hn, cutL_len], by rw [List.length_append, HM.out.hk]; rfl, (fun x hx => by
        rcases List.mem_append.1 hx with hx | hx
        · exact HM.out.sz x hx
        · simp at hx; subst hx; exact hml), by rw [parts_snoc]; exact HM3.out.texts ho2 hto2 hnw2⟩
      clear hrun ho hto hnw hrun2 ho2 hto2 hnw2 hvc hpm hg hgB HM2 HM3 HM HFC
      generalize moreN m.length + 1 = q at hmm HRUN HM4 ⊢
      go_wp2_with (first | (at_builtin; refine wpList_append_run _ rfl (.tmp 37) (.tmp 38) 23 23 rfl _ _ rfl rfl (.slice a3 (n + q) c3) w3 HRUN.out ?_) | (at_builtin; refine wpList_append_run _ rfl (.tmp 40) (.tmp 42) 47 47 rfl _ _ rfl rfl (.slice a4 (k + 1) c4) w4 HRUN2.out ?_))
      go_roundw
      case rel => exact ⟨k + 1, n + q, ms ++ [m], a3, c3, a4, c4, by omega, by omega, rfl, rfl, by go_num, HM4⟩
      case measure => simp [intOf] <;> omega
    · have hend : ((ss.length : Int) ≤ (k : Int)) ∨ ((k : Int) < (ss.length : Int) ∧ (8 : Int) ≤ (k : Int)) := by omega
      have HAF := Lib.hid (parts_after ms (fun m hm => by have := HM.out.sz m hm; omega))
      have HJ0 := Lib.hid (JAt.start wr)
      have hA : Below wr.heap.size wr (wr.alloc (.cells #[.int .i64 0, .slice none 0 0] 32)) := bel_alloc (Below.refl _ _) _
      have HMa := Lib.hid (HM.out.mem.keep hA)
      have HLT1 := Lib.hid HM.out.mem.r1.lt
      have HLT2 := Lib.hid HM.out.mem.r2.lt
      have HALL := Lib.hid (joAll_any wr.heap.size (.slice none 0 0) (partsOf ms) a c _ HJ0.out (HMa.out.r1.row (pt_wide _)) (fun x hx => ⟨by have := HLT1.out x hx; omega, by simp [Value.ownBlock]⟩) (by rw [HM.out.hn]; omega) (parts_text ms) HAF.out.2)
      rw [HAF.out.1] at HALL
      simp only [HM.out.hn] at HALL
      have hbw := HM.out.mem.bel.size
      have HMK := Lib.hid HM.out.hk
      clear hA hgo HJ0
      rcases hend with hend | ⟨hend, hend2⟩
      all_goals
        go_wp2_with fail
        generalize wr.alloc (.cells #[.int .i64 0, .slice none 0 0] 32) = W1 at HMa HALL ⊢
        refine HALL.out.mono ?_
        rintro r w5 ⟨a5, c5, v5, rfl, hall⟩
        have hr2 := HMa.out.r2.touch hall.tch (fun x hx e => by
          rcases e with e | e
          · have := HLT2.out x hx; omega
          · simp [Value.ownBlock] at e)
        have HR2 := Lib.hid hr2
        have HR5 := Lib.hid hall.row
        have HB5 := Lib.hid (HMa.out.bel.trans (hall.tch.below HMa.out.bel.size (fun j hj e => by
          rcases e with e | e
          · omega
          · simp [Value.ownBlock] at e)))
        rw [show ms.length = k from HMK.out]
        clear hall hr2 HMa HALL HLT1 HLT2 HAF HM
        go_wp2
        go_loopw [60] (fun iv wx => ∃ j : Nat, j ≤ k ∧ iv = .int .i64 j ∧ Hid (OwnV 9 1 0 a2 c2 (ms.map strCells1) wx ∧ OwnV 9 1 0 a5 c5 (ms.map strCells1) wx ∧ Below w.heap.size w wx)) (fun iv _ => k - (intOf iv).toNat)
        case atStart => exact ⟨0, Nat.zero_le _, rfl, Lib.hid ⟨HR2.out, HR5.out, HB5.out⟩⟩
        case round =>
          obtain ⟨j, hj, rfl, HX⟩ := hrel
          by_cases hjk : j < k
          · obtain ⟨g2, rfl, hg2, hc2⟩ := own_str HX.out.1 (by rw [HMK.out]; omega)
            obtain ⟨g5, rfl, hg5, hc5⟩ := own_str HX.out.2.1 (by rw [HMK.out]; omega)
            have x2 := hc2 j (by rw [HMK.out]; exact hjk)
            have x5 := hc5 j (by rw [HMK.out]; exact hjk)
            generalize ms[j]'(by rw [HMK.out]; exact hjk) = mj at x2 x5
            have hsm := str_eq (bs mj)
            have hj0 : (0 : Int) ≤ (j : Int) := by omega
            have hj1 : (j : Int) < (k : Int) := by omega
            clear hc2 hc5
            go_upto_region 21 with (fail)
            go_quiet (fail)
            have HX2 : Hid (OwnV 9 1 0 (some ⟨g2, 0, none⟩) c2 (ms.map strCells1) (wr.drewN nq) ∧ OwnV 9 1 0 (some ⟨g5, 0, none⟩) c5 (ms.map strCells1) (wr.drewN nq) ∧ Below w.heap.size w (wr.drewN nq)) := Lib.hid ⟨HX.out.1, HX.out.2.1, ⟨HX.out.2.2.os, HX.out.2.2.tape, HX.out.2.2.output, HX.out.2.2.size, HX.out.2.2.block⟩⟩
            go_wp2
            go_roundw
            case rel => exact ⟨j + 1, by omega, by go_num, HX2⟩
            case measure => simp [intOf] <;> omega
          · obtain rfl : j = k := by omega
            have HB := Lib.hid HX.out.2.2
            go_wp2
            go_ret
            exact ⟨rfl, HB.out⟩
end Go.Proofs.Ytfkhfincggligaa
namespace Go.Proofs.Ytfkhfincggligaa
open Go.RowKit
set_option linter.unusedVariables false

/-- Two rows of the call's own. -/
structure Two (e1 k1 e2 k2 : Nat) (w : World) (a1 : Option Addr) (c1 : Nat) (l1 : List (List Value)) (a2 : Option Addr) (c2 : Nat) (l2 : List (List Value)) (wr : World) : Prop where
  r1 : OwnV e1 k1 0 a1 c1 l1 wr
  r2 : OwnV e2 k2 0 a2 c2 l2 wr
  n1 : ∀ x, a1 = some x → w.heap.size ≤ x.block
  n2 : ∀ x, a2 = some x → w.heap.size ≤ x.block
  dj : ∀ x y, a1 = some x → a2 = some y → x.block ≠ y.block
  bel : Below w.heap.size w wr
theorem Two.keep {e1 k1 e2 k2 : Nat} {w : World} {a1 a2 : Option Addr} {c1 c2 : Nat} {l1 l2 : List (List Value)} {wr w' : World} (h : Two e1 k1 e2 k2 w a1 c1 l1 a2 c2 l2 wr) (hb : Below wr.heap.size wr w') : Two e1 k1 e2 k2 w a1 c1 l1 a2 c2 l2 w' :=
  ⟨h.r1.touch (touch_of_below (S := fun _ => False) hb) (fun _ _ => id), h.r2.touch (touch_of_below (S := fun _ => False) hb) (fun _ _ => id), h.n1, h.n2, h.dj, h.bel.trans (hb.mono h.bel.size)⟩
theorem Two.none (e1 k1 e2 k2 : Nat) (w : World) : Two e1 k1 e2 k2 w none 0 [] none 0 [] w :=
  ⟨⟨World.ownsRow_nil _ _ _ _, (fun x hx => by cases hx)⟩, ⟨World.ownsRow_nil _ _ _ _, (fun x hx => by cases hx)⟩, (fun x hx => by cases hx), (fun x hx => by cases hx), (fun x y hx => by cases hx), Below.refl _ _⟩
theorem Two.first {e1 k1 e2 k2 : Nat} {w : World} {a1 a2 a' : Option Addr} {c1 c2 c' : Nat} {l1 l2 l' : List (List Value)} {wr w' : World} (h : Two e1 k1 e2 k2 w a1 c1 l1 a2 c2 l2 wr) (ho : OwnV e1 k1 0 a' c' l' w') (ht : Touch (fun k => a1.map (·.block) = some k) wr w') (hn : ∀ x, a' = some x → a1.map (·.block) = some x.block ∨ wr.heap.size ≤ x.block) : Two e1 k1 e2 k2 w a' c' l' a2 c2 l2 w' := by
  have hs := h.bel.size
  refine ⟨ho, h.r2.touch ht (fun y hy e => map_none (P := fun k => k = y.block → False) (fun x hx e => h.dj x y hx hy e) _ e rfl), fun x hx => ?_, h.n2, fun x y hx hy => ?_, h.bel.trans (ht.below hs fun k hk e => by have := map_none (P := fun k => w.heap.size ≤ k) h.n1 k e; omega)⟩
  · rcases hn x hx with e | e
    · exact map_none (P := fun k => w.heap.size ≤ k) h.n1 _ e
    · omega
  · rcases hn x hx with e | e
    · exact map_none (P := fun k => k ≠ y.block) (fun z hz => h.dj z y hz hy) _ e
    · have := h.r2.lt y hy; omega
theorem Two.second {e1 k1 e2 k2 : Nat} {w : World} {a1 a2 a' : Option Addr} {c1 c2 c' : Nat} {l1 l2 l' : List (List Value)} {wr w' : World} (h : Two e1 k1 e2 k2 w a1 c1 l1 a2 c2 l2 wr) (ho : OwnV e2 k2 0 a' c' l' w') (ht : Touch (fun k => a2.map (·.block) = some k) wr w') (hn : ∀ x, a' = some x → a2.map (·.block) = some x.block ∨ wr.heap.size ≤ x.block) : Two e1 k1 e2 k2 w a1 c1 l1 a' c' l' w' := by
  have hs := h.bel.size
  refine ⟨h.r1.touch ht (fun y hy e => map_none (P := fun k => y.block = k → False) (fun x hx e => h.dj y x hy hx e) _ e rfl), ho, h.n1, fun x hx => ?_, fun x y hx hy => ?_, h.bel.trans (ht.below hs fun k hk e => by have := map_none (P := fun k => w.heap.size ≤ k) h.n2 k e; omega)⟩
  · rcases hn x hx with e | e
    · exact map_none (P := fun k => w.heap.size ≤ k) h.n2 _ e
    · omega
  · rcases hn y hy with e | e
    · exact map_none (P := fun k => x.block ≠ k) (fun z hz => h.dj x z hx hz) _ e
    · have := h.r1.lt x hx; omega
theorem u32Ty : VTy 54 1 (.int .u32 0) 4 := ⟨by kernel_rfl, rfl, by decide, by decide⟩
def u32C (n : Nat) : List Value := [.int .u32 (n : Int)]
theorem num_wide (l : List Nat) : VWide 1 (l.map u32C) := by
  intro x hx
  obtain ⟨p, -, rfl⟩ := List.mem_map.1 hx
  exact ⟨rfl, fun u hu => by simp only [u32C, List.mem_singleton] at hu; subst hu; rfl⟩
/-- One record more, made on the spot. -/
theorem own_one {e T : TypeId} {k by' : Nat} {z : Value} (H : VTy e k z by') (hT : Try.prog.underlying T = some (.slice e)) {w : World} {B : Nat} {a : Option Addr} {c : Nat} {ls : List (List Value)} (h : OwnV e k B a c ls w) (x : List Value) (hw : VWide k [x]) (hl : ls.length ≤ 100000) (n : Nat) (hn : ls.length = n) (cs : Array Value) (hcs : cs = x.toArray) :
    ∃ a' c' w', (Builtin.append_ #[T, T] T #[.slice a n c, .slice (some ⟨w.heap.size, 0, none⟩) 1 1]).run Try.prog (w.alloc (.cells cs e)) = .ok (.slice a' (n + 1) c') w' ∧ OwnV e k 0 a' c' (ls ++ [x]) w' ∧ Touch (fun b => a.map (·.block) = some b) w w' ∧ (∀ x, a' = some x → a.map (·.block) = some x.block ∨ w.heap.size ≤ x.block) := by
  subst hcs
  obtain ⟨a', c', w', h1, h2, h3, h4⟩ := own_app H hT (h.touch (touch_of_below (S := fun _ => False) (bel_alloc (Below.refl _ _) (.cells x.toArray e))) (fun _ _ => id)) w.heap.size 0 1 1 [x] hw rfl
    (fun i hi j hj => by
      obtain rfl : i = 0 := by simpa using hi
      rw [new_at _ _ rfl]
      simp) (by omega) n hn
  refine ⟨a', c', w', h1, h2, ?_, fun x hx => (h4 x hx).imp id fun e => by simp at e; omega⟩
  exact ((Touch.refl (fun b => a.map (·.block) = some b) w).alloc (.cells x.toArray e)).trans h3
theorem outLen_any (b n : Nat) (a : Option Addr) (c : Nat) (l : List (Nat × List UInt8)) (w : World) (h : OAt w b n a c l) : Calls Try.prog 31 #[.pointer (some ⟨b, 0, none⟩)] w fun r w' => r = .returned (.int .i64 (l.length : Int)) ∧ w = w' := by
  have c1 := h.c1
  have hbl := h.lt
  clear h
  go_enter Try.func31, Try.ntmps31
  go_wp2
  go_ret
  exact ⟨rfl, rfl⟩
theorem outNext_any (b n : Nat) (a : Option Addr) (c : Nat) (l : List (Nat × List UInt8)) (w : World) (h : OAt w b n a c l) : Calls Try.prog 32 #[.pointer (some ⟨b, 0, none⟩)] w fun r w' => r = .returned (.int .u32 (n : Int)) ∧ w = w' := by
  have c0 := h.c0
  have hbl := h.lt
  clear h
  go_enter Try.func32, Try.ntmps32
  go_wp2
  go_ret
  exact ⟨rfl, rfl⟩
set_option maxRecDepth 100000 in
set_option maxHeartbeats 2000000 in
theorem wpush_full (b n : Nat) (a : Option Addr) (c : Nat) (p : Nat × List UInt8) (l' : List (Nat × List UInt8)) (t : List UInt8) (w : World) (h : OAt w b n a c (p :: l')) (hl : l'.length ≤ 1000) (hp : p.1 < 4294967296) (hd : 32 ≤ distW n p.1) :
    Calls Try.prog 26 #[.pointer (some ⟨b, 0, none⟩), .string (bs t)] w fun r w' => r = .returned (.tuple #[.int .u32 0, .int .i64 8]) ∧ Below w.heap.size w w' := by
  have c0 := h.c0
  have c1 := h.c1
  have hbl := h.lt
  have hg := h.row.row (it_wide _) (by simp)
  obtain ⟨g, off, rfl, hc⟩ := hg
  have x0 := hc 0 (by simp) 0 (by decide)
  simp only [List.map_cons, List.getElem_cons_zero, Nat.zero_mul, Nat.add_zero] at x0
  have x0' : w.cell? ⟨g, off, none⟩ = some (.int .u32 (p.1 : Int)) := x0
  have hgl := block_lt_of_cell x0'
  simp only at hgl
  have hwd := wrap_sub n p.1 h.nx hp
  simp only [List.length_cons] at c1
  have hpos : decide ((0 : Int) < (l'.length : Int) + 1) = true := decide_eq_true (by omega)
  have hdi : decide ((32 : Int) ≤ (distW n p.1 : Nat)) = true := decide_eq_true (by omega)
  generalize distW n p.1 = d at hd hwd hdi
  have hpos2 : (0 : Int) < (l'.length : Int) + 1 := by omega
  clear h hc x0
  go_enter Try.func26, Try.ntmps26
  go_upto_region 1 with (fail)
  go_quiet (fail)
  have HB : Hid (Below w.heap.size w (w.drewN nq)) := Lib.hid (drewN_bel w nq)
  go_wp2
  go_ret2
  exact ⟨rfl, HB.out⟩
end Go.Proofs.Ytfkhfincggligaa
namespace Go.Proofs.Ytfkhfincggligaa
open Go.RowKit
set_option linter.unusedVariables false

def cameO (nx B : Nat) (l : List (Nat × List UInt8)) : List Nat := (l.filter (fun p => hasB nx B p.1)).map (·.1)
def restO (nx B : Nat) (l : List (Nat × List UInt8)) : List (Nat × List UInt8) := l.filter (fun p => !hasB nx B p.1)
def OAckPost (w : World) (b n : Nat) (came : List Nat) (rest : List (Nat × List UInt8)) (r : Ending) (w' : World) : Prop :=
  ∃ a1 c1 a2 c2, r = .returned (.slice a1 came.length c1) ∧ OAt w' b n a2 c2 rest ∧ OwnV 54 1 w.heap.size a1 c1 (came.map u32C) w' ∧ (∀ x, a2 = some x → w.heap.size ≤ x.block) ∧ (∀ x y, a1 = some x → a2 = some y → x.block ≠ y.block) ∧ Touch (fun j => j = b) w w'
theorem cell_it {w : World} {a : Option Addr} {c B : Nat} {l : List (Nat × List UInt8)} (h : OwnV 81 2 B a c (l.map itCells) w) (h0 : 0 < l.length) : ∃ gb, a = some ⟨gb, 0, none⟩ ∧ gb < w.heap.size ∧ ∀ i (hi : i < l.length), w.cell? ⟨gb, i * 2, none⟩ = some (.int .u32 (l[i].1 : Int)) ∧ w.cell? ⟨gb, i * 2 + 1, none⟩ = some (.string (bs l[i].2)) := by
  have hlen : (l.map itCells).length = l.length := by simp
  rcases h.1.2 with ⟨-, h00⟩ | ⟨g, cap, cur, hv, -, hg, hnc, -, hsz, htk⟩
  · omega
  · have hr := h.row (it_wide _) (by rw [hlen]; exact h0)
    obtain ⟨b, off, e1, hc⟩ := hr
    simp only [Value.slice.injEq] at hv
    rw [hv.1] at e1
    simp only [Option.some.injEq, Addr.mk.injEq] at e1
    obtain ⟨rfl, rfl, -⟩ := e1
    refine ⟨g, hv.1, (Array.getElem?_eq_some_iff.1 hg).1, fun i hi => ?_⟩
    have hx : ∀ j, j < 2 → w.cell? ⟨g, i * 2 + j, none⟩ = (itCells l[i])[j]? := fun j hj => by
      have h1 := hc i (by rw [hlen]; exact hi) j hj
      rw [Nat.zero_add] at h1
      rw [h1]
      simp
    exact ⟨hx 0 (by decide), hx 1 (by decide)⟩
theorem came_snoc (nx B : Nat) (l : List (Nat × List UInt8)) (p : Nat × List UInt8) : cameO nx B (l ++ [p]) = cameO nx B l ++ (if hasB nx B p.1 = true then [p.1] else []) := by
  unfold cameO
  rw [List.filter_append, List.map_append]
  congr 1
  by_cases h : hasB nx B p.1 = true <;> simp [h]
theorem rest_snoc (nx B : Nat) (l : List (Nat × List UInt8)) (p : Nat × List UInt8) : restO nx B (l ++ [p]) = restO nx B l ++ (if hasB nx B p.1 = true then [] else [p]) := by
  unfold restO
  rw [List.filter_append]
  congr 1
  by_cases h : hasB nx B p.1 = true <;> simp [h]
theorem came_len (nx B : Nat) (l : List (Nat × List UInt8)) : (cameO nx B l).length ≤ l.length ∧ (restO nx B l).length ≤ l.length :=
  ⟨by unfold cameO; rw [List.length_map]; exact List.length_filter_le _ _, List.length_filter_le _ _⟩
set_option maxRecDepth 100000 in
set_option maxHeartbeats 2000000 in
theorem outAck_ok (b n : Nat) (a : Option Addr) (c : Nat) (l : List (Nat × List UInt8)) (nx B : Nat) (w : World) (h : OAt w b n a c l) (hl : l.length ≤ 1000) (hks : ∀ p ∈ l, p.1 < 4294967296) (hx : nx < 4294967296) (hB : B < 4294967296) (hgo : nx = n ∨ nx ≠ n ∧ belowB nx n = true) :
    Calls Try.prog 28 #[.pointer (some ⟨b, 0, none⟩), .agg #[.int .u32 (nx : Int), .int .u32 (B : Int)]] w (OAckPost w b n (cameO nx B l) (restO nx B l)) := by
  have hA : Below w.heap.size w (w.alloc (.cells #[.int .u32 (nx : Int), .int .u32 (B : Int)] 72)) := bel_alloc (Below.refl _ _) _
  have x0 : (w.alloc (.cells #[.int .u32 (nx : Int), .int .u32 (B : Int)] 72)).cell? ⟨w.heap.size, 0, none⟩ = some (.int .u32 (nx : Int)) := by simp
  have x1 : (w.alloc (.cells #[.int .u32 (nx : Int), .int .u32 (B : Int)] 72)).cell? ⟨w.heap.size, 1, none⟩ = some (.int .u32 (B : Int)) := by simp
  have HBEL := Lib.hid (fun W => below_any nx n hx h.nx W)
  have HO := Lib.hid (h.keep hA)
  have HA := Lib.hid hA
  have hbw := h.lt
  have HAL := Lib.hid h.row.lt
  have HNE := Lib.hid h.ne
  have HKS := Lib.hid hks
  generalize hpost : OAckPost w b n (cameO nx B l) (restO nx B l) = Post
  have HPost := Lib.hid hpost
  clear hpost h hA hks
  have hcs : ((nx : Int) != (n : Int)) = false ∨ ((nx : Int) != (n : Int)) = true ∧ belowB nx n = true := by
    rcases hgo with e | ⟨e, e2⟩
    · left; subst e; simp
    · right; exact ⟨by rw [bne_iff_ne]; omega, e2⟩
  clear hgo
  rcases hcs with hc1 | ⟨hc1, hc2⟩
  all_goals (try rw [hc2] at HBEL)
  all_goals
    go_enter Try.func28, Try.ntmps28
    go_upto_region 1 with (fail)
    have y0 := HO.out.c0
    have hbl := HO.out.lt
    have hXl := block_lt_of_cell x0
    simp only at hXl
    go_quiet ((go_at_call 41; exact Calls.quiet_of_same (HBEL.out _)))
    have z0 : ((w.alloc (.cells #[.int .u32 (nx : Int), .int .u32 (B : Int)] 72)).drewN nq).cell? ⟨w.heap.size, 0, none⟩ = some (.int .u32 (nx : Int)) := x0
    have z1 : ((w.alloc (.cells #[.int .u32 (nx : Int), .int .u32 (B : Int)] 72)).drewN nq).cell? ⟨w.heap.size, 1, none⟩ = some (.int .u32 (B : Int)) := x1
    have HO1 := Lib.hid (HO.out.keep (drewN_bel _ nq))
    have HA1 := Lib.hid (HA.out.trans ((drewN_bel _ nq).mono HA.out.size))
    clear x0 x1 y0 hbl hXl HO HA hc1
    generalize (w.alloc (.cells #[.int .u32 (nx : Int), .int .u32 (B : Int)] 72)).drewN nq = W1 at z0 z1 HO1 HA1 ⊢
    generalize hX : w.heap.size = X at z0 z1 ⊢
    have HX := Lib.hid hX
    clear hX
    have c1 := HO1.out.c1
    have hbl := HO1.out.lt
    have hXl := block_lt_of_cell z0
    simp only at hXl
    go_wp2
    go_loopw [5, 6, 31] (fun v5 v6 iv wr => ∃ (k n1 n2 : Nat) (a1 : Option Addr) (c1 : Nat) (a2 : Option Addr) (c2 : Nat), k ≤ l.length ∧ n1 ≤ k ∧ n2 ≤ k ∧ v5 = .slice a1 n1 c1 ∧ v6 = .slice a2 n2 c2 ∧ iv = .int .i64 k ∧ Hid ((cameO nx B (l.take k)).length = n1 ∧ (restO nx B (l.take k)).length = n2 ∧ Two 54 1 81 2 W1 a1 c1 ((cameO nx B (l.take k)).map u32C) a2 c2 ((restO nx B (l.take k)).map itCells) wr)) (fun _ _ iv _ => l.length - (intOf iv).toNat)
    case atStart => exact ⟨0, 0, 0, none, 0, none, 0, Nat.zero_le _, Nat.le_refl _, Nat.le_refl _, rfl, rfl, rfl, Lib.hid ⟨rfl, rfl, Two.none _ _ _ _ _⟩⟩
    case round =>
      obtain ⟨k, n1, n2, a1, c1', a2, c2', hk, hn1, hn2, rfl, rfl, rfl, HS⟩ := hrel
      by_cases hlt : k < l.length
      · obtain ⟨g, rfl, hg, hcells⟩ := cell_it HO1.out.row (by omega)
        obtain ⟨u0, u1⟩ := hcells k hlt
        have hbel := HS.out.2.2.bel
        have d0 := (hbel.cell (p := ⟨g, k * 2, none⟩) hg).trans u0
        have d1 := (hbel.cell (p := ⟨g, k * 2 + 1, none⟩) hg).trans u1
        have e0 := (hbel.cell (p := ⟨X, 0, none⟩) hXl).trans z0
        have e1 := (hbel.cell (p := ⟨X, 1, none⟩) hXl).trans z1
        have hgr : g < wr.heap.size := block_lt_of_cell d0
        have hXr : X < wr.heap.size := block_lt_of_cell e0
        have hkp := HKS.out l[k] (List.getElem_mem hlt)
        have HCN := Lib.hid (show cameO nx B (l.take (k + 1)) = cameO nx B (l.take k) ++ (if hasB nx B l[k].1 = true then [l[k].1] else []) by rw [List.take_succ_eq_append_getElem hlt]; exact came_snoc _ _ _ _)
        have HRN := Lib.hid (show restO nx B (l.take (k + 1)) = restO nx B (l.take k) ++ (if hasB nx B l[k].1 = true then [] else [l[k]]) by rw [List.take_succ_eq_append_getElem hlt]; exact rest_snoc _ _ _ _)
        have HHA := Lib.hid (fun W => has_any nx B l[k].1 W hx hB hkp)
        clear hcells u0 u1 hbel
        generalize l[k] = p at d0 d1 hkp HCN HRN HHA
        obtain ⟨pn, pt⟩ := p
        simp only at d0 d1 hkp HCN HRN HHA
        have hi0 : (0 : Int) ≤ (k : Int) := by omega
        have hi1 : (k : Int) < (l.length : Int) := by omega
        have HT1 := Lib.hid (HS.out.2.2.keep (bel_alloc (Below.refl _ _) (.cells #[.int .u32 (pn : Int), .string (bs pt)] 81)))
        have q0 : (wr.alloc (.cells #[.int .u32 (pn : Int), .string (bs pt)] 81)).cell? ⟨wr.heap.size, 0, none⟩ = some (.int .u32 (pn : Int)) := by simp
        have q1 : (wr.alloc (.cells #[.int .u32 (pn : Int), .string (bs pt)] 81)).cell? ⟨wr.heap.size, 1, none⟩ = some (.string (bs pt)) := by simp
        have HQ0 := Lib.hid q0
        have HQ1 := Lib.hid q1
        clear q0 q1
        go_wp2_with fail
        refine (HHA.out _).mono ?_
        rintro r w4 ⟨rfl, hb4⟩
        have q0 := (hb4.cell (p := ⟨wr.heap.size, 0, none⟩) (block_lt_of_cell HQ0.out)).trans HQ0.out
        have q1 := (hb4.cell (p := ⟨wr.heap.size, 1, none⟩) (block_lt_of_cell HQ1.out)).trans HQ1.out
        have HT4 := Lib.hid (HT1.out.keep hb4)
        have hql := block_lt_of_cell q0
        simp only at hql
        clear hb4 HT1 HQ0 HQ1 d0 d1 e0 e1 hgr hXr HHA
        generalize wr.heap.size = Y at q0 q1 hql ⊢
        cases hh : hasB nx B pn
        · rw [hh] at HCN HRN
          obtain ⟨a5, c5, w5, hrun, ho, hto, hnw⟩ := own_one itTy Try.underlying76 HT4.out.r2 (itCells (pn, pt)) (it_wide [(pn, pt)]) (by rw [List.length_map]; have := HS.out.2.1; omega) n2 (by rw [List.length_map]; exact HS.out.2.1) #[.int .u32 (pn : Int), .string (bs pt)] rfl
          have HRUN := Lib.hid hrun
          have HT5 : Hid (Two 54 1 81 2 W1 a1 c1' ((cameO nx B (l.take (k + 1))).map u32C) a5 c5 ((restO nx B (l.take (k + 1))).map itCells) w5) := Lib.hid (by
            rw [HCN.out, HRN.out]
            have := HT4.out.second ho hto hnw
            simpa using this)
          clear hrun ho hto hnw HT4
          go_wp2_with (at_builtin; refine wpList_append_run _ rfl (.tmp 44) (.tmp 46) 76 76 rfl _ _ rfl rfl (.slice a5 (n2 + 1) c5) w5 HRUN.out ?_)
          go_roundw
          case rel => exact ⟨k + 1, n1, n2 + 1, a1, c1', a5, c5, by omega, by omega, by omega, rfl, rfl, by go_num, Lib.hid ⟨by rw [HCN.out]; simpa using HS.out.1, by rw [HRN.out]; simpa using HS.out.2.1, HT5.out⟩⟩
          case measure => simp [intOf] <;> omega
        · rw [hh] at HCN HRN
          obtain ⟨a5, c5, w5, hrun, ho, hto, hnw⟩ := own_one u32Ty Try.underlying69 HT4.out.r1 (u32C pn) (num_wide [pn]) (by rw [List.length_map]; have := HS.out.1; omega) n1 (by rw [List.length_map]; exact HS.out.1) #[.int .u32 (pn : Int)] rfl
          have HRUN := Lib.hid hrun
          have HT5 : Hid (Two 54 1 81 2 W1 a5 c5 ((cameO nx B (l.take (k + 1))).map u32C) a2 c2' ((restO nx B (l.take (k + 1))).map itCells) w5) := Lib.hid (by
            rw [HCN.out, HRN.out]
            have := HT4.out.first ho hto hnw
            simpa using this)
          clear hrun ho hto hnw HT4
          go_wp2_with (at_builtin; refine wpList_append_run _ rfl (.tmp 39) (.tmp 42) 69 69 rfl _ _ rfl rfl (.slice a5 (n1 + 1) c5) w5 HRUN.out ?_)
          go_roundw
          case rel => exact ⟨k + 1, n1 + 1, n2, a5, c5, a2, c2', by omega, by omega, by omega, rfl, rfl, by go_num, Lib.hid ⟨by rw [HCN.out]; simpa using HS.out.1, by rw [HRN.out]; simpa using HS.out.2.1, HT5.out⟩⟩
          case measure => simp [intOf] <;> omega
      · obtain rfl : k = l.length := by omega
        rw [List.take_length] at HS
        obtain ⟨hl1, hl2, htwo⟩ := HS.out
        have HT := Lib.hid htwo
        have HL1 := Lib.hid hl1
        have HL2 := Lib.hid hl2
        have b1 := (htwo.bel.cell (p := ⟨b, 1, none⟩) hbl).trans c1
        have f1 := (htwo.bel.frozen (p := ⟨b, 1, none⟩) hbl).trans HO1.out.f1
        have hb5 : b < wr.heap.size := block_lt_of_cell b1
        have hi1 : (l.length : Int) ≤ (l.length : Int) := by omega
        have HF : Hid (OAckPost w b n (cameO nx B l) (restO nx B l) (.returned (.slice a1 n1 c1')) (wr.setCell ⟨b, 1, none⟩ (.slice a2 n2 c2'))) := Lib.hid (by
          have hs1 := HA1.out.size
          have ht : Touch (fun j => j = b) wr (wr.setCell ⟨b, 1, none⟩ (.slice a2 n2 c2')) := (Touch.refl (fun j => j = b) wr).setCell (p := ⟨b, 1, none⟩) (fun _ => rfl) _
          have b0 := (htwo.bel.cell (p := ⟨b, 0, none⟩) hbl).trans HO1.out.c0
          have f0 := (htwo.bel.frozen (p := ⟨b, 0, none⟩) hbl).trans HO1.out.f0
          refine ⟨a1, c1', a2, c2', by rw [hl1], ⟨(World.cell?_setCell_other _ _ _ _ (by simp)).trans b0, by rw [hl2]; exact World.cell?_setCell_same _ _ _ b1, by simpa using f0, by simpa using f1, htwo.r2.touch ht (fun x hx e => by have := htwo.n2 x hx; omega), (fun x hx e => by have := htwo.n2 x hx; omega), HO1.out.nx⟩, ⟨(htwo.r1.touch ht (fun x hx e => by have := htwo.n1 x hx; omega)).1, fun x hx => by have := htwo.n1 x hx; omega⟩, (fun x hx => by have := htwo.n2 x hx; omega), htwo.dj, ?_⟩
          exact ((touch_of_below (S := fun j => j = b) HA1.out).trans' (touch_of_below (S := fun _ => False) htwo.bel) (fun _ _ => False.elim)).setCell (p := ⟨b, 1, none⟩) (fun _ => rfl) _)
        clear hl1 hl2 htwo
        go_wp2
        rw [← HPost.out]
        exact HF.out
theorem imade0 (W : World) (k : Nat) (hk : W.heap.size = k) : OwnV 81 2 0 (some ⟨k, 0, none⟩) 0 ([] : List (List Value)) (W.alloc (.cells #[] 81)) := by
  subst hk
  refine ⟨⟨by simp, .inr ⟨W.heap.size, 0, #[], rfl, Nat.zero_le _, ?_, Nat.le_refl _, by unfold maxLen; omega, by simp, by simp⟩⟩, fun _ _ => Nat.zero_le _⟩
  show (W.heap.push (.cells #[] 81))[W.heap.size]? = _
  simp
theorem sl_nil (w : World) : (binOp .eql 76 (.slice none 0 0) (.slice none 0 0)).run Try.prog w = .ok (.bool true) w := by kernel_rfl
theorem sl_some (x : Addr) (n c : Nat) (w : World) : (binOp .eql 76 (.slice (some x) n c) (.slice none 0 0)).run Try.prog w = .ok (.bool false) w := by kernel_rfl
def AllO (w : World) (l : List (Nat × List UInt8)) (r : Ending) (w' : World) : Prop := ∃ a c, r = .returned (.slice a l.length c) ∧ OwnV 81 2 w.heap.size a c (l.map itCells) w' ∧ Below w.heap.size w w'
set_option maxRecDepth 100000 in
theorem clone_it (a : Option Addr) (c : Nat) (l : List (Nat × List UInt8)) (w : World) (h : OwnV 81 2 0 a c (l.map itCells) w) (hl : l.length ≤ 1000) : Calls Try.prog 43 #[.slice a l.length c] w (AllO w l) := by
  generalize hpost : AllO w l = Post
  have HPost := Lib.hid hpost
  clear hpost
  cases a with
  | none =>
    have h0 : l.length = 0 ∧ c = 0 := by
      rcases h.1.2 with ⟨hv, h0⟩ | ⟨g, cap, cur, hv, -⟩
      · simp only [List.length_map] at hv h0
        simp only [Value.slice.injEq] at hv
        exact ⟨h0, hv.2.2⟩
      · simp at hv
    obtain ⟨h1, rfl⟩ := h0
    have hn : l = [] := List.eq_nil_of_length_eq_zero h1
    subst hn
    have HE : Hid (AllO w [] (.returned (.slice none 0 0)) w) := Lib.hid ⟨none, 0, rfl, ⟨World.ownsRow_nil _ _ _ _, (fun x hx => by cases hx)⟩, Below.refl _ _⟩
    simp only [List.length_nil]
    clear h h1
    have hq := sl_nil
    go_enter Try.func43, Try.ntmps43
    go_wp2
    rw [← HPost.out]
    exact HE.out
  | some x =>
    have hx : ∃ g, x = ⟨g, 0, none⟩ := by
      rcases h.1.2 with ⟨hv, -⟩ | ⟨g, cap, cur, hv, -⟩
      · simp at hv
      · simp only [Value.slice.injEq, Option.some.injEq] at hv; exact ⟨g, hv.1⟩
    obtain ⟨g, rfl⟩ := hx
    have hgl := h.lt _ rfl
    have hA : Below w.heap.size w (w.alloc (.cells #[] 81)) := bel_alloc (Below.refl _ _) _
    have hrow : ∀ i (hi : i < (l.map itCells).length) j, j < 2 → (w.alloc (.cells #[] 81)).cell? ⟨g, 0 + i * 2 + j, none⟩ = (l.map itCells)[i][j]? := fun i hi j hj => by
      have hvr := (h.touch (touch_of_below (S := fun _ => False) hA) (fun _ _ => id)).row (it_wide l) (by omega)
      obtain ⟨g', off', e1, hvc⟩ := hvr
      simp only [Option.some.injEq, Addr.mk.injEq] at e1
      obtain ⟨rfl, rfl, -⟩ := e1
      exact hvc i hi j hj
    obtain ⟨a', c', w', hrun, ho, hto, hnw⟩ := own_app itTy Try.underlying76 (imade0 w _ rfl) g 0 l.length c (l.map itCells) (it_wide l) (by simp) hrow (by simp; omega) 0 rfl
    have HRUN := Lib.hid hrun
    have HE : Hid (AllO w l (.returned (.slice a' l.length c')) w') := Lib.hid ⟨a', c', rfl, ⟨by simpa using ho.1, fun y hy => by
      rcases hnw y hy with e | e
      · simp at e; omega
      · simp at e; omega⟩, hA.trans (hto.below (by simp) (fun k hk e => by simp at e; omega))⟩
    clear h hrow hrun ho hto hnw hgl hA
    have hq := sl_some ⟨g, 0, none⟩ l.length c
    go_enter Try.func43, Try.ntmps43
    go_wp2_with (at_builtin; refine wpList_append_run _ rfl (.tmp 5) (.tmp 6) 76 76 rfl _ _ rfl rfl (.slice a' (0 + l.length) c') w' HRUN.out ?_)
    rw [← HPost.out]
    exact HE.out
theorem outAll_any (b n : Nat) (a : Option Addr) (c : Nat) (l : List (Nat × List UInt8)) (w : World) (h : OAt w b n a c l) (hl : l.length ≤ 1000) : Calls Try.prog 30 #[.pointer (some ⟨b, 0, none⟩)] w (AllO w l) := by
  have HC := Lib.hid (clone_it a c l w h.row hl)
  have c1 := h.c1
  have hbl := h.lt
  generalize hpost : AllO w l = Post at HC
  have HPost := Lib.hid hpost
  clear h hpost
  go_enter Try.func30, Try.ntmps30
  go_wp2_with fail
  refine HC.out.mono ?_
  intro r w1 hr
  rw [← HPost.out] at hr
  obtain ⟨a1, c1', rfl, ho, hb⟩ := hr
  have HE : Hid (AllO w l (.returned (.slice a1 l.length c1')) w1) := Lib.hid ⟨a1, c1', rfl, ho, hb⟩
  clear ho hb HC
  go_wp2
  rw [← HPost.out]
  exact HE.out
end Go.Proofs.Ytfkhfincggligaa
namespace Go.Proofs.Ytfkhfincggligaa
open Go.RowKit Go.ChangeMaps
set_option linter.unusedVariables false

def setL (L : List (Nat × Value)) (n : Nat) (v : Value) : List (Nat × Value) := L.map (fun p => if p.1 = n then (p.1, v) else p)
theorem setL_keys (L : List (Nat × Value)) (n : Nat) (v : Value) : (setL L n v).map (·.1) = L.map (·.1) := by
  unfold setL
  rw [List.map_map]
  apply List.map_congr_left
  intro p hp
  simp only [Function.comp]
  split <;> rfl
theorem setL_same {L : List (Nat × Value)} {n : Nat} {v : Value} (h : ∀ p ∈ L, p.1 ≠ n) : setL L n v = L := by
  unfold setL
  conv => rhs; rw [← List.map_id L]
  apply List.map_congr_left
  intro p hp
  rw [if_neg (h p hp)]; rfl
theorem modify_set {q : IntKind} {es : List MapEntry} {L : List (Nat × Value)} (he : EntsAre q es L) (nd : (L.map (·.1)).Nodup) (j : Nat) (x : MapEntry) (n : Nat) (v : Value) (hj : es[j]? = some x) (hx : x.key = .int q (n : Int)) :
    EntsAre q (es.set j ⟨.int q (n : Int), v, x.born⟩) (setL L n v) ∧ (es.set j ⟨.int q (n : Int), v, x.born⟩).map (·.born) = es.map (·.born) := by
  induction es generalizing L j with
  | nil => simp at hj
  | cons y es ih =>
    cases L with
    | nil => simp [EntsAre] at he
    | cons p L =>
      unfold EntsAre at he
      simp only [List.map_cons, List.cons.injEq, Prod.mk.injEq] at he
      obtain ⟨⟨e1, e2⟩, e3⟩ := he
      simp only [List.map_cons, List.nodup_cons] at nd
      cases j with
      | zero =>
        simp at hj; subst hj
        rw [hx] at e1
        have hn := int_inj e1
        have hs : setL L n v = L := setL_same fun z hz e => nd.1 (by rw [← hn, ← e]; exact List.mem_map.2 ⟨z, hz, rfl⟩)
        refine ⟨?_, by simp⟩
        show EntsAre q _ (setL (p :: L) n v)
        have hsc : setL (p :: L) n v = (p.1, v) :: setL L n v := by unfold setL; simp [hn]
        rw [hsc, hs]
        unfold EntsAre
        simp only [List.set_cons_zero, List.map_cons, e3, hn]
      | succ j =>
        have hj' : es[j]? = some x := by simpa using hj
        have hne : p.1 ≠ n := fun e => by
          obtain ⟨p', hp', e4, -⟩ := ents_mem (q := q) (L := L) e3 (List.mem_of_getElem? hj')
          rw [hx] at e4
          have := int_inj e4
          exact nd.1 (List.mem_map.2 ⟨p', hp', by omega⟩)
        obtain ⟨i1, i2⟩ := ih e3 nd.2 j hj'
        have hsc : setL (p :: L) n v = p :: setL L n v := by unfold setL; simp [hne]
        rw [hsc]
        unfold EntsAre at i1 ⊢
        simp only [List.set_cons_succ, List.map_cons, i1, i2, e1, e2, and_self]
theorem modify_is {α : Type} (l : List α) (j : Nat) (f : α → α) (x : α) (h : l[j]? = some x) : l.modify j f = l.set j (f x) := by
  induction l generalizing j with
  | nil => simp at h
  | cons y l ih =>
    cases j with
    | zero => simp at h; subst h; rfl
    | succ j =>
      have h' : l[j]? = some x := by simpa using h
      rw [List.set_cons_succ, ← ih j h']
      rfl
theorem mp_put {P : Program} {q : IntKind} {k t e : TypeId} (hk : P.underlying k = some (.int q)) (ht : P.underlying t = some (.map k e)) {w : World} {r : Nat} {L : List (Nat × Value)} (h : MpAt q w r L) (n : Nat) (hn : (Lit.int q (n : Int)).wf = true) (v0 v : Value) (hin : (n, v0) ∈ L) :
    ∃ w', (Instr.mapUpdate t (.map (some r)) (.int q (n : Int)) v).run P w = .ok () w' ∧ MpAt q w' r (setL L n v) ∧ Touch (fun j => j = r) w w' := by
  obtain ⟨es, clock, hb, he, hbn, hbc⟩ := h.ex
  rcases mp_find (w := w) hk he h.wf n hn with ⟨h1, h2⟩ | ⟨j, x, h1, h2, h3, h4⟩
  · exact absurd rfl (h2 _ hin)
  · obtain ⟨m1, m2⟩ := modify_set he h.nd j x n v h2 h3
    have hjl : j < es.length := (List.getElem?_eq_some_iff.1 h2).1
    have hxj : es[j] = x := (List.getElem?_eq_some_iff.1 h2).2
    have hmod : es.toArray.modify j (fun e => { e with key := .int q (n : Int), val := v }) = (es.set j ⟨.int q (n : Int), v, x.born⟩).toArray := by
      apply Array.toList_inj.1
      simp only [Array.toList_modify]
      exact modify_is es j _ x h2
    refine ⟨setBlock w r (.map ((es.set j ⟨.int q (n : Int), v, x.born⟩).toArray) clock), ?_, ⟨⟨_, clock, heap_setBlock_same hb _, m1, by rw [m2]; exact hbn, fun y hy => ?_⟩, by rw [setL_keys]; exact h.nd, fun p hp => ?_⟩, touch_block hb _⟩
    · rw [← hmod]
      simp [Instr.mapUpdate, run_underlying ht, MapKept.run_getObj_map hb, (Maps.int_keyed hk).check w false (Maps.keyOf_int_mk hk hn), h1, h2, h3, (Maps.int_keyed hk).stays w (Maps.keyOf_int_mk hk hn), MapKept.run_setObj_map _ hb, Result.andThen, setBlock]
    · have : y.born ∈ (es.set j ⟨.int q (n : Int), v, x.born⟩).map (·.born) := List.mem_map.2 ⟨y, hy, rfl⟩
      rw [m2] at this
      obtain ⟨z, hz, e1⟩ := List.mem_map.1 this
      rw [← e1]; exact hbc z hz
    · have : p.1 ∈ (setL L n v).map (·.1) := List.mem_map.2 ⟨p, hp, rfl⟩
      rw [setL_keys] at this
      obtain ⟨z, hz, e1⟩ := List.mem_map.1 this
      rw [← e1]; exact h.wf z hz
end Go.Proofs.Ytfkhfincggligaa
namespace Go.Proofs.Ytfkhfincggligaa
open Go.RowKit
set_option linter.unusedVariables false

def xT : Nat → List UInt8 := fun _ => [120]
def itemsO (first k : Nat) : List (Nat × List UInt8) := (List.range k).map (fun d => (numW first d, [120]))
theorem itemsO_succ (first k : Nat) : itemsO first (k + 1) = itemsO first k ++ [(numW first k, [120])] := by simp [itemsO, List.range_succ]
theorem itemsO_len (first k : Nat) : (itemsO first k).length = k := by simp [itemsO]
theorem itemsO_lt (first k : Nat) : ∀ p ∈ itemsO first k, p.1 < 4294967296 := by
  intro p hp
  obtain ⟨d, -, rfl⟩ := List.mem_map.1 hp
  exact numW_lt _ _
theorem itemsO_head (first k : Nat) (hk : k < 32) : itemsO first k = [] ∨ ∃ p l', itemsO first k = p :: l' ∧ distW (numW first k) p.1 < 32 := by
  cases k with
  | zero => exact .inl rfl
  | succ k =>
    right
    refine ⟨(numW first 0, [120]), (List.range k).map (fun d => (numW first (d + 1), [120])), ?_, ?_⟩
    · unfold itemsO; rw [List.range_succ_eq_map]; simp [Function.comp_def]
    · simp only; rw [dist_ge first (k + 1) 0 (by omega) (by omega)]; omega
theorem itemsO_full (first : Nat) : ∃ l', itemsO first 32 = (numW first 0, [120]) :: l' ∧ l'.length = 31 ∧ 32 ≤ distW (numW first 32) (numW first 0) := by
  refine ⟨(List.range 31).map (fun d => (numW first (d + 1), [120])), ?_, by simp, ?_⟩
  · unfold itemsO; rw [show (32 : Nat) = 31 + 1 from rfl, List.range_succ_eq_map]; simp [Function.comp_def]
  · rw [dist_ge first 32 0 (by omega) (by omega)]; omega
def cntG (G : Nat → Bool) : Nat := ((List.range 32).filter G).length
theorem cnt_add (l : List Nat) (hn : l.Nodup) (G : Nat → Bool) (d : Nat) (hd : d ∈ l) (hg : G d = false) : (l.filter (addG G d)).length = (l.filter G).length + 1 := by
  induction l with
  | nil => simp at hd
  | cons x l ih =>
    obtain ⟨h1, h2⟩ := List.nodup_cons.1 hn
    by_cases hx : x = d
    · subst hx
      have hsame : l.filter (addG G x) = l.filter G := by
        apply List.filter_congr
        intro y hy
        have : y ≠ x := fun e => h1 (e ▸ hy)
        simp [addG, this]
      rw [List.filter_cons_of_pos (by simp [addG]), List.filter_cons_of_neg (by simp [hg]), hsame]
      simp
    · have hd' : d ∈ l := by
        rcases List.mem_cons.1 hd with e | e
        · exact absurd e.symm hx
        · exact e
      have := ih h2 hd'
      by_cases hgx : G x = true
      · rw [List.filter_cons_of_pos (by simp [addG, hgx]), List.filter_cons_of_pos hgx]; simp; omega
      · rw [List.filter_cons_of_neg (by simp [addG, hgx, hx]), List.filter_cons_of_neg hgx]; exact this
theorem cntG_add (G : Nat → Bool) (d : Nat) (hd : d < 32) (hg : G d = false) : cntG (addG G d) = cntG G + 1 := cnt_add _ List.nodup_range G d (List.mem_range.2 hd) hg
theorem addG_same (G : Nat → Bool) (d : Nat) (hg : G d = true) : addG G d = G := by
  funext e
  unfold addG
  by_cases h : e = d
  · subst h; rw [hg]; rfl
  · simp [h]
/-- How often each came. -/
structure GotL (first : Nat) (G : Nat → Bool) (c : Nat) (L : List (Nat × Value)) : Prop where
  mem : ∀ n v, (n, v) ∈ L → ∃ d, d < 32 ∧ G d = true ∧ n = numW first d ∧ ∃ z : Nat, v = .int .i64 (z : Int) ∧ 1 ≤ z ∧ z ≤ c
  all : ∀ d, d < 32 → G d = true → ∃ v, (numW first d, v) ∈ L
  len : L.length = cntG G
theorem GotL.new {first : Nat} {G : Nat → Bool} {c : Nat} {L : List (Nat × Value)} (h : GotL first G c L) (d : Nat) (hd : d < 32) (hg : G d = false) : GotL first (addG G d) (c + 1) (L ++ [(numW first d, .int .i64 1)]) := by
  refine ⟨fun n v hv => ?_, fun e he hge => ?_, by rw [List.length_append, h.len, cntG_add G d hd hg]; rfl⟩
  · rcases List.mem_append.1 hv with hv | hv
    · obtain ⟨e, h1, h2, h3, z, h4, h5, h6⟩ := h.mem n v hv
      exact ⟨e, h1, by unfold addG; rw [h2]; rfl, h3, z, h4, h5, by omega⟩
    · simp only [List.mem_singleton, Prod.mk.injEq] at hv
      obtain ⟨rfl, rfl⟩ := hv
      exact ⟨d, hd, by simp [addG], rfl, 1, rfl, by omega, by omega⟩
  · by_cases hed : e = d
    · subst hed; exact ⟨.int .i64 1, List.mem_append.2 (.inr (by simp))⟩
    · have : G e = true := by unfold addG at hge; simpa [hed] using hge
      obtain ⟨v, hv⟩ := h.all e he this
      exact ⟨v, List.mem_append.2 (.inl hv)⟩
theorem GotL.more {first : Nat} {G : Nat → Bool} {c : Nat} {L : List (Nat × Value)} (h : GotL first G c L) (n z : Nat) (hz1 : 1 ≤ z) (hz : z ≤ c) : GotL first G (c + 1) (setL L n (.int .i64 ((z : Int) + 1))) := by
  refine ⟨fun m v hv => ?_, fun e he hge => ?_, by unfold setL; rw [List.length_map]; exact h.len⟩
  · obtain ⟨p, hp, e1⟩ := List.mem_map.1 hv
    by_cases hpn : p.1 = n
    · rw [if_pos hpn] at e1
      simp only [Prod.mk.injEq] at e1
      obtain ⟨d, h1, h2, h3, -⟩ := h.mem p.1 p.2 hp
      exact ⟨d, h1, h2, by rw [← e1.1]; exact h3, z + 1, by rw [← e1.2]; rfl, by omega, by omega⟩
    · rw [if_neg hpn] at e1
      subst e1
      obtain ⟨d, h1, h2, h3, z', h4, h5, h6⟩ := h.mem _ _ hp
      exact ⟨d, h1, h2, h3, z', h4, h5, by omega⟩
  · obtain ⟨v, hv⟩ := h.all e he hge
    refine ⟨if numW first e = n then .int .i64 ((z : Int) + 1) else v, List.mem_map.2 ⟨_, hv, ?_⟩⟩
    simp only
    split <;> rfl
theorem GotL.none {first : Nat} : GotL first (fun _ => false) 0 [] := ⟨(fun n v hv => by simp at hv), (fun d hd hg => by cases hg), by unfold cntG; rw [List.filter_eq_nil_iff.2 (fun a _ => by simp)]; rfl⟩
theorem GotL.no {first : Nat} {G : Nat → Bool} {c : Nat} {L : List (Nat × Value)} (h : GotL first G c L) (d : Nat) (hd : d < 32) (hno : ∀ p ∈ L, p.1 ≠ numW first d) : G d = false := by
  cases hg : G d with
  | false => rfl
  | true => obtain ⟨v, hv⟩ := h.all d hd hg; exact absurd rfl (hno _ hv)
theorem GotL.yes {first : Nat} {G : Nat → Bool} {c : Nat} {L : List (Nat × Value)} (h : GotL first G c L) (d : Nat) (hd : d < 32) {v : Value} (hv : (numW first d, v) ∈ L) : G d = true ∧ ∃ z : Nat, v = .int .i64 (z : Int) ∧ 1 ≤ z ∧ z ≤ c := by
  obtain ⟨e, h1, h2, h3, hz⟩ := h.mem _ _ hv
  have := num_inj first d e h3 (by omega) (by omega)
  subst this
  exact ⟨h2, hz⟩
theorem goW_len (f : Nat) (s : Ws) : (goW f s).1.l.length ≤ s.l.length := by
  induction f generalizing s with
  | zero => exact Nat.le_refl _
  | succ f ih =>
    cases h : findW s.l s.nx with
    | none => rw [goW_none h]; exact Nat.le_refl _
    | some t =>
      rw [goW_some h]
      exact Nat.le_trans (ih _) (List.length_filter_le _ _)
theorem putW_len (s : Ws) (n : Nat) (t : List UInt8) : (putW s n t).1.l.length ≤ s.l.length + 1 := by
  unfold putW
  split
  · simp
  · split
    · simp
    · split
      · simp
      · exact Nat.le_trans (goW_len _ _) (by simp)
/-- All that the second loop knows of what came. -/
def InA (first : Nat) (G : Nat → Bool) (s : Ws) : Prop := (∀ d, G d = true → d < 32) ∧ ∃ m, InG first m xT G s
theorem InA.put {first : Nat} {G : Nat → Bool} {s : Ws} (h : InA first G s) (d : Nat) (hd : d < 32) : InA first (addG G d) (putW s (numW first d) [120]).1 := by
  obtain ⟨h1, m, h2⟩ := h
  refine ⟨fun e he => ?_, ?_⟩
  · unfold addG at he
    rw [Bool.or_eq_true] at he
    rcases he with he | he
    · exact h1 e he
    · have : e = d := by simpa using he
      omega
  · have hm : m ≤ 32 := by
      apply Classical.byContradiction
      intro hc
      have := h1 32 (h2.lo 32 (by omega))
      omega
    by_cases hdm : d < m
    · rw [h2.put_old d hdm (by omega), addG_same G d (h2.lo d hdm)]
      exact ⟨m, h2⟩
    · rcases h2.put d (by omega) (by omega) with ⟨g1, g2⟩ | ⟨g1, s', m', -, g2, g3⟩
      · rw [show ([120] : List UInt8) = xT d from rfl, g2, addG_same G d g1]
        exact ⟨m, h2⟩
      · rw [show ([120] : List UInt8) = xT d from rfl, g2]
        exact ⟨m', g3⟩
theorem InA.ok {first : Nat} {G : Nat → Bool} {s : Ws} (h : InA first G s) : OkW s := by obtain ⟨-, m, h2⟩ := h; exact h2.ok
/-- What the ack tells: just what came; and it is no ack of what wasn't sent. -/
theorem InA.ack {first : Nat} {G : Nat → Bool} {s : Ws} (h : InA first G s) {B : Nat} (hB : ∀ k, B.testBit k = true ↔ ∃ p ∈ s.l, distW p.1 s.nx = k + 1) : (∀ d, d < 32 → hasB s.nx B (numW first d) = G d) ∧ (s.nx = numW first 32 ∨ s.nx ≠ numW first 32 ∧ belowB s.nx (numW first 32) = true) := by
  obtain ⟨h1, m, h2⟩ := h
  have hm : m ≤ 32 := by
    apply Classical.byContradiction
    intro hc
    have := h1 32 (h2.lo 32 (by omega))
    omega
  refine ⟨fun d hd => h2.has hB d (by omega) (by omega), ?_⟩
  rcases Nat.eq_or_lt_of_le hm with e | e
  · left; rw [h2.nx, e]
  · right
    refine ⟨fun e2 => ?_, ?_⟩
    · rw [h2.nx] at e2
      have := num_inj first m 32 e2 (by omega) (by omega)
      omega
    · unfold belowB
      rw [h2.nx, dist_lt first m 32 e (by omega)]
      exact decide_eq_true (by omega)
theorem filter_any (first : Nat) (F : Nat → Bool) (G : Nat → Bool) (R : List Nat) (h : ∀ d ∈ R, F (numW first d) = G d) : ((R.map (fun d => (numW first d, ([120] : List UInt8)))).filter (fun p => F p.1)).map (·.1) = (R.filter G).map (numW first) ∧ (R.map (fun d => (numW first d, ([120] : List UInt8)))).filter (fun p => !F p.1) = (R.filter (fun d => !G d)).map (fun d => (numW first d, [120])) := by
  induction R with
  | nil => exact ⟨rfl, rfl⟩
  | cons d R ih =>
    obtain ⟨i1, i2⟩ := ih (fun e he => h e (by simp [he]))
    have hd := h d (by simp)
    cases hg : G d with
    | true =>
      rw [hg] at hd
      refine ⟨?_, ?_⟩
      · rw [List.map_cons, List.filter_cons_of_pos (by simpa using hd), List.map_cons, i1, List.filter_cons_of_pos hg, List.map_cons]
      · rw [List.map_cons, List.filter_cons_of_neg (by simp [hd]), i2, List.filter_cons_of_neg (by simp [hg])]
    | false =>
      rw [hg] at hd
      refine ⟨?_, ?_⟩
      · rw [List.map_cons, List.filter_cons_of_neg (by simp [hd]), i1, List.filter_cons_of_neg (by simp [hg])]
      · rw [List.map_cons, List.filter_cons_of_pos (by simp [hd]), i2, List.filter_cons_of_pos (by simp [hg]), List.map_cons]
theorem filter_items (first nx B : Nat) (G : Nat → Bool) (h : ∀ d, d < 32 → hasB nx B (numW first d) = G d) : cameO nx B (itemsO first 32) = ((List.range 32).filter G).map (numW first) ∧ restO nx B (itemsO first 32) = ((List.range 32).filter (fun d => !G d)).map (fun d => (numW first d, [120])) := by
  unfold cameO restO itemsO
  exact filter_any first (hasB nx B) G (List.range 32) (fun d hd => h d (List.mem_range.1 hd))
theorem rest_rest (nx B : Nat) (l : List (Nat × List UInt8)) : cameO nx B (restO nx B l) = [] ∧ restO nx B (restO nx B l) = restO nx B l := by
  unfold cameO restO
  refine ⟨?_, ?_⟩
  · rw [List.map_eq_nil_iff, List.filter_eq_nil_iff]
    intro p hp
    have := (List.mem_filter.1 hp).2
    simpa using this
  · rw [List.filter_filter]
    simp
theorem cnt_rest (G : Nat → Bool) : ((List.range 32).filter (fun d => !G d)).length + cntG G = 32 := by
  unfold cntG
  have h : ∀ l : List Nat, (l.filter (fun d => !G d)).length + (l.filter G).length = l.length := by
    intro l
    induction l with
    | nil => rfl
    | cons x l ih =>
      by_cases hg : G x = true
      · rw [List.filter_cons_of_neg (by simp [hg]), List.filter_cons_of_pos hg]; simp; omega
      · rw [List.filter_cons_of_pos (by simp [hg]), List.filter_cons_of_neg hg]; simp; omega
  rw [h]; simp
end Go.Proofs.Ytfkhfincggligaa
namespace Go.Proofs.Ytfkhfincggligaa
open Go.RowKit Go.WideShapes Go.ChangeShapes
set_option linter.unusedVariables false

/-- A list of numbers came in. -/
def NumArg (k : IntKind) (w : World) (a : Option Addr) (len cap : Nat) (ns : List Int) : Prop :=
  len = ns.length ∧ len ≤ maxLen ∧ len ≤ cap ∧ cap ≤ maxLen ∧ IntRow k w a ns ∧ (a = none → ns = []) ∧ ∀ n ∈ ns, (Lit.int k n).wf = true
theorem cell_addN {w : World} {b off j : Nat} {v : Value} (h : w.cell? ((⟨b, off, none⟩ : Addr).add j) = some v) : w.cell? ⟨b, off + j, none⟩ = some v := by
  by_cases hz : j = 0
  · subst hz; simpa [Addr.add] using h
  · simpa [Addr.add, hz] using h
theorem wf_i64 {n : Int} (h : (Lit.int .i64 n).wf = true) : -9223372036854775808 ≤ n ∧ n ≤ 9223372036854775807 := by
  simpa [Lit.wf, IntKind.min, IntKind.max, IntKind.signed, IntKind.bits] using h
theorem wf_u64 {n : Int} (h : (Lit.int .u64 n).wf = true) : 0 ≤ n ∧ n ≤ 18446744073709551615 := by
  simpa [Lit.wf, IntKind.min, IntKind.max, IntKind.signed, IntKind.bits] using h
theorem nums_of {H : Type} {enc : TypeId × Value → H} {P : Program} {w : World} {base : Nat} {sp : Nat → Bool} {held : Bool} {fuel : Nat} {a : Option Addr} {len cap : Nat} {t e : TypeId} {k : IntKind} {x : DataW H × List MemPlace}
    (ht : P.underlying t = some (.slice e)) (he : P.underlying e = some (.int k)) (hc : P.cellsOf e = 1)
    (h : DataW.trod enc P w base sp held fuel t [.slice a len cap] = some x) : ∃ ns, NumArg k w a len cap ns := by
  rcases open_ints ht he hc h with ⟨hcs, _⟩ | ⟨ad, l, c, zs, hcs, _, hl, hm, hz, _, hcell, hwf⟩
  · simp at hcs
    obtain ⟨rfl, rfl, rfl⟩ := hcs
    exact ⟨[], rfl, by simp [maxLen], Nat.le_refl _, by simp [maxLen], fun h => by simp at h, fun _ => rfl, by simp⟩
  · simp at hcs
    obtain ⟨rfl, rfl, rfl⟩ := hcs
    have hzl : len ≤ zs.length := by rw [hz]; split <;> omega
    refine ⟨zs.take len, by simp; omega, by omega, hl, hm, fun h0 => ?_, (fun h => by cases h), fun n hn => hwf n (List.mem_of_mem_take hn)⟩
    have h0' : 0 < len := by simp at h0; omega
    obtain ⟨b, off, spot⟩ := ad
    have h00 := hcell 0 (by omega)
    have hspot : spot = none := by simpa [Addr.add] using World.cell?_spot h00
    subst hspot
    refine ⟨b, off, rfl, fun i hi => ?_⟩
    have hi' : i < len := by simp at hi; omega
    have := cell_addN (hcell i (by omega))
    rw [List.getElem_take]
    rw [this]
    congr 2
    simp [List.getD, List.getElem?_eq_getElem (show i < zs.length by omega)]
theorem IntRow.below {k : IntKind} {w w' : World} {a : Option Addr} {ns : List Int} (h : IntRow k w a ns) (hb : Below w.heap.size w w') : IntRow k w' a ns := by
  intro h0
  obtain ⟨b, off, e, hc⟩ := h h0
  exact ⟨b, off, e, fun i hi => by rw [hb.cell (p := ⟨b, off + i, none⟩) (block_lt_of_cell (hc i hi))]; exact hc i hi⟩
theorem IntRow.touch {k : IntKind} {S : Nat → Prop} {w w' : World} {a : Option Addr} {ns : List Int} (h : IntRow k w a ns) (ht : Touch S w w') (hs : ∀ x, a = some x → ¬ S x.block) : IntRow k w' a ns := by
  intro h0
  obtain ⟨b, off, e, hc⟩ := h h0
  exact ⟨b, off, e, fun i hi => by rw [ht.cell (p := ⟨b, off + i, none⟩) (block_lt_of_cell (hc i hi)) (by have := hs _ e; exact this)]; exact hc i hi⟩
theorem IntRow.take {k : IntKind} {w : World} {a : Option Addr} {ns : List Int} (h : IntRow k w a ns) (n : Nat) : IntRow k w a (ns.take n) := by
  intro h0
  have h0' : 0 < ns.length := by simp at h0; omega
  obtain ⟨b, off, e, hc⟩ := h h0'
  refine ⟨b, off, e, fun i hi => ?_⟩
  have : i < ns.length := by simp at hi; omega
  rw [List.getElem_take]
  exact hc i this
theorem IntRow.lt {k : IntKind} {w : World} {a : Option Addr} {ns : List Int} (h : IntRow k w a ns) (h0 : 0 < ns.length) : ∃ b off, a = some ⟨b, off, none⟩ ∧ b < w.heap.size := by
  obtain ⟨b, off, e, hc⟩ := h h0
  exact ⟨b, off, e, block_lt_of_cell (hc 0 h0)⟩
end Go.Proofs.Ytfkhfincggligaa
namespace Go.Proofs.Ytfkhfincggligaa
open Go.RowKit
set_option linter.unusedVariables false

/-- What Parse answers. -/
def OParsePost (w : World) (t : List Ord × Nat) (r : Ending) (w' : World) : Prop :=
  ∃ a c, r = .returned (.tuple #[.slice a t.1.length c, .int .i64 (t.2 : Nat)]) ∧ OrdRow w' a t.1 ∧ Below w.heap.size w w'
theorem awakeB : batchB [⟨1, 1, 2, -1⟩] = [1, 1, 1, 4, 1] := by decide +kernel
theorem awakeD : BatchDom [⟨1, 1, 2, -1⟩] := ⟨by decide, by intro o ho; simp at ho; subst ho; rfl⟩
theorem awakeP : parseO [1, 1, 1, 4, 1] = ([⟨1, 1, 2, -1⟩], 0) := by rw [← awakeB]; exact parseO_back _ awakeD
theorem awakeL : (bs [1, 1, 1, 4, 1]).toList = [1, 1, 1, 4, 1] := by simp [bs]
theorem keep8 {W w' : World} (hb : Below W.heap.size W w') {X Y o p : Nat} {x y z u x' y' z' u' : Value} (h : (W.cell? ⟨X, o, none⟩ = some x ∧ W.cell? ⟨X, o + 1, none⟩ = some y ∧ W.cell? ⟨X, o + 2, none⟩ = some z ∧ W.cell? ⟨X, o + 3, none⟩ = some u) ∧ (W.cell? ⟨Y, p, none⟩ = some x' ∧ W.cell? ⟨Y, p + 1, none⟩ = some y' ∧ W.cell? ⟨Y, p + 2, none⟩ = some z' ∧ W.cell? ⟨Y, p + 3, none⟩ = some u')) :
    (w'.cell? ⟨X, o, none⟩ = some x ∧ w'.cell? ⟨X, o + 1, none⟩ = some y ∧ w'.cell? ⟨X, o + 2, none⟩ = some z ∧ w'.cell? ⟨X, o + 3, none⟩ = some u) ∧ (w'.cell? ⟨Y, p, none⟩ = some x' ∧ w'.cell? ⟨Y, p + 1, none⟩ = some y' ∧ w'.cell? ⟨Y, p + 2, none⟩ = some z' ∧ w'.cell? ⟨Y, p + 3, none⟩ = some u') := by
  have hX := block_lt_of_cell h.1.1
  have hY := block_lt_of_cell h.2.1
  exact ⟨⟨(hb.cell (p := ⟨X, o, none⟩) hX).trans h.1.1, (hb.cell (p := ⟨X, o + 1, none⟩) hX).trans h.1.2.1, (hb.cell (p := ⟨X, o + 2, none⟩) hX).trans h.1.2.2.1, (hb.cell (p := ⟨X, o + 3, none⟩) hX).trans h.1.2.2.2⟩,
    ⟨(hb.cell (p := ⟨Y, p, none⟩) hY).trans h.2.1, (hb.cell (p := ⟨Y, p + 1, none⟩) hY).trans h.2.2.1, (hb.cell (p := ⟨Y, p + 2, none⟩) hY).trans h.2.2.2.1, (hb.cell (p := ⟨Y, p + 3, none⟩) hY).trans h.2.2.2.2⟩⟩
end Go.Proofs.Ytfkhfincggligaa
namespace Go.Proofs.Ytfkhfincggligaa
open Go.RowKit Go.WideShapes Go.ChangeShapes
set_option linter.unusedVariables false

def RecArg (k : Nat) (w : World) (a : Option Addr) (len cap : Nat) (ls : List (List Int)) : Prop :=
  len = ls.length ∧ len ≤ cap ∧ cap ≤ maxLen ∧ Wide k ls ∧ RecRow k w a ls ∧ (a = none → ls = []) ∧ ∀ r ∈ ls, ∀ y ∈ r, B64 y
theorem RecArg.below {k : Nat} (hk : 0 < k) {w w' : World} {a : Option Addr} {len cap : Nat} {ls : List (List Int)} (h : RecArg k w a len cap ls) (hb : Below w.heap.size w w') : RecArg k w' a len cap ls :=
  ⟨h.1, h.2.1, h.2.2.1, h.2.2.2.1, h.2.2.2.2.1.below hk hb, h.2.2.2.2.2⟩
theorem list_4 {α : Type} {l : List α} (h : l.length = 4) : ∃ a b c d, l = [a, b, c, d] := by
  match l, h with
  | [a, b, c, d], _ => exact ⟨a, b, c, d, rfl⟩
theorem list_6 {α : Type} {l : List α} (h : l.length = 6) : ∃ a b c d e f, l = [a, b, c, d, e, f] := by
  match l, h with
  | [a, b, c, d, e, f], _ => exact ⟨a, b, c, d, e, f, rfl⟩
theorem list_7 {α : Type} {l : List α} (h : l.length = 7) : ∃ a b c d e f g, l = [a, b, c, d, e, f, g] := by
  match l, h with
  | [a, b, c, d, e, f, g], _ => exact ⟨a, b, c, d, e, f, g, rfl⟩
theorem recArg_of (k : Nat) (hk : 0 < k) {w : World} {ad : Addr} {len cap : Nat} (hl : len ≤ cap) (hm : cap ≤ maxLen)
    (each : ∀ i, i < len → ∃ r : List Int, r.length = k ∧ (∀ j, j < k → w.cell? (ad.add (i * k + j)) = some (.int .i64 (r.getD j 0))) ∧ ∀ y ∈ r, B64 y) : ∃ ls, RecArg k w (some ad) len cap ls := by
  let F : Nat → List Int := fun i => if hi : i < len then (each i hi).choose else []
  have hF : ∀ i, i < len → (F i).length = k ∧ (∀ j, j < k → w.cell? (ad.add (i * k + j)) = some (.int .i64 ((F i).getD j 0))) ∧ ∀ y ∈ F i, B64 y := by
    intro i hi
    have := (each i hi).choose_spec
    simp only [F, hi, dif_pos]
    exact this
  clear_value F
  refine ⟨(List.range len).map F, by simp, hl, hm, fun x hx => ?_, fun h0 => ?_, fun h => (by cases h), fun x hx => ?_⟩
  · simp only [List.mem_map, List.mem_range] at hx
    obtain ⟨i, hi, rfl⟩ := hx
    exact (hF i hi).1
  · obtain ⟨b, off, spot⟩ := ad
    have hlen : 0 < len := by simpa using h0
    have h00 := (hF 0 hlen).2.1 0 hk
    have hspot : spot = none := by simpa [Addr.add] using World.cell?_spot h00
    subst hspot
    refine ⟨b, off, rfl, fun i hi j hj => ?_⟩
    have hil : i < len := by simpa using hi
    simp only [List.getElem_map, List.getElem_range]
    rw [Nat.add_assoc]
    exact cell_addR ((hF i hil).2.1 j hj)
  · simp only [List.mem_map, List.mem_range] at hx
    obtain ⟨i, hi, rfl⟩ := hx
    exact (hF i hi).2.2
end Go.Proofs.Ytfkhfincggligaa
namespace Go.Proofs.Ytfkhfincggligaa
open Go.RowKit
set_option linter.unusedVariables false

theorem andM (a : Int) (m : Nat) (mi : Int) (hm : mi = (m : Int)) (h : m ≤ 9223372036854775807) : ∃ k : Nat, k ≤ m ∧ bits .and .i64 a mi = (k : Int) := by
  subst hm
  have e : (BitVec.ofInt 64 (m : Int)).toNat = m := by simp; omega
  have hle : (BitVec.ofInt 64 a &&& BitVec.ofInt 64 (m : Int)).toNat ≤ m := by
    rw [BitVec.toNat_and, e]; exact Nat.and_le_right
  refine ⟨(BitVec.ofInt 64 a &&& BitVec.ofInt 64 (m : Int)).toNat, hle, ?_⟩
  show IntKind.i64.wrap ((BitVec.ofInt 64 a &&& BitVec.ofInt 64 (m : Int)).toNat : Int) = _
  rw [IntKind.wrap_i64]
  omega
/-- Records as orders. -/
def toOrd (r : List Int) : Ord := ⟨r.getD 0 0, r.getD 1 0, r.getD 2 0, r.getD 3 0⟩
theorem toOrd_ints (r : List Int) (h : r.length = 4) : (toOrd r).ints = r := by
  obtain ⟨a, b, c, d, rfl⟩ := list_4 h
  rfl
theorem toOrds {ls : List (List Int)} (h : Wide 4 ls) : ordsI (ls.map toOrd) = ls := by
  unfold ordsI
  rw [List.map_map]
  have : ∀ x ∈ ls, (Ord.ints ∘ toOrd) x = x := fun x hx => toOrd_ints x (h x hx)
  conv => rhs; rw [← List.map_id ls]
  exact List.map_congr_left this
def OrdArg (w : World) (a : Option Addr) (len cap : Nat) (l : List Ord) : Prop :=
  len = l.length ∧ len ≤ cap ∧ cap ≤ maxLen ∧ OrdRow w a l ∧ (a = none → l = []) ∧ ∀ o ∈ l, OrdOk o
theorem RecArg.ords {w : World} {a : Option Addr} {len cap : Nat} {ls : List (List Int)} (h : RecArg 4 w a len cap ls) : OrdArg w a len cap (ls.map toOrd) := by
  obtain ⟨h1, h2, h3, h4, h5, h6, h7⟩ := h
  refine ⟨by rw [h1]; simp, h2, h3, by unfold OrdRow; rw [toOrds h4]; exact h5, fun e => by rw [h6 e]; rfl, fun o ho => ?_⟩
  simp only [List.mem_map] at ho
  obtain ⟨r, hr, rfl⟩ := ho
  obtain ⟨a, b, c, d, rfl⟩ := list_4 (h4 r hr)
  have := h7 _ hr
  exact ⟨this a (by simp), this b (by simp), this c (by simp), this d (by simp)⟩
theorem OrdArg.below {w w' : World} {a : Option Addr} {len cap : Nat} {l : List Ord} (h : OrdArg w a len cap l) (hb : Below w.heap.size w w') : OrdArg w' a len cap l := ⟨h.1, h.2.1, h.2.2.1, h.2.2.2.1.below hb, h.2.2.2.2⟩
theorem dom_move (u a b : Nat) (hu : u ≤ 63) (ha : a ≤ 127) (hb : b ≤ 127) : OrdDom ⟨1, 1 + u, 1 + a, b⟩ := by
  have h1 : numQ (1 + u) = true := by simp [numQ]; omega
  have h2 : placeQ (1 + a) = true := by simp [placeQ]; omega
  have h3 : placeQ b = true := by simp [placeQ]; omega
  simp [OrdDom, checkN, h1, h2, h3, okN]
theorem dom_hit (u a : Nat) (hu : u ≤ 63) (ha : a ≤ 127) : OrdDom ⟨2, 1 + u, 1 + a, 0⟩ := by
  have h1 : numQ (1 + u) = true := by simp [numQ]; omega
  have h2 : numQ (1 + a) = true := by simp [numQ]; omega
  simp [OrdDom, checkN, h1, h2, okN]
theorem dom_build (a b : Nat) (ha : a ≤ 127) (hb : b ≤ 127) : OrdDom ⟨3, 0, 1 + a, b⟩ := by
  have h2 : kindQ (1 + a) = true := by simp [kindQ]; omega
  have h3 : placeQ b = true := by simp [placeQ]; omega
  simp [OrdDom, checkN, h2, h3, okN]
theorem dom_halt (u : Nat) (hu : u ≤ 63) : OrdDom ⟨4, 1 + u, 0, 0⟩ := by
  have h1 : numQ (1 + u) = true := by simp [numQ]; omega
  simp [OrdDom, checkN, h1, okN]
end Go.Proofs.Ytfkhfincggligaa
namespace Go.Proofs.Ytfkhfincggligaa
open Go.RowKit
set_option linter.unusedVariables false

/-- What was sent at b1, what came at b2. -/
structure Ak1 (w : World) (b1 b2 n : Nat) (a : Option Addr) (c : Nat) (l : List (Nat × List UInt8)) (mo : Option Nat) (s : Ws) (wr : World) : Prop where
  o : OAt wr b1 n a c l
  i : WI wr b2 mo s
  bel : Below w.heap.size w wr
  d12 : b1 ≠ b2
  h1 : w.heap.size ≤ b1
  h2 : w.heap.size ≤ b2
  ha : ∀ x, a = some x → w.heap.size ≤ x.block ∧ x.block ≠ b2
  hm : ∀ k, mo = some k → w.heap.size ≤ k ∧ k ≠ b1
  ham : ∀ x k, a = some x → mo = some k → x.block ≠ k
theorem Ak1.keep {w : World} {b1 b2 n : Nat} {a : Option Addr} {c : Nat} {l : List (Nat × List UInt8)} {mo : Option Nat} {s : Ws} {wr w' : World} (h : Ak1 w b1 b2 n a c l mo s wr) (hb : Below wr.heap.size wr w') : Ak1 w b1 b2 n a c l mo s w' :=
  ⟨h.o.keep hb, h.i.keep hb, h.bel.trans (hb.mono h.bel.size), h.d12, h.h1, h.h2, h.ha, h.hm, h.ham⟩
theorem WI.mlt {w : World} {b : Nat} {mo : Option Nat} {s : Ws} (h : WI w b mo s) (k : Nat) (hk : mo = some k) : k < w.heap.size := by
  rcases h with ⟨h1, -⟩ | ⟨r, h1, h2⟩
  · rw [h1] at hk; cases hk
  · rw [h1] at hk; cases hk; exact h2.mp.lt
theorem Ak1.push {w : World} {b1 b2 n n' : Nat} {a a' : Option Addr} {c c' : Nat} {l l' : List (Nat × List UInt8)} {mo : Option Nat} {s : Ws} {wr w' : World} (h : Ak1 w b1 b2 n a c l mo s wr) (hO : OAt w' b1 n' a' c' l') (hf : ∀ x, a' = some x → a.map (·.block) = some x.block ∨ wr.heap.size ≤ x.block) (ht : Touch (fun j => j = b1 ∨ a.map (·.block) = some j) wr w') : Ak1 w b1 b2 n' a' c' l' mo s w' := by
  have hs := h.bel.size
  have hb2 := h.i.lt
  refine ⟨hO, h.i.touch ht ?_ (fun k hk => ?_), h.bel.trans (ht.below hs fun k hk e => ?_), h.d12, h.h1, h.h2, fun x hx => ?_, h.hm, fun x k hx hk => ?_⟩
  · rintro (e | e)
    · exact h.d12 e.symm
    · exact map_none (P := fun j => j ≠ b2) (fun y hy => (h.ha y hy).2) _ e rfl
  · rintro (e | e)
    · exact (h.hm k hk).2 e
    · exact map_none (P := fun j => j ≠ k) (fun y hy => h.ham y k hy hk) _ e rfl
  · rcases e with e | e
    · have := h.h1; omega
    · have := map_none (P := fun j => w.heap.size ≤ j) (fun y hy => (h.ha y hy).1) _ e; omega
  · rcases hf x hx with e | e
    · exact map_none (P := fun j => w.heap.size ≤ j ∧ j ≠ b2) h.ha _ e
    · exact ⟨by omega, by omega⟩
  · rcases hf x hx with e | e
    · exact map_none (P := fun j => j ≠ k) (fun y hy => h.ham y k hy hk) _ e
    · have := h.i.mlt k hk; omega
/-- And how often each came, at r. -/
structure Ak (w : World) (b1 b2 r n : Nat) (a : Option Addr) (c : Nat) (l : List (Nat × List UInt8)) (mo : Option Nat) (s : Ws) (L : List (Nat × Value)) (wr : World) : Prop where
  k1 : Ak1 w b1 b2 n a c l mo s wr
  g : MpAt .u32 wr r L
  hr : w.heap.size ≤ r
  r1 : r ≠ b1
  r2 : r ≠ b2
  ra : ∀ x, a = some x → x.block ≠ r
  rm : ∀ k, mo = some k → k ≠ r
theorem Ak.keep {w : World} {b1 b2 r n : Nat} {a : Option Addr} {c : Nat} {l : List (Nat × List UInt8)} {mo : Option Nat} {s : Ws} {L : List (Nat × Value)} {wr w' : World} (h : Ak w b1 b2 r n a c l mo s L wr) (hb : Below wr.heap.size wr w') : Ak w b1 b2 r n a c l mo s L w' :=
  ⟨h.k1.keep hb, h.g.touch (touch_of_below (S := fun _ => False) hb) id, h.hr, h.r1, h.r2, h.ra, h.rm⟩
theorem Ak1.made {w : World} {b1 b2 n : Nat} {a : Option Addr} {c : Nat} {l : List (Nat × List UInt8)} {mo : Option Nat} {s : Ws} {wr : World} (h : Ak1 w b1 b2 n a c l mo s wr) : Ak w b1 b2 wr.heap.size n a c l mo s [] (wr.alloc (.map #[] 0)) := by
  have hs := h.bel.size
  have hb1 := h.o.lt
  have hb2 := h.i.lt
  exact ⟨h.keep (bel_alloc (Below.refl _ _) _), MpAt.made .u32 wr, hs, by omega, by omega, fun x hx e => by have := h.o.row.lt x hx; omega, fun k hk e => by have := h.i.mlt k hk; omega⟩
theorem Ak.put {w : World} {b1 b2 r n : Nat} {a : Option Addr} {c : Nat} {l : List (Nat × List UInt8)} {mo mo' : Option Nat} {s s' : Ws} {L : List (Nat × Value)} {wr w' : World} (h : Ak w b1 b2 r n a c l mo s L wr) (hw : WI w' b2 mo' s') (hf : ∀ k, mo' = some k → mo = some k ∨ wr.heap.size ≤ k) (ht : Touch (fun k => k = b2 ∨ mo = some k) wr w') : Ak w b1 b2 r n a c l mo' s' L w' := by
  have hs := h.k1.bel.size
  have hb1 := h.k1.o.lt
  have hrl := h.g.lt
  refine ⟨⟨h.k1.o.touch ht ?_ (fun x hx => ?_), hw, h.k1.bel.trans (ht.below hs fun k hk e => ?_), h.k1.d12, h.k1.h1, h.k1.h2, h.k1.ha, fun k hk => ?_, fun x k hx hk => ?_⟩, h.g.touch ht ?_, h.hr, h.r1, h.r2, h.ra, fun k hk => ?_⟩
  · rintro (e | e)
    · exact h.k1.d12 e
    · exact (h.k1.hm _ e).2 rfl
  · rintro (e | e)
    · exact (h.k1.ha x hx).2 e
    · exact h.k1.ham x _ hx e rfl
  · rcases e with e | e
    · have := h.k1.h2; omega
    · have := (h.k1.hm _ e).1; omega
  · rcases hf k hk with e | e
    · exact h.k1.hm k e
    · exact ⟨by omega, by omega⟩
  · rcases hf k hk with e | e
    · exact h.k1.ham x k hx e
    · have := h.k1.o.row.lt x hx; omega
  · rintro (e | e)
    · exact h.r2 e
    · exact h.rm _ e rfl
  · rcases hf k hk with e | e
    · exact h.rm k e
    · omega
theorem Ak.upd {w : World} {b1 b2 r n : Nat} {a : Option Addr} {c : Nat} {l : List (Nat × List UInt8)} {mo : Option Nat} {s : Ws} {L L' : List (Nat × Value)} {wr w' : World} (h : Ak w b1 b2 r n a c l mo s L wr) (hg : MpAt .u32 w' r L') (ht : Touch (fun k => k = r) wr w') : Ak w b1 b2 r n a c l mo s L' w' := by
  have hs := h.k1.bel.size
  exact ⟨⟨h.k1.o.touch ht (fun e => h.r1 e.symm) (fun x hx => h.ra x hx), h.k1.i.touch ht (fun e => h.r2 e.symm) (fun k hk => h.rm k hk), h.k1.bel.trans (ht.below hs fun k hk e => by have := h.hr; omega), h.k1.d12, h.k1.h1, h.k1.h2, h.k1.ha, h.k1.hm, h.k1.ham⟩, hg, h.hr, h.r1, h.r2, h.ra, h.rm⟩
theorem Ak.ack {w : World} {b1 b2 r n : Nat} {a a' : Option Addr} {c c' : Nat} {l l' : List (Nat × List UInt8)} {mo : Option Nat} {s : Ws} {L : List (Nat × Value)} {wr w' : World} (h : Ak w b1 b2 r n a c l mo s L wr) (hO : OAt w' b1 n a' c' l') (hf : ∀ x, a' = some x → wr.heap.size ≤ x.block) (ht : Touch (fun j => j = b1) wr w') : Ak w b1 b2 r n a' c' l' mo s L w' := by
  have hs := h.k1.bel.size
  have hb2 := h.k1.i.lt
  have hrl := h.g.lt
  refine ⟨⟨hO, h.k1.i.touch ht (fun e => h.k1.d12 e.symm) (fun k hk => (h.k1.hm k hk).2), h.k1.bel.trans (ht.below hs fun k hk e => by have := h.k1.h1; omega), h.k1.d12, h.k1.h1, h.k1.h2, fun x hx => ?_, h.k1.hm, fun x k hx hk => ?_⟩, h.g.touch ht h.r1, h.hr, h.r1, h.r2, fun x hx => ?_, h.rm⟩
  · have := hf x hx; exact ⟨by omega, by omega⟩
  · have := hf x hx; have := h.k1.i.mlt k hk; omega
  · have := hf x hx; omega
theorem wrap_add (a d : Nat) : IntKind.u32.wrap ((a : Int) + (d : Int)) = (numW a d : Nat) := by
  unfold numW
  rw [IntKind.wrap_u32]
  omega
theorem zero_int (w : World) : (zeroValue 3).run Try.prog w = .ok (.int .i64 0) w := by kernel_rfl
end Go.Proofs.Ytfkhfincggligaa
namespace Go.Proofs.Ytfkhfincggligaa
open Go.RowKit
set_option linter.unusedVariables false

def tT (d : Nat) : List UInt8 := [UInt8.ofNat d]
/-- S were sent, m went out; G came, K is told. -/
structure CarS (first n S m : Nat) (G K : Nat → Bool) (s : Ws) : Prop where
  sn : S ≤ n
  ing : InG first m tT G s
  gS : ∀ d, G d = true → d < S
  kg : ∀ d, K d = true → G d = true
  wd : ∀ d, d < S → K d = false → S ≤ d + 32
def idxK (S : Nat) (K : Nat → Bool) : List Nat := (List.range S).filter (fun d => !K d)
def itemsK (first S : Nat) (K : Nat → Bool) : List (Nat × List UInt8) := (idxK S K).map (fun d => (numW first d, tT d))
theorem mem_idx {S : Nat} {K : Nat → Bool} {d : Nat} : d ∈ idxK S K ↔ d < S ∧ K d = false := by
  unfold idxK
  rw [List.mem_filter, List.mem_range]
  simp
theorem idx_len (S : Nat) (K : Nat → Bool) : (idxK S K).length ≤ S := by
  unfold idxK
  have := List.length_filter_le (fun d => !K d) (List.range S)
  rwa [List.length_range] at this
theorem itemsK_len (first S : Nat) (K : Nat → Bool) : (itemsK first S K).length ≤ S := by
  unfold itemsK; rw [List.length_map]; exact idx_len S K
theorem itemsK_lt (first S : Nat) (K : Nat → Bool) : ∀ p ∈ itemsK first S K, p.1 < 4294967296 := by
  intro p hp
  obtain ⟨d, -, rfl⟩ := List.mem_map.1 hp
  exact numW_lt _ _
theorem CarS.le {first n S m : Nat} {G K : Nat → Bool} {s : Ws} (h : CarS first n S m G K s) : m ≤ S := by
  rcases Nat.eq_zero_or_pos m with e | e
  · omega
  · have := h.gS (m - 1) (h.ing.lo (m - 1) (by omega))
    omega
theorem idx_succ {S : Nat} {K : Nat → Bool} (hk : K S = false) : idxK (S + 1) K = idxK S K ++ [S] := by
  unfold idxK
  rw [List.range_succ, List.filter_append]
  simp [hk]
theorem CarS.notK {first n S m : Nat} {G K : Nat → Bool} {s : Ws} (h : CarS first n S m G K s) : K S = false := by
  cases hk : K S with
  | false => rfl
  | true => have := h.gS S (h.kg S hk); omega
/-- The first on its way is the least. -/
theorem idx_head {S : Nat} {K : Nat → Bool} {x : Nat} {l : List Nat} (h : idxK S K = x :: l) : x < S ∧ K x = false ∧ ∀ d, d < S → K d = false → x ≤ d := by
  have hx := mem_idx.1 (show x ∈ idxK S K by rw [h]; simp)
  refine ⟨hx.1, hx.2, fun d hd hk => ?_⟩
  have hp : (idxK S K).Pairwise (· < ·) := (List.pairwise_lt_range).filter _
  rw [h] at hp
  have hm : d ∈ x :: l := by rw [← h]; exact mem_idx.2 ⟨hd, hk⟩
  rcases List.mem_cons.1 hm with e | e
  · omega
  · have := (List.pairwise_cons.1 hp).1 d e; omega
/-- May one more be sent? -/
theorem CarS.room {first n S m : Nat} {G K : Nat → Bool} {s : Ws} (h : CarS first n S m G K s) (hn : n ≤ 1000) : (itemsK first S K = [] ∨ ∃ p l', itemsK first S K = p :: l' ∧ distW (numW first S) p.1 < 32) ∧ (∀ d, d < S → K d = false → S + 1 ≤ d + 32) ∨ ∃ p l', itemsK first S K = p :: l' ∧ 32 ≤ distW (numW first S) p.1 := by
  have hsn := h.sn
  cases hi : idxK S K with
  | nil =>
    refine .inl ⟨.inl (by unfold itemsK; rw [hi]; rfl), fun d hd hk => ?_⟩
    have : d ∈ idxK S K := mem_idx.2 ⟨hd, hk⟩
    rw [hi] at this; simp at this
  | cons x l =>
    obtain ⟨h1, h2, h3⟩ := idx_head hi
    have hd : distW (numW first S) (numW first x) = S - x := dist_ge first S x (by omega) (by omega)
    have he : itemsK first S K = (numW first x, tT x) :: l.map (fun d => (numW first d, tT d)) := by unfold itemsK; rw [hi]; rfl
    by_cases hc : S - x < 32
    · exact .inl ⟨.inr ⟨_, _, he, by simp only; omega⟩, fun d hd' hk => by have := h3 d hd' hk; omega⟩
    · exact .inr ⟨_, _, he, by simp only; omega⟩
theorem CarS.push {first n S m : Nat} {G K : Nat → Bool} {s : Ws} (h : CarS first n S m G K s) (hs : S < n) (hr : ∀ d, d < S → K d = false → S + 1 ≤ d + 32) : CarS first n (S + 1) m G K s ∧ itemsK first (S + 1) K = itemsK first S K ++ [(numW first S, tT S)] := by
  refine ⟨⟨by omega, h.ing, fun d hd => by have := h.gS d hd; omega, h.kg, fun d hd hk => ?_⟩, ?_⟩
  · rcases Nat.eq_or_lt_of_le (Nat.le_of_lt_succ hd) with e | e
    · omega
    · exact hr d e hk
  · unfold itemsK
    rw [idx_succ h.notK, List.map_append]; rfl
/-- A thing on its way comes: what goes out, and what is then. -/
theorem CarS.come {first n S m : Nat} {G K : Nat → Bool} {s : Ws} (h : CarS first n S m G K s) (hn : n ≤ 1000) (d : Nat) (hd : d < S) (hk : K d = false) : ∃ s' m' e, m ≤ m' ∧ putW s (numW first d) (tT d) = (s', (List.range' m (m' - m)).map tT, e) ∧ CarS first n S m' (addG G d) K s' := by
  have hsn := h.sn
  have hle := h.le
  have hadd : ∀ e, addG G d e = true → e < S := fun e he => by
    unfold addG at he
    rw [Bool.or_eq_true] at he
    rcases he with he | he
    · exact h.gS e he
    · have : e = d := by simpa using he
      omega
  have hkg : ∀ e, K e = true → addG G d e = true := fun e he => by unfold addG; rw [h.kg e he]; rfl
  by_cases hdm : d < m
  · refine ⟨s, m, 11, Nat.le_refl _, by rw [h.ing.put_old d hdm (by omega)]; simp, ?_⟩
    rw [addG_same G d (h.ing.lo d hdm)]
    exact h
  · have hm32 : d ≤ m + 32 := by
      have hmS : m < S := by omega
      have hkm : K m = false := by
        cases hk' : K m with
        | false => rfl
        | true => have := h.kg m hk'; rw [h.ing.gap] at this; cases this
      have := h.wd m hmS hkm
      omega
    rcases h.ing.put d (by omega) hm32 with ⟨g1, g2⟩ | ⟨g1, s', m', g0, g2, g3⟩
    · refine ⟨s, m, 10, Nat.le_refl _, by rw [g2]; simp, ?_⟩
      rw [addG_same G d g1]
      exact h
    · exact ⟨s', m', 0, g0, g2, ⟨h.sn, g3, hadd, hkg, h.wd⟩⟩
theorem rest_any (first : Nat) (F G K : Nat → Bool) (R : List Nat) (h : ∀ d ∈ R, F (numW first d) = G d) (hkg : ∀ d, K d = true → G d = true) : ((R.filter (fun d => !K d)).map (fun d => (numW first d, tT d))).filter (fun p => !F p.1) = (R.filter (fun d => !G d)).map (fun d => (numW first d, tT d)) := by
  induction R with
  | nil => rfl
  | cons d R ih =>
    have i1 := ih (fun e he => h e (by simp [he]))
    have hd := h d (by simp)
    cases hg : G d with
    | true =>
      rw [hg] at hd
      cases hk : K d with
      | true => rw [List.filter_cons_of_neg (by simp [hk]), List.filter_cons_of_neg (by simp [hg])]; exact i1
      | false => rw [List.filter_cons_of_pos (by simp [hk]), List.map_cons, List.filter_cons_of_neg (by simp [hd]), i1, List.filter_cons_of_neg (by simp [hg])]
    | false =>
      rw [hg] at hd
      have hk : K d = false := by
        cases hk : K d with
        | false => rfl
        | true => rw [hkg d hk] at hg; cases hg
      rw [List.filter_cons_of_pos (by simp [hk]), List.map_cons, List.filter_cons_of_pos (by simp [hd]), i1, List.filter_cons_of_pos (by simp [hg]), List.map_cons]
theorem rest_idx (first S : Nat) (F G K : Nat → Bool) (h : ∀ d, d < S → F (numW first d) = G d) (hkg : ∀ d, K d = true → G d = true) : (itemsK first S K).filter (fun p => !F p.1) = itemsK first S G := by
  unfold itemsK idxK
  exact rest_any first F G K (List.range S) (fun d hd => h d (List.mem_range.1 hd)) hkg
/-- What came is told. -/
theorem CarS.told {first n S m : Nat} {G K : Nat → Bool} {s : Ws} (h : CarS first n S m G K s) (hn : n ≤ 1000) {B : Nat} (hB : ∀ k, B.testBit k = true ↔ ∃ p ∈ s.l, distW p.1 s.nx = k + 1) : CarS first n S m G G s ∧ restO s.nx B (itemsK first S K) = itemsK first S G ∧ (s.nx = numW first S ∨ s.nx ≠ numW first S ∧ belowB s.nx (numW first S) = true) := by
  have hsn := h.sn
  have hle := h.le
  refine ⟨⟨h.sn, h.ing, h.gS, fun d hd => hd, fun d hd hg => h.wd d hd (by
    cases hk : K d with
    | false => rfl
    | true => rw [h.kg d hk] at hg; cases hg)⟩, ?_, ?_⟩
  · exact rest_idx first S (hasB s.nx B) G K (fun d hd => h.ing.has hB d (by omega) (by omega)) h.kg
  · rcases Nat.eq_or_lt_of_le hle with e | e
    · left; rw [h.ing.nx, e]
    · right
      refine ⟨fun e2 => ?_, ?_⟩
      · rw [h.ing.nx] at e2
        have := num_inj first m S e2 (by omega) (by omega)
        omega
      · unfold belowB
        rw [h.ing.nx, dist_lt first m S e (by omega)]
        exact decide_eq_true (by omega)
theorem CarS.start (first n : Nat) (hf : first < 4294967296) : CarS first n 0 0 (fun _ => false) (fun _ => false) ⟨first, []⟩ :=
  ⟨Nat.zero_le _, InG.start first hf tT, (fun d hd => by cases hd), (fun d hd => hd), (fun d hd => by omega)⟩
/-- All was sent, and told: all went out, and nothing waits. -/
theorem CarS.fin {first n S m : Nat} {G K : Nat → Bool} {s : Ws} (h : CarS first n S m G K s) (hi : itemsK first S K = []) : m = S ∧ s.l = [] := by
  have hle := h.le
  have hall : ∀ d, d < S → G d = true := fun d hd => by
    cases hk : K d with
    | true => exact h.kg d hk
    | false =>
      have : d ∈ idxK S K := mem_idx.2 ⟨hd, hk⟩
      have h0 : idxK S K = [] := by unfold itemsK at hi; simpa using hi
      rw [h0] at this; simp at this
  have hm : m = S := by
    rcases Nat.eq_or_lt_of_le hle with e | e
    · exact e
    · have := hall m e; rw [h.ing.gap] at this; cases this
  refine ⟨hm, ?_⟩
  cases hl : s.l with
  | nil => rfl
  | cons p l =>
    obtain ⟨d, h1, h2, -⟩ := (h.ing.keys p.1 p.2).1 (by rw [hl]; simp)
    have := h.gS d h1
    omega
end Go.Proofs.Ytfkhfincggligaa
namespace Go.Proofs.Ytfkhfincggligaa
open Go.RowKit
set_option linter.unusedVariables false

theorem Ak1.put {w : World} {b1 b2 n : Nat} {a : Option Addr} {c : Nat} {l : List (Nat × List UInt8)} {mo mo' : Option Nat} {s s' : Ws} {wr w' : World} (h : Ak1 w b1 b2 n a c l mo s wr) (hw : WI w' b2 mo' s') (hf : ∀ k, mo' = some k → mo = some k ∨ wr.heap.size ≤ k) (ht : Touch (fun k => k = b2 ∨ mo = some k) wr w') : Ak1 w b1 b2 n a c l mo' s' w' := by
  have hs := h.bel.size
  have hb1 := h.o.lt
  refine ⟨h.o.touch ht ?_ (fun x hx => ?_), hw, h.bel.trans (ht.below hs fun k hk e => ?_), h.d12, h.h1, h.h2, h.ha, fun k hk => ?_, fun x k hx hk => ?_⟩
  · rintro (e | e)
    · exact h.d12 e
    · exact (h.hm _ e).2 rfl
  · rintro (e | e)
    · exact (h.ha x hx).2 e
    · exact h.ham x _ hx e rfl
  · rcases e with e | e
    · have := h.h2; omega
    · have := (h.hm _ e).1; omega
  · rcases hf k hk with e | e
    · exact h.hm k e
    · exact ⟨by omega, by omega⟩
  · rcases hf k hk with e | e
    · exact h.ham x k hx e
    · have := h.o.row.lt x hx; omega
theorem Ak1.ack {w : World} {b1 b2 n : Nat} {a a' : Option Addr} {c c' : Nat} {l l' : List (Nat × List UInt8)} {mo : Option Nat} {s : Ws} {wr w' : World} (h : Ak1 w b1 b2 n a c l mo s wr) (hO : OAt w' b1 n a' c' l') (hf : ∀ x, a' = some x → wr.heap.size ≤ x.block) (ht : Touch (fun j => j = b1) wr w') : Ak1 w b1 b2 n a' c' l' mo s w' := by
  have hs := h.bel.size
  have hb2 := h.i.lt
  refine ⟨hO, h.i.touch ht (fun e => h.d12 e.symm) (fun k hk => (h.hm k hk).2), h.bel.trans (ht.below hs fun k hk e => by have := h.h1; omega), h.d12, h.h1, h.h2, fun x hx => ?_, h.hm, fun x k hx hk => ?_⟩
  · have := hf x hx; exact ⟨by omega, by omega⟩
  · have := hf x hx; have := h.i.mlt k hk; omega
theorem Ak1.touch {S : Nat → Prop} {w : World} {b1 b2 n : Nat} {a : Option Addr} {c : Nat} {l : List (Nat × List UInt8)} {mo : Option Nat} {s : Ws} {wr w' : World} (h : Ak1 w b1 b2 n a c l mo s wr) (ht : Touch S wr w') (h1 : ¬ S b1) (h2 : ¬ S b2) (h3 : ∀ x, a = some x → ¬ S x.block) (h4 : ∀ k, mo = some k → ¬ S k) (h5 : ∀ k, k < w.heap.size → ¬ S k) : Ak1 w b1 b2 n a c l mo s w' :=
  ⟨h.o.touch ht h1 h3, h.i.touch ht h2 h4, h.bel.trans (ht.below h.bel.size h5), h.d12, h.h1, h.h2, h.ha, h.hm, h.ham⟩
/-- The box of what came at P, the box of the count at Q. -/
structure Cr (w : World) (b1 b2 P Q n : Nat) (a : Option Addr) (c : Nat) (l : List (Nat × List UInt8)) (mo : Option Nat) (s : Ws) (m : Nat) (wr : World) : Prop where
  k1 : Ak1 w b1 b2 n a c l mo s wr
  p0 : wr.cell? ⟨P, 0, none⟩ = some (.pointer (some ⟨b2, 0, none⟩))
  q0 : wr.cell? ⟨Q, 0, none⟩ = some (.int .i64 (m : Int))
  qf : wr.frozen? ⟨Q, 0, none⟩ = false
  hP : w.heap.size ≤ P ∧ P ≠ b1 ∧ P ≠ b2 ∧ P ≠ Q
  hQ : w.heap.size ≤ Q ∧ Q ≠ b1 ∧ Q ≠ b2
  aP : ∀ x, a = some x → x.block ≠ P ∧ x.block ≠ Q
  mP : ∀ k, mo = some k → k ≠ P ∧ k ≠ Q
theorem Cr.boxes {S : Nat → Prop} {w : World} {b1 b2 P Q n : Nat} {a : Option Addr} {c : Nat} {l : List (Nat × List UInt8)} {mo : Option Nat} {s : Ws} {m : Nat} {wr w' : World} (h : Cr w b1 b2 P Q n a c l mo s m wr) (ht : Touch S wr w') (hp : ¬ S P) (hq : ¬ S Q) : w'.cell? ⟨P, 0, none⟩ = some (.pointer (some ⟨b2, 0, none⟩)) ∧ w'.cell? ⟨Q, 0, none⟩ = some (.int .i64 (m : Int)) ∧ w'.frozen? ⟨Q, 0, none⟩ = false :=
  ⟨(ht.cell (p := ⟨P, 0, none⟩) (block_lt_of_cell h.p0) hp).trans h.p0, (ht.cell (p := ⟨Q, 0, none⟩) (block_lt_of_cell h.q0) hq).trans h.q0, (ht.frozen (p := ⟨Q, 0, none⟩) (block_lt_of_cell h.q0) hq).trans h.qf⟩
theorem Cr.keep {w : World} {b1 b2 P Q n : Nat} {a : Option Addr} {c : Nat} {l : List (Nat × List UInt8)} {mo : Option Nat} {s : Ws} {m : Nat} {wr w' : World} (h : Cr w b1 b2 P Q n a c l mo s m wr) (hb : Below wr.heap.size wr w') : Cr w b1 b2 P Q n a c l mo s m w' := by
  obtain ⟨h1, h2, h3⟩ := h.boxes (touch_of_below (S := fun _ => False) hb) id id
  exact ⟨h.k1.keep hb, h1, h2, h3, h.hP, h.hQ, h.aP, h.mP⟩
theorem Cr.put {w : World} {b1 b2 P Q n : Nat} {a : Option Addr} {c : Nat} {l : List (Nat × List UInt8)} {mo mo' : Option Nat} {s s' : Ws} {m : Nat} {wr w' : World} (h : Cr w b1 b2 P Q n a c l mo s m wr) (hw : WI w' b2 mo' s') (hf : ∀ k, mo' = some k → mo = some k ∨ wr.heap.size ≤ k) (ht : Touch (fun k => k = b2 ∨ mo = some k) wr w') : Cr w b1 b2 P Q n a c l mo' s' m w' := by
  have hPl := block_lt_of_cell h.p0
  have hQl := block_lt_of_cell h.q0
  simp only at hPl hQl
  obtain ⟨h1, h2, h3⟩ := h.boxes ht (by rintro (e | e); exact h.hP.2.2.1 e; exact (h.mP _ e).1 rfl) (by rintro (e | e); exact h.hQ.2.2 e; exact (h.mP _ e).2 rfl)
  refine ⟨h.k1.put hw hf ht, h1, h2, h3, h.hP, h.hQ, h.aP, fun k hk => ?_⟩
  rcases hf k hk with e | e
  · exact h.mP k e
  · exact ⟨by omega, by omega⟩
theorem Cr.push {w : World} {b1 b2 P Q n n' : Nat} {a a' : Option Addr} {c c' : Nat} {l l' : List (Nat × List UInt8)} {mo : Option Nat} {s : Ws} {m : Nat} {wr w' : World} (h : Cr w b1 b2 P Q n a c l mo s m wr) (hO : OAt w' b1 n' a' c' l') (hf : ∀ x, a' = some x → a.map (·.block) = some x.block ∨ wr.heap.size ≤ x.block) (ht : Touch (fun j => j = b1 ∨ a.map (·.block) = some j) wr w') : Cr w b1 b2 P Q n' a' c' l' mo s m w' := by
  have hPl := block_lt_of_cell h.p0
  have hQl := block_lt_of_cell h.q0
  simp only at hPl hQl
  obtain ⟨h1, h2, h3⟩ := h.boxes ht (by rintro (e | e); exact h.hP.2.1 e; exact map_none (P := fun j => j ≠ P) (fun y hy => (h.aP y hy).1) _ e rfl) (by rintro (e | e); exact h.hQ.2.1 e; exact map_none (P := fun j => j ≠ Q) (fun y hy => (h.aP y hy).2) _ e rfl)
  refine ⟨h.k1.push hO hf ht, h1, h2, h3, h.hP, h.hQ, fun x hx => ?_, h.mP⟩
  rcases hf x hx with e | e
  · exact map_none (P := fun j => j ≠ P ∧ j ≠ Q) h.aP _ e
  · exact ⟨by omega, by omega⟩
theorem Cr.ack {w : World} {b1 b2 P Q n : Nat} {a a' : Option Addr} {c c' : Nat} {l l' : List (Nat × List UInt8)} {mo : Option Nat} {s : Ws} {m : Nat} {wr w' : World} (h : Cr w b1 b2 P Q n a c l mo s m wr) (hO : OAt w' b1 n a' c' l') (hf : ∀ x, a' = some x → wr.heap.size ≤ x.block) (ht : Touch (fun j => j = b1) wr w') : Cr w b1 b2 P Q n a' c' l' mo s m w' := by
  have hPl := block_lt_of_cell h.p0
  have hQl := block_lt_of_cell h.q0
  simp only at hPl hQl
  obtain ⟨h1, h2, h3⟩ := h.boxes ht h.hP.2.1 h.hQ.2.1
  exact ⟨h.k1.ack hO hf ht, h1, h2, h3, h.hP, h.hQ, fun x hx => by have := hf x hx; exact ⟨by omega, by omega⟩, h.mP⟩
theorem Cr.count {w : World} {b1 b2 P Q n : Nat} {a : Option Addr} {c : Nat} {l : List (Nat × List UInt8)} {mo : Option Nat} {s : Ws} {m : Nat} {wr : World} (h : Cr w b1 b2 P Q n a c l mo s m wr) (m' : Nat) : Cr w b1 b2 P Q n a c l mo s m' (wr.setCell ⟨Q, 0, none⟩ (.int .i64 (m' : Int))) := by
  have ht : Touch (fun j => j = Q) wr (wr.setCell ⟨Q, 0, none⟩ (.int .i64 (m' : Int))) := (Touch.refl (fun j => j = Q) wr).setCell (p := ⟨Q, 0, none⟩) (fun _ => rfl) _
  exact ⟨h.k1.touch ht (fun e => h.hQ.2.1 e.symm) (fun e => h.hQ.2.2 e.symm) (fun x hx => (h.aP x hx).2) (fun k hk => (h.mP k hk).2) (fun k hk e => by have := h.hQ.1; omega), (ht.cell (p := ⟨P, 0, none⟩) (block_lt_of_cell h.p0) h.hP.2.2.2).trans h.p0, World.cell?_setCell_same _ _ _ h.q0, by simpa using h.qf, h.hP, h.hQ, h.aP, h.mP⟩
/-- One byte as a text. -/
theorem byte_str (W : World) (x : Nat) (B : Nat) (hB : W.heap.size = B) (hx : x < 256) : (convert 30 9 (.slice (some ⟨B, 0, none⟩) 1 1)).run Try.prog (W.alloc (.cells #[.int .u8 (x : Int)] 5)) = .ok (.string (bs (tT x))) (W.alloc (.cells #[.int .u8 (x : Int)] 5)) := by
  refine bytes_back _ B 1 1 (tT x) rfl (fun j hj => ?_)
  have hj0 : j = 0 := by simpa [tT] using hj
  subst hj0
  rw [new_at _ _ hB]
  simp only [tT, List.getElem_cons_zero]
  have : (UInt8.ofNat x).toNat = x := UInt8.toNat_ofNat_of_lt' (by simpa using hx)
  rw [this]; rfl
end Go.Proofs.Ytfkhfincggligaa
namespace Go.Proofs.Ytfkhfincggligaa
open Go.RowKit
set_option linter.unusedVariables false

def DelPost (w wr : World) (b1 b2 P Q n : Nat) (a : Option Addr) (c : Nat) (l : List (Nat × List UInt8)) (mo : Option Nat) (s' : Ws) (m' : Nat) (r : Ending) (w' : World) : Prop :=
  r = .returned (.bool true) ∧ ∃ mo', Cr w b1 b2 P Q n a c l mo' s' m' w' ∧ (∀ k, mo' = some k → mo = some k ∨ wr.heap.size ≤ k) ∧ Touch (fun k => k = b2 ∨ mo = some k ∨ k = Q) wr w'
set_option maxRecDepth 100000 in
set_option maxHeartbeats 2000000 in
theorem deliver_any (w : World) (b1 b2 P Q n : Nat) (a : Option Addr) (c : Nat) (l : List (Nat × List UInt8)) (mo : Option Nat) (s s' : Ws) (m m' e d : Nat) (t : List UInt8) (wr0 : World) (h : Cr w b1 b2 P Q n a c l mo s m wr0) (hd : d < 4294967296) (hsl : s.l.length ≤ 900) (hmm : m ≤ m') (hm : m' ≤ 100) (hput : putW s d t = (s', (List.range' m (m' - m)).map tT, e)) :
    Calls Try.prog 39 #[itV d t, .pointer (some ⟨P, 0, none⟩), .pointer (some ⟨Q, 0, none⟩)] wr0 (DelPost w wr0 b1 b2 P Q n a c l mo s' m') := by
  have HPUT := Lib.hid (fun W hW => inPut_any b2 mo s d t W hW hd hsl)
  rw [hput] at HPUT
  have hA : Below wr0.heap.size wr0 (wr0.alloc (.cells #[.int .u32 (d : Int), .string (bs t)] 81)) := bel_alloc (Below.refl _ _) _
  have HC := Lib.hid (h.keep hA)
  have HA := Lib.hid hA
  generalize hpost : DelPost w wr0 b1 b2 P Q n a c l mo s' m' = Post
  have HPost := Lib.hid hpost
  clear hpost h hA hput
  unfold itV at HPUT ⊢
  have p0 := HC.out.p0
  have hPl := block_lt_of_cell p0
  simp only at hPl
  go_enter Try.func39, Try.ntmps39
  go_wp2_with fail
  refine (HPUT.out _ HC.out.k1.i).mono ?_
  rintro r w2 ⟨a2, c2, mo2, rfl, hw2, hf2, hrow2, ht2⟩
  have HC2 := Lib.hid (HC.out.put hw2 hf2 ht2)
  have HF2 : Hid (∀ k, mo2 = some k → mo = some k ∨ wr0.heap.size ≤ k) := Lib.hid fun k hk => (hf2 k hk).imp id fun e => by have := HA.out.size; omega
  have HT2 : Hid (Touch (fun k => k = b2 ∨ mo = some k ∨ k = Q) wr0 w2) := Lib.hid ((touch_of_below HA.out).trans (ht2.mono fun k _ e => e.imp id .inl))
  have HR2 : Hid (OwnV 9 1 0 a2 c2 (((List.range' m (m' - m)).map tT).map strCells1) w2 ∧ ∀ x, a2 = some x → x.block ≠ Q) := Lib.hid ⟨⟨hrow2.1, fun _ _ => Nat.zero_le _⟩, fun x hx => by
    have h1 := hrow2.2 x hx
    have h2 := block_lt_of_cell HC.out.q0
    simp only at h2; omega⟩
  have hlen : ((List.range' m (m' - m)).map tT).length = m' - m := by simp
  have HLEN := Lib.hid hlen
  simp only [hlen]
  clear hw2 hf2 hrow2 ht2 hlen HC HPUT p0 hPl
  go_wp2
  generalize hq : m' - m = q at HLEN
  have HQE := Lib.hid hq
  have hq1 : m + q = m' := by omega
  clear hq
  go_loopw [17] (fun iv wx => ∃ j : Nat, j ≤ q ∧ iv = .int .i64 j ∧ Hid (Cr w b1 b2 P Q n a c l mo2 s' (m + j) wx ∧ OwnV 9 1 0 a2 c2 (((List.range' m q).map tT).map strCells1) wx ∧ Touch (fun k => k = b2 ∨ mo = some k ∨ k = Q) wr0 wx)) (fun iv _ => q - (intOf iv).toNat)
  case atStart => exact ⟨0, Nat.zero_le _, rfl, Lib.hid ⟨HC2.out, by have := HR2.out.1; rw [HQE.out] at this; exact this, HT2.out⟩⟩
  case round =>
    obtain ⟨j, hj, rfl, HJ⟩ := hrel
    by_cases hlt : j < q
    · obtain ⟨g, rfl, hg, hcells⟩ := own_str HJ.out.2.1 (by rw [List.length_map, List.length_range']; omega)
      have x0 := hcells j (by rw [List.length_map, List.length_range']; exact hlt)
      simp only [List.getElem_map, List.getElem_range', Nat.one_mul] at x0
      obtain ⟨hcr, hrw, htc⟩ := HJ.out
      have hyb : m + j < 256 := by omega
      generalize hy : m + j = y at x0 hcr hyb
      have HY := Lib.hid hy
      clear hy
      have q0 := hcr.q0
      have qf := hcr.qf
      have hQl := block_lt_of_cell q0
      simp only at hQl
      have hbst := byte_str wr y _ rfl hyb
      have hw8 : IntKind.u8.wrap (y : Int) = (y : Int) := by rw [IntKind.wrap_u8]; omega
      have hse := str_eq (bs (tT y))
      have hgQ : g ≠ Q := fun e => HR2.out.2 ⟨g, 0, none⟩ rfl e
      have HN : Hid (Cr w b1 b2 P Q n a c l mo2 s' (y + 1) ((wr.setCell ⟨Q, 0, none⟩ (.int .i64 ((y : Int) + 1))).alloc (.cells #[.int .u8 (y : Int)] 5)) ∧ OwnV 9 1 0 (some ⟨g, 0, none⟩) c2 (((List.range' m q).map tT).map strCells1) ((wr.setCell ⟨Q, 0, none⟩ (.int .i64 ((y : Int) + 1))).alloc (.cells #[.int .u8 (y : Int)] 5)) ∧ Touch (fun k => k = b2 ∨ mo = some k ∨ k = Q) wr0 ((wr.setCell ⟨Q, 0, none⟩ (.int .i64 ((y : Int) + 1))).alloc (.cells #[.int .u8 (y : Int)] 5))) := Lib.hid ⟨(hcr.count (y + 1)).keep (bel_alloc (Below.refl _ _) _), (hrw.touch (((Touch.refl (fun k => k = Q) wr).setCell (p := ⟨Q, 0, none⟩) (fun _ => rfl) (.int .i64 ((y : Int) + 1))).alloc (.cells #[.int .u8 (y : Int)] 5)) (fun x hx e => by cases hx; exact hgQ e)), (htc.setCell (p := ⟨Q, 0, none⟩) (fun _ => .inr (.inr rfl)) _).alloc _⟩
      clear hcr hrw htc hcells HJ
      go_wp2
      go_roundw
      case rel => exact ⟨j + 1, by omega, by go_num, Lib.hid ⟨by rw [show m + (j + 1) = y + 1 by have := HY.out; omega]; exact HN.out.1, HN.out.2⟩⟩
      case measure => simp [intOf] <;> omega
    · obtain rfl : j = q := by omega
      have HX : Hid (∃ mo', Cr w b1 b2 P Q n a c l mo' s' m' wr ∧ (∀ k, mo' = some k → mo = some k ∨ wr0.heap.size ≤ k) ∧ Touch (fun k => k = b2 ∨ mo = some k ∨ k = Q) wr0 wr) := Lib.hid ⟨mo2, by have := HJ.out.1; rw [hq1] at this; exact this, HF2.out, HJ.out.2.2⟩
      go_wp2
      rw [← HPost.out]
      exact ⟨rfl, HX.out⟩
theorem nodup_le {l r : List Nat} (h : l.Nodup) (hs : ∀ x ∈ l, x ∈ r) : l.length ≤ r.length := by
  induction l generalizing r with
  | nil => simp
  | cons x l ih =>
    obtain ⟨h1, h2⟩ := List.nodup_cons.1 h
    have hx := hs x (by simp)
    have h3 := ih (r := r.erase x) h2 (fun y hy => by
      have hne : y ≠ x := fun e => h1 (by rw [← e]; exact hy)
      exact (List.mem_erase_of_ne hne).2 (hs y (by simp [hy])))
    rw [List.length_erase_of_mem hx] at h3
    have := List.length_pos_of_mem hx
    simp only [List.length_cons]; omega
/-- No more wait than were sent. -/
theorem CarS.slen {first n S m : Nat} {G K : Nat → Bool} {s : Ws} (h : CarS first n S m G K s) : s.l.length ≤ S := by
  have h1 := nodup_le (r := (List.range S).map (numW first)) h.ing.nd (fun x hx => by
    obtain ⟨p, hp, rfl⟩ := List.mem_map.1 hx
    obtain ⟨d, g1, g2, g3, -⟩ := (h.ing.keys p.1 p.2).1 hp
    exact List.mem_map.2 ⟨d, List.mem_range.2 (h.gS d g1), g3.symm⟩)
  simpa using h1
end Go.Proofs.Ytfkhfincggligaa
namespace Go.Proofs.Ytfkhfincggligaa
open Go.RowKit
set_option linter.unusedVariables false

/-- All that the loops know. -/
structure Lp (w : World) (b1 b2 P Q first n S : Nat) (wr : World) : Prop where
  ex : ∃ (m : Nat) (G K : Nat → Bool) (s : Ws) (mo : Option Nat) (a : Option Addr) (c : Nat), CarS first n S m G K s ∧ Cr w b1 b2 P Q (numW first S) a c (itemsK first S K) mo s m wr
/-- What the last loop knows behind r rounds. -/
structure Lp2 (w : World) (b1 b2 P Q first n S r : Nat) (wr : World) : Prop where
  ex : ∃ (m : Nat) (G K : Nat → Bool) (s : Ws) (mo : Option Nat) (a : Option Addr) (c : Nat), CarS first n S m G K s ∧ Cr w b1 b2 P Q (numW first S) a c (itemsK first S K) mo s m wr ∧ (0 < r → itemsK first S K = [] ∧ min n (r - 1) ≤ S)
/-- While all that are on their way are delivered: the first j of them came. -/
structure Lp3 (w : World) (b1 b2 P Q first n S j : Nat) (K : Nat → Bool) (a : Option Addr) (c : Nat) (a6 : Option Addr) (c6 : Nat) (wr : World) : Prop where
  ex : ∃ (m : Nat) (G : Nat → Bool) (s : Ws) (mo : Option Nat), CarS first n S m G K s ∧ Cr w b1 b2 P Q (numW first S) a c (itemsK first S K) mo s m wr ∧ (∀ i (h : i < (idxK S K).length), i < j → G (idxK S K)[i] = true) ∧ OwnV 81 2 0 a6 c6 ((itemsK first S K).map itCells) wr ∧ ∀ x k, a6 = some x → mo = some k → x.block ≠ k
theorem all_told {first S : Nat} {G K : Nat → Bool} (hkg : ∀ d, K d = true → G d = true) (h : ∀ i (h : i < (idxK S K).length), G (idxK S K)[i] = true) : itemsK first S G = [] := by
  have h0 : idxK S G = [] := by
    cases hi : idxK S G with
    | nil => rfl
    | cons x l =>
      obtain ⟨h1, h2⟩ := mem_idx.1 (show x ∈ idxK S G by rw [hi]; simp)
      have hk : K x = false := by
        cases hk : K x with
        | false => rfl
        | true => rw [hkg x hk] at h2; cases h2
      obtain ⟨i, hi', e⟩ := List.getElem_of_mem (mem_idx.2 ⟨h1, hk⟩ : x ∈ idxK S K)
      have := h i hi'
      rw [e, h2] at this; cases this
  unfold itemsK; rw [h0]; rfl
set_option maxRecDepth 100000 in
set_option maxHeartbeats 4000000 in
theorem windowCarries_walk (w : World) (first : Nat) (hfirst : first < 4294967296) (nArg : Int) (a0 : Option Addr) (cap : Nat) (ns : List Int) (hlm : ns.length ≤ 9223372036854775807) (hrow : IntRow .i64 w a0 ns) :
    Calls Try.prog 10 #[.int .u32 (first : Int), .int .i64 nArg, .slice a0 ns.length cap] w fun e w' => e = .returned (.bool true) ∧ Below w.heap.size w w' := by
  have HAW := Lib.hid (fun W => awake13_any W)
  have HBG := Lib.hid (fun W => begin_any first W)
  have HEX := Lib.hid (fun W => expect_any first hfirst W)
  have HROW := Lib.hid hrow
  obtain ⟨N, hN, eN⟩ := andM nArg 63 63 rfl (by decide)
  clear hrow
  go_enter Try.func10, Try.ntmps10
  go_wp2_with fail
  refine (HAW.out _).mono ?_
  rintro r w1 ⟨rfl, hb1⟩
  have HB1 := Lib.hid hb1
  clear hb1 HAW
  go_wp2_with fail
  refine (HBG.out _).mono ?_
  rintro r w2 ⟨rfl, ho, hb2⟩
  have HO2 := Lib.hid ho
  have HB2 := Lib.hid hb2
  clear ho hb2 HBG
  go_wp2_with fail
  refine (HEX.out _).mono ?_
  rintro r w3 ⟨rfl, hwi, hb3⟩
  have HA3 : Hid (Ak1 w w1.heap.size w2.heap.size first none 0 [] none ⟨first, []⟩ w3) := Lib.hid (by
    have hs1 := HB1.out.size
    have hs2 := HB2.out.size
    have hol := HO2.out.lt
    exact ⟨(HO2.out.oat hfirst).keep hb3, hwi, (HB1.out.trans (HB2.out.mono hs1)).trans (hb3.mono (by omega)), by omega, hs1, by omega, (fun x hx => by cases hx), (fun k hk => by cases hk), (fun x k hx => by cases hx)⟩)
  clear hwi hb3 HEX HO2 HB1 HB2
  generalize w1.heap.size = b1 at HA3 ⊢
  generalize w2.heap.size = b2 at HA3 ⊢
  have HL0 : Hid (Lp w b1 b2 w3.heap.size (w3.heap.size + 1) first N 0 ((w3.alloc (.cells #[.pointer (some ⟨b2, 0, none⟩)] 83)).alloc (.cells #[.int .i64 0] 3))) := Lib.hid (by
    have e1 : (w3.alloc (.cells #[.pointer (some ⟨b2, 0, none⟩)] 83)).heap.size = w3.heap.size + 1 := by simp
    have hs := HA3.out.bel.size
    have h1l := HA3.out.o.lt
    have h2l := HA3.out.i.lt
    have p0 : (w3.alloc (.cells #[.pointer (some ⟨b2, 0, none⟩)] 83)).cell? ⟨w3.heap.size, 0, none⟩ = some (.pointer (some ⟨b2, 0, none⟩)) := by rw [new_at _ _ rfl]; rfl
    have k1 := HA3.out.keep (bel_alloc (Below.refl _ _) (.cells #[.pointer (some ⟨b2, 0, none⟩)] 83))
    generalize w3.alloc (.cells #[.pointer (some ⟨b2, 0, none⟩)] 83) = W4 at e1 p0 k1 ⊢
    refine ⟨0, fun _ => false, fun _ => false, ⟨first, []⟩, none, none, 0, CarS.start first N hfirst, ?_⟩
    rw [show numW first 0 = first by unfold numW; omega]
    refine ⟨k1.keep (bel_alloc (Below.refl _ _) _), alloc_cell p0 _, by rw [new_at _ _ e1]; rfl, by rw [← e1]; exact frozen_new _ _ _ _, ⟨hs, by omega, by omega, by omega⟩, ⟨by omega, by omega, by omega⟩, (fun x hx => by cases hx), (fun k hk => by cases hk)⟩)
  go_wp2
  generalize (w3.alloc (.cells #[.pointer (some ⟨b2, 0, none⟩)] 83)).alloc (.cells #[.int .i64 0] 3) = W4 at HL0 ⊢
  generalize w3.heap.size + 1 = Q at HL0 ⊢
  generalize w3.heap.size = P at HL0 ⊢
  clear HA3
  go_loopw [9, 12] (fun sv iv wr => ∃ (S k : Nat), k ≤ 200 ∧ S ≤ N ∧ sv = .int .i64 S ∧ iv = .int .i64 k ∧ Hid (Lp w b1 b2 P Q first N S wr)) (fun _ iv _ => 200 - (intOf iv).toNat)
  case atStart => exact ⟨0, 0, by omega, by omega, rfl, rfl, HL0⟩
  case round =>
    obtain ⟨S, k, hk, hS, rfl, rfl, HL⟩ := hrel
    by_cases hgo : k < ns.length ∧ k < 200
    · obtain ⟨hlt, h200⟩ := hgo
      have hi0 : (0 : Int) ≤ (k : Int) := by omega
      have hi1 : (k : Int) < (ns.length : Int) := by omega
      have hi2 : (k : Int) < 200 := by omega
      go_upto_if 41 with (fail)
      go_cut [9] (fun s9 wx => ∃ S' : Nat, S' ≤ N ∧ s9 = .int .i64 S' ∧ Hid (Lp w b1 b2 P Q first N S' wx))
      case first =>
        by_cases hSN : S < N
        · obtain ⟨m, G, K, s, mo, a, c, hcar, hcr⟩ := HL.out.ex
          have hsi : (S : Int) < (N : Int) := by omega
          have hw8 : IntKind.u8.wrap (S : Int) = (S : Int) := by rw [IntKind.wrap_u8]; omega
          have hbst := byte_str wr S _ rfl (by omega)
          have HCA := Lib.hid (hcr.keep (bel_alloc (Below.refl _ _) (.cells #[.int .u8 (S : Int)] 5)))
          have hlen := itemsK_len first S K
          rcases hcar.room (by omega) with ⟨hr1, hr2⟩ | ⟨p, l', hr1, hr2⟩
          · have HPU := Lib.hid (push_ok b1 (numW first S) a c (itemsK first S K) (tT S) _ HCA.out.k1.o (by omega) (itemsK_lt _ _ _) hr1)
            obtain ⟨hcar', hit'⟩ := hcar.push hSN hr2
            have HCAR := Lib.hid hcar'
            have HIT := Lib.hid hit'
            clear hcar hcr hr1 hr2 hcar' hit' hlen
            go_wp2_with fail
            refine HPU.out.mono ?_
            rintro r w5 ⟨rfl, a5, c5, hO5, hf5, ht5⟩
            have HL5 : Hid (Lp w b1 b2 P Q first N (S + 1) w5) := Lib.hid ⟨⟨m, G, K, s, mo, a5, c5, HCAR.out, by
              have := HCA.out.push hO5 hf5 ht5
              rw [numW_succ, ← HIT.out] at this
              exact this⟩⟩
            clear hO5 hf5 ht5 HPU HCA
            go_wp2_with fail
            go_meet
            exact ⟨S + 1, by omega, by go_num, HL5⟩
          · have HPF := Lib.hid (wpush_full b1 (numW first S) a c p l' (tT S) _ (by rw [← hr1]; exact HCA.out.k1.o) (by rw [hr1] at hlen; simp at hlen; omega) (itemsK_lt first S K p (by rw [hr1]; simp)) hr2)
            have HCAR := Lib.hid hcar
            clear hcar hcr hr1 hr2 hlen
            go_wp2_with fail
            refine HPF.out.mono ?_
            rintro r w5 ⟨rfl, hb5⟩
            have HL5 : Hid (Lp w b1 b2 P Q first N S w5) := Lib.hid ⟨⟨m, G, K, s, mo, a, c, HCAR.out, HCA.out.keep hb5⟩⟩
            clear hb5 HPF HCA
            go_wp2_with fail
            go_meet
            exact ⟨S, by omega, rfl, HL5⟩
        · have hsi : (N : Int) ≤ (S : Int) := by omega
          go_wp2_with fail
          go_meet
          exact ⟨S, by omega, rfl, HL⟩
      case rest =>
        obtain ⟨S1, hS1, rfl, HL1⟩ := hcut
        obtain ⟨m, G, K, s, mo, a, c, hcar, hcr⟩ := HL1.out.ex
        have hlen := itemsK_len first S1 K
        have HALL := Lib.hid (outAll_any b1 (numW first S1) a c (itemsK first S1 K) wc hcr.k1.o (by omega))
        have HCAR := Lib.hid hcar
        have HCR := Lib.hid hcr
        obtain ⟨gb, off, rfl, hcw⟩ := HROW.out (by omega)
        have cw := hcw k hlt
        have hgl : gb < w.heap.size := block_lt_of_cell cw
        clear hcar hcr HL HL1
        go_wp2_with fail
        refine HALL.out.mono ?_
        rintro e w6 ⟨a6, c6, rfl, hrow6, hb6⟩
        have HC6 := Lib.hid (HCR.out.keep hb6)
        have HR6 := Lib.hid hrow6
        have d0 : w6.cell? ⟨gb, off + k, none⟩ = some (.int .i64 ns[k]) := (HC6.out.k1.bel.cell (p := ⟨gb, off + k, none⟩) hgl).trans cw
        have hgr : gb < w6.heap.size := block_lt_of_cell d0
        generalize ns[k] = z at d0
        obtain ⟨v3, hv3, e3⟩ := andM z 3 3 rfl (by decide)
        obtain ⟨v4, hv4, e4⟩ := andM z 1024 1024 rfl (by decide)
        clear hcw cw hrow6 hb6 HALL HCR
        generalize hq : (itemsK first S1 K).length = q at hlen
        have HQ := Lib.hid hq
        clear hq
        by_cases hq0 : q = 0
        · subst hq0
          have HL6 : Hid (Lp w b1 b2 P Q first N S1 w6) := Lib.hid ⟨⟨m, G, K, s, mo, a, c, HCAR.out, HC6.out⟩⟩
          clear HC6 HR6
          go_upto_region 17 with (fail)
          by_cases hv1 : v4 = 0
          · subst hv1
            go_wp2
            go_roundw
            case rel => exact ⟨S1, k + 1, by omega, hS1, rfl, by go_num, HL6⟩
            case measure => simp [intOf] <;> omega
          · have hv4b : (0 : Int) < (v4 : Int) := by omega
            obtain ⟨m2, G2, K2, s2, mo2, a2, c2, hcar2, hcr2⟩ := HL6.out.ex
            have HACK := Lib.hid (inAck_any b2 mo2 s2 w6 hcr2.k1.i hcar2.ing.ok)
            have HC2 := Lib.hid hcr2
            have HK2 := Lib.hid hcar2
            have p0 := hcr2.p0
            have hPl := block_lt_of_cell p0
            simp only at hPl
            clear hcar2 hcr2
            go_wp2_with fail
            refine HACK.out.mono ?_
            rintro e w8 ⟨⟨B, rfl, hB, hbits⟩, hb8⟩
            obtain ⟨hc3, hrest, hgo8⟩ := HK2.out.told (by omega) hbits
            have HC8 := Lib.hid (HC2.out.keep hb8)
            have HOA := Lib.hid (outAck_ok b1 (numW first S1) a2 c2 (itemsK first S1 K2) s2.nx B w8 HC8.out.k1.o (by have := itemsK_len first S1 K2; omega) (itemsK_lt _ _ _) HC2.out.k1.i.nx hB hgo8)
            rw [hrest] at HOA
            have HK3 := Lib.hid hc3
            clear hc3 hrest hgo8 hb8 hbits hB p0 hPl HACK
            go_wp2_with fail
            refine HOA.out.mono ?_
            rintro e w9 ⟨a3, c3, a4, c4, rfl, hO9, -, hf9, -, ht9⟩
            have HL9 : Hid (Lp w b1 b2 P Q first N S1 w9) := Lib.hid ⟨⟨m2, G2, G2, s2, mo2, a4, c4, HK3.out, HC8.out.ack hO9 hf9 ht9⟩⟩
            clear hO9 hf9 ht9 HOA
            go_wp2
            go_roundw
            case rel => exact ⟨S1, k + 1, by omega, hS1, rfl, by go_num, HL9⟩
            case measure => simp [intOf] <;> omega
        · have hq1 : (0 : Int) < (q : Int) := by omega
          by_cases hv : v3 = 0
          · subst hv
            have HL6 : Hid (Lp w b1 b2 P Q first N S1 w6) := Lib.hid ⟨⟨m, G, K, s, mo, a, c, HCAR.out, HC6.out⟩⟩
            clear HC6 HR6
            go_upto_region 17 with (fail)
            by_cases hv1 : v4 = 0
            · subst hv1
              go_wp2
              go_roundw
              case rel => exact ⟨S1, k + 1, by omega, hS1, rfl, by go_num, HL6⟩
              case measure => simp [intOf] <;> omega
            · have hv4b : (0 : Int) < (v4 : Int) := by omega
              obtain ⟨m2, G2, K2, s2, mo2, a2, c2, hcar2, hcr2⟩ := HL6.out.ex
              have HACK := Lib.hid (inAck_any b2 mo2 s2 w6 hcr2.k1.i hcar2.ing.ok)
              have HC2 := Lib.hid hcr2
              have HK2 := Lib.hid hcar2
              have p0 := hcr2.p0
              have hPl := block_lt_of_cell p0
              simp only at hPl
              clear hcar2 hcr2
              go_wp2_with fail
              refine HACK.out.mono ?_
              rintro e w8 ⟨⟨B, rfl, hB, hbits⟩, hb8⟩
              obtain ⟨hc3, hrest, hgo8⟩ := HK2.out.told (by omega) hbits
              have HC8 := Lib.hid (HC2.out.keep hb8)
              have HOA := Lib.hid (outAck_ok b1 (numW first S1) a2 c2 (itemsK first S1 K2) s2.nx B w8 HC8.out.k1.o (by have := itemsK_len first S1 K2; omega) (itemsK_lt _ _ _) HC2.out.k1.i.nx hB hgo8)
              rw [hrest] at HOA
              have HK3 := Lib.hid hc3
              clear hc3 hrest hgo8 hb8 hbits hB p0 hPl HACK
              go_wp2_with fail
              refine HOA.out.mono ?_
              rintro e w9 ⟨a3, c3, a4, c4, rfl, hO9, -, hf9, -, ht9⟩
              have HL9 : Hid (Lp w b1 b2 P Q first N S1 w9) := Lib.hid ⟨⟨m2, G2, G2, s2, mo2, a4, c4, HK3.out, HC8.out.ack hO9 hf9 ht9⟩⟩
              clear hO9 hf9 ht9 HOA
              go_wp2
              go_roundw
              case rel => exact ⟨S1, k + 1, by omega, hS1, rfl, by go_num, HL9⟩
              case measure => simp [intOf] <;> omega
          · have hvb : ((v3 : Int) != 0) = true := by rw [bne_iff_ne]; omega
            obtain ⟨v5, hv5, e5⟩ := andM (z / 4) 255 255 rfl (by decide)
            obtain ⟨x, hxq, hx1, hx2⟩ : ∃ x : Nat, x < q ∧ (v5 : Int) % (q : Int) = (x : Int) ∧ (v5 : Int).tmod (q : Int) = (x : Int) := ⟨v5 % q, Nat.mod_lt _ (by omega), by omega, by rw [Int.tmod_eq_emod_of_nonneg (by omega)]; omega⟩
            obtain ⟨g6, rfl, hg6, hc6⟩ := cell_it HR6.out (by rw [HQ.out]; omega)
            obtain ⟨u0, u1⟩ := hc6 x (by rw [HQ.out]; exact hxq)
            generalize hpe : (itemsK first S1 K)[x]'(by rw [HQ.out]; exact hxq) = p at u0 u1
            have hpm : p ∈ itemsK first S1 K := by rw [← hpe]; exact List.getElem_mem _
            obtain ⟨d, hdm, rfl⟩ := List.mem_map.1 hpm
            obtain ⟨hdS, hdK⟩ := mem_idx.1 hdm
            obtain ⟨s', m', er, hmm, hput, hcar'⟩ := HCAR.out.come (by omega) d hdS hdK
            have hmS := hcar'.le
            have HDEL := Lib.hid (deliver_any w b1 b2 P Q (numW first S1) a c (itemsK first S1 K) mo s s' m m' er (numW first d) (tT d) w6 HC6.out (numW_lt _ _) (by have := HCAR.out.slen; omega) hmm (by omega) hput)
            unfold itV at HDEL
            have HCAR' := Lib.hid hcar'
            have hx0 : (0 : Int) ≤ (x : Int) := by omega
            have hx3 : (x : Int) < (q : Int) := by omega
            clear hc6 hpe hpm hdm hput hcar'
            simp only at u0 u1
            go_wp2_with fail
            refine HDEL.out.mono ?_
            rintro e w7 ⟨rfl, mo7, hcr7, -, -⟩
            have HL7 : Hid (Lp w b1 b2 P Q first N S1 w7) := Lib.hid ⟨⟨m', _, K, s', mo7, a, c, HCAR'.out, hcr7⟩⟩
            have d7 : w7.cell? ⟨gb, off + k, none⟩ = some (.int .i64 z) := by
              have h1 := hcr7.k1.bel.cell (p := ⟨gb, off + k, none⟩) hgl
              have h2 := HC6.out.k1.bel.cell (p := ⟨gb, off + k, none⟩) hgl
              exact h1.trans (h2.symm.trans d0)
            have hgr7 : gb < w7.heap.size := block_lt_of_cell d7
            clear hcr7 d0 hgr u0 u1 HDEL HC6 HR6
            go_upto_region 17 with (fail)
            by_cases hv1 : v4 = 0
            · subst hv1
              go_wp2
              go_roundw
              case rel => exact ⟨S1, k + 1, by omega, hS1, rfl, by go_num, HL7⟩
              case measure => simp [intOf] <;> omega
            · have hv4b : (0 : Int) < (v4 : Int) := by omega
              obtain ⟨m2, G2, K2, s2, mo2, a2, c2, hcar2, hcr2⟩ := HL7.out.ex
              have HACK := Lib.hid (inAck_any b2 mo2 s2 w7 hcr2.k1.i hcar2.ing.ok)
              have HC2 := Lib.hid hcr2
              have HK2 := Lib.hid hcar2
              have p0 := hcr2.p0
              have hPl := block_lt_of_cell p0
              simp only at hPl
              clear hcar2 hcr2
              go_wp2_with fail
              refine HACK.out.mono ?_
              rintro e w8 ⟨⟨B, rfl, hB, hbits⟩, hb8⟩
              obtain ⟨hc3, hrest, hgo8⟩ := HK2.out.told (by omega) hbits
              have HC8 := Lib.hid (HC2.out.keep hb8)
              have HOA := Lib.hid (outAck_ok b1 (numW first S1) a2 c2 (itemsK first S1 K2) s2.nx B w8 HC8.out.k1.o (by have := itemsK_len first S1 K2; omega) (itemsK_lt _ _ _) HC2.out.k1.i.nx hB hgo8)
              rw [hrest] at HOA
              have HK3 := Lib.hid hc3
              clear hc3 hrest hgo8 hb8 hbits hB p0 hPl HACK
              go_wp2_with fail
              refine HOA.out.mono ?_
              rintro e w9 ⟨a3, c3, a4, c4, rfl, hO9, -, hf9, -, ht9⟩
              have HL9 : Hid (Lp w b1 b2 P Q first N S1 w9) := Lib.hid ⟨⟨m2, G2, G2, s2, mo2, a4, c4, HK3.out, HC8.out.ack hO9 hf9 ht9⟩⟩
              clear hO9 hf9 ht9 HOA
              go_wp2
              go_roundw
              case rel => exact ⟨S1, k + 1, by omega, hS1, rfl, by go_num, HL9⟩
              case measure => simp [intOf] <;> omega
    · have hend : ((ns.length : Int) ≤ (k : Int)) ∨ ((k : Int) < (ns.length : Int) ∧ (200 : Int) ≤ (k : Int)) := by omega
      have HL2 : Hid (Lp2 w b1 b2 P Q first N S 0 wr) := Lib.hid (by
        obtain ⟨m, G, K, s, mo, a, c, h1, h2⟩ := HL.out.ex
        exact ⟨m, G, K, s, mo, a, c, h1, h2, fun h => absurd h (Nat.lt_irrefl _)⟩)
      clear HL HL0 hgo
      rcases hend with hend | ⟨hend, hend2⟩
      all_goals
        go_wp2
        go_loopw [9, 98] (fun sv iv wr => ∃ (S r : Nat), r ≤ 2 * N + 2 ∧ S ≤ N ∧ sv = .int .i64 S ∧ iv = .int .i64 r ∧ Hid (Lp2 w b1 b2 P Q first N S r wr)) (fun _ iv _ => 2 * N + 2 - (intOf iv).toNat)
        case atStart => exact ⟨S, 0, by omega, hS, rfl, rfl, HL2⟩
        case round =>
          obtain ⟨S, r, hr, hS, rfl, rfl, HL⟩ := hrel
          by_cases hlt : r < 2 * N + 2
          · have hi1 : (r : Int) < 2 * (N : Int) + 2 := by omega
            obtain ⟨m, G, K, s, mo, a, c, hcar, hcr, hemp⟩ := HL.out.ex
            go_upto_if 102 with (fail)
            go_cut [9] (fun s9 wx => ∃ (S' : Nat) (m : Nat) (G : Nat → Bool) (s : Ws) (mo : Option Nat) (a : Option Addr) (c : Nat), S' ≤ N ∧ s9 = .int .i64 S' ∧ Hid (min N r ≤ S' ∧ CarS first N S' m G K s ∧ Cr w b1 b2 P Q (numW first S') a c (itemsK first S' K) mo s m wx))
            case first =>
              have HEMP := Lib.hid hemp
              by_cases hSN : S < N
              · have hsi : (S : Int) < (N : Int) := by omega
                have hw8 : IntKind.u8.wrap (S : Int) = (S : Int) := by rw [IntKind.wrap_u8]; omega
                have hbst := byte_str wr S _ rfl (by omega)
                have HCA := Lib.hid (hcr.keep (bel_alloc (Below.refl _ _) (.cells #[.int .u8 (S : Int)] 5)))
                have hlen := itemsK_len first S K
                rcases hcar.room (by omega) with ⟨hr1, hr2⟩ | ⟨p, l', hr1, hr2⟩
                · have HPU := Lib.hid (push_ok b1 (numW first S) a c (itemsK first S K) (tT S) _ HCA.out.k1.o (by omega) (itemsK_lt _ _ _) hr1)
                  obtain ⟨hcar', hit'⟩ := hcar.push hSN hr2
                  have HCAR := Lib.hid hcar'
                  have HIT := Lib.hid hit'
                  have hmin : min N r ≤ S + 1 := by
                    rcases Nat.eq_zero_or_pos r with e | e
                    · subst e; omega
                    · have := (hemp e).2; omega
                  clear hcar hcr hr1 hr2 hcar' hit' hlen hemp
                  go_wp2_with fail
                  refine HPU.out.mono ?_
                  rintro r' w5 ⟨rfl, a5, c5, hO5, hf5, ht5⟩
                  have HL5 : Hid (min N r ≤ S + 1 ∧ CarS first N (S + 1) m G K s ∧ Cr w b1 b2 P Q (numW first (S + 1)) a5 c5 (itemsK first (S + 1) K) mo s m w5) := Lib.hid ⟨hmin, HCAR.out, by
                    have := HCA.out.push hO5 hf5 ht5
                    rw [numW_succ, ← HIT.out] at this
                    exact this⟩
                  clear hO5 hf5 ht5 HPU HCA
                  go_wp2_with fail
                  go_meet
                  exact ⟨S + 1, m, G, s, mo, a5, c5, by omega, by go_num, HL5⟩
                · have HPF := Lib.hid (wpush_full b1 (numW first S) a c p l' (tT S) _ (by rw [← hr1]; exact HCA.out.k1.o) (by rw [hr1] at hlen; simp at hlen; omega) (itemsK_lt first S K p (by rw [hr1]; simp)) hr2)
                  have HCAR := Lib.hid hcar
                  have hmin : min N r ≤ S := by
                    rcases Nat.eq_zero_or_pos r with e | e
                    · subst e; omega
                    · have := (hemp e).1; rw [hr1] at this; cases this
                  clear hcar hcr hr1 hr2 hlen hemp
                  go_wp2_with fail
                  refine HPF.out.mono ?_
                  rintro r' w5 ⟨rfl, hb5⟩
                  have HL5 : Hid (min N r ≤ S ∧ CarS first N S m G K s ∧ Cr w b1 b2 P Q (numW first S) a c (itemsK first S K) mo s m w5) := Lib.hid ⟨hmin, HCAR.out, HCA.out.keep hb5⟩
                  clear hb5 HPF HCA
                  go_wp2_with fail
                  go_meet
                  exact ⟨S, m, G, s, mo, a, c, by omega, rfl, HL5⟩
              · have hsi : (N : Int) ≤ (S : Int) := by omega
                have HL5 : Hid (min N r ≤ S ∧ CarS first N S m G K s ∧ Cr w b1 b2 P Q (numW first S) a c (itemsK first S K) mo s m wr) := Lib.hid ⟨by omega, hcar, hcr⟩
                clear hcar hcr hemp
                go_wp2_with fail
                go_meet
                exact ⟨S, m, G, s, mo, a, c, by omega, rfl, HL5⟩
            case rest =>
              clear hcar hcr hemp HL
              obtain ⟨S1, m1, G1, s1, mo1, a1, c1, hS1, rfl, HL1⟩ := hcut
              obtain ⟨hmin, hcar, hcr⟩ := HL1.out
              have hlen := itemsK_len first S1 K
              have HALL := Lib.hid (outAll_any b1 (numW first S1) a1 c1 (itemsK first S1 K) wc hcr.k1.o (by omega))
              have HIX : Hid ((idxK S1 K).length = (itemsK first S1 K).length) := Lib.hid (by unfold itemsK; simp)
              clear hcar hcr
              go_wp2_with fail
              refine HALL.out.mono ?_
              rintro e w6 ⟨a6, c6, rfl, hrow6, hb6⟩
              have HL6 : Hid (Lp3 w b1 b2 P Q first N S1 0 K a1 c1 a6 c6 w6) := Lib.hid ⟨⟨m1, G1, s1, mo1, HL1.out.2.1, HL1.out.2.2.keep hb6, (fun i h h0 => absurd h0 (Nat.not_lt_zero _)), ⟨hrow6.1, fun _ _ => Nat.zero_le _⟩, fun x k hx hk => by have h1 := hrow6.2 x hx; have h2 := HL1.out.2.2.k1.i.mlt k hk; omega⟩⟩
              have HRB : Hid (∀ x, a6 = some x → x.block ≠ b2 ∧ x.block ≠ Q) := Lib.hid fun x hx => by
                have h1 := hrow6.2 x hx
                have h2 := HL1.out.2.2.k1.i.lt
                have h3 := block_lt_of_cell HL1.out.2.2.q0
                simp only at h3
                exact ⟨by omega, by omega⟩
              clear hrow6 hb6 HALL HL1
              generalize hq : (itemsK first S1 K).length = q at hlen HIX
              have HQ := Lib.hid hq
              clear hq
              go_wp2
              go_loopw [119] (fun iv wr => ∃ j : Nat, j ≤ q ∧ iv = .int .i64 j ∧ Hid (Lp3 w b1 b2 P Q first N S1 j K a1 c1 a6 c6 wr)) (fun iv _ => q - (intOf iv).toNat)
              case atStart => exact ⟨0, Nat.zero_le _, rfl, HL6⟩
              case round =>
                obtain ⟨j, hj, rfl, HJ⟩ := hrel
                obtain ⟨m2, G2, s2, mo2, hcar2, hcr2, hall2, hrow2, hdj2⟩ := HJ.out.ex
                have HCAR2 := Lib.hid hcar2
                have HCR2 := Lib.hid hcr2
                have HAL2 := Lib.hid hall2
                have HRW2 := Lib.hid hrow2
                have HDJ2 := Lib.hid hdj2
                clear hcar2 hcr2 hall2 hrow2 hdj2 HJ
                by_cases hjq : j < q
                · have hix : j < (idxK S1 K).length := by rw [HIX.out]; exact hjq
                  obtain ⟨g6, rfl, hg6, hc6⟩ := cell_it HRW2.out (by rw [HQ.out]; omega)
                  obtain ⟨u0, u1⟩ := hc6 j (by rw [HQ.out]; exact hjq)
                  have hpe : (itemsK first S1 K)[j]'(by rw [HQ.out]; exact hjq) = (numW first (idxK S1 K)[j], tT (idxK S1 K)[j]) := by unfold itemsK; simp
                  rw [hpe] at u0 u1
                  obtain ⟨hdS, hdK⟩ := mem_idx.1 (List.getElem_mem hix)
                  have HD : Hid ((idxK S1 K)[j] = (idxK S1 K)[j]) := Lib.hid rfl
                  generalize hde : (idxK S1 K)[j] = d at u0 u1 hdS hdK
                  have HDE := Lib.hid hde
                  obtain ⟨s', m', er, hmm, hput, hcar'⟩ := HCAR2.out.come (by omega) d hdS hdK
                  have hmS := hcar'.le
                  have HCA := Lib.hid (HCR2.out.keep (bel_alloc (Below.refl _ _) (.cells #[.int .u32 (numW first d : Int), .string (bs (tT d))] 81)))
                  have HRA := Lib.hid (HRW2.out.touch (touch_of_below (S := fun _ => False) (bel_alloc (Below.refl _ _) (.cells #[.int .u32 (numW first d : Int), .string (bs (tT d))] 81))) (fun _ _ => id))
                  have HDEL := Lib.hid (deliver_any w b1 b2 P Q (numW first S1) a1 c1 (itemsK first S1 K) mo2 s2 s' m2 m' er (numW first d) (tT d) _ HCA.out (numW_lt _ _) (by have := HCAR2.out.slen; omega) hmm (by omega) hput)
                  unfold itV at HDEL
                  have HCAR' := Lib.hid hcar'
                  have hx0 : (0 : Int) ≤ (j : Int) := by omega
                  have hx3 : (j : Int) < (q : Int) := by omega
                  clear hc6 hpe hput hcar' hde HD
                  simp only at u0 u1
                  go_wp2_with fail
                  refine HDEL.out.mono ?_
                  rintro e w7 ⟨rfl, mo7, hcr7, hf7, ht7⟩
                  have HJ7 : Hid (Lp3 w b1 b2 P Q first N S1 (j + 1) K a1 c1 (some ⟨g6, 0, none⟩) c6 w7) := Lib.hid ⟨⟨m', addG G2 d, s', mo7, HCAR'.out, hcr7, fun i h hi => by
                      by_cases hij : i = j
                      · subst hij; rw [HDE.out]; simp [addG]
                      · have := HAL2.out i h (by omega)
                        unfold addG; rw [this]; rfl, HRA.out.touch ht7 (fun x hx e => by
                      rcases e with e | e | e
                      · exact (HRB.out x hx).1 e
                      · exact HDJ2.out x _ hx e rfl
                      · exact (HRB.out x hx).2 e), fun x k hx hk => by
                      rcases hf7 k hk with e | e
                      · exact HDJ2.out x k hx e
                      · have := HRA.out.lt x hx; omega⟩⟩
                  clear hcr7 hf7 ht7 u0 u1 HDEL HCA HRA HCR2 HRW2 HAL2 HDJ2
                  go_wp2
                  go_roundw
                  case rel => exact ⟨j + 1, by omega, by go_num, HJ7⟩
                  case measure => simp [intOf] <;> omega
                · obtain rfl : j = q := by omega
                  have HACK := Lib.hid (inAck_any b2 mo2 s2 wr HCR2.out.k1.i HCAR2.out.ing.ok)
                  have p0 := HCR2.out.p0
                  have hPl := block_lt_of_cell p0
                  simp only at hPl
                  have hi9 : (j : Int) ≤ (j : Int) := by omega
                  go_wp2_with fail
                  refine HACK.out.mono ?_
                  rintro e w8 ⟨⟨B, rfl, hB, hbits⟩, hb8⟩
                  obtain ⟨hc3, hrest, hgo8⟩ := HCAR2.out.told (by omega) hbits
                  have HC8 := Lib.hid (HCR2.out.keep hb8)
                  have HOA := Lib.hid (outAck_ok b1 (numW first S1) a1 c1 (itemsK first S1 K) s2.nx B w8 HC8.out.k1.o (by rw [HQ.out]; omega) (itemsK_lt _ _ _) HCR2.out.k1.i.nx hB hgo8)
                  rw [hrest] at HOA
                  have HK3 := Lib.hid hc3
                  have HEM : Hid (itemsK first S1 G2 = []) := Lib.hid (all_told HCAR2.out.kg fun i h => HAL2.out i h (by rw [HIX.out] at h; exact h))
                  clear hc3 hrest hgo8 hb8 hbits hB p0 hPl HACK
                  go_wp2_with fail
                  refine HOA.out.mono ?_
                  rintro e w9 ⟨a3, c3, a4, c4, rfl, hO9, -, hf9, -, ht9⟩
                  have HL9 : Hid (Lp2 w b1 b2 P Q first N S1 (r + 1) w9) := Lib.hid ⟨⟨m2, G2, G2, s2, mo2, a4, c4, HK3.out, HC8.out.ack hO9 hf9 ht9, fun _ => ⟨HEM.out, by simpa using hmin⟩⟩⟩
                  clear hO9 hf9 ht9 HOA
                  go_wp2
                  go_roundw
                  case rel => exact ⟨S1, r + 1, by omega, hS1, rfl, by go_num, HL9⟩
                  case measure => simp [intOf] <;> omega
          · obtain rfl : r = 2 * N + 2 := by omega
            obtain ⟨m, G, K, s, mo, a, c, hcar, hcr, hemp⟩ := HL.out.ex
            obtain ⟨hem, hmn⟩ := hemp (by omega)
            obtain ⟨hmS, hsl⟩ := hcar.fin hem
            have hSN : S = N := by omega
            subst hSN
            subst hmS
            have HLEN := Lib.hid (outLen_any b1 _ a c _ wr hcr.k1.o)
            rw [hem] at HLEN
            have HILN := Lib.hid (fun W hW => inLen_any b2 mo s W hW)
            rw [hsl] at HILN
            have HWI := Lib.hid hcr.k1.i
            have HB := Lib.hid hcr.k1.bel
            have q0 := hcr.q0
            have p0 := hcr.p0
            have hQl := block_lt_of_cell q0
            have hPl := block_lt_of_cell p0
            simp only at hQl hPl
            simp only [List.length_nil] at HLEN HILN
            have hi9 : 2 * (m : Int) + 2 ≤ 2 * (m : Int) + 2 := by omega
            clear hcar hcr hemp hem hmn hsl HL HL2
            go_wp2_with fail
            refine HLEN.out.mono ?_
            rintro e w5 ⟨rfl, rfl⟩
            go_wp2_with fail
            refine (HILN.out _ HWI.out).mono ?_
            rintro e w5 ⟨rfl, rfl⟩
            go_wp2
            go_ret
            exact ⟨rfl, HB.out⟩
end Go.Proofs.Ytfkhfincggligaa
namespace Go.Proofs.Ytfkhfincggligaa.windowCarries
open Go.ChangeShapes Go.WideShapes Go.ChangeAt Go.RowKit
open Go.ChangeMaps (open_string shut_string)
set_option linter.unusedVariables false
theorem nat32 {a : Int} (h : (Lit.int .u32 a).wf = true) : ∃ n : Nat, a = (n : Int) ∧ n < 4294967296 := by
  have h2 : 0 ≤ a ∧ a ≤ 4294967295 := by simpa [Lit.wf, IntKind.min, IntKind.max, IntKind.signed, IntKind.bits] using h
  exact ⟨a.toNat, by omega, by omega⟩
theorem walk (w : World) (a0 : Int) (w0 : (Lit.int .u32 a0).wf = true) (a1 : Int) (w1 : (Lit.int .i64 a1).wf = true) (a2 : Option Addr) (len2 cap2 : Nat) (n2 : List Int) (w2 : NumArg .i64 w a2 len2 cap2 n2) :
    Calls Try.prog 10 #[.int .u32 a0, .int .i64 a1, .slice a2 len2 cap2] w fun e w' => e = .returned (.bool true) ∧ Below w.heap.size w w' := by
  obtain ⟨n, rfl, hn⟩ := nat32 w0
  obtain ⟨rfl, hl, -, -, hr, -⟩ := w2
  exact windowCarries_walk w n hn a1 a2 cap2 n2 hl hr

/-! ### THE ROW's STEP -/
theorem own : ownKnob Try.prog.godebug = none := by kernel_rfl
theorem laidOut : laidOutB Try.prog = true := by kernel_rfl
set_option maxRecDepth 100000 in
theorem lifted (os : Os) (started : os.Started) (H : Type) (enc : TypeId × Value → H) :
    ReturnsInHanded {} Try.checked os 10 .any (Rows.windowCarriesSpec.pre6 enc Try.prog Try.f10 Rows.windowCarriesRow.domain false) (Rows.windowCarriesSpec.post enc Try.prog Try.f10 false true false false) := by
  refine returnsInHanded_of_change (C := Try.checked) own started (by kernel_rfl) Try.func10
    (ChangeSpec.witness6 (enc := enc) (C := Try.checked) false ⟨#[], #[.int .u32 0, .int .i64 0, .slice none 0 0], []⟩ 8 (by kernel_rfl) (by kernel_rfl) (by kernel_rfl) (by kernel_rfl)) ?_
  intro W base args ds gs before hval0 hW hcnd _
  have hval : ∀ (j : Nat) t v, Try.f10.params[j]? = some t → args[j]? = some v → Value.okWide Try.prog W .any base t v := hval0
  have hW' := hW
  obtain ⟨p, q, hA0, hV, rfl, hfz, hnd⟩ := hW
  have hA : DataW.TrodAll enc Try.prog W 0 (fun _ => true) true Try.f10.params.toList args.toList ds p := hA0
  rw [Try.params10] at hA hval
  obtain ⟨v0, vs0, d0, ds0, p0, q0, hargs, rfl, rfl, h0, r0⟩ := trodAll_cons hA
  obtain ⟨v1, vs1, d1, ds1, p1, q1, rfl, rfl, rfl, h1, r1⟩ := trodAll_cons r0
  obtain ⟨v2, vs2, d2, ds2, p2, q2, rfl, rfl, rfl, h2, r2⟩ := trodAll_cons r1
  obtain ⟨rfl, rfl, rfl⟩ := trodAll_nil r2
  obtain rfl : args = #[v0, v1, v2] := by cases args; simp_all
  obtain ⟨rfl, rfl⟩ := trodVars_none hV
  have k0 := h0
  have lt0 : ∀ x ∈ p0, x.block < W.heap.size := by obtain ⟨m, hm⟩ := k0; exact DataW.trod_lt m _ _ _ hm
  obtain ⟨a0, rfl, rfl, rfl, w0⟩ := open_int Try.underlying54 (hval 0 54 v0 rfl rfl) h0
  have k1 := h1
  have lt1 : ∀ x ∈ p1, x.block < W.heap.size := by obtain ⟨m, hm⟩ := k1; exact DataW.trod_lt m _ _ _ hm
  obtain ⟨a1, rfl, rfl, rfl, w1⟩ := open_int Try.underlying3 (hval 1 3 v1 rfl rfl) h1
  have k2 := h2
  have lt2 : ∀ x ∈ p2, x.block < W.heap.size := by obtain ⟨m, hm⟩ := k2; exact DataW.trod_lt m _ _ _ hm
  obtain ⟨a2, len2, cap2, rfl⟩ := okWide_slice Try.underlying73 (hval 2 73 v2 rfl rfl)
  obtain ⟨n2, w2⟩ : ∃ ns, NumArg .i64 W a2 len2 cap2 ns := by
    obtain ⟨fuel, hf⟩ := h2
    exact nums_of Try.underlying73 Try.underlying3 (by kernel_rfl) hf
  clear hA0 hval0
  refine (walk W a0 w0 a1 w1 a2 len2 cap2 n2 w2).mono fun e W' ⟨he, bel⟩ => ?_
  subst he
  exact ⟨_, rfl, _, _, _, [], _, [], hW', trodAll_mk1 (shut_bool Try.underlying4 _), (trodAll_cons_mk (Below.trod laidOut (by kernel_rfl) (of_decide_eq_true (by kernel_rfl)) k0 bel lt0) (trodAll_cons_mk (Below.trod laidOut (by kernel_rfl) (of_decide_eq_true (by kernel_rfl)) k1 bel lt1) (trodAll_cons_mk (Below.trod laidOut (by kernel_rfl) (of_decide_eq_true (by kernel_rfl)) k2 bel lt2) trodAll_mk0))), rfl, bel.frame _, fun h => by cases h⟩

theorem over : Rows.windowCarriesRow.holds Try.pinned (OpenSpec.ofChange Rows.windowCarriesSpec) :=
  OpenClaim.holds_of_wide 10 Try.f10 rfl rfl rfl rfl rfl rfl rfl ⟨rfl, rfl, rfl, rfl, rfl⟩ rfl rfl rfl rfl rfl (by kernel_rfl) Try.func10 (by kernel_rfl)
    (of_decide_eq_true (by kernel_rfl)) (by unfold Func.isWrapper; first | (rw [if_pos (by decide +kernel)]; kernel_rfl) | (rw [if_neg (by decide +kernel)]; exact ⟨rfl, rfl⟩))
    (fun os started H enc _ => lifted os started H enc)

end Go.Proofs.Ytfkhfincggligaa.windowCarries
namespace Go.Proofs.Ytfkhfincggligaa
theorem windowCarries_proved : Rows.WindowCarriesSaid := windowCarries.over
end Go.Proofs.Ytfkhfincggligaa
