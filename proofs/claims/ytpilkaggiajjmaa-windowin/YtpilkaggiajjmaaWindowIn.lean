/-
  PROVED: for every first number of 32 bits and every list of things that come the law WindowIn answers true, and all read afterwards as before. No condition of our own.
-/
import Derived.Test.YtpilkaggiajjmaaWin6
import Derived.Test.YtpilkaggiajjmaaWin9
import Derived.Test.YtpilkaggiajjmaaMp
import Derived.Deep.RegionHeld3
import Derived.Deep.RegionLaw
import Derived.Test.YtpilkaggiajjmaaFrag8
import Derived.OpenShut
import Derived.ProofKit
import Derived.ChangeSlices
import Derived.Deep.Slices
import Derived.Deep.DeepCutAuto
import Derived.Deep.CutBlock
import Derived.Test.YtpilkaggiajjmaaWalkFAll
import Derived.WalkKit
import Derived.ShutString
import Derived.ChangeOld
import Derived.Below
import Derived.SliceStrings
namespace Go.Proofs.Ytpilkaggiajjmaa
open Go.RowKit
set_option linter.unusedVariables false

def numW (first d : Nat) : Nat := (first + d) % 4294967296
theorem numW_lt (first d : Nat) : numW first d < 4294967296 := Nat.mod_lt _ (by decide)
theorem numW_succ (first d : Nat) : (numW first d + 1) % 4294967296 = numW first (d + 1) := by unfold numW; omega
theorem dist_ge (first a b : Nat) (h : b ≤ a) (h2 : a - b < 4294967296) : distW (numW first a) (numW first b) = a - b := by
  unfold distW numW; omega
theorem dist_lt (first a b : Nat) (h : a < b) (h2 : b - a < 4294967296) : distW (numW first a) (numW first b) = 4294967296 - (b - a) := by
  unfold distW numW; omega
theorem num_inj (first a b : Nat) (h : numW first a = numW first b) (h1 : a < b + 4294967296) (h2 : b < a + 4294967296) : a = b := by
  unfold numW at h; omega
/-- Things that came, by their places: all below m; of those behind it, just those of G wait. -/
structure InG (first m : Nat) (T : Nat → List UInt8) (G : Nat → Bool) (s : Ws) : Prop where
  nx : s.nx = numW first m
  lo : ∀ d, d < m → G d = true
  gap : G m = false
  hi : ∀ d, G d = true → d ≤ m + 32
  keys : ∀ n t, (n, t) ∈ s.l ↔ ∃ d, G d = true ∧ m < d ∧ n = numW first d ∧ t = T d
  nd : (s.l.map (·.1)).Nodup
def addG (G : Nat → Bool) (d : Nat) : Nat → Bool := fun e => G e || e == d
theorem nodup_filter {l : List (Nat × List UInt8)} (h : (l.map (·.1)).Nodup) (p : Nat × List UInt8 → Bool) : ((l.filter p).map (·.1)).Nodup := h.sublist ((List.filter_sublist).map _)
theorem goW_G (first : Nat) (T : Nat → List UInt8) (G : Nat → Bool) (H : Nat) : ∀ (f : Nat) (s : Ws) (m : Nat), s.nx = numW first m → (∀ d, d < m → G d = true) → (∀ d, G d = true → d ≤ H) → H < m + 1000 → (∀ n t, (n, t) ∈ s.l ↔ ∃ d, G d = true ∧ m ≤ d ∧ n = numW first d ∧ t = T d) → (s.l.map (·.1)).Nodup → s.l.length < f →
    ∃ m', m ≤ m' ∧ (goW f s).2 = (List.range' m (m' - m)).map T ∧ (goW f s).1.nx = numW first m' ∧ (∀ d, d < m' → G d = true) ∧ G m' = false ∧ (∀ n t, (n, t) ∈ (goW f s).1.l ↔ ∃ d, G d = true ∧ m' < d ∧ n = numW first d ∧ t = T d) ∧ ((goW f s).1.l.map (·.1)).Nodup := by
  intro f
  induction f with
  | zero => intro s m _ _ _ _ _ _ hl; omega
  | succ f ih =>
    intro s m hnx hlo hhi hH hk hnd hl
    cases hg : G m with
    | false =>
      have hno : ∀ p ∈ s.l, p.1 ≠ s.nx := fun p hp e => by
        obtain ⟨d, h1, h2, h3, -⟩ := (hk p.1 p.2).1 hp
        have hd := hhi d h1
        rw [hnx, h3] at e
        have := num_inj first d m e (by omega) (by omega)
        subst this
        rw [hg] at h1; cases h1
      rw [goW_none (findW_none hno)]
      refine ⟨m, Nat.le_refl _, by simp, hnx, hlo, hg, fun n t => ?_, hnd⟩
      rw [hk n t]
      constructor
      · rintro ⟨d, h1, h2, h3, h4⟩
        refine ⟨d, h1, ?_, h3, h4⟩
        rcases Nat.eq_or_lt_of_le h2 with e | e
        · subst e; rw [hg] at h1; cases h1
        · exact e
      · rintro ⟨d, h1, h2, h3, h4⟩
        exact ⟨d, h1, by omega, h3, h4⟩
    | true =>
      have hin : (s.nx, T m) ∈ s.l := (hk _ _).2 ⟨m, hg, Nat.le_refl _, hnx, rfl⟩
      have hmH := hhi m hg
      rw [goW_some (findW_of hnd hin)]
      have hless := filter_less hin
      obtain ⟨m', h1, h2, h3, h4, h5, h6, h7⟩ := ih ⟨(s.nx + 1) % 4294967296, s.l.filter (fun p => p.1 != s.nx)⟩ (m + 1) (by simp only; rw [hnx]; exact numW_succ _ _) (fun d hd => by
          rcases Nat.eq_or_lt_of_le (Nat.le_of_lt_succ hd) with e | e
          · subst e; exact hg
          · exact hlo d e) hhi (by omega) (fun n t => by
          simp only [List.mem_filter, hk n t]
          constructor
          · rintro ⟨⟨d, g1, g2, g3, g4⟩, hne⟩
            refine ⟨d, g1, ?_, g3, g4⟩
            rcases Nat.eq_or_lt_of_le g2 with e | e
            · subst e
              simp [g3, hnx] at hne
            · exact e
          · rintro ⟨d, g1, g2, g3, g4⟩
            refine ⟨⟨d, g1, by omega, g3, g4⟩, ?_⟩
            have hd := hhi d g1
            have : n ≠ s.nx := fun e => by
              rw [g3, hnx] at e
              have := num_inj first d m e (by omega) (by omega)
              omega
            simpa using this) (nodup_filter hnd _) (by simp only; omega)
      refine ⟨m', by omega, ?_, h3, h4, h5, h6, h7⟩
      simp only [h2]
      have e1 : m' - m = (m' - (m + 1)) + 1 := by omega
      rw [e1, List.range'_succ]
      simp
theorem InG.put_old {first m : Nat} {T : Nat → List UInt8} {G : Nat → Bool} {s : Ws} (h : InG first m T G s) (d : Nat) (hd : d < m) (h2 : m < d + 2147483648) (t : List UInt8) : putW s (numW first d) t = (s, [], 11) := by
  unfold putW
  rw [if_pos]
  unfold belowB
  rw [h.nx, dist_lt first d m hd (by omega)]
  exact decide_eq_true (by omega)
theorem InG.find {first m : Nat} {T : Nat → List UInt8} {G : Nat → Bool} {s : Ws} (h : InG first m T G s) (d : Nat) (hd : m ≤ d) (h2 : d ≤ m + 32) : findW s.l (numW first d) = if G d = true then some (T d) else none := by
  cases hg : G d with
  | true =>
    have hne : m ≠ d := fun e => by subst e; rw [h.gap] at hg; cases hg
    exact findW_of h.nd ((h.keys _ _).2 ⟨d, hg, by omega, rfl, rfl⟩)
  | false =>
    refine findW_none fun p hp e => ?_
    obtain ⟨d', h1, h3, h4, -⟩ := (h.keys p.1 p.2).1 hp
    have := h.hi d' h1
    rw [h4] at e
    have := num_inj first d' d e (by omega) (by omega)
    subst this
    rw [hg] at h1; cases h1
theorem InG.put {first m : Nat} {T : Nat → List UInt8} {G : Nat → Bool} {s : Ws} (h : InG first m T G s) (d : Nat) (hd : m ≤ d) (h2 : d ≤ m + 32) : (G d = true ∧ putW s (numW first d) (T d) = (s, [], 10)) ∨ (G d = false ∧ ∃ s' m', m ≤ m' ∧ putW s (numW first d) (T d) = (s', (List.range' m (m' - m)).map T, 0) ∧ InG first m' T (addG G d) s') := by
  have hdist : distW (numW first d) s.nx = d - m := by rw [h.nx]; exact dist_ge first d m hd (by omega)
  have hb : belowB (numW first d) s.nx = false := by unfold belowB; rw [hdist]; exact decide_eq_false (by omega)
  have hf := h.find d hd h2
  have hpw : putW s (numW first d) (T d) = if findW s.l (numW first d) ≠ none then (s, [], 10) else ((goW (s.l.length + 2) ⟨s.nx, s.l ++ [(numW first d, T d)]⟩).1, (goW (s.l.length + 2) ⟨s.nx, s.l ++ [(numW first d, T d)]⟩).2, 0) := by
    unfold putW
    rw [if_neg (by rw [hb]; simp), if_neg (by rw [hdist]; omega)]
  cases hg : G d with
  | true =>
    left
    rw [hg] at hf
    exact ⟨rfl, by rw [hpw, hf]; simp⟩
  | false =>
    right
    rw [hg] at hf
    refine ⟨rfl, ?_⟩
    obtain ⟨m', h1, h3, h4, h5, h6, h7, h8⟩ := goW_G first T (addG G d) (m + 32) (s.l.length + 2) ⟨s.nx, s.l ++ [(numW first d, T d)]⟩ m h.nx (fun e he => by unfold addG; rw [h.lo e he]; rfl) (fun e he => by
        unfold addG at he
        rw [Bool.or_eq_true] at he
        rcases he with he | he
        · exact h.hi e he
        · have : e = d := by simpa using he
          omega) (by omega) (fun n t => by
        simp only [List.mem_append, List.mem_singleton, h.keys n t]
        unfold addG
        constructor
        · rintro (⟨e, g1, g2, g3, g4⟩ | e)
          · exact ⟨e, by rw [g1]; rfl, by omega, g3, g4⟩
          · simp only [Prod.mk.injEq] at e
            exact ⟨d, by simp, hd, e.1, e.2⟩
        · rintro ⟨e, g1, g2, g3, g4⟩
          rw [Bool.or_eq_true] at g1
          by_cases hed : e = d
          · subst hed; exact .inr (by rw [g3, g4])
          · rcases g1 with g1 | g1
            · left
              refine ⟨e, g1, ?_, g3, g4⟩
              rcases Nat.eq_or_lt_of_le g2 with e2 | e2
              · subst e2; rw [h.gap] at g1; cases g1
              · exact e2
            · exact absurd (by simpa using g1) hed) (by
        simp only [List.map_append, List.map_cons, List.map_nil]
        rw [List.nodup_append]
        refine ⟨h.nd, by simp, fun a ha b hb' => ?_⟩
        simp at hb'; subst hb'
        obtain ⟨p, hp, rfl⟩ := List.mem_map.1 ha
        intro e
        have := findW_of h.nd (show (numW first d, p.2) ∈ s.l by rw [← e]; exact hp)
        rw [hf] at this; simp at this) (by simp)
    refine ⟨(goW (s.l.length + 2) ⟨s.nx, s.l ++ [(numW first d, T d)]⟩).1, m', h1, ?_, ⟨h4, h5, h6, fun e he => ?_, h7, h8⟩⟩
    · rw [hpw, hf, h3]; simp
    · unfold addG at he
      rw [Bool.or_eq_true] at he
      rcases he with he | he
      · have := h.hi e he; omega
      · have : e = d := by simpa using he
        omega
theorem InG.ok {first m : Nat} {T : Nat → List UInt8} {G : Nat → Bool} {s : Ws} (h : InG first m T G s) : OkW s := by
  intro p hp
  obtain ⟨d, h1, h2, h3, -⟩ := (h.keys p.1 p.2).1 hp
  have := h.hi d h1
  rw [h3, h.nx, dist_ge first d m (by omega) (by omega)]
  exact ⟨numW_lt _ _, by omega, by omega⟩
/-- What an ack of it tells: just what came. -/
theorem InG.has {first m : Nat} {T : Nat → List UInt8} {G : Nat → Bool} {s : Ws} (h : InG first m T G s) {B : Nat} (hB : ∀ k, B.testBit k = true ↔ ∃ p ∈ s.l, distW p.1 s.nx = k + 1) (d : Nat) (h1 : m < d + 2147483648) (h2 : d < m + 2147483648) : hasB s.nx B (numW first d) = G d := by
  unfold hasB belowB
  by_cases hd : d < m
  · rw [h.nx, dist_lt first d m hd (by omega), decide_eq_true (by omega), h.lo d hd]; rfl
  · rw [h.nx, dist_ge first d m (by omega) (by omega), decide_eq_false (by omega), Bool.false_or]
    rcases Nat.eq_or_lt_of_le (Nat.le_of_not_lt hd) with e | e
    · subst e; rw [h.gap]; simp
    · rw [decide_eq_true (by omega : 1 ≤ d - m), Bool.true_and]
      have hb := hB (d - m - 1)
      rw [show d - m - 1 + 1 = d - m by omega] at hb
      cases hg : G d with
      | true =>
        have := h.hi d hg
        rw [decide_eq_true (by omega : d - m ≤ 32), Bool.true_and]
        refine hb.2 ⟨(numW first d, T d), (h.keys _ _).2 ⟨d, hg, e, rfl, rfl⟩, ?_⟩
        rw [h.nx]; exact dist_ge first d m (by omega) (by omega)
      | false =>
        cases ht : B.testBit (d - m - 1) with
        | false => simp
        | true =>
          obtain ⟨p, hp, hpd⟩ := hb.1 ht
          obtain ⟨d', g1, g2, g3, -⟩ := (h.keys p.1 p.2).1 hp
          have := h.hi d' g1
          rw [g3, h.nx, dist_ge first d' m (by omega) (by omega)] at hpd
          have : d' = d := by omega
          subst this
          rw [hg] at g1; cases g1
theorem InG.start (first : Nat) (hf : first < 4294967296) (T : Nat → List UInt8) : InG first 0 T (fun _ => false) ⟨first, []⟩ :=
  ⟨by unfold numW; simp only; omega, (fun d hd => by omega), rfl, (fun d hd => by cases hd), (fun n t => by simp), List.nodup_nil⟩
end Go.Proofs.Ytpilkaggiajjmaa
namespace Go.Proofs.Ytpilkaggiajjmaa
open Go.RowKit Go.ChangeMaps
set_option linter.unusedVariables false

theorem bits_zero {P : Nat → Prop} (h : ∀ k, ¬ P k) : ∀ k, Nat.testBit 0 k = true ↔ P k := fun k => by simp [h k]
set_option maxRecDepth 100000 in
set_option maxHeartbeats 2000000 in
theorem inAck_none (b nx : Nat) (w : World) (h : W0At w b nx) : Calls Try.prog 27 #[.pointer (some ⟨b, 0, none⟩)] w (AckPost w ⟨nx, []⟩) := by
  have c0 := h.c0
  have c1 := h.c1
  have hbl := h.lt
  have hrg := run_range_nilMap (P := Try.prog) ((w.alloc (.cells #[.int .u32 0, .int .u32 0] 43)).alloc (.cells #[.int .u32 (nx : Int), .int .u32 0] 43)) 123 22 52 Try.underlying123
  have hnn := fun ty => run_next_nilMap (P := Try.prog) ((w.alloc (.cells #[.int .u32 0, .int .u32 0] 43)).alloc (.cells #[.int .u32 (nx : Int), .int .u32 0] 43)) ty 0 0 #[]
  have e2 : ((w.alloc (.cells #[.int .u32 0, .int .u32 0] 43)).alloc (.cells #[.int .u32 (nx : Int), .int .u32 0] 43)).heap.size = w.heap.size + 1 + 1 := by simp
  simp only [e2] at hrg hnn
  clear e2
  generalize hpost : AckPost w ⟨nx, []⟩ = Post
  have HPost := Lib.hid hpost
  clear h hpost
  go_enter Try.func27, Try.ntmps27
  go_wp2
  refine wp_loop_rounds 1 ?_
  rw [rounds_succ]
  go_wp2
  exact bodyPost_ret (v := .agg #[.int .u32 (nx : Int), .int .u32 0]) (by simp [results, Try.results27, go_sem]) rfl (by rw [← HPost.out]; exact ⟨⟨0, rfl, by decide, fun k => by simp⟩, bel_alloc (bel_alloc (bel_alloc (Below.refl _ _) _) _) _⟩)
theorem inAck_any (b : Nat) (mo : Option Nat) (s : Ws) (w : World) (h : WI w b mo s) (hok : OkW s) : Calls Try.prog 27 #[.pointer (some ⟨b, 0, none⟩)] w (AckPost w s) := by
  rcases h with ⟨h1, h2, h3⟩ | ⟨r, h1, h2⟩
  · obtain ⟨nx, l⟩ := s
    simp only at h2 h3
    subst h2
    exact inAck_none b nx w h3
  · exact inAck_some b r s w h2 hok
theorem len_map {w : World} {r : Nat} {L : List (Nat × Value)} {q : IntKind} (h : MpAt q w r L) (t ty : TypeId) {k e : TypeId} (ht : Try.prog.underlying t = some (.map k e)) : (Builtin.len_ #[t] ty #[.map (some r)]).run Try.prog w = .ok (.int .i64 (L.length : Int)) w := by
  obtain ⟨es, clock, hb, he, -⟩ := h.ex
  have hl := ents_len he
  simp [Builtin.len_, run_underlying ht, MapKept.run_getObj_map hb, Result.andThen, hl]
  rfl
theorem inLen_any (b : Nat) (mo : Option Nat) (s : Ws) (w : World) (h : WI w b mo s) : Calls Try.prog 28 #[.pointer (some ⟨b, 0, none⟩)] w fun r w' => r = .returned (.int .i64 (s.l.length : Int)) ∧ w = w' := by
  rcases h with ⟨rfl, h2, h3⟩ | ⟨r, rfl, h2⟩
  · have c1 := h3.c1
    have hbl := h3.lt
    rw [h2]
    clear h3
    go_enter Try.func28, Try.ntmps28
    go_wp2
    go_ret
    exact ⟨rfl, rfl⟩
  · have c1 := h2.c1
    have hbl := h2.lt
    have hlm := fun ty => len_map h2.mp 123 ty Try.underlying123
    have he : (entL s.l).length = s.l.length := by simp [entL]
    rw [he] at hlm
    clear h2 he
    go_enter Try.func28, Try.ntmps28
    go_wp2
    go_ret
    exact ⟨rfl, rfl⟩
end Go.Proofs.Ytpilkaggiajjmaa
namespace Go.Proofs.Ytpilkaggiajjmaa
open Go.RowKit
set_option linter.unusedVariables false

def cameO (nx B : Nat) (l : List (Nat × List UInt8)) : List Nat := (l.filter (fun p => hasB nx B p.1)).map (·.1)
def restO (nx B : Nat) (l : List (Nat × List UInt8)) : List (Nat × List UInt8) := l.filter (fun p => !hasB nx B p.1)
def OAckPost (w : World) (b n : Nat) (came : List Nat) (rest : List (Nat × List UInt8)) (r : Ending) (w' : World) : Prop :=
  ∃ a1 c1 a2 c2, r = .returned (.slice a1 came.length c1) ∧ OAt w' b n a2 c2 rest ∧ OwnV 22 1 w.heap.size a1 c1 (came.map u32C) w' ∧ (∀ x, a2 = some x → w.heap.size ≤ x.block) ∧ (∀ x y, a1 = some x → a2 = some y → x.block ≠ y.block) ∧ Touch (fun j => j = b) w w'
theorem cell_it {w : World} {a : Option Addr} {c B : Nat} {l : List (Nat × List UInt8)} (h : OwnV 52 2 B a c (l.map itCells) w) (h0 : 0 < l.length) : ∃ gb, a = some ⟨gb, 0, none⟩ ∧ gb < w.heap.size ∧ ∀ i (hi : i < l.length), w.cell? ⟨gb, i * 2, none⟩ = some (.int .u32 (l[i].1 : Int)) ∧ w.cell? ⟨gb, i * 2 + 1, none⟩ = some (.string (bs l[i].2)) := by
  have hlen : (l.map itCells).length = l.length := by simp
  rcases h.1.2 with ⟨-, h00⟩ | ⟨g, cap, cur, hv, -, hg, hnc, -, hsz, htk⟩
  · omega
  · have hr := h.row (it_wide _) (by rw [hlen]; exact h0)
    obtain ⟨b, off, e1, hc⟩ := hr
    simp only [Value.slice.injEq] at hv
    rw [hv.1] at e1
    simp only [Option.some.injEq, Addr.mk.injEq] at e1
    obtain ⟨rfl, rfl, -⟩ := e1
    refine ⟨g, hv.1, (Array.getElem?_eq_some_iff.1 hg).1, fun i hi => ?_⟩
    have hx : ∀ j, j < 2 → w.cell? ⟨g, i * 2 + j, none⟩ = (itCells l[i])[j]? := fun j hj => by
      have h1 := hc i (by rw [hlen]; exact hi) j hj
      rw [Nat.zero_add] at h1
      rw [h1]
      simp
    exact ⟨hx 0 (by decide), hx 1 (by decide)⟩
theorem came_snoc (nx B : Nat) (l : List (Nat × List UInt8)) (p : Nat × List UInt8) : cameO nx B (l ++ [p]) = cameO nx B l ++ (if hasB nx B p.1 = true then [p.1] else []) := by
  unfold cameO
  rw [List.filter_append, List.map_append]
  congr 1
  by_cases h : hasB nx B p.1 = true <;> simp [h]
theorem rest_snoc (nx B : Nat) (l : List (Nat × List UInt8)) (p : Nat × List UInt8) : restO nx B (l ++ [p]) = restO nx B l ++ (if hasB nx B p.1 = true then [] else [p]) := by
  unfold restO
  rw [List.filter_append]
  congr 1
  by_cases h : hasB nx B p.1 = true <;> simp [h]
theorem came_len (nx B : Nat) (l : List (Nat × List UInt8)) : (cameO nx B l).length ≤ l.length ∧ (restO nx B l).length ≤ l.length :=
  ⟨by unfold cameO; rw [List.length_map]; exact List.length_filter_le _ _, List.length_filter_le _ _⟩
set_option maxRecDepth 100000 in
set_option maxHeartbeats 2000000 in
theorem outAck_ok (b n : Nat) (a : Option Addr) (c : Nat) (l : List (Nat × List UInt8)) (nx B : Nat) (w : World) (h : OAt w b n a c l) (hl : l.length ≤ 1000) (hks : ∀ p ∈ l, p.1 < 4294967296) (hx : nx < 4294967296) (hB : B < 4294967296) (hgo : nx = n ∨ nx ≠ n ∧ belowB nx n = true) :
    Calls Try.prog 19 #[.pointer (some ⟨b, 0, none⟩), .agg #[.int .u32 (nx : Int), .int .u32 (B : Int)]] w (OAckPost w b n (cameO nx B l) (restO nx B l)) := by
  have hA : Below w.heap.size w (w.alloc (.cells #[.int .u32 (nx : Int), .int .u32 (B : Int)] 43)) := bel_alloc (Below.refl _ _) _
  have x0 : (w.alloc (.cells #[.int .u32 (nx : Int), .int .u32 (B : Int)] 43)).cell? ⟨w.heap.size, 0, none⟩ = some (.int .u32 (nx : Int)) := by simp
  have x1 : (w.alloc (.cells #[.int .u32 (nx : Int), .int .u32 (B : Int)] 43)).cell? ⟨w.heap.size, 1, none⟩ = some (.int .u32 (B : Int)) := by simp
  have HBEL := Lib.hid (fun W => below_any nx n hx h.nx W)
  have HO := Lib.hid (h.keep hA)
  have HA := Lib.hid hA
  have hbw := h.lt
  have HAL := Lib.hid h.row.lt
  have HNE := Lib.hid h.ne
  have HKS := Lib.hid hks
  generalize hpost : OAckPost w b n (cameO nx B l) (restO nx B l) = Post
  have HPost := Lib.hid hpost
  clear hpost h hA hks
  have hcs : ((nx : Int) != (n : Int)) = false ∨ ((nx : Int) != (n : Int)) = true ∧ belowB nx n = true := by
    rcases hgo with e | ⟨e, e2⟩
    · left; subst e; simp
    · right; exact ⟨by rw [bne_iff_ne]; omega, e2⟩
  clear hgo
  rcases hcs with hc1 | ⟨hc1, hc2⟩
  all_goals (try rw [hc2] at HBEL)
  all_goals
    go_enter Try.func19, Try.ntmps19
    go_upto_region 1 with (fail)
    have y0 := HO.out.c0
    have hbl := HO.out.lt
    have hXl := block_lt_of_cell x0
    simp only at hXl
    go_quiet ((go_at_call 55; exact Calls.quiet_of_same (HBEL.out _)))
    have z0 : ((w.alloc (.cells #[.int .u32 (nx : Int), .int .u32 (B : Int)] 43)).drewN nq).cell? ⟨w.heap.size, 0, none⟩ = some (.int .u32 (nx : Int)) := x0
    have z1 : ((w.alloc (.cells #[.int .u32 (nx : Int), .int .u32 (B : Int)] 43)).drewN nq).cell? ⟨w.heap.size, 1, none⟩ = some (.int .u32 (B : Int)) := x1
    have HO1 := Lib.hid (HO.out.keep (drewN_bel _ nq))
    have HA1 := Lib.hid (HA.out.trans ((drewN_bel _ nq).mono HA.out.size))
    clear x0 x1 y0 hbl hXl HO HA hc1
    generalize (w.alloc (.cells #[.int .u32 (nx : Int), .int .u32 (B : Int)] 43)).drewN nq = W1 at z0 z1 HO1 HA1 ⊢
    generalize hX : w.heap.size = X at z0 z1 ⊢
    have HX := Lib.hid hX
    clear hX
    have c1 := HO1.out.c1
    have hbl := HO1.out.lt
    have hXl := block_lt_of_cell z0
    simp only at hXl
    go_wp2
    go_loopw [5, 6, 31] (fun v5 v6 iv wr => ∃ (k n1 n2 : Nat) (a1 : Option Addr) (c1 : Nat) (a2 : Option Addr) (c2 : Nat), k ≤ l.length ∧ n1 ≤ k ∧ n2 ≤ k ∧ v5 = .slice a1 n1 c1 ∧ v6 = .slice a2 n2 c2 ∧ iv = .int .i64 k ∧ Hid ((cameO nx B (l.take k)).length = n1 ∧ (restO nx B (l.take k)).length = n2 ∧ Two 22 1 52 2 W1 a1 c1 ((cameO nx B (l.take k)).map u32C) a2 c2 ((restO nx B (l.take k)).map itCells) wr)) (fun _ _ iv _ => l.length - (intOf iv).toNat)
    case atStart => exact ⟨0, 0, 0, none, 0, none, 0, Nat.zero_le _, Nat.le_refl _, Nat.le_refl _, rfl, rfl, rfl, Lib.hid ⟨rfl, rfl, Two.none _ _ _ _ _⟩⟩
    case round =>
      obtain ⟨k, n1, n2, a1, c1', a2, c2', hk, hn1, hn2, rfl, rfl, rfl, HS⟩ := hrel
      by_cases hlt : k < l.length
      · obtain ⟨g, rfl, hg, hcells⟩ := cell_it HO1.out.row (by omega)
        obtain ⟨u0, u1⟩ := hcells k hlt
        have hbel := HS.out.2.2.bel
        have d0 := (hbel.cell (p := ⟨g, k * 2, none⟩) hg).trans u0
        have d1 := (hbel.cell (p := ⟨g, k * 2 + 1, none⟩) hg).trans u1
        have e0 := (hbel.cell (p := ⟨X, 0, none⟩) hXl).trans z0
        have e1 := (hbel.cell (p := ⟨X, 1, none⟩) hXl).trans z1
        have hgr : g < wr.heap.size := block_lt_of_cell d0
        have hXr : X < wr.heap.size := block_lt_of_cell e0
        have hkp := HKS.out l[k] (List.getElem_mem hlt)
        have HCN := Lib.hid (show cameO nx B (l.take (k + 1)) = cameO nx B (l.take k) ++ (if hasB nx B l[k].1 = true then [l[k].1] else []) by rw [List.take_succ_eq_append_getElem hlt]; exact came_snoc _ _ _ _)
        have HRN := Lib.hid (show restO nx B (l.take (k + 1)) = restO nx B (l.take k) ++ (if hasB nx B l[k].1 = true then [] else [l[k]]) by rw [List.take_succ_eq_append_getElem hlt]; exact rest_snoc _ _ _ _)
        have HHA := Lib.hid (fun W => has_any nx B l[k].1 W hx hB hkp)
        clear hcells u0 u1 hbel
        generalize l[k] = p at d0 d1 hkp HCN HRN HHA
        obtain ⟨pn, pt⟩ := p
        simp only at d0 d1 hkp HCN HRN HHA
        have hi0 : (0 : Int) ≤ (k : Int) := by omega
        have hi1 : (k : Int) < (l.length : Int) := by omega
        have HT1 := Lib.hid (HS.out.2.2.keep (bel_alloc (Below.refl _ _) (.cells #[.int .u32 (pn : Int), .string (bs pt)] 52)))
        have q0 : (wr.alloc (.cells #[.int .u32 (pn : Int), .string (bs pt)] 52)).cell? ⟨wr.heap.size, 0, none⟩ = some (.int .u32 (pn : Int)) := by simp
        have q1 : (wr.alloc (.cells #[.int .u32 (pn : Int), .string (bs pt)] 52)).cell? ⟨wr.heap.size, 1, none⟩ = some (.string (bs pt)) := by simp
        have HQ0 := Lib.hid q0
        have HQ1 := Lib.hid q1
        clear q0 q1
        go_wp2_with fail
        refine (HHA.out _).mono ?_
        rintro r w4 ⟨rfl, hb4⟩
        have q0 := (hb4.cell (p := ⟨wr.heap.size, 0, none⟩) (block_lt_of_cell HQ0.out)).trans HQ0.out
        have q1 := (hb4.cell (p := ⟨wr.heap.size, 1, none⟩) (block_lt_of_cell HQ1.out)).trans HQ1.out
        have HT4 := Lib.hid (HT1.out.keep hb4)
        have hql := block_lt_of_cell q0
        simp only at hql
        clear hb4 HT1 HQ0 HQ1 d0 d1 e0 e1 hgr hXr HHA
        generalize wr.heap.size = Y at q0 q1 hql ⊢
        cases hh : hasB nx B pn
        · rw [hh] at HCN HRN
          obtain ⟨a5, c5, w5, hrun, ho, hto, hnw⟩ := own_one itTy Try.underlying47 HT4.out.r2 (itCells (pn, pt)) (it_wide [(pn, pt)]) (by rw [List.length_map]; have := HS.out.2.1; omega) n2 (by rw [List.length_map]; exact HS.out.2.1) #[.int .u32 (pn : Int), .string (bs pt)] rfl
          have HRUN := Lib.hid hrun
          have HT5 : Hid (Two 22 1 52 2 W1 a1 c1' ((cameO nx B (l.take (k + 1))).map u32C) a5 c5 ((restO nx B (l.take (k + 1))).map itCells) w5) := Lib.hid (by
            rw [HCN.out, HRN.out]
            have := HT4.out.second ho hto hnw
            simpa using this)
          clear hrun ho hto hnw HT4
          go_wp2_with (at_builtin; refine wpList_append_run _ rfl (.tmp 44) (.tmp 46) 47 47 rfl _ _ rfl rfl (.slice a5 (n2 + 1) c5) w5 HRUN.out ?_)
          go_roundw
          case rel => exact ⟨k + 1, n1, n2 + 1, a1, c1', a5, c5, by omega, by omega, by omega, rfl, rfl, by go_num, Lib.hid ⟨by rw [HCN.out]; simpa using HS.out.1, by rw [HRN.out]; simpa using HS.out.2.1, HT5.out⟩⟩
          case measure => simp [intOf] <;> omega
        · rw [hh] at HCN HRN
          obtain ⟨a5, c5, w5, hrun, ho, hto, hnw⟩ := own_one u32Ty Try.underlying40 HT4.out.r1 (u32C pn) (num_wide [pn]) (by rw [List.length_map]; have := HS.out.1; omega) n1 (by rw [List.length_map]; exact HS.out.1) #[.int .u32 (pn : Int)] rfl
          have HRUN := Lib.hid hrun
          have HT5 : Hid (Two 22 1 52 2 W1 a5 c5 ((cameO nx B (l.take (k + 1))).map u32C) a2 c2' ((restO nx B (l.take (k + 1))).map itCells) w5) := Lib.hid (by
            rw [HCN.out, HRN.out]
            have := HT4.out.first ho hto hnw
            simpa using this)
          clear hrun ho hto hnw HT4
          go_wp2_with (at_builtin; refine wpList_append_run _ rfl (.tmp 39) (.tmp 42) 40 40 rfl _ _ rfl rfl (.slice a5 (n1 + 1) c5) w5 HRUN.out ?_)
          go_roundw
          case rel => exact ⟨k + 1, n1 + 1, n2, a5, c5, a2, c2', by omega, by omega, by omega, rfl, rfl, by go_num, Lib.hid ⟨by rw [HCN.out]; simpa using HS.out.1, by rw [HRN.out]; simpa using HS.out.2.1, HT5.out⟩⟩
          case measure => simp [intOf] <;> omega
      · obtain rfl : k = l.length := by omega
        rw [List.take_length] at HS
        obtain ⟨hl1, hl2, htwo⟩ := HS.out
        have HT := Lib.hid htwo
        have HL1 := Lib.hid hl1
        have HL2 := Lib.hid hl2
        have b1 := (htwo.bel.cell (p := ⟨b, 1, none⟩) hbl).trans c1
        have f1 := (htwo.bel.frozen (p := ⟨b, 1, none⟩) hbl).trans HO1.out.f1
        have hb5 : b < wr.heap.size := block_lt_of_cell b1
        have hi1 : (l.length : Int) ≤ (l.length : Int) := by omega
        have HF : Hid (OAckPost w b n (cameO nx B l) (restO nx B l) (.returned (.slice a1 n1 c1')) (wr.setCell ⟨b, 1, none⟩ (.slice a2 n2 c2'))) := Lib.hid (by
          have hs1 := HA1.out.size
          have ht : Touch (fun j => j = b) wr (wr.setCell ⟨b, 1, none⟩ (.slice a2 n2 c2')) := (Touch.refl (fun j => j = b) wr).setCell (p := ⟨b, 1, none⟩) (fun _ => rfl) _
          have b0 := (htwo.bel.cell (p := ⟨b, 0, none⟩) hbl).trans HO1.out.c0
          have f0 := (htwo.bel.frozen (p := ⟨b, 0, none⟩) hbl).trans HO1.out.f0
          refine ⟨a1, c1', a2, c2', by rw [hl1], ⟨(World.cell?_setCell_other _ _ _ _ (by simp)).trans b0, by rw [hl2]; exact World.cell?_setCell_same _ _ _ b1, by simpa using f0, by simpa using f1, htwo.r2.touch ht (fun x hx e => by have := htwo.n2 x hx; omega), (fun x hx e => by have := htwo.n2 x hx; omega), HO1.out.nx⟩, ⟨(htwo.r1.touch ht (fun x hx e => by have := htwo.n1 x hx; omega)).1, fun x hx => by have := htwo.n1 x hx; omega⟩, (fun x hx => by have := htwo.n2 x hx; omega), htwo.dj, ?_⟩
          exact ((touch_of_below (S := fun j => j = b) HA1.out).trans' (touch_of_below (S := fun _ => False) htwo.bel) (fun _ _ => False.elim)).setCell (p := ⟨b, 1, none⟩) (fun _ => rfl) _)
        clear hl1 hl2 htwo
        go_wp2
        rw [← HPost.out]
        exact HF.out
theorem imade0 (W : World) (k : Nat) (hk : W.heap.size = k) : OwnV 52 2 0 (some ⟨k, 0, none⟩) 0 ([] : List (List Value)) (W.alloc (.cells #[] 52)) := by
  subst hk
  refine ⟨⟨by simp, .inr ⟨W.heap.size, 0, #[], rfl, Nat.zero_le _, ?_, Nat.le_refl _, by unfold maxLen; omega, by simp, by simp⟩⟩, fun _ _ => Nat.zero_le _⟩
  show (W.heap.push (.cells #[] 52))[W.heap.size]? = _
  simp
theorem sl_nil (w : World) : (binOp .eql 47 (.slice none 0 0) (.slice none 0 0)).run Try.prog w = .ok (.bool true) w := by kernel_rfl
theorem sl_some (x : Addr) (n c : Nat) (w : World) : (binOp .eql 47 (.slice (some x) n c) (.slice none 0 0)).run Try.prog w = .ok (.bool false) w := by kernel_rfl
def AllO (w : World) (l : List (Nat × List UInt8)) (r : Ending) (w' : World) : Prop := ∃ a c, r = .returned (.slice a l.length c) ∧ OwnV 52 2 w.heap.size a c (l.map itCells) w' ∧ Below w.heap.size w w'
set_option maxRecDepth 100000 in
theorem clone_it (a : Option Addr) (c : Nat) (l : List (Nat × List UInt8)) (w : World) (h : OwnV 52 2 0 a c (l.map itCells) w) (hl : l.length ≤ 1000) : Calls Try.prog 57 #[.slice a l.length c] w (AllO w l) := by
  generalize hpost : AllO w l = Post
  have HPost := Lib.hid hpost
  clear hpost
  cases a with
  | none =>
    have h0 : l.length = 0 ∧ c = 0 := by
      rcases h.1.2 with ⟨hv, h0⟩ | ⟨g, cap, cur, hv, -⟩
      · simp only [List.length_map] at hv h0
        simp only [Value.slice.injEq] at hv
        exact ⟨h0, hv.2.2⟩
      · simp at hv
    obtain ⟨h1, rfl⟩ := h0
    have hn : l = [] := List.eq_nil_of_length_eq_zero h1
    subst hn
    have HE : Hid (AllO w [] (.returned (.slice none 0 0)) w) := Lib.hid ⟨none, 0, rfl, ⟨World.ownsRow_nil _ _ _ _, (fun x hx => by cases hx)⟩, Below.refl _ _⟩
    simp only [List.length_nil]
    clear h h1
    have hq := sl_nil
    go_enter Try.func57, Try.ntmps57
    go_wp2
    rw [← HPost.out]
    exact HE.out
  | some x =>
    have hx : ∃ g, x = ⟨g, 0, none⟩ := by
      rcases h.1.2 with ⟨hv, -⟩ | ⟨g, cap, cur, hv, -⟩
      · simp at hv
      · simp only [Value.slice.injEq, Option.some.injEq] at hv; exact ⟨g, hv.1⟩
    obtain ⟨g, rfl⟩ := hx
    have hgl := h.lt _ rfl
    have hA : Below w.heap.size w (w.alloc (.cells #[] 52)) := bel_alloc (Below.refl _ _) _
    have hrow : ∀ i (hi : i < (l.map itCells).length) j, j < 2 → (w.alloc (.cells #[] 52)).cell? ⟨g, 0 + i * 2 + j, none⟩ = (l.map itCells)[i][j]? := fun i hi j hj => by
      have hvr := (h.touch (touch_of_below (S := fun _ => False) hA) (fun _ _ => id)).row (it_wide l) (by omega)
      obtain ⟨g', off', e1, hvc⟩ := hvr
      simp only [Option.some.injEq, Addr.mk.injEq] at e1
      obtain ⟨rfl, rfl, -⟩ := e1
      exact hvc i hi j hj
    obtain ⟨a', c', w', hrun, ho, hto, hnw⟩ := own_app itTy Try.underlying47 (imade0 w _ rfl) g 0 l.length c (l.map itCells) (it_wide l) (by simp) hrow (by simp; omega) 0 rfl
    have HRUN := Lib.hid hrun
    have HE : Hid (AllO w l (.returned (.slice a' l.length c')) w') := Lib.hid ⟨a', c', rfl, ⟨by simpa using ho.1, fun y hy => by
      rcases hnw y hy with e | e
      · simp at e; omega
      · simp at e; omega⟩, hA.trans (hto.below (by simp) (fun k hk e => by simp at e; omega))⟩
    clear h hrow hrun ho hto hnw hgl hA
    have hq := sl_some ⟨g, 0, none⟩ l.length c
    go_enter Try.func57, Try.ntmps57
    go_wp2_with (at_builtin; refine wpList_append_run _ rfl (.tmp 5) (.tmp 6) 47 47 rfl _ _ rfl rfl (.slice a' (0 + l.length) c') w' HRUN.out ?_)
    rw [← HPost.out]
    exact HE.out
theorem outAll_any (b n : Nat) (a : Option Addr) (c : Nat) (l : List (Nat × List UInt8)) (w : World) (h : OAt w b n a c l) (hl : l.length ≤ 1000) : Calls Try.prog 21 #[.pointer (some ⟨b, 0, none⟩)] w (AllO w l) := by
  have HC := Lib.hid (clone_it a c l w h.row hl)
  have c1 := h.c1
  have hbl := h.lt
  generalize hpost : AllO w l = Post at HC
  have HPost := Lib.hid hpost
  clear h hpost
  go_enter Try.func21, Try.ntmps21
  go_wp2_with fail
  refine HC.out.mono ?_
  intro r w1 hr
  rw [← HPost.out] at hr
  obtain ⟨a1, c1', rfl, ho, hb⟩ := hr
  have HE : Hid (AllO w l (.returned (.slice a1 l.length c1')) w1) := Lib.hid ⟨a1, c1', rfl, ho, hb⟩
  clear ho hb HC
  go_wp2
  rw [← HPost.out]
  exact HE.out
end Go.Proofs.Ytpilkaggiajjmaa
namespace Go.Proofs.Ytpilkaggiajjmaa
open Go.RowKit Go.ChangeMaps
set_option linter.unusedVariables false

def setL (L : List (Nat × Value)) (n : Nat) (v : Value) : List (Nat × Value) := L.map (fun p => if p.1 = n then (p.1, v) else p)
theorem setL_keys (L : List (Nat × Value)) (n : Nat) (v : Value) : (setL L n v).map (·.1) = L.map (·.1) := by
  unfold setL
  rw [List.map_map]
  apply List.map_congr_left
  intro p hp
  simp only [Function.comp]
  split <;> rfl
theorem setL_same {L : List (Nat × Value)} {n : Nat} {v : Value} (h : ∀ p ∈ L, p.1 ≠ n) : setL L n v = L := by
  unfold setL
  conv => rhs; rw [← List.map_id L]
  apply List.map_congr_left
  intro p hp
  rw [if_neg (h p hp)]; rfl
theorem modify_set {q : IntKind} {es : List MapEntry} {L : List (Nat × Value)} (he : EntsAre q es L) (nd : (L.map (·.1)).Nodup) (j : Nat) (x : MapEntry) (n : Nat) (v : Value) (hj : es[j]? = some x) (hx : x.key = .int q (n : Int)) :
    EntsAre q (es.set j ⟨.int q (n : Int), v, x.born⟩) (setL L n v) ∧ (es.set j ⟨.int q (n : Int), v, x.born⟩).map (·.born) = es.map (·.born) := by
  induction es generalizing L j with
  | nil => simp at hj
  | cons y es ih =>
    cases L with
    | nil => simp [EntsAre] at he
    | cons p L =>
      unfold EntsAre at he
      simp only [List.map_cons, List.cons.injEq, Prod.mk.injEq] at he
      obtain ⟨⟨e1, e2⟩, e3⟩ := he
      simp only [List.map_cons, List.nodup_cons] at nd
      cases j with
      | zero =>
        simp at hj; subst hj
        rw [hx] at e1
        have hn := int_inj e1
        have hs : setL L n v = L := setL_same fun z hz e => nd.1 (by rw [← hn, ← e]; exact List.mem_map.2 ⟨z, hz, rfl⟩)
        refine ⟨?_, by simp⟩
        show EntsAre q _ (setL (p :: L) n v)
        have hsc : setL (p :: L) n v = (p.1, v) :: setL L n v := by unfold setL; simp [hn]
        rw [hsc, hs]
        unfold EntsAre
        simp only [List.set_cons_zero, List.map_cons, e3, hn]
      | succ j =>
        have hj' : es[j]? = some x := by simpa using hj
        have hne : p.1 ≠ n := fun e => by
          obtain ⟨p', hp', e4, -⟩ := ents_mem (q := q) (L := L) e3 (List.mem_of_getElem? hj')
          rw [hx] at e4
          have := int_inj e4
          exact nd.1 (List.mem_map.2 ⟨p', hp', by omega⟩)
        obtain ⟨i1, i2⟩ := ih e3 nd.2 j hj'
        have hsc : setL (p :: L) n v = p :: setL L n v := by unfold setL; simp [hne]
        rw [hsc]
        unfold EntsAre at i1 ⊢
        simp only [List.set_cons_succ, List.map_cons, i1, i2, e1, e2, and_self]
theorem modify_is {α : Type} (l : List α) (j : Nat) (f : α → α) (x : α) (h : l[j]? = some x) : l.modify j f = l.set j (f x) := by
  induction l generalizing j with
  | nil => simp at h
  | cons y l ih =>
    cases j with
    | zero => simp at h; subst h; rfl
    | succ j =>
      have h' : l[j]? = some x := by simpa using h
      rw [List.set_cons_succ, ← ih j h']
      rfl
theorem mp_put {P : Program} {q : IntKind} {k t e : TypeId} (hk : P.underlying k = some (.int q)) (ht : P.underlying t = some (.map k e)) {w : World} {r : Nat} {L : List (Nat × Value)} (h : MpAt q w r L) (n : Nat) (hn : (Lit.int q (n : Int)).wf = true) (v0 v : Value) (hin : (n, v0) ∈ L) :
    ∃ w', (Instr.mapUpdate t (.map (some r)) (.int q (n : Int)) v).run P w = .ok () w' ∧ MpAt q w' r (setL L n v) ∧ Touch (fun j => j = r) w w' := by
  obtain ⟨es, clock, hb, he, hbn, hbc⟩ := h.ex
  rcases mp_find (w := w) hk he h.wf n hn with ⟨h1, h2⟩ | ⟨j, x, h1, h2, h3, h4⟩
  · exact absurd rfl (h2 _ hin)
  · obtain ⟨m1, m2⟩ := modify_set he h.nd j x n v h2 h3
    have hjl : j < es.length := (List.getElem?_eq_some_iff.1 h2).1
    have hxj : es[j] = x := (List.getElem?_eq_some_iff.1 h2).2
    have hmod : es.toArray.modify j (fun e => { e with key := .int q (n : Int), val := v }) = (es.set j ⟨.int q (n : Int), v, x.born⟩).toArray := by
      apply Array.toList_inj.1
      simp only [Array.toList_modify]
      exact modify_is es j _ x h2
    refine ⟨setBlock w r (.map ((es.set j ⟨.int q (n : Int), v, x.born⟩).toArray) clock), ?_, ⟨⟨_, clock, heap_setBlock_same hb _, m1, by rw [m2]; exact hbn, fun y hy => ?_⟩, by rw [setL_keys]; exact h.nd, fun p hp => ?_⟩, touch_block hb _⟩
    · rw [← hmod]
      simp [Instr.mapUpdate, run_underlying ht, MapKept.run_getObj_map hb, (Maps.int_keyed hk).check w false (Maps.keyOf_int_mk hk hn), h1, h2, h3, (Maps.int_keyed hk).stays w (Maps.keyOf_int_mk hk hn), MapKept.run_setObj_map _ hb, Result.andThen, setBlock]
    · have : y.born ∈ (es.set j ⟨.int q (n : Int), v, x.born⟩).map (·.born) := List.mem_map.2 ⟨y, hy, rfl⟩
      rw [m2] at this
      obtain ⟨z, hz, e1⟩ := List.mem_map.1 this
      rw [← e1]; exact hbc z hz
    · have : p.1 ∈ (setL L n v).map (·.1) := List.mem_map.2 ⟨p, hp, rfl⟩
      rw [setL_keys] at this
      obtain ⟨z, hz, e1⟩ := List.mem_map.1 this
      rw [← e1]; exact h.wf z hz
end Go.Proofs.Ytpilkaggiajjmaa
namespace Go.Proofs.Ytpilkaggiajjmaa
open Go.RowKit
set_option linter.unusedVariables false

def xT : Nat → List UInt8 := fun _ => [120]
def itemsO (first k : Nat) : List (Nat × List UInt8) := (List.range k).map (fun d => (numW first d, [120]))
theorem itemsO_succ (first k : Nat) : itemsO first (k + 1) = itemsO first k ++ [(numW first k, [120])] := by simp [itemsO, List.range_succ]
theorem itemsO_len (first k : Nat) : (itemsO first k).length = k := by simp [itemsO]
theorem itemsO_lt (first k : Nat) : ∀ p ∈ itemsO first k, p.1 < 4294967296 := by
  intro p hp
  obtain ⟨d, -, rfl⟩ := List.mem_map.1 hp
  exact numW_lt _ _
theorem itemsO_head (first k : Nat) (hk : k < 32) : itemsO first k = [] ∨ ∃ p l', itemsO first k = p :: l' ∧ distW (numW first k) p.1 < 32 := by
  cases k with
  | zero => exact .inl rfl
  | succ k =>
    right
    refine ⟨(numW first 0, [120]), (List.range k).map (fun d => (numW first (d + 1), [120])), ?_, ?_⟩
    · unfold itemsO; rw [List.range_succ_eq_map]; simp [Function.comp_def]
    · simp only; rw [dist_ge first (k + 1) 0 (by omega) (by omega)]; omega
theorem itemsO_full (first : Nat) : ∃ l', itemsO first 32 = (numW first 0, [120]) :: l' ∧ l'.length = 31 ∧ 32 ≤ distW (numW first 32) (numW first 0) := by
  refine ⟨(List.range 31).map (fun d => (numW first (d + 1), [120])), ?_, by simp, ?_⟩
  · unfold itemsO; rw [show (32 : Nat) = 31 + 1 from rfl, List.range_succ_eq_map]; simp [Function.comp_def]
  · rw [dist_ge first 32 0 (by omega) (by omega)]; omega
def cntG (G : Nat → Bool) : Nat := ((List.range 32).filter G).length
theorem cnt_add (l : List Nat) (hn : l.Nodup) (G : Nat → Bool) (d : Nat) (hd : d ∈ l) (hg : G d = false) : (l.filter (addG G d)).length = (l.filter G).length + 1 := by
  induction l with
  | nil => simp at hd
  | cons x l ih =>
    obtain ⟨h1, h2⟩ := List.nodup_cons.1 hn
    by_cases hx : x = d
    · subst hx
      have hsame : l.filter (addG G x) = l.filter G := by
        apply List.filter_congr
        intro y hy
        have : y ≠ x := fun e => h1 (e ▸ hy)
        simp [addG, this]
      rw [List.filter_cons_of_pos (by simp [addG]), List.filter_cons_of_neg (by simp [hg]), hsame]
      simp
    · have hd' : d ∈ l := by
        rcases List.mem_cons.1 hd with e | e
        · exact absurd e.symm hx
        · exact e
      have := ih h2 hd'
      by_cases hgx : G x = true
      · rw [List.filter_cons_of_pos (by simp [addG, hgx]), List.filter_cons_of_pos hgx]; simp; omega
      · rw [List.filter_cons_of_neg (by simp [addG, hgx, hx]), List.filter_cons_of_neg hgx]; exact this
theorem cntG_add (G : Nat → Bool) (d : Nat) (hd : d < 32) (hg : G d = false) : cntG (addG G d) = cntG G + 1 := cnt_add _ List.nodup_range G d (List.mem_range.2 hd) hg
theorem addG_same (G : Nat → Bool) (d : Nat) (hg : G d = true) : addG G d = G := by
  funext e
  unfold addG
  by_cases h : e = d
  · subst h; rw [hg]; rfl
  · simp [h]
/-- How often each came. -/
structure GotL (first : Nat) (G : Nat → Bool) (c : Nat) (L : List (Nat × Value)) : Prop where
  mem : ∀ n v, (n, v) ∈ L → ∃ d, d < 32 ∧ G d = true ∧ n = numW first d ∧ ∃ z : Nat, v = .int .i64 (z : Int) ∧ 1 ≤ z ∧ z ≤ c
  all : ∀ d, d < 32 → G d = true → ∃ v, (numW first d, v) ∈ L
  len : L.length = cntG G
theorem GotL.new {first : Nat} {G : Nat → Bool} {c : Nat} {L : List (Nat × Value)} (h : GotL first G c L) (d : Nat) (hd : d < 32) (hg : G d = false) : GotL first (addG G d) (c + 1) (L ++ [(numW first d, .int .i64 1)]) := by
  refine ⟨fun n v hv => ?_, fun e he hge => ?_, by rw [List.length_append, h.len, cntG_add G d hd hg]; rfl⟩
  · rcases List.mem_append.1 hv with hv | hv
    · obtain ⟨e, h1, h2, h3, z, h4, h5, h6⟩ := h.mem n v hv
      exact ⟨e, h1, by unfold addG; rw [h2]; rfl, h3, z, h4, h5, by omega⟩
    · simp only [List.mem_singleton, Prod.mk.injEq] at hv
      obtain ⟨rfl, rfl⟩ := hv
      exact ⟨d, hd, by simp [addG], rfl, 1, rfl, by omega, by omega⟩
  · by_cases hed : e = d
    · subst hed; exact ⟨.int .i64 1, List.mem_append.2 (.inr (by simp))⟩
    · have : G e = true := by unfold addG at hge; simpa [hed] using hge
      obtain ⟨v, hv⟩ := h.all e he this
      exact ⟨v, List.mem_append.2 (.inl hv)⟩
theorem GotL.more {first : Nat} {G : Nat → Bool} {c : Nat} {L : List (Nat × Value)} (h : GotL first G c L) (n z : Nat) (hz1 : 1 ≤ z) (hz : z ≤ c) : GotL first G (c + 1) (setL L n (.int .i64 ((z : Int) + 1))) := by
  refine ⟨fun m v hv => ?_, fun e he hge => ?_, by unfold setL; rw [List.length_map]; exact h.len⟩
  · obtain ⟨p, hp, e1⟩ := List.mem_map.1 hv
    by_cases hpn : p.1 = n
    · rw [if_pos hpn] at e1
      simp only [Prod.mk.injEq] at e1
      obtain ⟨d, h1, h2, h3, -⟩ := h.mem p.1 p.2 hp
      exact ⟨d, h1, h2, by rw [← e1.1]; exact h3, z + 1, by rw [← e1.2]; rfl, by omega, by omega⟩
    · rw [if_neg hpn] at e1
      subst e1
      obtain ⟨d, h1, h2, h3, z', h4, h5, h6⟩ := h.mem _ _ hp
      exact ⟨d, h1, h2, h3, z', h4, h5, by omega⟩
  · obtain ⟨v, hv⟩ := h.all e he hge
    refine ⟨if numW first e = n then .int .i64 ((z : Int) + 1) else v, List.mem_map.2 ⟨_, hv, ?_⟩⟩
    simp only
    split <;> rfl
theorem GotL.none {first : Nat} : GotL first (fun _ => false) 0 [] := ⟨(fun n v hv => by simp at hv), (fun d hd hg => by cases hg), by unfold cntG; rw [List.filter_eq_nil_iff.2 (fun a _ => by simp)]; rfl⟩
theorem GotL.no {first : Nat} {G : Nat → Bool} {c : Nat} {L : List (Nat × Value)} (h : GotL first G c L) (d : Nat) (hd : d < 32) (hno : ∀ p ∈ L, p.1 ≠ numW first d) : G d = false := by
  cases hg : G d with
  | false => rfl
  | true => obtain ⟨v, hv⟩ := h.all d hd hg; exact absurd rfl (hno _ hv)
theorem GotL.yes {first : Nat} {G : Nat → Bool} {c : Nat} {L : List (Nat × Value)} (h : GotL first G c L) (d : Nat) (hd : d < 32) {v : Value} (hv : (numW first d, v) ∈ L) : G d = true ∧ ∃ z : Nat, v = .int .i64 (z : Int) ∧ 1 ≤ z ∧ z ≤ c := by
  obtain ⟨e, h1, h2, h3, hz⟩ := h.mem _ _ hv
  have := num_inj first d e h3 (by omega) (by omega)
  subst this
  exact ⟨h2, hz⟩
theorem goW_len (f : Nat) (s : Ws) : (goW f s).1.l.length ≤ s.l.length := by
  induction f generalizing s with
  | zero => exact Nat.le_refl _
  | succ f ih =>
    cases h : findW s.l s.nx with
    | none => rw [goW_none h]; exact Nat.le_refl _
    | some t =>
      rw [goW_some h]
      exact Nat.le_trans (ih _) (List.length_filter_le _ _)
theorem putW_len (s : Ws) (n : Nat) (t : List UInt8) : (putW s n t).1.l.length ≤ s.l.length + 1 := by
  unfold putW
  split
  · simp
  · split
    · simp
    · split
      · simp
      · exact Nat.le_trans (goW_len _ _) (by simp)
/-- All that the second loop knows of what came. -/
def InA (first : Nat) (G : Nat → Bool) (s : Ws) : Prop := (∀ d, G d = true → d < 32) ∧ ∃ m, InG first m xT G s
theorem InA.put {first : Nat} {G : Nat → Bool} {s : Ws} (h : InA first G s) (d : Nat) (hd : d < 32) : InA first (addG G d) (putW s (numW first d) [120]).1 := by
  obtain ⟨h1, m, h2⟩ := h
  refine ⟨fun e he => ?_, ?_⟩
  · unfold addG at he
    rw [Bool.or_eq_true] at he
    rcases he with he | he
    · exact h1 e he
    · have : e = d := by simpa using he
      omega
  · have hm : m ≤ 32 := by
      apply Classical.byContradiction
      intro hc
      have := h1 32 (h2.lo 32 (by omega))
      omega
    by_cases hdm : d < m
    · rw [h2.put_old d hdm (by omega), addG_same G d (h2.lo d hdm)]
      exact ⟨m, h2⟩
    · rcases h2.put d (by omega) (by omega) with ⟨g1, g2⟩ | ⟨g1, s', m', -, g2, g3⟩
      · rw [show ([120] : List UInt8) = xT d from rfl, g2, addG_same G d g1]
        exact ⟨m, h2⟩
      · rw [show ([120] : List UInt8) = xT d from rfl, g2]
        exact ⟨m', g3⟩
theorem InA.ok {first : Nat} {G : Nat → Bool} {s : Ws} (h : InA first G s) : OkW s := by obtain ⟨-, m, h2⟩ := h; exact h2.ok
/-- What the ack tells: just what came; and it is no ack of what wasn't sent. -/
theorem InA.ack {first : Nat} {G : Nat → Bool} {s : Ws} (h : InA first G s) {B : Nat} (hB : ∀ k, B.testBit k = true ↔ ∃ p ∈ s.l, distW p.1 s.nx = k + 1) : (∀ d, d < 32 → hasB s.nx B (numW first d) = G d) ∧ (s.nx = numW first 32 ∨ s.nx ≠ numW first 32 ∧ belowB s.nx (numW first 32) = true) := by
  obtain ⟨h1, m, h2⟩ := h
  have hm : m ≤ 32 := by
    apply Classical.byContradiction
    intro hc
    have := h1 32 (h2.lo 32 (by omega))
    omega
  refine ⟨fun d hd => h2.has hB d (by omega) (by omega), ?_⟩
  rcases Nat.eq_or_lt_of_le hm with e | e
  · left; rw [h2.nx, e]
  · right
    refine ⟨fun e2 => ?_, ?_⟩
    · rw [h2.nx] at e2
      have := num_inj first m 32 e2 (by omega) (by omega)
      omega
    · unfold belowB
      rw [h2.nx, dist_lt first m 32 e (by omega)]
      exact decide_eq_true (by omega)
theorem filter_any (first : Nat) (F : Nat → Bool) (G : Nat → Bool) (R : List Nat) (h : ∀ d ∈ R, F (numW first d) = G d) : ((R.map (fun d => (numW first d, ([120] : List UInt8)))).filter (fun p => F p.1)).map (·.1) = (R.filter G).map (numW first) ∧ (R.map (fun d => (numW first d, ([120] : List UInt8)))).filter (fun p => !F p.1) = (R.filter (fun d => !G d)).map (fun d => (numW first d, [120])) := by
  induction R with
  | nil => exact ⟨rfl, rfl⟩
  | cons d R ih =>
    obtain ⟨i1, i2⟩ := ih (fun e he => h e (by simp [he]))
    have hd := h d (by simp)
    cases hg : G d with
    | true =>
      rw [hg] at hd
      refine ⟨?_, ?_⟩
      · rw [List.map_cons, List.filter_cons_of_pos (by simpa using hd), List.map_cons, i1, List.filter_cons_of_pos hg, List.map_cons]
      · rw [List.map_cons, List.filter_cons_of_neg (by simp [hd]), i2, List.filter_cons_of_neg (by simp [hg])]
    | false =>
      rw [hg] at hd
      refine ⟨?_, ?_⟩
      · rw [List.map_cons, List.filter_cons_of_neg (by simp [hd]), i1, List.filter_cons_of_neg (by simp [hg])]
      · rw [List.map_cons, List.filter_cons_of_pos (by simp [hd]), i2, List.filter_cons_of_pos (by simp [hg]), List.map_cons]
theorem filter_items (first nx B : Nat) (G : Nat → Bool) (h : ∀ d, d < 32 → hasB nx B (numW first d) = G d) : cameO nx B (itemsO first 32) = ((List.range 32).filter G).map (numW first) ∧ restO nx B (itemsO first 32) = ((List.range 32).filter (fun d => !G d)).map (fun d => (numW first d, [120])) := by
  unfold cameO restO itemsO
  exact filter_any first (hasB nx B) G (List.range 32) (fun d hd => h d (List.mem_range.1 hd))
theorem rest_rest (nx B : Nat) (l : List (Nat × List UInt8)) : cameO nx B (restO nx B l) = [] ∧ restO nx B (restO nx B l) = restO nx B l := by
  unfold cameO restO
  refine ⟨?_, ?_⟩
  · rw [List.map_eq_nil_iff, List.filter_eq_nil_iff]
    intro p hp
    have := (List.mem_filter.1 hp).2
    simpa using this
  · rw [List.filter_filter]
    simp
theorem cnt_rest (G : Nat → Bool) : ((List.range 32).filter (fun d => !G d)).length + cntG G = 32 := by
  unfold cntG
  have h : ∀ l : List Nat, (l.filter (fun d => !G d)).length + (l.filter G).length = l.length := by
    intro l
    induction l with
    | nil => rfl
    | cons x l ih =>
      by_cases hg : G x = true
      · rw [List.filter_cons_of_neg (by simp [hg]), List.filter_cons_of_pos hg]; simp; omega
      · rw [List.filter_cons_of_pos (by simp [hg]), List.filter_cons_of_neg hg]; simp; omega
  rw [h]; simp
end Go.Proofs.Ytpilkaggiajjmaa
namespace Go.Proofs.Ytpilkaggiajjmaa
open Go.RowKit
set_option linter.unusedVariables false

abbrev Its := List (Nat × List UInt8)
/-- Does an ack of A and B tell N, without an end? -/
def hasR (A B N : Nat) : Bool := decide (N < A) || (decide (1 ≤ N - A) && (decide (N - A ≤ 32) && B.testBit (N - A - 1)))
theorem has_num (F A B N : Nat) (hA : A < 2147483648) (hN : N < 2147483648) : hasB (numW F A) B (numW F N) = hasR A B N := by
  unfold hasB belowB hasR
  by_cases h : N < A
  · rw [dist_lt F N A h (by omega), decide_eq_true (by omega), decide_eq_true h]; rfl
  · rw [dist_ge F N A (by omega) (by omega), decide_eq_false (by omega : ¬ 2147483648 ≤ N - A), decide_eq_false h]
def numL (F : Nat) (L : Its) : Its := L.map (fun p => (numW F p.1, p.2))
theorem numL_len (F : Nat) (L : Its) : (numL F L).length = L.length := by simp [numL]
theorem numL_lt (F : Nat) (L : Its) : ∀ p ∈ numL F L, p.1 < 4294967296 := by
  intro p hp
  obtain ⟨q, -, rfl⟩ := List.mem_map.1 hp
  exact numW_lt _ _
theorem numL_append (F : Nat) (L M : Its) : numL F (L ++ M) = numL F L ++ numL F M := by simp [numL]
theorem filt_num (F : Nat) (H G : Nat → Bool) (L : Its) (h : ∀ p ∈ L, H (numW F p.1) = G p.1) : ((numL F L).filter (fun p => H p.1)).map (·.1) = (L.filter (fun p => G p.1)).map (fun p => numW F p.1) ∧ (numL F L).filter (fun p => !H p.1) = numL F (L.filter (fun p => !G p.1)) := by
  induction L with
  | nil => exact ⟨rfl, rfl⟩
  | cons d R ih =>
    obtain ⟨i1, i2⟩ := ih (fun e he => h e (by simp [he]))
    have hd := h d (by simp)
    unfold numL at i1 i2 ⊢
    cases hg : G d.1 with
    | true =>
      rw [hg] at hd
      refine ⟨?_, ?_⟩
      · rw [List.map_cons, List.filter_cons_of_pos (by simpa using hd), List.map_cons, i1, List.filter_cons_of_pos (by simpa using hg), List.map_cons]
      · rw [List.map_cons, List.filter_cons_of_neg (by simp [hd]), i2, List.filter_cons_of_neg (by simp [hg])]
    | false =>
      rw [hg] at hd
      refine ⟨?_, ?_⟩
      · rw [List.map_cons, List.filter_cons_of_neg (by simp [hd]), i1, List.filter_cons_of_neg (by simp [hg])]
      · rw [List.map_cons, List.filter_cons_of_pos (by simp [hd]), i2, List.filter_cons_of_pos (by simp [hg]), List.map_cons]
def goneR (A B : Nat) (L : Its) : List Nat := (L.filter (fun p => hasR A B p.1)).map (·.1)
def leftR (A B : Nat) (L : Its) : Its := L.filter (fun p => !hasR A B p.1)
theorem ack_num (F A B : Nat) (L : Its) (hA : A < 2147483648) (hL : ∀ p ∈ L, p.1 < 2147483648) : cameO (numW F A) B (numL F L) = (goneR A B L).map (numW F) ∧ restO (numW F A) B (numL F L) = numL F (leftR A B L) := by
  obtain ⟨h1, h2⟩ := filt_num F (hasB (numW F A) B) (hasR A B) L (fun p hp => has_num F A B p.1 hA (hL p hp))
  refine ⟨?_, h2⟩
  unfold cameO goneR
  rw [h1, List.map_map]; rfl
/-- What is on its way: in its order, at most 32 numbers wide. -/
structure OutR (n : Nat) (L : Its) : Prop where
  up : L.Pairwise (fun p q => p.1 < q.1)
  lt : ∀ p ∈ L, p.1 < n
  wide : ∀ p ∈ L, n ≤ p.1 + 32
theorem up_len (lo hi : Nat) (L : Its) (hu : L.Pairwise (fun p q => p.1 < q.1)) (h : ∀ p ∈ L, lo ≤ p.1 ∧ p.1 < hi) : L.length ≤ hi - lo := by
  induction L generalizing lo with
  | nil => simp
  | cons x L ih =>
    obtain ⟨h1, h2⟩ := List.pairwise_cons.1 hu
    have hx := h x (by simp)
    have := ih (x.1 + 1) h2 (fun p hp => ⟨h1 p hp, (h p (by simp [hp])).2⟩)
    simp only [List.length_cons]; omega
theorem OutR.len {n : Nat} {L : Its} (h : OutR n L) : L.length ≤ 32 := by
  have := up_len (n - 32) n L h.up (fun p hp => ⟨by have := h.wide p hp; omega, h.lt p hp⟩)
  omega
theorem OutR.filter {n : Nat} {L : Its} (h : OutR n L) (q : Nat × List UInt8 → Bool) : OutR n (L.filter q) :=
  ⟨h.up.sublist List.filter_sublist, fun p hp => h.lt p (List.mem_filter.1 hp).1, fun p hp => h.wide p (List.mem_filter.1 hp).1⟩
theorem OutR.push {n : Nat} {L : Its} (h : OutR n L) (t : List UInt8) (hr : L = [] ∨ ∃ p l', L = p :: l' ∧ n - p.1 < 32) : OutR (n + 1) (L ++ [(n, t)]) := by
  refine ⟨?_, fun p hp => ?_, fun p hp => ?_⟩
  · rw [List.pairwise_append]
    refine ⟨h.up, by simp, fun a ha b hb => ?_⟩
    simp only [List.mem_singleton] at hb
    subst hb
    exact h.lt a ha
  · rcases List.mem_append.1 hp with hp | hp
    · have := h.lt p hp; omega
    · simp only [List.mem_singleton] at hp; subst hp; simp
  · rcases List.mem_append.1 hp with hp | hp
    · rcases hr with rfl | ⟨q, l', rfl, hq⟩
      · simp at hp
      · obtain ⟨h1, -⟩ := List.pairwise_cons.1 h.up
        have hqn := h.lt q (by simp)
        rcases List.mem_cons.1 hp with e | e
        · subst e; omega
        · have := h1 p e; omega
    · simp only [List.mem_singleton] at hp; subst hp; simp only; omega
theorem OutR.none (n : Nat) : OutR n [] := ⟨List.Pairwise.nil, (fun p hp => by simp at hp), (fun p hp => by simp at hp)⟩
/-- Is there room? -/
def roomR (n : Nat) (L : Its) : Prop := L = [] ∨ ∃ p l', L = p :: l' ∧ n - p.1 < 32
theorem room_num {F n : Nat} {L : Its} (h : OutR n L) (hn : n < 2147483648) (hr : roomR n L) : numL F L = [] ∨ ∃ p l', numL F L = p :: l' ∧ distW (numW F n) p.1 < 32 := by
  rcases hr with rfl | ⟨p, l', rfl, hp⟩
  · exact .inl rfl
  · refine .inr ⟨(numW F p.1, p.2), numL F l', rfl, ?_⟩
    have := h.lt p (by simp)
    simp only
    rw [dist_ge F n p.1 (by omega) (by omega)]; exact hp
theorem full_num {F n : Nat} {p : Nat × List UInt8} {l' : Its} (h : OutR n (p :: l')) (hn : n < 2147483648) (hr : 32 ≤ n - p.1) : 32 ≤ distW (numW F n) (numW F p.1) := by
  have := h.lt p (by simp)
  rw [dist_ge F n p.1 (by omega) (by omega)]; exact hr
/-- An ack is of what was sent, or it isn't. -/
theorem go_num13 (F A n : Nat) (hA : A < 2147483648) (hn : n < 2147483648) (h : A ≤ n) : numW F A = numW F n ∨ numW F A ≠ numW F n ∧ belowB (numW F A) (numW F n) = true := by
  rcases Nat.eq_or_lt_of_le h with e | e
  · left; rw [e]
  · right
    refine ⟨fun e2 => ?_, ?_⟩
    · have := num_inj F A n e2 (by omega) (by omega); omega
    · unfold belowB
      rw [dist_lt F A n e (by omega)]
      exact decide_eq_true (by omega)
theorem no_num13 (F A n : Nat) (hA : A < 2147483648) (hn : n < 2147483648) (h : n < A) : numW F A ≠ numW F n ∧ belowB (numW F A) (numW F n) = false := by
  refine ⟨fun e2 => ?_, ?_⟩
  · have := num_inj F A n e2 (by omega) (by omega); omega
  · unfold belowB
    rw [dist_ge F A n (by omega) (by omega)]
    exact decide_eq_false (by omega)
/-- What waits: each number once, behind the awaited one, at most 32 behind it. -/
structure InR (n : Nat) (L : Its) : Prop where
  nd : (L.map (·.1)).Nodup
  lo : ∀ p ∈ L, n < p.1
  hi : ∀ p ∈ L, p.1 ≤ n + 32
theorem InR.none (n : Nat) : InR n [] := ⟨by simp, (fun p hp => by simp at hp), (fun p hp => by simp at hp)⟩
theorem nodup_len (k lo : Nat) (l : List Nat) (hn : l.Nodup) (h : ∀ x ∈ l, lo ≤ x ∧ x < lo + k) : l.length ≤ k := by
  induction k generalizing l with
  | zero =>
    cases l with
    | nil => simp
    | cons x l => have := h x (by simp); omega
  | succ k ih =>
    have h1 := ih (l.filter (fun x => x != lo + k)) (hn.sublist List.filter_sublist) (fun x hx => by
      obtain ⟨hx, hne⟩ := List.mem_filter.1 hx
      have := h x hx
      have hne : x ≠ lo + k := by simpa using hne
      omega)
    have h2 : ∀ m : List Nat, m.Nodup → m.length ≤ (m.filter (fun x => x != lo + k)).length + 1 := by
      intro m hm
      induction m with
      | nil => simp
      | cons x m ihm =>
        obtain ⟨n1, n2⟩ := List.nodup_cons.1 hm
        by_cases hx : x = lo + k
        · rw [List.filter_cons_of_neg (by simp [hx])]
          have : m.filter (fun y => y != lo + k) = m := List.filter_eq_self.2 (fun y hy => by
            have : y ≠ lo + k := fun e => n1 (by rw [hx, ← e]; exact hy)
            simpa using this)
          rw [this]; simp
        · rw [List.filter_cons_of_pos (by simpa using hx)]
          have := ihm n2
          simp only [List.length_cons]; omega
    have := h2 l hn
    omega
theorem InR.len {n : Nat} {L : Its} (h : InR n L) : L.length ≤ 32 := by
  have := nodup_len 32 (n + 1) (L.map (·.1)) h.nd (fun x hx => by
    obtain ⟨p, hp, rfl⟩ := List.mem_map.1 hx
    have := h.lo p hp; have := h.hi p hp; omega)
  simpa using this
theorem find_num (F x lo : Nat) (L : Its) (hx : lo ≤ x ∧ x < lo + 1000) (h : ∀ p ∈ L, lo ≤ p.1 ∧ p.1 < lo + 1000) : findW (numL F L) (numW F x) = findW L x := by
  unfold findW numL
  induction L with
  | nil => rfl
  | cons p L ih =>
    have hp := h p (by simp)
    have ih := ih (fun q hq => h q (by simp [hq]))
    by_cases e : p.1 = x
    · rw [List.map_cons, List.find?_cons_of_pos (by simp [e]), List.find?_cons_of_pos (by simp [e])]; rfl
    · have e2 : numW F p.1 ≠ numW F x := fun e3 => e (num_inj F p.1 x e3 (by omega) (by omega))
      rw [List.map_cons, List.find?_cons_of_neg (by simpa using e2), List.find?_cons_of_neg (by simpa using e)]
      exact ih
theorem drop_num (F x lo : Nat) (L : Its) (hx : lo ≤ x ∧ x < lo + 1000) (h : ∀ p ∈ L, lo ≤ p.1 ∧ p.1 < lo + 1000) : (numL F L).filter (fun p => p.1 != numW F x) = numL F (L.filter (fun p => p.1 != x)) := by
  have := (filt_num F (fun m => m == numW F x) (fun m => m == x) L (fun p hp => by
    have := h p hp
    by_cases e : p.1 = x
    · simp [e]
    · have e2 : numW F p.1 ≠ numW F x := fun e3 => e (num_inj F p.1 x e3 (by omega) (by omega))
      rw [beq_eq_false_iff_ne.2 e2, beq_eq_false_iff_ne.2 e])).2
  exact this
/-- The document's: the awaited ones, as long as they wait. -/
def goR : Nat → Nat → Its → Nat × Its × List (List UInt8)
  | 0, n, L => (n, L, [])
  | f + 1, n, L => match findW L n with
    | none => (n, L, [])
    | some t => ((goR f (n + 1) (L.filter (fun p => p.1 != n))).1, (goR f (n + 1) (L.filter (fun p => p.1 != n))).2.1, t :: (goR f (n + 1) (L.filter (fun p => p.1 != n))).2.2)
theorem goR_none {f n : Nat} {L : Its} (h : findW L n = none) : goR f n L = (n, L, []) := by
  cases f with
  | zero => rfl
  | succ f => simp [goR, h]
theorem goR_some {f n : Nat} {L : Its} {t : List UInt8} (h : findW L n = some t) : goR (f + 1) n L = ((goR f (n + 1) (L.filter (fun p => p.1 != n))).1, (goR f (n + 1) (L.filter (fun p => p.1 != n))).2.1, t :: (goR f (n + 1) (L.filter (fun p => p.1 != n))).2.2) := by
  simp [goR, h]
theorem findW_mem {L : Its} {n : Nat} {t : List UInt8} (h : findW L n = some t) : (n, t) ∈ L := by
  unfold findW at h
  cases hf : L.find? (fun p => p.1 == n) with
  | none => rw [hf] at h; simp at h
  | some p =>
    rw [hf] at h
    simp only [Option.map_some, Option.some.injEq] at h
    have h1 := List.mem_of_find?_eq_some hf
    have h2 := List.find?_some hf
    simp only [beq_iff_eq] at h2
    rw [← h, ← h2]; exact h1
theorem one_less {L : Its} {n : Nat} {t : List UInt8} (nd : (L.map (·.1)).Nodup) (h : (n, t) ∈ L) : (L.filter (fun p => p.1 != n)).length + 1 = L.length := by
  induction L with
  | nil => simp at h
  | cons p L ih =>
    simp only [List.map_cons, List.nodup_cons] at nd
    by_cases e : p.1 = n
    · rw [List.filter_cons_of_neg (by simp [e])]
      have : L.filter (fun q => q.1 != n) = L := List.filter_eq_self.2 (fun q hq => by
        have : q.1 ≠ n := fun e2 => nd.1 (by rw [e, ← e2]; exact List.mem_map.2 ⟨q, hq, rfl⟩)
        simpa using this)
      rw [this]; rfl
    · rw [List.filter_cons_of_pos (by simpa using e)]
      rcases List.mem_cons.1 h with e2 | e2
      · exact absurd (by rw [← e2]) e
      · simp only [List.length_cons]
        have := ih nd.2 e2; omega
theorem goR_ok (H : Nat) : ∀ (f n : Nat) (L : Its), (L.map (·.1)).Nodup → (∀ p ∈ L, n ≤ p.1 ∧ p.1 ≤ H) → L.length < f → n ≤ (goR f n L).1 ∧ ((goR f n L).2.1.map (·.1)).Nodup ∧ (∀ p ∈ (goR f n L).2.1, (goR f n L).1 < p.1 ∧ p.1 ≤ H) ∧ (goR f n L).1 + (goR f n L).2.1.length = n + L.length := by
  intro f
  induction f with
  | zero => intro n L _ _ h; omega
  | succ f ih =>
    intro n L hnd hL hl
    cases hf : findW L n with
    | none =>
      rw [goR_none hf]
      refine ⟨Nat.le_refl _, hnd, fun p hp => ?_, rfl⟩
      have h1 := hL p hp
      have h2 : p.1 ≠ n := fun e => by
        have := findW_of hnd (show (n, p.2) ∈ L by rw [← e]; exact hp)
        rw [hf] at this; cases this
      simp only
      omega
    | some t =>
      rw [goR_some hf]
      have hm := findW_mem hf
      have hless := one_less hnd hm
      obtain ⟨g1, g2, g3, g4⟩ := ih (n + 1) (L.filter (fun p => p.1 != n)) (nodup_filter hnd _) (fun p hp => by
        obtain ⟨h1, h2⟩ := List.mem_filter.1 hp
        have := hL p h1
        have h2 : p.1 ≠ n := by simpa using h2
        omega) (by omega)
      exact ⟨by simp only; omega, g2, g3, by simp only; omega⟩
theorem goW_num (F : Nat) : ∀ (f n : Nat) (L : Its), (∀ p ∈ L, n ≤ p.1 ∧ p.1 < n + 900) → goW f ⟨numW F n, numL F L⟩ = (⟨numW F (goR f n L).1, numL F (goR f n L).2.1⟩, (goR f n L).2.2) := by
  intro f
  induction f with
  | zero => intro n L _; rfl
  | succ f ih =>
    intro n L hL
    have hfn := find_num F n n L (by omega) (fun p hp => by have := hL p hp; omega)
    cases hf : findW L n with
    | none =>
      rw [hf] at hfn
      rw [goW_none hfn, goR_none hf]
    | some t =>
      rw [hf] at hfn
      rw [goW_some hfn, goR_some hf]
      simp only
      rw [drop_num F n n L (by omega) (fun p hp => by have := hL p hp; omega), numW_succ, ih (n + 1) _ (fun p hp => by
        obtain ⟨h1, h2⟩ := List.mem_filter.1 hp
        have := hL p h1
        have h2 : p.1 ≠ n := by simpa using h2
        omega)]
/-- The document's Put. -/
def putR (n : Nat) (L : Its) (x : Nat) (t : List UInt8) : (Nat × Its × List (List UInt8)) × Nat :=
  if x < n then ((n, L, []), 11) else if n + 32 < x then ((n, L, []), 8) else if findW L x ≠ none then ((n, L, []), 10) else (goR (L.length + 2) n (L ++ [(x, t)]), 0)
theorem put_num (F n x : Nat) (L : Its) (t : List UInt8) (h : InR n L) (hx1 : n < x + 1000) (hx2 : x < n + 1000) : putW ⟨numW F n, numL F L⟩ (numW F x) t = (⟨numW F (putR n L x t).1.1, numL F (putR n L x t).1.2.1⟩, (putR n L x t).1.2.2, (putR n L x t).2) := by
  unfold putW putR
  by_cases h1 : x < n
  · rw [if_pos, if_pos h1]
    unfold belowB
    simp only
    rw [dist_lt F x n h1 (by omega)]
    exact decide_eq_true (by omega)
  · have hd : distW (numW F x) (numW F n) = x - n := dist_ge F x n (by omega) (by omega)
    rw [if_neg, if_neg h1]
    · simp only
      rw [hd]
      by_cases h2 : n + 32 < x
      · rw [if_pos (by omega), if_pos h2]
      · rw [if_neg (by omega), if_neg h2, find_num F x n L (by omega) (fun p hp => by have := h.lo p hp; have := h.hi p hp; omega)]
        by_cases h3 : findW L x = none
        · rw [if_neg (by simpa using h3), if_neg (by simpa using h3)]
          have e1 : numL F L ++ [(numW F x, t)] = numL F (L ++ [(x, t)]) := by simp [numL]
          rw [e1, numL_len, goW_num F (L.length + 2) n (L ++ [(x, t)]) (fun p hp => by
            rcases List.mem_append.1 hp with hp | hp
            · have := h.lo p hp; have := h.hi p hp; omega
            · simp only [List.mem_singleton] at hp; subst hp; simp only; omega)]
        · rw [if_pos h3, if_pos h3]
    · unfold belowB
      simp only
      rw [hd]
      simp; omega
theorem putR_ok (n x : Nat) (L : Its) (t : List UInt8) (h : InR n L) : InR (putR n L x t).1.1 (putR n L x t).1.2.1 ∧ n ≤ (putR n L x t).1.1 ∧ (putR n L x t).1.1 + (putR n L x t).1.2.1.length ≤ n + L.length + 1 := by
  unfold putR
  split
  · exact ⟨h, Nat.le_refl _, by simp only; omega⟩
  · split
    · exact ⟨h, Nat.le_refl _, by simp only; omega⟩
    · split
      · exact ⟨h, Nat.le_refl _, by simp only; omega⟩
      · rename_i h1 h2 h3
        have h3 : findW L x = none := Classical.byContradiction h3
        obtain ⟨g1, g2, g3, g4⟩ := goR_ok (n + 32) (L.length + 2) n (L ++ [(x, t)]) (by
          simp only [List.map_append, List.map_cons, List.map_nil]
          rw [List.nodup_append]
          refine ⟨h.nd, by simp, fun a ha b hb' => ?_⟩
          have hb' : b = x := by simpa using hb'
          obtain ⟨p, hp, rfl⟩ := List.mem_map.1 ha
          intro e
          rw [hb'] at e
          have := findW_of h.nd (show (x, p.2) ∈ L by rw [← e]; exact hp)
          rw [h3] at this; cases this) (fun p hp => by
          rcases List.mem_append.1 hp with hp | hp
          · have := h.lo p hp; have := h.hi p hp; omega
          · simp only [List.mem_singleton] at hp; subst hp; simp only; omega) (by simp)
        refine ⟨⟨g2, fun p hp => (g3 p hp).1, fun p hp => by have := (g3 p hp).2; simp only; omega⟩, g1, ?_⟩
        simp only [List.length_append, List.length_singleton] at g4
        simp only
        omega
theorem InR.ok {F n : Nat} {L : Its} (h : InR n L) : OkW ⟨numW F n, numL F L⟩ := by
  intro p hp
  obtain ⟨q, hq, rfl⟩ := List.mem_map.1 hp
  have h1 := h.lo q hq
  have h2 := h.hi q hq
  simp only
  rw [dist_ge F q.1 n (by omega) (by omega)]
  exact ⟨numW_lt _ _, by omega, by omega⟩
theorem InR.bits {F n B : Nat} {L : Its} (h : InR n L) (hB : ∀ k, B.testBit k = true ↔ ∃ p ∈ numL F L, distW p.1 (numW F n) = k + 1) : ∀ k, B.testBit k = true ↔ ∃ p ∈ L, p.1 = n + k + 1 := by
  intro k
  rw [hB k]
  constructor
  · rintro ⟨p, hp, hd⟩
    obtain ⟨q, hq, rfl⟩ := List.mem_map.1 hp
    have h1 := h.lo q hq
    have h2 := h.hi q hq
    simp only at hd
    rw [dist_ge F q.1 n (by omega) (by omega)] at hd
    exact ⟨q, hq, by omega⟩
  · rintro ⟨q, hq, hd⟩
    have h1 := h.lo q hq
    have h2 := h.hi q hq
    refine ⟨(numW F q.1, q.2), List.mem_map.2 ⟨q, hq, rfl⟩, ?_⟩
    simp only
    rw [dist_ge F q.1 n (by omega) (by omega)]; omega
/-- The place at which a number stands is its only one: what is left without it. -/
theorem erase_at {L : Its} {n k : Nat} (nd : (L.map (·.1)).Nodup) (hk : k < L.length) (e : L[k].1 = n) : L.take k ++ L.drop (k + 1) = L.filter (fun p => p.1 != n) := by
  induction L generalizing k with
  | nil => simp at hk
  | cons p L ih =>
    simp only [List.map_cons, List.nodup_cons] at nd
    cases k with
    | zero =>
      simp only [List.getElem_cons_zero] at e
      rw [List.filter_cons_of_neg (by simp [e])]
      have : L.filter (fun q => q.1 != n) = L := List.filter_eq_self.2 (fun q hq => by
        have : q.1 ≠ n := fun e2 => nd.1 (by rw [e, ← e2]; exact List.mem_map.2 ⟨q, hq, rfl⟩)
        simpa using this)
      rw [this]; simp
    | succ k =>
      simp only [List.getElem_cons_succ] at e
      have hk' : k < L.length := by simpa using hk
      have hp : p.1 ≠ n := fun e2 => nd.1 (by rw [e2, ← e]; exact List.mem_map.2 ⟨L[k], List.getElem_mem hk', rfl⟩)
      rw [List.filter_cons_of_pos (by simpa using hp), ← ih nd.2 hk' e]
      simp
theorem findW_at13 {L : Its} {n k : Nat} (nd : (L.map (·.1)).Nodup) (hk : k < L.length) (e : L[k].1 = n) : findW L n = some L[k].2 :=
  findW_of nd (by rw [← e]; exact List.getElem_mem hk)
end Go.Proofs.Ytpilkaggiajjmaa
namespace Go.Proofs.Ytpilkaggiajjmaa
open Go.RowKit
set_option linter.unusedVariables false

def riC (p : Nat × List UInt8) : List Value := [.int .i64 (p.1 : Int), .string (bs p.2)]
theorem ri_wide (l : Its) : VWide 2 (l.map riC) := by
  intro x hx
  obtain ⟨p, -, rfl⟩ := List.mem_map.1 hx
  refine ⟨rfl, fun u hu => ?_⟩
  simp only [riC, List.mem_cons, List.not_mem_nil, or_false] at hu
  rcases hu with rfl | rfl <;> rfl
theorem riTy : VTy 39 2 (.agg #[.int .i64 0, .string ⟨#[]⟩]) 24 := ⟨by kernel_rfl, rfl, by decide, by decide⟩
/-- A row of the document's things. -/
def RRow (w : World) (a : Option Addr) (L : Its) : Prop := VRow 2 w a (L.map riC)
theorem RRow.at {w : World} {a : Option Addr} {L : Its} (h : RRow w a L) {k : Nat} (hk : k < L.length) : ∃ b off, a = some ⟨b, off, none⟩ ∧ b < w.heap.size ∧ w.cell? ⟨b, off + k * 2, none⟩ = some (.int .i64 (L[k].1 : Int)) ∧ w.cell? ⟨b, off + k * 2 + 1, none⟩ = some (.string (bs L[k].2)) := by
  have hlen : (L.map riC).length = L.length := by simp
  obtain ⟨b, off, e1, hc⟩ := h (by rw [hlen]; omega)
  have hx : ∀ j, j < 2 → w.cell? ⟨b, off + k * 2 + j, none⟩ = (riC L[k])[j]? := fun j hj => by
    have h1 := hc k (by rw [hlen]; exact hk) j hj
    rw [h1]
    simp
  have h0 : w.cell? ⟨b, off + k * 2, none⟩ = some (.int .i64 (L[k].1 : Int)) := hx 0 (by decide)
  exact ⟨b, off, e1, block_lt_of_cell h0, h0, hx 1 (by decide)⟩
theorem RRow.touch {S : Nat → Prop} {w w' : World} {a : Option Addr} {L : Its} (h : RRow w a L) (ht : Touch S w w') (hs : ∀ x, a = some x → ¬ S x.block) : RRow w' a L := VRow.touch (by decide) (ri_wide L) h ht hs
theorem RRow.below {w w' : World} {a : Option Addr} {L : Its} (h : RRow w a L) (hb : Below w.heap.size w w') : RRow w' a L := h.touch (touch_of_below (S := fun _ => False) hb) (fun _ _ => id)
def Find13 (L : Its) (x : Nat) (z : Int) : Prop := (∃ k, ∃ (hk : k < L.length), z = (k : Int) ∧ L[k].1 = x) ∨ (z = -1 ∧ ∀ p ∈ L, p.1 ≠ x)
set_option maxRecDepth 100000 in
set_option maxHeartbeats 1000000 in
theorem find13_any (a : Option Addr) (c : Nat) (L : Its) (x : Nat) (w : World) (hl : L.length ≤ 1000) (hr : RRow w a L) :
    Calls Try.prog 59 #[.slice a L.length c, .int .i64 (x : Int)] w fun r w' => (∃ z : Int, r = .returned (.int .i64 z) ∧ Find13 L x z) ∧ Below w.heap.size w w' := by
  have HR := Lib.hid hr
  clear hr
  go_enter Try.func59, Try.ntmps59
  go_wp2
  go_loopw [9] (fun i wr => ∃ k : Nat, k ≤ L.length ∧ i = .int .i64 k ∧ Hid ((∀ j (hj : j < L.length), j < k → L[j].1 ≠ x) ∧ Below w.heap.size w wr)) (fun i _ => L.length - (intOf i).toNat)
  case atStart => exact ⟨0, by omega, rfl, Lib.hid ⟨fun j hj h => by omega, Below.refl _ _⟩⟩
  case round =>
    obtain ⟨k, hk, rfl, HM⟩ := hrel
    by_cases hlt : k < L.length
    · obtain ⟨b, off, rfl, hb, c0, c1⟩ := (HR.out.below HM.out.2).at hlt
      have HX := Lib.hid (show ∃ k', ∃ (hk' : k' < L.length), (k : Int) = (k' : Int) ∧ L[k'].1 = L[k].1 from ⟨k, hlt, rfl, rfl⟩)
      have HNX := Lib.hid (show L[k].1 ≠ x → ∀ j (hj : j < L.length), j < k + 1 → L[j].1 ≠ x from fun h j hj hjk => by
        by_cases e : j = k
        · subst e; exact h
        · exact HM.out.1 j hj (by omega))
      generalize L[k] = u at c0 c1 HNX HX
      obtain ⟨u0, u1⟩ := u
      simp only at c0 c1 HNX HX
      have HB1 := Lib.hid (bel_alloc HM.out.2 (.cells #[.int .i64 (u0 : Int), .string (bs u1)] 39))
      have hi0 : (0 : Int) ≤ (k : Int) := by omega
      have hi1 : (k : Int) < (L.length : Int) := by omega
      by_cases he : u0 = x
      · subst he
        go_wp2
        go_ret
        exact ⟨⟨_, rfl, .inl HX.out⟩, HB1.out⟩
      · have heb : ((u0 : Int) == (x : Int)) = false := by rw [beq_eq_false_iff_ne]; omega
        have HN2 := Lib.hid (HNX.out he)
        clear he
        go_wp2
        go_roundw
        case rel => exact ⟨k + 1, by omega, by go_num, Lib.hid ⟨HN2.out, HB1.out⟩⟩
        case measure => simp [intOf] <;> omega
    · have HE := Lib.hid (show ∀ p ∈ L, p.1 ≠ x from fun p hp => by
        obtain ⟨j, hj, rfl⟩ := List.getElem_of_mem hp
        exact HM.out.1 j hj (by omega))
      have hi1 : (L.length : Int) ≤ (k : Int) := by omega
      go_wp2
      go_ret
      exact ⟨⟨_, rfl, .inr ⟨rfl, HE.out⟩⟩, HM.out.2⟩
theorem half_step (B i : Nat) : ((B / 2 ^ i : Nat) : Int) / 2 = ((B / 2 ^ (i + 1) : Nat) : Int) := by
  rw [Nat.pow_succ, ← Nat.div_div_eq_div_mul]; omega
set_option maxRecDepth 100000 in
set_option maxHeartbeats 1000000 in
theorem has13_any (A B N : Nat) (w : World) (hA : A < 2147483648) (hN : N < 2147483648) (hB : B < 4294967296) :
    Calls Try.prog 56 #[.int .i64 (A : Int), .int .u32 (B : Int), .int .i64 (N : Int)] w fun r w' => r = .returned (.bool (hasR A B N)) ∧ w' = w := by
  unfold hasR
  by_cases h1 : N < A
  · rw [decide_eq_true h1]
    have hi : (N : Int) < (A : Int) := by omega
    go_enter Try.func56, Try.ntmps56
    go_wp2
    go_ret
    exact ⟨rfl, rfl⟩
  · rw [decide_eq_false h1, Bool.false_or]
    have hi : (A : Int) ≤ (N : Int) := by omega
    by_cases h2 : 1 ≤ N - A ∧ N - A ≤ 32
    · rw [decide_eq_true h2.1, decide_eq_true h2.2, Bool.true_and, Bool.true_and]
      obtain ⟨k, hk⟩ : ∃ k, N = A + 1 + k := ⟨N - A - 1, by omega⟩
      subst hk
      have e1 : A + 1 + k - A - 1 = k := by omega
      rw [e1]
      have hw1 : IntKind.i64.wrap (((A + 1 + k : Nat) : Int) - (A : Int)) = (k : Int) + 1 := by rw [IntKind.wrap_i64]; omega
      have hw2 : IntKind.i64.wrap ((k : Int) + 1 - 1) = (k : Int) := by rw [IntKind.wrap_i64]; omega
      have hk31 : (k : Int) ≤ 31 := by omega
      have hk0 : (0 : Int) ≤ (k : Int) := by omega
      have HB := Lib.hid hB
      generalize hNN : ((A + 1 + k : Nat) : Int) = NN at hi hw1 ⊢
      have hd1 : decide (NN < (A : Int)) = false := by simp; omega
      clear h1 h2 e1 hNN hB hA hN
      go_enter Try.func56, Try.ntmps56
      go_wp2
      go_loopw [8, 9] (fun bv iv wr => ∃ i : Nat, i ≤ k ∧ bv = .int .u32 ((B / 2 ^ i : Nat) : Int) ∧ iv = .int .i64 i ∧ wr = w) (fun _ iv _ => k - (intOf iv).toNat)
      case atStart => exact ⟨0, Nat.zero_le _, by simp, rfl, rfl⟩
      case round =>
        obtain ⟨i, hik, rfl, rfl, rfl⟩ := hrel
        by_cases hlt : i < k
        · have hi1 : (i : Int) < (k : Int) := by omega
          have HS := Lib.hid (half_step B i)
          have hle : B / 2 ^ i < 4294967296 := Nat.lt_of_le_of_lt (Nat.div_le_self _ _) HB.out
          have hle2 : B / 2 ^ (i + 1) < 4294967296 := Nat.lt_of_le_of_lt (Nat.div_le_self _ _) HB.out
          have hnn : (0 : Int) ≤ ((B / 2 ^ i : Nat) : Int) := Int.natCast_nonneg _
          generalize B / 2 ^ i = z at hle hnn HS ⊢
          go_wp2
          go_roundw
          case rel => exact ⟨i + 1, by omega, by rw [HS.out], by go_num, trivial⟩
          case measure => simp [intOf] <;> omega
        · obtain rfl : i = k := by omega
          have hi1 : (i : Int) ≤ (i : Int) := by omega
          go_wp2
          go_ret
          refine ⟨?_, rfl⟩
          show Ending.returned (.bool ((((B / 2 ^ i : Nat) : Int) % 2) == 1)) = _
          rw [Nat.testBit_eq_decide_div_mod_eq]
          generalize B / 2 ^ i = z
          congr 2
          by_cases hz : z % 2 = 1
          · rw [decide_eq_true hz, beq_iff_eq]; omega
          · rw [decide_eq_false hz, beq_eq_false_iff_ne]; omega
    · have e0 : (decide (1 ≤ N - A) && (decide (N - A ≤ 32) && B.testBit (N - A - 1))) = false := by
        by_cases h3 : 1 ≤ N - A
        · rw [decide_eq_false (show ¬ N - A ≤ 32 from fun h => h2 ⟨h3, h⟩)]; simp
        · rw [decide_eq_false h3]; rfl
      rw [e0]
      have hw1 : IntKind.i64.wrap ((N : Int) - (A : Int)) = (N : Int) - (A : Int) := by rw [IntKind.wrap_i64]; omega
      have hw2 : IntKind.i64.wrap ((N : Int) - (A : Int) - 1) = (N : Int) - (A : Int) - 1 := by rw [IntKind.wrap_i64]; omega
      have hd : decide ((N : Int) - (A : Int) - 1 < 0) = true ∨ decide ((N : Int) - (A : Int) - 1 < 0) = false ∧ decide (31 < (N : Int) - (A : Int) - 1) = true := by
        by_cases h3 : 1 ≤ N - A
        · right; exact ⟨by simp; omega, by simp; omega⟩
        · left; simp; omega
      have hd1 : decide ((N : Int) < (A : Int)) = false := by simp; omega
      clear h1 h2 e0
      rcases hd with hd | ⟨hd, hd2⟩
      all_goals
        go_enter Try.func56, Try.ntmps56
        go_wp2
        go_ret
        exact ⟨rfl, rfl⟩
end Go.Proofs.Ytpilkaggiajjmaa
namespace Go.Proofs.Ytpilkaggiajjmaa
open Go.RowKit
set_option linter.unusedVariables false

/-- A row of the call's own, that none had before. -/
def NewV (e k : Nat) (w : World) (a : Option Addr) (c : Nat) (ls : List (List Value)) (w' : World) : Prop := OwnV e k w.heap.size a c ls w' ∧ Below w.heap.size w w'
theorem NewV.keep {e k : Nat} {w : World} {a : Option Addr} {c : Nat} {ls : List (List Value)} {w1 w2 : World} (h : NewV e k w a c ls w1) (hb : Below w1.heap.size w1 w2) : NewV e k w a c ls w2 :=
  ⟨h.1.touch (touch_of_below (S := fun _ => False) hb) (fun _ _ => id), h.2.trans (hb.mono h.2.size)⟩
theorem NewV.drew {e k : Nat} {w : World} {a : Option Addr} {c : Nat} {ls : List (List Value)} {w1 : World} (h : NewV e k w a c ls w1) : NewV e k w a c ls w1.drew := h.keep (Below.refl _ _).drew
theorem NewV.none (e k : Nat) {w w1 : World} (h : Below w.heap.size w w1) : NewV e k w none 0 [] w1 := ⟨⟨World.ownsRow_nil _ _ _ _, (fun x hx => by cases hx)⟩, h⟩
theorem NewV.made (e k : Nat) {w W : World} (h : Below w.heap.size w W) (m : Nat) (hm : m = W.heap.size) : NewV e k w (some ⟨m, 0, Option.none⟩) 0 [] (W.alloc (.cells #[] e)) := by
  subst hm
  refine ⟨⟨⟨by simp, .inr ⟨W.heap.size, 0, #[], rfl, Nat.zero_le _, ?_, Nat.le_refl _, by unfold maxLen; omega, by simp, by simp⟩⟩, fun x hx => by cases hx; exact h.size⟩, bel_alloc h _⟩
  show (W.heap.push (.cells #[] e))[W.heap.size]? = _
  simp
theorem own_appx {e T ty : TypeId} {k by' : Nat} {z : Value} (H : VTy e k z by') (hT : Try.prog.underlying T = some (.slice e)) {w : World} {B : Nat} {a : Option Addr} {c : Nat} {ls : List (List Value)} (h : OwnV e k B a c ls w) (a2 : Option Addr) (c2 : Nat) (news : List (List Value)) (hw : VWide k news) (hr : VRow k w a2 news) (hn2 : a2 = none → news = []) (hl : ls.length + news.length ≤ 1000000) :
    ∃ a' c' w', (Builtin.append_ #[T, T] ty #[.slice a ls.length c, .slice a2 news.length c2]).run Try.prog w = .ok (.slice a' (ls.length + news.length) c') w' ∧ OwnV e k 0 a' c' (ls ++ news) w' ∧ Touch (fun b => a.map (·.block) = some b) w w' ∧ (∀ x, a' = some x → a.map (·.block) = some x.block ∨ w.heap.size ≤ x.block) := by
  obtain ⟨i0, hi, hz0, hz1, hz2⟩ := info_is H.info
  have hf1 := H.few.1
  have hf2 := H.few.2
  have hpos := H.pos
  cases a2 with
  | none =>
    have := hn2 rfl
    subst this
    have hrun : (Builtin.append_ #[T, T] ty #[.slice a ls.length c, .slice none 0 c2]).run Try.prog w = .ok (.slice a ls.length c) w := by
      rcases h.1.2 with ⟨h0, h1⟩ | ⟨g, cap, cur, h0, _, _, hnc, _⟩
      · rw [h0]
        simp [Builtin.append_, run_underlying hT, sizeOf, typeInfo, hi, Builtin.lenOf, Builtin.firstCells]
      · rw [h0]
        simp [Builtin.append_, run_underlying hT, sizeOf, typeInfo, hi, Builtin.lenOf, Builtin.firstCells, hnc, storeCells]
    exact ⟨a, c, w, by simpa using hrun, by rw [List.append_nil]; exact ⟨h.1, fun _ _ => Nat.zero_le _⟩, Touch.refl _ _, fun x hx => .inl (by rw [hx]; rfl)⟩
  | some x =>
    obtain ⟨v', w', hrun, ho, hg, hf⟩ := append_exact (P := Try.prog) w T ty e i0 z k by' hT hi hz0 hz1 hz2 H.cells H.pos (.slice a ls.length c) ls.length ls.flatten h.1 x news.length c2 news.flatten (vflat_len hw)
      (fun j u hu => by
        have hj : j < news.flatten.length := (List.getElem?_eq_some_iff.1 hu).1
        rw [vflat_len hw] at hj
        have hm0 : 0 < news.length := by
          rcases Nat.eq_zero_or_pos news.length with h | h
          · rw [h] at hj; simp at hj
          · exact h
        obtain ⟨g, off, e0, hc⟩ := hr hm0
        simp only [Option.some.injEq] at e0
        subst e0
        have hi' : j / k < news.length := Nat.div_lt_of_lt_mul (by rw [Nat.mul_comm]; exact hj)
        have hjm : j % k < k := Nat.mod_lt _ hpos
        have e1 := vflat_at hw (j / k) hi' (j % k) hjm
        rw [Nat.mul_comm, Nat.div_add_mod] at e1
        have e2 := hc (j / k) hi' (j % k) hjm
        rw [← e1, hu, Nat.add_assoc, Nat.mul_comm, Nat.div_add_mod] at e2
        exact add_cellR e2)
      (fun u hu => by
        obtain ⟨x, hx, hux⟩ := List.mem_flatten.1 hu
        exact (hw x hx).2 u hux)
      (by unfold maxLen; omega) (by have := Nat.mul_le_mul (show ls.length + news.length ≤ 1000000 from hl) hf2; omega)
    have hsh : ∃ a' c', v' = .slice a' (ls.length + news.length) c' := by
      rcases ho.2 with ⟨hv, h0⟩ | ⟨g', cap, cur, hv, -⟩
      · exact ⟨none, 0, by rw [hv, h0]⟩
      · exact ⟨_, cap, hv⟩
    obtain ⟨a', c', rfl⟩ := hsh
    refine ⟨a', c', w', hrun, ⟨?_, fun _ _ => Nat.zero_le _⟩, ?_, fun x hx => ?_⟩
    · rw [List.length_append, List.flatten_append]; exact ho
    · refine (touch_grown hg).mono fun b _ hb => ?_
      cases a with
      | none => simp [Value.ownBlock] at hb
      | some y => simpa [Value.ownBlock] using hb
    · subst hx
      rcases hf x.block (by simp [Value.ownBlock]) with e1 | e1
      · left
        cases a with
        | none => simp [Value.ownBlock] at e1
        | some y => simpa [Value.ownBlock] using e1
      · exact .inr e1
theorem newV_more {e T ty : TypeId} {k by' : Nat} {z : Value} (H : VTy e k z by') (hT : Try.prog.underlying T = some (.slice e)) {w w1 : World} {a1 : Option Addr} {c1 : Nat} {l m : List (List Value)} (h : NewV e k w a1 c1 l w1) (hw : VWide k m) (a : Option Addr) (c : Nat) (hr : VRow k w1 a m) (hn : a = none → m = []) (hl : l.length + m.length ≤ 1000000) :
    ∃ a' c' w', (Builtin.append_ #[T, T] ty #[.slice a1 l.length c1, .slice a m.length c]).run Try.prog w1 = .ok (.slice a' (l.length + m.length) c') w' ∧ NewV e k w a' c' (l ++ m) w' ∧ Touch (fun b => a1.map (·.block) = some b) w1 w' := by
  obtain ⟨a', c', w', h1, h2, h3, h4⟩ := own_appx (ty := ty) H hT h.1 a c m hw hr hn hl
  have hs := h.2.size
  refine ⟨a', c', w', h1, ⟨⟨h2.1, fun x hx => ?_⟩, h.2.trans (h3.below hs fun b hb e1 => ?_)⟩, h3⟩
  · rcases h4 x hx with e1 | e1
    · exact map_none (P := fun b => w.heap.size ≤ b) h.1.2 _ e1
    · omega
  · have := map_none (P := fun b => w.heap.size ≤ b) h.1.2 _ e1
    omega
theorem NewV.cap {e k : Nat} {w : World} {a : Option Addr} {c : Nat} {ls : List (List Value)} {w' : World} (h : NewV e k w a c ls w') : ls.length ≤ c ∧ c ≤ maxLen ∧ (a = Option.none → ls = []) := by
  rcases h.1.1.2 with ⟨hv, h0⟩ | ⟨g, cap, cur, hv, -, -, hnc, hcm, -⟩
  · simp only [Value.slice.injEq] at hv
    exact ⟨by omega, by rw [hv.2.2]; unfold maxLen; omega, fun _ => List.eq_nil_of_length_eq_zero h0⟩
  · simp only [Value.slice.injEq] at hv
    refine ⟨by rw [hv.2.2]; exact hnc, by rw [hv.2.2]; exact hcm, fun e0 => ?_⟩
    rw [hv.1] at e0; cases e0
/-- What the document's calls leave of a row: the one that came, or one of their own. -/
structure RNew (w : World) (a0 : Option Addr) (a : Option Addr) (c : Nat) (L : Its) (w' : World) : Prop where
  row : RRow w' a L
  nn : a = none → L = []
  cap : L.length ≤ c
  cmax : c ≤ maxLen
  fresh : a = a0 ∨ ∀ x, a = some x → w.heap.size ≤ x.block ∧ x.block < w'.heap.size
  bel : Below w.heap.size w w'
theorem NewV.rnew {w W : World} {a0 a : Option Addr} {c : Nat} {L : Its} {w' : World} (hb : Below w.heap.size w W) (h : NewV 39 2 W a c (L.map riC) w') : RNew w a0 a c L w' := by
  obtain ⟨h1, h2, h3⟩ := h.cap
  simp only [List.length_map] at h1
  refine ⟨h.1.row (ri_wide L), fun e => by simpa using h3 e, h1, h2, .inr fun x hx => ⟨?_, h.1.lt x hx⟩, hb.trans (h.2.mono hb.size)⟩
  have := h.1.2 x hx
  have := hb.size
  omega
theorem RNew.keep {w : World} {a0 a : Option Addr} {c : Nat} {L : Its} {w1 w2 : World} (h : RNew w a0 a c L w1) (hb : Below w1.heap.size w1 w2) : RNew w a0 a c L w2 :=
  ⟨h.row.below hb, h.nn, h.cap, h.cmax, h.fresh.imp id (fun g x hx => ⟨(g x hx).1, by have := (g x hx).2; have := hb.size; omega⟩), h.bel.trans (hb.mono h.bel.size)⟩
end Go.Proofs.Ytpilkaggiajjmaa
namespace Go.Proofs.Ytpilkaggiajjmaa
open Go.RowKit
set_option linter.unusedVariables false

section
variable {P : Program} (w : World)
theorem step_app_ex {ops : Array Oper} {o : Oper} {a : Act} {K : Act → World → Prop} {Q : Exit → Act → World → Prop} {E : Prop} (hgd : o.guard = none) (s x : Operand) (t u : TypeId)
    (ho : o.op = .call { callee := .builtin .append, args := #[s, x], argTypes := #[t, u] }) (v xv : Value) (hs : a.eval s = v) (hx : a.eval x = xv) (n : Nat) (R : Option Addr → Nat → World → Prop)
    (hr : ∃ a' c' w', (Builtin.append_ #[t, u] o.type #[v, xv]).run P w = .ok (.slice a' n c') w' ∧ R a' c' w') (h : ∀ a' c' w', R a' c' w' → K (a.put o.dst (.slice a' n c')) w') : if Region.wanted o (yielded ops a.tmps) = true then Oper.wp P o a w K Q else E := by
  obtain ⟨a', c', w', hrun, hR⟩ := hr
  exact step_append_run w hgd s x t u ho v xv hs hx (.slice a' n c') w' hrun (h a' c' w' hR)
end
theorem app13a {W0 Wc : World} {a : Option Addr} {c k : Nat} {L : Its} {ty : TypeId} (hmade : NewV 39 2 W0 (some ⟨k, 0, none⟩) 0 [] Wc) (hr : RRow W0 a L) (hn : a = none → L = []) (hl : L.length ≤ 1000) :
    ∃ a' c' w', (Builtin.append_ #[27, 27] ty #[.slice (some ⟨k, 0, none⟩) 0 0, .slice a L.length c]).run Try.prog Wc = .ok (.slice a' L.length c') w' ∧ (NewV 39 2 W0 a' c' (L.map riC) w' ∧ Touch (fun b => b = k) Wc w') := by
  obtain ⟨a', c', w', hrun, hnew, ht⟩ := newV_more (ty := ty) (T := 27) riTy Try.underlying27 hmade (ri_wide L) a c (hr.below hmade.2) (fun e => by rw [hn e]; rfl) (by simp; omega)
  rw [List.nil_append] at hnew
  rw [List.length_nil, Nat.zero_add, List.length_map] at hrun
  exact ⟨a', c', w', hrun, hnew, ht.mono fun b _ h => by simpa using h.symm⟩
theorem app13b {W0 Wc : World} {a1 a2 : Option Addr} {c1 c2 : Nat} {L M : Its} {ty : TypeId} (h : NewV 39 2 W0 a1 c1 (L.map riC) Wc) (hv : RRow Wc a2 M) (hn : a2 = none → M = []) (hl : L.length + M.length ≤ 1000) :
    ∃ a' c' w', (Builtin.append_ #[27, 27] ty #[.slice a1 L.length c1, .slice a2 M.length c2]).run Try.prog Wc = .ok (.slice a' (L.length + M.length) c') w' ∧ NewV 39 2 W0 a' c' ((L ++ M).map riC) w' := by
  obtain ⟨a', c', w', hrun, hnew, -⟩ := newV_more (ty := ty) (T := 27) riTy Try.underlying27 h (ri_wide M) a2 c2 hv (fun e => by rw [hn e]; rfl) (by simp; omega)
  rw [List.length_map, List.length_map] at hrun
  rw [← List.map_append] at hnew
  exact ⟨a', c', w', hrun, hnew⟩
theorem lit13 {X : World} {k : Nat} (n : Nat) (t : List UInt8) (ty : TypeId) (hk : k = X.heap.size) : RRow (X.alloc (.cells #[.int .i64 (n : Int), .string (bs t)] ty)) (some ⟨k, 0, none⟩) [(n, t)] := by
  subst hk
  intro _
  refine ⟨_, _, rfl, fun i hi j hj => ?_⟩
  obtain rfl : i = 0 := by simpa using hi
  have : j = 0 ∨ j = 1 := by omega
  rcases this with rfl | rfl <;> simp [riC]
theorem RRow.drew {w : World} {a : Option Addr} {l : Its} (h : RRow w a l) : RRow w.drew a l := h
theorem k2b13 {W0 w' : World} (hb : Below W0.heap.size W0 w') {T : Nat} {t0 t1 : Value} (h : W0.cell? ⟨T, 0, none⟩ = some t0 ∧ W0.cell? ⟨T, 1, none⟩ = some t1) : w'.cell? ⟨T, 0, none⟩ = some t0 ∧ w'.cell? ⟨T, 1, none⟩ = some t1 :=
  ⟨(hb.cell (p := ⟨T, 0, none⟩) (block_lt_of_cell h.1)).trans h.1, (hb.cell (p := ⟨T, 1, none⟩) (block_lt_of_cell h.2)).trans h.2⟩
theorem set2_touch (w : World) (R : Nat) (x y : Value) : Touch (fun b => b = R) w ((w.setCell ⟨R, 0, none⟩ x).setCell ⟨R, 1, none⟩ y) :=
  ((Touch.refl (fun b => b = R) w).setCell (p := ⟨R, 0, none⟩) (fun _ => rfl) _).setCell (p := ⟨R, 1, none⟩) (fun _ => rfl) _
theorem k2s13 {w : World} {T R : Nat} {t0 t1 x y : Value} (hT : T ≠ R) (h : w.cell? ⟨T, 0, none⟩ = some t0 ∧ w.cell? ⟨T, 1, none⟩ = some t1) : ((w.setCell ⟨R, 0, none⟩ x).setCell ⟨R, 1, none⟩ y).cell? ⟨T, 0, none⟩ = some t0 ∧ ((w.setCell ⟨R, 0, none⟩ x).setCell ⟨R, 1, none⟩ y).cell? ⟨T, 1, none⟩ = some t1 :=
  ⟨((set2_touch w R x y).cell (p := ⟨T, 0, none⟩) (block_lt_of_cell h.1) hT).trans h.1, ((set2_touch w R x y).cell (p := ⟨T, 1, none⟩) (block_lt_of_cell h.2) hT).trans h.2⟩
/-- What is stored into a block of the call's own changes nothing of a row. -/
theorem RNew.set2 {w : World} {a0 a : Option Addr} {c : Nat} {L : Its} {w1 : World} (h : RNew w a0 a c L w1) {R : Nat} (hR : w.heap.size ≤ R) (ha : ∀ x, a = some x → x.block ≠ R) (x y : Value) : RNew w a0 a c L ((w1.setCell ⟨R, 0, none⟩ x).setCell ⟨R, 1, none⟩ y) := by
  have ht := set2_touch w1 R x y
  refine ⟨h.row.touch ht ha, h.nn, h.cap, h.cmax, h.fresh.imp id (fun g x hx => ⟨(g x hx).1, by have := (g x hx).2; have := ht.size; omega⟩), h.bel.trans (ht.below h.bel.size fun k hk e => by omega)⟩
def R13Post (w : World) (a0 : Option Addr) (n : Nat) (L : Its) (q : Value) (r : Ending) (w' : World) : Prop :=
  ∃ a c, r = .returned (.tuple #[.agg #[.int .i64 (n : Int), .slice a L.length c], q]) ∧ RNew w a0 a c L w'
set_option maxRecDepth 100000 in
set_option maxHeartbeats 2000000 in
theorem ref13Push_no (a : Option Addr) (c n : Nat) (p : Nat × List UInt8) (l' : Its) (t : List UInt8) (w : World) (hl : l'.length ≤ 900) (hn : n ≤ 10000) (hr : RRow w a (p :: l')) (hc : l'.length + 1 ≤ c ∧ c ≤ maxLen) (hf : 32 ≤ n - p.1) :
    Calls Try.prog 18 #[.agg #[.int .i64 (n : Int), .slice a (l'.length + 1) c], .string (bs t)] w (R13Post w a n (p :: l') (.bool false)) := by
  have HR := Lib.hid hr
  obtain ⟨g, off, rfl, hg, c0, -⟩ := hr.at (k := 0) (by simp)
  simp only [List.getElem_cons_zero, Nat.zero_mul, Nat.add_zero] at c0
  have hA : Below w.heap.size w ((w.alloc (.cells #[.int .i64 (n : Int), .slice (some ⟨g, off, none⟩) (l'.length + 1) c] 29)).alloc (.cells #[.int .i64 0, .slice none 0 0] 29)) := bel_alloc (bel_alloc (Below.refl _ _) _) _
  have d0 := (hA.cell (p := ⟨g, off, none⟩) hg).trans c0
  have hgl : g < ((w.alloc (.cells #[.int .i64 (n : Int), .slice (some ⟨g, off, none⟩) (l'.length + 1) c] 29)).alloc (.cells #[.int .i64 0, .slice none 0 0] 29)).heap.size := block_lt_of_cell d0
  have hpos : decide ((0 : Int) < (l'.length : Int) + 1) = true := decide_eq_true (by omega)
  have hpos2 : (0 : Int) < (l'.length : Int) + 1 := by omega
  have hw1 : IntKind.i64.wrap ((n : Int) - (p.1 : Int)) = (n : Int) - (p.1 : Int) := by rw [IntKind.wrap_i64]; omega
  have hd : decide ((32 : Int) ≤ (n : Int) - (p.1 : Int)) = true := decide_eq_true (by omega)
  have HF : Hid (∀ nq x y, R13Post w (some ⟨g, off, none⟩) n (p :: l') (.bool false) (.returned (.tuple #[.agg #[.int .i64 (n : Int), .slice (some ⟨g, off, none⟩) (l'.length + 1) c], .bool false])) (((((w.alloc (.cells #[.int .i64 (n : Int), .slice (some ⟨g, off, none⟩) (l'.length + 1) c] 29)).alloc (.cells #[.int .i64 0, .slice none 0 0] 29)).drewN nq).setCell ⟨w.heap.size + 1, 0, none⟩ x).setCell ⟨w.heap.size + 1, 1, none⟩ y)) := Lib.hid (fun nq x y => by
    refine ⟨some ⟨g, off, none⟩, c, rfl, ?_⟩
    refine RNew.set2 (w1 := ((w.alloc (.cells #[.int .i64 (n : Int), .slice (some ⟨g, off, none⟩) (l'.length + 1) c] 29)).alloc (.cells #[.int .i64 0, .slice none 0 0] 29)).drewN nq) ?_ (by omega) (fun x hx => by cases hx; simp only; omega) x y
    have hB := hA.trans ((drewN_bel _ nq).mono hA.size)
    exact ⟨HR.out.below hB, (fun e => by cases e), by simpa using hc.1, hc.2, .inl rfl, hB⟩)
  generalize hpost : R13Post w (some ⟨g, off, none⟩) n (p :: l') (.bool false) = Post at HF
  clear hr c0 hA hpost
  go_enter Try.func18, Try.ntmps18
  go_upto_region 1 with (fail)
  go_quiet (fail)
  go_wp2
  exact bodyPost_ret (v := .tuple #[.agg #[.int .i64 (n : Int), .slice (some ⟨g, off, none⟩) (l'.length + 1) c], .bool false]) (by simp [results, Try.results18, go_sem]) rfl (HF.out _ _ _)
theorem push13_fin {w W0 w5 : World} {a0 a : Option Addr} {c n R : Nat} {L : Its} (hb : Below w.heap.size w W0) (hR : w.heap.size ≤ R) (hR2 : R < W0.heap.size) (h : NewV 39 2 W0 a c (L.map riC) w5) (k : Nat) (hk : L.length = k) (q : Value) (x y : Value) : R13Post w a0 n L q (.returned (.tuple #[.agg #[.int .i64 (n : Int), .slice a k c], q])) ((w5.setCell ⟨R, 0, none⟩ x).setCell ⟨R, 1, none⟩ y) := by
  subst hk
  exact ⟨a, c, rfl, (h.rnew hb).set2 hR (fun z hz => by have := h.1.2 z hz; omega) x y⟩
theorem frozen_new13 (W : World) (n : Nat) (h : n = W.heap.size) (cs : Array Value) (t : TypeId) (j : Nat) : (W.alloc (.cells cs t)).frozen? ⟨n, j, none⟩ = false := by subst h; exact frozen_new _ _ _ _
/-- What came, at T; the answer's box, at T + 1. -/
structure Pu13 (w : World) (n N : Nat) (a : Option Addr) (c : Nat) (wx : World) : Prop where
  t0 : wx.cell? ⟨w.heap.size, 0, none⟩ = some (.int .i64 (n : Int))
  t1 : wx.cell? ⟨w.heap.size, 1, none⟩ = some (.slice a N c)
  r0 : wx.cell? ⟨w.heap.size + 1, 0, none⟩ = some (.int .i64 0)
  r1 : wx.cell? ⟨w.heap.size + 1, 1, none⟩ = some (.slice none 0 0)
  z0 : wx.frozen? ⟨w.heap.size + 1, 0, none⟩ = false
  z1 : wx.frozen? ⟨w.heap.size + 1, 1, none⟩ = false
  bel : Below w.heap.size w wx
theorem pu13 (w : World) (n N : Nat) (a : Option Addr) (c nq : Nat) (y1 y2 : TypeId) : Pu13 w n N a c (((w.alloc (.cells #[.int .i64 (n : Int), .slice a N c] y1)).alloc (.cells #[.int .i64 0, .slice none 0 0] y2)).drewN nq) := by
  have hA : Below w.heap.size w ((w.alloc (.cells #[.int .i64 (n : Int), .slice a N c] y1)).alloc (.cells #[.int .i64 0, .slice none 0 0] y2)) := bel_alloc (bel_alloc (Below.refl _ _) _) _
  refine ⟨?_, ?_, ?_, ?_, ?_, ?_, hA.trans ((drewN_bel _ nq).mono hA.size)⟩
  · exact alloc_cell (new_cell rfl rfl) _
  · exact alloc_cell (new_cell rfl rfl) _
  · exact new_cell (by simp) rfl
  · exact new_cell (by simp) rfl
  · exact frozen_new13 _ _ (by simp) _ _ _
  · exact frozen_new13 _ _ (by simp) _ _ _
set_option maxRecDepth 100000 in
set_option maxHeartbeats 4000000 in
theorem ref13Push_yes (a : Option Addr) (c n : Nat) (L : Its) (t : List UInt8) (w : World) (hl : L.length ≤ 900) (hn : n ≤ 10000) (hr : RRow w a L) (hnn : a = none → L = []) (hlt : ∀ p ∈ L, p.1 < n) (hf : roomR n L) :
    Calls Try.prog 18 #[.agg #[.int .i64 (n : Int), .slice a L.length c], .string (bs t)] w (R13Post w a (n + 1) (L ++ [(n, t)]) (.bool true)) := by
  have HR := Lib.hid hr
  have HN := Lib.hid hnn
  have hwn : IntKind.i64.wrap ((n : Int) + 1) = (n : Int) + 1 := by rw [IntKind.wrap_i64]; omega
  have hcs : (L.length = 0) ∨ ∃ g off m p1 : Nat, a = some ⟨g, off, none⟩ ∧ g < w.heap.size ∧ w.cell? ⟨g, off, none⟩ = some (.int .i64 (p1 : Int)) ∧ L.length = m + 1 ∧ n - p1 < 32 ∧ p1 < n := by
    rcases hf with rfl | ⟨p, l', rfl, hp⟩
    · exact .inl rfl
    · obtain ⟨g, off, rfl, hg, c0, -⟩ := hr.at (k := 0) (by simp)
      simp only [List.getElem_cons_zero, Nat.zero_mul, Nat.add_zero] at c0
      exact .inr ⟨g, off, l'.length, p.1, rfl, hg, c0, rfl, hp, hlt p (by simp)⟩
  generalize hNL : L.length = N at hcs hl ⊢
  have HNL := Lib.hid hNL
  have HCS := Lib.hid hcs
  clear hr hnn hf hlt hNL hcs
  have hbA : ∀ o1 o2, Below w.heap.size w ((w.alloc o1).alloc o2) := fun o1 o2 => bel_alloc (bel_alloc (Below.refl _ _) _) _
  have HBA := Lib.hid hbA
  generalize hpost : R13Post w a (n + 1) (L ++ [(n, t)]) (.bool true) = Post
  have HPost := Lib.hid hpost
  clear hbA hpost
  go_enter Try.func18, Try.ntmps18
  go_upto_region 1 with (fail)
  go_cut [20] (fun v20 wx => v20 = .bool false ∧ Hid (Pu13 w n N a c wx))
  case first =>
    rcases HCS.out with rfl | ⟨g, off, m, p1, rfl, hg, c0, rfl, hp, hpn⟩
    · go_quiet (fail)
      go_wp2_with fail
      go_meet
      exact ⟨rfl, Lib.hid (pu13 _ _ _ _ _ _ _ _)⟩
    · have d0 := ((HBA.out (.cells #[.int .i64 (n : Int), .slice (some ⟨g, off, none⟩) (m + 1) c] 29) (.cells #[.int .i64 0, .slice none 0 0] 29)).cell (p := ⟨g, off, none⟩) hg).trans c0
      have hgl := block_lt_of_cell d0
      simp only at hgl
      have hpos : decide ((0 : Int) < (m : Int) + 1) = true := decide_eq_true (by omega)
      have hpos2 : (0 : Int) < (m : Int) + 1 := by omega
      have hw1 : IntKind.i64.wrap ((n : Int) - (p1 : Int)) = (n : Int) - (p1 : Int) := by rw [IntKind.wrap_i64]; omega
      have hd : decide ((32 : Int) ≤ (n : Int) - (p1 : Int)) = false := by simp; omega
      go_quiet (fail)
      go_wp2_with fail
      go_meet
      exact ⟨rfl, Lib.hid (pu13 _ _ _ _ _ _ _ _)⟩
  case rest =>
    obtain ⟨rfl, HP⟩ := hcut
    go_upto_region 3 with (fail)
    have HRW := Lib.hid (HR.out.below HP.out.bel)
    have t0 := HP.out.t0
    have t1 := HP.out.t1
    have r0 := HP.out.r0
    have r1 := HP.out.r1
    have z0 := HP.out.z0
    have z1 := HP.out.z1
    have HWB := Lib.hid HP.out.bel
    have hRb : w.heap.size + 1 < wc.heap.size := block_lt_of_cell r0
    have hTb : w.heap.size < wc.heap.size := block_lt_of_cell t0
    have hR0 : w.heap.size ≤ w.heap.size + 1 := by omega
    have hTR : w.heap.size ≠ w.heap.size + 1 := by omega
    clear HP HCS HBA HR
    generalize wc = W0 at t0 t1 r0 r1 z0 z1 hRb hTb HWB HRW ⊢
    generalize hRR : w.heap.size + 1 = R at r0 r1 z0 z1 hRb hR0 hTR ⊢
    clear hRR
    generalize hTT : w.heap.size = T at t0 t1 hTb hTR hR0 ⊢
    have HTT := Lib.hid hTT
    clear hTT
    have HNL' : Hid (N = L.length) := Lib.hid HNL.out.symm
    go_region_held3 (fun w' => w'.cell? ⟨T, 0, none⟩ = some (.int .i64 (n : Int)) ∧ w'.cell? ⟨T, 1, none⟩ = some (.slice a N c))
      (first | (refine k2s13 hTR ?_; exact k2b13 (W0 := W0) HN5.out.2 ⟨t0, t1⟩) | exact k2b13 (W0 := W0) (by repeat' (first | exact Below.refl _ _ | exact HN5.out.2 | exact HN4.out.2 | refine Below.drew ?_ | refine bel_alloc ?_ _)) ⟨t0, t1⟩)
      (first
        | (refine step_app_ex _ rfl (.tmp 25) (.tmp 27) 27 27 rfl _ _ (by rfl) (by rfl) N _ (by rw [HNL'.out]; exact app13a (W0 := W0) (by first | exact (NewV.made _ _ (by repeat' (first | exact Below.refl _ _ | refine Below.drew ?_ | refine bel_alloc ?_ _)) _ (by first | rfl | (simp; done))).drew | exact ((NewV.made _ _ (by repeat' (first | exact Below.refl _ _ | refine Below.drew ?_ | refine bel_alloc ?_ _)) _ (by first | rfl | (simp; done))).keep (bel_alloc (Below.refl _ _) _)).drew) HRW.out HN.out (by have := HNL.out; omega)) ?_; rintro a4 c4 w4 ⟨hn4, ht4⟩; have HN4 := Lib.hid hn4; have HT4 := Lib.hid ht4; clear hn4 ht4)
        | (refine step_app_ex _ rfl (.tmp 28) (.tmp 33) 27 27 rfl _ _ (by rfl) (by rfl) (N + 1) _ (by rw [HNL'.out]; exact app13b (W0 := W0) (M := [(n, t)]) (by first | exact HN4.out | exact HN4.out.keep (bel_alloc (Below.refl _ _) _)) (by first | exact lit13 n t _ (by first | rfl | (simp; done)) | exact RRow.touch (RRow.drew (lit13 n t _ (by first | rfl | (simp; done)))) HT4.out (fun x hx => by cases hx; first | omega | (simp; done) | (simp; omega)) | exact RRow.touch (RRow.drew (RRow.below (lit13 n t _ (by first | rfl | (simp; done))) (bel_alloc (Below.refl _ _) _))) HT4.out (fun x hx => by cases hx; first | omega | (simp; done) | (simp; omega))) (fun h => by cases h) (by have := HNL.out; simp; omega)) ?_; rintro a5 c5 w5 hn5; have HN5 := Lib.hid hn5; have rr0 := (hn5.2.cell (p := ⟨R, 0, none⟩) hRb).trans r0; have rr1 := (hn5.2.cell (p := ⟨R, 1, none⟩) hRb).trans r1; have zz0 := (hn5.2.frozen (p := ⟨R, 0, none⟩) hRb).trans z0; have zz1 := (hn5.2.frozen (p := ⟨R, 1, none⟩) hRb).trans z1; clear hn5))
    all_goals
      have HFIN := Lib.hid (push13_fin (w := w) (a0 := a) (n := n + 1) HWB.out (by rw [HTT.out]; exact hR0) hRb HN5.out (N + 1) (by have := HNL.out; simp; omega) (.bool true) (.int .i64 ((n : Int) + 1)) (.slice a5 (N + 1) c5))
      rw [HPost.out] at HFIN
      clear HN4 HT4 HN5
      go_wp2
      exact bodyPost_ret (v := .tuple #[.agg #[.int .i64 ((n : Int) + 1), .slice a5 (N + 1) c5], .bool true]) (by simp [results, Try.results18, go_sem, rr0, rr1]) rfl HFIN.out
end Go.Proofs.Ytpilkaggiajjmaa
namespace Go.Proofs.Ytpilkaggiajjmaa
open Go.RowKit
set_option linter.unusedVariables false

theorem i64Ty : VTy 3 1 (.int .i64 0) 8 := ⟨by kernel_rfl, rfl, by decide, by decide⟩
def i64C (n : Nat) : List Value := [.int .i64 (n : Int)]
theorem i64_wide (l : List Nat) : VWide 1 (l.map i64C) := by
  intro x hx
  obtain ⟨p, -, rfl⟩ := List.mem_map.1 hx
  exact ⟨rfl, fun u hu => by simp only [i64C, List.mem_singleton] at hu; subst hu; rfl⟩
theorem gone_snoc (A B : Nat) (l : Its) (p : Nat × List UInt8) : goneR A B (l ++ [p]) = goneR A B l ++ (if hasR A B p.1 = true then [p.1] else []) := by
  unfold goneR
  rw [List.filter_append, List.map_append]
  congr 1
  by_cases h : hasR A B p.1 = true <;> simp [h]
theorem left_snoc (A B : Nat) (l : Its) (p : Nat × List UInt8) : leftR A B (l ++ [p]) = leftR A B l ++ (if hasR A B p.1 = true then [] else [p]) := by
  unfold leftR
  rw [List.filter_append]
  congr 1
  by_cases h : hasR A B p.1 = true <;> simp [h]
theorem gone_len (A B : Nat) (l : Its) : (goneR A B l).length ≤ l.length ∧ (leftR A B l).length ≤ l.length :=
  ⟨by unfold goneR; rw [List.length_map]; exact List.length_filter_le _ _, List.length_filter_le _ _⟩
/-- What is gone, what is left (its box at O), the answer's box at R. -/
structure Ac13 (w : World) (O R n : Nat) (a1 : Option Addr) (c1 : Nat) (gone : List Nat) (a2 : Option Addr) (c2 : Nat) (rest : Its) (wr : World) : Prop where
  two : Two 3 1 39 2 w a1 c1 (gone.map i64C) a2 c2 (rest.map riC) wr
  o0 : wr.cell? ⟨O, 0, none⟩ = some (.int .i64 (n : Int))
  o1 : wr.cell? ⟨O, 1, none⟩ = some (.slice a2 rest.length c2)
  f1 : wr.frozen? ⟨O, 1, none⟩ = false
  r0 : ∃ v, wr.cell? ⟨R, 0, none⟩ = some v
  r1 : ∃ v, wr.cell? ⟨R, 1, none⟩ = some v
  z0 : wr.frozen? ⟨R, 0, none⟩ = false
  z1 : wr.frozen? ⟨R, 1, none⟩ = false
  hO : w.heap.size ≤ O
  hR : w.heap.size ≤ R
  ne : O ≠ R
  n1 : ∀ x, a1 = some x → x.block ≠ O ∧ x.block ≠ R
  n2 : ∀ x, a2 = some x → x.block ≠ O ∧ x.block ≠ R
theorem Ac13.lt {w : World} {O R n : Nat} {a1 : Option Addr} {c1 : Nat} {gone : List Nat} {a2 : Option Addr} {c2 : Nat} {rest : Its} {wr : World} (h : Ac13 w O R n a1 c1 gone a2 c2 rest wr) : O < wr.heap.size ∧ R < wr.heap.size := by
  obtain ⟨v, hv⟩ := h.r0
  exact ⟨block_lt_of_cell h.o0, block_lt_of_cell hv⟩
theorem Ac13.keep {w : World} {O R n : Nat} {a1 : Option Addr} {c1 : Nat} {gone : List Nat} {a2 : Option Addr} {c2 : Nat} {rest : Its} {wr w' : World} (h : Ac13 w O R n a1 c1 gone a2 c2 rest wr) (hb : Below wr.heap.size wr w') : Ac13 w O R n a1 c1 gone a2 c2 rest w' := by
  obtain ⟨hO, hR⟩ := h.lt
  obtain ⟨v0, g0⟩ := h.r0
  obtain ⟨v1, g1⟩ := h.r1
  exact ⟨h.two.keep hb, (hb.cell (p := ⟨O, 0, none⟩) hO).trans h.o0, (hb.cell (p := ⟨O, 1, none⟩) hO).trans h.o1, (hb.frozen (p := ⟨O, 1, none⟩) hO).trans h.f1, ⟨v0, (hb.cell (p := ⟨R, 0, none⟩) hR).trans g0⟩, ⟨v1, (hb.cell (p := ⟨R, 1, none⟩) hR).trans g1⟩, (hb.frozen (p := ⟨R, 0, none⟩) hR).trans h.z0, (hb.frozen (p := ⟨R, 1, none⟩) hR).trans h.z1, h.hO, h.hR, h.ne, h.n1, h.n2⟩
theorem Ac13.first {w : World} {O R n : Nat} {a1 a' : Option Addr} {c1 c' : Nat} {gone gone' : List Nat} {a2 : Option Addr} {c2 : Nat} {rest : Its} {wr w' : World} (h : Ac13 w O R n a1 c1 gone a2 c2 rest wr) (ho : OwnV 3 1 0 a' c' (gone'.map i64C) w') (ht : Touch (fun k => a1.map (·.block) = some k) wr w') (hn : ∀ x, a' = some x → a1.map (·.block) = some x.block ∨ wr.heap.size ≤ x.block) : Ac13 w O R n a' c' gone' a2 c2 rest w' := by
  obtain ⟨hO, hR⟩ := h.lt
  obtain ⟨v0, g0⟩ := h.r0
  obtain ⟨v1, g1⟩ := h.r1
  have sO : ¬ a1.map (·.block) = some O := fun e => map_none (P := fun k => k ≠ O) (fun x hx => (h.n1 x hx).1) _ e rfl
  have sR : ¬ a1.map (·.block) = some R := fun e => map_none (P := fun k => k ≠ R) (fun x hx => (h.n1 x hx).2) _ e rfl
  refine ⟨h.two.first ho ht hn, (ht.cell (p := ⟨O, 0, none⟩) hO sO).trans h.o0, (ht.cell (p := ⟨O, 1, none⟩) hO sO).trans h.o1, (ht.frozen (p := ⟨O, 1, none⟩) hO sO).trans h.f1, ⟨v0, (ht.cell (p := ⟨R, 0, none⟩) hR sR).trans g0⟩, ⟨v1, (ht.cell (p := ⟨R, 1, none⟩) hR sR).trans g1⟩, (ht.frozen (p := ⟨R, 0, none⟩) hR sR).trans h.z0, (ht.frozen (p := ⟨R, 1, none⟩) hR sR).trans h.z1, h.hO, h.hR, h.ne, fun x hx => ?_, h.n2⟩
  rcases hn x hx with e | e
  · exact map_none (P := fun k => k ≠ O ∧ k ≠ R) h.n1 _ e
  · exact ⟨by omega, by omega⟩
theorem Ac13.second {w : World} {O R n : Nat} {a1 : Option Addr} {c1 : Nat} {gone : List Nat} {a2 a' : Option Addr} {c2 c' : Nat} {rest rest' : Its} {wr w' : World} (h : Ac13 w O R n a1 c1 gone a2 c2 rest wr) (ho : OwnV 39 2 0 a' c' (rest'.map riC) w') (ht : Touch (fun k => a2.map (·.block) = some k) wr w') (hn : ∀ x, a' = some x → a2.map (·.block) = some x.block ∨ wr.heap.size ≤ x.block) (k : Nat) (hk : rest'.length = k) :
    w'.cell? ⟨O, 1, none⟩ = some (.slice a2 rest.length c2) ∧ w'.frozen? ⟨O, 1, none⟩ = false ∧ O < w'.heap.size ∧ Ac13 w O R n a1 c1 gone a' c' rest' (w'.setCell ⟨O, 1, none⟩ (.slice a' k c')) := by
  subst hk
  obtain ⟨hO, hR⟩ := h.lt
  obtain ⟨v0, g0⟩ := h.r0
  obtain ⟨v1, g1⟩ := h.r1
  have sO : ¬ a2.map (·.block) = some O := fun e => map_none (P := fun k => k ≠ O) (fun x hx => (h.n2 x hx).1) _ e rfl
  have sR : ¬ a2.map (·.block) = some R := fun e => map_none (P := fun k => k ≠ R) (fun x hx => (h.n2 x hx).2) _ e rfl
  have q0 := (ht.cell (p := ⟨O, 0, none⟩) hO sO).trans h.o0
  have q1 := (ht.cell (p := ⟨O, 1, none⟩) hO sO).trans h.o1
  have qf := (ht.frozen (p := ⟨O, 1, none⟩) hO sO).trans h.f1
  have hn' : ∀ x, a' = some x → x.block ≠ O ∧ x.block ≠ R := fun x hx => by
    rcases hn x hx with e | e
    · exact map_none (P := fun k => k ≠ O ∧ k ≠ R) h.n2 _ e
    · exact ⟨by omega, by omega⟩
  have ht2 : Touch (fun j => j = O) w' (w'.setCell ⟨O, 1, none⟩ (.slice a' rest'.length c')) := (Touch.refl (fun j => j = O) w').setCell (p := ⟨O, 1, none⟩) (fun _ => rfl) _
  have h2 := h.two.second ho ht hn
  have hRl : R < w'.heap.size := by have := ht.size; omega
  have hRO : ¬ (fun j => j = O) R := fun e => h.ne e.symm
  refine ⟨q1, qf, by have := ht.size; omega, ⟨h2.r1.touch ht2 (fun x hx => (h.n1 x hx).1), h2.r2.touch ht2 (fun x hx => (hn' x hx).1), h2.n1, h2.n2, h2.dj, h2.bel.trans (ht2.below h2.bel.size fun k hk e => by have := h.hO; omega)⟩, (World.cell?_setCell_other _ _ _ _ (by simp)).trans q0, World.cell?_setCell_same _ _ _ q1, by simpa using qf, ⟨v0, ?_⟩, ⟨v1, ?_⟩, ?_, ?_, h.hO, h.hR, h.ne, h.n1, hn'⟩
  · exact ((ht2.cell (p := ⟨R, 0, none⟩) hRl hRO).trans (ht.cell (p := ⟨R, 0, none⟩) hR sR)).trans g0
  · exact ((ht2.cell (p := ⟨R, 1, none⟩) hRl hRO).trans (ht.cell (p := ⟨R, 1, none⟩) hR sR)).trans g1
  · exact ((ht2.frozen (p := ⟨R, 0, none⟩) hRl hRO).trans (ht.frozen (p := ⟨R, 0, none⟩) hR sR)).trans h.z0
  · exact ((ht2.frozen (p := ⟨R, 1, none⟩) hRl hRO).trans (ht.frozen (p := ⟨R, 1, none⟩) hR sR)).trans h.z1
def A13Post (w : World) (a0 : Option Addr) (n : Nat) (rest : Its) (gone : List Nat) (r : Ending) (w' : World) : Prop :=
  ∃ a c a1 c1, r = .returned (.tuple #[.agg #[.int .i64 (n : Int), .slice a rest.length c], .slice a1 gone.length c1]) ∧ RNew w a0 a c rest w' ∧ VRow 1 w' a1 (gone.map i64C) ∧ (∀ x, a1 = some x → w.heap.size ≤ x.block)
theorem Ac13.fin {w : World} {O R n : Nat} {a1 : Option Addr} {c1 : Nat} {gone : List Nat} {a2 : Option Addr} {c2 : Nat} {rest : Its} {wr : World} (h : Ac13 w O R n a1 c1 gone a2 c2 rest wr) (a0 : Option Addr) (k1 k2 : Nat) (h1 : gone.length = k1) (h2 : rest.length = k2) (x y : Value) : A13Post w a0 n rest gone (.returned (.tuple #[.agg #[.int .i64 (n : Int), .slice a2 k2 c2], .slice a1 k1 c1])) ((wr.setCell ⟨R, 0, none⟩ x).setCell ⟨R, 1, none⟩ y) := by
  subst h1 h2
  have hN : NewV 39 2 w a2 c2 (rest.map riC) wr := ⟨⟨h.two.r2.1, h.two.n2⟩, h.two.bel⟩
  exact ⟨a2, c2, a1, c1, rfl, (hN.rnew (Below.refl _ _)).set2 h.hR (fun x hx => (h.n2 x hx).2) x y, (h.two.r1.row (i64_wide gone)).touch (by decide) (i64_wide gone) (set2_touch wr R x y) (fun x hx => (h.n1 x hx).2), h.two.n1⟩
set_option maxRecDepth 100000 in
set_option maxHeartbeats 4000000 in
theorem ref13Ack_no (a : Option Addr) (c n A B : Nat) (L : Its) (w : World) (hn : n ≤ 10000) (hA : n < A) (hr : RRow w a L) (hnn : a = none → L = []) (hc : L.length ≤ c ∧ c ≤ maxLen) :
    Calls Try.prog 20 #[.agg #[.int .i64 (n : Int), .slice a L.length c], .int .i64 (A : Int), .int .u32 (B : Int)] w (A13Post w a n L []) := by
  have hAi : (n : Int) < (A : Int) := by omega
  have HF : Hid (∀ o1 o2, A13Post w a n L [] (.returned (.tuple #[.agg #[.int .i64 (n : Int), .slice a L.length c], .slice none 0 0])) ((w.alloc o1).alloc o2)) := Lib.hid (fun o1 o2 => by
    have hB : Below w.heap.size w ((w.alloc o1).alloc o2) := bel_alloc (bel_alloc (Below.refl _ _) _) _
    exact ⟨a, c, none, 0, rfl, ⟨hr.below hB, hnn, hc.1, hc.2, .inl rfl, hB⟩, (fun h => by simp at h), (fun x hx => by cases hx)⟩)
  generalize A13Post w a n L [] = Post at HF ⊢
  clear hr hnn
  go_enter Try.func20, Try.ntmps20
  go_wp2
  exact bodyPost_ret (v := .tuple #[.agg #[.int .i64 (n : Int), .slice a L.length c], .slice none 0 0]) (by simp [results, Try.results20, go_sem]) rfl (HF.out _ _)
set_option maxRecDepth 100000 in
set_option maxHeartbeats 4000000 in
theorem ref13Ack_yes (a : Option Addr) (c n A B : Nat) (L : Its) (w : World) (hl : L.length ≤ 900) (hn : n ≤ 10000) (hA : A ≤ n) (hB : B < 4294967296) (hlt : ∀ p ∈ L, p.1 < 2147483648) (hr : RRow w a L) :
    Calls Try.prog 20 #[.agg #[.int .i64 (n : Int), .slice a L.length c], .int .i64 (A : Int), .int .u32 (B : Int)] w (A13Post w a n (leftR A B L) (goneR A B L)) := by
  have HR := Lib.hid hr
  have HLT := Lib.hid hlt
  have hAi : (A : Int) ≤ (n : Int) := by omega
  have hdn : decide (n < A) = false := decide_eq_false (by omega)
  have HA : Hid (A < 2147483648) := Lib.hid (by omega)
  have HM0 : Hid (Ac13 w (w.heap.size + 1 + 1) (w.heap.size + 1) n (some ⟨w.heap.size + 1 + 1 + 1, 0, none⟩) 0 [] none 0 [] ((((w.alloc (.cells #[.int .i64 (n : Int), .slice a L.length c] 29)).alloc (.cells #[.int .i64 0, .slice none 0 0] 29)).alloc (.cells #[.int .i64 (n : Int), .slice none 0 0] 29)).alloc (.cells #[] 3))) := Lib.hid (by
    have hB : Below w.heap.size w (((w.alloc (.cells #[.int .i64 (n : Int), .slice a L.length c] 29)).alloc (.cells #[.int .i64 0, .slice none 0 0] 29)).alloc (.cells #[.int .i64 (n : Int), .slice none 0 0] 29)) := bel_alloc (bel_alloc (bel_alloc (Below.refl _ _) _) _) _
    have hN := NewV.made 3 1 hB (w.heap.size + 1 + 1 + 1) (by simp)
    refine ⟨⟨⟨hN.1.1, fun _ _ => Nat.zero_le _⟩, ⟨World.ownsRow_nil _ _ _ _, (fun x hx => by cases hx)⟩, hN.1.2, (fun x hx => by cases hx), (fun x y hx hy => by cases hy), hN.2⟩, ?_, ?_, ?_, ⟨.int .i64 0, ?_⟩, ⟨.slice none 0 0, ?_⟩, ?_, ?_, by omega, by omega, by omega, (fun x hx => by cases hx; simp only; omega), (fun x hx => by cases hx)⟩
    · exact alloc_cell (new_cell (by simp) rfl) _
    · exact alloc_cell (new_cell (by simp) rfl) _
    · exact (frozen_old _ _ _ (by simp)).trans (frozen_new13 _ _ (by simp) _ _ _)
    · exact alloc_cell (alloc_cell (new_cell (by simp) rfl) _) _
    · exact alloc_cell (alloc_cell (new_cell (by simp) rfl) _) _
    · exact (frozen_old _ _ _ (by simp)).trans ((frozen_old _ _ _ (by simp)).trans (frozen_new13 _ _ (by simp) _ _ _))
    · exact (frozen_old _ _ _ (by simp)).trans ((frozen_old _ _ _ (by simp)).trans (frozen_new13 _ _ (by simp) _ _ _)))
  generalize hpost : A13Post w a n (leftR A B L) (goneR A B L) = Post
  have HPost := Lib.hid hpost
  clear hr hlt hA hpost
  go_enter Try.func20, Try.ntmps20
  go_wp2
  generalize (((w.alloc (.cells #[.int .i64 (n : Int), .slice a L.length c] 29)).alloc (.cells #[.int .i64 0, .slice none 0 0] 29)).alloc (.cells #[.int .i64 (n : Int), .slice none 0 0] 29)).alloc (.cells #[] 3) = W1 at HM0 ⊢
  generalize w.heap.size + 1 + 1 + 1 = g1 at HM0 ⊢
  generalize w.heap.size + 1 + 1 = O at HM0 ⊢
  generalize w.heap.size + 1 = R at HM0 ⊢
  go_loopw [9, 24] (fun v9 iv wr => ∃ (k n1 n2 : Nat) (a1 : Option Addr) (c1 : Nat) (a2 : Option Addr) (c2 : Nat), k ≤ L.length ∧ n1 ≤ k ∧ n2 ≤ k ∧ v9 = .slice a1 n1 c1 ∧ iv = .int .i64 k ∧ Hid ((goneR A B (L.take k)).length = n1 ∧ (leftR A B (L.take k)).length = n2 ∧ Ac13 w O R n a1 c1 (goneR A B (L.take k)) a2 c2 (leftR A B (L.take k)) wr)) (fun _ iv _ => L.length - (intOf iv).toNat)
  case atStart => exact ⟨0, 0, 0, _, 0, none, 0, Nat.zero_le _, Nat.le_refl _, Nat.le_refl _, rfl, rfl, Lib.hid ⟨rfl, rfl, HM0.out⟩⟩
  case round =>
    obtain ⟨k, n1, n2, a1, c1', a2, c2', hk, hn1, hn2, rfl, rfl, HS⟩ := hrel
    by_cases hlt : k < L.length
    · obtain ⟨g, off, rfl, hg, d0, d1⟩ := (HR.out.below HS.out.2.2.two.bel).at hlt
      have HCN := Lib.hid (show goneR A B (L.take (k + 1)) = goneR A B (L.take k) ++ (if hasR A B L[k].1 = true then [L[k].1] else []) by rw [List.take_succ_eq_append_getElem hlt]; exact gone_snoc _ _ _ _)
      have HRN := Lib.hid (show leftR A B (L.take (k + 1)) = leftR A B (L.take k) ++ (if hasR A B L[k].1 = true then [] else [L[k]]) by rw [List.take_succ_eq_append_getElem hlt]; exact left_snoc _ _ _ _)
      have hkp := HLT.out L[k] (List.getElem_mem hlt)
      have HHA := Lib.hid (fun W => has13_any A B L[k].1 W HA.out hkp hB)
      generalize L[k] = p at d0 d1 hkp HCN HRN HHA
      obtain ⟨pn, pt⟩ := p
      simp only at d0 d1 hkp HCN HRN HHA
      have hi0 : (0 : Int) ≤ (k : Int) := by omega
      have hi1 : (k : Int) < (L.length : Int) := by omega
      have HT1 := Lib.hid (HS.out.2.2.keep (bel_alloc (Below.refl _ _) (.cells #[.int .i64 (pn : Int), .string (bs pt)] 39)))
      have q0 : (wr.alloc (.cells #[.int .i64 (pn : Int), .string (bs pt)] 39)).cell? ⟨wr.heap.size, 0, none⟩ = some (.int .i64 (pn : Int)) := by simp
      have q1 : (wr.alloc (.cells #[.int .i64 (pn : Int), .string (bs pt)] 39)).cell? ⟨wr.heap.size, 1, none⟩ = some (.string (bs pt)) := by simp
      have HQ0 := Lib.hid q0
      have HQ1 := Lib.hid q1
      clear q0 q1
      go_wp2_with fail
      generalize wr.alloc (.cells #[.int .i64 (pn : Int), .string (bs pt)] 39) = W2 at HT1 HQ0 HQ1 ⊢
      generalize wr.heap.size = Y at HQ0 HQ1 ⊢
      refine (HHA.out _).mono ?_
      rintro r w4 ⟨rfl, rfl⟩
      have q0 := HQ0.out
      have q1 := HQ1.out
      have hql := block_lt_of_cell q0
      simp only at hql
      clear HHA HQ0 HQ1 d0 d1 hg
      cases hh : hasR A B pn
      · rw [hh] at HCN HRN
        obtain ⟨a5, c5, w5, hrun, ho, hto, hnw⟩ := own_one riTy Try.underlying27 HT1.out.two.r2 (riC (pn, pt)) (ri_wide [(pn, pt)]) (by rw [List.length_map]; have := HS.out.2.1; omega) n2 (by rw [List.length_map]; exact HS.out.2.1) #[.int .i64 (pn : Int), .string (bs pt)] rfl
        have HRUN := Lib.hid hrun
        have hsec := HT1.out.second (rest' := leftR A B (L.take (k + 1))) (a' := a5) (c' := c5) (w' := w5) (by rw [HRN.out]; simpa using ho) hto hnw (n2 + 1) (by rw [HRN.out]; simpa using HS.out.2.1)
        obtain ⟨s1, sf, sl, hac⟩ := hsec
        have o1 := HT1.out.o1
        rw [HS.out.2.1] at o1 s1
        have hOl := HT1.out.lt.1
        have HT5 : Hid (Ac13 w O R n a1 c1' (goneR A B (L.take (k + 1))) a5 c5 (leftR A B (L.take (k + 1))) (w5.setCell ⟨O, 1, none⟩ (.slice a5 (n2 + 1) c5))) := Lib.hid (by
          have := hac
          rw [HCN.out]
          simpa using this)
        clear hrun ho hto hnw hac
        go_wp2_with (at_builtin; refine wpList_append_run _ rfl (.tmp 39) (.tmp 41) 27 27 rfl _ _ rfl rfl (.slice a5 (n2 + 1) c5) w5 HRUN.out ?_)
        go_roundw
        case rel => exact ⟨k + 1, n1, n2 + 1, a1, c1', a5, c5, by omega, by omega, by omega, rfl, by go_num, Lib.hid ⟨by rw [HCN.out]; simpa using HS.out.1, by rw [HRN.out]; simpa using HS.out.2.1, HT5.out⟩⟩
        case measure => simp [intOf] <;> omega
      · rw [hh] at HCN HRN
        obtain ⟨a5, c5, w5, hrun, ho, hto, hnw⟩ := own_one i64Ty Try.underlying44 HT1.out.two.r1 (i64C pn) (i64_wide [pn]) (by rw [List.length_map]; have := HS.out.1; omega) n1 (by rw [List.length_map]; exact HS.out.1) #[.int .i64 (pn : Int)] rfl
        have HRUN := Lib.hid hrun
        have HT5 : Hid (Ac13 w O R n a5 c5 (goneR A B (L.take (k + 1))) a2 c2' (leftR A B (L.take (k + 1))) w5) := Lib.hid (by
          have := HT1.out.first (gone' := goneR A B (L.take (k + 1))) (a' := a5) (c' := c5) (w' := w5) (by rw [HCN.out]; simpa using ho) hto hnw
          rw [HRN.out]
          simpa using this)
        clear hrun ho hto hnw
        go_wp2_with (at_builtin; refine wpList_append_run _ rfl (.tmp 33) (.tmp 36) 44 44 rfl _ _ rfl rfl (.slice a5 (n1 + 1) c5) w5 HRUN.out ?_)
        go_roundw
        case rel => exact ⟨k + 1, n1 + 1, n2, a5, c5, a2, c2', by omega, by omega, by omega, rfl, by go_num, Lib.hid ⟨by rw [HCN.out]; simpa using HS.out.1, by rw [HRN.out]; simpa using HS.out.2.1, HT5.out⟩⟩
        case measure => simp [intOf] <;> omega
    · obtain rfl : k = L.length := by omega
      rw [List.take_length] at HS
      obtain ⟨hl1, hl2, hac⟩ := HS.out
      have hi1 : (L.length : Int) ≤ (L.length : Int) := by omega
      have o0 := hac.o0
      have o1 := hac.o1
      rw [hl2] at o1
      obtain ⟨v0, r0⟩ := hac.r0
      obtain ⟨v1, r1⟩ := hac.r1
      have z0 := hac.z0
      have z1 := hac.z1
      have hOl := hac.lt.1
      have hRl := hac.lt.2
      have hne := hac.ne
      have HF := Lib.hid (hac.fin a n1 n2 hl1 hl2)
      rw [HPost.out] at HF
      clear hl1 hl2 hac HS
      go_wp2
      exact bodyPost_ret (v := .tuple #[.agg #[.int .i64 (n : Int), .slice a2 n2 c2'], .slice a1 n1 c1']) (by simp [results, Try.results20, go_sem, r0, r1]) rfl (HF.out _ _)
end Go.Proofs.Ytpilkaggiajjmaa
namespace Go.Proofs.Ytpilkaggiajjmaa
open Go.RowKit Go.WideShapes Go.ChangeShapes
set_option linter.unusedVariables false

/-- A list of numbers came in. -/
def NumArg (k : IntKind) (w : World) (a : Option Addr) (len cap : Nat) (ns : List Int) : Prop :=
  len = ns.length ∧ len ≤ maxLen ∧ len ≤ cap ∧ cap ≤ maxLen ∧ IntRow k w a ns ∧ (a = none → ns = []) ∧ ∀ n ∈ ns, (Lit.int k n).wf = true
theorem cell_addN {w : World} {b off j : Nat} {v : Value} (h : w.cell? ((⟨b, off, none⟩ : Addr).add j) = some v) : w.cell? ⟨b, off + j, none⟩ = some v := by
  by_cases hz : j = 0
  · subst hz; simpa [Addr.add] using h
  · simpa [Addr.add, hz] using h
theorem wf_i64 {n : Int} (h : (Lit.int .i64 n).wf = true) : -9223372036854775808 ≤ n ∧ n ≤ 9223372036854775807 := by
  simpa [Lit.wf, IntKind.min, IntKind.max, IntKind.signed, IntKind.bits] using h
theorem wf_u64 {n : Int} (h : (Lit.int .u64 n).wf = true) : 0 ≤ n ∧ n ≤ 18446744073709551615 := by
  simpa [Lit.wf, IntKind.min, IntKind.max, IntKind.signed, IntKind.bits] using h
theorem nums_of {H : Type} {enc : TypeId × Value → H} {P : Program} {w : World} {base : Nat} {sp : Nat → Bool} {held : Bool} {fuel : Nat} {a : Option Addr} {len cap : Nat} {t e : TypeId} {k : IntKind} {x : DataW H × List MemPlace}
    (ht : P.underlying t = some (.slice e)) (he : P.underlying e = some (.int k)) (hc : P.cellsOf e = 1)
    (h : DataW.trod enc P w base sp held fuel t [.slice a len cap] = some x) : ∃ ns, NumArg k w a len cap ns := by
  rcases open_ints ht he hc h with ⟨hcs, _⟩ | ⟨ad, l, c, zs, hcs, _, hl, hm, hz, _, hcell, hwf⟩
  · simp at hcs
    obtain ⟨rfl, rfl, rfl⟩ := hcs
    exact ⟨[], rfl, by simp [maxLen], Nat.le_refl _, by simp [maxLen], fun h => by simp at h, fun _ => rfl, by simp⟩
  · simp at hcs
    obtain ⟨rfl, rfl, rfl⟩ := hcs
    have hzl : len ≤ zs.length := by rw [hz]; split <;> omega
    refine ⟨zs.take len, by simp; omega, by omega, hl, hm, fun h0 => ?_, (fun h => by cases h), fun n hn => hwf n (List.mem_of_mem_take hn)⟩
    have h0' : 0 < len := by simp at h0; omega
    obtain ⟨b, off, spot⟩ := ad
    have h00 := hcell 0 (by omega)
    have hspot : spot = none := by simpa [Addr.add] using World.cell?_spot h00
    subst hspot
    refine ⟨b, off, rfl, fun i hi => ?_⟩
    have hi' : i < len := by simp at hi; omega
    have := cell_addN (hcell i (by omega))
    rw [List.getElem_take]
    rw [this]
    congr 2
    simp [List.getD, List.getElem?_eq_getElem (show i < zs.length by omega)]
theorem IntRow.below {k : IntKind} {w w' : World} {a : Option Addr} {ns : List Int} (h : IntRow k w a ns) (hb : Below w.heap.size w w') : IntRow k w' a ns := by
  intro h0
  obtain ⟨b, off, e, hc⟩ := h h0
  exact ⟨b, off, e, fun i hi => by rw [hb.cell (p := ⟨b, off + i, none⟩) (block_lt_of_cell (hc i hi))]; exact hc i hi⟩
theorem IntRow.touch {k : IntKind} {S : Nat → Prop} {w w' : World} {a : Option Addr} {ns : List Int} (h : IntRow k w a ns) (ht : Touch S w w') (hs : ∀ x, a = some x → ¬ S x.block) : IntRow k w' a ns := by
  intro h0
  obtain ⟨b, off, e, hc⟩ := h h0
  exact ⟨b, off, e, fun i hi => by rw [ht.cell (p := ⟨b, off + i, none⟩) (block_lt_of_cell (hc i hi)) (by have := hs _ e; exact this)]; exact hc i hi⟩
theorem IntRow.take {k : IntKind} {w : World} {a : Option Addr} {ns : List Int} (h : IntRow k w a ns) (n : Nat) : IntRow k w a (ns.take n) := by
  intro h0
  have h0' : 0 < ns.length := by simp at h0; omega
  obtain ⟨b, off, e, hc⟩ := h h0'
  refine ⟨b, off, e, fun i hi => ?_⟩
  have : i < ns.length := by simp at hi; omega
  rw [List.getElem_take]
  exact hc i this
theorem IntRow.lt {k : IntKind} {w : World} {a : Option Addr} {ns : List Int} (h : IntRow k w a ns) (h0 : 0 < ns.length) : ∃ b off, a = some ⟨b, off, none⟩ ∧ b < w.heap.size := by
  obtain ⟨b, off, e, hc⟩ := h h0
  exact ⟨b, off, e, block_lt_of_cell (hc 0 h0)⟩
end Go.Proofs.Ytpilkaggiajjmaa
namespace Go.Proofs.Ytpilkaggiajjmaa
open Go.RowKit

theorem takeF_back (m : Nat) : ∀ k acc (r : List UInt8), k ≤ 9 → m * 128 ^ k < 18446744073709551616 → (0 < k → 0 < m) → takeF k acc (numB m ++ r) = (acc + m * 128 ^ k, k + (numB m).length, 0) := by
  induction m using Nat.strongRecOn with
  | ind m ih =>
    intro k acc r hk hm h0
    have h9 : (128 : Nat) ^ 9 = 9223372036854775808 := by decide
    have hk9 : k = 9 → m ≤ 1 := fun e => by subst e; omega
    by_cases h : m < 128
    · rw [numB_lt h]
      have e : (byteOf m).toNat = m := byteOf_toNat (by omega)
      show takeF k acc (byteOf m :: r) = _
      rw [takeF_last (by rw [e]; omega) (by rw [e]; exact h), e, Nat.mod_eq_of_lt h]
      rfl
    · rw [numB_ge (by omega)]
      have e : (byteOf (m % 128 + 128)).toNat = m % 128 + 128 := byteOf_toNat (by omega)
      show takeF k acc (byteOf (m % 128 + 128) :: (numB (m / 128) ++ r)) = _
      have hk8 : k ≠ 9 := fun e => by have := hk9 e; omega
      have hp : m / 128 * 128 ^ (k + 1) ≤ m * 128 ^ k := by
        rw [Nat.pow_succ, Nat.mul_comm (128 ^ k), ← Nat.mul_assoc]
        exact Nat.mul_le_mul_right _ (Nat.div_mul_le_self m 128)
      rw [takeF_more (by rw [e]; omega) (by rw [e]; omega), e, ih (m / 128) (by omega) (k + 1) _ r (by omega) (by omega) (by omega)]
      have e2 : (m % 128 + 128) % 128 = m % 128 := by omega
      rw [e2, List.length_cons]
      refine Prod.ext ?_ (Prod.ext ?_ rfl)
      · show acc + m % 128 * 128 ^ k + m / 128 * 128 ^ (k + 1) = acc + m * 128 ^ k
        rw [Nat.pow_succ, Nat.mul_comm (128 ^ k) 128, ← Nat.mul_assoc, Nat.add_assoc, ← Nat.add_mul]
        congr 2
        omega
      · show k + 1 + _ = k + (_ + 1)
        omega
theorem numT_back (n : Nat) (r : List UInt8) (h : n < 18446744073709551616) : numT (numB n ++ r) = (n, (numB n).length, 0) := by
  have := takeF_back n 0 0 r (by decide) (by simpa using h) (by omega)
  simpa [numT] using this
theorem numS_back (n : Nat) (r : List UInt8) (h : n < 18446744073709551616) : numS (numB n ++ r, 0) = ((r, 0), n) := by
  unfold numS
  simp only [numT_back n r h]
  simp
theorem zig_back (n : Int) : unzig (zig n) = n := by
  unfold unzig zig
  by_cases h : n < 0
  · rw [if_pos h, if_pos (by omega)]; omega
  · rw [if_neg h, if_neg (by omega)]; omega
theorem rawS_back (l r : List UInt8) : rawS (l ++ r, 0) (l.length : Int) = ((r, 0), l) := by
  unfold rawS
  simp only [Int.toNat_natCast]
  rw [if_neg (by simp)]
  simp
theorem strS_back (l r : List UInt8) (most : Int) (h : (l.length : Int) ≤ most) (h2 : l.length < 18446744073709551616) : strS (strB l ++ r, 0) most = ((r, 0), l) := by
  have e : countS (strB l ++ r, 0) most = ((l ++ r, 0), l.length) := by
    unfold countS
    rw [strB, List.append_assoc, numS_back _ _ h2]
    simp only
    rw [if_neg (by omega)]
  unfold strS
  rw [e]
  exact rawS_back l r
theorem inNum_back (b n : Nat) (r : List UInt8) (w : World) (hn : n < 18446744073709551616) (h : InSt w b (numB n ++ r, 0)) :
    Calls Try.prog 113 #[.pointer (some ⟨b, 0, none⟩)] w fun e w' => e = .returned (.int .u64 n) ∧ InTo w b (r, 0) w' := by
  have := inNum_any b _ 0 w h
  rwa [numS_back n r hn] at this
theorem inStr_back (b : Nat) (s : ByteArray) (r : List UInt8) (most : Int) (w : World) (hs : (s.size : Int) ≤ most) (hm : most ≤ 9223372036854775807) (h : InSt w b (strB s.data.toList ++ r, 0)) :
    Calls Try.prog 99 #[.pointer (some ⟨b, 0, none⟩), .int .i64 most] w fun e w' => e = .returned (.string s) ∧ InTo w b (r, 0) w' := by
  have := inStr_any b _ 0 most w hm (by omega) h
  have e : s.data.toList.length = s.size := by simp
  rw [strS_back _ r most (by rw [e]; exact hs) (by rw [e]; omega)] at this
  rwa [bs_eta] at this
theorem inRaw_back (b : Nat) (s : ByteArray) (r : List UInt8) (w : World) (hm : s.size ≤ 9223372036854775807) (h : InSt w b (s.data.toList ++ r, 0)) :
    Calls Try.prog 115 #[.pointer (some ⟨b, 0, none⟩), .int .i64 s.size] w fun e w' => e = .returned (.string s) ∧ InTo w b (r, 0) w' := by
  have := raw_any b _ 0 (s.size : Int) w (by omega) (by omega) h
  have e : (s.size : Int) = (s.data.toList.length : Int) := by simp
  rw [e, rawS_back] at this
  rw [e]
  rwa [bs_eta] at this
theorem inEnd_back (b : Nat) (w : World) (h : InSt w b ([], 0)) :
    Calls Try.prog 100 #[.pointer (some ⟨b, 0, none⟩)] w fun e w' => e = .returned (.int .i64 0) ∧ InTo w b ([], 0) w' := end_any b [] 0 w h
theorem InTo.below {w w' : World} {b B : Nat} {st : List UInt8 × Nat} (h : InTo w b st w') (hB : B ≤ w.heap.size) (hb : B ≤ b) : Below B w w' := h.2.below hB (by rintro k hk rfl; omega)
end Go.Proofs.Ytpilkaggiajjmaa
namespace Go.Proofs.Ytpilkaggiajjmaa
set_option linter.unusedVariables false

structure Codec {α : Type} (f : St → St × α) (enc : α → List UInt8) (dom : α → Prop) : Prop where
  back : ∀ x r, dom x → f (enc x ++ r, 0) = ((r, 0), x)
  cut : ∀ x p, dom x → p <+: enc x → p ≠ enc x → (f (p, 0)).1 = ([], 1)
  stick : ∀ e, e ≠ 0 → (f ([], e)).1 = ([], e)
  spell : ∀ l, (f (l, 0)).1.2 = 0 → l = enc (f (l, 0)).2 ++ (f (l, 0)).1.1
  nil : ∀ l, (f (l, 0)).1.2 ≠ 0 → (f (l, 0)).1.1 = []
theorem prefix_parts {p a b : List UInt8} (h : p <+: a ++ b) : (p <+: a ∧ p ≠ a) ∨ ∃ q, p = a ++ q ∧ q <+: b := by
  by_cases hl : p.length < a.length
  · refine .inl ⟨?_, fun e => by rw [e] at hl; omega⟩
    exact List.prefix_of_prefix_length_le h (List.prefix_append a b) (by omega)
  · have h1 : a <+: p := List.prefix_of_prefix_length_le (List.prefix_append a b) h (by omega)
    obtain ⟨q, rfl⟩ := h1
    exact .inr ⟨q, rfl, (List.prefix_append_right_inj a).1 h⟩
/-- One thing, and then another one that hangs on it. -/
theorem Codec.bind {α β : Type} {f : St → St × α} {enc : α → List UInt8} {dom : α → Prop} {g : α → St → St × β} {enc' : β → List UInt8} {dom' : α → β → Prop} (hf : Codec f enc dom) (hg : ∀ a, Codec (g a) enc' (dom' a)) (π : β → α) (hπ : ∀ a st, π (g a st).2 = a) :
    Codec (fun st => g (f st).2 (f st).1) (fun y => enc (π y) ++ enc' y) (fun y => dom (π y) ∧ dom' (π y) y) where
  back y r h := by
    show g (f (enc (π y) ++ enc' y ++ r, 0)).2 (f (enc (π y) ++ enc' y ++ r, 0)).1 = _
    rw [List.append_assoc, hf.back _ _ h.1]
    exact (hg _).back _ _ h.2
  cut y p h hp hne := by
    show (g (f (p, 0)).2 (f (p, 0)).1).1 = _
    rcases prefix_parts hp with ⟨h1, h2⟩ | ⟨q, rfl, hq⟩
    · rw [hf.cut _ _ h.1 h1 h2]
      exact (hg _).stick 1 (by decide)
    · rw [hf.back _ _ h.1]
      exact (hg _).cut _ _ h.2 hq (fun e => hne (by rw [e]))
  stick e he := by
    show (g (f ([], e)).2 (f ([], e)).1).1 = _
    rw [hf.stick e he]
    exact (hg _).stick e he
  spell l h := by
    show l = enc (π (g (f (l, 0)).2 (f (l, 0)).1).2) ++ enc' (g (f (l, 0)).2 (f (l, 0)).1).2 ++ (g (f (l, 0)).2 (f (l, 0)).1).1.1
    have h' : (g (f (l, 0)).2 (f (l, 0)).1).1.2 = 0 := h
    rw [hπ]
    by_cases he : (f (l, 0)).1.2 = 0
    · have h1 := hf.spell l he
      have e1 : (f (l, 0)).1 = ((f (l, 0)).1.1, 0) := Prod.ext rfl he
      rw [e1] at h' ⊢
      have h2 := (hg (f (l, 0)).2).spell _ h'
      rw [List.append_assoc, ← h2]
      exact h1
    · have e1 : (f (l, 0)).1 = ([], (f (l, 0)).1.2) := Prod.ext (hf.nil l he) rfl
      rw [e1, (hg _).stick _ he] at h'
      exact absurd h' he
  nil l h := by
    have h' : (g (f (l, 0)).2 (f (l, 0)).1).1.2 ≠ 0 := h
    show (g (f (l, 0)).2 (f (l, 0)).1).1.1 = []
    by_cases he : (f (l, 0)).1.2 = 0
    · have e1 : (f (l, 0)).1 = ((f (l, 0)).1.1, 0) := Prod.ext rfl he
      rw [e1] at h' ⊢
      exact (hg _).nil _ h'
    · have e1 : (f (l, 0)).1 = ([], (f (l, 0)).1.2) := Prod.ext (hf.nil l he) rfl
      rw [e1, (hg _).stick _ he]
/-- Nothing is taken. -/
theorem Codec.unit {α : Type} (a : α) : Codec (fun st => (st, a)) (fun _ => []) (fun x => x = a) where
  back x r h := by subst h; rfl
  cut x p h hp hne := absurd (List.prefix_nil.1 hp) hne
  stick e he := rfl
  spell l h := rfl
  nil l h := absurd rfl h
/-- The same bytes, told otherwise. -/
theorem Codec.map {α β : Type} {f : St → St × α} {enc : α → List UInt8} {dom : α → Prop} (hf : Codec f enc dom) (i : α → β) (j : β → α) (dom' : β → Prop) (hd : ∀ y, dom' y → dom (j y) ∧ i (j y) = y) (hj : ∀ st, j (i (f st).2) = (f st).2) : Codec (fun st => ((f st).1, i (f st).2)) (fun y => enc (j y)) dom' where
  back y r h := by
    show ((f (enc (j y) ++ r, 0)).1, i (f (enc (j y) ++ r, 0)).2) = _
    rw [hf.back _ _ (hd y h).1, (hd y h).2]
  cut y p h hp hne := hf.cut _ p (hd y h).1 hp hne
  stick e he := hf.stick e he
  spell l h := by
    show l = enc (j (i (f (l, 0)).2)) ++ _
    rw [hj]
    exact hf.spell l h
  nil l h := hf.nil l h
/-- So many, one behind the other, the first one first. -/
theorem runS_cons {α : Type} (f : St → St × α) (n : Nat) (st : St) : runS f (n + 1) st = ((runS f n (f st).1).1, (f st).2 :: (runS f n (f st).1).2) := by
  induction n with
  | zero => rfl
  | succ n ih =>
    rw [runS, ih]
    rfl
theorem Codec.run {α : Type} {f : St → St × α} {enc : α → List UInt8} {dom : α → Prop} (hf : Codec f enc dom) (n : Nat) : Codec (runS f n) (fun xs => (xs.map enc).flatten) (fun xs => xs.length = n ∧ ∀ x ∈ xs, dom x) := by
  induction n with
  | zero =>
    refine ⟨fun x r h => ?_, fun x p h hp hne => ?_, fun e he => rfl, fun l h => rfl, fun l h => absurd rfl h⟩
    · obtain rfl : x = [] := List.eq_nil_of_length_eq_zero h.1
      rfl
    · obtain rfl : x = [] := List.eq_nil_of_length_eq_zero h.1
      exact absurd (List.prefix_nil.1 hp) hne
  | succ n ih =>
    refine ⟨fun x r h => ?_, fun x p h hp hne => ?_, fun e he => ?_, fun l h => ?_, fun l h => ?_⟩
    · obtain ⟨y, ys, rfl⟩ := List.exists_cons_of_length_eq_add_one h.1
      simp only [List.map_cons, List.flatten_cons, List.append_assoc]
      rw [runS_cons, hf.back _ _ (h.2 y (by simp)), ih.back _ _ ⟨by simpa using h.1, fun z hz => h.2 z (by simp [hz])⟩]
    · obtain ⟨y, ys, rfl⟩ := List.exists_cons_of_length_eq_add_one h.1
      simp only [List.map_cons, List.flatten_cons] at hp hne
      rw [runS_cons]
      rcases prefix_parts hp with ⟨h1, h2⟩ | ⟨q, rfl, hq⟩
      · show (runS f n (f (p, 0)).1).1 = _
        rw [hf.cut _ _ (h.2 y (by simp)) h1 h2]
        exact ih.stick 1 (by decide)
      · show (runS f n (f (enc y ++ q, 0)).1).1 = _
        rw [hf.back _ _ (h.2 y (by simp))]
        exact ih.cut ys q ⟨by simpa using h.1, fun z hz => h.2 z (by simp [hz])⟩ hq (fun e => hne (by rw [e]))
    · rw [runS_cons]
      show (runS f n (f ([], e)).1).1 = _
      rw [hf.stick e he]
      exact ih.stick e he
    · rw [runS_cons] at h ⊢
      have h' : (runS f n (f (l, 0)).1).1.2 = 0 := h
      show l = (((f (l, 0)).2 :: (runS f n (f (l, 0)).1).2).map enc).flatten ++ (runS f n (f (l, 0)).1).1.1
      by_cases he : (f (l, 0)).1.2 = 0
      · have h1 := hf.spell l he
        have e1 : (f (l, 0)).1 = ((f (l, 0)).1.1, 0) := Prod.ext rfl he
        rw [e1] at h' ⊢
        have h2 := ih.spell _ h'
        rw [List.map_cons, List.flatten_cons, List.append_assoc, ← h2]
        exact h1
      · have e1 : (f (l, 0)).1 = ([], (f (l, 0)).1.2) := Prod.ext (hf.nil l he) rfl
        rw [e1, ih.stick _ he] at h'
        exact absurd h' he
    · rw [runS_cons] at h ⊢
      have h' : (runS f n (f (l, 0)).1).1.2 ≠ 0 := h
      show (runS f n (f (l, 0)).1).1.1 = []
      by_cases he : (f (l, 0)).1.2 = 0
      · have e1 : (f (l, 0)).1 = ((f (l, 0)).1.1, 0) := Prod.ext rfl he
        rw [e1] at h' ⊢
        exact ih.nil _ h'
      · have e1 : (f (l, 0)).1 = ([], (f (l, 0)).1.2) := Prod.ext (hf.nil l he) rfl
        rw [e1, ih.stick _ he]

/-- Bytes that are taken as a number are its bytes. -/
theorem take_spelt (l : List UInt8) : ∀ k acc n sz, takeF k acc l = (n, sz, 0) → ∃ m, n = acc + m * 128 ^ k ∧ sz = k + (numB m).length ∧ (numB m).length ≤ l.length ∧ l.take (numB m).length = numB m ∧ (0 < k → 0 < m) := by
  induction l with
  | nil => intro k acc n sz h; rw [takeF_end] at h; simp at h
  | cons b r ih =>
    intro k acc n sz h
    have hb := byte_lt b
    by_cases hbad : (0 < k ∧ b.toNat = 0) ∨ (k = 9 ∧ 1 < b.toNat)
    · rw [takeF_bad hbad] at h; simp at h
    · by_cases h2 : b.toNat < 128
      · rw [takeF_last hbad h2] at h
        simp only [Prod.mk.injEq, and_true] at h
        obtain ⟨rfl, rfl⟩ := h
        have e : byteOf b.toNat = b := UInt8.toNat_inj.1 (byteOf_toNat hb)
        refine ⟨b.toNat, by rw [Nat.mod_eq_of_lt h2], by rw [numB_lt h2]; rfl, by rw [numB_lt h2]; simp, by rw [numB_lt h2, e]; simp, fun hk => by omega⟩
      · rw [takeF_more hbad h2] at h
        obtain ⟨m, h3, h4, h5, h6, h7⟩ := ih _ _ _ _ h
        have hm := h7 (by omega)
        have hge : 128 ≤ b.toNat % 128 + 128 * m := by omega
        have e1 : (b.toNat % 128 + 128 * m) % 128 + 128 = b.toNat := by omega
        have e2 : (b.toNat % 128 + 128 * m) / 128 = m := by omega
        have e : byteOf b.toNat = b := UInt8.toNat_inj.1 (byteOf_toNat hb)
        have hN : numB (b.toNat % 128 + 128 * m) = b :: numB m := by rw [numB_ge hge, e1, e2, e]
        refine ⟨b.toNat % 128 + 128 * m, ?_, by rw [hN, h4, List.length_cons]; omega, by rw [hN, List.length_cons, List.length_cons]; omega, by rw [hN, List.length_cons, List.take_succ_cons, h6], fun _ => by omega⟩
        rw [h3, Nat.pow_succ, Nat.add_mul, Nat.add_assoc]
        congr 2
        rw [Nat.mul_comm (128 ^ k) 128, ← Nat.mul_assoc, Nat.mul_comm m 128]
theorem numT_spelt (l : List UInt8) (h : (numT l).2.2 = 0) : (numB (numT l).1).length ≤ l.length ∧ l.take (numB (numT l).1).length = numB (numT l).1 ∧ (numT l).2.1 = (numB (numT l).1).length := by
  have e : takeF 0 0 l = ((numT l).1, (numT l).2.1, 0) := by
    show numT l = _
    conv => rhs; rw [← h]
  obtain ⟨m, h1, h2, h3, h4, -⟩ := take_spelt l 0 0 _ _ e
  have : (numT l).1 = m := by rw [h1]; simp
  rw [this]
  exact ⟨h3, h4, by omega⟩
theorem takeF_cut (m : Nat) : ∀ k acc (p : List UInt8), k ≤ 9 → m * 128 ^ k < 18446744073709551616 → p <+: numB m → p ≠ numB m → takeF k acc p = (0, 0, 1) := by
  induction m using Nat.strongRecOn with
  | ind m ih =>
    intro k acc p hk hm hp hne
    have h9 : (128 : Nat) ^ 9 = 9223372036854775808 := by decide
    have hk9 : k = 9 → m ≤ 1 := fun e => by subst e; omega
    by_cases h : m < 128
    · rw [numB_lt h] at hp hne
      cases p with
      | nil => exact takeF_end _ _
      | cons b p =>
        obtain ⟨rfl, h2⟩ := List.cons_prefix_cons.1 hp
        exact absurd (by rw [List.prefix_nil.1 h2]) hne
    · rw [numB_ge (by omega)] at hp hne
      cases p with
      | nil => exact takeF_end _ _
      | cons b p =>
        obtain ⟨rfl, h2⟩ := List.cons_prefix_cons.1 hp
        have e : (byteOf (m % 128 + 128)).toNat = m % 128 + 128 := byteOf_toNat (by omega)
        have hk8 : k ≠ 9 := fun e => by have := hk9 e; omega
        have hp2 : m / 128 * 128 ^ (k + 1) ≤ m * 128 ^ k := by
          rw [Nat.pow_succ, Nat.mul_comm (128 ^ k), ← Nat.mul_assoc]
          exact Nat.mul_le_mul_right _ (Nat.div_mul_le_self m 128)
        rw [takeF_more (by rw [e]; omega) (by rw [e]; omega)]
        exact ih (m / 128) (by omega) (k + 1) _ p (by omega) (by omega) h2 (fun e => hne (by rw [e]))
theorem numC : Codec numS numB (fun n => n < 18446744073709551616) where
  back n r h := numS_back n r h
  cut n p h hp hne := by
    have := takeF_cut n 0 0 p (by decide) (by simpa using h) hp hne
    have e : numT p = (0, 0, 1) := this
    unfold numS failS
    simp [e]
  stick e he := by
    have h0 : numT [] = (0, 0, 1) := rfl
    unfold numS failS
    simp [h0, he]
  spell l h := by
    unfold numS at h ⊢
    by_cases he : (numT l).2.2 = 0
    · rw [if_neg (by simpa using he)] at h ⊢
      obtain ⟨h1, h2, h3⟩ := numT_spelt l he
      simp only [h3]
      conv => lhs; rw [← List.take_append_drop (numB (numT l).1).length l, h2]
    · rw [if_pos he] at h
      unfold failS at h
      rw [if_pos ⟨rfl, he⟩] at h
      exact absurd h he
  nil l h := by
    unfold numS at h ⊢
    by_cases he : (numT l).2.2 = 0
    · rw [if_neg (by simpa using he)] at h
      exact absurd rfl h
    · rw [if_pos he]
      unfold failS
      rw [if_pos ⟨rfl, he⟩]
theorem countC (most : Nat) (hm : most < 18446744073709551616) : Codec (fun st => countS st most) numB (fun n => n ≤ most) where
  back n r h := by
    unfold countS
    rw [numS_back n r (by omega), if_neg (by simp only; omega)]
  cut n p h hp hne := by
    have h1 := numC.cut n p (by omega) hp hne
    show (countS (p, 0) most).1 = _
    unfold countS
    split
    · rw [h1]; rfl
    · exact h1
  stick e he := by
    have h1 := numC.stick e he
    show (countS ([], e) most).1 = _
    unfold countS
    split
    · rw [h1]; unfold failS; rw [if_neg (fun h => he h.1)]
    · exact h1
  spell l h := by
    have h' : (countS (l, 0) most).1.2 = 0 := h
    show l = numB (countS (l, 0) most).2 ++ (countS (l, 0) most).1.1
    unfold countS at h' ⊢
    split at h'
    · rename_i hc
      unfold failS at h'
      split at h'
      · simp at h'
      · rename_i h2
        exact absurd ⟨h', by decide⟩ h2
    · rename_i hc
      rw [if_neg hc]
      exact numC.spell l h'
  nil l h := by
    have h' : (countS (l, 0) most).1.2 ≠ 0 := h
    show (countS (l, 0) most).1.1 = []
    unfold countS at h' ⊢
    split at h'
    · rename_i hc
      rw [if_pos hc]
      unfold failS at h' ⊢
      split
      · rfl
      · rename_i h2
        rw [if_neg h2] at h'
        exact numC.nil l h'
    · rename_i hc
      rw [if_neg hc]
      exact numC.nil l h'
theorem unzig_zig (n : Nat) : zig (unzig n) = n := by
  unfold unzig zig
  by_cases h : n % 2 = 1
  · rw [if_pos h, if_pos (by omega)]; omega
  · rw [if_neg h, if_neg (by omega)]; omega
theorem intC : Codec (fun st => ((numS st).1, unzig (numS st).2)) (fun n => numB (zig n)) (fun n => -9223372036854775808 ≤ n ∧ n ≤ 9223372036854775807) :=
  numC.map unzig zig _ (fun y h => ⟨zig_lt h.1 h.2, zig_back y⟩) (fun st => unzig_zig _)
end Go.Proofs.Ytpilkaggiajjmaa
namespace Go.Proofs.Ytpilkaggiajjmaa
open Go.RowKit
set_option linter.unusedVariables false

/-- An order whose numbers can be written. -/
def OrdIn (o : Ord) : Prop := 0 ≤ o.kind ∧ o.kind ≤ 4 ∧ 0 ≤ o.unit ∧ o.unit ≤ 1099511627776 ∧ B64 o.a ∧ B64 o.b
def ordB (o : Ord) : List UInt8 := countsB [o.kind] ++ numsB [o.unit.toNat] ++ intsB [o.a, o.b]
def ordsB (l : List Ord) : List UInt8 := (l.map ordB).flatten
def batchB (l : List Ord) : List UInt8 := countsB [(l.length : Int)] ++ ordsB l
theorem ordsB_snoc (l : List Ord) (k : Nat) (h : k < l.length) : ordsB (l.take (k + 1)) = ordsB (l.take k) ++ ordB l[k] := by
  unfold ordsB; rw [List.take_succ_eq_append_getElem h, List.map_append, List.flatten_append]; simp
theorem intsB_len2 {ns : List Int} (h : ∀ x ∈ ns, B64 x) : (intsB ns).length ≤ 10 * ns.length := by
  have := numsB_len (ns.map zig) (by intro n hn; simp only [List.mem_map] at hn; obtain ⟨a, ha, rfl⟩ := hn; exact zig_lt (h a ha).1 (h a ha).2)
  simpa [intsB] using this
theorem ordB_len {o : Ord} (h : OrdIn o) : (ordB o).length ≤ 40 := by
  obtain ⟨h1, h2, h3, h4, h5, h6⟩ := h
  have e1 := countsB_len (ns := [o.kind]) (by intro x hx; simp at hx; omega)
  have e2 := numsB_len [o.unit.toNat] (by intro x hx; simp at hx; omega)
  have e3 := intsB_len2 (ns := [o.a, o.b]) (by intro x hx; simp at hx; rcases hx with rfl | rfl; exact h5; exact h6)
  unfold ordB
  simp only [List.length_append]
  simp at e1 e2 e3
  omega
theorem ordsB_len {l : List Ord} (h : ∀ o ∈ l, OrdIn o) : (ordsB l).length ≤ 40 * l.length := by
  induction l with
  | nil => simp [ordsB]
  | cons x l ih =>
    have h1 := ordB_len (h x (by simp))
    have h2 := ih (fun y hy => h y (by simp [hy]))
    simp only [ordsB, List.map_cons, List.flatten_cons, List.length_append, List.length_cons] at h2 ⊢
    omega
theorem keepX {S : Nat → Prop} {W w' : World} (ht : Touch (fun k => ¬ S k) W w') {X : Nat} (hg : S X) {x y z u : Value} (h : W.cell? ⟨X, 0, none⟩ = some x ∧ W.cell? ⟨X, 1, none⟩ = some y ∧ W.cell? ⟨X, 2, none⟩ = some z ∧ W.cell? ⟨X, 3, none⟩ = some u) :
    w'.cell? ⟨X, 0, none⟩ = some x ∧ w'.cell? ⟨X, 1, none⟩ = some y ∧ w'.cell? ⟨X, 2, none⟩ = some z ∧ w'.cell? ⟨X, 3, none⟩ = some u :=
  ⟨keep_cell ht hg h.1, keep_cell ht hg h.2.1, keep_cell ht hg h.2.2.1, keep_cell ht hg h.2.2.2⟩
theorem keepXa {W : World} {X : Nat} {x y z u : Value} (o : Obj) (h : W.cell? ⟨X, 0, none⟩ = some x ∧ W.cell? ⟨X, 1, none⟩ = some y ∧ W.cell? ⟨X, 2, none⟩ = some z ∧ W.cell? ⟨X, 3, none⟩ = some u) :
    (W.alloc o).cell? ⟨X, 0, none⟩ = some x ∧ (W.alloc o).cell? ⟨X, 1, none⟩ = some y ∧ (W.alloc o).cell? ⟨X, 2, none⟩ = some z ∧ (W.alloc o).cell? ⟨X, 3, none⟩ = some u :=
  ⟨alloc_cell h.1 o, alloc_cell h.2.1 o, alloc_cell h.2.2.1 o, alloc_cell h.2.2.2 o⟩
theorem keepXd {W : World} {X : Nat} {x y z u : Value} (o : Obj) (h : W.drew.cell? ⟨X, 0, none⟩ = some x ∧ W.drew.cell? ⟨X, 1, none⟩ = some y ∧ W.drew.cell? ⟨X, 2, none⟩ = some z ∧ W.drew.cell? ⟨X, 3, none⟩ = some u) :
    (W.alloc o).drew.cell? ⟨X, 0, none⟩ = some x ∧ (W.alloc o).drew.cell? ⟨X, 1, none⟩ = some y ∧ (W.alloc o).drew.cell? ⟨X, 2, none⟩ = some z ∧ (W.alloc o).drew.cell? ⟨X, 3, none⟩ = some u := keepXa (W := W) o h
theorem touchKK {K : Nat → Prop} {wp W w' : World} (hb : Below wp.heap.size wp W) (h : Touch (fun k => ¬ KK K wp W k) W w') : Touch (fun k => ¬ K k) wp w' :=
  (touch_of_below hb).trans (h.mono fun k _ h1 h2 => h1 (.inl h2))
end Go.Proofs.Ytpilkaggiajjmaa
namespace Go.Proofs.Ytpilkaggiajjmaa
open Go.RowKit
set_option linter.unusedVariables false

theorem OrdRow.lt {w : World} {a : Option Addr} {l : List Ord} (h : OrdRow w a l) (h0 : 0 < l.length) : ∀ x, a = some x → x.block < w.heap.size := by
  obtain ⟨b, off, e, hb, -⟩ := h.at h0
  intro x hx
  rw [e] at hx
  cases hx
  exact hb
theorem ordB_parts (o : Ord) : ordB o = numB o.kind.toNat ++ numB o.unit.toNat ++ numB (zig o.a) ++ numB (zig o.b) := by
  simp [ordB, countsB, numsB, intsB, List.append_assoc]
theorem keepR {W w' : World} (hb : Below W.heap.size W w') {X : Nat} {x y z u : Value} (h : W.cell? ⟨X, 0, none⟩ = some x ∧ W.cell? ⟨X, 1, none⟩ = some y ∧ W.cell? ⟨X, 2, none⟩ = some z ∧ W.cell? ⟨X, 3, none⟩ = some u) :
    w'.cell? ⟨X, 0, none⟩ = some x ∧ w'.cell? ⟨X, 1, none⟩ = some y ∧ w'.cell? ⟨X, 2, none⟩ = some z ∧ w'.cell? ⟨X, 3, none⟩ = some u := by
  have hX := block_lt_of_cell h.1
  exact ⟨(hb.cell (p := ⟨X, 0, none⟩) hX).trans h.1, (hb.cell (p := ⟨X, 1, none⟩) hX).trans h.2.1, (hb.cell (p := ⟨X, 2, none⟩) hX).trans h.2.2.1, (hb.cell (p := ⟨X, 3, none⟩) hX).trans h.2.2.2⟩
end Go.Proofs.Ytpilkaggiajjmaa
namespace Go.Proofs.Ytpilkaggiajjmaa
set_option linter.unusedVariables false

/-- Nothing is taken; an error, if there is one to tell. -/
theorem Codec.fail {α : Type} (a : α) (x : Nat) : Codec (fun st => (failS st x, a)) (fun _ => []) (fun y => y = a ∧ x = 0) where
  back y r h := by obtain ⟨rfl, rfl⟩ := h; simp [failS]
  cut y p h hp hne := absurd (List.prefix_nil.1 hp) hne
  stick e he := by show failS ([], e) x = _; unfold failS; rw [if_neg (fun h => he h.1)]
  spell l h := by
    have h' : (failS (l, 0) x).2 = 0 := h
    show l = [] ++ (failS (l, 0) x).1
    unfold failS at h' ⊢
    split at h'
    · rename_i hc; exact absurd h' hc.2
    · rename_i hc; rw [if_neg hc]; rfl
  nil l h := by
    have h' : (failS (l, 0) x).2 ≠ 0 := h
    show (failS (l, 0) x).1 = []
    unfold failS at h' ⊢
    split at h'
    · rename_i hc; rw [if_pos hc]
    · exact absurd rfl h'
def OrdDom (o : Ord) : Prop := checkN o = 0
theorem okN_zero {q : Bool} (h : okN q = 0) : q = true := by
  cases q
  · simp [okN] at h
  · rfl
theorem numQ_is {n : Int} (h : numQ n = true) : 1 ≤ n ∧ n < 1099511627776 := by simpa [numQ] using h
theorem placeQ_is {n : Int} (h : placeQ n = true) : -1000 ≤ n ∧ n ≤ 1000 := by simpa [placeQ] using h
theorem kindQ_is {n : Int} (h : kindQ n = true) : 0 ≤ n ∧ n ≤ 255 := by simpa [kindQ] using h
theorem ordDom_in {o : Ord} (h : OrdDom o) : OrdIn o := by
  obtain ⟨k, u, a, b⟩ := o
  unfold OrdDom checkN at h
  unfold OrdIn B64
  simp only at h ⊢
  by_cases h1 : k = 1
  · rw [if_pos h1] at h
    have := okN_zero h
    simp only [Bool.and_eq_true] at this
    have p := numQ_is this.1; have q := placeQ_is this.2.1; have r := placeQ_is this.2.2
    omega
  rw [if_neg h1] at h
  by_cases h2 : k = 2
  · rw [if_pos h2] at h
    have := okN_zero h
    simp only [Bool.and_eq_true, decide_eq_true_eq] at this
    have p := numQ_is this.1; have q := numQ_is this.2.1; have r := this.2.2
    omega
  rw [if_neg h2] at h
  by_cases h3 : k = 3
  · rw [if_pos h3] at h
    have := okN_zero h
    simp only [Bool.and_eq_true, decide_eq_true_eq] at this
    have p := this.1; have q := kindQ_is this.2.1; have r := placeQ_is this.2.2
    omega
  rw [if_neg h3] at h
  by_cases h4 : k = 4
  · rw [if_pos h4] at h
    have := okN_zero h
    simp only [Bool.and_eq_true, decide_eq_true_eq] at this
    have p := numQ_is this.1; have q := this.2.1; have r := this.2.2
    omega
  rw [if_neg h4] at h
  omega
def ordG3 (k u a b : Int) (st : St) : St × Ord := (failS st (checkN ⟨k, u, a, b⟩), ⟨k, u, a, b⟩)
def ordG2 (k u a : Int) (st : St) : St × Ord := ordG3 k u a (unzig (numS st).2) (numS st).1
def ordG1 (k u : Int) (st : St) : St × Ord := ordG2 k u (unzig (numS st).2) (numS st).1
def ordG0 (k : Int) (st : St) : St × Ord := ordG1 k ((countS st 1099511627776).2 : Nat) (countS st 1099511627776).1
theorem ordG3C (k u a b : Int) : Codec (ordG3 k u a b) (fun _ => []) (fun o => o = ⟨k, u, a, b⟩ ∧ checkN ⟨k, u, a, b⟩ = 0) := Codec.fail _ _
theorem ordG2C (k u a : Int) : Codec (ordG2 k u a) (fun o => numB (zig o.b)) (fun o => o.kind = k ∧ o.unit = u ∧ o.a = a ∧ OrdDom o) := by
  have h : Codec (ordG2 k u a) (fun o : Ord => numB (zig o.b) ++ []) (fun o => (-9223372036854775808 ≤ o.b ∧ o.b ≤ 9223372036854775807) ∧ (o = ⟨k, u, a, o.b⟩ ∧ checkN ⟨k, u, a, o.b⟩ = 0)) := Codec.bind intC (ordG3C k u a) (fun o => o.b) (fun b st => rfl)
  simp only [List.append_nil] at h
  have hd : ∀ o : Ord, (o.kind = k ∧ o.unit = u ∧ o.a = a ∧ OrdDom o) → (-9223372036854775808 ≤ o.b ∧ o.b ≤ 9223372036854775807) ∧ (o = ⟨k, u, a, o.b⟩ ∧ checkN ⟨k, u, a, o.b⟩ = 0) := by
    intro o ho
    have hi := ordDom_in ho.2.2.2
    obtain ⟨k', u', a', b'⟩ := o
    obtain ⟨rfl, rfl, rfl, hdom⟩ := ho
    exact ⟨hi.2.2.2.2.2, rfl, hdom⟩
  exact ⟨fun x r hx => h.back x r (hd x hx), fun x p hx => h.cut x p (hd x hx), h.stick, h.spell, h.nil⟩
theorem ordG1C (k u : Int) : Codec (ordG1 k u) (fun o => numB (zig o.a) ++ numB (zig o.b)) (fun o => o.kind = k ∧ o.unit = u ∧ OrdDom o) := by
  have h : Codec (ordG1 k u) (fun o : Ord => numB (zig o.a) ++ numB (zig o.b)) (fun o => (-9223372036854775808 ≤ o.a ∧ o.a ≤ 9223372036854775807) ∧ (o.kind = k ∧ o.unit = u ∧ o.a = o.a ∧ OrdDom o)) := Codec.bind intC (ordG2C k u) (fun o => o.a) (fun a st => rfl)
  have hd : ∀ o : Ord, (o.kind = k ∧ o.unit = u ∧ OrdDom o) → (-9223372036854775808 ≤ o.a ∧ o.a ≤ 9223372036854775807) ∧ (o.kind = k ∧ o.unit = u ∧ o.a = o.a ∧ OrdDom o) := fun o ho => ⟨(ordDom_in ho.2.2).2.2.2.2.1, ho.1, ho.2.1, rfl, ho.2.2⟩
  exact ⟨fun x r hx => h.back x r (hd x hx), fun x p hx => h.cut x p (hd x hx), h.stick, h.spell, h.nil⟩
theorem ordG0C (k : Int) : Codec (ordG0 k) (fun o => numB o.unit.toNat ++ (numB (zig o.a) ++ numB (zig o.b))) (fun o => o.kind = k ∧ OrdDom o) := by
  have h : Codec (ordG0 k) (fun o : Ord => numB o.unit.toNat ++ (numB (zig o.a) ++ numB (zig o.b))) (fun o => o.unit.toNat ≤ 1099511627776 ∧ (o.kind = k ∧ o.unit = (o.unit.toNat : Int) ∧ OrdDom o)) := Codec.bind (countC 1099511627776 (by decide)) (fun u => ordG1C k (u : Int)) (fun o => o.unit.toNat) (fun a st => rfl)
  have hd : ∀ o : Ord, (o.kind = k ∧ OrdDom o) → o.unit.toNat ≤ 1099511627776 ∧ (o.kind = k ∧ o.unit = (o.unit.toNat : Int) ∧ OrdDom o) := fun o ho => by
    have hi := ordDom_in ho.2
    have h3 := hi.2.2.1
    have h4 := hi.2.2.2.1
    exact ⟨by omega, ho.1, by omega, ho.2⟩
  exact ⟨fun x r hx => h.back x r (hd x hx), fun x p hx => h.cut x p (hd x hx), h.stick, h.spell, h.nil⟩
theorem orderC : Codec orderS ordB OrdDom := by
  have h : Codec orderS (fun o : Ord => numB o.kind.toNat ++ (numB o.unit.toNat ++ (numB (zig o.a) ++ numB (zig o.b)))) (fun o => o.kind.toNat ≤ 4 ∧ (o.kind = (o.kind.toNat : Int) ∧ OrdDom o)) := Codec.bind (countC 4 (by decide)) (fun k => ordG0C (k : Int)) (fun o => o.kind.toNat) (fun a st => rfl)
  have e2 : (fun o : Ord => numB o.kind.toNat ++ (numB o.unit.toNat ++ (numB (zig o.a) ++ numB (zig o.b)))) = ordB := by
    funext o; rw [ordB_parts]; simp only [List.append_assoc]
  rw [e2] at h
  have hd : ∀ o : Ord, OrdDom o → o.kind.toNat ≤ 4 ∧ (o.kind = (o.kind.toNat : Int) ∧ OrdDom o) := fun o ho => by
    have hi := ordDom_in ho
    have h1 := hi.1
    have h2 := hi.2.1
    exact ⟨by omega, by omega, ho⟩
  exact ⟨fun x r hx => h.back x r (hd x hx), fun x p hx => h.cut x p (hd x hx), h.stick, h.spell, h.nil⟩
def BatchDom (l : List Ord) : Prop := l.length ≤ 8 ∧ ∀ o ∈ l, OrdDom o
theorem batchC : Codec batchS batchB BatchDom := by
  have h : Codec batchS (fun m : List Ord => numB m.length ++ (m.map ordB).flatten) (fun m => m.length ≤ 8 ∧ (m.length = m.length ∧ ∀ f ∈ m, OrdDom f)) := Codec.bind (countC 8 (by decide)) (fun n => orderC.run n) (fun m => m.length) (fun n st => runS_len orderS n st)
  have e2 : (fun m : List Ord => numB m.length ++ (m.map ordB).flatten) = batchB := by
    funext m; unfold batchB; simp [countsB, numsB, ordsB]
  rw [e2] at h
  exact ⟨fun x r hx => h.back x r ⟨hx.1, rfl, hx.2⟩, fun x p hx => h.cut x p ⟨hx.1, rfl, hx.2⟩, h.stick, h.spell, h.nil⟩
theorem firstN_dom {l : List Ord} (h : firstN l = 0) : ∀ o ∈ l, OrdDom o := by
  induction l with
  | nil => intro o ho; simp at ho
  | cons x l ih =>
    unfold firstN at h
    split at h
    · rename_i hx; exact absurd h hx
    · rename_i hx
      intro o ho
      rcases List.mem_cons.1 ho with rfl | ho
      · exact Classical.not_not.1 hx
      · exact ih h o ho
theorem batchN_dom {l : List Ord} (h : batchN l = 0) : BatchDom l := by
  unfold batchN at h
  split at h
  · omega
  · rename_i hl
    exact ⟨by omega, firstN_dom h⟩
theorem batchN_of {l : List Ord} (h : BatchDom l) : batchN l = 0 := by
  unfold batchN
  rw [if_neg (by have := h.1; omega)]
  have h2 := h.2
  clear h
  induction l with
  | nil => rfl
  | cons x l ih =>
    unfold firstN
    rw [if_neg (by have := h2 x (by simp); simpa [OrdDom] using this)]
    exact ih (fun o ho => h2 o (by simp [ho]))
/-- A batch of bytes, the error. -/
def parseO (l : List UInt8) : List Ord × Nat := if (endS (batchS (l, 0)).1).2 ≠ 0 then ([], (endS (batchS (l, 0)).1).2) else ((batchS (l, 0)).2, 0)
theorem parseO_back (m : List Ord) (h : BatchDom m) : parseO (batchB m) = (m, 0) := by
  have := batchC.back m [] h
  rw [List.append_nil] at this
  unfold parseO
  rw [this]
  rfl
theorem parseO_more (m : List Ord) (h : BatchDom m) (b : UInt8) (r : List UInt8) : parseO (batchB m ++ b :: r) = ([], 2) := by
  unfold parseO
  rw [batchC.back m (b :: r) h]
  simp [endS, failS]
theorem parseO_cut (m : List Ord) (h : BatchDom m) (p : List UInt8) (hp : p <+: batchB m) (hne : p ≠ batchB m) : parseO p = ([], 1) := by
  unfold parseO
  rw [batchC.cut m p h hp hne]
  simp [endS]
theorem parseO_err (l : List UInt8) (h : (endS (batchS (l, 0)).1).2 = 0) : (batchS (l, 0)).1.2 = 0 := by
  unfold endS at h
  split at h
  · unfold failS at h
    split at h
    · simp at h
    · exact h
  · exact h
theorem batchB_pos (m : List Ord) : 0 < (batchB m).length := by
  unfold batchB
  have : 0 < (countsB [(m.length : Int)]).length := by
    simp only [countsB, numsB, List.map_cons, List.map_nil, List.flatten_cons, List.flatten_nil, List.append_nil]
    by_cases h : ((m.length : Int).toNat) < 128
    · rw [numB_lt h]; simp
    · rw [numB_ge (by omega)]; simp
  rw [List.length_append]; omega
end Go.Proofs.Ytpilkaggiajjmaa
namespace Go.Proofs.Ytpilkaggiajjmaa
open Go.RowKit
set_option linter.unusedVariables false

/-- What Parse answers. -/
def OParsePost (w : World) (t : List Ord × Nat) (r : Ending) (w' : World) : Prop :=
  ∃ a c, r = .returned (.tuple #[.slice a t.1.length c, .int .i64 (t.2 : Nat)]) ∧ OrdRow w' a t.1 ∧ Below w.heap.size w w'
theorem awakeB : batchB [⟨1, 1, 2, -1⟩] = [1, 1, 1, 4, 1] := by decide +kernel
theorem awakeD : BatchDom [⟨1, 1, 2, -1⟩] := ⟨by decide, by intro o ho; simp at ho; subst ho; rfl⟩
theorem awakeP : parseO [1, 1, 1, 4, 1] = ([⟨1, 1, 2, -1⟩], 0) := by rw [← awakeB]; exact parseO_back _ awakeD
theorem awakeL : (bs [1, 1, 1, 4, 1]).toList = [1, 1, 1, 4, 1] := by simp [bs]
theorem keep8 {W w' : World} (hb : Below W.heap.size W w') {X Y o p : Nat} {x y z u x' y' z' u' : Value} (h : (W.cell? ⟨X, o, none⟩ = some x ∧ W.cell? ⟨X, o + 1, none⟩ = some y ∧ W.cell? ⟨X, o + 2, none⟩ = some z ∧ W.cell? ⟨X, o + 3, none⟩ = some u) ∧ (W.cell? ⟨Y, p, none⟩ = some x' ∧ W.cell? ⟨Y, p + 1, none⟩ = some y' ∧ W.cell? ⟨Y, p + 2, none⟩ = some z' ∧ W.cell? ⟨Y, p + 3, none⟩ = some u')) :
    (w'.cell? ⟨X, o, none⟩ = some x ∧ w'.cell? ⟨X, o + 1, none⟩ = some y ∧ w'.cell? ⟨X, o + 2, none⟩ = some z ∧ w'.cell? ⟨X, o + 3, none⟩ = some u) ∧ (w'.cell? ⟨Y, p, none⟩ = some x' ∧ w'.cell? ⟨Y, p + 1, none⟩ = some y' ∧ w'.cell? ⟨Y, p + 2, none⟩ = some z' ∧ w'.cell? ⟨Y, p + 3, none⟩ = some u') := by
  have hX := block_lt_of_cell h.1.1
  have hY := block_lt_of_cell h.2.1
  exact ⟨⟨(hb.cell (p := ⟨X, o, none⟩) hX).trans h.1.1, (hb.cell (p := ⟨X, o + 1, none⟩) hX).trans h.1.2.1, (hb.cell (p := ⟨X, o + 2, none⟩) hX).trans h.1.2.2.1, (hb.cell (p := ⟨X, o + 3, none⟩) hX).trans h.1.2.2.2⟩,
    ⟨(hb.cell (p := ⟨Y, p, none⟩) hY).trans h.2.1, (hb.cell (p := ⟨Y, p + 1, none⟩) hY).trans h.2.2.1, (hb.cell (p := ⟨Y, p + 2, none⟩) hY).trans h.2.2.2.1, (hb.cell (p := ⟨Y, p + 3, none⟩) hY).trans h.2.2.2.2⟩⟩
end Go.Proofs.Ytpilkaggiajjmaa
namespace Go.Proofs.Ytpilkaggiajjmaa
open Go.RowKit Go.WideShapes Go.ChangeShapes
set_option linter.unusedVariables false

def RecArg (k : Nat) (w : World) (a : Option Addr) (len cap : Nat) (ls : List (List Int)) : Prop :=
  len = ls.length ∧ len ≤ cap ∧ cap ≤ maxLen ∧ Wide k ls ∧ RecRow k w a ls ∧ (a = none → ls = []) ∧ ∀ r ∈ ls, ∀ y ∈ r, B64 y
theorem RecArg.below {k : Nat} (hk : 0 < k) {w w' : World} {a : Option Addr} {len cap : Nat} {ls : List (List Int)} (h : RecArg k w a len cap ls) (hb : Below w.heap.size w w') : RecArg k w' a len cap ls :=
  ⟨h.1, h.2.1, h.2.2.1, h.2.2.2.1, h.2.2.2.2.1.below hk hb, h.2.2.2.2.2⟩
theorem list_4 {α : Type} {l : List α} (h : l.length = 4) : ∃ a b c d, l = [a, b, c, d] := by
  match l, h with
  | [a, b, c, d], _ => exact ⟨a, b, c, d, rfl⟩
theorem list_6 {α : Type} {l : List α} (h : l.length = 6) : ∃ a b c d e f, l = [a, b, c, d, e, f] := by
  match l, h with
  | [a, b, c, d, e, f], _ => exact ⟨a, b, c, d, e, f, rfl⟩
theorem list_7 {α : Type} {l : List α} (h : l.length = 7) : ∃ a b c d e f g, l = [a, b, c, d, e, f, g] := by
  match l, h with
  | [a, b, c, d, e, f, g], _ => exact ⟨a, b, c, d, e, f, g, rfl⟩
theorem recArg_of (k : Nat) (hk : 0 < k) {w : World} {ad : Addr} {len cap : Nat} (hl : len ≤ cap) (hm : cap ≤ maxLen)
    (each : ∀ i, i < len → ∃ r : List Int, r.length = k ∧ (∀ j, j < k → w.cell? (ad.add (i * k + j)) = some (.int .i64 (r.getD j 0))) ∧ ∀ y ∈ r, B64 y) : ∃ ls, RecArg k w (some ad) len cap ls := by
  let F : Nat → List Int := fun i => if hi : i < len then (each i hi).choose else []
  have hF : ∀ i, i < len → (F i).length = k ∧ (∀ j, j < k → w.cell? (ad.add (i * k + j)) = some (.int .i64 ((F i).getD j 0))) ∧ ∀ y ∈ F i, B64 y := by
    intro i hi
    have := (each i hi).choose_spec
    simp only [F, hi, dif_pos]
    exact this
  clear_value F
  refine ⟨(List.range len).map F, by simp, hl, hm, fun x hx => ?_, fun h0 => ?_, fun h => (by cases h), fun x hx => ?_⟩
  · simp only [List.mem_map, List.mem_range] at hx
    obtain ⟨i, hi, rfl⟩ := hx
    exact (hF i hi).1
  · obtain ⟨b, off, spot⟩ := ad
    have hlen : 0 < len := by simpa using h0
    have h00 := (hF 0 hlen).2.1 0 hk
    have hspot : spot = none := by simpa [Addr.add] using World.cell?_spot h00
    subst hspot
    refine ⟨b, off, rfl, fun i hi j hj => ?_⟩
    have hil : i < len := by simpa using hi
    simp only [List.getElem_map, List.getElem_range]
    rw [Nat.add_assoc]
    exact cell_addR ((hF i hil).2.1 j hj)
  · simp only [List.mem_map, List.mem_range] at hx
    obtain ⟨i, hi, rfl⟩ := hx
    exact (hF i hi).2.2
end Go.Proofs.Ytpilkaggiajjmaa
namespace Go.Proofs.Ytpilkaggiajjmaa
open Go.RowKit
set_option linter.unusedVariables false

theorem andM (a : Int) (m : Nat) (mi : Int) (hm : mi = (m : Int)) (h : m ≤ 9223372036854775807) : ∃ k : Nat, k ≤ m ∧ bits .and .i64 a mi = (k : Int) := by
  subst hm
  have e : (BitVec.ofInt 64 (m : Int)).toNat = m := by simp; omega
  have hle : (BitVec.ofInt 64 a &&& BitVec.ofInt 64 (m : Int)).toNat ≤ m := by
    rw [BitVec.toNat_and, e]; exact Nat.and_le_right
  refine ⟨(BitVec.ofInt 64 a &&& BitVec.ofInt 64 (m : Int)).toNat, hle, ?_⟩
  show IntKind.i64.wrap ((BitVec.ofInt 64 a &&& BitVec.ofInt 64 (m : Int)).toNat : Int) = _
  rw [IntKind.wrap_i64]
  omega
/-- Records as orders. -/
def toOrd (r : List Int) : Ord := ⟨r.getD 0 0, r.getD 1 0, r.getD 2 0, r.getD 3 0⟩
theorem toOrd_ints (r : List Int) (h : r.length = 4) : (toOrd r).ints = r := by
  obtain ⟨a, b, c, d, rfl⟩ := list_4 h
  rfl
theorem toOrds {ls : List (List Int)} (h : Wide 4 ls) : ordsI (ls.map toOrd) = ls := by
  unfold ordsI
  rw [List.map_map]
  have : ∀ x ∈ ls, (Ord.ints ∘ toOrd) x = x := fun x hx => toOrd_ints x (h x hx)
  conv => rhs; rw [← List.map_id ls]
  exact List.map_congr_left this
def OrdArg (w : World) (a : Option Addr) (len cap : Nat) (l : List Ord) : Prop :=
  len = l.length ∧ len ≤ cap ∧ cap ≤ maxLen ∧ OrdRow w a l ∧ (a = none → l = []) ∧ ∀ o ∈ l, OrdOk o
theorem RecArg.ords {w : World} {a : Option Addr} {len cap : Nat} {ls : List (List Int)} (h : RecArg 4 w a len cap ls) : OrdArg w a len cap (ls.map toOrd) := by
  obtain ⟨h1, h2, h3, h4, h5, h6, h7⟩ := h
  refine ⟨by rw [h1]; simp, h2, h3, by unfold OrdRow; rw [toOrds h4]; exact h5, fun e => by rw [h6 e]; rfl, fun o ho => ?_⟩
  simp only [List.mem_map] at ho
  obtain ⟨r, hr, rfl⟩ := ho
  obtain ⟨a, b, c, d, rfl⟩ := list_4 (h4 r hr)
  have := h7 _ hr
  exact ⟨this a (by simp), this b (by simp), this c (by simp), this d (by simp)⟩
theorem OrdArg.below {w w' : World} {a : Option Addr} {len cap : Nat} {l : List Ord} (h : OrdArg w a len cap l) (hb : Below w.heap.size w w') : OrdArg w' a len cap l := ⟨h.1, h.2.1, h.2.2.1, h.2.2.2.1.below hb, h.2.2.2.2⟩
theorem dom_move (u a b : Nat) (hu : u ≤ 63) (ha : a ≤ 127) (hb : b ≤ 127) : OrdDom ⟨1, 1 + u, 1 + a, b⟩ := by
  have h1 : numQ (1 + u) = true := by simp [numQ]; omega
  have h2 : placeQ (1 + a) = true := by simp [placeQ]; omega
  have h3 : placeQ b = true := by simp [placeQ]; omega
  simp [OrdDom, checkN, h1, h2, h3, okN]
theorem dom_hit (u a : Nat) (hu : u ≤ 63) (ha : a ≤ 127) : OrdDom ⟨2, 1 + u, 1 + a, 0⟩ := by
  have h1 : numQ (1 + u) = true := by simp [numQ]; omega
  have h2 : numQ (1 + a) = true := by simp [numQ]; omega
  simp [OrdDom, checkN, h1, h2, okN]
theorem dom_build (a b : Nat) (ha : a ≤ 127) (hb : b ≤ 127) : OrdDom ⟨3, 0, 1 + a, b⟩ := by
  have h2 : kindQ (1 + a) = true := by simp [kindQ]; omega
  have h3 : placeQ b = true := by simp [placeQ]; omega
  simp [OrdDom, checkN, h2, h3, okN]
theorem dom_halt (u : Nat) (hu : u ≤ 63) : OrdDom ⟨4, 1 + u, 0, 0⟩ := by
  have h1 : numQ (1 + u) = true := by simp [numQ]; omega
  simp [OrdDom, checkN, h1, okN]
end Go.Proofs.Ytpilkaggiajjmaa
namespace Go.Proofs.Ytpilkaggiajjmaa
open Go.RowKit
set_option linter.unusedVariables false

/-- What was sent at b1, what came at b2. -/
structure Ak1 (w : World) (b1 b2 n : Nat) (a : Option Addr) (c : Nat) (l : List (Nat × List UInt8)) (mo : Option Nat) (s : Ws) (wr : World) : Prop where
  o : OAt wr b1 n a c l
  i : WI wr b2 mo s
  bel : Below w.heap.size w wr
  d12 : b1 ≠ b2
  h1 : w.heap.size ≤ b1
  h2 : w.heap.size ≤ b2
  ha : ∀ x, a = some x → w.heap.size ≤ x.block ∧ x.block ≠ b2
  hm : ∀ k, mo = some k → w.heap.size ≤ k ∧ k ≠ b1
  ham : ∀ x k, a = some x → mo = some k → x.block ≠ k
theorem Ak1.keep {w : World} {b1 b2 n : Nat} {a : Option Addr} {c : Nat} {l : List (Nat × List UInt8)} {mo : Option Nat} {s : Ws} {wr w' : World} (h : Ak1 w b1 b2 n a c l mo s wr) (hb : Below wr.heap.size wr w') : Ak1 w b1 b2 n a c l mo s w' :=
  ⟨h.o.keep hb, h.i.keep hb, h.bel.trans (hb.mono h.bel.size), h.d12, h.h1, h.h2, h.ha, h.hm, h.ham⟩
theorem WI.mlt {w : World} {b : Nat} {mo : Option Nat} {s : Ws} (h : WI w b mo s) (k : Nat) (hk : mo = some k) : k < w.heap.size := by
  rcases h with ⟨h1, -⟩ | ⟨r, h1, h2⟩
  · rw [h1] at hk; cases hk
  · rw [h1] at hk; cases hk; exact h2.mp.lt
theorem Ak1.push {w : World} {b1 b2 n n' : Nat} {a a' : Option Addr} {c c' : Nat} {l l' : List (Nat × List UInt8)} {mo : Option Nat} {s : Ws} {wr w' : World} (h : Ak1 w b1 b2 n a c l mo s wr) (hO : OAt w' b1 n' a' c' l') (hf : ∀ x, a' = some x → a.map (·.block) = some x.block ∨ wr.heap.size ≤ x.block) (ht : Touch (fun j => j = b1 ∨ a.map (·.block) = some j) wr w') : Ak1 w b1 b2 n' a' c' l' mo s w' := by
  have hs := h.bel.size
  have hb2 := h.i.lt
  refine ⟨hO, h.i.touch ht ?_ (fun k hk => ?_), h.bel.trans (ht.below hs fun k hk e => ?_), h.d12, h.h1, h.h2, fun x hx => ?_, h.hm, fun x k hx hk => ?_⟩
  · rintro (e | e)
    · exact h.d12 e.symm
    · exact map_none (P := fun j => j ≠ b2) (fun y hy => (h.ha y hy).2) _ e rfl
  · rintro (e | e)
    · exact (h.hm k hk).2 e
    · exact map_none (P := fun j => j ≠ k) (fun y hy => h.ham y k hy hk) _ e rfl
  · rcases e with e | e
    · have := h.h1; omega
    · have := map_none (P := fun j => w.heap.size ≤ j) (fun y hy => (h.ha y hy).1) _ e; omega
  · rcases hf x hx with e | e
    · exact map_none (P := fun j => w.heap.size ≤ j ∧ j ≠ b2) h.ha _ e
    · exact ⟨by omega, by omega⟩
  · rcases hf x hx with e | e
    · exact map_none (P := fun j => j ≠ k) (fun y hy => h.ham y k hy hk) _ e
    · have := h.i.mlt k hk; omega
/-- And how often each came, at r. -/
structure Ak (w : World) (b1 b2 r n : Nat) (a : Option Addr) (c : Nat) (l : List (Nat × List UInt8)) (mo : Option Nat) (s : Ws) (L : List (Nat × Value)) (wr : World) : Prop where
  k1 : Ak1 w b1 b2 n a c l mo s wr
  g : MpAt .u32 wr r L
  hr : w.heap.size ≤ r
  r1 : r ≠ b1
  r2 : r ≠ b2
  ra : ∀ x, a = some x → x.block ≠ r
  rm : ∀ k, mo = some k → k ≠ r
theorem Ak.keep {w : World} {b1 b2 r n : Nat} {a : Option Addr} {c : Nat} {l : List (Nat × List UInt8)} {mo : Option Nat} {s : Ws} {L : List (Nat × Value)} {wr w' : World} (h : Ak w b1 b2 r n a c l mo s L wr) (hb : Below wr.heap.size wr w') : Ak w b1 b2 r n a c l mo s L w' :=
  ⟨h.k1.keep hb, h.g.touch (touch_of_below (S := fun _ => False) hb) id, h.hr, h.r1, h.r2, h.ra, h.rm⟩
theorem Ak1.made {w : World} {b1 b2 n : Nat} {a : Option Addr} {c : Nat} {l : List (Nat × List UInt8)} {mo : Option Nat} {s : Ws} {wr : World} (h : Ak1 w b1 b2 n a c l mo s wr) : Ak w b1 b2 wr.heap.size n a c l mo s [] (wr.alloc (.map #[] 0)) := by
  have hs := h.bel.size
  have hb1 := h.o.lt
  have hb2 := h.i.lt
  exact ⟨h.keep (bel_alloc (Below.refl _ _) _), MpAt.made .u32 wr, hs, by omega, by omega, fun x hx e => by have := h.o.row.lt x hx; omega, fun k hk e => by have := h.i.mlt k hk; omega⟩
theorem Ak.put {w : World} {b1 b2 r n : Nat} {a : Option Addr} {c : Nat} {l : List (Nat × List UInt8)} {mo mo' : Option Nat} {s s' : Ws} {L : List (Nat × Value)} {wr w' : World} (h : Ak w b1 b2 r n a c l mo s L wr) (hw : WI w' b2 mo' s') (hf : ∀ k, mo' = some k → mo = some k ∨ wr.heap.size ≤ k) (ht : Touch (fun k => k = b2 ∨ mo = some k) wr w') : Ak w b1 b2 r n a c l mo' s' L w' := by
  have hs := h.k1.bel.size
  have hb1 := h.k1.o.lt
  have hrl := h.g.lt
  refine ⟨⟨h.k1.o.touch ht ?_ (fun x hx => ?_), hw, h.k1.bel.trans (ht.below hs fun k hk e => ?_), h.k1.d12, h.k1.h1, h.k1.h2, h.k1.ha, fun k hk => ?_, fun x k hx hk => ?_⟩, h.g.touch ht ?_, h.hr, h.r1, h.r2, h.ra, fun k hk => ?_⟩
  · rintro (e | e)
    · exact h.k1.d12 e
    · exact (h.k1.hm _ e).2 rfl
  · rintro (e | e)
    · exact (h.k1.ha x hx).2 e
    · exact h.k1.ham x _ hx e rfl
  · rcases e with e | e
    · have := h.k1.h2; omega
    · have := (h.k1.hm _ e).1; omega
  · rcases hf k hk with e | e
    · exact h.k1.hm k e
    · exact ⟨by omega, by omega⟩
  · rcases hf k hk with e | e
    · exact h.k1.ham x k hx e
    · have := h.k1.o.row.lt x hx; omega
  · rintro (e | e)
    · exact h.r2 e
    · exact h.rm _ e rfl
  · rcases hf k hk with e | e
    · exact h.rm k e
    · omega
theorem Ak.upd {w : World} {b1 b2 r n : Nat} {a : Option Addr} {c : Nat} {l : List (Nat × List UInt8)} {mo : Option Nat} {s : Ws} {L L' : List (Nat × Value)} {wr w' : World} (h : Ak w b1 b2 r n a c l mo s L wr) (hg : MpAt .u32 w' r L') (ht : Touch (fun k => k = r) wr w') : Ak w b1 b2 r n a c l mo s L' w' := by
  have hs := h.k1.bel.size
  exact ⟨⟨h.k1.o.touch ht (fun e => h.r1 e.symm) (fun x hx => h.ra x hx), h.k1.i.touch ht (fun e => h.r2 e.symm) (fun k hk => h.rm k hk), h.k1.bel.trans (ht.below hs fun k hk e => by have := h.hr; omega), h.k1.d12, h.k1.h1, h.k1.h2, h.k1.ha, h.k1.hm, h.k1.ham⟩, hg, h.hr, h.r1, h.r2, h.ra, h.rm⟩
theorem Ak.ack {w : World} {b1 b2 r n : Nat} {a a' : Option Addr} {c c' : Nat} {l l' : List (Nat × List UInt8)} {mo : Option Nat} {s : Ws} {L : List (Nat × Value)} {wr w' : World} (h : Ak w b1 b2 r n a c l mo s L wr) (hO : OAt w' b1 n a' c' l') (hf : ∀ x, a' = some x → wr.heap.size ≤ x.block) (ht : Touch (fun j => j = b1) wr w') : Ak w b1 b2 r n a' c' l' mo s L w' := by
  have hs := h.k1.bel.size
  have hb2 := h.k1.i.lt
  have hrl := h.g.lt
  refine ⟨⟨hO, h.k1.i.touch ht (fun e => h.k1.d12 e.symm) (fun k hk => (h.k1.hm k hk).2), h.k1.bel.trans (ht.below hs fun k hk e => by have := h.k1.h1; omega), h.k1.d12, h.k1.h1, h.k1.h2, fun x hx => ?_, h.k1.hm, fun x k hx hk => ?_⟩, h.g.touch ht h.r1, h.hr, h.r1, h.r2, fun x hx => ?_, h.rm⟩
  · have := hf x hx; exact ⟨by omega, by omega⟩
  · have := hf x hx; have := h.k1.i.mlt k hk; omega
  · have := hf x hx; omega
theorem wrap_add (a d : Nat) : IntKind.u32.wrap ((a : Int) + (d : Int)) = (numW a d : Nat) := by
  unfold numW
  rw [IntKind.wrap_u32]
  omega
theorem zero_int (w : World) : (zeroValue 3).run Try.prog w = .ok (.int .i64 0) w := by kernel_rfl
end Go.Proofs.Ytpilkaggiajjmaa
namespace Go.Proofs.Ytpilkaggiajjmaa
open Go.RowKit
set_option linter.unusedVariables false

/-- The program's at b, the document's in the box at X. -/
structure Ow (w : World) (b X N : Nat) (a : Option Addr) (c : Nat) (l : Its) (n : Nat) (xa : Option Addr) (xc : Nat) (L : Its) (wr : World) : Prop where
  o : OAt wr b N a c l
  x0 : wr.cell? ⟨X, 0, none⟩ = some (.int .i64 (n : Int))
  x1 : wr.cell? ⟨X, 1, none⟩ = some (.slice xa L.length xc)
  f0 : wr.frozen? ⟨X, 0, none⟩ = false
  f1 : wr.frozen? ⟨X, 1, none⟩ = false
  row : RRow wr xa L
  nn : xa = none → L = []
  cap : L.length ≤ xc ∧ xc ≤ maxLen
  hb : w.heap.size ≤ b
  hX : w.heap.size ≤ X
  bX : b ≠ X
  ha : ∀ x, a = some x → w.heap.size ≤ x.block ∧ x.block ≠ X
  hx : ∀ x, xa = some x → w.heap.size ≤ x.block ∧ x.block < wr.heap.size ∧ x.block ≠ b ∧ x.block ≠ X
  hax : ∀ x y, a = some x → xa = some y → x.block ≠ y.block
  bel : Below w.heap.size w wr
theorem Ow.lt {w : World} {b X N : Nat} {a : Option Addr} {c : Nat} {l : Its} {n : Nat} {xa : Option Addr} {xc : Nat} {L : Its} {wr : World} (h : Ow w b X N a c l n xa xc L wr) : X < wr.heap.size := block_lt_of_cell h.x0
theorem Ow.keep {w : World} {b X N : Nat} {a : Option Addr} {c : Nat} {l : Its} {n : Nat} {xa : Option Addr} {xc : Nat} {L : Its} {wr w' : World} (h : Ow w b X N a c l n xa xc L wr) (hb : Below wr.heap.size wr w') : Ow w b X N a c l n xa xc L w' :=
  ⟨h.o.keep hb, (hb.cell (p := ⟨X, 0, none⟩) h.lt).trans h.x0, (hb.cell (p := ⟨X, 1, none⟩) h.lt).trans h.x1, (hb.frozen (p := ⟨X, 0, none⟩) h.lt).trans h.f0, (hb.frozen (p := ⟨X, 1, none⟩) h.lt).trans h.f1, h.row.below hb, h.nn, h.cap, h.hb, h.hX, h.bX, h.ha, (fun x hx => by have g := h.hx x hx; have := hb.size; exact ⟨g.1, by omega, g.2.2⟩), h.hax, h.bel.trans (hb.mono h.bel.size)⟩
/-- The program's part is another one. -/
theorem Ow.prog {w : World} {b X N : Nat} {a : Option Addr} {c : Nat} {l : Its} {n : Nat} {xa : Option Addr} {xc : Nat} {L : Its} {wr : World} (h : Ow w b X N a c l n xa xc L wr) {N' : Nat} {a' : Option Addr} {c' : Nat} {l' : Its} {w' : World} (hO : OAt w' b N' a' c' l') (hf : ∀ x, a' = some x → a.map (·.block) = some x.block ∨ wr.heap.size ≤ x.block) (ht : Touch (fun j => j = b ∨ a.map (·.block) = some j) wr w') : Ow w b X N' a' c' l' n xa xc L w' := by
  have hs := h.bel.size
  have hXl := h.lt
  have sX : ¬ (X = b ∨ a.map (·.block) = some X) := by
    rintro (e | e)
    · exact h.bX e.symm
    · exact map_none (P := fun k => k ≠ X) (fun x hx => (h.ha x hx).2) _ e rfl
  have sx : ∀ x, xa = some x → ¬ (x.block = b ∨ a.map (·.block) = some x.block) := fun x hx => by
    rintro (e | e)
    · exact (h.hx x hx).2.2.1 e
    · exact map_none (P := fun k => k ≠ x.block) (fun y hy => h.hax y x hy hx) _ e rfl
  refine ⟨hO, (ht.cell (p := ⟨X, 0, none⟩) hXl sX).trans h.x0, (ht.cell (p := ⟨X, 1, none⟩) hXl sX).trans h.x1, (ht.frozen (p := ⟨X, 0, none⟩) hXl sX).trans h.f0, (ht.frozen (p := ⟨X, 1, none⟩) hXl sX).trans h.f1, h.row.touch ht sx, h.nn, h.cap, h.hb, h.hX, h.bX, fun x hx => ?_, fun x hx => ?_, fun x y hx hy => ?_, h.bel.trans (ht.below hs fun k hk e => ?_)⟩
  · rcases hf x hx with e | e
    · exact map_none (P := fun k => w.heap.size ≤ k ∧ k ≠ X) h.ha _ e
    · exact ⟨by omega, by omega⟩
  · have g := h.hx x hx
    have := ht.size
    exact ⟨g.1, by omega, g.2.2⟩
  · rcases hf x hx with e | e
    · exact map_none (P := fun k => k ≠ y.block) (fun z hz => h.hax z y hz hy) _ e
    · have := (h.hx y hy).2.1; omega
  · rcases e with e | e
    · have := h.hb; omega
    · have := map_none (P := fun k => w.heap.size ≤ k) (fun x hx => (h.ha x hx).1) _ e; omega
/-- The document's answer goes into its box. -/
theorem Ow.ref {w : World} {b X N : Nat} {a : Option Addr} {c : Nat} {l : Its} {n : Nat} {xa : Option Addr} {xc : Nat} {L : Its} {wr : World} (h : Ow w b X N a c l n xa xc L wr) {n' : Nat} {xa' : Option Addr} {xc' : Nat} {L' : Its} {w1 : World} (hr : RNew wr xa xa' xc' L' w1) (k : Nat) (hk : L'.length = k) :
    Ow w b X N a c l n' xa' xc' L' ((w1.setCell ⟨X, 0, none⟩ (.int .i64 (n' : Int))).setCell ⟨X, 1, none⟩ (.slice xa' k xc')) := by
  subst hk
  have h1 := h.keep hr.bel
  have ht := set2_touch w1 X (.int .i64 (n' : Int)) (.slice xa' L'.length xc')
  have hfr : ∀ x, xa' = some x → w.heap.size ≤ x.block ∧ x.block < w1.heap.size ∧ x.block ≠ b ∧ x.block ≠ X := fun x hx => by
    rcases hr.fresh with e | e
    · exact h1.hx x (by rw [← e]; exact hx)
    · have := e x hx
      have := h.o.lt
      have := h.lt
      have := h.hb
      have := h.bel.size
      exact ⟨by omega, by omega, by omega, by omega⟩
  have x0 : (w1.setCell ⟨X, 0, none⟩ (.int .i64 (n' : Int))).cell? ⟨X, 0, none⟩ = some (.int .i64 (n' : Int)) := World.cell?_setCell_same _ _ _ h1.x0
  have x1 : (w1.setCell ⟨X, 0, none⟩ (.int .i64 (n' : Int))).cell? ⟨X, 1, none⟩ = some (.slice xa L.length xc) := (World.cell?_setCell_other _ _ _ _ (by simp)).trans h1.x1
  refine ⟨h1.o.touch ht h1.bX (fun x hx => (h1.ha x hx).2), (World.cell?_setCell_other _ _ _ _ (by simp)).trans x0, World.cell?_setCell_same _ _ _ x1, by simpa using h1.f0, by simpa using h1.f1, hr.row.touch ht (fun x hx => (hfr x hx).2.2.2), hr.nn, ⟨hr.cap, hr.cmax⟩, h1.hb, h1.hX, h1.bX, h1.ha, fun x hx => ?_, fun x y hx hy => ?_, h1.bel.trans (ht.below h1.bel.size fun k hk e => by have := h1.hX; omega)⟩
  · have g := hfr x hx
    have := ht.size
    exact ⟨g.1, by omega, g.2.2⟩
  · rcases hr.fresh with e | e
    · exact h.hax x y hx (by rw [← e]; exact hy)
    · have := (e y hy).1
      have := h.o.row.lt x hx
      omega
/-- The number of a place: the first one is that of 1000. -/
def bas (first : Nat) : Nat := first + 4294967296 - 1000
theorem num_bas (first n : Nat) : (((first : Int) + ((n : Int) - 1000) % 4294967296) % 4294967296) = (numW (bas first) n : Nat) := by
  unfold numW bas; omega
theorem num_bas0 (first : Nat) (h : first < 4294967296) : numW (bas first) 1000 = first := by unfold numW bas; omega
theorem Ow.start {w : World} {b first : Nat} {w2 : World} (hf : first < 4294967296) (ho : O0At w2 b first) (hb : w.heap.size ≤ b) (h2 : Below w.heap.size w w2) (ty : TypeId) : Ow w b w2.heap.size (numW (bas first) 1000) none 0 (numL (bas first) []) 1000 none 0 [] (w2.alloc (.cells #[.int .i64 1000, .slice none 0 0] ty)) := by
  rw [num_bas0 first hf]
  have hA : Below w2.heap.size w2 (w2.alloc (.cells #[.int .i64 1000, .slice none 0 0] ty)) := bel_alloc (Below.refl _ _) _
  have hs := h2.size
  have hbl := ho.lt
  exact ⟨(ho.oat hf).keep hA, new_cell rfl rfl, new_cell rfl rfl, frozen_new _ _ _ _, frozen_new _ _ _ _, (fun h => by simp at h), (fun _ => rfl), ⟨by simp, by unfold maxLen; omega⟩, hb, hs, by omega, (fun x hx => by cases hx), (fun x hx => by cases hx), (fun x y hx => by cases hx), bel_alloc h2 _⟩
end Go.Proofs.Ytpilkaggiajjmaa
namespace Go.Proofs.Ytpilkaggiajjmaa
open Go.RowKit Go.WideShapes Go.ChangeShapes
set_option linter.unusedVariables false

def ValArg (k : Nat) (P : List Value → Prop) (w : World) (a : Option Addr) (len cap : Nat) (ls : List (List Value)) : Prop :=
  len = ls.length ∧ len ≤ cap ∧ cap ≤ maxLen ∧ VRow k w a ls ∧ ∀ r ∈ ls, P r
theorem vlist_2 {α : Type} {l : List α} (h : l.length = 2) : ∃ a b, l = [a, b] := by
  match l, h with
  | [a, b], _ => exact ⟨a, b, rfl⟩
theorem vlist_4 {α : Type} {l : List α} (h : l.length = 4) : ∃ a b c d, l = [a, b, c, d] := by
  match l, h with
  | [a, b, c, d], _ => exact ⟨a, b, c, d, rfl⟩
theorem valArg_of (k : Nat) (hk : 0 < k) {P : List Value → Prop} {w : World} {ad : Addr} {len cap : Nat} (hl : len ≤ cap) (hm : cap ≤ maxLen)
    (each : ∀ i, i < len → ∃ r : List Value, r.length = k ∧ (∀ j, j < k → w.cell? (ad.add (i * k + j)) = r[j]?) ∧ P r) : ∃ ls, ValArg k P w (some ad) len cap ls := by
  let F : Nat → List Value := fun i => if hi : i < len then (each i hi).choose else []
  have hF : ∀ i, i < len → (F i).length = k ∧ (∀ j, j < k → w.cell? (ad.add (i * k + j)) = (F i)[j]?) ∧ P (F i) := by
    intro i hi
    have := (each i hi).choose_spec
    simp only [F, hi, dif_pos]
    exact this
  clear_value F
  refine ⟨(List.range len).map F, by simp, hl, hm, fun h0 => ?_, fun x hx => ?_⟩
  · obtain ⟨b, off, spot⟩ := ad
    have hlen : 0 < len := by simpa using h0
    have h00 := (hF 0 hlen).2.1 0 hk
    have h0k := (hF 0 hlen).1
    rw [List.getElem?_eq_getElem (show 0 < (F 0).length by omega)] at h00
    have hspot : spot = none := by simpa [Addr.add] using World.cell?_spot h00
    subst hspot
    refine ⟨b, off, rfl, fun i hi j hj => ?_⟩
    have hil : i < len := by simpa using hi
    simp only [List.getElem_map, List.getElem_range]
    have h1 := (hF i hil).2.1 j hj
    have hjk := (hF i hil).1
    rw [List.getElem?_eq_getElem (show j < (F i).length by omega)] at h1 ⊢
    rw [Nat.add_assoc]
    exact cell_addN h1
  · simp only [List.mem_map, List.mem_range] at hx
    obtain ⟨i, hi, rfl⟩ := hx
    exact (hF i hi).2.2
def ptsR (r : List Value) : Prop := ∃ k0 k1, r = [.bool k0, .string k1] ∧ k1.size ≤ maxLen
theorem pts_of {H : Type} {enc : TypeId × Value → H} {w : World} {base : Nat} {sp : Nat → Bool} {held : Bool} {fuel : Nat} {a : Option Addr} {len cap : Nat} {x : DataW H × List MemPlace} (h : DataW.trod enc Try.prog w base sp held fuel 166 [.slice a len cap] = some x) : ∃ ls, ValArg 2 ptsR w a len cap ls := by
  rcases Deep.open_slice Try.underlying166 h with ⟨hcs, _⟩ | ⟨ad, l, c, m, n, D, Pl, hcs, _, hl, hm, hmm, _, hx⟩
  · simp at hcs
    obtain ⟨rfl, rfl, rfl⟩ := hcs
    exact ⟨[], rfl, Nat.le_refl _, by simp [maxLen], fun h => by simp at h, fun x hx => by simp at hx⟩
  · simp at hcs
    obtain ⟨rfl, rfl, rfl⟩ := hcs
    have hmc : len ≤ m := by rw [hmm]; split <;> omega
    have cS : Try.prog.cellsOf 170 = 2 := by kernel_rfl
    have c_bool : Try.prog.cellsOf 4 = 1 := by kernel_rfl
    have c_string : Try.prog.cellsOf 9 = 1 := by kernel_rfl
    rw [cS] at hx
    have each : ∀ i, i < len → ∃ r : List Value, r.length = 2 ∧ (∀ j, j < 2 → w.cell? (ad.add (i * 2 + j)) = r[j]?) ∧ ptsR r := by
      intro i hi
      obtain ⟨cs', hc, ht⟩ := hx i (by omega)
      obtain ⟨ys, n', hn', hy, hlen, hyl, hf⟩ := DataW.trod_struct Try.underlying170 ht
      obtain ⟨_, hcl, hat⟩ := World.cells?_some hc
      obtain ⟨v0, v1, rfl⟩ := vlist_2 hcl
      obtain ⟨y0, y1, rfl⟩ := vlist_2 (show ys.length = 2 by simpa using hyl)
      have g0 : DataW.trod enc Try.prog w base sp held n' 4 [v0] = some y0 := by simpa [c_bool, c_string] using hf 0 _ rfl
      have g1 : DataW.trod enc Try.prog w base sp held n' 9 [v1] = some y1 := by simpa [c_bool, c_string] using hf 1 _ rfl
      obtain ⟨k0, q0, _⟩ := DataW.trod_bool Try.underlying4 g0
      obtain ⟨k1, q1, _, wf1⟩ := DataW.trod_string Try.underlying9 g1
      simp only [List.cons.injEq, and_true] at q0 q1
      subst q0 q1
      refine ⟨[.bool k0, .string k1], rfl, fun j hj => ?_, ⟨_, _, rfl, wf1⟩⟩
      have a0 := hat j (by simpa using hj)
      rw [Deep.add_add] at a0
      exact a0
    exact valArg_of 2 (by decide) hl hm each

def acts13R (r : List Value) : Prop := ∃ k0 k1 k2 k3, r = [.int .i64 k0, .int .i64 k1, .int .u32 k2, .string k3] ∧ (Lit.int .i64 k0).wf = true ∧ (Lit.int .i64 k1).wf = true ∧ (Lit.int .u32 k2).wf = true ∧ k3.size ≤ maxLen
theorem acts13_of {H : Type} {enc : TypeId × Value → H} {w : World} {base : Nat} {sp : Nat → Bool} {held : Bool} {fuel : Nat} {a : Option Addr} {len cap : Nat} {x : DataW H × List MemPlace} (h : DataW.trod enc Try.prog w base sp held fuel 23 [.slice a len cap] = some x) : ∃ ls, ValArg 4 acts13R w a len cap ls := by
  rcases Deep.open_slice Try.underlying23 h with ⟨hcs, _⟩ | ⟨ad, l, c, m, n, D, Pl, hcs, _, hl, hm, hmm, _, hx⟩
  · simp at hcs
    obtain ⟨rfl, rfl, rfl⟩ := hcs
    exact ⟨[], rfl, Nat.le_refl _, by simp [maxLen], fun h => by simp at h, fun x hx => by simp at hx⟩
  · simp at hcs
    obtain ⟨rfl, rfl, rfl⟩ := hcs
    have hmc : len ≤ m := by rw [hmm]; split <;> omega
    have cS : Try.prog.cellsOf 31 = 4 := by kernel_rfl
    have c_int : Try.prog.cellsOf 3 = 1 := by kernel_rfl
    have c_string : Try.prog.cellsOf 9 = 1 := by kernel_rfl
    have c_uint32 : Try.prog.cellsOf 22 = 1 := by kernel_rfl
    rw [cS] at hx
    have each : ∀ i, i < len → ∃ r : List Value, r.length = 4 ∧ (∀ j, j < 4 → w.cell? (ad.add (i * 4 + j)) = r[j]?) ∧ acts13R r := by
      intro i hi
      obtain ⟨cs', hc, ht⟩ := hx i (by omega)
      obtain ⟨ys, n', hn', hy, hlen, hyl, hf⟩ := DataW.trod_struct Try.underlying31 ht
      obtain ⟨_, hcl, hat⟩ := World.cells?_some hc
      obtain ⟨v0, v1, v2, v3, rfl⟩ := vlist_4 hcl
      obtain ⟨y0, y1, y2, y3, rfl⟩ := vlist_4 (show ys.length = 4 by simpa using hyl)
      have g0 : DataW.trod enc Try.prog w base sp held n' 3 [v0] = some y0 := by simpa [c_int, c_string, c_uint32] using hf 0 _ rfl
      have g1 : DataW.trod enc Try.prog w base sp held n' 3 [v1] = some y1 := by simpa [c_int, c_string, c_uint32] using hf 1 _ rfl
      have g2 : DataW.trod enc Try.prog w base sp held n' 22 [v2] = some y2 := by simpa [c_int, c_string, c_uint32] using hf 2 _ rfl
      have g3 : DataW.trod enc Try.prog w base sp held n' 9 [v3] = some y3 := by simpa [c_int, c_string, c_uint32] using hf 3 _ rfl
      obtain ⟨k0, q0, _, wf0⟩ := DataW.trod_int Try.underlying3 g0
      obtain ⟨k1, q1, _, wf1⟩ := DataW.trod_int Try.underlying3 g1
      obtain ⟨k2, q2, _, wf2⟩ := DataW.trod_int Try.underlying22 g2
      obtain ⟨k3, q3, _, wf3⟩ := DataW.trod_string Try.underlying9 g3
      simp only [List.cons.injEq, and_true] at q0 q1 q2 q3
      subst q0 q1 q2 q3
      refine ⟨[.int .i64 k0, .int .i64 k1, .int .u32 k2, .string k3], rfl, fun j hj => ?_, ⟨_, _, _, _, rfl, wf0, wf1, wf2, wf3⟩⟩
      have a0 := hat j (by simpa using hj)
      rw [Deep.add_add] at a0
      exact a0
    exact valArg_of 4 (by decide) hl hm each

end Go.Proofs.Ytpilkaggiajjmaa
namespace Go.Proofs.Ytpilkaggiajjmaa
open Go.RowKit
set_option linter.unusedVariables false

theorem nat32' {a : Int} (h : (Lit.int .u32 a).wf = true) : ∃ n : Nat, a = (n : Int) ∧ n < 4294967296 := by
  have h2 : 0 ≤ a ∧ a ≤ 4294967295 := by simpa [Lit.wf, IntKind.min, IntKind.max, IntKind.signed, IntKind.bits] using h
  exact ⟨a.toNat, by omega, by omega⟩
set_option maxRecDepth 100000 in
set_option maxHeartbeats 2000000 in
/-- An ack of what wasn't sent. -/
theorem outAck_no (b n : Nat) (a : Option Addr) (c : Nat) (l : Its) (nx B : Nat) (w : World) (h : OAt w b n a c l) (hx : nx < 4294967296) (hne : nx ≠ n) (hbf : belowB nx n = false) :
    Calls Try.prog 19 #[.pointer (some ⟨b, 0, none⟩), .agg #[.int .u32 (nx : Int), .int .u32 (B : Int)]] w fun r w' => r = .returned (.slice none 0 0) ∧ Below w.heap.size w w' := by
  have hA : Below w.heap.size w (w.alloc (.cells #[.int .u32 (nx : Int), .int .u32 (B : Int)] 43)) := bel_alloc (Below.refl _ _) _
  have x0 : (w.alloc (.cells #[.int .u32 (nx : Int), .int .u32 (B : Int)] 43)).cell? ⟨w.heap.size, 0, none⟩ = some (.int .u32 (nx : Int)) := by simp
  have HBEL := Lib.hid (fun W => below_any nx n hx h.nx W)
  rw [hbf] at HBEL
  have HO := Lib.hid (h.keep hA)
  have HA := Lib.hid hA
  have hc1 : ((nx : Int) != (n : Int)) = true := by rw [bne_iff_ne]; omega
  clear h hA hne hbf
  go_enter Try.func19, Try.ntmps19
  go_upto_region 1 with (fail)
  have y0 := HO.out.c0
  have hbl := HO.out.lt
  have hXl := block_lt_of_cell x0
  simp only at hXl
  go_quiet ((go_at_call 55; exact Calls.quiet_of_same (HBEL.out _)))
  have HA1 := Lib.hid (HA.out.trans ((drewN_bel _ nq).mono HA.out.size))
  go_wp2
  go_ret
  exact ⟨rfl, HA1.out⟩
/-- What an ack tells, of what was sent or not. -/
def gR (n A B : Nat) (L : Its) : List Nat := if A ≤ n then goneR A B L else []
def lR (n A B : Nat) (L : Its) : Its := if A ≤ n then leftR A B L else L
theorem gR_mem {n A B : Nat} {L : Its} {y : Nat} (h : y ∈ gR n A B L) : ∃ p ∈ L, p.1 = y := by
  unfold gR at h
  split at h
  · obtain ⟨p, hp, rfl⟩ := List.mem_map.1 h
    exact ⟨p, (List.mem_filter.1 hp).1, rfl⟩
  · simp at h
theorem gR_len (n A B : Nat) (L : Its) : (gR n A B L).length ≤ L.length := by
  unfold gR
  split
  · exact (gone_len A B L).1
  · simp
theorem lR_ok {n A B : Nat} {L : Its} (h : OutR n L) : OutR n (lR n A B L) := by
  unfold lR
  split
  · exact h.filter _
  · exact h
def OAck2 (w : World) (b N F : Nat) (a : Option Addr) (G : List Nat) (R : Its) (r : Ending) (w' : World) : Prop :=
  ∃ a1 c1 a2 c2, r = .returned (.slice a1 G.length c1) ∧ OAt w' b N a2 c2 (numL F R) ∧ VRow 1 w' a1 ((G.map (numW F)).map u32C) ∧ (∀ x, a1 = some x → w.heap.size ≤ x.block) ∧ (∀ x, a2 = some x → a.map (·.block) = some x.block ∨ w.heap.size ≤ x.block) ∧ Touch (fun j => j = b) w w'
theorem outAck_two (b F n A B : Nat) (a : Option Addr) (c : Nat) (L : Its) (w : World) (h : OAt w b (numW F n) a c (numL F L)) (hor : OutR n L) (hn : n ≤ 10000) (hA : A ≤ 10000) (hB : B < 4294967296) :
    Calls Try.prog 19 #[.pointer (some ⟨b, 0, none⟩), .agg #[.int .u32 (numW F A : Int), .int .u32 (B : Int)]] w (OAck2 w b (numW F n) F a (gR n A B L) (lR n A B L)) := by
  have hll := hor.len
  by_cases hAn : A ≤ n
  · obtain ⟨e1, e2⟩ := ack_num F A B L (by omega) (fun p hp => by have := hor.lt p hp; omega)
    refine (outAck_ok b (numW F n) a c (numL F L) (numW F A) B w h (by rw [numL_len]; omega) (numL_lt _ _) (numW_lt _ _) hB (go_num13 F A n (by omega) (by omega) hAn)).mono ?_
    rintro r w' ⟨a1, c1, a2, c2, rfl, h1, h2, h3, h4, h5⟩
    rw [e2] at h1
    rw [e1] at h2 ⊢
    have eg : gR n A B L = goneR A B L := by unfold gR; rw [if_pos hAn]
    have el : lR n A B L = leftR A B L := by unfold lR; rw [if_pos hAn]
    rw [eg, el]
    exact ⟨a1, c1, a2, c2, by rw [List.length_map], h1, h2.row (num_wide _), h2.2, fun x hx => .inr (h3 x hx), h5⟩
  · obtain ⟨e1, e2⟩ := no_num13 F A n (by omega) (by omega) (by omega)
    refine (outAck_no b (numW F n) a c (numL F L) (numW F A) B w h (numW_lt _ _) e1 e2).mono ?_
    rintro r w' ⟨rfl, hb⟩
    have eg : gR n A B L = [] := by unfold gR; rw [if_neg hAn]
    have el : lR n A B L = L := by unfold lR; rw [if_neg hAn]
    rw [eg, el]
    exact ⟨none, 0, a, c, rfl, h.keep hb, (fun h => by simp at h), (fun x hx => by cases hx), (fun x hx => .inl (by rw [hx]; rfl)), touch_of_below hb⟩
theorem ref13Ack_two (a : Option Addr) (c n A B : Nat) (L : Its) (w : World) (hn : n ≤ 10000) (hA : A ≤ 10000) (hB : B < 4294967296) (hor : OutR n L) (hr : RRow w a L) (hnn : a = none → L = []) (hc : L.length ≤ c ∧ c ≤ maxLen) :
    Calls Try.prog 20 #[.agg #[.int .i64 (n : Int), .slice a L.length c], .int .i64 (A : Int), .int .u32 (B : Int)] w (A13Post w a n (lR n A B L) (gR n A B L)) := by
  have hll := hor.len
  by_cases hAn : A ≤ n
  · have eg : gR n A B L = goneR A B L := by unfold gR; rw [if_pos hAn]
    have el : lR n A B L = leftR A B L := by unfold lR; rw [if_pos hAn]
    rw [eg, el]
    exact ref13Ack_yes a c n A B L w (by omega) hn hAn hB (fun p hp => by have := hor.lt p hp; omega) hr
  · have eg : gR n A B L = [] := by unfold gR; rw [if_neg hAn]
    have el : lR n A B L = L := by unfold lR; rw [if_neg hAn]
    rw [eg, el]
    exact ref13Ack_no a c n A B L w hn (by omega) hr hnn hc
theorem VRow.at1 {w : World} {a : Option Addr} {f : Nat → List Value} {g : Nat → Value} (hf : ∀ n, f n = [g n]) {ms : List Nat} (h : VRow 1 w a (ms.map f)) {j : Nat} (hj : j < ms.length) : ∃ b off, a = some ⟨b, off, none⟩ ∧ b < w.heap.size ∧ w.cell? ⟨b, off + j, none⟩ = some (g ms[j]) := by
  have hlen : (ms.map f).length = ms.length := by simp
  obtain ⟨b, off, e1, hc⟩ := h (by rw [hlen]; omega)
  have h1 := hc j (by rw [hlen]; exact hj) 0 (by decide)
  rw [Nat.mul_one, Nat.add_zero] at h1
  have h2 : w.cell? ⟨b, off + j, none⟩ = some (g ms[j]) := by rw [h1]; simp [hf]
  exact ⟨b, off, e1, block_lt_of_cell h2, h2⟩
end Go.Proofs.Ytpilkaggiajjmaa
namespace Go.Proofs.Ytpilkaggiajjmaa
open Go.RowKit
set_option linter.unusedVariables false

def atR (n : Nat) (L : Its) (k : Nat) : Bool := L.any (fun p => p.1 == n + k + 1)
def bitsR (n : Nat) (L : Its) : Nat → Nat
  | 0 => 0
  | k + 1 => bitsR n L k + (if atR n L k = true then 2 ^ k else 0)
theorem bitsR_lt (n : Nat) (L : Its) : ∀ k, bitsR n L k < 2 ^ k
  | 0 => by simp [bitsR]
  | k + 1 => by
    have := bitsR_lt n L k
    unfold bitsR
    rw [Nat.pow_succ]
    split <;> omega
theorem bitsR_test (n : Nat) (L : Its) : ∀ k j, (bitsR n L k).testBit j = (decide (j < k) && atR n L j)
  | 0, j => by simp [bitsR]
  | k + 1, j => by
    have ih := bitsR_test n L k
    have hlt := bitsR_lt n L k
    have hlt1 := bitsR_lt n L (k + 1)
    unfold bitsR at hlt1 ⊢
    cases ha : atR n L k with
    | false =>
      rw [if_neg (by simp), Nat.add_zero, ih j]
      by_cases hj : j = k
      · subst hj; rw [ha]; simp
      · have e : decide (j < k) = decide (j < k + 1) := by
          by_cases h : j < k
          · rw [decide_eq_true h, decide_eq_true (by omega)]
          · rw [decide_eq_false h, decide_eq_false (by omega)]
        rw [e]
    | true =>
      rw [ha, if_pos rfl] at hlt1
      rw [if_pos rfl, Nat.add_comm]
      rcases Nat.lt_trichotomy j k with h | h | h
      · rw [Nat.testBit_two_pow_add_gt h, ih j, decide_eq_true h, decide_eq_true (by omega)]
      · subst h
        rw [Nat.testBit_two_pow_add_eq, ih j, ha, decide_eq_false (Nat.lt_irrefl _), decide_eq_true (by omega)]; rfl
      · rw [decide_eq_false (by omega), Bool.false_and]
        apply Nat.testBit_lt_two_pow
        have : 2 ^ (k + 1) ≤ 2 ^ j := Nat.pow_le_pow_right (by decide) h
        omega
theorem bitsR_eq {n B : Nat} {L : Its} (hB : B < 4294967296) (h : ∀ k, B.testBit k = true ↔ ∃ p ∈ L, p.1 = n + k + 1) (hi : ∀ p ∈ L, p.1 ≤ n + 32) : bitsR n L 32 = B := by
  apply Nat.eq_of_testBit_eq
  intro k
  rw [bitsR_test, Bool.eq_iff_iff, h k]
  unfold atR
  rw [Bool.and_eq_true, decide_eq_true_iff, List.any_eq_true]
  constructor
  · rintro ⟨-, p, hp, he⟩
    exact ⟨p, hp, by simpa using he⟩
  · rintro ⟨p, hp, he⟩
    have := hi p hp
    exact ⟨by omega, p, hp, by simpa using he⟩
theorem at_yes {n k : Nat} {L : Its} {z : Int} (h : Find13 L (n + k + 1) z) : (atR n L k = true ∧ ∃ j : Nat, z = (j : Int)) ∨ (atR n L k = false ∧ z = -1) := by
  rcases h with ⟨j, hj, hz, he⟩ | ⟨hz, hno⟩
  · left
    refine ⟨?_, j, hz⟩
    unfold atR
    rw [List.any_eq_true]
    exact ⟨L[j], List.getElem_mem hj, by simpa using he⟩
  · right
    refine ⟨?_, hz⟩
    unfold atR
    rw [List.any_eq_false]
    intro p hp
    simpa using hno p hp
def Bits13 (n : Nat) (L : Its) (w : World) (r : Ending) (w' : World) : Prop := r = .returned (.int .u32 (bitsR n L 32 : Int)) ∧ Below w.heap.size w w'
set_option maxRecDepth 100000 in
set_option maxHeartbeats 1000000 in
theorem bits13_any (a : Option Addr) (c n : Nat) (L : Its) (w : World) (hl : L.length ≤ 1000) (hn : n ≤ 10000) (hr : RRow w a L) :
    Calls Try.prog 29 #[.agg #[.int .i64 (n : Int), .slice a L.length c]] w (Bits13 n L w) := by
  have HR := Lib.hid hr
  have HFI := Lib.hid (fun (k : Nat) W hr => find13_any a c L (n + k + 1) W hl hr)
  have HB0 : Hid (Below w.heap.size w (w.alloc (.cells #[.int .i64 (n : Int), .slice a L.length c] 56))) := Lib.hid (bel_alloc (Below.refl _ _) _)
  have x0 : (w.alloc (.cells #[.int .i64 (n : Int), .slice a L.length c] 56)).cell? ⟨w.heap.size, 0, none⟩ = some (.int .i64 (n : Int)) := by simp
  have x1 : (w.alloc (.cells #[.int .i64 (n : Int), .slice a L.length c] 56)).cell? ⟨w.heap.size, 1, none⟩ = some (.slice a L.length c) := by simp
  have HX := Lib.hid (And.intro x0 x1)
  generalize hpost : Bits13 n L w = Post
  have HPost := Lib.hid hpost
  clear hpost hr x0 x1
  go_enter Try.func29, Try.ntmps29
  go_wp2
  generalize w.alloc (.cells #[.int .i64 (n : Int), .slice a L.length c] 56) = W1 at HB0 HX ⊢
  go_loopw [3, 4, 5] (fun v3 v4 v5 wr => ∃ k : Nat, k ≤ 32 ∧ v3 = .int .u32 (bitsR n L k : Int) ∧ v4 = .int .u32 ((2 ^ k % 4294967296 : Nat) : Int) ∧ v5 = .int .i64 k ∧ Hid ((wr.cell? ⟨w.heap.size, 0, none⟩ = some (.int .i64 (n : Int)) ∧ wr.cell? ⟨w.heap.size, 1, none⟩ = some (.slice a L.length c)) ∧ Below w.heap.size w wr)) (fun _ _ v5 _ => 32 - (intOf v5).toNat)
  case atStart => exact ⟨0, by omega, rfl, rfl, rfl, Lib.hid ⟨HX.out, HB0.out⟩⟩
  case round =>
    obtain ⟨k, hk, rfl, rfl, rfl, HM⟩ := hrel
    by_cases hlt : k < 32
    · obtain ⟨⟨y0, y1⟩, hbel⟩ := HM.out
      have hbl := block_lt_of_cell y0
      simp only at hbl
      have HFK := Lib.hid (HFI.out k wr (HR.out.below hbel))
      have hcast : (((n + k + 1 : Nat) : Int)) = (n : Int) + (k : Int) + 1 := by omega
      have HFK2 := Lib.hid (show Calls Try.prog 59 #[.slice a L.length c, .int .i64 ((n : Int) + (k : Int) + 1)] wr _ from by rw [← hcast]; exact HFK.out)
      have hi1 : (k : Int) < 32 := by omega
      have hnn : (n : Int) ≤ 10000 := by omega
      have HBK := Lib.hid (show bitsR n L (k + 1) = bitsR n L k + (if atR n L k = true then 2 ^ k else 0) from rfl)
      have hb1 := bitsR_lt n L k
      have hb2 := bitsR_lt n L (k + 1)
      have hp1 : 2 ^ k ≤ 2147483648 := by
        have : 2 ^ k ≤ 2 ^ 31 := Nat.pow_le_pow_right (by decide) (by omega)
        exact this
      have hp2 : 2 ^ (k + 1) = 2 ^ k * 2 := Nat.pow_succ ..
      have hpm : 2 ^ k % 4294967296 = 2 ^ k := Nat.mod_eq_of_lt (by omega)
      have hb3 : bitsR n L k < 4294967296 := by omega
      have hb4 : bitsR n L (k + 1) < 4294967296 := by omega
      have HP2 : Hid ((2 ^ (k + 1) % 4294967296 : Nat) = 2 ^ k * 2 % 4294967296) := Lib.hid (by rw [hp2])
      rw [hpm]
      generalize hbk : bitsR n L k = bk at hb1 hb3 HBK
      generalize 2 ^ k = pk at hb1 hp1 HBK HP2
      clear hcast hpm hp2 hb1 hb2 HFK hbel hbk
      go_wp2_with fail
      refine HFK2.out.mono ?_
      rintro r w4 ⟨⟨z, rfl, hf⟩, hb⟩
      have HM4 : Hid ((w4.cell? ⟨w.heap.size, 0, none⟩ = some (.int .i64 (n : Int)) ∧ w4.cell? ⟨w.heap.size, 1, none⟩ = some (.slice a L.length c)) ∧ Below w.heap.size w w4) := Lib.hid ⟨⟨(hb.cell (p := ⟨w.heap.size, 0, none⟩) hbl).trans y0, (hb.cell (p := ⟨w.heap.size, 1, none⟩) hbl).trans y1⟩, HM.out.2.trans (hb.mono HM.out.2.size)⟩
      have hcs := at_yes hf
      clear hf hb HM HFK2 y0 y1 hbl
      rcases hcs with ⟨ha, j, rfl⟩ | ⟨ha, rfl⟩
      · rw [ha, if_pos rfl] at HBK
        have hs4 : (bk : Int) + (pk : Int) < 4294967296 := by have := HBK.out; omega
        have hj0 : (0 : Int) ≤ (j : Int) := by omega
        clear ha
        go_wp2
        go_roundw
        case rel => exact ⟨k + 1, by omega, by rw [HBK.out]; go_num, by rw [HP2.out]; go_num, by go_num, HM4⟩
        case measure => simp [intOf] <;> omega
      · rw [ha, if_neg (by simp)] at HBK
        clear ha
        go_wp2
        go_roundw
        case rel => exact ⟨k + 1, by omega, by rw [HBK.out]; go_num, by rw [HP2.out]; go_num, by go_num, HM4⟩
        case measure => simp [intOf] <;> omega
    · obtain rfl : k = 32 := by omega
      have HF : Hid (Bits13 n L w (.returned (.int .u32 (bitsR n L 32 : Int))) wr) := Lib.hid ⟨rfl, HM.out.2⟩
      rw [HPost.out] at HF
      generalize bitsR n L 32 = q at HF
      go_wp2
      exact HF.out
end Go.Proofs.Ytpilkaggiajjmaa
namespace Go.Proofs.Ytpilkaggiajjmaa
open Go.RowKit
set_option linter.unusedVariables false

theorem fw_none {L : Its} {x : Nat} (h : ∀ p ∈ L, p.1 ≠ x) : findW L x = none := by
  unfold findW
  rw [List.find?_eq_none.2 (fun p hp => by simpa using h p hp)]; rfl
theorem find13_fw {L : Its} {x : Nat} {z : Int} (h : Find13 L x z) (nd : (L.map (·.1)).Nodup) : (∃ k, ∃ hk : k < L.length, z = (k : Int) ∧ L[k].1 = x ∧ findW L x = some L[k].2) ∨ (z = -1 ∧ findW L x = none) := by
  rcases h with ⟨k, hk, hz, he⟩ | ⟨hz, hno⟩
  · exact .inl ⟨k, hk, hz, he, findW_at13 nd hk he⟩
  · exact .inr ⟨hz, fw_none hno⟩
def P13 (w : World) (a0 : Option Addr) (t : (Nat × Its × List (List UInt8)) × Nat) (r : Ending) (w' : World) : Prop :=
  ∃ a c a1 c1, r = .returned (.tuple #[.agg #[.int .i64 (t.1.1 : Int), .slice a t.1.2.1.length c], .slice a1 t.1.2.2.length c1, .int .i64 (t.2 : Int)]) ∧ RNew w a0 a c t.1.2.1 w' ∧ VRow 1 w' a1 (t.1.2.2.map strCells1) ∧ (∀ x, a1 = some x → w.heap.size ≤ x.block)
abbrev w3_13 (w : World) (n : Nat) (a : Option Addr) (m c x : Nat) (t : List UInt8) : World := ((w.alloc (.cells #[.int .i64 (n : Int), .slice a m c] 56)).alloc (.cells #[.int .i64 (x : Int), .string (bs t)] 39)).alloc (.cells #[.int .i64 0, .slice none 0 0] 56)
theorem w3_bel (w : World) (n : Nat) (a : Option Addr) (m c x : Nat) (t : List UInt8) : Below w.heap.size w (w3_13 w n a m c x t) := bel_alloc (bel_alloc (bel_alloc (Below.refl _ _) _) _) _
/-- What is put nowhere. -/
theorem p13_no {w w1 : World} {a : Option Addr} {c n : Nat} {L : Its} (hb : Below w.heap.size w w1) (hr : RRow w a L) (hnn : a = none → L = []) (hc : L.length ≤ c ∧ c ≤ maxLen) (ha : ∀ x, a = some x → x.block < w.heap.size) (e R : Nat) (hR : w.heap.size ≤ R) (u v : Value) : P13 w a ((n, L, []), e) (.returned (.tuple #[.agg #[.int .i64 (n : Int), .slice a L.length c], .slice none 0 0, .int .i64 (e : Int)])) ((w1.setCell ⟨R, 0, none⟩ u).setCell ⟨R, 1, none⟩ v) :=
  ⟨a, c, none, 0, rfl, RNew.set2 (w1 := w1) ⟨hr.below hb, hnn, hc.1, hc.2, .inl rfl, hb⟩ hR (fun x hx => by have := ha x hx; omega) u v, (fun h => by simp at h), (fun x hx => by cases hx)⟩
theorem p13_no0 {w w1 : World} {a : Option Addr} {c n : Nat} {L : Its} (hb : Below w.heap.size w w1) (hr : RRow w a L) (hnn : a = none → L = []) (hc : L.length ≤ c ∧ c ≤ maxLen) (e : Nat) : P13 w a ((n, L, []), e) (.returned (.tuple #[.agg #[.int .i64 (n : Int), .slice a L.length c], .slice none 0 0, .int .i64 (e : Int)])) w1 :=
  ⟨a, c, none, 0, rfl, ⟨hr.below hb, hnn, hc.1, hc.2, .inl rfl, hb⟩, (fun h => by simp at h), (fun x hx => by cases hx)⟩
set_option maxRecDepth 100000 in
set_option maxHeartbeats 2000000 in
theorem ref13Put_far (a : Option Addr) (c n x : Nat) (L : Its) (t : List UInt8) (w : World) (hn : n ≤ 10000) (hx : x ≤ 20000) (hr : RRow w a L) (hnn : a = none → L = []) (hc : L.length ≤ c ∧ c ≤ maxLen) (ha : ∀ y, a = some y → y.block < w.heap.size) (h : x < n ∨ ¬ x < n ∧ n + 32 < x) :
    Calls Try.prog 26 #[.agg #[.int .i64 (n : Int), .slice a L.length c], .agg #[.int .i64 (x : Int), .string (bs t)]] w (P13 w a (putR n L x t)) := by
  have HF : Hid (∀ (e : Nat) o, P13 w a ((n, L, []), e) (.returned (.tuple #[.agg #[.int .i64 (n : Int), .slice a L.length c], .slice none 0 0, .int .i64 (e : Int)])) (((w.alloc (.cells #[.int .i64 (n : Int), .slice a L.length c] 56)).alloc (.cells #[.int .i64 (x : Int), .string (bs t)] 39)).alloc o)) := Lib.hid (fun e o => p13_no0 (bel_alloc (bel_alloc (bel_alloc (Below.refl _ _) _) _) _) hr hnn hc e)
  have e11 : x < n → putR n L x t = ((n, L, []), 11) := fun h => by unfold putR; rw [if_pos h]
  have e8 : ¬ x < n ∧ n + 32 < x → putR n L x t = ((n, L, []), 8) := fun h => by unfold putR; rw [if_neg h.1, if_pos h.2]
  rcases h with h | h
  · rw [e11 h]
    have HE : Hid (∀ o, P13 w a ((n, L, []), 11) (.returned (.tuple #[.agg #[.int .i64 (n : Int), .slice a L.length c], .slice none 0 0, .int .i64 11])) (((w.alloc (.cells #[.int .i64 (n : Int), .slice a L.length c] 56)).alloc (.cells #[.int .i64 (x : Int), .string (bs t)] 39)).alloc o)) := Lib.hid (fun o => HF.out 11 o)
    have hi : (x : Int) < (n : Int) := by omega
    generalize P13 w a ((n, L, []), 11) = Post at HE ⊢
    clear e11 e8 HF hr hnn hc ha h
    go_enter Try.func26, Try.ntmps26
    go_wp2
    exact bodyPost_ret (v := .tuple #[.agg #[.int .i64 (n : Int), .slice a L.length c], .slice none 0 0, .int .i64 11]) (by simp [results, Try.results26, go_sem]) rfl (HE.out _)
  · rw [e8 h]
    have HE : Hid (∀ o, P13 w a ((n, L, []), 8) (.returned (.tuple #[.agg #[.int .i64 (n : Int), .slice a L.length c], .slice none 0 0, .int .i64 8])) (((w.alloc (.cells #[.int .i64 (n : Int), .slice a L.length c] 56)).alloc (.cells #[.int .i64 (x : Int), .string (bs t)] 39)).alloc o)) := Lib.hid (fun o => HF.out 8 o)
    have hi : (n : Int) ≤ (x : Int) := by omega
    have hi2 : (n : Int) + 32 < (x : Int) := by omega
    have hnb : (n : Int) ≤ 10000 := by omega
    generalize P13 w a ((n, L, []), 8) = Post at HE ⊢
    clear e11 e8 HF hr hnn hc ha h
    go_enter Try.func26, Try.ntmps26
    go_wp2
    exact bodyPost_ret (v := .tuple #[.agg #[.int .i64 (n : Int), .slice a L.length c], .slice none 0 0, .int .i64 8]) (by simp [results, Try.results26, go_sem]) rfl (HE.out _)
/-- What came at T, the thing at T + 1, the answer's box at T + 2. -/
structure Ti13 (w : World) (n m : Nat) (a : Option Addr) (c x : Nat) (t : List UInt8) (wx : World) : Prop where
  t0 : wx.cell? ⟨w.heap.size, 0, none⟩ = some (.int .i64 (n : Int))
  t1 : wx.cell? ⟨w.heap.size, 1, none⟩ = some (.slice a m c)
  x0 : wx.cell? ⟨w.heap.size + 1, 0, none⟩ = some (.int .i64 (x : Int))
  x1 : wx.cell? ⟨w.heap.size + 1, 1, none⟩ = some (.string (bs t))
  r0 : wx.cell? ⟨w.heap.size + 1 + 1, 0, none⟩ = some (.int .i64 0)
  r1 : wx.cell? ⟨w.heap.size + 1 + 1, 1, none⟩ = some (.slice none 0 0)
  f0 : wx.frozen? ⟨w.heap.size, 0, none⟩ = false
  f1 : wx.frozen? ⟨w.heap.size, 1, none⟩ = false
  z0 : wx.frozen? ⟨w.heap.size + 1 + 1, 0, none⟩ = false
  z1 : wx.frozen? ⟨w.heap.size + 1 + 1, 1, none⟩ = false
  bel : Below w.heap.size w wx
theorem ti13 (w : World) (n m : Nat) (a : Option Addr) (c x : Nat) (t : List UInt8) : Ti13 w n m a c x t (w3_13 w n a m c x t) := by
  refine ⟨?_, ?_, ?_, ?_, ?_, ?_, ?_, ?_, ?_, ?_, w3_bel ..⟩
  · exact alloc_cell (alloc_cell (new_cell rfl rfl) _) _
  · exact alloc_cell (alloc_cell (new_cell rfl rfl) _) _
  · exact alloc_cell (new_cell (by simp) rfl) _
  · exact alloc_cell (new_cell (by simp) rfl) _
  · exact new_cell (by simp) rfl
  · exact new_cell (by simp) rfl
  · exact (frozen_old _ _ _ (by first | (simp; done) | (simp; omega))).trans ((frozen_old _ _ _ (by first | (simp; done) | (simp; omega))).trans (frozen_new13 _ _ (by simp) _ _ _))
  · exact (frozen_old _ _ _ (by first | (simp; done) | (simp; omega))).trans ((frozen_old _ _ _ (by first | (simp; done) | (simp; omega))).trans (frozen_new13 _ _ (by simp) _ _ _))
  · exact frozen_new13 _ _ (by simp) _ _ _
  · exact frozen_new13 _ _ (by simp) _ _ _
theorem Ti13.lt {w : World} {n m : Nat} {a : Option Addr} {c x : Nat} {t : List UInt8} {wx : World} (h : Ti13 w n m a c x t wx) : w.heap.size + 1 + 1 < wx.heap.size := block_lt_of_cell h.r0
theorem Ti13.keep {w : World} {n m : Nat} {a : Option Addr} {c x : Nat} {t : List UInt8} {wx w' : World} (h : Ti13 w n m a c x t wx) (hb : Below wx.heap.size wx w') : Ti13 w n m a c x t w' := by
  have hl := h.lt
  exact ⟨(hb.cell (p := ⟨_, 0, none⟩) (block_lt_of_cell h.t0)).trans h.t0, (hb.cell (p := ⟨_, 1, none⟩) (block_lt_of_cell h.t1)).trans h.t1, (hb.cell (p := ⟨_, 0, none⟩) (block_lt_of_cell h.x0)).trans h.x0, (hb.cell (p := ⟨_, 1, none⟩) (block_lt_of_cell h.x1)).trans h.x1, (hb.cell (p := ⟨_, 0, none⟩) (block_lt_of_cell h.r0)).trans h.r0, (hb.cell (p := ⟨_, 1, none⟩) (block_lt_of_cell h.r1)).trans h.r1, (hb.frozen (p := ⟨_, 0, none⟩) (block_lt_of_cell h.t0)).trans h.f0, (hb.frozen (p := ⟨_, 1, none⟩) (block_lt_of_cell h.t1)).trans h.f1, (hb.frozen (p := ⟨_, 0, none⟩) (block_lt_of_cell h.r0)).trans h.z0, (hb.frozen (p := ⟨_, 1, none⟩) (block_lt_of_cell h.r1)).trans h.z1, h.bel.trans (hb.mono h.bel.size)⟩
set_option maxRecDepth 100000 in
set_option maxHeartbeats 2000000 in
theorem ref13Put_there (a : Option Addr) (c n x : Nat) (L : Its) (t : List UInt8) (w : World) (hn : n ≤ 10000) (hl : L.length ≤ 900) (hr : RRow w a L) (hnn : a = none → L = []) (hc : L.length ≤ c ∧ c ≤ maxLen) (ha : ∀ y, a = some y → y.block < w.heap.size) (nd : (L.map (·.1)).Nodup) (h1 : n ≤ x) (h2 : x ≤ n + 32) (h3 : findW L x ≠ none) :
    Calls Try.prog 26 #[.agg #[.int .i64 (n : Int), .slice a L.length c], .agg #[.int .i64 (x : Int), .string (bs t)]] w (P13 w a (putR n L x t)) := by
  have e : putR n L x t = ((n, L, []), 10) := by unfold putR; rw [if_neg (by omega), if_neg (by omega), if_pos h3]
  rw [e]
  have HF : Hid (∀ w1 u v, Below w.heap.size w w1 → P13 w a ((n, L, []), 10) (.returned (.tuple #[.agg #[.int .i64 (n : Int), .slice a L.length c], .slice none 0 0, .int .i64 10])) ((w1.setCell ⟨w.heap.size + 1 + 1, 0, none⟩ u).setCell ⟨w.heap.size + 1 + 1, 1, none⟩ v)) := Lib.hid (fun w1 u v hb => p13_no hb hr hnn hc ha 10 _ (by omega) u v)
  have HFI := Lib.hid ((find13_any a c L x (w3_13 w n a L.length c x t) (by omega) (hr.below (w3_bel ..))).mono (R' := fun r w' => ∃ k : Nat, r = .returned (.int .i64 (k : Int)) ∧ Below (w3_13 w n a L.length c x t).heap.size (w3_13 w n a L.length c x t) w') fun r w' ⟨⟨z, hz, hf⟩, hb⟩ => by
    rcases find13_fw hf nd with ⟨k, -, rfl, -⟩ | ⟨-, hno⟩
    · exact ⟨k, hz, hb⟩
    · exact absurd hno h3)
  have HT := Lib.hid (ti13 w n L.length a c x t)
  unfold w3_13 at HFI HT
  generalize P13 w a ((n, L, []), 10) = Post at HF ⊢
  have hi1 : (n : Int) ≤ (x : Int) := by omega
  have hi2 : (x : Int) ≤ (n : Int) + 32 := by omega
  have hnb : (n : Int) ≤ 10000 := by omega
  clear e hr hnn hc ha nd h1 h2 h3
  go_enter Try.func26, Try.ntmps26
  go_wp2_with fail
  generalize ((w.alloc (.cells #[.int .i64 (n : Int), .slice a L.length c] 56)).alloc (.cells #[.int .i64 (x : Int), .string (bs t)] 39)).alloc (.cells #[.int .i64 0, .slice none 0 0] 56) = W3 at HFI HT ⊢
  refine HFI.out.mono ?_
  rintro r w4 ⟨k, rfl, hb⟩
  have HT4 := Lib.hid (HT.out.keep hb)
  have t0 := HT4.out.t0
  have t1 := HT4.out.t1
  have r0 := HT4.out.r0
  have r1 := HT4.out.r1
  have z0 := HT4.out.z0
  have z1 := HT4.out.z1
  have hrl := HT4.out.lt
  have hrl2 : w.heap.size < w4.heap.size := by omega
  have HF2 := Lib.hid (fun u v => HF.out w4 u v HT4.out.bel)
  have hk0 : (0 : Int) ≤ (k : Int) := by omega
  clear hb HFI HF HT
  go_wp2
  exact bodyPost_ret (v := .tuple #[.agg #[.int .i64 (n : Int), .slice a L.length c], .slice none 0 0, .int .i64 10]) (by simp [results, Try.results26, go_sem, r0, r1]) rfl (HF2.out _ _)
end Go.Proofs.Ytpilkaggiajjmaa
namespace Go.Proofs.Ytpilkaggiajjmaa
open Go.RowKit
set_option linter.unusedVariables false

/-- What waits (its box at T), what went out, the answer's box at T + 2. -/
structure Lo13 (w : World) (n : Nat) (a : Option Addr) (c : Nat) (L : Its) (oa : Option Addr) (oc : Nat) (out : List (List UInt8)) (wr : World) : Prop where
  t0 : wr.cell? ⟨w.heap.size, 0, none⟩ = some (.int .i64 (n : Int))
  t1 : wr.cell? ⟨w.heap.size, 1, none⟩ = some (.slice a L.length c)
  f0 : wr.frozen? ⟨w.heap.size, 0, none⟩ = false
  f1 : wr.frozen? ⟨w.heap.size, 1, none⟩ = false
  r0 : wr.cell? ⟨w.heap.size + 1 + 1, 0, none⟩ = some (.int .i64 0)
  r1 : wr.cell? ⟨w.heap.size + 1 + 1, 1, none⟩ = some (.slice none 0 0)
  z0 : wr.frozen? ⟨w.heap.size + 1 + 1, 0, none⟩ = false
  z1 : wr.frozen? ⟨w.heap.size + 1 + 1, 1, none⟩ = false
  row : RRow wr a L
  cap : L.length ≤ c ∧ c ≤ maxLen ∧ (a = none → L = [])
  ha : ∀ x, a = some x → w.heap.size + 1 + 1 < x.block ∧ x.block < wr.heap.size
  o : OwnV 9 1 0 oa oc (out.map strCells1) wr
  ho : ∀ x, oa = some x → w.heap.size + 1 + 1 < x.block
  d : ∀ x y, a = some x → oa = some y → x.block ≠ y.block
  bel : Below w.heap.size w wr
theorem Lo13.lt {w : World} {n : Nat} {a : Option Addr} {c : Nat} {L : Its} {oa : Option Addr} {oc : Nat} {out : List (List UInt8)} {wr : World} (h : Lo13 w n a c L oa oc out wr) : w.heap.size + 1 + 1 < wr.heap.size := block_lt_of_cell h.r0
/-- Only a block behind the three boxes, and not the row's, is touched. -/
theorem Lo13.touch {S : Nat → Prop} {w : World} {n : Nat} {a : Option Addr} {c : Nat} {L : Its} {oa oa' : Option Addr} {oc oc' : Nat} {out out' : List (List UInt8)} {wr w' : World} (h : Lo13 w n a c L oa oc out wr) (ht : Touch S wr w') (hS : ∀ k, S k → w.heap.size + 1 + 1 < k) (hSa : ∀ x, a = some x → ¬ S x.block) (ho : OwnV 9 1 0 oa' oc' (out'.map strCells1) w') (hho : ∀ x, oa' = some x → w.heap.size + 1 + 1 < x.block) (hd : ∀ x y, a = some x → oa' = some y → x.block ≠ y.block) : Lo13 w n a c L oa' oc' out' w' := by
  have hl := h.lt
  have n0 : ¬ S w.heap.size := fun e => by have := hS _ e; omega
  have n2 : ¬ S (w.heap.size + 1 + 1) := fun e => by have := hS _ e; omega
  have hTl : w.heap.size < wr.heap.size := by omega
  exact ⟨(ht.cell (p := ⟨_, 0, none⟩) hTl n0).trans h.t0, (ht.cell (p := ⟨_, 1, none⟩) hTl n0).trans h.t1, (ht.frozen (p := ⟨_, 0, none⟩) hTl n0).trans h.f0, (ht.frozen (p := ⟨_, 1, none⟩) hTl n0).trans h.f1, (ht.cell (p := ⟨_, 0, none⟩) hl n2).trans h.r0, (ht.cell (p := ⟨_, 1, none⟩) hl n2).trans h.r1, (ht.frozen (p := ⟨_, 0, none⟩) hl n2).trans h.z0, (ht.frozen (p := ⟨_, 1, none⟩) hl n2).trans h.z1, h.row.touch ht hSa, h.cap, fun x hx => by have := h.ha x hx; have := ht.size; exact ⟨by omega, by omega⟩, ho, hho, hd, h.bel.trans (ht.below h.bel.size fun k hk e => by have := hS _ e; omega)⟩
theorem Lo13.keep {w : World} {n : Nat} {a : Option Addr} {c : Nat} {L : Its} {oa : Option Addr} {oc : Nat} {out : List (List UInt8)} {wr w' : World} (h : Lo13 w n a c L oa oc out wr) (hb : Below wr.heap.size wr w') : Lo13 w n a c L oa oc out w' :=
  h.touch (touch_of_below (S := fun _ => False) hb) (fun _ e => e.elim) (fun _ _ => id) (h.o.touch (touch_of_below (S := fun _ => False) hb) (fun _ _ => id)) h.ho h.d
theorem Lo13.more {w : World} {n : Nat} {a : Option Addr} {c : Nat} {L : Its} {oa oa' : Option Addr} {oc oc' : Nat} {out out' : List (List UInt8)} {wr w' : World} (h : Lo13 w n a c L oa oc out wr) (ho : OwnV 9 1 0 oa' oc' (out'.map strCells1) w') (ht : Touch (fun b => oa.map (·.block) = some b) wr w') (hf : ∀ x, oa' = some x → oa.map (·.block) = some x.block ∨ wr.heap.size ≤ x.block) : Lo13 w n a c L oa' oc' out' w' := by
  have hl := h.lt
  refine h.touch ht (fun k e => map_none (P := fun k => w.heap.size + 1 + 1 < k) h.ho k e) (fun x hx e => map_none (P := fun k => k = x.block → False) (fun y hy e => h.d x y hx hy e.symm) _ e rfl) ho (fun x hx => ?_) (fun x y hx hy => ?_)
  · rcases hf x hx with e | e
    · exact map_none (P := fun k => w.heap.size + 1 + 1 < k) h.ho _ e
    · omega
  · rcases hf y hy with e | e
    · exact map_none (P := fun k => x.block ≠ k) (fun z hz => h.d x z hx hz) _ e
    · have := (h.ha x hx).2; omega
/-- A new row is laid into the box. -/
theorem Lo13.store {w : World} {n : Nat} {a a' : Option Addr} {c c' : Nat} {L L' : Its} {oa : Option Addr} {oc : Nat} {out : List (List UInt8)} {wr w' : World} (h : Lo13 w n a c L oa oc out wr) (hn : NewV 39 2 wr a' c' (L'.map riC) w') (k : Nat) (hk : L'.length = k) :
    w'.cell? ⟨w.heap.size, 1, none⟩ = some (.slice a L.length c) ∧ w'.frozen? ⟨w.heap.size, 1, none⟩ = false ∧ w.heap.size < w'.heap.size ∧ Lo13 w n a' c' L' oa oc out (w'.setCell ⟨w.heap.size, 1, none⟩ (.slice a' k c')) := by
  subst hk
  have hl := h.lt
  have h1 := h.keep hn.2
  have hl1 := h1.lt
  obtain ⟨g1, g2, g3⟩ := hn.cap
  simp only [List.length_map] at g1
  have ht : Touch (fun b => b = w.heap.size) w' (w'.setCell ⟨w.heap.size, 1, none⟩ (.slice a' L'.length c')) := (Touch.refl (fun b => b = w.heap.size) w').setCell (p := ⟨w.heap.size, 1, none⟩) (fun _ => rfl) _
  have hfr : ∀ x, a' = some x → wr.heap.size ≤ x.block := hn.1.2
  refine ⟨h1.t1, h1.f1, by omega, (World.cell?_setCell_other _ _ _ _ (by simp)).trans h1.t0, World.cell?_setCell_same _ _ _ h1.t1, by simpa using h1.f0, by simpa using h1.f1, (ht.cell (p := ⟨_, 0, none⟩) hl1 (by show ¬ w.heap.size + 1 + 1 = w.heap.size; omega)).trans h1.r0, (ht.cell (p := ⟨_, 1, none⟩) hl1 (by show ¬ w.heap.size + 1 + 1 = w.heap.size; omega)).trans h1.r1, (ht.frozen (p := ⟨_, 0, none⟩) hl1 (by show ¬ w.heap.size + 1 + 1 = w.heap.size; omega)).trans h1.z0, (ht.frozen (p := ⟨_, 1, none⟩) hl1 (by show ¬ w.heap.size + 1 + 1 = w.heap.size; omega)).trans h1.z1, RRow.touch (hn.1.row (ri_wide L')) ht (fun x hx e => by have := hfr x hx; omega), ⟨g1, g2, fun e => by simpa using g3 e⟩, fun x hx => ?_, h1.o.touch ht (fun x hx e => by have := h1.ho x hx; omega), h1.ho, fun x y hx hy e => ?_, h1.bel.trans (ht.below h1.bel.size fun b hb e => by omega)⟩
  · have := hfr x hx
    have := hn.1.lt x hx
    have := ht.size
    exact ⟨by omega, by omega⟩
  · have := hfr x hx
    have := h.o.lt y hy
    omega
/-- The next one is awaited. -/
theorem Lo13.next {w : World} {n n' : Nat} {a : Option Addr} {c : Nat} {L : Its} {oa : Option Addr} {oc : Nat} {out : List (List UInt8)} {wr : World} (h : Lo13 w n a c L oa oc out wr) : Lo13 w n' a c L oa oc out (wr.setCell ⟨w.heap.size, 0, none⟩ (.int .i64 (n' : Int))) := by
  have hl := h.lt
  have ht : Touch (fun b => b = w.heap.size) wr (wr.setCell ⟨w.heap.size, 0, none⟩ (.int .i64 (n' : Int))) := (Touch.refl (fun b => b = w.heap.size) wr).setCell (p := ⟨w.heap.size, 0, none⟩) (fun _ => rfl) _
  exact ⟨World.cell?_setCell_same _ _ _ h.t0, (World.cell?_setCell_other _ _ _ _ (by simp)).trans h.t1, by simpa using h.f0, by simpa using h.f1, (ht.cell (p := ⟨_, 0, none⟩) hl (by show ¬ w.heap.size + 1 + 1 = w.heap.size; omega)).trans h.r0, (ht.cell (p := ⟨_, 1, none⟩) hl (by show ¬ w.heap.size + 1 + 1 = w.heap.size; omega)).trans h.r1, (ht.frozen (p := ⟨_, 0, none⟩) hl (by show ¬ w.heap.size + 1 + 1 = w.heap.size; omega)).trans h.z0, (ht.frozen (p := ⟨_, 1, none⟩) hl (by show ¬ w.heap.size + 1 + 1 = w.heap.size; omega)).trans h.z1, h.row.touch ht (fun x hx e => by have := h.ha x hx; omega), h.cap, fun x hx => by have := h.ha x hx; have := ht.size; exact ⟨by omega, by omega⟩, h.o.touch ht (fun x hx e => by have := h.ho x hx; omega), h.ho, h.d, h.bel.trans (ht.below h.bel.size fun b hb e => by omega)⟩
theorem Lo13.fin {w : World} {n : Nat} {a : Option Addr} {c : Nat} {L : Its} {oa : Option Addr} {oc : Nat} {out : List (List UInt8)} {wr : World} (h : Lo13 w n a c L oa oc out wr) (a0 : Option Addr) (u v : Value) : P13 w a0 ((n, L, out), 0) (.returned (.tuple #[.agg #[.int .i64 (n : Int), .slice a L.length c], .slice oa out.length oc, .int .i64 0])) ((wr.setCell ⟨w.heap.size + 1 + 1, 0, none⟩ u).setCell ⟨w.heap.size + 1 + 1, 1, none⟩ v) :=
  ⟨a, c, oa, oc, rfl, RNew.set2 (w1 := wr) ⟨h.row, h.cap.2.2, h.cap.1, h.cap.2.1, .inr fun x hx => by have := h.ha x hx; exact ⟨by omega, by omega⟩, h.bel⟩ (by omega) (fun x hx => by have := (h.ha x hx).1; omega) u v, (h.o.row (str_wide out)).touch (by decide) (str_wide out) (set2_touch wr _ u v) (fun x hx (e : x.block = w.heap.size + 1 + 1) => by have := h.ho x hx; omega), fun x hx => by have := h.ho x hx; omega⟩
/-- The thing that came is laid behind. -/
theorem Ti13.lo {w : World} {n : Nat} {a a' : Option Addr} {c c' x : Nat} {t : List UInt8} {L' : Its} {m : Nat} {wx w' : World} (h : Ti13 w n m a c x t wx) (hn : NewV 39 2 wx a' c' (L'.map riC) w') (k : Nat) (hk : L'.length = k) :
    Lo13 w n a' c' L' (some ⟨w'.heap.size, 0, none⟩) 0 [] ((w'.setCell ⟨w.heap.size, 1, none⟩ (.slice a' k c')).alloc (.cells #[] 9)) := by
  subst hk
  have hl := h.lt
  have h1 := h.keep hn.2
  have hl1 := h1.lt
  obtain ⟨g1, g2, g3⟩ := hn.cap
  simp only [List.length_map] at g1
  have ht : Touch (fun b => b = w.heap.size) w' (w'.setCell ⟨w.heap.size, 1, none⟩ (.slice a' L'.length c')) := (Touch.refl (fun b => b = w.heap.size) w').setCell (p := ⟨w.heap.size, 1, none⟩) (fun _ => rfl) _
  have hfr : ∀ x, a' = some x → wx.heap.size ≤ x.block := hn.1.2
  have hs1 : (w'.setCell ⟨w.heap.size, 1, none⟩ (.slice a' L'.length c')).heap.size = w'.heap.size := by simp
  generalize hW : w'.setCell ⟨w.heap.size, 1, none⟩ (.slice a' L'.length c') = W at ht hs1
  have q0 : W.cell? ⟨w.heap.size, 0, none⟩ = some (.int .i64 (n : Int)) := by rw [← hW]; exact (World.cell?_setCell_other _ _ _ _ (by simp)).trans h1.t0
  have q1 : W.cell? ⟨w.heap.size, 1, none⟩ = some (.slice a' L'.length c') := by rw [← hW]; exact World.cell?_setCell_same _ _ _ h1.t1
  have q2 : W.frozen? ⟨w.heap.size, 0, none⟩ = false := by rw [← hW]; simpa using h1.f0
  have q3 : W.frozen? ⟨w.heap.size, 1, none⟩ = false := by rw [← hW]; simpa using h1.f1
  have ne2 : ¬ w.heap.size + 1 + 1 = w.heap.size := by omega
  have hb : Below W.heap.size W (W.alloc (.cells #[] 9)) := bel_alloc (Below.refl _ _) _
  have hlW : w.heap.size + 1 + 1 < W.heap.size := by omega
  have hTW : w.heap.size < W.heap.size := by omega
  refine ⟨(hb.cell (p := ⟨_, 0, none⟩) hTW).trans q0, (hb.cell (p := ⟨_, 1, none⟩) hTW).trans q1, (hb.frozen (p := ⟨_, 0, none⟩) hTW).trans q2, (hb.frozen (p := ⟨_, 1, none⟩) hTW).trans q3, (hb.cell (p := ⟨_, 0, none⟩) hlW).trans ((ht.cell (p := ⟨_, 0, none⟩) hl1 ne2).trans h1.r0), (hb.cell (p := ⟨_, 1, none⟩) hlW).trans ((ht.cell (p := ⟨_, 1, none⟩) hl1 ne2).trans h1.r1), (hb.frozen (p := ⟨_, 0, none⟩) hlW).trans ((ht.frozen (p := ⟨_, 0, none⟩) hl1 ne2).trans h1.z0), (hb.frozen (p := ⟨_, 1, none⟩) hlW).trans ((ht.frozen (p := ⟨_, 1, none⟩) hl1 ne2).trans h1.z1), (RRow.touch (hn.1.row (ri_wide L')) ht (fun x hx e => by have := hfr x hx; omega)).below hb, ⟨g1, g2, fun e => by simpa using g3 e⟩, fun x hx => ?_, ?_, fun y hy => ?_, fun x y hx hy => ?_, h1.bel.trans ((ht.below h1.bel.size fun b hb e => by omega).trans (hb.mono (by omega)))⟩
  · have := hfr x hx
    have := hn.1.lt x hx
    have := hb.size
    exact ⟨by omega, by omega⟩
  · have := (NewV.made 9 1 (Below.refl W.heap.size W) w'.heap.size hs1.symm).1
    exact ⟨this.1, fun _ _ => Nat.zero_le _⟩
  · cases hy; simp only; omega
  · cases hy
    have := hn.1.lt x hx
    simp only; omega
end Go.Proofs.Ytpilkaggiajjmaa
namespace Go.Proofs.Ytpilkaggiajjmaa
open Go.RowKit
set_option linter.unusedVariables false

/-- What went out, and what is still to go. -/
def go3 (out : List (List UInt8)) (f n : Nat) (L : Its) : Nat × Its × List (List UInt8) := ((goR f n L).1, (goR f n L).2.1, out ++ (goR f n L).2.2)
theorem go3_none {out : List (List UInt8)} {f n : Nat} {L : Its} (h : findW L n = none) : go3 out f n L = (n, L, out) := by
  unfold go3; rw [goR_none h]; simp
theorem go3_some {out : List (List UInt8)} {f n : Nat} {L : Its} {t : List UInt8} (h : findW L n = some t) : go3 out (f + 1) n L = go3 (out ++ [t]) f (n + 1) (L.filter (fun p => p.1 != n)) := by
  unfold go3; rw [goR_some h]; simp
theorem go3_nil (f n : Nat) (L : Its) : goR f n L = go3 [] f n L := by unfold go3; simp
theorem RRow.take {w : World} {b off : Nat} {L : Its} (h : RRow w (some ⟨b, off, none⟩) L) (k : Nat) : RRow w (some ⟨b, off, none⟩) (L.take k) := by
  intro h0
  have hk : 0 < L.length := by simp only [List.length_map, List.length_take] at h0; omega
  obtain ⟨b', off', e, hc⟩ := h (by simpa using hk)
  refine ⟨b', off', e, fun i hi j hj => ?_⟩
  have hi2 : i < L.length := by rw [List.length_map, List.length_take] at hi; omega
  have := hc i (by rw [List.length_map]; exact hi2) j hj
  rw [this]
  simp
theorem k1s13 {w : World} {X T o : Nat} {t0 t1 v : Value} (hT : X ≠ T) (h : w.cell? ⟨X, 0, none⟩ = some t0 ∧ w.cell? ⟨X, 1, none⟩ = some t1) : (w.setCell ⟨T, o, none⟩ v).cell? ⟨X, 0, none⟩ = some t0 ∧ (w.setCell ⟨T, o, none⟩ v).cell? ⟨X, 1, none⟩ = some t1 :=
  ⟨(World.cell?_setCell_other _ _ _ _ (by intro e; cases e; exact hT rfl)).trans h.1, (World.cell?_setCell_other _ _ _ _ (by intro e; cases e; exact hT rfl)).trans h.2⟩
theorem RRow.drop {w : World} {b off : Nat} {L : Its} (h : RRow w (some ⟨b, off, none⟩) L) (k o : Nat) (ho : o = off + k * 2 ∨ L.length ≤ k) : RRow w (some ⟨b, o, none⟩) (L.drop k) := by
  intro h0
  simp only [List.length_map, List.length_drop] at h0
  obtain ⟨b', off', e, hc⟩ := h (by rw [List.length_map]; omega)
  simp only [Option.some.injEq, Addr.mk.injEq] at e
  obtain ⟨rfl, rfl, -⟩ := e
  have ho : o = off + k * 2 := by rcases ho with h | h; · exact h
                                  · omega
  refine ⟨b, o, rfl, fun i hi j hj => ?_⟩
  simp only [List.length_map, List.length_drop] at hi
  have := hc (k + i) (by rw [List.length_map]; omega) j hj
  rw [show o + i * 2 + j = off + (k + i) * 2 + j by omega, this]
  simp
theorem md1 (w : World) : NewV 39 2 w (some ⟨w.heap.size, 0, none⟩) 0 [] (w.alloc (.cells #[] 39)).drew := (NewV.made _ _ (Below.refl _ _) _ rfl).drew
theorem md2 (w : World) (o : Obj) : NewV 39 2 w (some ⟨w.heap.size, 0, none⟩) 0 [] ((w.alloc (.cells #[] 39)).alloc o).drew := ((NewV.made _ _ (Below.refl _ _) _ rfl).keep (bel_alloc (Below.refl _ _) _)).drew
theorem md3 (w : World) (o : Obj) : NewV 39 2 w (some ⟨w.heap.size + 1, 0, none⟩) 0 [] ((w.alloc o).alloc (.cells #[] 39)).drew := (NewV.made _ _ (bel_alloc (Below.refl _ _) _) _ (by simp)).drew
abbrev App13 (W0 : World) (a : Option Addr) (c : Nat) (L : Its) (k n : Nat) (x : Nat) (t : List UInt8) (ty : TypeId) (Wc : World) : Prop := ∃ a' c' w', (Builtin.append_ #[27, 27] ty #[.slice a L.length c, .slice (some ⟨k, 0, none⟩) 1 1]).run Try.prog Wc = .ok (.slice a' (L.length + 1) c') w' ∧ NewV 39 2 W0 a' c' ((L ++ [(x, t)]).map riC) w'
theorem ap1 {W0 W w5 : World} {a : Option Addr} {c x : Nat} {t : List UInt8} {L : Its} {o : Obj} {ty ty2 : TypeId} (h : NewV 39 2 W0 a c (L.map riC) w5) (ht : Touch (fun b => b = W.heap.size + 1) ((W.alloc (.cells #[.int .i64 (x : Int), .string (bs t)] ty2)).alloc o).drew w5) (hl : L.length ≤ 900) : App13 W0 a c L W.heap.size 1 x t ty w5 :=
  app13b (M := [(x, t)]) h ((RRow.below (lit13 x t _ rfl) (bel_alloc (Below.refl _ _) _)).drew.touch ht (fun y hy => by cases hy; simp only; omega)) (fun h => by cases h) (by simp; omega)
theorem ap2 {W0 W w5 : World} {a : Option Addr} {c x : Nat} {t : List UInt8} {L : Its} {o : Obj} {ty ty2 : TypeId} (h : NewV 39 2 W0 a c (L.map riC) w5) (ht : Touch (fun b => b = W.heap.size) ((W.alloc o).alloc (.cells #[.int .i64 (x : Int), .string (bs t)] ty2)).drew w5) (hl : L.length ≤ 900) : App13 W0 a c L (W.heap.size + 1) 1 x t ty w5 :=
  app13b (M := [(x, t)]) h ((lit13 x t _ (by simp)).drew.touch ht (fun y hy => by cases hy; simp only; omega)) (fun h => by cases h) (by simp; omega)
theorem ap3 {W0 w5 : World} {a : Option Addr} {c x : Nat} {t : List UInt8} {L : Its} {ty ty2 : TypeId} (h : NewV 39 2 W0 a c (L.map riC) w5) (hl : L.length ≤ 900) : App13 W0 a c L w5.heap.size 1 x t ty (w5.alloc (.cells #[.int .i64 (x : Int), .string (bs t)] ty2)) :=
  app13b (M := [(x, t)]) (h.keep (bel_alloc (Below.refl _ _) _)) (lit13 x t _ rfl) (fun h => by cases h) (by simp; omega)
theorem apA {W0 Wc : World} {a : Option Addr} {c k q : Nat} {P : Its} {ty : TypeId} (hmade : NewV 39 2 W0 (some ⟨k, 0, none⟩) 0 [] Wc) (hr : RRow W0 a P) (hn : a = none → P = []) (hP : P.length = q) (hl : q ≤ 1000) :
    ∃ a' c' w', (Builtin.append_ #[27, 27] ty #[.slice (some ⟨k, 0, none⟩) 0 0, .slice a q c]).run Try.prog Wc = .ok (.slice a' q c') w' ∧ (NewV 39 2 W0 a' c' (P.map riC) w' ∧ Touch (fun b => b = k) Wc w') := by
  subst hP; exact app13a hmade hr hn hl
theorem apB {W0 Wc : World} {a1 a2 : Option Addr} {c1 c2 q m m' : Nat} {P Q : Its} {ty : TypeId} (h : NewV 39 2 W0 a1 c1 (P.map riC) Wc) (hv : RRow Wc a2 Q) (hn : a2 = none → Q = []) (hP : P.length = q) (hQ : Q.length = m) (hm : m' = m) (hl : q + m ≤ 1000) :
    ∃ a' c' w', (Builtin.append_ #[27, 27] ty #[.slice a1 q c1, .slice a2 m' c2]).run Try.prog Wc = .ok (.slice a' (q + m) c') w' ∧ NewV 39 2 W0 a' c' ((P ++ Q).map riC) w' := by
  subst hm hP hQ; exact app13b h hv hn hl
set_option maxRecDepth 100000 in
set_option maxHeartbeats 4000000 in
theorem ref13Put_in (a : Option Addr) (c n x : Nat) (L : Its) (t : List UInt8) (w : World) (hn : n ≤ 10000) (hl : L.length ≤ 32) (hr : RRow w a L) (hnn : a = none → L = []) (nd : (L.map (·.1)).Nodup) (h1 : n ≤ x) (h2 : x ≤ n + 32) (h3 : findW L x = none) :
    Calls Try.prog 26 #[.agg #[.int .i64 (n : Int), .slice a L.length c], .agg #[.int .i64 (x : Int), .string (bs t)]] w (P13 w a (putR n L x t)) := by
  have e : putR n L x t = (go3 [] (L.length + 2) n (L ++ [(x, t)]), 0) := by unfold putR; rw [if_neg (by omega), if_neg (by omega), if_neg (by simp [h3]), go3_nil]
  rw [e]
  have HND : Hid (((L ++ [(x, t)]).map (·.1)).Nodup) := Lib.hid (by
    simp only [List.map_append, List.map_cons, List.map_nil]
    rw [List.nodup_append]
    refine ⟨nd, by simp, fun a ha b hb' => ?_⟩
    have hb' : b = x := by simpa using hb'
    obtain ⟨p, hp, rfl⟩ := List.mem_map.1 ha
    intro e
    rw [hb'] at e
    have := findW_of nd (show (x, p.2) ∈ L by rw [← e]; exact hp)
    rw [h3] at this; cases this)
  have HFI := Lib.hid ((find13_any a c L x (w3_13 w n a L.length c x t) (by omega) (hr.below (w3_bel ..))).mono (R' := fun r w' => r = .returned (.int .i64 (-1)) ∧ Below (w3_13 w n a L.length c x t).heap.size (w3_13 w n a L.length c x t) w') fun r w' ⟨⟨z, hz, hf⟩, hb⟩ => by
    rcases find13_fw hf nd with ⟨k, hk, -, -, hs⟩ | ⟨rfl, hno⟩
    · rw [h3] at hs; cases hs
    · exact ⟨hz, hb⟩)
  have HFL := Lib.hid (fun a c (L : Its) (x : Nat) W hl hr => find13_any a c L x W hl hr)
  have HR3 := Lib.hid (hr.below (w3_bel w n a L.length c x t))
  have HT := Lib.hid (ti13 w n L.length a c x t)
  have HN := Lib.hid hnn
  unfold w3_13 at HFI HT HR3
  generalize hpost : P13 w a (go3 [] (L.length + 2) n (L ++ [(x, t)]), 0) = Post
  have HPost := Lib.hid hpost
  have hi1 : (n : Int) ≤ (x : Int) := by omega
  have hi2 : (x : Int) ≤ (n : Int) + 32 := by omega
  have hnb : (n : Int) ≤ 10000 := by omega
  have hwn := frozen_new13
  clear hwn e hr hnn nd h1 h2 h3 hpost
  go_enter Try.func26, Try.ntmps26
  go_wp2_with fail
  generalize ((w.alloc (.cells #[.int .i64 (n : Int), .slice a L.length c] 56)).alloc (.cells #[.int .i64 (x : Int), .string (bs t)] 39)).alloc (.cells #[.int .i64 0, .slice none 0 0] 56) = W3 at HFI HT HR3 ⊢
  refine HFI.out.mono ?_
  rintro r w4 ⟨rfl, hb⟩
  have HT4 := Lib.hid (HT.out.keep hb)
  have HRW := Lib.hid (HR3.out.below hb)
  clear hb HFI HT HR3
  generalize hNL : L.length = N
  have HNL := Lib.hid hNL
  have HNL' : Hid (N = L.length) := Lib.hid hNL.symm
  rw [hNL] at hl HT4
  clear hNL
  go_upto_region 7 with (fail)
  go_cut [36] (fun v36 wx => ∃ (w5 : World) (a5 : Option Addr) (c5 : Nat), v36 = v36 ∧ wx = w5.setCell ⟨w.heap.size, 1, none⟩ (.slice a5 (N + 1) c5) ∧ Hid (NewV 39 2 w4 a5 c5 ((L ++ [(x, t)]).map riC) w5))
  case first =>
    have t1 := HT4.out.t1
    have f1 := HT4.out.f1
    have x0 := HT4.out.x0
    have x1 := HT4.out.x1
    have hl2 := HT4.out.lt
    have hT : w.heap.size < w4.heap.size := by omega
    have hX : w.heap.size + 1 < w4.heap.size := by omega
    go_region_law (first
      | (refine step_app_ex _ rfl (.tmp 30) (.tmp 32) 27 27 rfl (.slice (some ⟨_, 0, none⟩) 0 0) (.slice a N c) (by rfl) (by rfl) N _ (by rw [HNL'.out]; exact app13a (W0 := w4) (by first | with_reducible exact md1 _ | with_reducible exact md2 _ _ | with_reducible exact md3 _ _) HRW.out HN.out (by have := HNL.out; omega)) ?_; rintro a4 c4 w5 ⟨hn4, ht4⟩; have HN4 := Lib.hid hn4; have HT5 := Lib.hid ht4; have x0' := (hn4.2.cell (p := ⟨w.heap.size + 1, 0, none⟩) hX).trans x0; have x1' := (hn4.2.cell (p := ⟨w.heap.size + 1, 1, none⟩) hX).trans x1; have hX' := Nat.lt_of_lt_of_le hX hn4.2.size; clear hn4 ht4)
      | (refine step_app_ex _ rfl (.tmp 33) (.tmp 35) 27 27 rfl (.slice a4 N c4) (.slice (some ⟨_, 0, none⟩) 1 1) (by rfl) (by rfl) (N + 1) _ (by rw [HNL'.out]; first | with_reducible exact ap1 HN4.out HT5.out (by have := HNL.out; omega) | with_reducible exact ap2 HN4.out HT5.out (by have := HNL.out; omega) | with_reducible exact ap3 HN4.out (by have := HNL.out; omega)) ?_; rintro a6 c6 w6 hn6; have HN6 := Lib.hid hn6; have t1' := (hn6.2.cell (p := ⟨w.heap.size, 1, none⟩) hT).trans t1; have f1' := (hn6.2.frozen (p := ⟨w.heap.size, 1, none⟩) hT).trans f1; have hT' := Nat.lt_of_lt_of_le hT hn6.2.size; clear hn6))
    all_goals
      go_wp2_with fail
      go_meet
      exact ⟨w6, a6, c6, trivial, rfl, HN6⟩
  case rest =>
    obtain ⟨w5, a5, c5, -, rfl, HN5⟩ := hcut
    have HLO := Lib.hid (HT4.out.lo HN5.out (N + 1) (by have := HNL.out; simp; omega))
    have HTT : Hid (go3 [] (N + 2) n (L ++ [(x, t)]) = go3 [] (N + 2) n (L ++ [(x, t)]) ∧ (L ++ [(x, t)]).length = N + 1) := Lib.hid ⟨rfl, by have := HNL.out; simp; omega⟩
    rw [HNL.out] at HPost
    generalize hGT : go3 [] (N + 2) n (L ++ [(x, t)]) = GT at HPost HTT
    have HGT := Lib.hid hGT
    clear HT4 HRW HN5 hGT HN
    go_wp2_with fail
    generalize (w5.setCell ⟨w.heap.size, 1, none⟩ (.slice a5 (N + 1) c5)).alloc (.cells #[] 9) = W8 at HLO ⊢
    generalize w5.heap.size = gS at HLO ⊢
    go_loopw [7, 8] (fun v7 v8 wr => ∃ (k n' : Nat) (a' : Option Addr) (c' : Nat) (L' : Its) (oa : Option Addr) (oc : Nat) (out : List (List UInt8)), k ≤ N + 1 ∧ n' ≤ n + k ∧ v7 = .slice oa out.length oc ∧ v8 = .int .i64 k ∧ Hid (L'.length + k = N + 1 ∧ out.length ≤ k ∧ (L'.map (·.1)).Nodup ∧ go3 out (L'.length + 1) n' L' = GT ∧ Lo13 w n' a' c' L' oa oc out wr)) (fun _ v8 _ => 40 - (intOf v8).toNat)
    case atStart => exact ⟨0, n, a5, c5, L ++ [(x, t)], some ⟨gS, 0, none⟩, 0, [], by omega, by omega, rfl, rfl, Lib.hid ⟨by simpa using HTT.out.2, by simp, HND.out, by rw [HTT.out.2]; exact HGT.out, HLO.out⟩⟩
    case round =>
      obtain ⟨k, n', a', c', L', oa, oc, out, hk, hn', rfl, rfl, HS⟩ := hrel
      obtain ⟨hLk, hok, hnd, hgo, hlo⟩ := HS.out
      have HLK := Lib.hid hLk
      have HNDL := Lib.hid hnd
      have HGO := Lib.hid hgo
      have HLOL := Lib.hid hlo
      have hk40 : (k : Int) < 40 := by omega
      have hM : L'.length ≤ 33 := by omega
      have HFK := Lib.hid ((HFL.out a' c' L' n' wr (by omega) hlo.row).mono (R' := fun r w' => ((∃ q, ∃ hq : q < L'.length, r = .returned (.int .i64 (q : Int)) ∧ L'[q].1 = n' ∧ findW L' n' = some L'[q].2) ∨ (r = .returned (.int .i64 (-1)) ∧ findW L' n' = none)) ∧ Below wr.heap.size wr w') fun r w' ⟨⟨z, hz, hf⟩, hb⟩ => ⟨by
        rcases find13_fw hf hnd with ⟨q, hq, rfl, h1, h2⟩ | ⟨rfl, h1⟩
        · exact .inl ⟨q, hq, hz, h1, h2⟩
        · exact .inr ⟨hz, h1⟩, hb⟩)
      have t0 := hlo.t0
      have t1 := hlo.t1
      have hTl := block_lt_of_cell t0
      simp only at hTl
      clear hLk hnd hgo hlo HS
      go_wp2_with fail
      refine HFK.out.mono ?_
      rintro r w6 ⟨hcs, hb⟩
      have HLO6 := Lib.hid (HLOL.out.keep hb)
      clear hb HFK t0 t1 hTl HLOL
      rcases hcs with ⟨q, hq, rfl, he, hs⟩ | ⟨rfl, hno⟩
      · obtain ⟨g, off, rfl, hg, d0, d1⟩ := HLO6.out.row.at hq
        obtain ⟨a7, c7, w7, hrun, ho7, ht7, hf7⟩ := str_one HLO6.out.o L'[q].2 (by omega) out.length rfl
        have HRUN := Lib.hid hrun
        have HLO7 := Lib.hid (HLO6.out.more ho7 ht7 hf7)
        have HGO2 := Lib.hid (show go3 (out ++ [L'[q].2]) L'.length (n' + 1) (L'.filter (fun p => p.1 != n')) = GT from by rw [← go3_some hs]; exact HGO.out)
        have HLESS := Lib.hid (one_less HNDL.out (findW_mem hs))
        have HER := Lib.hid (erase_at HNDL.out hq he)
        have HND2 := Lib.hid (nodup_filter HNDL.out (fun p => p.1 != n'))
        have HRP := Lib.hid (HLO7.out.row.take q)
        have HRQ := Lib.hid (fun o ho => HLO7.out.row.drop (q + 1) o ho)
        have HPL : Hid ((L'.take q).length = q) := Lib.hid (by rw [List.length_take]; omega)
        have HQL : Hid ((L'.drop (q + 1)).length = L'.length - (q + 1)) := Lib.hid (by rw [List.length_drop])
        have hcap := HLO7.out.cap.1
        have hcmx := HLO7.out.cap.2.1
        unfold maxLen at hcmx
        generalize L'[q].2 = tq at d1 HRUN HLO7 HGO2
        generalize hF : L'.filter (fun p => p.1 != n') = F at HGO2 HLESS HER HND2
        generalize L'.take q = P at HER HRP HPL
        generalize L'.drop (q + 1) = Q at HER HRQ HQL
        have t1 := HLO6.out.t1
        have hTl := HLO6.out.lt
        have hTl2 : w.heap.size < w6.heap.size := by omega
        have hq0 : (0 : Int) ≤ (q : Int) := by omega
        have hq1 : (q : Int) < (L'.length : Int) := by omega
        have hq2 : ¬ (q : Int) < 0 := by omega
        clear hrun ho7 ht7 hf7 d0 he hs hF HNDL HGO
        go_upto_region 16 with (at_builtin; refine wpList_append_run _ rfl (.tmp 52) (.tmp 59) 57 57 rfl _ _ rfl rfl (.slice a7 (out.length + 1) c7) w7 HRUN.out ?_)
        clear t1 hTl hTl2 d1 hg HRUN HLO6
        have HM := Lib.hid (show L'.length ≤ 33 ∧ L'.length + k = N + 1 from ⟨hM, HLK.out⟩)
        go_cut [72] (fun v72 wx => ∃ (w8 : World) (a8 : Option Addr) (c8 : Nat), v72 = v72 ∧ wx = w8.setCell ⟨w.heap.size, 1, none⟩ (.slice a8 (q + (L'.length - (q + 1))) c8) ∧ Hid (NewV 39 2 w7 a8 c8 ((P ++ Q).map riC) w8))
        case first =>
          have t1 := HLO7.out.t1
          have f1 := HLO7.out.f1
          have hTl := HLO7.out.lt
          have hT : w.heap.size < w7.heap.size := by omega
          have hmq : (q : Int) + 1 ≤ (L'.length : Int) := by omega
          have hqc : (q : Int) ≤ (c' : Int) := by omega
          have hwq : IntKind.i64.wrap ((q : Int) + 1) = (q : Int) + 1 := by rw [IntKind.wrap_i64]; omega
          have htn : ((q : Int) + 1).toNat = q + 1 := by omega
          have hq3 : (0 : Int) ≤ (q : Int) + 1 := by omega
          have hq4 : (q : Int) ≤ (q : Int) + 1 := by omega
          rcases Classical.em (c' = q + 1) with rfl | hqe
          all_goals
            go_region_law (first
              | (refine step_app_ex _ rfl (.tmp 61) (.tmp 65) 27 27 rfl (.slice (some ⟨_, 0, none⟩) 0 0) (.slice (some ⟨g, off, none⟩) q _) (by rfl) (by rfl) q _ (apA (W0 := w7) (by first | with_reducible exact md1 _ | with_reducible exact md2 _ _ | with_reducible exact md3 _ _) HRP.out (fun h => by cases h) HPL.out (by omega)) ?_; rintro a9 c9 w9 ⟨hn9, ht9⟩; have HN9 := Lib.hid hn9; have t1a := (hn9.2.cell (p := ⟨w.heap.size, 1, none⟩) hT).trans t1; have hTa := Nat.lt_of_lt_of_le hT hn9.2.size; clear hn9 ht9)
              | (refine step_app_ex _ rfl (.tmp 66) (.tmp 71) 27 27 rfl (.slice a9 q c9) (.slice (some ⟨g, _, none⟩) _ _) (by rfl) (by rfl) (q + (L'.length - (q + 1))) _ (apB (W0 := w7) HN9.out ((HRQ.out _ (by first | (left; rfl) | (right; omega) | (left; omega))).below HN9.out.2) (fun h => by cases h) HPL.out HQL.out (by first | rfl | omega) (by omega)) ?_; rintro a10 c10 w10 hn10; have HN10 := Lib.hid hn10; have t1b := (hn10.2.cell (p := ⟨w.heap.size, 1, none⟩) hT).trans t1; have f1b := (hn10.2.frozen (p := ⟨w.heap.size, 1, none⟩) hT).trans f1; have hTb := Nat.lt_of_lt_of_le hT hn10.2.size; clear hn10))
          all_goals
            go_wp2_with fail
            go_meet
            exact ⟨w10, a10, c10, trivial, by first | rfl | rw [show q + (L'.length - (q + 1)) = q by omega], HN10⟩
        case rest =>
          obtain ⟨w8, a8, c8, -, rfl, HN8⟩ := hcut
          rw [HER.out] at HN8
          have HLO8 := Lib.hid (HLO7.out.store HN8.out (q + (L'.length - (q + 1))) (by have := HLESS.out; omega)).2.2.2
          clear HN8 HLO7 HRP HRQ
          generalize w8.setCell ⟨w.heap.size, 1, none⟩ (.slice a8 (q + (L'.length - (q + 1))) c8) = W9 at HLO8 ⊢
          have t0 := HLO8.out.t0
          have f0 := HLO8.out.f0
          have hTl := HLO8.out.lt
          have hTl2 : w.heap.size < W9.heap.size := by omega
          have hnb2 : (n' : Int) ≤ 20000 := by omega
          have HLO9 := Lib.hid (HLO8.out.next (n' := n' + 1))
          have ecast : ((n' + 1 : Nat) : Int) = (n' : Int) + 1 := by omega
          rw [ecast] at HLO9
          clear ecast
          go_wp2
          go_roundw
          case rel => exact ⟨k + 1, n' + 1, a8, c8, F, a7, c7, out ++ [tq], by have := HM.out; omega, by omega, by simp, by go_num, Lib.hid ⟨by have := HLESS.out; have := HM.out; omega, by simp; omega, HND2.out, by have := HLESS.out; rw [this]; exact HGO2.out, HLO9.out⟩⟩
          case measure => simp [intOf] <;> omega
      · have HG : Hid (GT = (n', L', out)) := Lib.hid (by rw [← HGO.out, go3_none hno])
        have HF := Lib.hid (fun u v => HLO6.out.fin a u v)
        rw [← HG.out, HPost.out] at HF
        have t0 := HLO6.out.t0
        have t1 := HLO6.out.t1
        have r0 := HLO6.out.r0
        have r1 := HLO6.out.r1
        have z0 := HLO6.out.z0
        have z1 := HLO6.out.z1
        have hRl := HLO6.out.lt
        have hTl : w.heap.size < w6.heap.size := by omega
        clear hno HGO HNDL HLO6 HG
        go_wp2
        exact bodyPost_ret (v := .tuple #[.agg #[.int .i64 (n' : Int), .slice a' L'.length c'], .slice oa out.length oc, .int .i64 0]) (by simp [results, Try.results26, go_sem, r0, r1]) rfl (HF.out _ _)
end Go.Proofs.Ytpilkaggiajjmaa
namespace Go.Proofs.Ytpilkaggiajjmaa
open Go.RowKit
set_option linter.unusedVariables false

/-- The document's Put, whatever comes. -/
theorem ref13Put_any (a : Option Addr) (c n x : Nat) (L : Its) (t : List UInt8) (w : World) (hn : n ≤ 10000) (hx : x ≤ 20000) (hi : InR n L) (hr : RRow w a L) (hnn : a = none → L = []) (hc : L.length ≤ c ∧ c ≤ maxLen) (ha : ∀ y, a = some y → y.block < w.heap.size) :
    Calls Try.prog 26 #[.agg #[.int .i64 (n : Int), .slice a L.length c], .agg #[.int .i64 (x : Int), .string (bs t)]] w (P13 w a (putR n L x t)) := by
  have hl := hi.len
  by_cases h1 : x < n
  · exact ref13Put_far a c n x L t w hn hx hr hnn hc ha (.inl h1)
  · by_cases h2 : n + 32 < x
    · exact ref13Put_far a c n x L t w hn hx hr hnn hc ha (.inr ⟨h1, h2⟩)
    · by_cases h3 : findW L x = none
      · exact ref13Put_in a c n x L t w hn hl hr hnn hi.nd (by omega) (by omega) h3
      · exact ref13Put_there a c n x L t w hn (by omega) hr hnn hc ha hi.nd (by omega) (by omega) h3
/-- The program's at b, the document's in the box at X. -/
structure Iw (w : World) (b X F : Nat) (mo : Option Nat) (n : Nat) (xa : Option Addr) (xc : Nat) (L : Its) (wr : World) : Prop where
  i : WI wr b mo ⟨numW F n, numL F L⟩
  x0 : wr.cell? ⟨X, 0, none⟩ = some (.int .i64 (n : Int))
  x1 : wr.cell? ⟨X, 1, none⟩ = some (.slice xa L.length xc)
  f0 : wr.frozen? ⟨X, 0, none⟩ = false
  f1 : wr.frozen? ⟨X, 1, none⟩ = false
  row : RRow wr xa L
  nn : xa = none → L = []
  cap : L.length ≤ xc ∧ xc ≤ maxLen
  hb : w.heap.size ≤ b
  hX : w.heap.size ≤ X
  bX : b ≠ X
  hm : ∀ k, mo = some k → w.heap.size ≤ k ∧ k ≠ X
  hx : ∀ x, xa = some x → w.heap.size ≤ x.block ∧ x.block < wr.heap.size ∧ x.block ≠ b ∧ x.block ≠ X
  hmx : ∀ k y, mo = some k → xa = some y → k ≠ y.block
  bel : Below w.heap.size w wr
theorem Iw.lt {w : World} {b X F : Nat} {mo : Option Nat} {n : Nat} {xa : Option Addr} {xc : Nat} {L : Its} {wr : World} (h : Iw w b X F mo n xa xc L wr) : X < wr.heap.size := block_lt_of_cell h.x0
theorem Iw.keep {w : World} {b X F : Nat} {mo : Option Nat} {n : Nat} {xa : Option Addr} {xc : Nat} {L : Its} {wr w' : World} (h : Iw w b X F mo n xa xc L wr) (hb : Below wr.heap.size wr w') : Iw w b X F mo n xa xc L w' :=
  ⟨h.i.keep hb, (hb.cell (p := ⟨X, 0, none⟩) h.lt).trans h.x0, (hb.cell (p := ⟨X, 1, none⟩) h.lt).trans h.x1, (hb.frozen (p := ⟨X, 0, none⟩) h.lt).trans h.f0, (hb.frozen (p := ⟨X, 1, none⟩) h.lt).trans h.f1, h.row.below hb, h.nn, h.cap, h.hb, h.hX, h.bX, h.hm, (fun x hx => by have g := h.hx x hx; have := hb.size; exact ⟨g.1, by omega, g.2.2⟩), h.hmx, h.bel.trans (hb.mono h.bel.size)⟩
/-- The program's part is another one; the document's box has still what it had: what lies there meanwhile. -/
structure Iw2 (w : World) (b X F : Nat) (mo : Option Nat) (s : Ws) (n : Nat) (xa : Option Addr) (xc : Nat) (L : Its) (wr : World) : Prop where
  i : WI wr b mo s
  x0 : wr.cell? ⟨X, 0, none⟩ = some (.int .i64 (n : Int))
  x1 : wr.cell? ⟨X, 1, none⟩ = some (.slice xa L.length xc)
  f0 : wr.frozen? ⟨X, 0, none⟩ = false
  f1 : wr.frozen? ⟨X, 1, none⟩ = false
  row : RRow wr xa L
  hb : w.heap.size ≤ b
  hX : w.heap.size ≤ X
  bX : b ≠ X
  hm : ∀ k, mo = some k → w.heap.size ≤ k ∧ k ≠ X
  hx : ∀ x, xa = some x → w.heap.size ≤ x.block ∧ x.block < wr.heap.size ∧ x.block ≠ b ∧ x.block ≠ X
  hmx : ∀ k y, mo = some k → xa = some y → k ≠ y.block
  bel : Below w.heap.size w wr
theorem Iw2.lt {w : World} {b X F : Nat} {mo : Option Nat} {s : Ws} {n : Nat} {xa : Option Addr} {xc : Nat} {L : Its} {wr : World} (h : Iw2 w b X F mo s n xa xc L wr) : X < wr.heap.size := block_lt_of_cell h.x0
theorem Iw2.keep {w : World} {b X F : Nat} {mo : Option Nat} {s : Ws} {n : Nat} {xa : Option Addr} {xc : Nat} {L : Its} {wr w' : World} (h : Iw2 w b X F mo s n xa xc L wr) (hb : Below wr.heap.size wr w') : Iw2 w b X F mo s n xa xc L w' :=
  ⟨h.i.keep hb, (hb.cell (p := ⟨X, 0, none⟩) h.lt).trans h.x0, (hb.cell (p := ⟨X, 1, none⟩) h.lt).trans h.x1, (hb.frozen (p := ⟨X, 0, none⟩) h.lt).trans h.f0, (hb.frozen (p := ⟨X, 1, none⟩) h.lt).trans h.f1, h.row.below hb, h.hb, h.hX, h.bX, h.hm, (fun x hx => by have g := h.hx x hx; have := hb.size; exact ⟨g.1, by omega, g.2.2⟩), h.hmx, h.bel.trans (hb.mono h.bel.size)⟩
theorem Iw.put {w : World} {b X F : Nat} {mo mo' : Option Nat} {n : Nat} {xa : Option Addr} {xc : Nat} {L : Its} {wr w' : World} {s : Ws} (h : Iw w b X F mo n xa xc L wr) (hw : WI w' b mo' s) (hf : ∀ k, mo' = some k → mo = some k ∨ wr.heap.size ≤ k) (ht : Touch (fun k => k = b ∨ mo = some k) wr w') : Iw2 w b X F mo' s n xa xc L w' := by
  have hs := h.bel.size
  have hXl := h.lt
  have sX : ¬ (X = b ∨ mo = some X) := by
    rintro (e | e)
    · exact h.bX e.symm
    · exact (h.hm _ e).2 rfl
  have sx : ∀ x, xa = some x → ¬ (x.block = b ∨ mo = some x.block) := fun x hx => by
    rintro (e | e)
    · exact (h.hx x hx).2.2.1 e
    · exact h.hmx _ x e hx rfl
  refine ⟨hw, (ht.cell (p := ⟨X, 0, none⟩) hXl sX).trans h.x0, (ht.cell (p := ⟨X, 1, none⟩) hXl sX).trans h.x1, (ht.frozen (p := ⟨X, 0, none⟩) hXl sX).trans h.f0, (ht.frozen (p := ⟨X, 1, none⟩) hXl sX).trans h.f1, h.row.touch ht sx, h.hb, h.hX, h.bX, fun k hk => ?_, fun x hx => ?_, fun k y hk hy => ?_, h.bel.trans (ht.below hs fun k hk e => ?_)⟩
  · rcases hf k hk with e | e
    · exact h.hm k e
    · exact ⟨by omega, by omega⟩
  · have g := h.hx x hx
    have := ht.size
    exact ⟨g.1, by omega, g.2.2⟩
  · rcases hf k hk with e | e
    · exact h.hmx k y e hy
    · have := (h.hx y hy).2.1; omega
  · rcases e with e | e
    · have := h.hb; omega
    · have := (h.hm _ e).1; omega
/-- The document's answer goes into its box. -/
theorem Iw2.ref {w : World} {b X F : Nat} {mo : Option Nat} {n : Nat} {xa : Option Addr} {xc : Nat} {L : Its} {wr : World} {n' : Nat} {L' : Its} (h : Iw2 w b X F mo ⟨numW F n', numL F L'⟩ n xa xc L wr) {xa' : Option Addr} {xc' : Nat} {w1 : World} (hr : RNew wr xa xa' xc' L' w1) (k : Nat) (hk : L'.length = k) :
    Iw w b X F mo n' xa' xc' L' ((w1.setCell ⟨X, 0, none⟩ (.int .i64 (n' : Int))).setCell ⟨X, 1, none⟩ (.slice xa' k xc')) := by
  subst hk
  have h1 := h.keep hr.bel
  have ht := set2_touch w1 X (.int .i64 (n' : Int)) (.slice xa' L'.length xc')
  have hbl : b < wr.heap.size := h.i.lt
  have hfr : ∀ x, xa' = some x → w.heap.size ≤ x.block ∧ x.block < w1.heap.size ∧ x.block ≠ b ∧ x.block ≠ X := fun x hx => by
    rcases hr.fresh with e | e
    · exact h1.hx x (by rw [← e]; exact hx)
    · have := e x hx
      have := h.lt
      have := h.hb
      have := h.bel.size
      exact ⟨by omega, by omega, by omega, by omega⟩
  have x0 : (w1.setCell ⟨X, 0, none⟩ (.int .i64 (n' : Int))).cell? ⟨X, 0, none⟩ = some (.int .i64 (n' : Int)) := World.cell?_setCell_same _ _ _ h1.x0
  have x1 : (w1.setCell ⟨X, 0, none⟩ (.int .i64 (n' : Int))).cell? ⟨X, 1, none⟩ = some (.slice xa L.length xc) := (World.cell?_setCell_other _ _ _ _ (by simp)).trans h1.x1
  refine ⟨h1.i.touch ht h1.bX (fun k hk => (h1.hm k hk).2), (World.cell?_setCell_other _ _ _ _ (by simp)).trans x0, World.cell?_setCell_same _ _ _ x1, by simpa using h1.f0, by simpa using h1.f1, hr.row.touch ht (fun x hx => (hfr x hx).2.2.2), hr.nn, ⟨hr.cap, hr.cmax⟩, h1.hb, h1.hX, h1.bX, h1.hm, fun x hx => ?_, fun k y hk hy => ?_, h1.bel.trans (ht.below h1.bel.size fun k hk e => by have := h1.hX; omega)⟩
  · have g := hfr x hx
    have := ht.size
    exact ⟨g.1, by omega, g.2.2⟩
  · rcases hr.fresh with e | e
    · exact h.hmx k y hk (by rw [← e]; exact hy)
    · have := (e y hy).1
      have := h.i.mlt k hk
      omega
theorem Iw.start {w : World} {b first : Nat} {w2 : World} (hf : first < 4294967296) (hi : WI w2 b none ⟨first, []⟩) (hb : w.heap.size ≤ b) (h2 : Below w.heap.size w w2) (ty : TypeId) : Iw w b w2.heap.size (bas first) none 1000 none 0 [] (w2.alloc (.cells #[.int .i64 1000, .slice none 0 0] ty)) := by
  have hA : Below w2.heap.size w2 (w2.alloc (.cells #[.int .i64 1000, .slice none 0 0] ty)) := bel_alloc (Below.refl _ _) _
  have hs := h2.size
  have hbl := hi.lt
  have hi2 : WI w2 b none ⟨numW (bas first) 1000, numL (bas first) []⟩ := by rw [num_bas0 first hf]; exact hi
  exact ⟨hi2.keep hA, new_cell rfl rfl, new_cell rfl rfl, frozen_new _ _ _ _, frozen_new _ _ _ _, (fun h => by simp at h), (fun _ => rfl), ⟨by simp, by unfold maxLen; omega⟩, hb, hs, by omega, (fun k hk => by cases hk), (fun x hx => by cases hx), (fun k y hk => by cases hk), bel_alloc h2 _⟩
end Go.Proofs.Ytpilkaggiajjmaa
namespace Go.Proofs.Ytpilkaggiajjmaa
open Go.RowKit
set_option linter.unusedVariables false

theorem keep4d {W w1 : World} {p0 p1 p2 p3 : Addr} {v0 v1 v2 v3 : Value} (hb : Below W.heap.size W w1) (h : (W.cell? p0 = some v0 ∧ W.cell? p1 = some v1) ∧ (W.cell? p2 = some v2 ∧ W.cell? p3 = some v3)) : (w1.cell? p0 = some v0 ∧ w1.cell? p1 = some v1) ∧ (w1.cell? p2 = some v2 ∧ w1.cell? p3 = some v3) := by
  have f : ∀ {p : Addr} {v : Value}, W.cell? p = some v → w1.cell? p = some v := fun h => (hb.cell (block_lt_of_cell h)).trans h
  exact ⟨⟨f h.1.1, f h.1.2⟩, f h.2.1, f h.2.2⟩
theorem VRow.at1s {w : World} {a : Option Addr} {ms : List (List UInt8)} (h : VRow 1 w a (ms.map strCells1)) {j : Nat} (hj : j < ms.length) : ∃ b off, a = some ⟨b, off, none⟩ ∧ b < w.heap.size ∧ w.cell? ⟨b, off + j, none⟩ = some (.string (bs ms[j])) := by
  have hlen : (ms.map strCells1).length = ms.length := by simp
  obtain ⟨b, off, e1, hc⟩ := h (by rw [hlen]; omega)
  have h1 := hc j (by rw [hlen]; exact hj) 0 (by decide)
  rw [Nat.mul_one, Nat.add_zero] at h1
  have h2 : w.cell? ⟨b, off + j, none⟩ = some (.string (bs ms[j])) := by rw [h1]; simp [strCells1]
  exact ⟨b, off, e1, block_lt_of_cell h2, h2⟩
theorem goR_len : ∀ (f n : Nat) (L : Its), (goR f n L).2.2.length ≤ f := by
  intro f
  induction f with
  | zero => intro n L; simp [goR]
  | succ f ih =>
    intro n L
    cases hf : findW L n with
    | none => rw [goR_none hf]; simp
    | some t =>
      rw [goR_some hf]
      have := ih (n + 1) (L.filter (fun p => p.1 != n))
      simp only [List.length_cons]; omega
/-- One thing comes to both: the same numbers, the same texts, the same error. -/
theorem both_put (F n A : Nat) (L : Its) (t : List UInt8) (hi : InR n L) (h1 : n < A + 1000) (h2 : A < n + 1000) : ∃ (n' : Nat) (L' : Its) (out : List (List UInt8)) (e : Nat), putW ⟨numW F n, numL F L⟩ (numW F A) t = (⟨numW F n', numL F L'⟩, out, e) ∧ putR n L A t = ((n', L', out), e) ∧ InR n' L' ∧ n ≤ n' ∧ n' + L'.length ≤ n + L.length + 1 ∧ out.length ≤ 100 := by
  obtain ⟨g1, g2, g3⟩ := putR_ok n A L t hi
  refine ⟨_, _, _, _, put_num F n A L t hi h1 h2, rfl, g1, g2, g3, ?_⟩
  have hl := hi.len
  have hg := goR_len (L.length + 2) n (L ++ [(A, t)])
  unfold putR
  split
  · simp
  · split
    · simp
    · split
      · simp
      · simp only; omega
set_option maxRecDepth 100000 in
set_option maxHeartbeats 2000000 in
theorem windowIn_walk (w : World) (first : Nat) (hf : first < 4294967296) (a : Option Addr) (len cap : Nat) (ls : List (List Value)) (wa : ValArg 4 acts13R w a len cap ls) :
    Calls Try.prog 4 #[.int .u32 (first : Int), .slice a len cap] w fun e w' => e = .returned (.bool true) ∧ Below w.heap.size w w' := by
  have HAW := Lib.hid (fun W => awake13_any W)
  obtain ⟨rfl, hlc, hcm, hrow, hall⟩ := wa
  have HROW := Lib.hid hrow
  have HALL := Lib.hid hall
  unfold maxLen at hcm
  have hlm : ls.length ≤ 9223372036854775807 := by omega
  have HEX := Lib.hid (fun W => expect_any first hf W)
  clear hrow hall hlc hcm
  go_enter Try.func4, Try.ntmps4
  go_wp2_with fail
  refine (HAW.out _).mono ?_
  rintro r w1 ⟨rfl, hb1⟩
  go_wp2_with fail
  refine (HEX.out _).mono ?_
  rintro r w2 ⟨rfl, ho, hb2⟩
  have HO0 := Lib.hid (Iw.start (w := w) hf ho hb1.size (hb1.trans (hb2.mono hb1.size)) 56)
  clear ho hb1 hb2 HAW HEX
  go_wp2
  generalize w2.alloc (.cells #[.int .i64 1000, .slice none 0 0] 56) = W0 at HO0 ⊢
  generalize w2.heap.size = X at HO0 ⊢
  generalize w1.heap.size = b at HO0 ⊢
  go_loopw [7] (fun iv wr => ∃ (k n : Nat) (L : Its) (mo : Option Nat) (xa : Option Addr) (xc : Nat), k ≤ 120 ∧ iv = .int .i64 k ∧ Hid (1000 ≤ n ∧ n + L.length ≤ 1000 + k ∧ InR n L ∧ Iw w b X (bas first) mo n xa xc L wr)) (fun iv _ => 120 - (intOf iv).toNat)
  case atStart => exact ⟨0, 1000, [], none, none, 0, by omega, rfl, Lib.hid ⟨by omega, by simp, InR.none _, HO0.out⟩⟩
  case round =>
    obtain ⟨k, n, L, mo, xa, xc, hk, rfl, HS⟩ := hrel
    by_cases hgo : k < ls.length ∧ k < 120
    · obtain ⟨hlt, h120⟩ := hgo
      obtain ⟨gb, off, rfl, hc⟩ := HROW.out (by omega)
      obtain ⟨k0, k1, k2, k3, hr, wf0, wf1, wf2, hps⟩ := HALL.out ls[k] (List.getElem_mem hlt)
      have c1' := hc k hlt 1 (by decide)
      have c3' := hc k hlt 3 (by decide)
      rw [hr] at c1' c3'
      have hgl : gb < w.heap.size := block_lt_of_cell c1'
      obtain ⟨hn1, hn2, hinr, hiw⟩ := HS.out
      have d1 : wr.cell? ⟨gb, off + k * 4 + 1, none⟩ = some (.int .i64 k1) := (hiw.bel.cell (p := ⟨gb, off + k * 4 + 1, none⟩) hgl).trans c1'
      have d3 : wr.cell? ⟨gb, off + k * 4 + 3, none⟩ = some (.string k3) := (hiw.bel.cell (p := ⟨gb, off + k * 4 + 3, none⟩) hgl).trans c3'
      have hgr : gb < wr.heap.size := block_lt_of_cell d1
      obtain ⟨t, e0, htl⟩ := any_list k3 6
      have HCUT := Lib.hid (fun W => cut_any k3 6 W hps (by decide))
      rw [e0] at HCUT
      obtain ⟨d, hd, ed⟩ := andM k1 127 127 rfl (by decide)
      obtain ⟨A, hA, hA1, hA2⟩ : ∃ A : Nat, (n : Int) + (d : Int) - 40 = (A : Int) ∧ n ≤ A + 40 ∧ A ≤ n + 87 := ⟨n + d - 40, by omega, by omega, by omega⟩
      have hA3 : IntKind.i64.wrap ((n : Int) + (d : Int) - 40) = (A : Int) := by rw [IntKind.wrap_i64]; omega
      have hA4 : IntKind.i64.wrap ((n : Int) + (d : Int)) = (n : Int) + (d : Int) := by rw [IntKind.wrap_i64]; omega
      have HNB := Lib.hid (num_bas first A)
      have HIW := Lib.hid hiw
      have HINR := Lib.hid hinr
      have y0 := hiw.x0
      have hXl := hiw.lt
      have hi0 : (0 : Int) ≤ (k : Int) := by omega
      have hi1 : (k : Int) < (ls.length : Int) := by omega
      have hi2 : (k : Int) < 120 := by omega
      clear hc hr c1' c3' wf0 wf1 wf2 hps e0 hiw hinr HS
      go_upto_region 8 with (fail)
      go_quiet (fail)
      clear hA3 hA4 ed hA y0 hXl
      have HIW1 := Lib.hid (HIW.out.keep (drewN_bel wr nq))
      have e3 : (wr.drewN nq).cell? ⟨gb, off + k * 4 + 3, none⟩ = some (.string k3) := d3
      have hgr3 : gb < (wr.drewN nq).heap.size := hgr
      clear d1 d3 hgr HIW
      generalize wr.drewN nq = W1 at HIW1 e3 hgr3 ⊢
      go_wp2_with fail
      refine (HCUT.out _).mono ?_
      rintro r w4 ⟨rfl, rfl⟩
      clear HCUT e3 hgr3
      obtain ⟨n', L', out, e, hpw, hpr, hir', hn3, hn4, hout⟩ := both_put (bas first) n A L t HINR.out (by omega) (by omega)
      have HPUT := Lib.hid (inPut_any b mo ⟨numW (bas first) n, numL (bas first) L⟩ (numW (bas first) A) t W1 HIW1.out.i (numW_lt _ _) (by rw [numL_len]; have := HINR.out.len; omega))
      rw [hpw] at HPUT
      unfold InPost itV at HPUT
      simp only at HPUT
      have HRP := Lib.hid (fun W hr ha => ref13Put_any xa xc n A L t W (by omega) (by omega) HINR.out hr HIW1.out.nn HIW1.out.cap ha)
      rw [hpr] at HRP
      unfold P13 at HRP
      simp only at HRP
      have HIR := Lib.hid hir'
      clear hpw hpr hir'
      have hnb := HNB.out
      have hi90 : (900 : Int) ≤ (A : Int) := by omega
      have hi91 : (A : Int) ≤ 2000 := by omega
      generalize numW (bas first) A = NA at HPUT hnb
      go_wp2_with fail
      refine HPUT.out.mono ?_
      rintro r w5 ⟨ga, gc, mo5, rfl, hw5, hf5, hg5, ht5⟩
      dsimp only
      have HI5 := Lib.hid (HIW1.out.put hw5 hf5 ht5)
      have HG5 := Lib.hid (show VRow 1 w5 ga (out.map strCells1) ∧ (∀ x, ga = some x → x.block ≠ X) from ⟨hg5.row (str_wide out), fun x hx e => by have := hg5.2 x hx; have := HIW1.out.lt; omega⟩)
      clear hw5 hf5 hg5 ht5 HPUT HNB hnb HIW1
      go_upto_region 11 with (fail)
      have y0 := HI5.out.x0
      have y1 := HI5.out.x1
      have hXl := HI5.out.lt
      go_wp2_with fail
      refine (HRP.out _ HI5.out.row (fun x hx => (HI5.out.hx x hx).2.1)).mono ?_
      rintro r w6 ⟨xa6, xc6, ga2, gc2, rfl, hr6, hv6, hn6⟩
      dsimp only
      have hr7 := hr6.keep (bel_alloc (Below.refl _ _) (.cells #[.int .i64 (n' : Int), .slice xa6 L'.length xc6] 56))
      have ht7 := set2_touch (w6.alloc (.cells #[.int .i64 (n' : Int), .slice xa6 L'.length xc6] 56)) X (.int .i64 (n' : Int)) (.slice xa6 L'.length xc6)
      have HI6 := Lib.hid (HI5.out.ref hr7 L'.length rfl)
      have HB6 := Lib.hid (HI5.out.keep hr7.bel)
      have HG6 := Lib.hid (show VRow 1 (((w6.alloc (.cells #[.int .i64 (n' : Int), .slice xa6 L'.length xc6] 56)).setCell ⟨X, 0, none⟩ (.int .i64 (n' : Int))).setCell ⟨X, 1, none⟩ (.slice xa6 L'.length xc6)) ga (out.map strCells1) ∧ VRow 1 (((w6.alloc (.cells #[.int .i64 (n' : Int), .slice xa6 L'.length xc6] 56)).setCell ⟨X, 0, none⟩ (.int .i64 (n' : Int))).setCell ⟨X, 1, none⟩ (.slice xa6 L'.length xc6)) ga2 (out.map strCells1) from ⟨(HG5.out.1.touch (by decide) (str_wide _) (touch_of_below (S := fun _ => False) hr7.bel) (fun _ _ => id)).touch (by decide) (str_wide _) ht7 (fun x hx => HG5.out.2 x hx), (hv6.touch (by decide) (str_wide _) (touch_of_below (S := fun _ => False) (bel_alloc (Below.refl _ _) _)) (fun _ _ => id)).touch (by decide) (str_wide _) ht7 (fun x hx (e : x.block = X) => by have := hn6 x hx; have := HI5.out.lt; omega)⟩)
      clear hr6 hv6 hn6 HRP y0 y1 hXl hr7 ht7 HG5 HI5
      go_upto_region 12 with (fail)
      have z0 := HB6.out.x0
      have z1 := HB6.out.x1
      have zf0 := HB6.out.f0
      have zf1 := HB6.out.f1
      have hXl := HB6.out.lt
      clear HB6
      go_upto_region 13 with (fail)
      clear z0 z1 zf0 zf1 hXl
      generalize ((w6.alloc (.cells #[.int .i64 (n' : Int), .slice xa6 L'.length xc6] 56)).setCell ⟨X, 0, none⟩ (.int .i64 (n' : Int))).setCell ⟨X, 1, none⟩ (.slice xa6 L'.length xc6) = W7 at HI6 HG6 ⊢
      have HACK := Lib.hid (inAck_any b mo5 ⟨numW (bas first) n', numL (bas first) L'⟩ W7 HI6.out.i HIR.out.ok)
      unfold AckPost at HACK
      simp only at HACK
      go_wp2_with fail
      refine HACK.out.mono ?_
      rintro r w8 ⟨⟨B, rfl, hB, hbits⟩, hb8⟩
      dsimp only
      have hbe := bitsR_eq hB (HIR.out.bits hbits) HIR.out.hi
      have HLEN := Lib.hid (fun W h => inLen_any b mo5 ⟨numW (bas first) n', numL (bas first) L'⟩ W h)
      simp only [numL_len] at HLEN
      have HBI := Lib.hid (fun W hr => bits13_any xa6 xc6 n' L' W (by have := HIR.out.len; omega) (by omega) hr)
      unfold Bits13 at HBI
      rw [hbe] at HBI
      have HA8 : Hid (Below W7.heap.size W7 (w8.alloc (.cells #[.int .u32 (numW (bas first) n' : Int), .int .u32 (B : Int)] 43))) := Lib.hid (bel_alloc hb8 _)
      have HI8 := Lib.hid (HI6.out.keep HA8.out)
      have HG8 := Lib.hid (show VRow 1 (w8.alloc (.cells #[.int .u32 (numW (bas first) n' : Int), .int .u32 (B : Int)] 43)) ga (out.map strCells1) ∧ VRow 1 (w8.alloc (.cells #[.int .u32 (numW (bas first) n' : Int), .int .u32 (B : Int)] 43)) ga2 (out.map strCells1) from ⟨HG6.out.1.touch (by decide) (str_wide _) (touch_of_below (S := fun _ => False) HA8.out) (fun _ _ => id), HG6.out.2.touch (by decide) (str_wide _) (touch_of_below (S := fun _ => False) HA8.out) (fun _ _ => id)⟩)
      have u0 : (w8.alloc (.cells #[.int .u32 (numW (bas first) n' : Int), .int .u32 (B : Int)] 43)).cell? ⟨w8.heap.size, 0, none⟩ = some (.int .u32 (numW (bas first) n' : Int)) := by simp
      have u1 : (w8.alloc (.cells #[.int .u32 (numW (bas first) n' : Int), .int .u32 (B : Int)] 43)).cell? ⟨w8.heap.size, 1, none⟩ = some (.int .u32 (B : Int)) := by simp
      have HU := Lib.hid (And.intro u0 u1)
      clear hb8 hbits hbe HACK HI6 HG6 HA8 u0 u1
      go_upto_region 14 with (fail)
      have hnb := num_bas first n'
      have hw1 : IntKind.i64.wrap ((n' : Int) - 1000) = (n' : Int) - 1000 := by rw [IntKind.wrap_i64]; omega
      have hw2 : IntKind.u32.wrap ((n' : Int) - 1000) = ((n' : Int) - 1000) % 4294967296 := IntKind.wrap_u32 _
      have hw3 : IntKind.u32.wrap ((first : Int) + ((n' : Int) - 1000) % 4294967296) = (numW (bas first) n' : Int) := by rw [IntKind.wrap_u32]; exact hnb
      have hl32 : decide ((32 : Int) < (L'.length : Int)) = false := by have := HIR.out.len; simp; omega
      have hl33 : (L'.length : Int) ≤ 32 := by have := HIR.out.len; omega
      generalize hNN : numW (bas first) n' = N at hnb hw3 HG8 HU HI8 ⊢
      have HNN := Lib.hid hNN
      clear hNN
      generalize w8.alloc (.cells #[.int .u32 (N : Int), .int .u32 (B : Int)] 43) = W9 at HI8 HG8 HU ⊢
      generalize w8.heap.size = Z at HU ⊢
      have x0 := HI8.out.x0
      have x1 := HI8.out.x1
      obtain ⟨u0, u1⟩ := HU.out
      have hXl := HI8.out.lt
      have hZl := block_lt_of_cell u0
      simp only at hZl
      have HI8d := Lib.hid (HI8.out.keep (Below.refl W9.heap.size W9).drew)
      go_region_held3 (fun w' => (w'.cell? ⟨X, 0, none⟩ = some (.int .i64 (n' : Int)) ∧ w'.cell? ⟨X, 1, none⟩ = some (.slice xa6 L'.length xc6)) ∧ (w'.cell? ⟨Z, 0, none⟩ = some (.int .u32 (N : Int)) ∧ w'.cell? ⟨Z, 1, none⟩ = some (.int .u32 (B : Int))))
        (first | (refine keep4d hb10 ?_; assumption) | assumption | exact ⟨⟨x0, x1⟩, u0, u1⟩)
        (first
          | (go_at_call 28; refine (HLEN.out _ HI8d.out.i).mono ?_; rintro e w' ⟨rfl, rfl⟩)
          | (go_at_call 29; refine (HBI.out _ HI8d.out.row).mono ?_; rintro e w10 ⟨rfl, hb10⟩; have HB10 := Lib.hid hb10))
      all_goals
        have HI10 := Lib.hid (HI8d.out.keep hb10)
        have HG10 := Lib.hid (show VRow 1 w10 ga (out.map strCells1) ∧ VRow 1 w10 ga2 (out.map strCells1) from ⟨(HG8.out.1.touch (by decide) (str_wide _) (touch_of_below (S := fun _ => False) (Below.refl W9.heap.size W9).drew) (fun _ _ => id)).touch (by decide) (str_wide _) (touch_of_below (S := fun _ => False) hb10) (fun _ _ => id), (HG8.out.2.touch (by decide) (str_wide _) (touch_of_below (S := fun _ => False) (Below.refl W9.heap.size W9).drew) (fun _ _ => id)).touch (by decide) (str_wide _) (touch_of_below (S := fun _ => False) hb10) (fun _ _ => id)⟩)
        have hob : (out.length : Int) ≤ 100 := by omega
        clear hb10 HB10 HI8 HI8d HG8 HU HLEN HBI x0 x1 u0 u1 hXl hZl hnb hw1 hw2 hw3 hl32 hl33
        go_wp2_with fail
        go_loopw [115] (fun iv wx => ∃ j : Nat, j ≤ out.length ∧ iv = .int .i64 j ∧ Hid (Iw w b X (bas first) mo5 n' xa6 xc6 L' wx ∧ VRow 1 wx ga (out.map strCells1) ∧ VRow 1 wx ga2 (out.map strCells1))) (fun iv _ => out.length - (intOf iv).toNat)
        case atStart => exact ⟨0, Nat.zero_le _, rfl, Lib.hid ⟨HI10.out, HG10.out.1, HG10.out.2⟩⟩
        case round =>
          obtain ⟨j, hj, rfl, HJ⟩ := hrel
          by_cases hjl : j < out.length
          · obtain ⟨g1, o1, rfl, hg1, q1⟩ := HJ.out.2.1.at1s hjl
            obtain ⟨g2, o2, rfl, hg2, q2⟩ := HJ.out.2.2.at1s hjl
            generalize out[j] = y at q1 q2
            have hj0 : (0 : Int) ≤ (j : Int) := by omega
            have hj1 : (j : Int) < (out.length : Int) := by omega
            have HJD := Lib.hid (fun nq => show Iw w b X (bas first) mo5 n' xa6 xc6 L' (wr.drewN nq) ∧ VRow 1 (wr.drewN nq) (some ⟨g1, o1, none⟩) (out.map strCells1) ∧ VRow 1 (wr.drewN nq) (some ⟨g2, o2, none⟩) (out.map strCells1) from ⟨HJ.out.1.keep (drewN_bel _ nq), HJ.out.2.1.touch (by decide) (str_wide _) (touch_of_below (S := fun _ => False) (drewN_bel _ nq)) (fun _ _ => id), HJ.out.2.2.touch (by decide) (str_wide _) (touch_of_below (S := fun _ => False) (drewN_bel _ nq)) (fun _ _ => id)⟩)
            go_upto_region 19 with (fail)
            go_quiet (fail)
            go_wp2
            go_roundw
            case rel => exact ⟨j + 1, by omega, by go_num, Lib.hid (HJD.out _)⟩
            case measure => simp [intOf] <;> omega
          · obtain rfl : j = out.length := by omega
            have HF := Lib.hid HJ.out.1
            clear HJ HI10 HG10
            go_wp2_with fail
            go_roundw
            case rel => exact ⟨k + 1, n', L', mo5, xa6, xc6, by omega, by go_num, Lib.hid ⟨by omega, by omega, HIR.out, HF.out⟩⟩
            case measure => simp [intOf] <;> omega
    · have hend : ((ls.length : Int) ≤ (k : Int)) ∨ ((k : Int) < (ls.length : Int) ∧ (120 : Int) ≤ (k : Int)) := by omega
      have HB := Lib.hid HS.out.2.2.2.bel
      clear HS hgo
      rcases hend with hend | ⟨hend, hend2⟩
      all_goals
        go_wp2
        go_ret
        exact ⟨rfl, HB.out⟩
end Go.Proofs.Ytpilkaggiajjmaa
namespace Go.Proofs.Ytpilkaggiajjmaa.windowIn
open Go.ChangeShapes Go.WideShapes Go.ChangeAt Go.RowKit
open Go.ChangeMaps (open_string shut_string)
set_option linter.unusedVariables false
theorem nat32 {a : Int} (h : (Lit.int .u32 a).wf = true) : ∃ n : Nat, a = (n : Int) ∧ n < 4294967296 := by
  have h2 : 0 ≤ a ∧ a ≤ 4294967295 := by simpa [Lit.wf, IntKind.min, IntKind.max, IntKind.signed, IntKind.bits] using h
  exact ⟨a.toNat, by omega, by omega⟩
theorem walk (w : World) (a0 : Int) (w0 : (Lit.int .u32 a0).wf = true) (a : Option Addr) (len cap : Nat) (m : List (List Value)) (wa : ValArg 4 acts13R w a len cap m) :
    Calls Try.prog 4 #[.int .u32 a0, .slice a len cap] w fun e w' => e = .returned (.bool true) ∧ Below w.heap.size w w' := by
  obtain ⟨n0, rfl, h0⟩ := nat32 w0
  exact windowIn_walk w n0 h0 a len cap m wa

/-! ### THE ROW's STEP -/
theorem own : ownKnob Try.prog.godebug = none := by kernel_rfl
theorem laidOut : laidOutB Try.prog = true := by kernel_rfl
set_option maxRecDepth 100000 in
theorem lifted (os : Os) (started : os.Started) (H : Type) (enc : TypeId × Value → H) :
    ReturnsInHanded {} Try.checked os 4 .any (Rows.windowInSpec.pre6 enc Try.prog Try.f4 Rows.windowInRow.domain false) (Rows.windowInSpec.post enc Try.prog Try.f4 false true false false) := by
  refine returnsInHanded_of_change (C := Try.checked) own started (by kernel_rfl) Try.func4
    (ChangeSpec.witness6 (enc := enc) (C := Try.checked) false ⟨#[], #[.int .u32 0, .slice none 0 0], []⟩ 8 (by kernel_rfl) (by kernel_rfl) (by kernel_rfl) (by kernel_rfl)) ?_
  intro W base args ds gs before hval0 hW hcnd _
  have hval : ∀ (j : Nat) t v, Try.f4.params[j]? = some t → args[j]? = some v → Value.okWide Try.prog W .any base t v := hval0
  have hW' := hW
  obtain ⟨p, q, hA0, hV, rfl, hfz, hnd⟩ := hW
  have hA : DataW.TrodAll enc Try.prog W 0 (fun _ => true) true Try.f4.params.toList args.toList ds p := hA0
  rw [Try.params4] at hA hval
  obtain ⟨v0, vs0, d0, ds0, p0, q0, hargs, rfl, rfl, h0, r0⟩ := trodAll_cons hA
  obtain ⟨v1, vs1, d1, ds1, p1, q1, rfl, rfl, rfl, h1, r1⟩ := trodAll_cons r0
  obtain ⟨rfl, rfl, rfl⟩ := trodAll_nil r1
  obtain rfl : args = #[v0, v1] := by cases args; simp_all
  obtain ⟨rfl, rfl⟩ := trodVars_none hV
  have k0 := h0
  have lt0 : ∀ x ∈ p0, x.block < W.heap.size := by obtain ⟨m, hm⟩ := k0; exact DataW.trod_lt m _ _ _ hm
  obtain ⟨a0, rfl, rfl, rfl, w0⟩ := open_int Try.underlying22 (hval 0 22 v0 rfl rfl) h0
  have k1 := h1
  have lt1 : ∀ x ∈ p1, x.block < W.heap.size := by obtain ⟨m, hm⟩ := k1; exact DataW.trod_lt m _ _ _ hm
  obtain ⟨a1, len1, cap1, rfl⟩ := okWide_slice Try.underlying23 (hval 1 23 v1 rfl rfl)
  obtain ⟨m1, w1⟩ : ∃ m, ValArg 4 acts13R W a1 len1 cap1 m := by
    obtain ⟨fuel, hf⟩ := h1
    exact acts13_of hf
  clear hA0 hval0
  refine (walk W a0 w0 a1 len1 cap1 m1 w1).mono fun e W' ⟨he, bel⟩ => ?_
  subst he
  exact ⟨_, rfl, _, _, _, [], _, [], hW', trodAll_mk1 (shut_bool Try.underlying4 _), (trodAll_cons_mk (Below.trod laidOut (by kernel_rfl) (of_decide_eq_true (by kernel_rfl)) k0 bel lt0) (trodAll_cons_mk (Below.trod laidOut (by kernel_rfl) (of_decide_eq_true (by kernel_rfl)) k1 bel lt1) trodAll_mk0)), rfl, bel.frame _, fun h => by cases h⟩

theorem over : Rows.windowInRow.holds Try.pinned (OpenSpec.ofChange Rows.windowInSpec) :=
  OpenClaim.holds_of_wide 4 Try.f4 rfl rfl rfl rfl rfl rfl rfl ⟨rfl, rfl, rfl, rfl, rfl⟩ rfl rfl rfl rfl rfl (by kernel_rfl) Try.func4 (by kernel_rfl)
    (of_decide_eq_true (by kernel_rfl)) (by unfold Func.isWrapper; first | (rw [if_pos (by decide +kernel)]; kernel_rfl) | (rw [if_neg (by decide +kernel)]; exact ⟨rfl, rfl⟩))
    (fun os started H enc _ => lifted os started H enc)

end Go.Proofs.Ytpilkaggiajjmaa.windowIn
namespace Go.Proofs.Ytpilkaggiajjmaa
theorem windowIn_proved : Rows.WindowInSaid := windowIn.over
end Go.Proofs.Ytpilkaggiajjmaa
