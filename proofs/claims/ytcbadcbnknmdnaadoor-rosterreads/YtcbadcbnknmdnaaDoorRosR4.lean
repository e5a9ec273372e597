/-
  Layer 18: the document's own: behind one change.
-/
import Derived.Test.YtcbadcbnknmdnaaDoorRosR3
import Derived.Test.YtcbadcbnknmdnaaDoorRWin2
import Derived.Deep.RegionHeld3
namespace Go.Proofs.YtcbadcbnknmdnaaDoor
open Go.RowKit
set_option linter.unusedVariables false

theorem vrow_int {w : World} {a : Option Addr} {L : List Int} (h : IntRow .i64 w a L) : VRow 1 w a (L.map iC18) := fun h0 => by
  obtain ⟨b, off, e, hc⟩ := h (by simpa using h0)
  refine ⟨b, off, e, fun i hi j hj => ?_⟩
  obtain rfl : j = 0 := by omega
  have := hc i (by simpa using hi)
  rw [Nat.mul_one, Nat.add_zero, this]
  simp [iC18]
theorem app18a {W0 Wc : World} {a : Option Addr} {c k : Nat} {L : List Int} {ty : TypeId} (hmade : NewV 3 1 W0 (some ⟨k, 0, none⟩) 0 [] Wc) (hr : IntRow .i64 W0 a L) (hn : a = none → L = []) (hl : L.length ≤ 1000) (N : Nat) (hN : L.length = N) :
    ∃ a' c' w', (Builtin.append_ #[22, 22] ty #[.slice (some ⟨k, 0, none⟩) 0 0, .slice a N c]).run Tryd.prog Wc = .ok (.slice a' N c') w' ∧ (NewV 3 1 W0 a' c' (L.map iC18) w' ∧ Touch (fun b => b = k) Wc w') := by
  subst hN
  obtain ⟨a', c', w', hrun, hnew, ht⟩ := newV_more (ty := ty) (T := 22) int18Ty Tryd.underlying22 hmade (i18_wide L) a c (vrow_int (hr.below hmade.2)) (fun e => by rw [hn e]; rfl) (by simp; omega)
  rw [List.nil_append] at hnew
  rw [List.length_nil, Nat.zero_add, List.length_map] at hrun
  exact ⟨a', c', w', hrun, hnew, ht.mono fun b _ h => by simpa using h.symm⟩
theorem app18b {W0 Wc : World} {a1 a2 : Option Addr} {c1 c2 : Nat} {L M : List Int} {ty : TypeId} (h : NewV 3 1 W0 a1 c1 (L.map iC18) Wc) (hv : IntRow .i64 Wc a2 M) (hn : a2 = none → M = []) (hl : L.length + M.length ≤ 1000) (N K : Nat) (hN : L.length = N) (hK : M.length = K) :
    ∃ a' c' w', (Builtin.append_ #[22, 22] ty #[.slice a1 N c1, .slice a2 K c2]).run Tryd.prog Wc = .ok (.slice a' (N + K) c') w' ∧ NewV 3 1 W0 a' c' ((L ++ M).map iC18) w' := by
  subst hN hK
  obtain ⟨a', c', w', hrun, hnew, -⟩ := newV_more (ty := ty) (T := 22) int18Ty Tryd.underlying22 h (i18_wide M) a2 c2 (vrow_int hv) (fun e => by rw [hn e]; rfl) (by simp; omega)
  rw [List.length_map, List.length_map] at hrun
  rw [← List.map_append] at hnew
  exact ⟨a', c', w', hrun, hnew⟩
/-- What a change of the document's reads: the roster's box, the change's, and the answer's. -/
structure OneM (w : World) (v : Value) (e : Int) (k p : Int) (u : Value) (wr : World) : Prop where
  r0 : wr.cell? ⟨w.heap.size, 0, none⟩ = some v
  r1 : wr.cell? ⟨w.heap.size, 1, none⟩ = some (.int .i64 e)
  c0 : wr.cell? ⟨w.heap.size + 1, 0, none⟩ = some (.int .i64 k)
  c1 : wr.cell? ⟨w.heap.size + 1, 1, none⟩ = some (.int .i64 p)
  c2 : wr.cell? ⟨w.heap.size + 1, 2, none⟩ = some u
  s0 : wr.cell? ⟨w.heap.size + 2, 0, none⟩ = some (.slice none 0 0)
  s1 : wr.cell? ⟨w.heap.size + 2, 1, none⟩ = some (.int .i64 0)
  f0 : wr.frozen? ⟨w.heap.size + 2, 0, none⟩ = false
  f1 : wr.frozen? ⟨w.heap.size + 2, 1, none⟩ = false
  bel : Below w.heap.size w wr
theorem OneM.lt {w : World} {v : Value} {e k p : Int} {u : Value} {wr : World} (h : OneM w v e k p u wr) : w.heap.size + 2 < wr.heap.size := block_lt_of_cell h.s0
theorem OneM.keep {w : World} {v : Value} {e k p : Int} {u : Value} {wr w' : World} (h : OneM w v e k p u wr) (hb : Below wr.heap.size wr w') : OneM w v e k p u w' := by
  have hl := h.lt
  have hc : ∀ b j, b ≤ w.heap.size + 2 → w'.cell? ⟨b, j, none⟩ = wr.cell? ⟨b, j, none⟩ := fun b j hb2 => hb.cell (p := ⟨b, j, none⟩) (show b < wr.heap.size by omega)
  have hf : ∀ b j, b ≤ w.heap.size + 2 → w'.frozen? ⟨b, j, none⟩ = wr.frozen? ⟨b, j, none⟩ := fun b j hb2 => hb.frozen (p := ⟨b, j, none⟩) (show b < wr.heap.size by omega)
  exact ⟨(hc _ _ (by omega)).trans h.r0, (hc _ _ (by omega)).trans h.r1, (hc _ _ (by omega)).trans h.c0, (hc _ _ (by omega)).trans h.c1, (hc _ _ (by omega)).trans h.c2, (hc _ _ (by omega)).trans h.s0, (hc _ _ (by omega)).trans h.s1, (hf _ _ (by omega)).trans h.f0, (hf _ _ (by omega)).trans h.f1, h.bel.trans (hb.mono h.bel.size)⟩
theorem OneM.new (w : World) (v : Value) (e k p : Int) (u : Value) : OneM w v e k p u (((w.alloc (.cells #[v, .int .i64 e] 30)).alloc (.cells #[.int .i64 k, .int .i64 p, u] 47)).alloc (.cells #[.slice none 0 0, .int .i64 0] 30)) := by
  have e1 : (w.alloc (.cells #[v, .int .i64 e] 30)).heap.size = w.heap.size + 1 := by simp
  have e2 : ((w.alloc (.cells #[v, .int .i64 e] 30)).alloc (.cells #[.int .i64 k, .int .i64 p, u] 47)).heap.size = w.heap.size + 2 := by simp
  exact ⟨alloc_cell (alloc_cell (new_cell rfl rfl) _) _, alloc_cell (alloc_cell (new_cell rfl rfl) _) _, alloc_cell (new_cell e1.symm rfl) _, alloc_cell (new_cell e1.symm rfl) _, alloc_cell (new_cell e1.symm rfl) _, new_cell e2.symm rfl, new_cell e2.symm rfl, by rw [← e2]; exact frozen_new _ _ _ _, by rw [← e2]; exact frozen_new _ _ _ _, bel_alloc (bel_alloc (bel_alloc (Below.refl _ _) _) _) _⟩
theorem oneKeep {w w' : World} {p q r s t : Addr} {a b c d f : Value} (hb : Below w.heap.size w w') (h : w.cell? p = some a ∧ w.cell? q = some b ∧ w.cell? r = some c ∧ w.cell? s = some d ∧ w.cell? t = some f ∧ w.frozen? s = false ∧ w.frozen? t = false) : w'.cell? p = some a ∧ w'.cell? q = some b ∧ w'.cell? r = some c ∧ w'.cell? s = some d ∧ w'.cell? t = some f ∧ w'.frozen? s = false ∧ w'.frozen? t = false :=
  ⟨(hb.cell (block_lt_of_cell h.1)).trans h.1, (hb.cell (block_lt_of_cell h.2.1)).trans h.2.1, (hb.cell (block_lt_of_cell h.2.2.1)).trans h.2.2.1, (hb.cell (block_lt_of_cell h.2.2.2.1)).trans h.2.2.2.1, (hb.cell (block_lt_of_cell h.2.2.2.2.1)).trans h.2.2.2.2.1, (hb.frozen (block_lt_of_cell h.2.2.2.1)).trans h.2.2.2.2.2.1, (hb.frozen (block_lt_of_cell h.2.2.2.2.1)).trans h.2.2.2.2.2.2⟩
theorem filt_succ (L : List Int) (f : Int → Bool) (k : Nat) (hk : k < L.length) : (L.take (k + 1)).filter f = if f L[k] = true then (L.take k).filter f ++ [L[k]] else (L.take k).filter f := by
  rw [List.take_succ_eq_append_getElem hk, List.filter_append]
  by_cases h : f L[k] = true
  · rw [if_pos h]; simp [h]
  · rw [if_neg h]; simp [h]
set_option maxRecDepth 100000 in
set_option maxHeartbeats 4000000 in
/-- One that leaves, or is dropped. -/
theorem done_leave (n : Nat) (a : Option Addr) (c : Nat) (e k p : Int) (u : Value) (w : World) (h0 : IntRow .i64 w a (lstP n)) (hk : k ≠ 1) (he : 0 ≤ e ∧ e ≤ 1000000) : Calls Tryd.prog 40 #[docV a (lenP n) c e, .agg #[.int .i64 k, .int .i64 p, u]] w (DocNew ((lstP n).filter (fun y => !(y == p))) (e + 1) w) := by
  have HM := Lib.hid (OneM.new w (.slice a (lenP n) c) e k p u)
  have HF : Hid (∀ a' c' W N, (∀ x, a' = some x → w.heap.size ≤ x.block) → N = ((lstP n).filter (fun y => !(y == p))).length → ActL W (.slice a' N c') ((lstP n).filter (fun y => !(y == p))) → Below w.heap.size w W → DocNew ((lstP n).filter (fun y => !(y == p))) (e + 1) w (.returned (.agg #[.slice a' N c', .int .i64 (e + 1)])) W) := Lib.hid fun a' c' W N h9 hN h1 h2 => by
    subst hN
    exact ⟨a', c', rfl, Lib.hid h1, h9, h2⟩
  have HR := Lib.hid (fun W (hW : Below w.heap.size w W) => h0.below hW)
  have HLEN : Hid ((lstP n).length = lenP n) := Lib.hid rfl
  have hll := lenP_le n
  generalize lstP n = L at HF HR HLEN ⊢
  generalize DocNew (L.filter (fun y => !(y == p))) (e + 1) w = Post at HF ⊢
  generalize lenP n = LN at HM HLEN hll ⊢
  have hkb : (k == 1) = false := by rw [beq_eq_false_iff_ne]; exact hk
  have hwe : IntKind.i64.wrap (e + 1) = e + 1 := by rw [IntKind.wrap_i64]; omega
  clear h0
  unfold docV
  go_enter Tryd.func40, Tryd.ntmps40
  go_wp2
  have HROW := Lib.hid (NewV.made 3 1 (Below.refl _ (((w.alloc (.cells #[.slice a LN c, .int .i64 e] 30)).alloc (.cells #[.int .i64 k, .int .i64 p, u] 47)).alloc (.cells #[.slice none 0 0, .int .i64 0] 30))) (w.heap.size + 1 + 1 + 1) (by simp))
  generalize ((w.alloc (.cells #[.slice a LN c, .int .i64 e] 30)).alloc (.cells #[.int .i64 k, .int .i64 p, u] 47)).alloc (.cells #[.slice none 0 0, .int .i64 0] 30) = W at HM HROW ⊢
  have hlt := HM.out.lt
  go_loopw [5, 29] (fun v i wr => ∃ (j : Nat) (a' : Option Addr) (c' : Nat) (N : Nat), j ≤ LN ∧ i = .int .i64 j ∧ v = .slice a' N c' ∧ Hid (N = ((L.take j).filter (fun y => !(y == p))).length ∧ NewV 3 1 W a' c' (((L.take j).filter (fun y => !(y == p))).map iC18) wr)) (fun _ i _ => LN - (intOf i).toNat)
  case atStart => exact ⟨0, _, _, 0, by omega, rfl, rfl, Lib.hid ⟨rfl, HROW.out⟩⟩
  case round =>
    obtain ⟨j, a', c', N, hj, rfl, rfl, HN⟩ := hrel
    have hi0 : (0 : Int) ≤ (j : Int) := by omega
    have HMW := Lib.hid (HM.out.keep HN.out.2.2)
    have r0 := HMW.out.r0
    have r1 := HMW.out.r1
    have c1 := HMW.out.c1
    have hlw := HMW.out.lt
    by_cases hlt2 : j < LN
    · have hi1 : (j : Int) < (LN : Int) := by omega
      have hjl : j < L.length := by have := HLEN.out; omega
      obtain ⟨b, off, rfl, hc⟩ := HR.out _ HMW.out.bel (by omega)
      have hv := hc j hjl
      have hbl := block_lt_of_cell hv
      simp only at hbl
      have HS := Lib.hid (filt_succ L (fun y => !(y == p)) j hjl)
      generalize L[j] = x at hv HS
      clear hc
      by_cases hxp : x = p
      · have hb : (x == p) = true := by rw [beq_iff_eq]; exact hxp
        have HS2 : Hid ((L.take (j + 1)).filter (fun y => !(y == p)) = (L.take j).filter (fun y => !(y == p))) := Lib.hid (by rw [HS.out, hb]; rfl)
        clear HS
        subst hxp
        go_wp2
        go_roundw
        case rel => exact ⟨j + 1, a', c', N, by omega, by go_num, rfl, by rw [HS2.out]; exact HN⟩
        case measure => simp [intOf] <;> omega
      · have hb : (x == p) = false := by rw [beq_eq_false_iff_ne]; exact hxp
        have HS2 : Hid ((L.take (j + 1)).filter (fun y => !(y == p)) = (L.take j).filter (fun y => !(y == p)) ++ [x]) := Lib.hid (by rw [HS.out, hb]; rfl)
        obtain ⟨hN, hnv⟩ := HN.out
        have hNle : ((L.take j).filter (fun y => !(y == p))).length ≤ 100000 := by
          have h1 := List.length_filter_le (fun y => !(y == p)) (L.take j)
          have h2 : (L.take j).length ≤ L.length := by simp; omega
          have := HLEN.out
          omega
        obtain ⟨a2, c2, w2, hrun, hnew⟩ := new18_one hnv x hNle
        rw [← hN] at hrun
        have HR2 := Lib.hid hrun
        have HN2 : Hid (N + 1 = ((L.take (j + 1)).filter (fun y => !(y == p))).length ∧ NewV 3 1 W a2 c2 (((L.take (j + 1)).filter (fun y => !(y == p))).map iC18) w2) := Lib.hid (by rw [HS2.out]; exact ⟨by rw [List.length_append, ← hN]; rfl, hnew⟩)
        clear HS HS2 hrun hnew hnv hN hNle HN
        go_wp2_with (at_builtin; refine wpList_append_run _ rfl (.tmp 37) (.tmp 39) 22 22 rfl _ _ rfl rfl (.slice a2 (N + 1) c2) w2 HR2.out ?_)
        go_roundw
        case rel => exact ⟨j + 1, a2, c2, N + 1, by omega, by go_num, rfl, HN2⟩
        case measure => simp [intOf] <;> omega
    · obtain rfl : j = LN := by omega
      have HN2 : Hid (N = (L.filter (fun y => !(y == p))).length ∧ NewV 3 1 W a' c' ((L.filter (fun y => !(y == p))).map iC18) wr) := Lib.hid (by
        have := HN.out
        rwa [List.take_of_length_le (by rw [HLEN.out]; exact Nat.le_refl _)] at this)
      have s0 := HMW.out.s0
      have s1 := HMW.out.s1
      have f0 := HMW.out.f0
      have f1 := HMW.out.f1
      have hi1 : (j : Int) ≤ (j : Int) := by omega
      have HACT : Hid (ActL ((wr.setCell ⟨w.heap.size + 2, 0, none⟩ (.slice a' N c')).setCell ⟨w.heap.size + 2, 1, none⟩ (.int .i64 (e + 1))) (.slice a' N c') (L.filter (fun y => !(y == p)))) := Lib.hid (by
        obtain ⟨hN, hnv⟩ := HN2.out
        rw [hN]
        exact own18_act (hnv.1.touch (S := fun b => b = w.heap.size + 2) (((Touch.refl (fun b => b = w.heap.size + 2) wr).setCell (p := ⟨w.heap.size + 2, 0, none⟩) (fun _ => rfl) _).setCell (p := ⟨w.heap.size + 2, 1, none⟩) (fun _ => rfl) _) (fun x hx e1 => by have := hnv.1.2 x hx; omega)))
      have HFR : Hid (∀ x, a' = some x → w.heap.size ≤ x.block) := Lib.hid (fun x hx => by have := HN2.out.2.1.2 x hx; have := HM.out.bel.size; omega)
      clear HN HROW
      go_wp2
      exact bodyPost_ret (v := .agg #[.slice a' N c', .int .i64 (e + 1)]) (by simp [results, Tryd.results40, go_sem, s0, s1]) rfl (HF.out _ _ _ _ HFR.out HN2.out.1 HACT.out (by repeat (first | exact HMW.out.bel | refine Below.setCell ?_ (by first | (simp; done) | (simp; omega)) _)))
end Go.Proofs.YtcbadcbnknmdnaaDoor
