/-
  Layer 18: the document's own: does one play; of players.
-/
import Derived.Test.YtcbadcbnknmdnaaDoorRos5
namespace Go.Proofs.YtcbadcbnknmdnaaDoor
open Go.RowKit
set_option linter.unusedVariables false

def docV (a : Option Addr) (N c : Nat) (e : Int) : Value := .agg #[.slice a N c, .int .i64 e]
theorem hasL_take_succ (L : List Int) (x : Int) (k : Nat) (hk : k < L.length) : hasL (L.take (k + 1)) x = (hasL (L.take k) x || L[k] == x) := by
  rw [List.take_succ_eq_append_getElem hk, hasL_snoc]
set_option maxRecDepth 100000 in
set_option maxHeartbeats 1000000 in
theorem dhas_any (a : Option Addr) (c : Nat) (L : List Int) (e x : Int) (w : World) (hr : IntRow .i64 w a L) (hl : L.length ≤ 1000) (N : Nat) (hN : L.length = N) : Calls Tryd.prog 33 #[docV a N c e, .int .i64 x] w fun r w' => r = .returned (.bool (hasL L x)) ∧ Below w.heap.size w w' := by
  subst hN
  have HA := Lib.hid (show Below w.heap.size w (w.alloc (.cells #[.slice a L.length c, .int .i64 e] 30)) from bel_alloc (Below.refl _ _) _)
  have HR := Lib.hid (hr.below HA.out)
  clear hr
  generalize hQ : hasL L x = Q
  have HQ := Lib.hid hQ
  clear hQ
  unfold docV
  go_enter Tryd.func33, Tryd.ntmps33
  go_wp2
  generalize w.alloc (.cells #[.slice a L.length c, .int .i64 e] 30) = W at HA HR ⊢
  go_loopw [10] (fun i wr => ∃ k : Nat, k ≤ L.length ∧ i = .int .i64 k ∧ wr = W ∧ Hid (hasL (L.take k) x = false)) (fun i _ => L.length - (intOf i).toNat)
  case atStart => exact ⟨0, by omega, rfl, rfl, Lib.hid rfl⟩
  case round =>
    obtain ⟨k, hk, rfl, rfl, HM⟩ := hrel
    have hi0 : (0 : Int) ≤ (k : Int) := by omega
    by_cases hlt : k < L.length
    · have hi1 : (k : Int) < (L.length : Int) := by omega
      obtain ⟨b, off, rfl, hc⟩ := HR.out (by omega)
      have hv := hc k hlt
      have hbl := block_lt_of_cell hv
      simp only at hbl
      have HS := Lib.hid (hasL_take_succ L x k hlt)
      have HIN := Lib.hid (fun (h : L[k] = x) => show Q = true by rw [← HQ.out, hasL_iff, ← h]; exact List.getElem_mem hlt)
      generalize L[k] = y at hv HS HIN
      clear hc
      by_cases hyx : y = x
      · have HT := Lib.hid (HIN.out hyx)
        subst hyx
        go_wp2
        go_ret
        exact ⟨by rw [HT.out]; first | done | rfl, HA.out⟩
      · have HM2 : Hid (hasL (L.take (k + 1)) x = false) := Lib.hid (by rw [HS.out, HM.out]; simpa using hyx)
        have hb : (y == x) = false := by rw [beq_eq_false_iff_ne]; exact hyx
        go_wp2
        go_roundw
        case rel => exact ⟨k + 1, by omega, by go_num, trivial, HM2⟩
        case measure => simp [intOf] <;> omega
    · obtain rfl : k = L.length := by omega
      have HT : Hid (Q = false) := Lib.hid (by rw [← HQ.out]; have := HM.out; rwa [List.take_length] at this)
      have hi1 : (L.length : Int) ≤ (L.length : Int) := by omega
      go_wp2
      go_ret
      exact ⟨by rw [HT.out]; first | done | rfl, HA.out⟩
/-- What the document's calls hand out: a roster whose list none had before, or one that stays. -/
def DocPost (L : List Int) (e : Int) (w : World) (r : Ending) (w' : World) : Prop := ∃ a c, r = .returned (docV a L.length c e) ∧ Hid (ActL w' (.slice a L.length c) L) ∧ Below w.heap.size w w'
/-- The same, where the list is the call's own. -/
def DocNew (L : List Int) (e : Int) (w : World) (r : Ending) (w' : World) : Prop := ∃ a c, r = .returned (docV a L.length c e) ∧ Hid (ActL w' (.slice a L.length c) L) ∧ (∀ x, a = some x → w.heap.size ≤ x.block) ∧ Below w.heap.size w w'
/-- Two boxes of rosters: the answer's, and one whose row is the call's own. -/
structure DofM (w : World) (a : Option Addr) (c : Nat) (L : List Int) (wr : World) : Prop where
  row : OwnV 3 1 (w.heap.size + 2) a c (L.map iC18) wr
  c0 : wr.cell? ⟨w.heap.size + 1, 0, none⟩ = some (.slice a L.length c)
  c1 : wr.cell? ⟨w.heap.size + 1, 1, none⟩ = some (.int .i64 0)
  s0 : wr.cell? ⟨w.heap.size, 0, none⟩ = some (.slice none 0 0)
  s1 : wr.cell? ⟨w.heap.size, 1, none⟩ = some (.int .i64 0)
  fr : ∀ b j, w.heap.size ≤ b → b ≤ w.heap.size + 1 → wr.frozen? ⟨b, j, none⟩ = false
  bel : Below w.heap.size w wr
theorem DofM.lt {w : World} {a : Option Addr} {c : Nat} {L : List Int} {wr : World} (h : DofM w a c L wr) : w.heap.size + 1 < wr.heap.size := block_lt_of_cell h.c0
theorem DofM.touch {S : Nat → Prop} {w : World} {a : Option Addr} {c : Nat} {L : List Int} {wr w' : World} (h : DofM w a c L wr) (ht : Touch S wr w') (hS : ∀ b, S b → w.heap.size + 2 ≤ b) (ha : ∀ x, a = some x → ¬ S x.block) : DofM w a c L w' := by
  have hl := h.lt
  have hc : ∀ b j, b ≤ w.heap.size + 1 → w'.cell? ⟨b, j, none⟩ = wr.cell? ⟨b, j, none⟩ := fun b j hb2 => ht.cell (p := ⟨b, j, none⟩) (show b < wr.heap.size by omega) (fun h => by have := hS _ h; simp only at this; omega)
  exact ⟨h.row.touch ht ha, (hc _ _ (by omega)).trans h.c0, (hc _ _ (by omega)).trans h.c1, (hc _ _ (by omega)).trans h.s0, (hc _ _ (by omega)).trans h.s1, fun b j h1 h2 => (ht.frozen (p := ⟨b, j, none⟩) (show b < wr.heap.size by omega) (fun h => by have := hS _ h; simp only at this; omega)).trans (h.fr b j h1 h2), h.bel.trans (ht.below h.bel.size fun b hb hs => by have := hS b hs; omega)⟩
theorem DofM.keep {w : World} {a : Option Addr} {c : Nat} {L : List Int} {wr w' : World} (h : DofM w a c L wr) (hb : Below wr.heap.size wr w') : DofM w a c L w' := h.touch (touch_of_below (S := fun _ => False) hb) (fun _ h => h.elim) (fun _ _ => id)
theorem DofM.push {w : World} {a : Option Addr} {c : Nat} {L : List Int} {wr : World} (h : DofM w a c L wr) (x : Int) (hl : L.length ≤ 100000) : ∃ a' c' w', (Builtin.append_ #[22, 22] 22 #[.slice a L.length c, .slice (some ⟨wr.heap.size, 0, none⟩) 1 1]).run Tryd.prog (wr.alloc (.cells #[.int .i64 x] 3)) = .ok (.slice a' (L.length + 1) c') w' ∧
    w'.cell? ⟨w.heap.size + 1, 0, none⟩ = some (.slice a L.length c) ∧ w'.frozen? ⟨w.heap.size + 1, 0, none⟩ = false ∧ DofM w a' c' (L ++ [x]) (w'.setCell ⟨w.heap.size + 1, 0, none⟩ (.slice a' (L.length + 1) c')) := by
  have hlt := h.lt
  obtain ⟨a', c', w', h1, h2, h3⟩ := h.row.one (ty := 22) int18Ty Tryd.underlying22 (by omega) (iC18 x) (i18_wide [x] _ (by simp)) (by simp; omega) _ rfl
  have hS : ∀ b, a.map (·.block) = some b → w.heap.size + 2 ≤ b := fun b e1 => map_none (P := fun b => w.heap.size + 2 ≤ b) h.row.2 _ e1
  have hc : ∀ b j, b ≤ w.heap.size + 1 → w'.cell? ⟨b, j, none⟩ = wr.cell? ⟨b, j, none⟩ := fun b j hb2 => h3.cell (p := ⟨b, j, none⟩) (show b < wr.heap.size by omega) (fun h => by have := hS _ h; simp only at this; omega)
  have hf : ∀ b j, b ≤ w.heap.size + 1 → w'.frozen? ⟨b, j, none⟩ = wr.frozen? ⟨b, j, none⟩ := fun b j hb2 => h3.frozen (p := ⟨b, j, none⟩) (show b < wr.heap.size by omega) (fun h => by have := hS _ h; simp only at this; omega)
  have hbel : Below w.heap.size w w' := h.bel.trans (h3.below h.bel.size fun b hb hs => by have := hS b hs; omega)
  have x0 := (hc (w.heap.size + 1) 0 (by omega)).trans h.c0
  have x1 := (hc (w.heap.size + 1) 1 (by omega)).trans h.c1
  have y0 := (hc w.heap.size 0 (by omega)).trans h.s0
  have y1 := (hc w.heap.size 1 (by omega)).trans h.s1
  have hlen : (L.map iC18).length = L.length := by simp
  rw [hlen] at h1
  refine ⟨a', c', w', by simpa [iC18] using h1, x0, (hf _ _ (by omega)).trans (h.fr _ 0 (by omega) (by omega)), ⟨?_, ?_, ?_, ?_, ?_, fun b j h1 h2 => ?_, hbel.setCell (p := ⟨w.heap.size + 1, 0, none⟩) (by simp) _⟩⟩
  · rw [List.map_append]
    exact h2.touch (S := fun b => b = w.heap.size + 1) ((Touch.refl (fun b => b = w.heap.size + 1) w').setCell (p := ⟨w.heap.size + 1, 0, none⟩) (fun _ => rfl) _) (fun x hx e => by have := h2.2 x hx; omega)
  · rw [List.length_append]
    exact World.cell?_setCell_same' _ _ _ (by rw [x0]; rfl)
  · rw [World.cell?_setCell_other _ _ _ _ (by simp)]; exact x1
  · rw [World.cell?_setCell_other _ _ _ _ (by simp)]; exact y0
  · rw [World.cell?_setCell_other _ _ _ _ (by simp)]; exact y1
  · rw [World.frozen?_setCell]; exact (hf b j (by omega)).trans (h.fr b j h1 h2)
theorem DofM.new (w : World) : DofM w none 0 [] ((w.alloc (.cells #[.slice none 0 0, .int .i64 0] 30)).alloc (.cells #[.slice none 0 0, .int .i64 0] 30)) := by
  have e1 : (w.alloc (.cells #[.slice none 0 0, .int .i64 0] 30)).heap.size = w.heap.size + 1 := by simp
  refine ⟨⟨World.ownsRow_nil _ _ _ _, (fun x hx => by cases hx)⟩, new_cell e1.symm rfl, new_cell e1.symm rfl, alloc_cell (new_cell rfl rfl) _, alloc_cell (new_cell rfl rfl) _, fun b j h1 h2 => ?_, bel_alloc (bel_alloc (Below.refl _ _) _) _⟩
  by_cases e : b = w.heap.size
  · subst e
    rw [frozen_old _ _ ⟨w.heap.size, j, none⟩ (by simp)]
    exact frozen_new _ _ _ _
  · obtain rfl : b = w.heap.size + 1 := by omega
    rw [← e1]; exact frozen_new _ _ _ _
theorem own18_act {w : World} {B : Nat} {a : Option Addr} {c : Nat} {l : List Int} (h : OwnV 3 1 B a c (l.map iC18) w) : ActL w (.slice a l.length c) l := by
  have hl : (l.map iC18).length = l.length := by simp
  rcases h.1.2 with ⟨hv, h0⟩ | ⟨g, cap, cur, hv, -, -, hnc, hcm, -⟩
  · simp only [Value.slice.injEq] at hv
    refine ⟨a, c, rfl, by omega, by rw [hv.2.2]; unfold maxLen; omega, own18_row h, fun _ => List.eq_nil_of_length_eq_zero (by omega)⟩
  · simp only [Value.slice.injEq] at hv
    refine ⟨a, c, rfl, by rw [hv.2.2]; omega, by rw [hv.2.2]; exact hcm, own18_row h, fun e0 => ?_⟩
    rw [hv.1] at e0; cases e0
set_option maxRecDepth 100000 in
set_option maxHeartbeats 1000000 in
theorem dof_any (a : Option Addr) (c : Nat) (l : List Int) (w : World) (hr : IntRow .i64 w a l) (hl : l.length ≤ 1000) (N : Nat) (hN : l.length = N) : Calls Tryd.prog 7 #[.slice a N c] w (DocNew (lstP (ofP l)) 0 w) := by
  have HHAS := Lib.hid (fun x W (hW : Below w.heap.size w W) => dhas_any a c l 0 x W (hr.below hW) hl N hN)
  have HN := Lib.hid (DofM.new w)
  have HF : Hid (∀ a c W, (∀ x, a = some x → w.heap.size ≤ x.block) → ActL W (.slice a (lstP (ofP l)).length c) (lstP (ofP l)) → Below w.heap.size w W → DocNew (lstP (ofP l)) 0 w (.returned (.agg #[.slice a (lstP (ofP l)).length c, .int .i64 0])) W) := Lib.hid fun a c W h0 h1 h2 => ⟨a, c, rfl, Lib.hid h1, h0, h2⟩
  have HB := Lib.hid (fun k (hk : k < 32) => ofP_bit l hk)
  generalize hPost : DocNew (lstP (ofP l)) 0 w = Post at HF ⊢
  generalize ofP l = p at HF HB
  clear hPost hr hN
  unfold docV at HHAS
  go_enter Tryd.func7, Tryd.ntmps7
  go_wp2
  go_loopw [4] (fun i wr => ∃ (k : Nat) (ar : Option Addr) (cr : Nat), k ≤ 32 ∧ i = .int .i64 k ∧ Hid (DofM w ar cr (lstK p k) wr)) (fun i _ => 32 - (intOf i).toNat)
  case atStart => exact ⟨0, none, 0, by omega, rfl, HN⟩
  case round =>
    obtain ⟨k, ar, cr, hk, rfl, HM⟩ := hrel
    have hi0 : (0 : Int) ≤ (k : Int) := by omega
    by_cases hlt : k < 32
    · have hi1 : (k : Int) < 32 := by omega
      have HS := Lib.hid (lstK_succ p k)
      have HL := Lib.hid (lstK_len p k)
      have HHK := Lib.hid (HB.out k hlt)
      go_wp2_with fail
      refine (HHAS.out _ _ HM.out.bel).mono ?_
      rintro r w1 ⟨rfl, hb1⟩
      have HM := Lib.hid (HM.out.keep hb1)
      rw [← HHK.out]
      clear hb1
      cases hbt : p.testBit k with
      | true =>
        rw [hbt, if_pos rfl] at HS
        obtain ⟨a', c', w', hrun, hcell, hfz, hnew⟩ := HM.out.push (k : Int) (by have := HL.out; omega)
        have HN2 : Hid (DofM w a' c' (lstK p (k + 1)) (w'.setCell ⟨w.heap.size + 1, 0, none⟩ (.slice a' ((lstK p k).length + 1) c'))) := Lib.hid (by rw [HS.out]; exact hnew)
        have HR := Lib.hid hrun
        have c0 := HM.out.c0
        have hlw := HM.out.lt
        have hlw2 := block_lt_of_cell hcell
        simp only at hlw2
        generalize (lstK p k).length = n at HR HN2 hcell c0
        clear hnew hrun hbt HS HM
        go_wp2_with (at_builtin; refine wpList_append_run _ rfl (.tmp 15) (.tmp 17) 22 22 rfl _ _ rfl rfl (.slice a' (n + 1) c') w' HR.out ?_)
        go_roundw
        case rel => exact ⟨k + 1, a', c', by omega, by go_num, HN2⟩
        case measure => simp [intOf] <;> omega
      | false =>
        rw [hbt] at HS
        simp only [Bool.false_eq_true, if_false] at HS
        have HM2 : Hid (DofM w ar cr (lstK p (k + 1)) w1) := Lib.hid (by rw [HS.out]; exact HM.out)
        clear hbt HS HM
        go_wp2
        go_roundw
        case rel => exact ⟨k + 1, ar, cr, by omega, by go_num, HM2⟩
        case measure => simp [intOf] <;> omega
    · obtain rfl : k = 32 := by omega
      have c1 := HM.out.c1
      have s0 := HM.out.s0
      have s1 := HM.out.s1
      have f0 := HM.out.fr w.heap.size 0 (by omega) (by omega)
      have f1 := HM.out.fr w.heap.size 1 (by omega) (by omega)
      have hlw := HM.out.lt
      have HACT : Hid (ActL ((wr.setCell ⟨w.heap.size, 0, none⟩ (.slice ar (lstP p).length cr)).setCell ⟨w.heap.size, 1, none⟩ (.int .i64 0)) (.slice ar (lstP p).length cr) (lstP p)) := Lib.hid (own18_act (HM.out.row.touch (S := fun b => b = w.heap.size) (((Touch.refl (fun b => b = w.heap.size) wr).setCell (p := ⟨w.heap.size, 0, none⟩) (fun _ => rfl) _).setCell (p := ⟨w.heap.size, 1, none⟩) (fun _ => rfl) _) (fun x hx e => by have := HM.out.row.2 x hx; omega)))
      have c0 : wr.cell? ⟨w.heap.size + 1, 0, none⟩ = some (.slice ar (lstP p).length cr) := HM.out.c0
      have HFR : Hid (∀ x, ar = some x → w.heap.size ≤ x.block) := Lib.hid (fun x hx => by have := HM.out.row.2 x hx; omega)
      generalize hn : (lstP p).length = n at c0 HACT HF
      go_wp2
      exact bodyPost_ret (v := .agg #[.slice ar n cr, .int .i64 0]) (by simp [results, Tryd.results7, go_sem, s0, s1]) rfl (HF.out _ _ _ HFR.out HACT.out (by repeat (first | exact HM.out.bel | refine Below.setCell ?_ (by simp) _)))
end Go.Proofs.YtcbadcbnknmdnaaDoor
