/-
  Layer 18: a change out of bytes.
-/
import Derived.Test.YtcbadcbnknmdnaaRosT1
import Derived.Deep.RegionLaw
namespace Go.Proofs.Ytcbadcbnknmdnaa
open Go.RowKit
set_option linter.unusedVariables false

def votS (st : St) : St × Int := ((countS st 31).1, ((countS st 31).2 : Int))
/-- A change, as the reader takes it. -/
def chgS (st : St) : St × Chg :=
  ((runS votS (countS (countS (countS st 3).1 31).1 32).2 (countS (countS (countS st 3).1 31).1 32).1).1, ⟨((countS st 3).2 : Int), ((countS (countS st 3).1 31).2 : Int), (runS votS (countS (countS (countS st 3).1 31).1 32).2 (countS (countS (countS st 3).1 31).1 32).1).2⟩)
def chgT (t : St × Chg) : Chg := if t.1.2 = 0 then t.2 else ⟨0, 0, []⟩
/-- Under way: the reader, the box of the change, the box of the answer. -/
structure RcM (w : World) (b C : Nat) (st : St) (k p : Int) (a : Option Addr) (c : Nat) (V : List Int) (wr : World) : Prop where
  into : InTo w b st wr
  row : OwnV 3 1 (C + 1) a c (V.map iC18) wr
  c0 : wr.cell? ⟨C, 0, none⟩ = some (.int .i64 k)
  c1 : wr.cell? ⟨C, 1, none⟩ = some (.int .i64 p)
  c2 : wr.cell? ⟨C, 2, none⟩ = some (.slice a V.length c)
  fc : wr.frozen? ⟨C, 2, none⟩ = false
  x0 : wr.cell? ⟨w.heap.size, 0, none⟩ = some (.int .i64 0)
  x1 : wr.cell? ⟨w.heap.size, 1, none⟩ = some (.int .i64 0)
  x2 : wr.cell? ⟨w.heap.size, 2, none⟩ = some (.slice none 0 0)
  fx : ∀ j, wr.frozen? ⟨w.heap.size, j, none⟩ = false
  lo : b < w.heap.size ∧ w.heap.size < C
theorem RcM.lt {w : World} {b C : Nat} {st : St} {k p : Int} {a : Option Addr} {c : Nat} {V : List Int} {wr : World} (h : RcM w b C st k p a c V wr) : C < wr.heap.size := block_lt_of_cell h.c0
theorem RcM.step {w : World} {b C : Nat} {st s2 : St} {k p : Int} {a : Option Addr} {c : Nat} {V : List Int} {wr w4 : World} (h : RcM w b C st k p a c V wr) (x : Int) (h4 : InTo wr b s2 w4) (hl : V.length ≤ 1000) : w4.cell? ⟨C, 2, none⟩ = some (.slice a V.length c) ∧ C < w4.heap.size ∧
    ∃ a' c' w', (Builtin.append_ #[22, 22] 22 #[.slice a V.length c, .slice (some ⟨w4.heap.size, 0, none⟩) 1 1]).run Try.prog (w4.alloc (.cells #[.int .i64 x] 3)) = .ok (.slice a' (V.length + 1) c') w' ∧ w'.cell? ⟨C, 2, none⟩ = some (.slice a V.length c) ∧ w'.frozen? ⟨C, 2, none⟩ = false ∧ RcM w b C s2 k p a' c' (V ++ [x]) (w'.setCell ⟨C, 2, none⟩ (.slice a' (V.length + 1) c')) := by
  have hlt := h.lt
  obtain ⟨lo1, lo2⟩ := h.lo
  have hz4 := h4.2.size
  have hCb : C ≠ b := by omega
  have hXb : w.heap.size ≠ b := by omega
  have hrow4 : OwnV 3 1 (C + 1) a c (V.map iC18) w4 := h.row.touch h4.2 (fun y hy e => by have := h.row.2 y hy; omega)
  obtain ⟨a', c', w', h1, h2, h3⟩ := hrow4.one (ty := 22) int18Ty Try.underlying22 (by omega) (iC18 x) (i18_wide [x] _ (by simp)) (by simp; omega) _ rfl
  have hS : ∀ z, a.map (·.block) = some z → C + 1 ≤ z := fun z e1 => map_none (P := fun z => C + 1 ≤ z) h.row.2 _ e1
  have kc : ∀ z j v, z ≤ C → z ≠ b → wr.cell? ⟨z, j, none⟩ = some v → w'.cell? ⟨z, j, none⟩ = some v := fun z j v hz hzb hv =>
    (h3.cell (p := ⟨z, j, none⟩) (by show z < w4.heap.size; omega) (fun e1 => by have := hS _ e1; simp only at this; omega)).trans (cell_to h4 (p := ⟨z, j, none⟩) hzb hv)
  have kf : ∀ z j, z ≤ C → z ≠ b → z < wr.heap.size → w'.frozen? ⟨z, j, none⟩ = wr.frozen? ⟨z, j, none⟩ := fun z j hz hzb hzl =>
    (h3.frozen (p := ⟨z, j, none⟩) (by show z < w4.heap.size; omega) (fun e1 => by have := hS _ e1; simp only at this; omega)).trans (froz_to h4 (p := ⟨z, j, none⟩) hzb hzl)
  have hlen : (V.map iC18).length = V.length := by simp
  rw [hlen] at h1
  have q2 := kc C 2 _ (Nat.le_refl _) hCb h.c2
  refine ⟨cell_to h4 (p := ⟨C, 2, none⟩) hCb h.c2, by omega, a', c', w', by simpa [iC18] using h1, q2, (kf C 2 (Nat.le_refl _) hCb hlt).trans h.fc, ⟨⟨?_, ?_⟩, ?_, ?_, ?_, ?_, ?_, ?_, ?_, ?_, ?_, h.lo⟩⟩
  · exact (h4.1.touch h3 (fun e1 => by have := hS _ e1; omega)).touch (S := fun z => z = C) ((Touch.refl (fun z => z = C) w').setCell (p := ⟨C, 2, none⟩) (fun _ => rfl) _) (fun e => hCb e.symm)
  · exact ((h.into.2.trans h4.2).trans' h3 (fun j hj e1 => by have := hS _ e1; omega)).setCell (p := ⟨C, 2, none⟩) (fun e => by simp only at e; omega) _
  · rw [List.map_append]
    exact h2.touch (S := fun z => z = C) ((Touch.refl (fun z => z = C) w').setCell (p := ⟨C, 2, none⟩) (fun _ => rfl) _) (fun y hy e => by have := h2.2 y hy; omega)
  · rw [World.cell?_setCell_other _ _ _ _ (by simp)]; exact kc C 0 _ (Nat.le_refl _) hCb h.c0
  · rw [World.cell?_setCell_other _ _ _ _ (by simp)]; exact kc C 1 _ (Nat.le_refl _) hCb h.c1
  · rw [List.length_append]
    exact World.cell?_setCell_same' _ _ _ (by rw [q2]; rfl)
  · rw [World.frozen?_setCell]; exact (kf C 2 (Nat.le_refl _) hCb hlt).trans h.fc
  · rw [World.cell?_setCell_other _ _ _ _ (by first | (simp; done) | (simp; omega))]; exact kc w.heap.size 0 _ (by omega) hXb h.x0
  · rw [World.cell?_setCell_other _ _ _ _ (by first | (simp; done) | (simp; omega))]; exact kc w.heap.size 1 _ (by omega) hXb h.x1
  · rw [World.cell?_setCell_other _ _ _ _ (by first | (simp; done) | (simp; omega))]; exact kc w.heap.size 2 _ (by omega) hXb h.x2
  · intro j
    rw [World.frozen?_setCell]; exact (kf w.heap.size j (by omega) hXb (by omega)).trans (h.fx j)
def RcPost (b : Nat) (T : St × Chg) (w : World) (r : Ending) (w' : World) : Prop := ∃ a c, r = .returned (chV (chgT T).k (chgT T).p a (chgT T).v.length c) ∧ InTo w b T.1 w' ∧ Hid (ActL w' (.slice a (chgT T).v.length c) (chgT T).v ∧ ∀ x, a = some x → w.heap.size ≤ x.block)
theorem set3_to {w W : World} {b X : Nat} {st : St} (h : InTo w b st W) (hX : w.heap.size ≤ X) (hb : b < w.heap.size) (u v z : Value) : InTo w b st (((W.setCell ⟨X, 0, none⟩ u).setCell ⟨X, 1, none⟩ v).setCell ⟨X, 2, none⟩ z) := by
  have h1 := into_set h hX hb u v
  exact ⟨h1.1.touch (S := fun k => k = X) ((Touch.refl (fun k => k = X) _).setCell (p := ⟨X, 2, none⟩) (fun _ => rfl) _) (fun e => by omega), h1.2.setCell (p := ⟨X, 2, none⟩) (fun e => by simp only at e; omega) _⟩
theorem nil_act (w : World) : ActL w (.slice none 0 0) [] := ⟨none, 0, rfl, Nat.le_refl _, by unfold maxLen; omega, fun h => by simp at h, fun _ => rfl⟩
set_option maxRecDepth 100000 in
set_option maxHeartbeats 8000000 in
theorem rreadChange_any (b : Nat) (st : St) (w : World) (h : InSt w b st) : Calls Try.prog 59 #[.pointer (some ⟨b, 0, none⟩)] w (RcPost b (chgS st) w) := by
  have hb := h.lt
  have HA := Lib.hid (fun W (hW : InSt W b st) => count_any b st.1 st.2 3 W (by decide) (by decide) hW)
  have hR : chgS st = ((runS votS (countS (countS (countS st 3).1 31).1 32).2 (countS (countS (countS st 3).1 31).1 32).1).1, ⟨((countS st 3).2 : Int), ((countS (countS st 3).1 31).2 : Int), (runS votS (countS (countS (countS st 3).1 31).1 32).2 (countS (countS (countS st 3).1 31).1 32).1).2⟩) := rfl
  have HF : Hid (∀ a c k p (V : List Int) W, chgT (chgS st) = ⟨k, p, V⟩ → InTo w b (chgS st).1 W → ActL W (.slice a V.length c) V → (∀ x, a = some x → w.heap.size ≤ x.block) → RcPost b (chgS st) w (.returned (.agg #[.int .i64 k, .int .i64 p, .slice a V.length c])) W) := Lib.hid fun a c k p V W h1 h2 h3 h4 => by
    unfold RcPost
    rw [h1]
    exact ⟨a, c, rfl, h2, Lib.hid ⟨h3, h4⟩⟩
  generalize hPost : RcPost b (chgS st) w = Post at HF ⊢
  clear hPost
  generalize chgS st = T at HF hR
  generalize countS st 3 = t1 at HA hR
  obtain ⟨s1, n1⟩ := t1
  simp only at hR
  have HB := Lib.hid (fun W (hW : InSt W b s1) => count_any b s1.1 s1.2 31 W (by decide) (by decide) hW)
  generalize countS s1 31 = t2 at HB hR
  obtain ⟨s2, n2⟩ := t2
  simp only at hR HB
  have HC := Lib.hid (fun W (hW : InSt W b s2) => count_any b s2.1 s2.2 32 W (by decide) (by decide) hW)
  have hle := countS_le s2 32
  generalize countS s2 32 = t3 at HC hR hle
  obtain ⟨s3, n⟩ := t3
  simp only at hR HC hle
  have HR := Lib.hid hR
  clear hR
  have HI0 : Hid (InTo w b st (w.alloc (.cells #[.int .i64 0, .int .i64 0, .slice none 0 0] 97))) := Lib.hid (into_alloc ⟨h, Touch.refl _ _⟩ _)
  have hbx : w.heap.size ≠ b := by omega
  have x0 : (w.alloc (.cells #[.int .i64 0, .int .i64 0, .slice none 0 0] 97)).cell? ⟨w.heap.size, 0, none⟩ = some (.int .i64 0) := new_cell rfl rfl
  have x1 : (w.alloc (.cells #[.int .i64 0, .int .i64 0, .slice none 0 0] 97)).cell? ⟨w.heap.size, 1, none⟩ = some (.int .i64 0) := new_cell rfl rfl
  have x2 : (w.alloc (.cells #[.int .i64 0, .int .i64 0, .slice none 0 0] 97)).cell? ⟨w.heap.size, 2, none⟩ = some (.slice none 0 0) := new_cell rfl rfl
  have HFX : Hid (∀ j, (w.alloc (.cells #[.int .i64 0, .int .i64 0, .slice none 0 0] 97)).frozen? ⟨w.heap.size, j, none⟩ = false) := Lib.hid fun j => frozen_new _ _ _ _
  have hsz : w.heap.size < (w.alloc (.cells #[.int .i64 0, .int .i64 0, .slice none 0 0] 97)).heap.size := by simp
  clear h
  go_enter Try.func59, Try.ntmps59
  go_wp2_with fail
  generalize w.alloc (.cells #[.int .i64 0, .int .i64 0, .slice none 0 0] 97) = W at HI0 x0 x1 x2 HFX hsz ⊢
  refine (HA.out _ HI0.out.1).mono ?_
  rintro r w1 ⟨rfl, hi1⟩
  dsimp only
  have x0 := cell_to hi1 (p := ⟨w.heap.size, 0, none⟩) hbx x0
  have x1 := cell_to hi1 (p := ⟨w.heap.size, 1, none⟩) hbx x1
  have x2 := cell_to hi1 (p := ⟨w.heap.size, 2, none⟩) hbx x2
  have HFX := Lib.hid (fun j => (froz_to hi1 (p := ⟨w.heap.size, j, none⟩) hbx hsz).trans (HFX.out j))
  have hsz := block_lt_of_cell x0
  simp only at hsz
  have HI1 := Lib.hid (into_trans HI0.out hi1)
  clear hi1 HI0 HA
  go_wp2_with fail
  refine (HB.out _ HI1.out.1).mono ?_
  rintro r w2 ⟨rfl, hi2⟩
  dsimp only
  have x0 := cell_to hi2 (p := ⟨w.heap.size, 0, none⟩) hbx x0
  have x1 := cell_to hi2 (p := ⟨w.heap.size, 1, none⟩) hbx x1
  have x2 := cell_to hi2 (p := ⟨w.heap.size, 2, none⟩) hbx x2
  have HFX := Lib.hid (fun j => (froz_to hi2 (p := ⟨w.heap.size, j, none⟩) hbx hsz).trans (HFX.out j))
  have hsz := block_lt_of_cell x0
  simp only at hsz
  have HI2 := Lib.hid (into_trans HI1.out hi2)
  clear hi2 HI1 HB
  have HM2 : Hid (RcM w b w2.heap.size s2 (n1 : Int) (n2 : Int) none 0 [] (w2.alloc (.cells #[.int .i64 (n1 : Int), .int .i64 (n2 : Int), .slice none 0 0] 97))) := Lib.hid ⟨into_alloc HI2.out _, ⟨World.ownsRow_nil _ _ _ _, (fun x hx => by cases hx)⟩, new_cell rfl rfl, new_cell rfl rfl, new_cell rfl rfl, frozen_new _ _ _ _, alloc_cell x0 _, alloc_cell x1 _, alloc_cell x2 _, fun j => (frozen_old _ _ ⟨w.heap.size, j, none⟩ hsz).trans (HFX.out j), hb, hsz⟩
  clear HI2 x0 x1 x2 HFX hsz
  go_wp2_with fail
  generalize w2.alloc (.cells #[.int .i64 (n1 : Int), .int .i64 (n2 : Int), .slice none 0 0] 97) = W2 at HM2 ⊢
  generalize w2.heap.size = C at HM2 ⊢
  refine (HC.out _ HM2.out.into.1).mono ?_
  rintro r w3 ⟨rfl, hi3⟩
  dsimp only
  have HM3 : Hid (RcM w b C s3 (n1 : Int) (n2 : Int) none 0 [] w3) := Lib.hid (by
    have hm := HM2.out
    have hl := hm.lt
    obtain ⟨lo1, lo2⟩ := hm.lo
    have hCb : C ≠ b := by omega
    exact ⟨into_trans hm.into hi3, ⟨World.ownsRow_nil _ _ _ _, (fun x hx => by cases hx)⟩, cell_to hi3 (p := ⟨C, 0, none⟩) hCb hm.c0, cell_to hi3 (p := ⟨C, 1, none⟩) hCb hm.c1, cell_to hi3 (p := ⟨C, 2, none⟩) hCb hm.c2, (froz_to hi3 (p := ⟨C, 2, none⟩) hCb hl).trans hm.fc, cell_to hi3 (p := ⟨w.heap.size, 0, none⟩) hbx hm.x0, cell_to hi3 (p := ⟨w.heap.size, 1, none⟩) hbx hm.x1, cell_to hi3 (p := ⟨w.heap.size, 2, none⟩) hbx hm.x2, fun j => (froz_to hi3 (p := ⟨w.heap.size, j, none⟩) hbx (by simp only; omega)).trans (hm.fx j), hm.lo⟩)
  clear hi3 HM2 HC
  go_wp2
  go_loopw [11] (fun i wr => ∃ (j : Nat) (a : Option Addr) (c : Nat), j ≤ n ∧ i = .int .i64 j ∧ Hid (RcM w b C (runS votS j s3).1 (n1 : Int) (n2 : Int) a c (runS votS j s3).2 wr)) (fun i _ => n - (intOf i).toNat)
  case atStart => exact ⟨0, none, 0, by omega, rfl, HM3⟩
  case round =>
    obtain ⟨j, a, c, hj, rfl, HM⟩ := hrel
    have hi0 : (0 : Int) ≤ (j : Int) := by omega
    have hln := runS_len votS j s3
    by_cases hlt : j < n
    · have hi1 : (j : Int) < (n : Int) := by omega
      have HN : Hid (runS votS (j + 1) s3 = ((votS (runS votS j s3).1).1, (runS votS j s3).2 ++ [(votS (runS votS j s3).1).2])) := Lib.hid rfl
      generalize runS votS j s3 = q at HM HN hln
      obtain ⟨sq, lq⟩ := q
      simp only at HM HN hln
      have hV : votS sq = ((countS sq 31).1, ((countS sq 31).2 : Int)) := rfl
      have HX := Lib.hid (fun W (hW : InSt W b sq) => count_any b sq.1 sq.2 31 W (by decide) (by decide) hW)
      generalize countS sq 31 = t4 at hV HX
      obtain ⟨s4, n4⟩ := t4
      simp only at hV HX
      rw [hV] at HN
      simp only at HN
      have c2 := HM.out.c2
      have fc := HM.out.fc
      have hCl := HM.out.lt
      have hll : lq.length ≤ 1000 := by omega
      have HLN := Lib.hid hln
      clear hV hln
      go_upto_region 4 with (fail)
      go_region_law (first
        | (refine step_append_run _ rfl (.tmp 14) (.tmp 17) 22 22 rfl _ _ (by rfl) (by rfl) (.slice a5 (lq.length + 1) c5) w5 HR5.out ?_)
        | (go_simp; go_at_call 58; refine (HX.out _ (HM.out.into.1.below (Below.refl _ _).drew)).mono ?_; rintro r w4 ⟨rfl, hi4⟩; obtain ⟨e2', hC4, a5, c5, w5, hr5, e5, f5, hm5⟩ := HM.out.step (n4 : Int) ⟨hi4.1, hi4.2.drew0⟩ hll; have HR5 := Lib.hid hr5; have HM5 := Lib.hid hm5; have hC5 := block_lt_of_cell e5; simp only at hC5; clear hi4 hr5 hm5))
      all_goals
        go_wp2
        go_roundw
        case rel => exact ⟨j + 1, a5, c5, by omega, by go_num, Lib.hid (by rw [HN.out]; exact HM5.out)⟩
        case measure => simp [intOf] <;> omega
    · obtain rfl : j = n := by omega
      have hi1 : (j : Int) ≤ (j : Int) := by omega
      have HER := Lib.hid (err_any b _ _ wr HM.out.into.1)
      generalize runS votS j s3 = q at HM HER HR
      obtain ⟨⟨lq, eq⟩, V⟩ := q
      have hT := HR.out
      simp only at HM HER hT
      subst hT
      clear HR hln
      have c0 := HM.out.c0
      have c1 := HM.out.c1
      have c2 := HM.out.c2
      have x0 := HM.out.x0
      have x1 := HM.out.x1
      have x2 := HM.out.x2
      have f0 := HM.out.fx 0
      have f1 := HM.out.fx 1
      have f2 := HM.out.fx 2
      have hCl := HM.out.lt
      have hlo := HM.out.lo.2
      have hXl : w.heap.size < wr.heap.size := by omega
      have hCX : ¬ C = w.heap.size := by omega
      have hXC : ¬ w.heap.size = C := by omega
      by_cases he : eq = 0
      · subst he
        have HT : Hid (chgT (((lq, 0), ⟨(n1 : Int), (n2 : Int), V⟩) : St × Chg) = ⟨(n1 : Int), (n2 : Int), V⟩) := Lib.hid rfl
        have HACT : Hid (ActL (((wr.setCell ⟨w.heap.size, 0, none⟩ (.int .i64 (n1 : Int))).setCell ⟨w.heap.size, 1, none⟩ (.int .i64 (n2 : Int))).setCell ⟨w.heap.size, 2, none⟩ (.slice a V.length c)) (.slice a V.length c) V) := Lib.hid (own18_act (HM.out.row.touch (S := fun z => z = w.heap.size) ((((Touch.refl (fun z => z = w.heap.size) wr).setCell (p := ⟨w.heap.size, 0, none⟩) (fun _ => rfl) _).setCell (p := ⟨w.heap.size, 1, none⟩) (fun _ => rfl) _).setCell (p := ⟨w.heap.size, 2, none⟩) (fun _ => rfl) _) (fun y hy e => by have := HM.out.row.2 y hy; omega)))
        go_wp2_with fail
        refine HER.out.mono ?_
        rintro r w5 ⟨rfl, rfl⟩
        dsimp only
        go_wp2
        exact bodyPost_ret (v := .agg #[.int .i64 (n1 : Int), .int .i64 (n2 : Int), .slice a V.length c]) (by simp [results, Try.results59, go_sem, x0, x1, x2]) rfl (HF.out _ _ _ _ _ _ HT.out (set3_to HM.out.into (Nat.le_refl _) HM.out.lo.1 _ _ _) HACT.out (fun x hx => by have h1 := HM.out.row.2 x hx; have h2 := HM.out.lo.2; omega))
      · have heb : ((eq : Int) == 0) = false := by rw [beq_eq_false_iff_ne]; omega
        have hei : ¬ (eq : Int) = 0 := by omega
        have HT : Hid (chgT (((lq, eq), ⟨(n1 : Int), (n2 : Int), V⟩) : St × Chg) = ⟨0, 0, []⟩) := Lib.hid (if_neg he)
        clear he
        go_wp2_with fail
        refine HER.out.mono ?_
        rintro r w5 ⟨rfl, rfl⟩
        dsimp only
        go_wp2
        exact bodyPost_ret (v := .agg #[.int .i64 0, .int .i64 0, .slice none 0 0]) (by simp [results, Try.results59, go_sem, x0, x1, x2]) rfl (HF.out none 0 0 0 [] _ HT.out (set3_to HM.out.into (Nat.le_refl _) HM.out.lo.1 _ _ _) (nil_act _) (fun x hx => by cases hx))
end Go.Proofs.Ytcbadcbnknmdnaa
