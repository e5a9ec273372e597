/-
  Layer 20: a record out of bytes: the program's reader.
-/
import Derived.Test.YtcbadcbnknmdnaaRec2
namespace Go.Proofs.Ytcbadcbnknmdnaa
open Go.RowKit
set_option linter.unusedVariables false

def recV (t : Int) (a : Option Addr) (n c : Nat) (tk dl : Int) (a2 : Option Addr) (n2 c2 : Nat) : Value := .agg #[.int .i64 t, .slice a n c, .int .i64 tk, .int .i64 dl, .slice a2 n2 c2]
/-- A record's rows. -/
def RecIs (W : World) (R : Rec) (a : Option Addr) (ls : List (List Value)) (a2 : Option Addr) (ls2 : List (List Value)) : Prop := (VRow 3 W a ls ∧ ChIs W ls R.ch) ∧ (VRow 2 W a2 ls2 ∧ PlIs W ls2 R.pl)
def RecRd (w : World) (b : Nat) (T : St × Rec) (r : Ending) (w' : World) : Prop := ∃ a c ls a2 c2 ls2, r = .returned (recV (recT T).t a ls.length c (recT T).tk (recT T).dl a2 ls2.length c2) ∧ InTo w b T.1 w' ∧ Hid (Inn w.heap.size none w' (fun W => RecIs W (recT T) a ls a2 ls2))
theorem set5_to {w W : World} {b X : Nat} {st : St} (h : InTo w b st W) (hX : w.heap.size ≤ X) (hb : b < w.heap.size) (u v z y x : Value) : InTo w b st (((((W.setCell ⟨X, 0, none⟩ u).setCell ⟨X, 1, none⟩ v).setCell ⟨X, 2, none⟩ z).setCell ⟨X, 3, none⟩ y).setCell ⟨X, 4, none⟩ x) := by
  have h1 := set3_to h hX hb u v z
  exact ⟨h1.1.touch (S := fun k => k = X) (((Touch.refl (fun k => k = X) _).setCell (p := ⟨X, 3, none⟩) (fun _ => rfl) _).setCell (p := ⟨X, 4, none⟩) (fun _ => rfl) _) (fun e => by omega), (h1.2.setCell (p := ⟨X, 3, none⟩) (fun e => by simp only at e; omega) _).setCell (p := ⟨X, 4, none⟩) (fun e => by simp only at e; omega) _⟩
theorem touch5 (W : World) (X : Nat) (u v z y x : Value) : Touch (fun k => k = X) W (((((W.setCell ⟨X, 0, none⟩ u).setCell ⟨X, 1, none⟩ v).setCell ⟨X, 2, none⟩ z).setCell ⟨X, 3, none⟩ y).setCell ⟨X, 4, none⟩ x) :=
  (((((Touch.refl (fun k => k = X) W).setCell (p := ⟨X, 0, none⟩) (fun _ => rfl) _).setCell (p := ⟨X, 1, none⟩) (fun _ => rfl) _).setCell (p := ⟨X, 2, none⟩) (fun _ => rfl) _).setCell (p := ⟨X, 3, none⟩) (fun _ => rfl) _).setCell (p := ⟨X, 4, none⟩) (fun _ => rfl) _
theorem Ph2.fin {w : World} {b C : Nat} {st : St} {t : Int} {a : Option Addr} {c : Nat} {ls : List (List Value)} {m : List Chg} {tk dl : Int} {a2 : Option Addr} {c2 : Nat} {ls2 : List (List Value)} {pm : List Pl} {wr : World} (h : Ph2 w b C st t a c ls m tk dl a2 c2 ls2 pm wr) (u v z y x : Value) :
    InTo w b st (((((wr.setCell ⟨w.heap.size, 0, none⟩ u).setCell ⟨w.heap.size, 1, none⟩ v).setCell ⟨w.heap.size, 2, none⟩ z).setCell ⟨w.heap.size, 3, none⟩ y).setCell ⟨w.heap.size, 4, none⟩ x) ∧ Inn w.heap.size none (((((wr.setCell ⟨w.heap.size, 0, none⟩ u).setCell ⟨w.heap.size, 1, none⟩ v).setCell ⟨w.heap.size, 2, none⟩ z).setCell ⟨w.heap.size, 3, none⟩ y).setCell ⟨w.heap.size, 4, none⟩ x) (fun W => (VRow 3 W a ls ∧ ChIs W ls m) ∧ (VRow 2 W a2 ls2 ∧ PlIs W ls2 pm)) := by
  obtain ⟨lo1, lo2⟩ := h.r.lo
  have hw := h.inn.now.2.wide
  have i2 : Inn (C + 1) none wr (fun W => VRow 2 W a2 ls2) := fun W hW => VRow.touch (by decide) hw (h.row.row hw) hW (fun x hx e => by
    have := h.row.2 x hx
    rcases e with e | e
    · omega
    · simp at e)
  have ht := touch5 wr w.heap.size u v z y x
  refine ⟨set5_to h.r.into (Nat.le_refl _) lo1 u v z y x, (((((h.inn.sub (Nat.le_refl _)).and i2).low (ht.mono fun k _ e => show k < C + 1 by omega)).sub (show w.heap.size ≤ C + 1 by omega))).imp fun W hW => ⟨hW.1.1, hW.2, hW.1.2⟩⟩
theorem nil_recIs (W : World) : RecIs W ⟨0, [], 0, 0, []⟩ none [] none [] := ⟨⟨fun h => by simp at h, ChIs.nil W⟩, fun h => by simp at h, PlIs.nil W⟩
set_option maxRecDepth 100000 in
set_option maxHeartbeats 8000000 in
theorem recRead_any (b : Nat) (st : St) (w : World) (h : InSt w b st) : Calls Try.prog 28 #[.pointer (some ⟨b, 0, none⟩)] w (RecRd w b (recS st)) := by
  have hb := h.lt
  have HA := Lib.hid (fun W (hW : InSt W b st) => count_any b st.1 st.2 1099511627776 W (by decide) (by decide) hW)
  have hR : recS st = recG0 (countS st 1099511627776).2 (countS st 1099511627776).1 := rfl
  have HF : Hid (∀ t a c ls m tk dl a2 c2 ls2 pm n n2 W, recT (recS st) = ⟨t, m, tk, dl, pm⟩ → n = ls.length → n2 = ls2.length → InTo w b (recS st).1 W → Inn w.heap.size none W (fun W => RecIs W ⟨t, m, tk, dl, pm⟩ a ls a2 ls2) → RecRd w b (recS st) (.returned (.agg #[.int .i64 t, .slice a n c, .int .i64 tk, .int .i64 dl, .slice a2 n2 c2])) W) := Lib.hid fun t a c ls m tk dl a2 c2 ls2 pm n n2 W h1 h2 h3 h4 h5 => by
    subst h2 h3
    unfold RecRd
    rw [h1]
    exact ⟨a, c, ls, a2, c2, ls2, rfl, h4, Lib.hid h5⟩
  generalize hPost : RecRd w b (recS st) = Post at HF ⊢
  clear hPost
  generalize recS st = T at HF hR
  generalize countS st 1099511627776 = t1 at HA hR
  obtain ⟨s1, t⟩ := t1
  simp only at hR
  have HB := Lib.hid (fun W (hW : InSt W b s1) => count_any b s1.1 s1.2 8 W (by decide) (by decide) hW)
  have hle1 := countS_le s1 8
  have hR2 : T = recG1 t (runS chyS (countS s1 8).2 (countS s1 8).1).2 (runS chyS (countS s1 8).2 (countS s1 8).1).1 := hR
  clear hR
  generalize countS s1 8 = t2 at HB hR2 hle1
  obtain ⟨s2, n⟩ := t2
  simp only at hR2 HB hle1
  have HR2 := Lib.hid hR2
  clear hR2
  have HI0 : Hid (InTo w b st (w.alloc (.cells #[.int .i64 0, .slice none 0 0, .int .i64 0, .int .i64 0, .slice none 0 0] 34))) := Lib.hid (into_alloc ⟨h, Touch.refl _ _⟩ _)
  have hbx : w.heap.size ≠ b := by omega
  have HX0 : Hid (Cs (w.alloc (.cells #[.int .i64 0, .slice none 0 0, .int .i64 0, .int .i64 0, .slice none 0 0] 34)) w.heap.size zeroR) := Lib.hid (Cs.new rfl rfl)
  have HFX : Hid (∀ j, (w.alloc (.cells #[.int .i64 0, .slice none 0 0, .int .i64 0, .int .i64 0, .slice none 0 0] 34)).frozen? ⟨w.heap.size, j, none⟩ = false) := Lib.hid fun j => frozen_new _ _ _ _
  have hsz : w.heap.size < (w.alloc (.cells #[.int .i64 0, .slice none 0 0, .int .i64 0, .int .i64 0, .slice none 0 0] 34)).heap.size := by simp
  clear h
  go_enter Try.func28, Try.ntmps28
  go_wp2_with fail
  generalize w.alloc (.cells #[.int .i64 0, .slice none 0 0, .int .i64 0, .int .i64 0, .slice none 0 0] 34) = W at HI0 HX0 HFX hsz ⊢
  refine (HA.out _ HI0.out.1).mono ?_
  rintro r w1 ⟨rfl, hi1⟩
  dsimp only
  have HX1 := Lib.hid (HX0.out.touch hi1.2 (fun e => hbx e))
  have HFX := Lib.hid (fun j => (froz_to hi1 (p := ⟨w.heap.size, j, none⟩) hbx hsz).trans (HFX.out j))
  have hsz1 : w.heap.size < w1.heap.size := Nat.lt_of_lt_of_le hsz hi1.2.size
  have HI1 := Lib.hid (into_trans HI0.out hi1)
  clear hi1 HI0 HA HX0 hsz
  have HM : Hid (Ph1 w b w1.heap.size s1 (t : Int) none 0 [] [] (w1.alloc (.cells #[.int .i64 (t : Int), .slice none 0 0, .int .i64 0, .int .i64 0, .slice none 0 0] 34))) := Lib.hid
    ⟨⟨into_alloc HI1.out _, Cs.new rfl rfl, rfl, fun j => frozen_new _ _ _ _, HX1.out.touch (touch_of_below (S := fun _ => False) (bel_alloc (Below.refl _ _) _)) id, fun j => (frozen_old _ _ ⟨w.heap.size, j, none⟩ hsz1).trans (HFX.out j), hb, hsz1⟩, ⟨World.ownsRow_nil _ _ _ _, (fun x hx => by cases hx)⟩, fun W _ => ChIs.nil W⟩
  clear HI1 HX1 HFX hsz1
  go_wp2_with fail
  generalize w1.alloc (.cells #[.int .i64 (t : Int), .slice none 0 0, .int .i64 0, .int .i64 0, .slice none 0 0] 34) = W2 at HM ⊢
  generalize w1.heap.size = C at HM ⊢
  refine (HB.out _ HM.out.r.into.1).mono ?_
  rintro r w3 ⟨rfl, hi3⟩
  dsimp only
  have HM3 : Hid (Ph1 w b C s2 (t : Int) none 0 [] [] w3) := Lib.hid ⟨HM.out.r.inp hi3, ⟨World.ownsRow_nil _ _ _ _, (fun x hx => by cases hx)⟩, fun W _ => ChIs.nil W⟩
  clear hi3 HM HB
  go_wp2
  go_loopw [9] (fun i wr => ∃ (j : Nat) (a : Option Addr) (c : Nat) (ls : List (List Value)), j ≤ n ∧ i = .int .i64 j ∧ Hid (ls.length = j ∧ Ph1 w b C (runS chyS j s2).1 (t : Int) a c ls (runS chyS j s2).2 wr)) (fun i _ => n - (intOf i).toNat)
  case atStart => exact ⟨0, none, 0, [], by omega, rfl, Lib.hid ⟨rfl, HM3.out⟩⟩
  case round =>
    clear HM3
    obtain ⟨j, a, c, ls, hj, rfl, HM⟩ := hrel
    have hi0 : (0 : Int) ≤ (j : Int) := by omega
    by_cases hlt : j < n
    · have hi1 : (j : Int) < (n : Int) := by omega
      have HN : Hid (runS chyS (j + 1) s2 = ((chyS (runS chyS j s2).1).1, (runS chyS j s2).2 ++ [(chyS (runS chyS j s2).1).2])) := Lib.hid rfl
      generalize runS chyS j s2 = q at HM HN
      obtain ⟨sq, lq⟩ := q
      simp only at HM HN
      have HX := Lib.hid (fun W (hW : InSt W b sq) => rreadChange_any b sq W hW)
      unfold RcPost at HX
      have hV : chyS sq = ((chgS sq).1, chgT (chgS sq)) := rfl
      generalize chgT (chgS sq) = g at HX hV
      generalize (chgS sq).1 = s4 at HX hV
      obtain ⟨gk, gp, gv⟩ := g
      rw [hV] at HN
      unfold chV at HX
      simp only at HX HN
      have c1 : wr.cell? ⟨C, 1, none⟩ = some (.slice a ls.length c) := HM.out.2.r.c 1 (by simp)
      rw [HM.out.1] at c1
      have fc := HM.out.2.r.fc 1
      have hCl := HM.out.2.r.lt
      have hll : ls.length ≤ 1000 := by have := HM.out.1; omega
      clear hV
      go_upto_region 4 with (fail)
      go_region_law (first
        | (refine step_append_run _ rfl (.tmp 12) (.tmp 15) 23 23 rfl _ _ (by rfl) (by rfl) (.slice a5 (j + 1) c5) w5 HR5.out ?_)
        | (go_simp; go_at_call 59; refine (HX.out _ (HM.out.2.r.into.1.below (Below.refl _ _).drew)).mono ?_; rintro r w4 ⟨av, cv, rfl, hi4, h4⟩; obtain ⟨e2', hC4, a5, c5, w5, hr5, e5, f5, hm5⟩ := HM.out.2.step gk gp gv av cv ⟨hi4.1, hi4.2.drew0⟩ h4.out.1 h4.out.2 hll j HM.out.1; have HR5 := Lib.hid hr5; have HM5 := Lib.hid hm5; have hC5 := block_lt_of_cell e5; simp only at hC5; clear hi4 h4 hr5 hm5))
      all_goals
        go_wp2
        go_roundw
        case rel => exact ⟨j + 1, a5, c5, _, by omega, by go_num, Lib.hid (by rw [HN.out]; exact ⟨by rw [List.length_append, HM.out.1]; rfl, HM5.out⟩)⟩
        case measure => simp [intOf] <;> omega
    · obtain rfl : j = n := by omega
      have hi1 : (j : Int) ≤ (j : Int) := by omega
      generalize runS chyS j s2 = q at HM HR2
      obtain ⟨s3, m⟩ := q
      have hR3 := HR2.out
      simp only at HM hR3
      have HC := Lib.hid (fun W (hW : InSt W b s3) => count_any b s3.1 s3.2 64 W (by decide) (by decide) hW)
      have hR4 : T = recG2 t m (countS s3 64).2 (countS s3 64).1 := hR3
      clear hR3 HR2
      generalize countS s3 64 = t3 at HC hR4
      obtain ⟨s4, tk⟩ := t3
      simp only at hR4 HC
      have HD := Lib.hid (fun W (hW : InSt W b s4) => count_any b s4.1 s4.2 6 W (by decide) (by decide) hW)
      have hR5 : T = recG3 t m tk (countS s4 6).2 (countS s4 6).1 := hR4
      clear hR4
      generalize countS s4 6 = t4 at HD hR5
      obtain ⟨s5, dl⟩ := t4
      simp only at hR5 HD
      have HE := Lib.hid (fun W (hW : InSt W b s5) => count_any b s5.1 s5.2 32 W (by decide) (by decide) hW)
      have hR6 : T = ((runS plyS (countS s5 32).2 (countS s5 32).1).1, ⟨(t : Int), m, (tk : Int), (dl : Int), (runS plyS (countS s5 32).2 (countS s5 32).1).2⟩) := hR5
      have hle2 := countS_le s5 32
      clear hR5
      generalize countS s5 32 = t5 at HE hR6 hle2
      obtain ⟨s6, n6⟩ := t5
      simp only at hR6 HE hle2
      have HR6 := Lib.hid hR6
      clear hR6
      go_wp2_with fail
      refine (HC.out _ HM.out.2.r.into.1).mono ?_
      rintro r w4 ⟨rfl, hi4⟩
      have HI4 := Lib.hid hi4
      clear hi4 HC
      go_wp2_with fail
      refine (HD.out _ HI4.out.1).mono ?_
      rintro r w5 ⟨rfl, hi5⟩
      have HI5 := Lib.hid (into_trans HI4.out hi5)
      clear hi5 HD HI4
      have r5 := HM.out.2.r.inp HI5.out
      have hCl := r5.lt
      have f2 := r5.fc 2
      have f3 := r5.fc 3
      have c2 : w5.cell? ⟨C, 2, none⟩ = some (.int .i64 0) := r5.c 2 (by simp)
      have c3 : w5.cell? ⟨C, 3, none⟩ = some (.int .i64 0) := r5.c 3 (by simp)
      have HM2 := Lib.hid (HM.out.2.two HI5.out (tk : Int) (dl : Int))
      clear r5 HI5
      go_wp2_with fail
      generalize (w5.setCell ⟨C, 2, none⟩ (.int .i64 (tk : Int))).setCell ⟨C, 3, none⟩ (.int .i64 (dl : Int)) = W6 at HM2 ⊢
      clear hCl f2 f3 c2 c3
      refine (HE.out _ HM2.out.r.into.1).mono ?_
      rintro r w7 ⟨rfl, hi7⟩
      have HM7 := Lib.hid (HM2.out.inp hi7)
      have HLS := Lib.hid HM.out.1
      clear hi7 HE HM2 HM
      go_wp2
      go_loopw [27] (fun i wr => ∃ (k : Nat) (a2 : Option Addr) (c2 : Nat) (ls2 : List (List Value)), k ≤ n6 ∧ i = .int .i64 k ∧ Hid (ls2.length = k ∧ Ph2 w b C (runS plyS k s6).1 (t : Int) a c ls m (tk : Int) (dl : Int) a2 c2 ls2 (runS plyS k s6).2 wr)) (fun i _ => n6 - (intOf i).toNat)
      case atStart => exact ⟨0, none, 0, [], by omega, rfl, Lib.hid ⟨rfl, HM7.out⟩⟩
      case round =>
        clear HM7
        obtain ⟨k, a2, c2, ls2, hk, rfl, HM⟩ := hrel
        have hk0 : (0 : Int) ≤ (k : Int) := by omega
        by_cases hlt2 : k < n6
        · have hk1 : (k : Int) < (n6 : Int) := by omega
          have HN : Hid (runS plyS (k + 1) s6 = ((plyS (runS plyS k s6).1).1, (runS plyS k s6).2 ++ [(plyS (runS plyS k s6).1).2])) := Lib.hid rfl
          generalize runS plyS k s6 = q at HM HN
          obtain ⟨sq, lq⟩ := q
          simp only at HM HN
          have HX := Lib.hid (fun W (hW : InSt W b sq) => count_any b sq.1 sq.2 31 W (by decide) (by decide) hW)
          have hV : plyS sq = ((batchS (countS sq 31).1).1, ⟨((countS sq 31).2 : Int), if (batchS (countS sq 31).1).1.2 = 0 then (batchS (countS sq 31).1).2 else []⟩) := rfl
          generalize countS sq 31 = t8 at HX hV
          obtain ⟨s8, p8⟩ := t8
          simp only at HX hV
          have HY := Lib.hid (fun W (hW : InSt W b s8) => ordRead_any b s8 W hW)
          unfold OReadPost at HY
          generalize batchS s8 = t9 at HY hV
          obtain ⟨s9, l9⟩ := t9
          simp only at HY hV
          generalize (if s9.2 = 0 then l9 else []) = L9 at HY hV
          rw [hV] at HN
          simp only at HN
          have c4 : wr.cell? ⟨C, 4, none⟩ = some (.slice a2 ls2.length c2) := HM.out.2.r.c 4 (by simp)
          rw [HM.out.1] at c4
          have fc := HM.out.2.r.fc 4
          have hCl := HM.out.2.r.lt
          have hll : ls2.length ≤ 1000 := by have := HM.out.1; omega
          clear hV
          go_upto_region 9 with (fail)
          go_region_law (first
            | (refine step_append_run _ rfl (.tmp 30) (.tmp 36) 32 32 rfl _ _ (by rfl) (by rfl) (.slice a5 (k + 1) c5) w5' HR5.out ?_)
            | (go_simp; go_at_call 58; refine (HX.out _ (HM.out.2.r.into.1.below (Below.refl _ _).drew)).mono ?_; rintro r w4' ⟨rfl, hi4⟩; have HI4 := Lib.hid (show InTo wr b s8 w4' from ⟨hi4.1, hi4.2.drew0⟩); have hC4 := (HM.out.2.inp HI4.out).r.lt; have c4' : w4'.cell? ⟨C, 4, none⟩ = some (.slice a2 k c2) := (by have h9 := (HM.out.2.inp HI4.out).r.c 4 (by simp); rw [← HM.out.1]; exact h9); clear hi4)
            | (go_simp; go_at_call 60; refine (HY.out _ HI4.out.1).mono ?_; rintro r w6' ⟨av, cv, rfl, hi6, ho6, hf6⟩; obtain ⟨e2', hC6, a5, c5, w5', hr5, e5, f5, hm5⟩ := HM.out.2.step (p8 : Int) L9 av cv (into_trans HI4.out hi6) ho6 (fun x hx => Nat.le_trans HI4.out.2.size (hf6 x hx)) hll k HM.out.1; have HR5 := Lib.hid hr5; have HM5 := Lib.hid hm5; have hC5 := block_lt_of_cell e5; simp only at hC5; clear hi6 ho6 hf6 hr5 hm5))
          all_goals
            go_wp2
            go_roundw
            case rel => exact ⟨k + 1, a5, c5, _, by omega, by go_num, Lib.hid (by rw [HN.out]; exact ⟨by rw [List.length_append, HM.out.1]; rfl, HM5.out⟩)⟩
            case measure => simp [intOf] <;> omega
        · obtain rfl : k = n6 := by omega
          have hk1 : (k : Int) ≤ (k : Int) := by omega
          have HER := Lib.hid (err_any b _ _ wr HM.out.2.r.into.1)
          generalize runS plyS k s6 = q at HM HER HR6
          obtain ⟨⟨lq, eq⟩, pm⟩ := q
          have hT := HR6.out
          simp only at HM HER hT
          subst hT
          clear HR6
          have c0 : wr.cell? ⟨C, 0, none⟩ = some (.int .i64 (t : Int)) := HM.out.2.r.c 0 (by simp)
          have c1 : wr.cell? ⟨C, 1, none⟩ = some (.slice a ls.length c) := HM.out.2.r.c 1 (by simp)
          have c2' : wr.cell? ⟨C, 2, none⟩ = some (.int .i64 (tk : Int)) := HM.out.2.r.c 2 (by simp)
          have c3 : wr.cell? ⟨C, 3, none⟩ = some (.int .i64 (dl : Int)) := HM.out.2.r.c 3 (by simp)
          have c4 : wr.cell? ⟨C, 4, none⟩ = some (.slice a2 ls2.length c2) := HM.out.2.r.c 4 (by simp)
          have x0 : wr.cell? ⟨w.heap.size, 0, none⟩ = some (.int .i64 0) := HM.out.2.r.x 0 (by decide)
          have x1 : wr.cell? ⟨w.heap.size, 1, none⟩ = some (.slice none 0 0) := HM.out.2.r.x 1 (by decide)
          have x2 : wr.cell? ⟨w.heap.size, 2, none⟩ = some (.int .i64 0) := HM.out.2.r.x 2 (by decide)
          have x3 : wr.cell? ⟨w.heap.size, 3, none⟩ = some (.int .i64 0) := HM.out.2.r.x 3 (by decide)
          have x4 : wr.cell? ⟨w.heap.size, 4, none⟩ = some (.slice none 0 0) := HM.out.2.r.x 4 (by decide)
          have f0 := HM.out.2.r.fx 0
          have f1 := HM.out.2.r.fx 1
          have f2 := HM.out.2.r.fx 2
          have f3 := HM.out.2.r.fx 3
          have f4 := HM.out.2.r.fx 4
          have hCl := HM.out.2.r.lt
          have hlo := HM.out.2.r.lo.2
          have hXl : w.heap.size < wr.heap.size := by omega
          have hCX : ¬ C = w.heap.size := by omega
          have hXC : ¬ w.heap.size = C := by omega
          by_cases he : eq = 0
          · subst he
            have HT : Hid (recT ((((lq, 0), ⟨(t : Int), m, (tk : Int), (dl : Int), pm⟩)) : St × Rec) = ⟨(t : Int), m, (tk : Int), (dl : Int), pm⟩) := Lib.hid rfl
            have hfin := HM.out.2.fin (.int .i64 (t : Int)) (.slice a ls.length c) (.int .i64 (tk : Int)) (.int .i64 (dl : Int)) (.slice a2 ls2.length c2)
            have HFI := Lib.hid hfin
            clear hfin
            go_wp2_with fail
            refine HER.out.mono ?_
            rintro r w8 ⟨rfl, rfl⟩
            dsimp only
            go_wp2
            exact bodyPost_ret (v := .agg #[.int .i64 (t : Int), .slice a ls.length c, .int .i64 (tk : Int), .int .i64 (dl : Int), .slice a2 ls2.length c2]) (by simp [results, Try.results28, go_sem, x0, x1, x2, x3, x4]) rfl (HF.out _ _ _ _ _ _ _ _ _ _ _ _ _ _ HT.out rfl rfl HFI.out.1 HFI.out.2)
          · have heb : ((eq : Int) == 0) = false := by rw [beq_eq_false_iff_ne]; omega
            have hei : ¬ (eq : Int) = 0 := by omega
            have HT : Hid (recT ((((lq, eq), ⟨(t : Int), m, (tk : Int), (dl : Int), pm⟩)) : St × Rec) = ⟨0, [], 0, 0, []⟩) := Lib.hid (if_neg he)
            have hfin := HM.out.2.fin (.int .i64 0) (.slice none 0 0) (.int .i64 0) (.int .i64 0) (.slice none 0 0)
            have HFI := Lib.hid hfin
            clear hfin he
            go_wp2_with fail
            refine HER.out.mono ?_
            rintro r w8 ⟨rfl, rfl⟩
            dsimp only
            go_wp2
            exact bodyPost_ret (v := .agg #[.int .i64 0, .slice none 0 0, .int .i64 0, .int .i64 0, .slice none 0 0]) (by simp [results, Try.results28, go_sem, x0, x1, x2, x3, x4]) rfl (HF.out 0 none 0 [] [] 0 0 none 0 [] [] 0 0 _ HT.out rfl rfl HFI.out.1 (fun W _ => nil_recIs W))
end Go.Proofs.Ytcbadcbnknmdnaa
