/-
  Layer 9: a batch out of bytes.
-/
import Derived.Test.YthggfjjiohdbmaaOrdEq
import Derived.Test.YthggfjjiohdbmaaCodeRead
import Derived.Laws.MakeOwn
namespace Go.Proofs.Ythggfjjiohdbmaa
open Go.RowKit
set_option linter.unusedVariables false

/-- A row of records of the call's own, in blocks from B on. -/
def OwnRec (e : TypeId) (k B : Nat) (a : Option Addr) (c : Nat) (ls : List (List Int)) (w' : World) : Prop :=
  w'.ownsRow 0 e k (.slice a ls.length c) ls.length (recCells ls) ∧ (∀ x, a = some x → B ≤ x.block)
theorem OwnRec.touch {S : Nat → Prop} {e : TypeId} {k B : Nat} {w1 w2 : World} {a : Option Addr} {c : Nat} {ls : List (List Int)} (h : OwnRec e k B a c ls w1) (ht : Touch S w1 w2) (hs : ∀ j, B ≤ j → ¬ S j) : OwnRec e k B a c ls w2 :=
  ⟨own_touchR h.1 ht (fun k hk => by
    cases a with
    | none => simp [Value.ownBlock] at hk
    | some x => simp [Value.ownBlock] at hk; subst hk; exact hs _ (h.2 x rfl)), h.2⟩
theorem OwnRec.one {w1 : World} {t u ty e : TypeId} {k B : Nat} {z : Value} (H : RecTy e k z) (ht : Try.prog.underlying t = some (.slice e)) (hu : Try.prog.underlying u = some (.slice e)) {a1 : Option Addr} {c1 : Nat} {l : List (List Int)} (h : OwnRec e k B a1 c1 l w1) (hB : B ≤ w1.heap.size) (x : List Int) (hx : x.length = k) (hl : l.length + 1 ≤ 1000000) :
    ∃ a' c' w', (Builtin.append_ #[t, u] ty #[.slice a1 l.length c1, .slice (some ⟨w1.heap.size, 0, none⟩) 1 1]).run Try.prog (w1.alloc (.cells ((x.map (Value.int .i64)).toArray) e)) = .ok (.slice a' (l.length + 1) c') w' ∧ OwnRec e k B a' c' (l ++ [x]) w' ∧ Touch (fun b => B ≤ b) w1 w' := by
  have hb : Below w1.heap.size w1 (w1.alloc (.cells ((x.map (Value.int .i64)).toArray) e)) := (Below.refl _ _).alloc (Nat.le_refl _) _
  have hw : Wide k [x] := by intro y hy; simp at hy; rw [hy]; exact hx
  obtain ⟨a', c', w', hrun, ho, hg, hf⟩ := rec_append (ty := ty) H ht hu hw (h.1.alloc (.cells ((x.map (Value.int .i64)).toArray) e)) (some ⟨w1.heap.size, 0, none⟩) 1 (RecRow.lit w1 [x] hw ((x.map (Value.int .i64)).toArray) e (by simp [recCells])) (fun h => by cases h) (by simpa using hl)
  refine ⟨a', c', w', hrun, ⟨by rw [List.length_append] at ho ⊢; exact ho, fun y hy => ?_⟩, ((Touch.refl _ w1).alloc _).trans ((touch_grown hg).mono fun b hb h' => ?_)⟩
  · subst hy
    rcases hf y.block (by simp [Value.ownBlock]) with h' | h'
    · cases a1 with
      | none => simp [Value.ownBlock] at h'
      | some z => simp [Value.ownBlock] at h'; have := h.2 z rfl; omega
    · simp at h'; omega
  · cases a1 with
    | none => simp [Value.ownBlock] at h'
    | some z => simp [Value.ownBlock] at h'; have := h.2 z rfl; omega
/-- An order, as the reader takes it. -/
def orderS (st : St) : St × Ord :=
  (failS (numS (numS (countS (countS st 4).1 1099511627776).1).1).1 (checkN ⟨((countS st 4).2 : Nat), ((countS (countS st 4).1 1099511627776).2 : Nat), unzig (numS (countS (countS st 4).1 1099511627776).1).2, unzig (numS (numS (countS (countS st 4).1 1099511627776).1).1).2⟩),
   ⟨((countS st 4).2 : Nat), ((countS (countS st 4).1 1099511627776).2 : Nat), unzig (numS (countS (countS st 4).1 1099511627776).1).2, unzig (numS (numS (countS (countS st 4).1 1099511627776).1).1).2⟩)
def batchS (st : St) : St × List Ord := runS orderS (countS st 8).2 (countS st 8).1
/-- What Read leaves. -/
def OReadPost (w : World) (b : Nat) (t : St × List Ord) (r : Ending) (w' : World) : Prop :=
  ∃ a c, r = .returned (.slice a (if t.1.2 = 0 then t.2 else []).length c) ∧ InTo w b t.1 w' ∧ OrdRow w' a (if t.1.2 = 0 then t.2 else []) ∧ (∀ x, a = some x → w.heap.size ≤ x.block)
theorem made_ord (u : World) (n : Nat) (hn : n ≤ 8) : (Instr.makeSlice 43 (.int .i64 0) (.int .i64 (n : Int))).run Try.prog u = .ok (.slice (some ⟨u.heap.size, 0, none⟩) 0 n) (u.alloc (.cells (madeCells #[.int .i64 0, .int .i64 0, .int .i64 0, .int .i64 0] (n * 4)) 23)) := by
  obtain ⟨i0, hi, hz0, hz1, hz2⟩ := info_is ordTy.info
  have := run_make (P := Try.prog) u 43 23 i0 _ Try.underlying43 hi hz0 .i64 .i64 0 (n : Int) (by omega) (by omega) (by rw [hz2]; omega) (by omega)
  rw [hz1] at this
  exact this
structure RdMem (w : World) (b : Nat) (st : St) (l : List Ord) (a : Option Addr) (c : Nat) (wr : World) : Prop where
  inst : InSt wr b st
  row : OwnRec 23 4 w.heap.size a c (ordsI l) wr
  tch : Touch (fun k => k = b) w wr
  hb : b < w.heap.size
theorem RdMem.step {w : World} {b : Nat} {sq s4 s5 : St} {l : List Ord} {a : Option Addr} {c : Nat} {wr wd we wf : World} {o : Ord} (h : RdMem w b sq l a c wr) (h4 : InTo wr b s4 wd) (he : Below (wd.alloc (.cells #[.int .i64 o.kind, .int .i64 o.unit, .int .i64 o.a, .int .i64 o.b] 23)).heap.size (wd.alloc (.cells #[.int .i64 o.kind, .int .i64 o.unit, .int .i64 o.a, .int .i64 o.b] 23)) we) (h5 : InTo we b s5 wf) (hl : l.length ≤ 1000) :
    wf.cell? ⟨wd.heap.size, 0, none⟩ = some (.int .i64 o.kind) ∧ wf.cell? ⟨wd.heap.size, 1, none⟩ = some (.int .i64 o.unit) ∧ wf.cell? ⟨wd.heap.size, 2, none⟩ = some (.int .i64 o.a) ∧ wf.cell? ⟨wd.heap.size, 3, none⟩ = some (.int .i64 o.b) ∧
    ∃ a' c' w', (Builtin.append_ #[43, 43] 43 #[.slice a l.length c, .slice (some ⟨wf.heap.size, 0, none⟩) 1 1]).run Try.prog (wf.alloc (.cells #[.int .i64 o.kind, .int .i64 o.unit, .int .i64 o.a, .int .i64 o.b] 23)) = .ok (.slice a' (l.length + 1) c') w' ∧ RdMem w b s5 (l ++ [o]) a' c' w' := by
  obtain ⟨hi, hrow, ht, hb⟩ := h
  have z1 := ht.size
  have z2 := h4.2.size
  have z3 := he.size
  have z4 := h5.2.size
  simp at z3
  have tde : Touch (fun k => k = b) wd we := ((Touch.refl _ wd).alloc _).trans (touch_of_below he)
  have tdf : Touch (fun k => k = b) wd wf := tde.trans h5.2
  have kc : ∀ j v, (wd.alloc (.cells #[.int .i64 o.kind, .int .i64 o.unit, .int .i64 o.a, .int .i64 o.b] 23)).cell? ⟨wd.heap.size, j, none⟩ = some v → wf.cell? ⟨wd.heap.size, j, none⟩ = some v := fun j v hv =>
    (h5.2.cell (p := ⟨wd.heap.size, j, none⟩) (by show wd.heap.size < _; omega) (by show ¬ wd.heap.size = b; omega)).trans ((he.cell (p := ⟨wd.heap.size, j, none⟩) (by simp)).trans hv)
  have hrow' : OwnRec 23 4 w.heap.size a c (ordsI l) wf := hrow.touch (h4.2.trans tdf) (fun j hj e => by omega)
  obtain ⟨a', c', w', hrun, hnew, htch⟩ := hrow'.one (t := 43) (u := 43) (ty := 43) ordTy Try.underlying43 Try.underlying43 (by omega) o.ints rfl (by rw [ordsI_len]; omega)
  rw [ordsI_len] at hrun
  refine ⟨kc _ _ (by simp), kc _ _ (by simp), kc _ _ (by simp), kc _ _ (by simp), a', c', w', hrun, h5.1.touch htch (by omega), ?_, ((ht.trans h4.2).trans tdf).trans' htch (fun j hj e => by omega), hb⟩
  rw [ordsI_append]
  exact hnew
set_option maxRecDepth 100000 in
set_option maxHeartbeats 4000000 in
theorem ordRead_any (b : Nat) (st : St) (w : World) (h : InSt w b st) : Calls Try.prog 28 #[.pointer (some ⟨b, 0, none⟩)] w (OReadPost w b (batchS st)) := by
  have hb := h.lt
  have HC1 := Lib.hid (count_any b st.1 st.2 8 w (by decide) (by decide) h)
  have hq := countS_le st 8
  have hpost : OReadPost w b (batchS st) = OReadPost w b (runS orderS (countS st 8).2 (countS st 8).1) := rfl
  generalize OReadPost w b (batchS st) = Post at hpost
  have HPost := Lib.hid hpost
  clear h hpost
  generalize countS st 8 = t1 at HC1 hq HPost
  obtain ⟨st1, n⟩ := t1
  simp only at hq HPost
  have hmk := fun u => made_ord u n hq
  go_enter Try.func28, Try.ntmps28
  go_wp2_with fail
  refine HC1.out.mono ?_
  rintro r w1 ⟨rfl, hi1⟩
  have HM : Hid (RdMem w b st1 [] (some ⟨w1.heap.size, 0, none⟩) n (w1.alloc (.cells (madeCells #[.int .i64 0, .int .i64 0, .int .i64 0, .int .i64 0] (n * 4)) 23))) := Lib.hid
    ⟨hi1.1.alloc _, ⟨World.ownsRow_made w1 _ n (Nat.zero_le _) (by unfold maxLen; omega) (size_madeCells _ _), fun x hx => by cases hx; exact hi1.2.size⟩, hi1.2.alloc _, hb⟩
  clear hi1 HC1
  generalize madeCells #[.int .i64 0, .int .i64 0, .int .i64 0, .int .i64 0] (n * 4) = Z at HM hmk
  go_wp2
  go_loopw [4, 11] (fun v i wr => ∃ (k : Nat) (a : Option Addr) (c : Nat), k ≤ n ∧ v = .slice a k c ∧ i = .int .i64 k ∧ Hid (RdMem w b (runS orderS k st1).1 (runS orderS k st1).2 a c wr)) (fun _ i _ => n - (intOf i).toNat)
  case atStart => exact ⟨0, _, _, by omega, rfl, rfl, HM⟩
  case round =>
    obtain ⟨k, a, c, hk, rfl, rfl, HR⟩ := hrel
    have hln := runS_len orderS k st1
    by_cases hlt : k < n
    · have HN : Hid (runS orderS (k + 1) st1 = ((orderS (runS orderS k st1).1).1, (runS orderS k st1).2 ++ [(orderS (runS orderS k st1).1).2])) := Lib.hid rfl
      generalize runS orderS k st1 = q at HR HN hln
      obtain ⟨sq, lq⟩ := q
      simp only at HR HN hln
      have hO : orderS sq = (failS (numS (numS (countS (countS sq 4).1 1099511627776).1).1).1 (checkN ⟨((countS sq 4).2 : Nat), ((countS (countS sq 4).1 1099511627776).2 : Nat), unzig (numS (countS (countS sq 4).1 1099511627776).1).2, unzig (numS (numS (countS (countS sq 4).1 1099511627776).1).1).2⟩),
        ⟨((countS sq 4).2 : Nat), ((countS (countS sq 4).1 1099511627776).2 : Nat), unzig (numS (countS (countS sq 4).1 1099511627776).1).2, unzig (numS (numS (countS (countS sq 4).1 1099511627776).1).1).2⟩) := rfl
      have HA := Lib.hid (count_any b sq.1 sq.2 4 wr (by decide) (by decide) HR.out.inst)
      have hle := countS_le sq 4
      generalize countS sq 4 = t1 at HA hO hle
      obtain ⟨s1, n1⟩ := t1
      simp only at hO hle
      have hB := fun (w' : World) (h' : InSt w' b s1) => count_any b s1.1 s1.2 1099511627776 w' (by decide) (by decide) h'
      generalize countS s1 1099511627776 = t2 at hB hO
      obtain ⟨s2, n2⟩ := t2
      simp only at hO
      have hC := fun (w' : World) (h' : InSt w' b s2) => inInt_any b s2.1 s2.2 w' h'
      generalize numS s2 = t3 at hC hO
      obtain ⟨s3, n3⟩ := t3
      simp only at hO
      have hD := fun (w' : World) (h' : InSt w' b s3) => inInt_any b s3.1 s3.2 w' h'
      generalize numS s3 = t4 at hD hO
      obtain ⟨s4, n4⟩ := t4
      simp only at hO
      have HB := Lib.hid hB
      have HC := Lib.hid hC
      have HD := Lib.hid hD
      have HO := Lib.hid hO
      clear hB hC hD hO
      go_wp2_with fail
      refine HA.out.mono ?_
      rintro r wa ⟨rfl, hia⟩
      have HIA := Lib.hid hia
      clear hia HA
      go_wp2_with fail
      refine (HB.out _ HIA.out.1).mono ?_
      rintro r wb ⟨rfl, hib⟩
      have HIB := Lib.hid (HIA.out.trans hib)
      clear hib HB HIA
      go_wp2_with fail
      refine (HC.out _ HIB.out.1).mono ?_
      rintro r wc ⟨rfl, hic⟩
      have HIC := Lib.hid (HIB.out.trans hic)
      clear hic HC HIB
      go_wp2_with fail
      refine (HD.out _ HIC.out.1).mono ?_
      rintro r wd ⟨rfl, hid⟩
      have HID := Lib.hid (HIC.out.trans hid)
      clear hid HD HIC
      simp only
      generalize unzig n3 = y3 at HO ⊢
      generalize unzig n4 = y4 at HO ⊢
      have HCK := Lib.hid (fun W => ordCheck_any ⟨(n1 : Int), (n2 : Int), y3, y4⟩ W)
      have hcl := checkN_le ⟨(n1 : Int), (n2 : Int), y3, y4⟩
      generalize checkN ⟨(n1 : Int), (n2 : Int), y3, y4⟩ = x at HCK hcl HO
      unfold ordV at HCK
      simp only at HCK
      go_wp2_with fail
      refine (HCK.out _).mono ?_
      rintro r we ⟨rfl, hbe⟩
      have HBE := Lib.hid hbe
      have HF := Lib.hid (fail_any b s4.1 s4.2 x we (by omega) (((HID.out.1).alloc _).below hbe))
      clear hbe HCK
      go_wp2_with fail
      refine HF.out.mono ?_
      rintro r wf ⟨rfl, hif⟩
      have hx := HR.out.step (o := ⟨(n1 : Int), (n2 : Int), y3, y4⟩) HID.out HBE.out hif (by omega)
      rw [hln] at hx
      obtain ⟨c0, c1, c2, c3, a', c', w', hrun, hmem⟩ := hx
      have HRUN := Lib.hid hrun
      have HMEM := Lib.hid hmem
      have HLN := Lib.hid hln
      have hwl : wd.heap.size < wf.heap.size := block_lt_of_cell c0
      clear hif HF HBE hrun hmem hln
      simp only at c0 c1 c2 c3 HRUN
      go_wp2_with (at_builtin; refine wpList_append_run _ rfl (.tmp 26) (.tmp 28) 43 43 rfl _ _ rfl rfl (.slice a' (k + 1) c') w' HRUN.out ?_)
      go_roundw
      case rel => exact ⟨k + 1, a', c', by omega, rfl, by go_num, Lib.hid (by rw [HN.out, HO.out]; exact HMEM.out)⟩
      case measure => simp [intOf]; omega
    · obtain rfl : n = k := by omega
      have HE := Lib.hid (err_any b _ _ wr HR.out.inst)
      have HLN := Lib.hid hln
      clear hln
      generalize runS orderS n st1 = q at HR HE HLN HPost
      obtain ⟨⟨ls, e⟩, lq⟩ := q
      simp only at HR HE HLN
      by_cases he : e = 0
      · subst he
        go_wp2_with fail
        refine HE.out.mono ?_
        rintro r w2 ⟨rfl, rfl⟩
        go_wp2
        rw [HPost.out]
        refine ⟨a, c, ?_, ⟨HR.out.inst, HR.out.tch⟩, ?_, HR.out.row.2⟩
        · rw [if_pos rfl, HLN.out]; rfl
        · rw [if_pos rfl]
          exact RecRow.of_own (ordsI_wide _) (by decide) HR.out.row.1
      · have heb : ((e : Int) != 0) = true := by simp; omega
        have HEN := Lib.hid he
        clear he
        go_wp2_with fail
        refine HE.out.mono ?_
        rintro r w2 ⟨rfl, rfl⟩
        go_wp2
        rw [HPost.out]
        refine ⟨none, 0, ?_, ⟨HR.out.inst, HR.out.tch⟩, ?_, fun x hx => by cases hx⟩
        · rw [if_neg HEN.out]; rfl
        · rw [if_neg HEN.out]
          intro h0
          simp [ordsI] at h0
end Go.Proofs.Ythggfjjiohdbmaa
