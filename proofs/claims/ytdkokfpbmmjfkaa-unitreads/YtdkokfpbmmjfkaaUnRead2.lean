/-
  Layer 8: a table out of bytes.
-/
import Derived.Test.YtdkokfpbmmjfkaaUnRead1
namespace Go.Proofs.Ytdkokfpbmmjfkaa
open Go.RowKit
set_option linter.unusedVariables false

def rdUn (next : Int) (k : Nat) (st : St) : St × List Un := unsG (oneO next) 0 k st
theorem rdUn_succ (next : Int) (k : Nat) (st : St) : rdUn next (k + 1) st = (failS (rdU (lastId 0 (rdUn next k st).2) (rdUn next k st).1).1 (ordE (lastId 0 (rdUn next k st).2) next (rdU (lastId 0 (rdUn next k st).2) (rdUn next k st).1).2), (rdUn next k st).2 ++ [(rdU (lastId 0 (rdUn next k st).2) (rdUn next k st).1).2]) := by
  have h := unsG_succ (oneO next) 0 k st
  unfold rdUn
  rw [h]
  generalize unsG (oneO next) 0 k st = q
  simp only [oneO, oneG, rdU]
theorem rdUn_len (next : Int) (k : Nat) (st : St) : (rdUn next k st).2.length = k := unsG_len _ _ _ _
theorem unsG_stuck {next : Int} {O : Int → St → St × Un} (hO : OneR next O) {last : Int} {k : Nat} {st : St} (h : (unsG O last k st).1.2 ≠ 0) (hn : (unsG O last k st).1.1 = []) (j : Nat) : (unsG O last (k + j) st).1 = (unsG O last k st).1 := by
  induction j with
  | zero => rfl
  | succ j ih =>
    show (O (lastId last (unsG O last (k + j) st).2) (unsG O last (k + j) st).1).1 = _
    rw [ih]
    generalize (unsG O last k st).1 = s at h hn
    obtain ⟨l, e⟩ := s
    simp only at h hn
    subst hn
    exact (hO.cod _).stick e h
theorem rdUn_stuck {next : Int} {k n : Nat} {st : St} (hk : k ≤ n) (h : (rdUn next k st).1.2 ≠ 0) (hn : (rdUn next k st).1.1 = []) : (rdUn next n st).1 = (rdUn next k st).1 := by
  have := unsG_stuck (oneR next) h hn (n - k)
  rw [show k + (n - k) = n by omega] at this
  exact this
theorem failS_stuck {st : St} (h : st.2 ≠ 0) (x : Nat) : failS st x = st := by unfold failS; rw [if_neg (fun hc => h hc.1)]
theorem rdU_zero {last : Int} {st : St} (h : (rdU last st).1.2 = 0) : UnMay (rdU last st).2 := (rdG_zero fldR (cntR _ (by decide)) h).2
theorem rdU_id (last : Int) (st : St) : last ≤ (rdU last st).2.id ∧ (rdU last st).2.id ≤ last + 1099511627776 := rdG_id (cntR _ (by decide)) last st
/-- What Read leaves: a table of its own, or nil beside the reader's error. -/
def TReadPost (w : World) (b : Nat) (t : St × (List Un × Int)) (r : Ending) (w' : World) : Prop :=
  InTo w b t.1 w' ∧ ((t.1.2 = 0 ∧ ∃ B, r = .returned (.pointer (some ⟨B, 0, none⟩)) ∧ TabQ (fun k => k < w.heap.size) B t.2.1 t.2.2 w') ∨ (t.1.2 ≠ 0 ∧ r = .returned (.pointer none)))
theorem OwnRec.one2 {w1 : World} {t u ty e : TypeId} {k B : Nat} {z : Value} (H : RecTy e k z) (ht : Try.prog.underlying t = some (.slice e)) (hu : Try.prog.underlying u = some (.slice e)) {a1 : Option Addr} {c1 : Nat} {l : List (List Int)} (h : OwnRec e k B a1 c1 l w1) (hB : B ≤ w1.heap.size) (x : List Int) (hx : x.length = k) (hl : l.length + 1 ≤ 1000000) :
    ∃ a' c' w', (Builtin.append_ #[t, u] ty #[.slice a1 l.length c1, .slice (some ⟨w1.heap.size, 0, none⟩) 1 1]).run Try.prog (w1.alloc (.cells ((x.map (Value.int .i64)).toArray) e)) = .ok (.slice a' (l.length + 1) c') w' ∧ OwnRec e k B a' c' (l ++ [x]) w' ∧ Touch (fun b => a1.map (·.block) = some b) w1 w' := by
  have hw : Wide k [x] := by intro y hy; simp at hy; rw [hy]; exact hx
  obtain ⟨a', c', w', hrun, ho, hg, hf⟩ := rec_append (ty := ty) H ht hu hw (h.1.alloc (.cells ((x.map (Value.int .i64)).toArray) e)) (some ⟨w1.heap.size, 0, none⟩) 1 (RecRow.lit w1 [x] hw ((x.map (Value.int .i64)).toArray) e (by simp [recCells])) (fun h => by cases h) (by simpa using hl)
  refine ⟨a', c', w', hrun, ⟨by rw [List.length_append] at ho ⊢; exact ho, fun y hy => ?_⟩, ((Touch.refl _ w1).alloc _).trans ((touch_grown hg).mono fun b hb h' => ?_)⟩
  · subst hy
    rcases hf y.block (by simp [Value.ownBlock]) with h' | h'
    · cases a1 with
      | none => simp [Value.ownBlock] at h'
      | some z => simp [Value.ownBlock] at h'; have := h.2 z rfl; omega
    · simp at h'; omega
  · cases a1 with
    | none => simp [Value.ownBlock] at h'
    | some z => simpa [Value.ownBlock] using h'
theorem OwnRec.lt {e : TypeId} {k B : Nat} {a : Option Addr} {c : Nat} {ls : List (List Int)} {w : World} (h : OwnRec e k B a c ls w) : ∀ x, a = some x → x.block < w.heap.size := fun x hx => by
  rcases h.1.2 with ⟨hv, -⟩ | ⟨g, cap, cur, hv, -, hg, -⟩
  · rw [hx] at hv; simp at hv
  · rw [hx] at hv
    simp only [Value.slice.injEq, Option.some.injEq] at hv
    rw [hv.1]
    exact (Array.getElem?_eq_some_iff.1 hg).1
structure RtMem (w : World) (b : Nat) (q : St × List Un) (a : Option Addr) (c : Nat) (wr : World) : Prop where
  inst : InSt wr b q.1
  row : OwnRec 35 6 w.heap.size a c (unsI q.2) wr
  tch : Touch (fun k => k = b) w wr
theorem RtMem.step {w : World} {b : Nat} {q : St × List Un} {a : Option Addr} {c : Nat} {wr w2 : World} {s' : St} {u : Un} {t : TypeId} (h : RtMem w b q a c wr) (hb : b < w.heap.size) (h2 : InTo wr b s' w2) (hl : q.2.length ≤ 1000) :
    ∃ a' c' w', (Builtin.append_ #[110, 110] 110 #[.slice a q.2.length c, .slice (some ⟨w2.heap.size + 1, 0, none⟩) 1 1]).run Try.prog ((w2.alloc (.cells #[.int .i64 u.id, .int .i64 u.kind, .int .i64 u.owner, .int .i64 u.x, .int .i64 u.y, .int .i64 u.health] t)).alloc (.cells #[.int .i64 u.id, .int .i64 u.kind, .int .i64 u.owner, .int .i64 u.x, .int .i64 u.y, .int .i64 u.health] 35)) = .ok (.slice a' (q.2.length + 1) c') w' ∧ RtMem w b (s', q.2 ++ [u]) a' c' w' ∧
      w'.cell? ⟨w2.heap.size, 0, none⟩ = some (.int .i64 u.id) := by
  obtain ⟨hi, hrow, ht⟩ := h
  have z1 := ht.size
  have z2 := h2.2.size
  have hA : Below w2.heap.size w2 (w2.alloc (.cells #[.int .i64 u.id, .int .i64 u.kind, .int .i64 u.owner, .int .i64 u.x, .int .i64 u.y, .int .i64 u.health] t)) := bel_alloc (Below.refl _ _) _
  have hsz : (w2.alloc (.cells #[.int .i64 u.id, .int .i64 u.kind, .int .i64 u.owner, .int .i64 u.x, .int .i64 u.y, .int .i64 u.health] t)).heap.size = w2.heap.size + 1 := by simp
  have hc : (w2.alloc (.cells #[.int .i64 u.id, .int .i64 u.kind, .int .i64 u.owner, .int .i64 u.x, .int .i64 u.y, .int .i64 u.health] t)).cell? ⟨w2.heap.size, 0, none⟩ = some (.int .i64 u.id) := by simp
  have hrow' : OwnRec 35 6 w.heap.size a c (unsI q.2) (w2.alloc (.cells #[.int .i64 u.id, .int .i64 u.kind, .int .i64 u.owner, .int .i64 u.x, .int .i64 u.y, .int .i64 u.health] t)) := (hrow.touch h2.2 (fun j hj e => by omega)).touch (touch_of_below (S := fun _ => False) hA) (fun j _ => id)
  have hi' : InSt (w2.alloc (.cells #[.int .i64 u.id, .int .i64 u.kind, .int .i64 u.owner, .int .i64 u.x, .int .i64 u.y, .int .i64 u.health] t)) b s' := h2.1.below hA
  have ht' : Touch (fun k => k = b) w (w2.alloc (.cells #[.int .i64 u.id, .int .i64 u.kind, .int .i64 u.owner, .int .i64 u.x, .int .i64 u.y, .int .i64 u.health] t)) := (ht.trans h2.2).alloc _
  generalize w2.alloc (.cells #[.int .i64 u.id, .int .i64 u.kind, .int .i64 u.owner, .int .i64 u.x, .int .i64 u.y, .int .i64 u.health] t) = W at hA hsz hc hrow' hi' ht' ⊢
  obtain ⟨a', c', w', hrun, hnew, htch⟩ := hrow'.one2 (t := 110) (u := 110) (ty := 110) unTy Try.underlying110 Try.underlying110 (by omega) u.ints rfl (by rw [unsI_len]; omega)
  rw [unsI_len, hsz] at hrun
  have hlt := (hrow.touch h2.2 (fun j hj e => by omega)).lt
  have hge := hrow.2
  have hno : ∀ j, a.map (·.block) = some j → w.heap.size ≤ j ∧ j < w2.heap.size := fun j hj => by
    cases a with
    | none => simp at hj
    | some x => simp at hj; subst hj; exact ⟨hge x rfl, hlt x rfl⟩
  refine ⟨a', c', w', hrun, ⟨hi'.touch htch (fun e => by have := hno _ e; omega), ?_, ht'.trans' htch (fun j hj e => by have := hno _ e; omega)⟩, ?_⟩
  · rw [unsI_append]; exact hnew
  · exact (htch.cell (p := ⟨w2.heap.size, 0, none⟩) (by show w2.heap.size < _; omega) (fun e => by have := hno w2.heap.size e; omega)).trans hc
set_option maxRecDepth 100000 in
set_option maxHeartbeats 4000000 in
theorem tabRead_any (b : Nat) (st : St) (w : World) (h : InSt w b st) : Calls Try.prog 19 #[.pointer (some ⟨b, 0, none⟩)] w (TReadPost w b (tabS st)) := by
  have hb := h.lt
  have hC := count_any b st.1 st.2 1099511627776 w (by decide) (by decide) h
  rw [show countS (st.1, st.2) 1099511627776 = cntS 1099511627776 st from rfl] at hC
  have hle := (cntR 1099511627776 (by decide)).le st
  have hS := tabG_eq oneO (cntS 1099511627776) (cntS 64) st
  rw [← show tabS st = tabG oneO (cntS 1099511627776) (cntS 64) st from rfl] at hS
  have HTOK := Lib.hid (fun hh => (tabS_ok (st := st) hh).2)
  generalize tabS st = res at hS HTOK
  generalize cntS 1099511627776 st = t at hC hle hS
  obtain ⟨s1, next⟩ := t
  simp only at hle hS
  have hC2 := fun W (hh : InSt W b s1) => count_any b s1.1 s1.2 64 W (by decide) (by decide) hh
  rw [show countS (s1.1, s1.2) 64 = cntS 64 s1 from rfl] at hC2
  have hle2 := (cntR 64 (by decide)).le s1
  generalize cntS 64 s1 = t at hC2 hle2 hS
  obtain ⟨s2, n⟩ := t
  simp only at hle2 hS
  have hS' : res = (failS (rdUn (next : Int) n s2).1 (if next = 0 then 4 else 0), ((rdUn (next : Int) n s2).2, (next : Int) - 1)) := hS
  have HC := Lib.hid hC
  have HC2 := Lib.hid hC2
  have HS := Lib.hid hS'
  generalize hpost : TReadPost w b res = Post
  have HPost := Lib.hid hpost
  clear hC hC2 hS hS' h hpost
  go_enter Try.func19, Try.ntmps19
  go_wp2_with fail
  refine HC.out.mono ?_
  rintro r w1 ⟨rfl, hi1⟩
  have HI1 := Lib.hid hi1
  clear hi1 HC
  simp only
  go_wp2_with fail
  refine (HC2.out _ HI1.out.1).mono ?_
  rintro r w2 ⟨rfl, hi2⟩
  have HM : Hid (RtMem w b (rdUn (next : Int) 0 s2) none 0 w2) := Lib.hid ⟨hi2.1, ⟨World.ownsRow_nil _ _ _ _, fun x hx => by cases hx⟩, (HI1.out.2.trans hi2.2)⟩
  clear hi2 HI1 HC2
  simp only
  go_wp2
  go_loopw [4, 5, 11] (fun v5 v6 iv wr => ∃ (k : Nat) (a : Option Addr) (c : Nat), k ≤ n ∧ v5 = .slice a k c ∧ v6 = .int .i64 (lastId 0 (rdUn (next : Int) k s2).2) ∧ iv = .int .i64 k ∧ Hid (RtMem w b (rdUn (next : Int) k s2) a c wr ∧ 0 ≤ lastId 0 (rdUn (next : Int) k s2).2 ∧ lastId 0 (rdUn (next : Int) k s2).2 ≤ next)) (fun _ _ iv _ => n - (intOf iv).toNat)
  case atStart => exact ⟨0, none, 0, by omega, rfl, rfl, rfl, Lib.hid ⟨HM.out, by show (0 : Int) ≤ 0; omega, by show (0 : Int) ≤ (next : Int); omega⟩⟩
  case round =>
    obtain ⟨k, a, c, hk, rfl, rfl, rfl, HR⟩ := hrel
    have hln := rdUn_len (next : Int) k s2
    by_cases hlt : k < n
    · have hN := rdUn_succ (next : Int) k s2
      have HST := Lib.hid (fun h1 h2 => rdUn_stuck (next := (next : Int)) (k := k + 1) (n := n) (st := s2) (by omega) h1 h2)
      generalize rdUn (next : Int) k s2 = q at HR hN hln
      obtain ⟨sq, lq⟩ := q
      simp only at HR hN hln
      have HLA := Lib.hid (lastId_append 0 lq)
      generalize hla : lastId 0 lq = last at HR hN
      have h0 := HR.out.2.1
      have h1 := HR.out.2.2
      have HRU := Lib.hid (readUnit_any b sq last wr HR.out.1.inst (by omega) (by omega))
      have hid := rdU_id last sq
      clear hla
      generalize rdU last sq = t at HRU hN hid
      obtain ⟨s3, u⟩ := t
      simp only at hN hid
      have HN := Lib.hid hN
      clear hN
      go_wp2_with fail
      refine HRU.out.mono ?_
      rintro r w3 ⟨rfl, hi3⟩
      have HI3 := Lib.hid hi3
      have hstep := HR.out.1.step (u := u) (t := 35) hb hi3 (by simp only; omega)
      simp only [hln] at hstep
      have HSTEP := Lib.hid hstep
      clear hi3 HRU hstep
      obtain ⟨u0, u1, u2', u3, u4, u5⟩ := u
      unfold unV
      simp only at hid HSTEP HN
      have HI4 := Lib.hid (show InTo wr b s3 (w3.alloc (.cells #[.int .i64 u0, .int .i64 u1, .int .i64 u2', .int .i64 u3, .int .i64 u4, .int .i64 u5] 35)) from ⟨HI3.out.1.alloc _, HI3.out.2.alloc _⟩)
      have HT := Lib.hid HR.out.1.tch
      by_cases hE : u0 = last ∨ (next : Int) ≤ u0
      · have HNF := Lib.hid (show rdUn (next : Int) (k + 1) s2 = (failS s3 12, lq ++ [⟨u0, u1, u2', u3, u4, u5⟩]) by rw [HN.out, ordE, if_pos hE])
        have HF := Lib.hid (fail_any b s3.1 s3.2 12 _ (by decide) HI4.out.1)
        rw [show (s3.1, s3.2) = s3 from rfl] at HF
        have hne : (failS s3 12).2 ≠ 0 := fun h => by have := (failS_zero h).2; omega
        generalize failS s3 12 = s4 at HF HNF hne
        obtain ⟨l4, e4⟩ := s4
        simp only at hne
        have heb : ((e4 : Int) != 0) = true := by simp; omega
        have HNE := Lib.hid hne
        have hcase : (u0 == last) = true ∨ ((u0 == last) = false ∧ decide ((next : Int) ≤ u0) = true) := by
          by_cases h : u0 = last
          · exact .inl (by simpa using h)
          · exact .inr ⟨by simpa using h, by simp; omega⟩
        clear hE hne HN
        rcases hcase with hq | ⟨hq, hq2⟩
        all_goals
          go_wp2_with fail
          refine HF.out.mono ?_
          rintro r w5 ⟨rfl, hi5⟩
          have HI5 := Lib.hid (HI4.out.trans hi5)
          have HER := Lib.hid (err_any b l4 e4 w5 hi5.1)
          clear hi5
          go_wp2_with fail
          refine HER.out.mono ?_
          rintro r w6 ⟨rfl, rfl⟩
          go_wp2
          rw [← HPost.out]
          have hst := HST.out (by rw [HNF.out]; exact HNE.out) (by rw [HNF.out]; exact HI5.out.1.2.2.2.2.2.1 HNE.out)
          rw [HNF.out] at hst
          refine ⟨?_, .inr ⟨?_, rfl⟩⟩
          · rw [HS.out, hst, failS_stuck HNE.out]
            exact ⟨HI5.out.1, HT.out.trans HI5.out.2⟩
          · rw [HS.out, hst, failS_stuck HNE.out]
            exact HNE.out
      · have hq : (u0 == last) = false := by simp; omega
        have hq2 : decide ((next : Int) ≤ u0) = false := by simp; omega
        have HNF := Lib.hid (show rdUn (next : Int) (k + 1) s2 = (s3, lq ++ [⟨u0, u1, u2', u3, u4, u5⟩]) by rw [HN.out, ordE, if_neg hE]; simp [failS])
        have HEE := Lib.hid hE
        clear hE HN
        obtain ⟨l3, e3⟩ := s3
        have HER := Lib.hid (err_any b l3 e3 _ HI4.out.1)
        by_cases he : e3 = 0
        · subst he
          go_wp2_with fail
          refine HER.out.mono ?_
          rintro r w6 ⟨rfl, rfl⟩
          obtain ⟨a', c', w', hrun, hmem, hcl⟩ := HSTEP.out
          have HRUN := Lib.hid hrun
          have HMEM := Lib.hid hmem
          have hwl := block_lt_of_cell hcl
          simp only at hwl
          clear hrun hmem HSTEP
          go_wp2_with (at_builtin; refine wpList_append_run _ rfl (.tmp 31) (.tmp 33) 110 110 rfl _ _ rfl rfl (.slice a' (k + 1) c') w' HRUN.out ?_)
          go_roundw
          case rel => exact ⟨k + 1, a', c', by omega, rfl, by rw [HNF.out]; simp only [HLA.out], by go_num, Lib.hid (by rw [HNF.out]; simp only [HLA.out]; exact ⟨HMEM.out, by omega, by have := HEE.out; omega⟩)⟩
          case measure => simp [intOf]; omega
        · have heb : ((e3 : Int) != 0) = true := by simp; omega
          have HNE := Lib.hid he
          clear he
          go_wp2_with fail
          refine HER.out.mono ?_
          rintro r w6 ⟨rfl, rfl⟩
          go_wp2
          rw [← HPost.out]
          have hst := HST.out (by rw [HNF.out]; exact HNE.out) (by rw [HNF.out]; exact HI4.out.1.2.2.2.2.2.1 HNE.out)
          rw [HNF.out] at hst
          refine ⟨?_, .inr ⟨?_, rfl⟩⟩
          · rw [HS.out, hst, failS_stuck HNE.out]
            exact ⟨HI4.out.1, HT.out.trans HI4.out.2⟩
          · rw [HS.out, hst, failS_stuck HNE.out]
            exact HNE.out
    · obtain rfl : n = k := by omega
      generalize rdUn (next : Int) n s2 = q at HR hln HS
      obtain ⟨sq, lq⟩ := q
      simp only at HR hln HS
      generalize lastId 0 lq = last at HR
      have HI := Lib.hid HR.out.1.inst
      have HT := Lib.hid HR.out.1.tch
      have HROW := Lib.hid HR.out.1.row
      have HLN := Lib.hid hln
      clear HR hln HM
      by_cases hn0 : next = 0
      · subst hn0
        have HS1 := Lib.hid (show res.1 = failS sq 4 by rw [HS.out]; rfl)
        have HF := Lib.hid (fail_any b sq.1 sq.2 4 wr (by decide) HI.out)
        rw [show (sq.1, sq.2) = sq from rfl] at HF
        have hne : (failS sq 4).2 ≠ 0 := fun h => by have := (failS_zero h).2; omega
        generalize failS sq 4 = s4 at HF HS1 hne
        obtain ⟨l4, e4⟩ := s4
        simp only at hne
        have heb : ((e4 : Int) != 0) = true := by simp; omega
        have HNE := Lib.hid hne
        clear hne
        go_wp2_with fail
        refine HF.out.mono ?_
        rintro r w5 ⟨rfl, hi5⟩
        have HI5 := Lib.hid hi5
        have HER := Lib.hid (err_any b l4 e4 w5 hi5.1)
        clear hi5
        go_wp2_with fail
        refine HER.out.mono ?_
        rintro r w6 ⟨rfl, rfl⟩
        go_wp2
        rw [← HPost.out]
        exact ⟨by rw [HS1.out]; exact ⟨HI5.out.1, HT.out.trans HI5.out.2⟩, .inr ⟨by rw [HS1.out]; exact HNE.out, rfl⟩⟩
      · have HS1 := Lib.hid (show res.1 = sq by rw [HS.out, if_neg hn0]; simp [failS])
        have HS2 := Lib.hid (show res.2 = (lq, (next : Int) - 1) by rw [HS.out])
        have hnb : ((next : Int) == 0) = false := by simp; omega
        have hwr : IntKind.i64.wrap ((next : Int) - 1) = (next : Int) - 1 := by rw [IntKind.wrap_i64]; omega
        have HTK := Lib.hid HTOK.out
        clear hn0 HS
        obtain ⟨l3, e3⟩ := sq
        have HER := Lib.hid (err_any b l3 e3 wr HI.out)
        by_cases he : e3 = 0
        · subst he
          go_wp2_with fail
          refine HER.out.mono ?_
          rintro r w6 ⟨rfl, rfl⟩
          go_wp2
          rw [← HPost.out]
          refine ⟨by rw [HS1.out]; exact ⟨HI.out.alloc _, HT.out.alloc _⟩, .inl ⟨by rw [HS1.out], _, rfl, ?_⟩⟩
          have htok := HTK.out (by rw [HS1.out])
          rw [HS2.out] at htok ⊢
          have hrl := HROW.out.lt
          have hr2 := HROW.out.2
          have hsz := HT.out.size
          have hrow := HROW.out.touch (S := fun _ => False) (touch_of_below (bel_alloc (Below.refl _ wr) (.cells #[.slice a n c, .int .i64 ((next : Int) - 1)] 112))) (fun j _ => id)
          have hr := hrow.1
          rw [unsI_len] at hr
          refine ⟨⟨a, c, ⟨by rw [HLN.out]; exact new_cell rfl rfl, new_cell rfl rfl, frozen_new _ _ _ _, frozen_new _ _ _ _, hr, fun x hx => ?_⟩, ?_, fun x hx => ?_⟩, fun k hk => ?_, htok⟩
          · have := hrl x hx; omega
          · omega
          · have := hr2 x hx; omega
          · simp; omega
        · have heb : ((e3 : Int) != 0) = true := by simp; omega
          have HNE := Lib.hid he
          clear he
          go_wp2_with fail
          refine HER.out.mono ?_
          rintro r w6 ⟨rfl, rfl⟩
          go_wp2
          rw [← HPost.out]
          exact ⟨by rw [HS1.out]; exact ⟨HI.out, HT.out⟩, .inr ⟨by rw [HS1.out]; exact HNE.out, rfl⟩⟩
end Go.Proofs.Ytdkokfpbmmjfkaa
