/-
  The calls of a reader of bytes: what each comes to, as plain functions of what is left and of the error.
-/
import Derived.Test.YtpilkaggiajjmaaWireIn
import Derived.Test.YtpilkaggiajjmaaTouch
import Derived.Laws.DeepNot64
namespace Go.Proofs.Ytpilkaggiajjmaa
open Go.RowKit
set_option linter.unusedVariables false

/-- A reader lies at block b: these bytes are left, this is the error; behind an error nothing is left. -/
def InSt (w : World) (b : Nat) (st : List UInt8 × Nat) : Prop :=
  w.cell? ⟨b, 0, none⟩ = some (.string (bs st.1)) ∧ w.cell? ⟨b, 1, none⟩ = some (.int .i64 (st.2 : Nat)) ∧ w.frozen? ⟨b, 0, none⟩ = false ∧ w.frozen? ⟨b, 1, none⟩ = false ∧
    st.1.length ≤ 1000000000 ∧ (st.2 ≠ 0 → st.1 = []) ∧ st.2 ≤ 1000
theorem InSt.lt {w : World} {b : Nat} {st : List UInt8 × Nat} (h : InSt w b st) : b < w.heap.size := block_lt_of_cell h.1
theorem InSt.touch {S : Nat → Prop} {w w' : World} {b : Nat} {st : List UInt8 × Nat} (h : InSt w b st) (ht : Touch S w w') (hs : ¬ S b) : InSt w' b st :=
  ⟨(ht.cell (p := ⟨b, 0, none⟩) h.lt hs).trans h.1, (ht.cell (p := ⟨b, 1, none⟩) h.lt hs).trans h.2.1, (ht.frozen (p := ⟨b, 0, none⟩) h.lt hs).trans h.2.2.1, (ht.frozen (p := ⟨b, 1, none⟩) h.lt hs).trans h.2.2.2.1, h.2.2.2.2⟩
theorem InSt.below {w w' : World} {b : Nat} {st : List UInt8 × Nat} (h : InSt w b st) (ht : Below w.heap.size w w') : InSt w' b st :=
  h.touch (touch_of_below (S := fun _ => False) ht) id
/-- What a call of a reader leaves. -/
def InTo (w : World) (b : Nat) (st : List UInt8 × Nat) (w' : World) : Prop := InSt w' b st ∧ Touch (fun k => k = b) w w'
theorem inSt_left {w : World} {b : Nat} {l : List UInt8} {e : Nat} (h : InSt w b (l, e)) (l' : List UInt8) (hl : l'.length ≤ 1000000000) (he : e ≠ 0 → l' = []) : InSt (w.setCell ⟨b, 0, none⟩ (.string (bs l'))) b (l', e) := by
  obtain ⟨h0, h1, h2, h3, h4, h5, h6⟩ := h
  exact ⟨World.cell?_setCell_same _ _ _ h0, (World.cell?_setCell_other _ _ _ _ (by simp)).trans h1, by simpa using h2, by simpa using h3, hl, he, h6⟩
theorem inSt_fail {w : World} {b : Nat} {l : List UInt8} {e : Nat} (h : InSt w b (l, e)) (x : Nat) (hx : x ≤ 1000) : InSt ((w.setCell ⟨b, 1, none⟩ (.int .i64 (x : Nat))).setCell ⟨b, 0, none⟩ (.string (bs []))) b ([], x) := by
  obtain ⟨h0, h1, h2, h3, h4, h5, h6⟩ := h
  refine ⟨World.cell?_setCell_same _ _ _ ((World.cell?_setCell_other _ _ _ _ (by simp)).trans h0), (World.cell?_setCell_other _ _ _ _ (by simp)).trans (World.cell?_setCell_same _ _ _ h1), by simpa using h2, by simpa using h3, by simp, fun _ => rfl, hx⟩

def failS (st : List UInt8 × Nat) (x : Nat) : List UInt8 × Nat := if st.2 = 0 ∧ x ≠ 0 then ([], x) else st
theorem failS_ok (st : List UInt8 × Nat) (x : Nat) (h : st.2 ≠ 0 → st.1 = []) : (failS st x).2 ≠ 0 → (failS st x).1 = [] := by
  unfold failS; split
  · intro _; rfl
  · exact h
theorem fail_any (b : Nat) (l : List UInt8) (e x : Nat) (w : World) (hx : x ≤ 1000) (h : InSt w b (l, e)) :
    Calls Try.prog 114 #[.pointer (some ⟨b, 0, none⟩), .int .i64 x] w fun r w' => r = .returned (.tuple #[]) ∧ InTo w b (failS (l, e) x) w' := by
  have HI := Lib.hid h
  obtain ⟨h0, h1, h2, h3, -⟩ := h
  by_cases he : e = 0
  · subst he
    by_cases hx0 : x = 0
    · subst hx0
      go_enter Try.func114, Try.ntmps114
      go_wp2
      go_end0
      exact ⟨rfl, HI.out, Touch.refl _ _⟩
    · have hxb : ((x : Int) != 0) = true := by simp; omega
      have HX := Lib.hid hx0
      clear hx0
      go_enter Try.func114, Try.ntmps114
      go_wp2
      go_end0
      exact ⟨rfl, by rw [failS, if_pos ⟨rfl, HX.out⟩]; exact inSt_fail HI.out x hx, ((Touch.refl (fun k => k = b) w).setCell (p := ⟨b, 1, none⟩) (fun _ => rfl) _).setCell (p := ⟨b, 0, none⟩) (fun _ => rfl) _⟩
  · have heb : ((e : Int) == 0) = false := by simp; omega
    have HE := Lib.hid he
    clear he
    go_enter Try.func114, Try.ntmps114
    go_wp2
    go_end0
    exact ⟨rfl, by rw [failS, if_neg (fun h => HE.out h.1)]; exact HI.out, Touch.refl _ _⟩
theorem open_any (s : ByteArray) (w : World) (hs : s.size ≤ 1000000000) :
    Calls Try.prog 96 #[.string s] w fun r w' => r = .returned (.pointer (some ⟨w.heap.size, 0, none⟩)) ∧ InSt w' w.heap.size (s.data.toList, 0) ∧ Below w.heap.size w w' := by
  go_enter Try.func96, Try.ntmps96
  go_wp2
  go_ret
  refine ⟨rfl, ⟨?_, ?_, ?_, ?_, by simpa using hs, by simp, by simp⟩, (Below.refl _ _).alloc (Nat.le_refl _) _⟩
  · rw [bs_eta]; simp
  · simp
  · simp [World.frozen?, World.alloc, -World.alloc_eq]
  · simp [World.frozen?, World.alloc, -World.alloc_eq]
def endS (st : List UInt8 × Nat) : List UInt8 × Nat := if 0 < st.1.length then failS st 2 else st
theorem end_any (b : Nat) (l : List UInt8) (e : Nat) (w : World) (h : InSt w b (l, e)) :
    Calls Try.prog 100 #[.pointer (some ⟨b, 0, none⟩)] w fun r w' => r = .returned (.int .i64 ((endS (l, e)).2 : Nat)) ∧ InTo w b (endS (l, e)) w' := by
  have HI := Lib.hid h
  obtain ⟨h0, h1, h2, h3, -⟩ := h
  have hz := bs_size l
  by_cases hl : 0 < l.length
  · have HL := Lib.hid hl
    go_enter Try.func100, Try.ntmps100
    go_wp2_with fail
    refine (fail_any b l e 2 _ (by decide) HI.out).mono ?_
    rintro r w1 ⟨rfl, hi, ht⟩
    have HI1 := Lib.hid hi
    have hc := hi.2.1
    have HT := Lib.hid ht
    clear hi ht
    go_wp2
    go_ret
    exact ⟨by rw [endS, if_pos HL.out]; rfl, by rw [endS, if_pos HL.out]; exact ⟨HI1.out, HT.out⟩⟩
  · have HL := Lib.hid hl
    go_enter Try.func100, Try.ntmps100
    go_wp2
    go_ret
    exact ⟨by rw [endS, if_neg HL.out]; rfl, by rw [endS, if_neg HL.out]; exact ⟨HI.out, Touch.refl _ _⟩⟩
def rawS (st : List UInt8 × Nat) (n : Int) : (List UInt8 × Nat) × List UInt8 :=
  if st.1.length < n.toNat then (failS st 1, []) else ((st.1.drop n.toNat, st.2), st.1.take n.toNat)
theorem raw_any (b : Nat) (l : List UInt8) (e : Nat) (n : Int) (w : World) (hn : n ≤ 9223372036854775807) (hn' : -9223372036854775808 ≤ n) (h : InSt w b (l, e)) :
    Calls Try.prog 115 #[.pointer (some ⟨b, 0, none⟩), .int .i64 n] w fun r w' => r = .returned (.string (bs (rawS (l, e) n).2)) ∧ InTo w b (rawS (l, e) n).1 w' := by
  have HI := Lib.hid h
  obtain ⟨h0, h1, h2, h3, h4, h5, -⟩ := h
  have hz := bs_size l
  by_cases hl : l.length < n.toNat
  · have HR := Lib.hid (show rawS (l, e) n = (failS (l, e) 1, []) from if_pos hl)
    have hl' : (l.length : Int) < n := by omega
    have hm : max n 0 = n := by omega
    clear hl
    go_enter Try.func115, Try.ntmps115
    go_wp2_with fail
    refine (fail_any b l e 1 _ (by decide) HI.out).mono ?_
    rintro r w1 ⟨rfl, hi⟩
    have HI1 := Lib.hid hi
    clear hi
    go_wp2
    go_ret
    exact ⟨by rw [HR.out]; rfl, by rw [HR.out]; exact HI1.out⟩
  · have HR := Lib.hid (show rawS (l, e) n = ((l.drop n.toNat, e), l.take n.toNat) from if_neg hl)
    by_cases hneg : n < 0
    · have hm2 : n.toNat = 0 := by omega
      rw [hm2] at HR
      have HY := Lib.hid (extract_drop (bs l) 0)
      rw [bs_list, hz] at HY
      clear hl hm2
      go_enter Try.func115, Try.ntmps115
      go_wp2
      go_ret
      refine ⟨?_, ?_⟩
      · rw [HR.out]; rfl
      · rw [HR.out]
        refine ⟨?_, (Touch.refl (fun k => k = b) w).setCell (p := ⟨b, 0, none⟩) (fun _ => rfl) _⟩
        rw [HY.out]
        exact inSt_left HI.out _ (by simp; omega) (fun he => by rw [h5 he]; simp)
    · obtain ⟨m, rfl⟩ := Int.eq_ofNat_of_zero_le (show 0 ≤ n by omega)
      rw [Int.toNat_natCast] at hl HR
      have hml : m ≤ l.length := by omega
      have HX := Lib.hid (extract_take (bs l) m)
      have HY := Lib.hid (extract_drop (bs l) m)
      rw [bs_list] at HX HY
      rw [hz] at HY
      clear hl
      go_enter Try.func115, Try.ntmps115
      go_wp2
      go_ret
      refine ⟨?_, ?_⟩
      · rw [HR.out, ← HX.out]; rfl
      · rw [HR.out]
        refine ⟨?_, (Touch.refl (fun k => k = b) w).setCell (p := ⟨b, 0, none⟩) (fun _ => rfl) _⟩
        rw [HY.out]
        exact inSt_left HI.out _ (by simp; omega) (fun he => by rw [h5 he]; simp)
theorem number_bs (l : List UInt8) (w : World) (hs : l.length ≤ 1000000000) :
    Calls Try.prog 122 #[.string (bs l)] w fun e w' => e = .returned (.tuple #[.int .u64 ((numT l).1 : Nat), .int .i64 ((numT l).2.1 : Nat), .int .i64 ((numT l).2.2 : Nat)]) ∧ w = w' := by
  have h := number_any (bs l) w (by rw [bs_size]; unfold maxLen; omega)
  rwa [bs_list] at h
def numS (st : List UInt8 × Nat) : (List UInt8 × Nat) × Nat :=
  if (numT st.1).2.2 ≠ 0 then (failS st (numT st.1).2.2, 0) else ((st.1.drop (numT st.1).2.1, st.2), (numT st.1).1)
theorem inNum_any (b : Nat) (l : List UInt8) (e : Nat) (w : World) (h : InSt w b (l, e)) :
    Calls Try.prog 113 #[.pointer (some ⟨b, 0, none⟩)] w fun r w' => r = .returned (.int .u64 ((numS (l, e)).2 : Nat)) ∧ InTo w b (numS (l, e)).1 w' := by
  have HI := Lib.hid h
  obtain ⟨h0, h1, h2, h3, h4, h5, -⟩ := h
  have hz := bs_size l
  have hN := number_bs l w h4
  have hS : numS (l, e) = if (numT l).2.2 ≠ 0 then (failS (l, e) (numT l).2.2, 0) else ((l.drop (numT l).2.1, e), (numT l).1) := rfl
  have herr := numT_err l
  have hsz := numT_size l
  generalize numT l = t at hN hS herr hsz
  obtain ⟨n, sz, er⟩ := t
  have HS := Lib.hid hS
  simp only at hN herr hsz
  have HN := Lib.hid hN
  clear hN hS
  by_cases he : er = 0
  · subst he
    have hsz' := hsz rfl
    have HR := Lib.hid (show numS (l, e) = ((l.drop sz, e), n) by rw [HS.out]; simp)
    have HY := Lib.hid (extract_drop (bs l) sz)
    rw [bs_list, hz] at HY
    clear hsz herr
    go_enter Try.func113, Try.ntmps113
    go_wp2_with fail
    refine HN.out.mono ?_
    rintro r w1 ⟨rfl, rfl⟩
    go_wp2
    go_ret
    refine ⟨by rw [HR.out]; rfl, ?_⟩
    rw [HR.out]
    refine ⟨?_, (Touch.refl (fun k => k = b) w).setCell (p := ⟨b, 0, none⟩) (fun _ => rfl) _⟩
    rw [HY.out]
    exact inSt_left HI.out _ (by simp; omega) (fun he => by rw [h5 he]; simp)
  · have heb : ((er : Int) != 0) = true := by simp; omega
    have HR := Lib.hid (show numS (l, e) = (failS (l, e) er, 0) by rw [HS.out, if_pos he])
    clear hsz he
    go_enter Try.func113, Try.ntmps113
    go_wp2_with fail
    refine HN.out.mono ?_
    rintro r w1 ⟨rfl, rfl⟩
    go_wp2_with fail
    refine (fail_any b l e er _ (by omega) HI.out).mono ?_
    rintro r w1 ⟨rfl, hi⟩
    have HI1 := Lib.hid hi
    clear hi
    go_wp2
    go_ret
    exact ⟨by rw [HR.out]; rfl, by rw [HR.out]; exact HI1.out⟩
theorem numS_lt (st : List UInt8 × Nat) : (numS st).2 < 18446744073709551616 := by
  unfold numS; split
  · exact Nat.zero_lt_succ _
  · exact numT_lt _
def countS (st : List UInt8 × Nat) (most : Int) : (List UInt8 × Nat) × Nat :=
  if max most 0 < ((numS st).2 : Int) then (failS (numS st).1 3, 0) else numS st
theorem count_any (b : Nat) (l : List UInt8) (e : Nat) (most : Int) (w : World) (hn : most ≤ 9223372036854775807) (hn' : -9223372036854775808 ≤ most) (h : InSt w b (l, e)) :
    Calls Try.prog 98 #[.pointer (some ⟨b, 0, none⟩), .int .i64 most] w fun r w' => r = .returned (.int .i64 ((countS (l, e) most).2 : Nat)) ∧ InTo w b (countS (l, e) most).1 w' := by
  have hN := inNum_any b l e w h
  have hS : countS (l, e) most = if max most 0 < ((numS (l, e)).2 : Int) then (failS (numS (l, e)).1 3, 0) else numS (l, e) := rfl
  have hlt := numS_lt (l, e)
  generalize numS (l, e) = t at hN hS hlt
  obtain ⟨⟨l1, e1⟩, n⟩ := t
  have HS := Lib.hid hS
  have HN := Lib.hid hN
  simp only at hlt
  clear hN hS h
  go_enter Try.func98, Try.ntmps98
  go_wp2_with fail
  refine HN.out.mono ?_
  rintro r w1 ⟨rfl, hi⟩
  have HI1 := Lib.hid hi
  clear hi HN
  simp only
  by_cases hneg : most < 0
  · by_cases hbig : 0 < n
    · have HR := Lib.hid (show countS (l, e) most = (failS (l1, e1) 3, 0) by rw [HS.out, if_pos (by omega)])
      go_wp2_with fail
      refine (fail_any b l1 e1 3 _ (by decide) HI1.out.1).mono ?_
      rintro r w2 ⟨rfl, hi⟩
      have HI2 := Lib.hid hi
      clear hi
      go_wp2
      go_ret
      exact ⟨by rw [HR.out]; rfl, by rw [HR.out]; exact ⟨HI2.out.1, HI1.out.2.trans HI2.out.2⟩⟩
    · have HR := Lib.hid (show countS (l, e) most = ((l1, e1), n) by rw [HS.out, if_neg (by omega)])
      go_wp2
      go_ret
      exact ⟨by rw [HR.out]; rfl, by rw [HR.out]; exact HI1.out⟩
  · obtain ⟨m, rfl⟩ := Int.eq_ofNat_of_zero_le (show 0 ≤ most by omega)
    have hm : m ≤ 9223372036854775807 := by omega
    by_cases hbig : m < n
    · have HR := Lib.hid (show countS (l, e) m = (failS (l1, e1) 3, 0) by rw [HS.out, if_pos (by omega)])
      go_wp2_with fail
      refine (fail_any b l1 e1 3 _ (by decide) HI1.out.1).mono ?_
      rintro r w2 ⟨rfl, hi⟩
      have HI2 := Lib.hid hi
      clear hi
      go_wp2
      go_ret
      exact ⟨by rw [HR.out]; rfl, by rw [HR.out]; exact ⟨HI2.out.1, HI1.out.2.trans HI2.out.2⟩⟩
    · have HR := Lib.hid (show countS (l, e) m = ((l1, e1), n) by rw [HS.out, if_neg (by omega)])
      go_wp2
      go_ret
      exact ⟨by rw [HR.out]; rfl, by rw [HR.out]; exact HI1.out⟩
def unzig (n : Nat) : Int := if n % 2 = 1 then -1 - ((n / 2 : Nat) : Int) else ((n / 2 : Nat) : Int)
def strS (st : List UInt8 × Nat) (most : Int) : (List UInt8 × Nat) × List UInt8 := rawS (countS st most).1 ((countS st most).2 : Int)
theorem countS_lt (st : List UInt8 × Nat) (most : Int) (h : most ≤ 9223372036854775807) : (countS st most).2 ≤ 9223372036854775807 := by
  unfold countS; split
  · exact Nat.zero_le _
  · omega
theorem inStr_any (b : Nat) (l : List UInt8) (e : Nat) (most : Int) (w : World) (hn : most ≤ 9223372036854775807) (hn' : -9223372036854775808 ≤ most) (h : InSt w b (l, e)) :
    Calls Try.prog 99 #[.pointer (some ⟨b, 0, none⟩), .int .i64 most] w fun r w' => r = .returned (.string (bs (strS (l, e) most).2)) ∧ InTo w b (strS (l, e) most).1 w' := by
  have hN := count_any b l e most w hn hn' h
  have hS : strS (l, e) most = rawS (countS (l, e) most).1 ((countS (l, e) most).2 : Int) := rfl
  have hlt := countS_lt (l, e) most hn
  generalize countS (l, e) most = t at hN hS hlt
  obtain ⟨⟨l1, e1⟩, n⟩ := t
  have HS := Lib.hid hS
  have HN := Lib.hid hN
  simp only at hlt
  clear hN hS h
  go_enter Try.func99, Try.ntmps99
  go_wp2_with fail
  refine HN.out.mono ?_
  rintro r w1 ⟨rfl, hi⟩
  have HI1 := Lib.hid hi
  clear hi HN
  simp only
  go_wp2_with fail
  refine (raw_any b l1 e1 n _ (by omega) (by omega) HI1.out.1).mono ?_
  rintro r w2 ⟨rfl, hi⟩
  have HI2 := Lib.hid hi
  clear hi
  go_wp2
  go_ret
  exact ⟨by rw [HS.out]; rfl, by rw [HS.out]; exact ⟨HI2.out.1, HI1.out.2.trans HI2.out.2⟩⟩
end Go.Proofs.Ytpilkaggiajjmaa
