/-
  Layer 11: a piece out of bytes.
-/
import Derived.Test.YtdkokfpbmmjfkaaChunk6
import Derived.Test.YtdkokfpbmmjfkaaChunk4
namespace Go.Proofs.Ytdkokfpbmmjfkaa
open Go.RowKit
set_option linter.unusedVariables false

def zeroPc : Pc := ⟨0, 0, 0, 0, []⟩
/-- What is answered: the piece, or, beside an error, none. -/
def pcOr (t : St × Pc) : Pc := if t.1.2 = 0 then t.2 else zeroPc
theorem stxS_len (st : St) : (stxS 100 st).2.length ≤ 1000000 := by
  show (rawS (countS st 100).1 ((countS st 100).2 : Int)).2.length ≤ 1000000
  have h := countS_le st 100
  have h' : (countS st 100).2 ≤ 100 := h
  unfold rawS
  split
  · simp
  · simp only [List.length_take]; omega
/-- A piece's box: its cells. -/
structure PBox (X : Nat) (v0 v1 v2 v3 v4 : Value) (w : World) : Prop where
  c0 : w.cell? ⟨X, 0, none⟩ = some v0
  c1 : w.cell? ⟨X, 1, none⟩ = some v1
  c2 : w.cell? ⟨X, 2, none⟩ = some v2
  c3 : w.cell? ⟨X, 3, none⟩ = some v3
  c4 : w.cell? ⟨X, 4, none⟩ = some v4
  f : ∀ j, w.frozen? ⟨X, j, none⟩ = false
theorem PBox.lt {X : Nat} {v0 v1 v2 v3 v4 : Value} {w : World} (h : PBox X v0 v1 v2 v3 v4 w) : X < w.heap.size := block_lt_of_cell h.c0
theorem PBox.touch {S : Nat → Prop} {X : Nat} {v0 v1 v2 v3 v4 : Value} {w w' : World} (h : PBox X v0 v1 v2 v3 v4 w) (ht : Touch S w w') (hs : ¬ S X) : PBox X v0 v1 v2 v3 v4 w' :=
  ⟨(ht.cell (p := ⟨X, 0, none⟩) h.lt hs).trans h.c0, (ht.cell (p := ⟨X, 1, none⟩) h.lt hs).trans h.c1, (ht.cell (p := ⟨X, 2, none⟩) h.lt hs).trans h.c2, (ht.cell (p := ⟨X, 3, none⟩) h.lt hs).trans h.c3, (ht.cell (p := ⟨X, 4, none⟩) h.lt hs).trans h.c4, fun j => (ht.frozen (p := ⟨X, j, none⟩) h.lt hs).trans (h.f j)⟩
theorem PBox.new (W : World) (X : Nat) (hX : W.heap.size = X) (v0 v1 v2 v3 v4 : Value) (t : TypeId) : PBox X v0 v1 v2 v3 v4 (W.alloc (.cells #[v0, v1, v2, v3, v4] t)) := by
  subst hX
  exact ⟨by simp, by simp, by simp, by simp, by simp, fun j => frozen_new _ _ _ _⟩
theorem PBox.set0 {X : Nat} {v0 v1 v2 v3 v4 : Value} {w : World} (h : PBox X v0 v1 v2 v3 v4 w) (x y : Value) : PBox X x y v2 v3 v4 ((w.setCell ⟨X, 0, none⟩ x).setCell ⟨X, 1, none⟩ y) :=
  ⟨(World.cell?_setCell_other _ _ _ _ (by simp)).trans (World.cell?_setCell_same _ _ _ h.c0), World.cell?_setCell_same _ _ _ ((World.cell?_setCell_other _ _ _ _ (by simp)).trans h.c1),
    (World.cell?_setCell_other _ _ _ _ (by simp)).trans ((World.cell?_setCell_other _ _ _ _ (by simp)).trans h.c2), (World.cell?_setCell_other _ _ _ _ (by simp)).trans ((World.cell?_setCell_other _ _ _ _ (by simp)).trans h.c3), (World.cell?_setCell_other _ _ _ _ (by simp)).trans ((World.cell?_setCell_other _ _ _ _ (by simp)).trans h.c4), fun j => by simpa using h.f j⟩
theorem PBox.set2 {X : Nat} {v0 v1 v2 v3 v4 : Value} {w : World} (h : PBox X v0 v1 v2 v3 v4 w) (x : Value) : PBox X v0 v1 x v3 v4 (w.setCell ⟨X, 2, none⟩ x) :=
  ⟨(World.cell?_setCell_other _ _ _ _ (by simp)).trans h.c0, (World.cell?_setCell_other _ _ _ _ (by simp)).trans h.c1, World.cell?_setCell_same _ _ _ h.c2, (World.cell?_setCell_other _ _ _ _ (by simp)).trans h.c3, (World.cell?_setCell_other _ _ _ _ (by simp)).trans h.c4, fun j => by simpa using h.f j⟩
theorem PBox.set3 {X : Nat} {v0 v1 v2 v3 v4 : Value} {w : World} (h : PBox X v0 v1 v2 v3 v4 w) (x : Value) : PBox X v0 v1 v2 x v4 (w.setCell ⟨X, 3, none⟩ x) :=
  ⟨(World.cell?_setCell_other _ _ _ _ (by simp)).trans h.c0, (World.cell?_setCell_other _ _ _ _ (by simp)).trans h.c1, (World.cell?_setCell_other _ _ _ _ (by simp)).trans h.c2, World.cell?_setCell_same _ _ _ h.c3, (World.cell?_setCell_other _ _ _ _ (by simp)).trans h.c4, fun j => by simpa using h.f j⟩
theorem PBox.set4 {X : Nat} {v0 v1 v2 v3 v4 : Value} {w : World} (h : PBox X v0 v1 v2 v3 v4 w) (x : Value) : PBox X v0 v1 v2 v3 x (w.setCell ⟨X, 4, none⟩ x) :=
  ⟨(World.cell?_setCell_other _ _ _ _ (by simp)).trans h.c0, (World.cell?_setCell_other _ _ _ _ (by simp)).trans h.c1, (World.cell?_setCell_other _ _ _ _ (by simp)).trans h.c2, (World.cell?_setCell_other _ _ _ _ (by simp)).trans h.c3, World.cell?_setCell_same _ _ _ h.c4, fun j => by simpa using h.f j⟩
/-- The reader at b, the answer's box, the piece's box behind it. -/
structure PrMem (w : World) (b : Nat) (st : St) (v0 v1 v2 v3 v4 : Value) (wr : World) : Prop where
  inst : InSt wr b st
  rb : PBox w.heap.size (.int .i64 0) (.int .i64 0) (.int .u64 0) (.int .i64 0) (.string ⟨#[]⟩) wr
  pb : PBox (w.heap.size + 1) v0 v1 v2 v3 v4 wr
  tch : Touch (fun k => k = b) w wr
theorem PrMem.read {w : World} {b : Nat} {st st' : St} {v0 v1 v2 v3 v4 : Value} {wr w' : World} (h : PrMem w b st v0 v1 v2 v3 v4 wr) (hb : b < w.heap.size) (hi : InTo wr b st' w') : PrMem w b st' v0 v1 v2 v3 v4 w' :=
  ⟨hi.1, h.rb.touch hi.2 (by show ¬ w.heap.size = b; omega), h.pb.touch hi.2 (by show ¬ w.heap.size + 1 = b; omega), h.tch.trans hi.2⟩
theorem PrMem.keep {w : World} {b : Nat} {st : St} {v0 v1 v2 v3 v4 : Value} {wr w' : World} (h : PrMem w b st v0 v1 v2 v3 v4 wr) (hb : Below wr.heap.size wr w') : PrMem w b st v0 v1 v2 v3 v4 w' :=
  ⟨h.inst.below hb, h.rb.touch (touch_of_below (S := fun _ => False) hb) id, h.pb.touch (touch_of_below (S := fun _ => False) hb) id, h.tch.trans (touch_of_below hb)⟩
theorem PrMem.put {w : World} {b : Nat} {st : St} {v0 v1 v2 v3 v4 u0 u1 u2 u3 u4 : Value} {wr w' : World} (h : PrMem w b st v0 v1 v2 v3 v4 wr) (hb : b < w.heap.size) (ht : Touch (fun k => k = w.heap.size + 1) wr w') (hp : PBox (w.heap.size + 1) u0 u1 u2 u3 u4 w') : PrMem w b st u0 u1 u2 u3 u4 w' :=
  ⟨h.inst.touch ht (by show ¬ b = w.heap.size + 1; omega), h.rb.touch ht (by show ¬ w.heap.size = w.heap.size + 1; omega), hp, h.tch.trans' ht (fun j hj e => by omega)⟩
theorem PrMem.fin {w : World} {b : Nat} {st : St} {v0 v1 v2 v3 v4 : Value} {wr : World} (h : PrMem w b st v0 v1 v2 v3 v4 wr) (hb : b < w.heap.size) (u0 u1 u2 u3 u4 : Value) : InTo w b st (set5 wr w.heap.size u0 u1 u2 u3 u4) := by
  have hs := set5_touch wr w.heap.size u0 u1 u2 u3 u4
  exact ⟨h.inst.touch hs (by show ¬ b = w.heap.size; omega), h.tch.trans' hs (fun j hj e => by omega)⟩
set_option maxRecDepth 100000 in
set_option maxHeartbeats 2000000 in
theorem pcRead_any (b : Nat) (st : St) (w : World) (h : InSt w b st) : Calls Try.prog 44 #[.pointer (some ⟨b, 0, none⟩)] w fun r w' => r = .returned (pcV (pcOr (pieceS st))) ∧ InTo w b (pieceS st).1 w' := by
  have hb := h.lt
  have hS := pcG_eq (cntS 1099511627776) (cntS 65536) numS (cntS 65536) (stxS 100) st
  rw [← show pieceS st = pcG (cntS 1099511627776) (cntS 65536) numS (cntS 65536) (stxS 100) st from rfl] at hS
  have hC1 := fun W (hh : InSt W b st) => count_any b st.1 st.2 1099511627776 W (by decide) (by decide) hh
  rw [show countS (st.1, st.2) 1099511627776 = cntS 1099511627776 st from rfl] at hC1
  have hl1 := (cntR 1099511627776 (by decide)).le st
  generalize pieceS st = res at hS
  generalize cntS 1099511627776 st = t1 at hC1 hS hl1
  obtain ⟨s1, n1⟩ := t1
  simp only at hS hl1
  have hC2 := fun W (hh : InSt W b s1) => count_any b s1.1 s1.2 65536 W (by decide) (by decide) hh
  rw [show countS (s1.1, s1.2) 65536 = cntS 65536 s1 from rfl] at hC2
  have hl2 := (cntR 65536 (by decide)).le s1
  generalize cntS 65536 s1 = t2 at hC2 hS hl2
  obtain ⟨s2, n2⟩ := t2
  simp only at hS hl2
  have hC3 := fun W (hh : InSt W b s2) => inNum_any b s2.1 s2.2 W hh
  rw [show (s2.1, s2.2) = s2 from rfl] at hC3
  generalize numS s2 = t3 at hC3 hS
  obtain ⟨s3, n3⟩ := t3
  simp only at hS
  have hC4 := fun W (hh : InSt W b s3) => count_any b s3.1 s3.2 65536 W (by decide) (by decide) hh
  rw [show countS (s3.1, s3.2) 65536 = cntS 65536 s3 from rfl] at hC4
  have hl4 := (cntR 65536 (by decide)).le s3
  generalize cntS 65536 s3 = t4 at hC4 hS hl4
  obtain ⟨s4, n4⟩ := t4
  simp only at hS hl4
  have hC5 := fun W (hh : InSt W b s4) => inStr_any b s4.1 s4.2 100 W (by decide) (by decide) hh
  rw [show strS (s4.1, s4.2) 100 = stxS 100 s4 from rfl] at hC5
  have hl5 : (stxS 100 s4).2.length ≤ 1000000 := stxS_len s4
  generalize stxS 100 s4 = t5 at hC5 hS hl5
  obtain ⟨s5, tx⟩ := t5
  simp only at hS hl5
  have HC1 := Lib.hid hC1
  have HC2 := Lib.hid hC2
  have HC3 := Lib.hid hC3
  have HC4 := Lib.hid hC4
  have HC5 := Lib.hid hC5
  have HS := Lib.hid hS
  have HI := Lib.hid h
  clear hC1 hC2 hC3 hC4 hC5 hS h
  go_enter Try.func44, Try.ntmps44
  have HM0 : Hid (PrMem w b st (.int .i64 0) (.int .i64 0) (.int .u64 0) (.int .i64 0) (.string ⟨#[]⟩) ((w.alloc (.cells #[.int .i64 0, .int .i64 0, .int .u64 0, .int .i64 0, .string ⟨#[]⟩] 64)).alloc (.cells #[.int .i64 0, .int .i64 0, .int .u64 0, .int .i64 0, .string ⟨#[]⟩] 64))) := by
    have hz1 : (w.alloc (.cells #[.int .i64 0, .int .i64 0, .int .u64 0, .int .i64 0, .string ⟨#[]⟩] 64)).heap.size = w.heap.size + 1 := by simp
    have hp1 := PBox.new w _ rfl (.int .i64 0) (.int .i64 0) (.int .u64 0) (.int .i64 0) (.string ⟨#[]⟩) 64
    have hb1 : Below w.heap.size w (w.alloc (.cells #[.int .i64 0, .int .i64 0, .int .u64 0, .int .i64 0, .string ⟨#[]⟩] 64)) := bel_alloc (Below.refl _ _) _
    have hi1 := HI.out.alloc (.cells #[.int .i64 0, .int .i64 0, .int .u64 0, .int .i64 0, .string ⟨#[]⟩] 64)
    generalize w.alloc (.cells #[.int .i64 0, .int .i64 0, .int .u64 0, .int .i64 0, .string ⟨#[]⟩] 64) = W1 at hz1 hp1 hb1 hi1 ⊢
    exact Lib.hid ⟨hi1.alloc _, hp1.touch (touch_of_below (S := fun _ => False) (bel_alloc (Below.refl _ _) _)) id, PBox.new W1 _ hz1 _ _ _ _ _ _, (touch_of_below hb1).alloc _⟩
  go_wp2_with fail
  refine (HC1.out _ HM0.out.inst).mono ?_
  rintro r w1 ⟨rfl, hi1⟩
  have HM1 := Lib.hid (HM0.out.read hb hi1)
  clear hi1 HM0 HC1
  simp only
  go_wp2_with fail
  refine (HC2.out _ HM1.out.inst).mono ?_
  rintro r w2 ⟨rfl, hi2⟩
  have HM2 := Lib.hid (HM1.out.read hb hi2)
  clear hi2 HM1 HC2
  simp only
  have c0 := HM2.out.pb.c0
  have c1 := HM2.out.pb.c1
  have f0 := HM2.out.pb.f 0
  have f1 := HM2.out.pb.f 1
  have hXl := HM2.out.pb.lt
  have HM3 := Lib.hid (HM2.out.put hb (((Touch.refl (fun k => k = w.heap.size + 1) w2).setCell (p := ⟨w.heap.size + 1, 0, none⟩) (fun _ => rfl) _).setCell (p := ⟨w.heap.size + 1, 1, none⟩) (fun _ => rfl) _) (HM2.out.pb.set0 (.int .i64 (n1 : Int)) (.int .i64 (n2 : Int))))
  go_upto_region 3 with (fail)
  generalize (w2.setCell ⟨w.heap.size + 1, 0, none⟩ (.int .i64 (n1 : Int))).setCell ⟨w.heap.size + 1, 1, none⟩ (.int .i64 (n2 : Int)) = W3 at HM3 ⊢
  clear c0 c1 f0 f1 hXl HM2
  go_wp2_with fail
  refine (HC3.out _ HM3.out.inst).mono ?_
  rintro r w4 ⟨rfl, hi4⟩
  have HM4 := Lib.hid (HM3.out.read hb hi4)
  clear hi4 HM3 HC3
  simp only
  have c2 := HM4.out.pb.c2
  have f2 := HM4.out.pb.f 2
  have hXl := HM4.out.pb.lt
  have HM5 := Lib.hid (HM4.out.put hb ((Touch.refl (fun k => k = w.heap.size + 1) w4).setCell (p := ⟨w.heap.size + 1, 2, none⟩) (fun _ => rfl) _) (HM4.out.pb.set2 (.int .u64 (n3 : Int))))
  go_upto_region 4 with (fail)
  generalize w4.setCell ⟨w.heap.size + 1, 2, none⟩ (.int .u64 (n3 : Int)) = W5 at HM5 ⊢
  clear c2 f2 hXl HM4
  go_wp2_with fail
  refine (HC4.out _ HM5.out.inst).mono ?_
  rintro r w6 ⟨rfl, hi6⟩
  have HM6 := Lib.hid (HM5.out.read hb hi6)
  clear hi6 HM5 HC4
  simp only
  have c3 := HM6.out.pb.c3
  have f3 := HM6.out.pb.f 3
  have hXl := HM6.out.pb.lt
  have HM7 := Lib.hid (HM6.out.put hb ((Touch.refl (fun k => k = w.heap.size + 1) w6).setCell (p := ⟨w.heap.size + 1, 3, none⟩) (fun _ => rfl) _) (HM6.out.pb.set3 (.int .i64 (n4 : Int))))
  go_upto_region 5 with (fail)
  generalize w6.setCell ⟨w.heap.size + 1, 3, none⟩ (.int .i64 (n4 : Int)) = W7 at HM7 ⊢
  clear c3 f3 hXl HM6
  go_wp2_with fail
  refine (HC5.out _ HM7.out.inst).mono ?_
  rintro r w8 ⟨rfl, hi8⟩
  have HM8 := Lib.hid (HM7.out.read hb hi8)
  clear hi8 HM7 HC5
  simp only
  have c4 := HM8.out.pb.c4
  have f4 := HM8.out.pb.f 4
  have hXl := HM8.out.pb.lt
  have HM9 := Lib.hid (HM8.out.put hb ((Touch.refl (fun k => k = w.heap.size + 1) w8).setCell (p := ⟨w.heap.size + 1, 4, none⟩) (fun _ => rfl) _) (HM8.out.pb.set4 (.string (bs tx))))
  go_upto_region 6 with (fail)
  generalize w8.setCell ⟨w.heap.size + 1, 4, none⟩ (.string (bs tx)) = W9 at HM9 ⊢
  clear c4 f4 hXl HM8
  have c0 := HM9.out.pb.c0
  have c1 := HM9.out.pb.c1
  have c2 := HM9.out.pb.c2
  have c3 := HM9.out.pb.c3
  have c4 := HM9.out.pb.c4
  have hXl := HM9.out.pb.lt
  have HCK := Lib.hid (fun W => pcCheck_any ⟨(n1 : Int), (n2 : Int), n3, (n4 : Int), tx⟩ W hl5)
  have hce := checkP_le ⟨(n1 : Int), (n2 : Int), n3, (n4 : Int), tx⟩
  generalize checkP ⟨(n1 : Int), (n2 : Int), n3, (n4 : Int), tx⟩ = ce at HCK hce HS
  unfold pcV at HCK
  simp only at HCK
  go_wp2_with fail
  refine (HCK.out _).mono ?_
  rintro r w10 ⟨rfl, hb10⟩
  have HM10 := Lib.hid (HM9.out.keep hb10)
  clear hb10 HM9 HCK c0 c1 c2 c3 c4 hXl
  have HF := Lib.hid (fail_any b s5.1 s5.2 ce w10 (by omega) HM10.out.inst)
  rw [show (s5.1, s5.2) = s5 from rfl] at HF
  generalize failS s5 ce = s6 at HF HS
  obtain ⟨l6, e6⟩ := s6
  go_wp2_with fail
  refine HF.out.mono ?_
  rintro r w11 ⟨rfl, hi11⟩
  have HM11 := Lib.hid (HM10.out.read hb hi11)
  clear hi11 HM10 HF
  have HER := Lib.hid (err_any b l6 e6 w11 HM11.out.inst)
  go_wp2_with fail
  refine HER.out.mono ?_
  rintro r w12 ⟨rfl, rfl⟩
  have c0 := HM11.out.pb.c0
  have c1 := HM11.out.pb.c1
  have c2 := HM11.out.pb.c2
  have c3 := HM11.out.pb.c3
  have c4 := HM11.out.pb.c4
  have hXl := HM11.out.pb.lt
  have r0 := HM11.out.rb.c0
  have r1 := HM11.out.rb.c1
  have r2 := HM11.out.rb.c2
  have r3 := HM11.out.rb.c3
  have r4 := HM11.out.rb.c4
  have z0 := HM11.out.rb.f 0
  have z1 := HM11.out.rb.f 1
  have z2 := HM11.out.rb.f 2
  have z3 := HM11.out.rb.f 3
  have z4 := HM11.out.rb.f 4
  have hRl := HM11.out.rb.lt
  have HFN := Lib.hid (fun v0 v1 v2 v3 v4 => HM11.out.fin hb v0 v1 v2 v3 v4)
  unfold set5 at HFN
  clear HM11 HER
  by_cases he : e6 = 0
  · subst he
    have HR := Lib.hid (show pcV (pcOr res) = .agg #[.int .i64 (n1 : Int), .int .i64 (n2 : Int), .int .u64 (n3 : Int), .int .i64 (n4 : Int), .string (bs tx)] ∧ res.1 = (l6, 0) from ⟨by rw [HS.out]; rfl, by rw [HS.out]⟩)
    clear HS
    go_wp2
    refine bodyPost_ret (v := .agg #[.int .i64 (n1 : Int), .int .i64 (n2 : Int), .int .u64 (n3 : Int), .int .i64 (n4 : Int), .string (bs tx)]) (by simp [results, Try.results44, go_sem, r0, r1, r2, r3, r4]) rfl ⟨by rw [HR.out.1], ?_⟩
    rw [HR.out.2]
    exact HFN.out _ _ _ _ _
  · have heb : ((e6 : Int) != 0) = true := by simp; omega
    have HR := Lib.hid (show pcV (pcOr res) = .agg #[.int .i64 0, .int .i64 0, .int .u64 0, .int .i64 0, .string ⟨#[]⟩] ∧ res.1 = (l6, e6) from ⟨by rw [HS.out]; simp only [pcOr]; rw [if_neg he]; rfl, by rw [HS.out]⟩)
    clear HS he
    go_wp2
    refine bodyPost_ret (v := .agg #[.int .i64 0, .int .i64 0, .int .u64 0, .int .i64 0, .string ⟨#[]⟩]) (by simp [results, Try.results44, go_sem, r0, r1, r2, r3, r4]) rfl ⟨by rw [HR.out.1], ?_⟩
    rw [HR.out.2]
    exact HFN.out _ _ _ _ _
end Go.Proofs.Ytdkokfpbmmjfkaa
