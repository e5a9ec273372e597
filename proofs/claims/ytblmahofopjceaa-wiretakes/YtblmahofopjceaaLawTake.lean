/-
  The law's own helper that takes one thing of both readers: what it comes to.
-/
import Derived.Test.YtblmahofopjceaaRefMore
namespace Go.Proofs.Ytblmahofopjceaa
open Go.RowKit
set_option linter.unusedVariables false

/-- The memory of that call: the two boxes, the result. -/
structure MemT (b : Nat) (w wr : World) (x0 x1 y0 y1 : Value) : Prop where
  c0 : wr.cell? ⟨w.heap.size, 0, none⟩ = some x0
  c1 : wr.cell? ⟨w.heap.size, 1, none⟩ = some x1
  d0 : wr.cell? ⟨w.heap.size + 1, 0, none⟩ = some y0
  d1 : wr.cell? ⟨w.heap.size + 1, 1, none⟩ = some y1
  r0 : wr.cell? ⟨w.heap.size + 1 + 1, 0, none⟩ = some (.string ⟨#[]⟩)
  r1 : wr.cell? ⟨w.heap.size + 1 + 1, 1, none⟩ = some (.int .i64 0)
  g0 : wr.frozen? ⟨w.heap.size + 1 + 1, 0, none⟩ = false
  g1 : wr.frozen? ⟨w.heap.size + 1 + 1, 1, none⟩ = false
  sz : w.heap.size + 2 < wr.heap.size
  bel : Touch (fun k => k = b) w wr
theorem MemT.keep {b : Nat} {w wr w' : World} {x0 x1 y0 y1 : Value} (h : MemT b w wr x0 x1 y0 y1) (hb : b < w.heap.size) (ht : Touch (fun k => k = b) wr w') : MemT b w w' x0 x1 y0 y1 := by
  have hs := h.sz
  have hz := ht.size
  have cc : ∀ n j, n < 3 → w'.cell? ⟨w.heap.size + n, j, none⟩ = wr.cell? ⟨w.heap.size + n, j, none⟩ := fun n j hn => ht.cell (p := ⟨w.heap.size + n, j, none⟩) (by show w.heap.size + n < _; omega) (by show ¬ w.heap.size + n = b; omega)
  have ff : ∀ n j, n < 3 → w'.frozen? ⟨w.heap.size + n, j, none⟩ = wr.frozen? ⟨w.heap.size + n, j, none⟩ := fun n j hn => ht.frozen (p := ⟨w.heap.size + n, j, none⟩) (by show w.heap.size + n < _; omega) (by show ¬ w.heap.size + n = b; omega)
  exact ⟨(cc 0 0 (by decide)).trans h.c0, (cc 0 1 (by decide)).trans h.c1, (cc 1 0 (by decide)).trans h.d0, (cc 1 1 (by decide)).trans h.d1, (cc 2 0 (by decide)).trans h.r0, (cc 2 1 (by decide)).trans h.r1, (ff 2 0 (by decide)).trans h.g0, (ff 2 1 (by decide)).trans h.g1, by omega, h.bel.trans ht⟩
theorem memT_new (b : Nat) (w : World) (x0 x1 y0 y1 : Value) : MemT b w (((w.alloc (.cells #[x0, x1] 45)).alloc (.cells #[y0, y1] 49)).alloc (.cells #[.string ⟨#[]⟩, .int .i64 0] 45)) x0 x1 y0 y1 := by
  have z1 : (w.alloc (.cells #[x0, x1] 45)).heap.size = w.heap.size + 1 := by simp
  have z2 : ((w.alloc (.cells #[x0, x1] 45)).alloc (.cells #[y0, y1] 49)).heap.size = w.heap.size + 1 + 1 := by simp
  generalize hA : w.alloc (.cells #[x0, x1] 45) = wA at z1 z2 ⊢
  have a0 : ∀ j, wA.cell? ⟨w.heap.size, j, none⟩ = (#[x0, x1] : Array Value)[j]? := fun j => by rw [← hA]; simp
  have tA : Touch (fun k => k = b) w wA := by rw [← hA]; exact (Touch.refl _ w).alloc _
  clear hA
  generalize hB : wA.alloc (.cells #[y0, y1] 49) = wB at z2 ⊢
  have a1 : ∀ j, wB.cell? ⟨w.heap.size, j, none⟩ = (#[x0, x1] : Array Value)[j]? := fun j => by rw [← hB, World.cell?_alloc_lt _ _ _ (by show w.heap.size < _; omega)]; exact a0 j
  have b1 : ∀ j, wB.cell? ⟨w.heap.size + 1, j, none⟩ = (#[y0, y1] : Array Value)[j]? := fun j => by rw [← hB, ← z1]; simp
  have tB : Touch (fun k => k = b) w wB := by rw [← hB]; exact tA.alloc _
  clear hB
  have a2 : ∀ j, (wB.alloc (.cells #[.string ⟨#[]⟩, .int .i64 0] 45)).cell? ⟨w.heap.size, j, none⟩ = (#[x0, x1] : Array Value)[j]? := fun j => by rw [World.cell?_alloc_lt _ _ _ (by show w.heap.size < _; omega)]; exact a1 j
  have b2 : ∀ j, (wB.alloc (.cells #[.string ⟨#[]⟩, .int .i64 0] 45)).cell? ⟨w.heap.size + 1, j, none⟩ = (#[y0, y1] : Array Value)[j]? := fun j => by rw [World.cell?_alloc_lt _ _ _ (by show w.heap.size + 1 < _; omega)]; exact b1 j
  have c2 : ∀ j, (wB.alloc (.cells #[.string ⟨#[]⟩, .int .i64 0] 45)).cell? ⟨w.heap.size + 1 + 1, j, none⟩ = (#[.string ⟨#[]⟩, .int .i64 0] : Array Value)[j]? := fun j => by rw [← z2]; simp
  refine ⟨by rw [a2]; rfl, by rw [a2]; rfl, by rw [b2]; rfl, by rw [b2]; rfl, by rw [c2]; rfl, by rw [c2]; rfl, ?_, ?_, by simp; omega, tB.alloc _⟩
  · rw [← z2]; exact frozen_new _ _ _ _
  · rw [← z2]; exact frozen_new _ _ _ _
/-- What is left behind one thing taken. -/
def takeS (st : List UInt8 × Nat) (kind n : Int) : List UInt8 × Nat :=
  if kind = 1 ∨ kind = 2 then (numS st).1 else if kind = 3 then (countS st n).1 else if kind = 4 then (strS st n).1 else if kind = 5 then (rawS st n).1 else if kind = 6 then failS st (bits .and .i64 n 7).toNat else st
/-- What the helper leaves. -/
def TakePost (b : Nat) (st : List UInt8 × Nat) (w : World) (r : Ending) (w' : World) : Prop :=
  r = .returned (.tuple #[inV st, .bool true]) ∧ InTo w b st w'
theorem inSt_three {w : World} {b : Nat} {st : List UInt8 × Nat} (h : InSt w b st) (o1 o2 o3 : Obj) : InSt (((w.alloc o1).alloc o2).alloc o3) b st :=
  h.below ((((Below.refl _ w).alloc (Nat.le_refl _) _).alloc (by simp) _).alloc (by simp; omega) _)
theorem memT_end {b : Nat} {w wr : World} {x0 x1 y0 y1 : Value} {st : List UInt8 × Nat} (h : MemT b w wr x0 x1 y0 y1) (hb : b < w.heap.size) (hi : InSt wr b st) (o : Obj) (a c : Value) :
    InTo w b st (((wr.setCell ⟨w.heap.size + 1 + 1, 0, none⟩ a).setCell ⟨w.heap.size + 1 + 1, 1, none⟩ c).alloc o) := by
  refine ⟨hi.touch (S := fun k => k = w.heap.size + 1 + 1) ((((Touch.refl (fun k => k = w.heap.size + 1 + 1) wr).setCell (p := ⟨w.heap.size + 1 + 1, 0, none⟩) (fun _ => rfl) _).setCell (p := ⟨w.heap.size + 1 + 1, 1, none⟩) (fun _ => rfl) _).alloc o) (by omega), ((h.bel.setCell (p := ⟨w.heap.size + 1 + 1, 0, none⟩) (fun hh => ?_) _).setCell (p := ⟨w.heap.size + 1 + 1, 1, none⟩) (fun hh => ?_) _).alloc o⟩
  · simp at hh; omega
  · simp at hh; omega
theorem memT_end' {b : Nat} {w wr : World} {x0 x1 y0 y1 : Value} {st : List UInt8 × Nat} (h : MemT b w wr x0 x1 y0 y1) (hb : b < w.heap.size) (hi : InSt wr b st) (a c : Value) :
    InTo w b st ((wr.setCell ⟨w.heap.size + 1 + 1, 0, none⟩ a).setCell ⟨w.heap.size + 1 + 1, 1, none⟩ c) := by
  refine ⟨hi.touch (S := fun k => k = w.heap.size + 1 + 1) (((Touch.refl (fun k => k = w.heap.size + 1 + 1) wr).setCell (p := ⟨w.heap.size + 1 + 1, 0, none⟩) (fun _ => rfl) _).setCell (p := ⟨w.heap.size + 1 + 1, 1, none⟩) (fun _ => rfl) _) (by omega), (h.bel.setCell (p := ⟨w.heap.size + 1 + 1, 0, none⟩) (fun hh => ?_) _).setCell (p := ⟨w.heap.size + 1 + 1, 1, none⟩) (fun hh => ?_) _⟩
  · simp at hh; omega
  · simp at hh; omega
set_option maxHeartbeats 2000000 in
set_option maxRecDepth 100000 in
theorem take_1 (b : Nat) (l : List UInt8) (e : Nat) (n : Int) (w : World) (hn : n ≤ 9223372036854775807) (hn' : -9223372036854775808 ≤ n) (h : InSt w b (l, e)) :
    Calls Try.prog 23 #[.pointer (some ⟨b, 0, none⟩), .agg #[.string (bs l), .int .i64 e], .agg #[.int .i64 1, .int .i64 n]] w (TakePost b (takeS (l, e) 1 n) w) := by
  have hb := h.lt
  have HOK := Lib.hid (show (e ≠ 0 → l = []) ∧ l.length ≤ 1000000000 from ⟨h.2.2.2.2.2.1, h.2.2.2.2.1⟩)
  have HM := Lib.hid (memT_new b w (.string (bs l)) (.int .i64 e) (.int .i64 1) (.int .i64 n))
  have HI := Lib.hid (inSt_three h (.cells #[.string (bs l), .int .i64 e] 45) (.cells #[.int .i64 1, .int .i64 n] 49) (.cells #[.string ⟨#[]⟩, .int .i64 0] 45))
  have HT : Hid (takeS (l, e) 1 n = (numS (l, e)).1) := Lib.hid (by simp [takeS])
  clear h
  go_enter Try.func23, Try.ntmps23
  go_wp2_with fail
  refine (inNum_any b l e _ HI.out).mono ?_
  rintro r w1 ⟨rfl, hi⟩
  have hM1 := HM.out.keep hb hi.2
  have HM1 := Lib.hid hM1
  have HI1 := Lib.hid hi.1
  obtain ⟨c0, c1, d0, d1, r0, r1, g0, g1, sz, bel⟩ := hM1
  have sz1 : w.heap.size + 1 < w1.heap.size := by omega
  have sz0 : w.heap.size < w1.heap.size := by omega
  clear hi bel HM HI
  go_wp2_with fail
  refine (refTakeNum_any l e _ HOK.out.2 HOK.out.1).mono ?_
  rintro r w2 ⟨rfl, hb2⟩
  have hM2 := HM1.out.keep hb (touch_of_below hb2)
  have HM2 := Lib.hid hM2
  have HI2 := Lib.hid (HI1.out.below hb2)
  clear c0 c1 d0 d1 r0 r1 g0 g1 sz sz1 sz0 hb2 HM1 HI1
  obtain ⟨c0, c1, d0, d1, r0, r1, g0, g1, sz, bel⟩ := hM2
  have sz1 : w.heap.size + 1 < w2.heap.size := by omega
  have sz0 : w.heap.size < w2.heap.size := by omega
  clear bel
  generalize numS (l, e) = st at HT HI2 ⊢
  obtain ⟨⟨l2, e2⟩, m2⟩ := st
  unfold inV
  simp only
  go_wp2
  exact bodyPost_ret (v := .tuple #[.agg #[.string (bs l2), .int .i64 e2], .bool true]) (by simp [results, Try.results23, go_sem, r0, r1, sz]) rfl ⟨by rw [HT.out]; rfl, by rw [HT.out]; exact memT_end HM2.out hb HI2.out _ _ _⟩
set_option maxHeartbeats 2000000 in
set_option maxRecDepth 100000 in
theorem take_2 (b : Nat) (l : List UInt8) (e : Nat) (n : Int) (w : World) (hn : n ≤ 9223372036854775807) (hn' : -9223372036854775808 ≤ n) (h : InSt w b (l, e)) :
    Calls Try.prog 23 #[.pointer (some ⟨b, 0, none⟩), .agg #[.string (bs l), .int .i64 e], .agg #[.int .i64 2, .int .i64 n]] w (TakePost b (takeS (l, e) 2 n) w) := by
  have hb := h.lt
  have HOK := Lib.hid (show (e ≠ 0 → l = []) ∧ l.length ≤ 1000000000 from ⟨h.2.2.2.2.2.1, h.2.2.2.2.1⟩)
  have HM := Lib.hid (memT_new b w (.string (bs l)) (.int .i64 e) (.int .i64 2) (.int .i64 n))
  have HI := Lib.hid (inSt_three h (.cells #[.string (bs l), .int .i64 e] 45) (.cells #[.int .i64 2, .int .i64 n] 49) (.cells #[.string ⟨#[]⟩, .int .i64 0] 45))
  have HT : Hid (takeS (l, e) 2 n = (numS (l, e)).1) := Lib.hid (by simp [takeS])
  clear h
  go_enter Try.func23, Try.ntmps23
  go_wp2_with fail
  refine (inInt_any b l e _ HI.out).mono ?_
  rintro r w1 ⟨rfl, hi⟩
  have hM1 := HM.out.keep hb hi.2
  have HM1 := Lib.hid hM1
  have HI1 := Lib.hid hi.1
  obtain ⟨c0, c1, d0, d1, r0, r1, g0, g1, sz, bel⟩ := hM1
  have sz1 : w.heap.size + 1 < w1.heap.size := by omega
  have sz0 : w.heap.size < w1.heap.size := by omega
  clear hi bel HM HI
  go_wp2_with fail
  refine (refTakeInt_any l e _ HOK.out.2 HOK.out.1).mono ?_
  rintro r w2 ⟨rfl, hb2⟩
  have hM2 := HM1.out.keep hb (touch_of_below hb2)
  have HM2 := Lib.hid hM2
  have HI2 := Lib.hid (HI1.out.below hb2)
  clear c0 c1 d0 d1 r0 r1 g0 g1 sz sz1 sz0 hb2 HM1 HI1
  obtain ⟨c0, c1, d0, d1, r0, r1, g0, g1, sz, bel⟩ := hM2
  have sz1 : w.heap.size + 1 < w2.heap.size := by omega
  have sz0 : w.heap.size < w2.heap.size := by omega
  clear bel
  generalize numS (l, e) = st at HT HI2 ⊢
  obtain ⟨⟨l2, e2⟩, m2⟩ := st
  unfold inV
  simp only
  go_wp2
  exact bodyPost_ret (v := .tuple #[.agg #[.string (bs l2), .int .i64 e2], .bool true]) (by simp [results, Try.results23, go_sem, r0, r1, sz]) rfl ⟨by rw [HT.out]; rfl, by rw [HT.out]; exact memT_end HM2.out hb HI2.out _ _ _⟩
set_option maxHeartbeats 2000000 in
set_option maxRecDepth 100000 in
theorem take_3 (b : Nat) (l : List UInt8) (e : Nat) (n : Int) (w : World) (hn : n ≤ 9223372036854775807) (hn' : -9223372036854775808 ≤ n) (h : InSt w b (l, e)) :
    Calls Try.prog 23 #[.pointer (some ⟨b, 0, none⟩), .agg #[.string (bs l), .int .i64 e], .agg #[.int .i64 3, .int .i64 n]] w (TakePost b (takeS (l, e) 3 n) w) := by
  have hb := h.lt
  have HOK := Lib.hid (show (e ≠ 0 → l = []) ∧ l.length ≤ 1000000000 from ⟨h.2.2.2.2.2.1, h.2.2.2.2.1⟩)
  have HM := Lib.hid (memT_new b w (.string (bs l)) (.int .i64 e) (.int .i64 3) (.int .i64 n))
  have HI := Lib.hid (inSt_three h (.cells #[.string (bs l), .int .i64 e] 45) (.cells #[.int .i64 3, .int .i64 n] 49) (.cells #[.string ⟨#[]⟩, .int .i64 0] 45))
  have HT : Hid (takeS (l, e) 3 n = (countS (l, e) n).1) := Lib.hid (by simp [takeS])
  clear h
  go_enter Try.func23, Try.ntmps23
  go_wp2_with fail
  refine (count_any b l e n _ hn hn' HI.out).mono ?_
  rintro r w1 ⟨rfl, hi⟩
  have hM1 := HM.out.keep hb hi.2
  have HM1 := Lib.hid hM1
  have HI1 := Lib.hid hi.1
  obtain ⟨c0, c1, d0, d1, r0, r1, g0, g1, sz, bel⟩ := hM1
  have sz1 : w.heap.size + 1 < w1.heap.size := by omega
  have sz0 : w.heap.size < w1.heap.size := by omega
  clear hi bel HM HI
  go_wp2_with fail
  refine (refTakeCount_any l e n _ hn hn' HOK.out.2 HOK.out.1).mono ?_
  rintro r w2 ⟨rfl, hb2⟩
  have hM2 := HM1.out.keep hb (touch_of_below hb2)
  have HM2 := Lib.hid hM2
  have HI2 := Lib.hid (HI1.out.below hb2)
  clear c0 c1 d0 d1 r0 r1 g0 g1 sz sz1 sz0 hb2 HM1 HI1
  obtain ⟨c0, c1, d0, d1, r0, r1, g0, g1, sz, bel⟩ := hM2
  have sz1 : w.heap.size + 1 < w2.heap.size := by omega
  have sz0 : w.heap.size < w2.heap.size := by omega
  clear bel
  generalize countS (l, e) n = st at HT HI2 ⊢
  obtain ⟨⟨l2, e2⟩, m2⟩ := st
  unfold inV
  simp only
  go_wp2
  exact bodyPost_ret (v := .tuple #[.agg #[.string (bs l2), .int .i64 e2], .bool true]) (by simp [results, Try.results23, go_sem, r0, r1, sz]) rfl ⟨by rw [HT.out]; rfl, by rw [HT.out]; exact memT_end HM2.out hb HI2.out _ _ _⟩
set_option maxHeartbeats 2000000 in
set_option maxRecDepth 100000 in
theorem take_4 (b : Nat) (l : List UInt8) (e : Nat) (n : Int) (w : World) (hn : n ≤ 9223372036854775807) (hn' : -9223372036854775808 ≤ n) (h : InSt w b (l, e)) :
    Calls Try.prog 23 #[.pointer (some ⟨b, 0, none⟩), .agg #[.string (bs l), .int .i64 e], .agg #[.int .i64 4, .int .i64 n]] w (TakePost b (takeS (l, e) 4 n) w) := by
  have hb := h.lt
  have HOK := Lib.hid (show (e ≠ 0 → l = []) ∧ l.length ≤ 1000000000 from ⟨h.2.2.2.2.2.1, h.2.2.2.2.1⟩)
  have HM := Lib.hid (memT_new b w (.string (bs l)) (.int .i64 e) (.int .i64 4) (.int .i64 n))
  have HI := Lib.hid (inSt_three h (.cells #[.string (bs l), .int .i64 e] 45) (.cells #[.int .i64 4, .int .i64 n] 49) (.cells #[.string ⟨#[]⟩, .int .i64 0] 45))
  have HT : Hid (takeS (l, e) 4 n = (strS (l, e) n).1) := Lib.hid (by simp [takeS])
  clear h
  go_enter Try.func23, Try.ntmps23
  go_wp2_with fail
  refine (inStr_any b l e n _ hn hn' HI.out).mono ?_
  rintro r w1 ⟨rfl, hi⟩
  have hM1 := HM.out.keep hb hi.2
  have HM1 := Lib.hid hM1
  have HI1 := Lib.hid hi.1
  obtain ⟨c0, c1, d0, d1, r0, r1, g0, g1, sz, bel⟩ := hM1
  have sz1 : w.heap.size + 1 < w1.heap.size := by omega
  have sz0 : w.heap.size < w1.heap.size := by omega
  clear hi bel HM HI
  go_wp2_with fail
  refine (refTakeStr_any l e n _ hn hn' HOK.out.2 HOK.out.1).mono ?_
  rintro r w2 ⟨rfl, hb2⟩
  have hM2 := HM1.out.keep hb (touch_of_below hb2)
  have HM2 := Lib.hid hM2
  have HI2 := Lib.hid (HI1.out.below hb2)
  clear c0 c1 d0 d1 r0 r1 g0 g1 sz sz1 sz0 hb2 HM1 HI1
  obtain ⟨c0, c1, d0, d1, r0, r1, g0, g1, sz, bel⟩ := hM2
  have sz1 : w.heap.size + 1 < w2.heap.size := by omega
  have sz0 : w.heap.size < w2.heap.size := by omega
  clear bel
  generalize strS (l, e) n = st at HT HI2 ⊢
  obtain ⟨⟨l2, e2⟩, m2⟩ := st
  unfold inV
  simp only
  go_wp2
  exact bodyPost_ret (v := .tuple #[.agg #[.string (bs l2), .int .i64 e2], .bool true]) (by simp [results, Try.results23, go_sem, r0, r1, sz]) rfl ⟨by rw [HT.out]; rfl, by rw [HT.out]; exact memT_end HM2.out hb HI2.out _ _ _⟩
set_option maxHeartbeats 2000000 in
set_option maxRecDepth 100000 in
theorem take_5 (b : Nat) (l : List UInt8) (e : Nat) (n : Int) (w : World) (hn : n ≤ 9223372036854775807) (hn' : -9223372036854775808 ≤ n) (h : InSt w b (l, e)) :
    Calls Try.prog 23 #[.pointer (some ⟨b, 0, none⟩), .agg #[.string (bs l), .int .i64 e], .agg #[.int .i64 5, .int .i64 n]] w (TakePost b (takeS (l, e) 5 n) w) := by
  have hb := h.lt
  have HOK := Lib.hid (show (e ≠ 0 → l = []) ∧ l.length ≤ 1000000000 from ⟨h.2.2.2.2.2.1, h.2.2.2.2.1⟩)
  have HM := Lib.hid (memT_new b w (.string (bs l)) (.int .i64 e) (.int .i64 5) (.int .i64 n))
  have HI := Lib.hid (inSt_three h (.cells #[.string (bs l), .int .i64 e] 45) (.cells #[.int .i64 5, .int .i64 n] 49) (.cells #[.string ⟨#[]⟩, .int .i64 0] 45))
  have HT : Hid (takeS (l, e) 5 n = (rawS (l, e) n).1) := Lib.hid (by simp [takeS])
  clear h
  go_enter Try.func23, Try.ntmps23
  go_wp2_with fail
  refine (raw_any b l e n _ hn hn' HI.out).mono ?_
  rintro r w1 ⟨rfl, hi⟩
  have hM1 := HM.out.keep hb hi.2
  have HM1 := Lib.hid hM1
  have HI1 := Lib.hid hi.1
  obtain ⟨c0, c1, d0, d1, r0, r1, g0, g1, sz, bel⟩ := hM1
  have sz1 : w.heap.size + 1 < w1.heap.size := by omega
  have sz0 : w.heap.size < w1.heap.size := by omega
  clear hi bel HM HI
  go_wp2_with fail
  refine (refRaw_any l e n _ HOK.out.2 HOK.out.1).mono ?_
  rintro r w2 ⟨rfl, hb2⟩
  have hM2 := HM1.out.keep hb (touch_of_below hb2)
  have HM2 := Lib.hid hM2
  have HI2 := Lib.hid (HI1.out.below hb2)
  clear c0 c1 d0 d1 r0 r1 g0 g1 sz sz1 sz0 hb2 HM1 HI1
  obtain ⟨c0, c1, d0, d1, r0, r1, g0, g1, sz, bel⟩ := hM2
  have sz1 : w.heap.size + 1 < w2.heap.size := by omega
  have sz0 : w.heap.size < w2.heap.size := by omega
  clear bel
  generalize rawS (l, e) n = st at HT HI2 ⊢
  obtain ⟨⟨l2, e2⟩, m2⟩ := st
  unfold inV
  simp only
  go_wp2
  exact bodyPost_ret (v := .tuple #[.agg #[.string (bs l2), .int .i64 e2], .bool true]) (by simp [results, Try.results23, go_sem, r0, r1, sz]) rfl ⟨by rw [HT.out]; rfl, by rw [HT.out]; exact memT_end HM2.out hb HI2.out _ _ _⟩
theorem and7 (a : Int) : ∃ k : Nat, k ≤ 7 ∧ bits .and .i64 a 7 = (k : Int) := by
  refine ⟨(BitVec.ofInt 64 a &&& BitVec.ofInt 64 7).toNat, ?_, ?_⟩
  · rw [BitVec.toNat_and]
    exact Nat.and_le_right
  · have h : (BitVec.ofInt 64 a &&& BitVec.ofInt 64 7).toNat ≤ 7 := by rw [BitVec.toNat_and]; exact Nat.and_le_right
    show IntKind.i64.wrap ((BitVec.ofInt 64 a &&& BitVec.ofInt 64 7).toNat : Int) = _
    rw [IntKind.wrap_i64]
    omega
set_option maxHeartbeats 2000000 in
set_option maxRecDepth 100000 in
theorem take_6 (b : Nat) (l : List UInt8) (e : Nat) (n : Int) (w : World) (h : InSt w b (l, e)) :
    Calls Try.prog 23 #[.pointer (some ⟨b, 0, none⟩), .agg #[.string (bs l), .int .i64 e], .agg #[.int .i64 6, .int .i64 n]] w (TakePost b (takeS (l, e) 6 n) w) := by
  have hb := h.lt
  have HM := Lib.hid (memT_new b w (.string (bs l)) (.int .i64 e) (.int .i64 6) (.int .i64 n))
  have HI := Lib.hid (inSt_three h (.cells #[.string (bs l), .int .i64 e] 45) (.cells #[.int .i64 6, .int .i64 n] 49) (.cells #[.string ⟨#[]⟩, .int .i64 0] 45))
  have hT : takeS (l, e) 6 n = failS (l, e) (bits .and .i64 n 7).toNat := by simp [takeS]
  obtain ⟨x, hx, hand⟩ := and7 n
  rw [hand, Int.toNat_natCast] at hT
  have HT := Lib.hid hT
  clear h hT
  go_enter Try.func23, Try.ntmps23
  go_wp2_with fail
  refine (fail_any b l e x _ (by omega) HI.out).mono ?_
  rintro r w1 ⟨rfl, hi⟩
  have hM1 := HM.out.keep hb hi.2
  have HM1 := Lib.hid hM1
  have HI1 := Lib.hid hi.1
  obtain ⟨c0, c1, d0, d1, r0, r1, g0, g1, sz, bel⟩ := hM1
  have sz1 : w.heap.size + 1 < w1.heap.size := by omega
  have sz0 : w.heap.size < w1.heap.size := by omega
  clear hi bel HM HI
  go_wp2_with fail
  refine (refFail_any l e x _).mono ?_
  rintro r w2 ⟨rfl, hb2⟩
  have hM2 := HM1.out.keep hb (touch_of_below hb2)
  have HM2 := Lib.hid hM2
  have HI2 := Lib.hid (HI1.out.below hb2)
  clear c0 c1 d0 d1 r0 r1 g0 g1 sz sz1 sz0 hb2 HM1 HI1
  obtain ⟨c0, c1, d0, d1, r0, r1, g0, g1, sz, bel⟩ := hM2
  have sz1 : w.heap.size + 1 < w2.heap.size := by omega
  have sz0 : w.heap.size < w2.heap.size := by omega
  clear bel
  generalize failS (l, e) x = st at HT HI2 ⊢
  obtain ⟨l2, e2⟩ := st
  unfold inV
  simp only
  go_wp2
  exact bodyPost_ret (v := .tuple #[.agg #[.string (bs l2), .int .i64 e2], .bool true]) (by simp [results, Try.results23, go_sem, r0, r1]) rfl ⟨by rw [HT.out]; rfl, by rw [HT.out]; exact memT_end' HM2.out hb HI2.out _ _⟩
set_option maxHeartbeats 2000000 in
set_option maxRecDepth 100000 in
theorem take_none (b : Nat) (l : List UInt8) (e : Nat) (kind n : Int) (w : World) (hk : ¬ (1 ≤ kind ∧ kind ≤ 6)) (h : InSt w b (l, e)) :
    Calls Try.prog 23 #[.pointer (some ⟨b, 0, none⟩), .agg #[.string (bs l), .int .i64 e], .agg #[.int .i64 kind, .int .i64 n]] w (TakePost b (takeS (l, e) kind n) w) := by
  have hb := h.lt
  have HI' := Lib.hid (inSt_three h (.cells #[.string (bs l), .int .i64 e] 45) (.cells #[.int .i64 kind, .int .i64 n] 49) (.cells #[.string (bs l), .int .i64 e] 45))
  have HT : Hid (takeS (l, e) kind n = (l, e)) := Lib.hid (by
    unfold takeS
    rw [if_neg (by omega), if_neg (by omega), if_neg (by omega), if_neg (by omega), if_neg (by omega)])
  have k1 : (kind == 1) = false := by simp; omega
  have k2 : (kind == 2) = false := by simp; omega
  have k3 : (kind == 3) = false := by simp; omega
  have k4 : (kind == 4) = false := by simp; omega
  have k5 : (kind == 5) = false := by simp; omega
  have k6 : (kind == 6) = false := by simp; omega
  clear h hk
  go_enter Try.func23, Try.ntmps23
  go_wp2
  exact bodyPost_ret (v := .tuple #[.agg #[.string (bs l), .int .i64 e], .bool true]) (by simp [results, Try.results23, go_sem]) rfl ⟨by rw [HT.out]; rfl, by rw [HT.out]; exact ⟨HI'.out, (((Touch.refl _ w).alloc _).alloc _).alloc _⟩⟩
theorem take_any (b : Nat) (l : List UInt8) (e : Nat) (kind n : Int) (w : World) (hn : n ≤ 9223372036854775807) (hn' : -9223372036854775808 ≤ n) (h : InSt w b (l, e)) :
    Calls Try.prog 23 #[.pointer (some ⟨b, 0, none⟩), .agg #[.string (bs l), .int .i64 e], .agg #[.int .i64 kind, .int .i64 n]] w (TakePost b (takeS (l, e) kind n) w) := by
  by_cases h1 : kind = 1
  · subst h1; exact take_1 b l e n w hn hn' h
  by_cases h2 : kind = 2
  · subst h2; exact take_2 b l e n w hn hn' h
  by_cases h3 : kind = 3
  · subst h3; exact take_3 b l e n w hn hn' h
  by_cases h4 : kind = 4
  · subst h4; exact take_4 b l e n w hn hn' h
  by_cases h5 : kind = 5
  · subst h5; exact take_5 b l e n w hn hn' h
  by_cases h6 : kind = 6
  · subst h6; exact take_6 b l e n w h
  · exact take_none b l e kind n w (by omega) h
end Go.Proofs.Ytblmahofopjceaa
