/-
  Layer 3: how many instructions an image has, and its bytes.
-/
import Derived.Test.YtmonbjlkkhpinaaDoorCodeMake
namespace Go.Proofs.YtmonbjlkkhpinaaDoor
open Go.RowKit
set_option linter.unusedVariables false

/-- At block b bytes grow; the blocks of K are none of theirs. -/
def OutK (K : Nat → Prop) (b : Nat) (l : List UInt8) (w : World) : Prop := ∃ v, OutAt w b v l ∧ ¬ K b ∧ ∀ k, v.ownBlock = some k → ¬ K k
theorem OutK.lt {K : Nat → Prop} {w : World} {b : Nat} {l : List UInt8} (h : OutK K b l w) : b < w.heap.size := by obtain ⟨v, h1, -⟩ := h; exact h1.lt
theorem OutK.below {K : Nat → Prop} {w w' : World} {b : Nat} {l : List UInt8} (h : OutK K b l w) (hb : Below w.heap.size w w') : OutK K b l w' := by
  obtain ⟨v, h1, h2, h3⟩ := h
  exact ⟨v, h1.below hb, h2, h3⟩
theorem OutK.alloc {K : Nat → Prop} {w : World} {b : Nat} {l : List UInt8} (h : OutK K b l w) (o : Obj) : OutK K b l (w.alloc o) := h.below ((Below.refl _ _).alloc (Nat.le_refl _) _)
theorem OutK.sub {K K' : Nat → Prop} {w : World} {b : Nat} {l : List UInt8} (h : OutK K' b l w) (hs : ∀ k, K k → K' k) : OutK K b l w := by
  obtain ⟨v, h1, h2, h3⟩ := h
  exact ⟨v, h1, fun h => h2 (hs _ h), fun k hk h => h3 k hk (hs _ h)⟩
/-- A block that is new is none of theirs. -/
theorem OutK.add {K : Nat → Prop} {w : World} {b : Nat} {l : List UInt8} (h : OutK K b l w) (o : Obj) : OutK (fun k => K k ∨ k = w.heap.size) b l (w.alloc o) := by
  have hl := h.lt
  obtain ⟨v, h1, h2, h3⟩ := h
  refine ⟨v, h1.alloc o, ?_, fun k hk => ?_⟩
  · rintro (h | h)
    · exact h2 h
    · omega
  · have := h1.fresh k hk
    rintro (h | h)
    · exact h3 k hk h
    · omega
theorem OutK.start {K : Nat → Prop} (w : World) (t : TypeId) (hK : ∀ k, K k → k < w.heap.size) : OutK K w.heap.size [] (w.alloc (.cells #[.slice none 0 0] t)) :=
  ⟨.slice none 0 0, ⟨by simp, frozen_new _ _ _ _, World.ownsRow_nil _ _ _ _, by simp [Value.ownBlock]⟩, fun h => by have := hK _ h; omega, fun k hk => by simp [Value.ownBlock] at hk⟩
def OutKTo (K : Nat → Prop) (b : Nat) (l : List UInt8) (w w' : World) : Prop := OutK K b l w' ∧ Touch (fun k => ¬ K k) w w'
theorem OutK.step {K : Nat → Prop} {w wa w' : World} {b : Nat} {l' : List UInt8} {v : Value} (h2 : ¬ K b) (h3 : ∀ k, v.ownBlock = some k → ¬ K k) (hK : ∀ k, K k → k < w.heap.size) (ha : Below w.heap.size w wa) (ho : OutTo wa b v l' w') : OutKTo K b l' w w' := by
  obtain ⟨v', g1, g2, g3⟩ := ho
  have hz := ha.size
  refine ⟨⟨v', g1, h2, fun k hk => ?_⟩, (touch_of_below ha).trans (g3.mono fun k hk h => ?_)⟩
  · rcases g2 k hk with h | h
    · exact h3 k h
    · exact fun hh => by have := hK k hh; omega
  · rcases h with rfl | h
    · exact h2
    · exact h3 k h
theorem outNum_k (K : Nat → Prop) (b : Nat) (l : List UInt8) (n : Nat) (x : Int) (hx : x = (n : Int)) (w : World) (h : OutK K b l w) (hK : ∀ k, K k → k < w.heap.size) (hl : l.length + 10 ≤ 1000000000) (hn : n < 18446744073709551616) :
    Calls Tryd.prog 57 #[.pointer (some ⟨b, 0, none⟩), .slice (some ⟨w.heap.size, 0, none⟩) 1 1] (w.alloc (.cells #[.int .u64 x] 86)) fun r w' => r = .returned (.pointer (some ⟨b, 0, none⟩)) ∧ OutKTo K b (l ++ numB n) w w' := by
  subst hx
  obtain ⟨v, h1, h2, h3⟩ := h
  have := outNum_any b v l (some ⟨w.heap.size, 0, none⟩) 1 [n] _ (h1.alloc (.cells #[.int .u64 n] 86)) (by simpa using hl) (by simpa using hn) (fresh_ints .u64 w _ _ _ (by simp)) (fresh_row h1)
  refine this.mono ?_
  rintro r w' ⟨rfl, ho⟩
  rw [show numsB [n] = numB n by simp [numsB]] at ho
  exact ⟨rfl, OutK.step h2 h3 hK ((Below.refl _ _).alloc (Nat.le_refl _) _) ho⟩
theorem outInt_k (K : Nat → Prop) (b : Nat) (l : List UInt8) (x : Int) (w : World) (h : OutK K b l w) (hK : ∀ k, K k → k < w.heap.size) (hl : l.length + 10 ≤ 1000000000) (hn : -9223372036854775808 ≤ x ∧ x ≤ 9223372036854775807) :
    Calls Tryd.prog 58 #[.pointer (some ⟨b, 0, none⟩), .slice (some ⟨w.heap.size, 0, none⟩) 1 1] (w.alloc (.cells #[.int .i64 x] 2)) fun r w' => r = .returned (.pointer (some ⟨b, 0, none⟩)) ∧ OutKTo K b (l ++ numB (zig x)) w w' := by
  obtain ⟨v, h1, h2, h3⟩ := h
  have := outInt_any b v l (some ⟨w.heap.size, 0, none⟩) 1 [x] _ (h1.alloc (.cells #[.int .i64 x] 2)) (by simpa using hl) (by simpa using hn) (fresh_ints .i64 w _ _ _ (by simp)) (fresh_row h1)
  refine this.mono ?_
  rintro r w' ⟨rfl, ho⟩
  rw [show intsB [x] = numB (zig x) by simp [intsB, numsB]] at ho
  exact ⟨rfl, OutK.step h2 h3 hK ((Below.refl _ _).alloc (Nat.le_refl _) _) ho⟩
theorem outCount_k (K : Nat → Prop) (b : Nat) (l : List UInt8) (ns : List Int) (cells : Array Value) (hc : cells = (ns.map (Value.int .i64)).toArray) (n : Nat) (hn : n = ns.length) (w : World) (h : OutK K b l w) (hK : ∀ k, K k → k < w.heap.size) (hl : l.length + 10 * ns.length ≤ 1000000000) (hns : ∀ x ∈ ns, x ≤ 9223372036854775807) :
    Calls Tryd.prog 40 #[.pointer (some ⟨b, 0, none⟩), .slice (some ⟨w.heap.size, 0, none⟩) n n] (w.alloc (.cells cells 3)) fun r w' => r = .returned (.pointer (some ⟨b, 0, none⟩)) ∧ OutKTo K b (l ++ countsB ns) w w' := by
  subst hc hn
  obtain ⟨v, h1, h2, h3⟩ := h
  have := outCount_any b v l (some ⟨w.heap.size, 0, none⟩) ns.length ns _ (h1.alloc (.cells (ns.map (Value.int .i64)).toArray 3)) hl hns (fresh_ints .i64 w _ _ _ rfl) (fresh_row h1)
  refine this.mono ?_
  rintro r w' ⟨rfl, ho⟩
  exact ⟨rfl, OutK.step h2 h3 hK ((Below.refl _ _).alloc (Nat.le_refl _) _) ho⟩
theorem outText_k (K : Nat → Prop) (b : Nat) (l : List UInt8) (w : World) (h : OutK K b l w) :
    Calls Tryd.prog 42 #[.pointer (some ⟨b, 0, none⟩)] w fun r w' => r = .returned (.string (bs l)) ∧ w = w' := by
  obtain ⟨v, h1, -⟩ := h
  exact outText_any b v l w h1

/-- The bytes of an instruction, of instructions, of a function, of an image. -/
def insB (x : Nat × Int) : List UInt8 := numB x.1 ++ if hasA x.1 then numB (zig x.2) else []
def codeB (l : List (Nat × Int)) : List UInt8 := (l.map insB).flatten
def fnB (f : Fn) : List UInt8 := countsB [f.args, f.locals, f.code.length] ++ codeB f.code
def fnsB (m : List Fn) : List UInt8 := (m.map fnB).flatten
def textB (m : List Fn) : List UInt8 := countsB [(m.length : Int)] ++ fnsB m
/-- What an image is asked for: numbers that fit. -/
def InsOk (x : Nat × Int) : Prop := x.1 < 256 ∧ -9223372036854775808 ≤ x.2 ∧ x.2 ≤ 9223372036854775807
def FnOk (f : Fn) : Prop := -9223372036854775808 ≤ f.args ∧ f.args ≤ 9223372036854775807 ∧ -9223372036854775808 ≤ f.locals ∧ f.locals ≤ 9223372036854775807 ∧ f.code.length ≤ 1000 ∧ ∀ x ∈ f.code, InsOk x
def ImgOk (m : List Fn) : Prop := m.length ≤ 1000 ∧ ∀ f ∈ m, FnOk f
theorem insB_len {x : Nat × Int} (h : InsOk x) : (insB x).length ≤ 20 := by
  have h1 := numB_ten (n := x.1) (by have := h.1; omega)
  unfold insB
  rw [List.length_append]
  split
  · have h2 := numB_ten (zig_lt h.2.1 h.2.2); omega
  · simp; omega
theorem codeB_len {l : List (Nat × Int)} (h : ∀ x ∈ l, InsOk x) : (codeB l).length ≤ 20 * l.length := by
  induction l with
  | nil => simp [codeB]
  | cons x l ih =>
    have h1 := insB_len (h x (by simp))
    have h2 := ih (fun y hy => h y (by simp [hy]))
    simp only [codeB, List.map_cons, List.flatten_cons, List.length_append, List.length_cons] at h2 ⊢
    omega
theorem countsB_len {ns : List Int} (h : ∀ x ∈ ns, x ≤ 9223372036854775807) : (countsB ns).length ≤ 10 * ns.length := by
  have := numsB_len (ns.map Int.toNat) (fun n hn => by
    obtain ⟨x, hx, rfl⟩ := List.mem_map.1 hn
    have := h x hx
    omega)
  simpa [countsB] using this
theorem fnB_len {f : Fn} (h : FnOk f) : (fnB f).length ≤ 20030 := by
  obtain ⟨_, h1, _, h2, h3, h4⟩ := h
  have := codeB_len h4
  have := countsB_len (ns := [f.args, f.locals, (f.code.length : Int)]) (by intro x hx; simp at hx; omega)
  unfold fnB
  rw [List.length_append]
  simp at this
  omega
theorem fnsB_len {m : List Fn} (h : ∀ f ∈ m, FnOk f) : (fnsB m).length ≤ 20030 * m.length := by
  induction m with
  | nil => simp [fnsB]
  | cons x l ih =>
    have h1 := fnB_len (h x (by simp))
    have h2 := ih (fun y hy => h y (by simp [hy]))
    simp only [fnsB, List.map_cons, List.flatten_cons, List.length_append, List.length_cons] at h2 ⊢
    omega
theorem codeB_snoc (l : List (Nat × Int)) (k : Nat) (h : k < l.length) : codeB (l.take (k + 1)) = codeB (l.take k) ++ insB l[k] := by
  unfold codeB; rw [List.take_succ_eq_append_getElem h, List.map_append, List.flatten_append]; simp
theorem fnsB_snoc (m : List Fn) (k : Nat) (h : k < m.length) : fnsB (m.take (k + 1)) = fnsB (m.take k) ++ fnB m[k] := by
  unfold fnsB; rw [List.take_succ_eq_append_getElem h, List.map_append, List.flatten_append]; simp
theorem write_any (K : Nat → Prop) (b : Nat) (l : List UInt8) (x : Nat × Int) (w : World) (h : OutK K b l w) (hK : ∀ k, K k → k < w.heap.size) (hl : l.length + 20 ≤ 1000000000) (hx : InsOk x) :
    Calls Tryd.prog 41 #[.agg #[.int .u8 x.1, .int .i64 x.2], .pointer (some ⟨b, 0, none⟩)] w fun r w' => r = .returned (.tuple #[]) ∧ OutKTo K b (l ++ insB x) w w' := by
  obtain ⟨o, a⟩ := x
  have ho256 : o < 256 := hx.1
  have hlt := h.lt
  have hz1 : (w.alloc (.cells #[.int .u8 o, .int .i64 a] 47)).heap.size = w.heap.size + 1 := by simp
  have H1 := h.add (.cells #[.int .u8 o, .int .i64 a] 47)
  have HC := outNum_k (fun k => K k ∨ k = w.heap.size) b l o (o : Int) rfl _ H1 (by rintro k (hk | rfl); have := hK k hk; omega; omega) (by omega) (by have := hx.1; simp at this; omega)
  rw [hz1] at HC
  have HC := Lib.hid HC
  have HH := Lib.hid (hasArg_any o)
  have HX := Lib.hid hx
  have HK := Lib.hid hK
  have HL := Lib.hid hl
  have hnl : Hid ((numB o).length ≤ 10) := Lib.hid (numB_ten (by have := hx.1; simp at this; omega))
  clear H1 hz1 h hx hK hl
  cases hA : hasA o
  · rw [hA] at HH
    have HB := Lib.hid (show insB (o, a) = numB o by simp [insB, hA])
    clear hA
    go_enter Tryd.func41, Tryd.ntmps41
    go_wp2_with fail
    refine HC.out.mono ?_
    rintro r w1 ⟨rfl, ho, ht⟩
    have hc0 : w1.cell? ⟨w.heap.size, 0, none⟩ = some (.int .u8 o) := (ht.cell (p := ⟨w.heap.size, 0, none⟩) (by simp) (by simp)).trans (by simp)
    have HO := Lib.hid (show OutKTo K b (l ++ numB o) w w1 from ⟨ho.sub (fun k hk => .inl hk), (touch_of_below ((Below.refl _ w).alloc (Nat.le_refl _) _)).trans (ht.mono fun k _ h1 h2 => h1 (.inl h2))⟩)
    clear ho ht
    go_wp2_with (go_at_call 22; refine (HH.out _).mono ?_; rintro e w' ⟨rfl, rfl⟩)
    go_end0
    exact ⟨rfl, by rw [HB.out]; exact HO.out⟩
  · rw [hA] at HH
    have HB := Lib.hid (show insB (o, a) = numB o ++ numB (zig a) by simp [insB, hA])
    clear hA
    go_enter Tryd.func41, Tryd.ntmps41
    go_wp2_with fail
    refine HC.out.mono ?_
    rintro r w1 ⟨rfl, ho, ht⟩
    have hc0 : w1.cell? ⟨w.heap.size, 0, none⟩ = some (.int .u8 o) := (ht.cell (p := ⟨w.heap.size, 0, none⟩) (by simp) (by simp)).trans (by simp)
    have hc1 : w1.cell? ⟨w.heap.size, 1, none⟩ = some (.int .i64 a) := (ht.cell (p := ⟨w.heap.size, 1, none⟩) (by simp) (by simp)).trans (by simp)
    have hz := ht.size
    have HO := Lib.hid (show OutKTo K b (l ++ numB o) w w1 from ⟨ho.sub (fun k hk => .inl hk), (touch_of_below ((Below.refl _ w).alloc (Nat.le_refl _) _)).trans (ht.mono fun k _ h1 h2 => h1 (.inl h2))⟩)
    have HC2 := Lib.hid (outInt_k K b (l ++ numB o) a w1 HO.out.1 (fun k hk => by have := HK.out k hk; simp at hz; omega) (by have := HL.out; have := hnl.out; rw [List.length_append]; omega) HX.out.2)
    clear ho ht hz
    go_wp2_with (first | (go_at_call 22; refine (HH.out _).mono ?_; rintro e w' ⟨rfl, rfl⟩) | fail)
    refine HC2.out.mono ?_
    rintro r w2 ⟨rfl, ho2, ht2⟩
    have HO2 := Lib.hid (show OutKTo K b (l ++ numB o ++ numB (zig a)) w w2 from ⟨ho2, HO.out.2.trans ht2⟩)
    clear ho2 ht2
    go_wp2
    go_end0
    exact ⟨rfl, by rw [HB.out, ← List.append_assoc]; exact HO2.out⟩
/-- The instructions of an image, all of them. -/
def sizeN (m : List Fn) : Nat := (m.map fun f => f.code.length).sum
theorem sizeN_snoc (m : List Fn) (k : Nat) (h : k < m.length) : sizeN (m.take (k + 1)) = sizeN (m.take k) + m[k].code.length := by
  unfold sizeN; rw [List.take_succ_eq_append_getElem h, List.map_append, List.sum_append]; simp
theorem sizeN_le {m : List Fn} (h : ∀ f ∈ m, FnOk f) : sizeN m ≤ 1000 * m.length := by
  induction m with
  | nil => simp [sizeN]
  | cons x l ih =>
    have h1 := (h x (by simp)).2.2.2.2.1
    have h2 := ih (fun y hy => h y (by simp [hy]))
    simp only [sizeN, List.map_cons, List.sum_cons, List.length_cons] at h2 ⊢
    omega
theorem size_any (a : Option Addr) (cap : Nat) (m : List Fn) (w : World) (hm : ImgOk m) (hr : FnRow w a m) :
    Calls Tryd.prog 18 #[.agg #[.slice a m.length cap]] w fun e w' => e = .returned (.int .i64 (sizeN m : Nat)) ∧ Below w.heap.size w w' := by
  have hl := hm.1
  have HM := Lib.hid hm.2
  have HR := Lib.hid hr
  clear hm hr
  go_enter Tryd.func18, Tryd.ntmps18
  go_wp2
  go_loopw [3, 9] (fun s i wr => ∃ k : Nat, k ≤ m.length ∧ i = .int .i64 k ∧ s = .int .i64 (sizeN (m.take k) : Nat) ∧ Hid (Below w.heap.size w wr)) (fun _ i _ => m.length - (intOf i).toNat)
  case atStart => exact ⟨0, by omega, rfl, rfl, Lib.hid ((Below.refl _ _).alloc (Nat.le_refl _) _)⟩
  case round =>
    obtain ⟨k, hk, rfl, rfl, HB⟩ := hrel
    have hs := sizeN_le (m := m.take k) (fun f hf => HM.out f (List.mem_of_mem_take hf))
    have hs2 : (m.take k).length ≤ 1000 := by have := List.length_take_le k m; omega
    by_cases hlt : k < m.length
    · have HS := Lib.hid (sizeN_snoc m k hlt)
      obtain ⟨b, off, rfl, hcell⟩ := HR.out.below HB.out (by omega)
      obtain ⟨c0, c1, x, c, c2, -⟩ := hcell k hlt
      have hcl := (HM.out _ (List.getElem_mem hlt)).2.2.2.2.1
      have hb := block_lt_of_cell c0
      have hz := HB.out.size
      clear hcell
      generalize m[k] = f at HS c0 c1 c2 hcl
      obtain ⟨ar, lo, co⟩ := f
      simp only at HS c0 c1 c2 hcl
      go_wp2
      go_roundw
      case rel => exact ⟨k + 1, by omega, by go_num, by rw [HS.out]; go_num, Lib.hid (HB.out.alloc hz _)⟩
      case measure => simp [intOf]; omega
    · go_wp2
      go_ret
      exact ⟨ret_int (by rw [List.take_of_length_le (by omega)]), HB.out⟩
set_option maxHeartbeats 1000000 in
theorem text_any (a : Option Addr) (cap : Nat) (m : List Fn) (w : World) (hm : ImgOk m) (hr : FnRow w a m) :
    Calls Tryd.prog 14 #[.agg #[.slice a m.length cap]] w fun e w' => e = .returned (.string (bs (textB m))) ∧ Below w.heap.size w w' := by
  have hl := hm.1
  have HM := Lib.hid hm.2
  have HR := Lib.hid hr
  clear hm hr
  have hz1 : (w.alloc (.cells #[.slice a m.length cap] 24)).heap.size = w.heap.size + 1 := by simp
  have HS1 := OutK.start (K := fun k => k < w.heap.size + 1) (w.alloc (.cells #[.slice a m.length cap] 24)) 80 (fun k hk => by omega)
  have HC1 := outCount_k _ _ [] [(m.length : Int)] #[.int .i64 (m.length : Int)] rfl 1 rfl _ HS1 (fun k hk => by simp; omega) (by simp) (by intro x hx; simp at hx; omega)
  have hz2 : ((w.alloc (.cells #[.slice a m.length cap] 24)).alloc (.cells #[.slice none 0 0] 80)).heap.size = w.heap.size + 1 + 1 := by simp
  rw [hz2, hz1] at HC1
  have HC := Lib.hid HC1
  clear HC1 HS1 hz1 hz2
  go_enter Tryd.func14, Tryd.ntmps14
  go_wp2_with fail
  refine HC.out.mono ?_
  rintro r w1 ⟨rfl, ho, ht⟩
  have hc0 : w1.cell? ⟨w.heap.size, 0, none⟩ = some (.slice a m.length cap) := (ht.cell (p := ⟨w.heap.size, 0, none⟩) (by simp; omega) (by simp)).trans (by simp)
  have HB1 : Hid (Below w.heap.size w w1) := Lib.hid (((((Below.refl _ w).alloc (Nat.le_refl _) _).alloc (by simp) _)).trans (ht.below (by simp; omega) (fun k hk h => h (by omega))))
  have HO1 := Lib.hid (ho.sub (K := fun k => k < w.heap.size) (fun k hk => by omega))
  clear ho ht HC
  go_wp2
  go_loopw [16] (fun i wr => ∃ k : Nat, k ≤ m.length ∧ i = .int .i64 k ∧ Hid (OutK (fun k => k < w.heap.size) (w.heap.size + 1) (countsB [(m.length : Int)] ++ fnsB (m.take k)) wr) ∧ Hid (Below w.heap.size w wr)) (fun i _ => m.length - (intOf i).toNat)
  case atStart => exact ⟨0, by omega, rfl, Lib.hid (by simpa [fnsB] using HO1.out), HB1⟩
  case round =>
    obtain ⟨k, hk, rfl, HO, HB⟩ := hrel
    by_cases hlt : k < m.length
    · have HS := Lib.hid (fnsB_snoc m k hlt)
      have HLN : Hid ((countsB [(m.length : Int)] ++ fnsB (m.take k)).length ≤ 30000000) := Lib.hid (by
        have h1 := countsB_len (ns := [(m.length : Int)]) (by intro x hx; simp at hx; omega)
        have h2 := fnsB_len (m := m.take k) (fun f hf => HM.out f (List.mem_of_mem_take hf))
        have h3 := List.length_take_le k m
        rw [List.length_append]
        simp at h1
        omega)
      obtain ⟨b, off, rfl, hcell⟩ := HR.out (by omega)
      obtain ⟨c0, c1, x, c, c2, hir⟩ := hcell k hlt
      have hbw : b < w.heap.size := block_lt_of_cell c0
      replace c0 := (HB.out.cell (p := ⟨b, off + k * 3, none⟩) hbw).trans c0
      replace c1 := (HB.out.cell (p := ⟨b, off + k * 3 + 1, none⟩) hbw).trans c1
      replace c2 := (HB.out.cell (p := ⟨b, off + k * 3 + 2, none⟩) hbw).trans c2
      have HIR := Lib.hid hir
      have HOK := Lib.hid (HM.out _ (List.getElem_mem hlt))
      have hcl := HOK.out.2.2.2.2.1
      have hz := HB.out.size
      have hb : b < wr.heap.size := by omega
      clear hcell hir
      generalize m[k] = f at HS c0 c1 c2 hcl HIR HOK
      obtain ⟨ar, lo, co⟩ := f
      simp only at c0 c1 c2 hcl HIR
      have hz1 : (wr.alloc (.cells #[.int .i64 ar, .int .i64 lo, .slice x co.length c] 29)).heap.size = wr.heap.size + 1 := by simp
      have hcc := outCount_k _ _ _ [ar, lo, (co.length : Int)] #[.int .i64 ar, .int .i64 lo, .int .i64 (co.length : Int)] rfl 3 rfl _ (HO.out.add (.cells #[.int .i64 ar, .int .i64 lo, .slice x co.length c] 29))
        (by rintro k (hk | rfl) <;> omega) (by have := HLN.out; simp only [List.length_cons, List.length_nil]; omega) (by intro x hx; have h1 := HOK.out.2.1; have h2 := HOK.out.2.2.2.1; simp at h1 h2 hx; omega)
      rw [hz1] at hcc
      have HCC := Lib.hid hcc
      clear hcc hz1
      go_wp2_with fail
      refine HCC.out.mono ?_
      rintro r w2 ⟨rfl, ho, ht⟩
      have d2 : w2.cell? ⟨wr.heap.size, 2, none⟩ = some (.slice x co.length c) := (ht.cell (p := ⟨wr.heap.size, 2, none⟩) (by simp) (by simp)).trans (by simp)
      have HB2 : Hid (Below w.heap.size w w2) := Lib.hid ((HB.out.alloc hz _).trans (ht.below (by simp; omega) (fun k hk h => h (.inl hk))))
      have HO2 := Lib.hid (ho.sub (K := fun k => k < w.heap.size) (fun k hk => .inl hk))
      clear ho ht HCC
      generalize hL : countsB [(m.length : Int)] ++ fnsB (m.take k) = L at HO HLN HO2
      have HLL := Lib.hid hL
      clear hL
      obtain ⟨wo, rfl⟩ : ∃ wo : World, wo = wr := ⟨_, rfl⟩
      go_wp2
      go_loopw [32] (fun i wr => ∃ j : Nat, j ≤ co.length ∧ i = .int .i64 j ∧ Hid (OutK (fun k => k < w.heap.size) (w.heap.size + 1) (L ++ countsB [ar, lo, (co.length : Int)] ++ codeB (co.take j)) wr) ∧ Hid (Below w.heap.size w wr)) (fun i _ => co.length - (intOf i).toNat)
      case atStart => exact ⟨0, by omega, rfl, Lib.hid (by simpa [codeB] using HO2.out), HB2⟩
      case round =>
        obtain ⟨j, hj, rfl, HOj, HBj⟩ := hrel
        have HLj : Hid ((L ++ countsB [ar, lo, (co.length : Int)] ++ codeB (co.take j)).length ≤ 40000000) := Lib.hid (by
          have h1 := countsB_len (ns := [ar, lo, (co.length : Int)]) (by intro x hx; have h1 := HOK.out.2.1; have h2 := HOK.out.2.2.2.1; simp at h1 h2 hx; omega)
          have h2 := codeB_len (l := co.take j) (fun f hf => HOK.out.2.2.2.2.2 f (List.mem_of_mem_take hf))
          have h3 := List.length_take_le j co
          have h4 := HLN.out
          simp only [List.length_append, List.length_cons, List.length_nil] at h1 ⊢
          omega)
        have hzj := HBj.out.size
        by_cases hjl : j < co.length
        · have HSj := Lib.hid (codeB_snoc co j hjl)
          obtain ⟨b2, off2, rfl, hcell⟩ := HIR.out.below HBj.out (by omega)
          obtain ⟨e0, e1⟩ := hcell j hjl
          have hb2 := block_lt_of_cell e0
          have HXO := Lib.hid (HOK.out.2.2.2.2.2 _ (List.getElem_mem hjl))
          clear hcell
          generalize co[j] = ins at HSj e0 e1 HXO
          obtain ⟨op, ag⟩ := ins
          simp only at e0 e1
          have hww := write_any _ _ _ (op, ag) _ (HOj.out.alloc (.cells #[.int .u8 op, .int .i64 ag] 47)) (fun k hk => by simp; omega) (by have := HLj.out; omega) HXO.out
          have HWW := Lib.hid hww
          clear hww
          go_wp2_with fail
          refine HWW.out.mono ?_
          rintro r w3 ⟨rfl, ho, ht⟩
          have HB3 : Hid (Below w.heap.size w w3) := Lib.hid ((HBj.out.alloc hzj _).trans (ht.below (by simp; omega) (fun k hk h => h hk)))
          have HO3 := Lib.hid ho
          clear ho ht HWW
          go_wp2
          go_roundw
          case rel => exact ⟨j + 1, by omega, by go_num, Lib.hid (by rw [HSj.out, ← List.append_assoc]; exact HO3.out), HB3⟩
          case measure => simp [intOf]; omega
        · go_wp2
          go_roundw
          case rel => exact ⟨k + 1, by omega, by go_num, Lib.hid (by
            rw [HS.out, ← List.append_assoc, HLL.out]
            have := HOj.out
            rw [List.take_of_length_le (by omega), List.append_assoc] at this
            exact this), HBj⟩
          case measure => simp [intOf]; omega
    · go_wp2_with fail
      have hfin : OutK (fun k => k < w.heap.size) (w.heap.size + 1) (textB m) wr := by have := HO.out; rwa [List.take_of_length_le (by omega)] at this
      refine (outText_k _ _ _ _ hfin).mono ?_
      rintro r w' ⟨rfl, rfl⟩
      clear hfin
      go_wp2
      go_ret
      exact ⟨rfl, HB.out⟩
end Go.Proofs.YtmonbjlkkhpinaaDoor
