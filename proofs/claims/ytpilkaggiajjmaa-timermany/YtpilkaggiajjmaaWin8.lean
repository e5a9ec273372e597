/-
  Layer 13: what stands at the head of the laws.
-/
import Derived.Test.YtpilkaggiajjmaaWin7
namespace Go.Proofs.Ytpilkaggiajjmaa
open Go.RowKit
set_option linter.unusedVariables false

/-- What came at b1, what was sent at b2. -/
structure Aw (w : World) (b1 b2 : Nat) (mo : Option Nat) (s : Ws) (wr : World) : Prop where
  wi : WI wr b1 mo s
  o0 : O0At wr b2 7
  bel : Below w.heap.size w wr
  h1 : w.heap.size ≤ b1
  h2 : w.heap.size ≤ b2
  ne : b1 ≠ b2
  hm : ∀ r, mo = some r → w.heap.size ≤ r ∧ r ≠ b2
theorem Aw.keep {w : World} {b1 b2 : Nat} {mo : Option Nat} {s : Ws} {wr w' : World} (h : Aw w b1 b2 mo s wr) (hb : Below wr.heap.size wr w') : Aw w b1 b2 mo s w' :=
  ⟨h.wi.keep hb, h.o0.touch (touch_of_below (S := fun _ => False) hb) id, h.bel.trans (hb.mono h.bel.size), h.h1, h.h2, h.ne, h.hm⟩
theorem Aw.put {w : World} {b1 b2 : Nat} {mo mo' : Option Nat} {s s' : Ws} {wr w' : World} (h : Aw w b1 b2 mo s wr) (hw : WI w' b1 mo' s') (hf : ∀ r, mo' = some r → mo = some r ∨ wr.heap.size ≤ r) (ht : Touch (fun k => k = b1 ∨ mo = some k) wr w') : Aw w b1 b2 mo' s' w' := by
  have hs := h.bel.size
  have hol := h.o0.lt
  refine ⟨hw, h.o0.touch ht (fun e => ?_), h.bel.trans (ht.below hs fun k hk e => ?_), h.h1, h.h2, h.ne, fun r hr => ?_⟩
  · rcases e with e | e
    · exact h.ne e.symm
    · exact (h.hm _ e).2 rfl
  · rcases e with e | e
    · have := h.h1; omega
    · have := (h.hm _ e).1; omega
  · rcases hf r hr with e | e
    · exact h.hm r e
    · exact ⟨by omega, by omega⟩
theorem WI.wat {w : World} {b : Nat} {mo : Option Nat} {s : Ws} (h : WI w b mo s) (hl : s.l ≠ []) : ∃ r, WAt w b r s := by
  rcases h with ⟨h1, h2, h3⟩ | ⟨r, h1, h2⟩
  · exact absurd h2 hl
  · exact ⟨r, h2⟩
theorem bits_five (B : Nat) (h : ∀ k, B.testBit k = true ↔ ∃ p ∈ ([(6, [98]), (8, [100])] : List (Nat × List UInt8)), distW p.1 5 = k + 1) : B = 5 := by
  apply Nat.eq_of_testBit_eq
  intro k
  have hk := h k
  have e6 : distW 6 5 = 1 := by decide
  have e8 : distW 8 5 = 3 := by decide
  simp only [List.mem_cons, List.not_mem_nil, or_false, exists_eq_or_imp, exists_eq_left, e6, e8] at hk
  have h5 : Nat.testBit 5 k = true ↔ 1 = k + 1 ∨ 3 = k + 1 := by
    match k with
    | 0 => decide
    | 1 => decide
    | 2 => decide
    | k + 3 =>
      have : Nat.testBit 5 (k + 3) = false := Nat.testBit_lt_two_pow (Nat.lt_of_lt_of_le (by decide : 5 < 2 ^ 3) (Nat.pow_le_pow_right (by decide) (by omega)))
      rw [this]; simp
  cases hB : B.testBit k <;> cases h5B : Nat.testBit 5 k <;> simp_all
theorem bits_one (B : Nat) (h : ∀ k, B.testBit k = true ↔ ∃ p ∈ [((8 : Nat), ([100] : List UInt8))], distW p.1 7 = k + 1) : B = 1 := by
  apply Nat.eq_of_testBit_eq
  intro k
  have hk := h k
  have e8 : distW 8 7 = 1 := by decide
  simp only [List.mem_cons, List.not_mem_nil, or_false, exists_eq_left, e8] at hk
  have h5 : Nat.testBit 1 k = true ↔ 1 = k + 1 := by
    match k with
    | 0 => decide
    | k + 1 =>
      have : Nat.testBit 1 (k + 1) = false := Nat.testBit_lt_two_pow (Nat.lt_of_lt_of_le (by decide : 1 < 2 ^ 1) (Nat.pow_le_pow_right (by decide) (by omega)))
      rw [this]; simp
  cases hB : B.testBit k <;> cases h5B : Nat.testBit 1 k <;> simp_all
theorem ack_same (a b : Int) (w : World) : (binOp .eql 43 (.agg #[.int .u32 a, .int .u32 b]) (.agg #[.int .u32 a, .int .u32 b])).run Try.prog w = .ok (.bool true) w := by
  go_simp
theorem aw_put1 : putW ⟨5, []⟩ 6 [98] = (⟨5, [(6, [98])]⟩, [], 0) := by kernel_rfl
theorem aw_put2 : putW ⟨5, [(6, [98])]⟩ 8 [100] = (⟨5, [(6, [98]), (8, [100])]⟩, [], 0) := by kernel_rfl
theorem aw_put3 : putW ⟨5, [(6, [98]), (8, [100])]⟩ 5 [97] = (⟨7, [(8, [100])]⟩, [[97], [98]], 0) := by kernel_rfl
theorem aw_ok2 : OkW ⟨5, [(6, [98]), (8, [100])]⟩ := by
  intro p hp
  simp only [List.mem_cons, List.not_mem_nil, or_false] at hp
  rcases hp with rfl | rfl <;> decide
theorem aw_ok3 : OkW ⟨7, [(8, [100])]⟩ := by
  intro p hp
  simp only [List.mem_cons, List.not_mem_nil, or_false] at hp
  subst hp; decide
set_option maxRecDepth 100000 in
set_option maxHeartbeats 2000000 in
theorem awake13_any (w : World) : Calls Try.prog 14 #[] w fun e w' => e = .returned (.bool true) ∧ Below w.heap.size w w' := by
  have HEX := Lib.hid (fun W => expect_any 5 (by decide) W)
  have HBG := Lib.hid (fun W => begin_any 7 W)
  have HP1 := Lib.hid (fun b mo W h => inPut_any b mo ⟨5, []⟩ 6 [98] W h (by decide) (by simp))
  have HP2 := Lib.hid (fun b mo W h => inPut_any b mo ⟨5, [(6, [98])]⟩ 8 [100] W h (by decide) (by simp))
  have HP3 := Lib.hid (fun b mo W h => inPut_any b mo ⟨5, [(6, [98]), (8, [100])]⟩ 5 [97] W h (by decide) (by simp))
  rw [aw_put1] at HP1
  rw [aw_put2] at HP2
  rw [aw_put3] at HP3
  unfold itV at HP1 HP2 HP3
  have HH6 := Lib.hid (fun W => has_any 5 5 6 W (by decide) (by decide) (by decide))
  have HH5 := Lib.hid (fun W => has_any 5 5 5 W (by decide) (by decide) (by decide))
  rw [show hasB 5 5 6 = true by decide] at HH6
  rw [show hasB 5 5 5 = false by decide] at HH5
  go_enter Try.func14, Try.ntmps14
  go_wp2_with fail
  refine (HEX.out _).mono ?_
  rintro r w1 ⟨rfl, hwi, hb1⟩
  have HWI := Lib.hid hwi
  have HB1 := Lib.hid hb1
  clear hwi hb1 HEX
  go_wp2_with fail
  refine (HBG.out _).mono ?_
  rintro r w2 ⟨rfl, ho, hb2⟩
  have HA2 : Hid (Aw w w.heap.size w1.heap.size none ⟨5, []⟩ w2) := Lib.hid ⟨HWI.out.keep hb2, ho, HB1.out.trans (hb2.mono HB1.out.size), Nat.le_refl _, HB1.out.size, by have := HWI.out.lt; omega, (fun r hr => by cases hr)⟩
  clear ho hb2 HBG HWI HB1
  generalize w.heap.size = b1 at HA2 ⊢
  generalize w1.heap.size = b2 at HA2 ⊢
  go_wp2_with fail
  refine (HP1.out _ _ _ HA2.out.wi).mono ?_
  rintro r w3 ⟨a3, c3, mo3, rfl, hw3, hf3, -, ht3⟩
  have HA3 := Lib.hid (HA2.out.put hw3 hf3 ht3)
  clear hw3 hf3 ht3 HA2 HP1
  go_wp2_with fail
  refine (HP2.out _ _ _ HA3.out.wi).mono ?_
  rintro r w4 ⟨a4, c4, mo4, rfl, hw4, hf4, -, ht4⟩
  have HA4 := Lib.hid (HA3.out.put hw4 hf4 ht4)
  clear hw4 hf4 ht4 HA3 HP2
  obtain ⟨r4, hwat⟩ := HA4.out.wi.wat (by simp)
  have HAK := Lib.hid (inAck_some b1 r4 _ w4 hwat aw_ok2)
  clear hwat
  go_wp2_with fail
  refine HAK.out.mono ?_
  rintro r w5 ⟨⟨B, rfl, -, hB⟩, hb5⟩
  have hB5 := bits_five B hB
  subst hB5
  have HA5 := Lib.hid (HA4.out.keep hb5)
  clear hb5 HA4 HAK hB
  have HA6 := Lib.hid (HA5.out.keep (bel_alloc (Below.refl _ _) (.cells #[.int .u32 5, .int .u32 5] 43)))
  have x0 : (w5.alloc (.cells #[.int .u32 5, .int .u32 5] 43)).cell? ⟨w5.heap.size, 0, none⟩ = some (.int .u32 5) := by simp
  have x1 : (w5.alloc (.cells #[.int .u32 5, .int .u32 5] 43)).cell? ⟨w5.heap.size, 1, none⟩ = some (.int .u32 5) := by simp
  have HX0 := Lib.hid x0
  have HX1 := Lib.hid x1
  have HN1 : Hid (∀ k, mo4 = some k → k ≠ w5.heap.size) := Lib.hid (fun k hk => by
    rcases HA5.out.wi with ⟨h1, -⟩ | ⟨r', h1, h2⟩
    · rw [h1] at hk; cases hk
    · rw [h1] at hk; cases hk; have := h2.mp.lt; omega)
  have hb1l := HA5.out.wi.lt
  have hb2l := HA5.out.o0.lt
  clear x0 x1 HA5
  go_wp2_with fail
  generalize w5.alloc (.cells #[.int .u32 5, .int .u32 5] 43) = W6 at HA6 HX0 HX1 ⊢
  generalize w5.heap.size = X at HX0 HX1 HN1 hb1l hb2l ⊢
  refine (HP3.out _ _ _ HA6.out.wi).mono ?_
  rintro r w7 ⟨a7, c7, mo7, rfl, hw7, hf7, -, ht7⟩
  have hnX : ¬ (X = b1 ∨ mo4 = some X) := by
    rintro (e | e)
    · omega
    · exact HN1.out X e rfl
  have y0 := (ht7.cell (p := ⟨X, 0, none⟩) (block_lt_of_cell HX0.out) hnX).trans HX0.out
  have y1 := (ht7.cell (p := ⟨X, 1, none⟩) (block_lt_of_cell HX1.out) hnX).trans HX1.out
  have HA7 := Lib.hid (HA6.out.put hw7 hf7 ht7)
  have HX0 := Lib.hid y0
  have HX1 := Lib.hid y1
  clear hw7 hf7 ht7 HA6 HP3 y0 y1
  have HPU := Lib.hid (push_ok b2 7 none 0 [] [120] w7 (HA7.out.o0.oat (by decide)) (by simp) (by simp) (.inl rfl))
  go_wp2_with fail
  refine HPU.out.mono ?_
  rintro r w8 ⟨rfl, a8, c8, -, -, ht8⟩
  have hn8 : ∀ k, k ≠ b2 → ¬ (k = b2 ∨ (none : Option Addr).map (·.block) = some k) := fun k hk e => by
    rcases e with e | e
    · exact hk e
    · simp at e
  have y0 := (ht8.cell (p := ⟨X, 0, none⟩) (block_lt_of_cell HX0.out) (hn8 X (by omega))).trans HX0.out
  have y1 := (ht8.cell (p := ⟨X, 1, none⟩) (block_lt_of_cell HX1.out) (hn8 X (by omega))).trans HX1.out
  have HW8 := Lib.hid (HA7.out.wi.touch ht8 (hn8 b1 HA7.out.ne) (fun r hr => hn8 r (HA7.out.hm r hr).2))
  have HB8 := Lib.hid (HA7.out.bel.trans (ht8.below HA7.out.bel.size (fun k hk => hn8 k (by have := HA7.out.h2; omega))))
  clear ht8 HPU HX0 HX1
  obtain ⟨r8, hwat⟩ := HW8.out.wat (by simp)
  have HAK := Lib.hid (inAck_some b1 r8 _ w8 hwat aw_ok3)
  clear hwat
  have hs1 := ack_same 5 5
  have hs2 := ack_same 7 1
  have hXl := block_lt_of_cell y0
  simp only at hXl
  go_wp2_with fail
  refine HAK.out.mono ?_
  rintro r w9 ⟨⟨B, rfl, -, hB⟩, hb9⟩
  have hB1 := bits_one B hB
  subst hB1
  have z0 := (hb9.cell (p := ⟨X, 0, none⟩) (block_lt_of_cell y0)).trans y0
  have z1 := (hb9.cell (p := ⟨X, 1, none⟩) (block_lt_of_cell y1)).trans y1
  have HB9 := Lib.hid (HB8.out.trans (hb9.mono HB8.out.size))
  clear hb9 HAK hB y0 y1 hXl
  have hXl := block_lt_of_cell z0
  simp only at hXl
  go_wp2_with fail
  refine (HH6.out _).mono ?_
  rintro r w10 ⟨rfl, hb10⟩
  have y0 := (hb10.cell (p := ⟨X, 0, none⟩) (block_lt_of_cell z0)).trans z0
  have y1 := (hb10.cell (p := ⟨X, 1, none⟩) (block_lt_of_cell z1)).trans z1
  have HB10 := Lib.hid (HB9.out.trans (hb10.mono HB9.out.size))
  clear hb10 z0 z1 hXl HH6
  have hXl := block_lt_of_cell y0
  simp only at hXl
  go_wp2_with fail
  refine (HH5.out _).mono ?_
  rintro r w11 ⟨rfl, hb11⟩
  have HB11 := Lib.hid (HB10.out.trans (hb11.mono HB10.out.size))
  clear hb11
  go_wp2
  go_ret
  exact ⟨rfl, HB11.out⟩
end Go.Proofs.Ytpilkaggiajjmaa
