/-
  PROVED: for every text, every place and every byte, the law WireBent answers true, and the text reads afterwards as before. No condition of our own.
-/
import Derived.Test.YtblmahofopjceaaAwake2
import Derived.WalkKit
import Derived.ProofKit
import Derived.OpenShut
import Derived.ShutString
import Derived.ChangeOld
import Derived.Below
import Derived.SliceStrings
namespace Go.Proofs.Ytblmahofopjceaa.wireBent
open Go.ChangeShapes Go.WideShapes Go.ChangeAt Go.RowKit
open Go.ChangeMaps (open_string shut_string)
set_option linter.unusedVariables false
theorem sum4_inj {x y : Nat} (hx : x < 4294967296) (hy : y < 4294967296) (h : sum4 x = sum4 y) : x = y := by
  simp only [sum4, List.cons.injEq, and_true] at h
  obtain ⟨h0, h1, h2, h3⟩ := h
  have g : ∀ a b : Nat, byteOf (a % 256) = byteOf (b % 256) → a % 256 = b % 256 := fun a b hh => by
    have := congrArg UInt8.toNat hh
    rwa [byteOf_toNat (by omega), byteOf_toNat (by omega)] at this
  have := g _ _ h0
  have := g _ _ h1
  have := g _ _ h2
  have := g _ _ h3
  omega
theorem crc32_set (l : List UInt8) (i : Nat) (hi : i < l.length) (b : UInt8) (hb : b ≠ l[i]) : crc32 (7 :: l.set i b) ≠ crc32 (7 :: l) := by
  have h := crcS_set (7 :: l) (i + 1) (by simpa using hi) b (by simpa using hb) 4294967295 (by decide)
  rw [List.set_cons_succ] at h
  have h1 := crcS_lt (7 :: l.set i b) (x := 4294967295) (by decide)
  have h2 := crcS_lt (7 :: l) (x := 4294967295) (by decide)
  unfold crc32
  omega
/-- A datagram of which one byte is another one is told. -/
theorem unseal_set (l : List UInt8) (i : Nat) (hi : i < (sealB l).length) (b : UInt8) (hb : b ≠ (sealB l)[i]) : unsealB ((sealB l).set i b) = ([], if i = 0 then 6 else 5) := by
  have hlen : ((sealB l).set i b).length = l.length + 5 := by rw [List.length_set, sealB_length]
  unfold unsealB
  rw [if_neg (by rw [hlen]; omega)]
  have e : sealB l = 7 :: (sum4 (crc32 (7 :: l)) ++ l) := rfl
  cases i with
  | zero =>
    rw [if_pos (by rw [e]; simpa [e] using hb)]
    rfl
  | succ j =>
    have hj : j < l.length + 4 := by rw [sealB_length] at hi; omega
    have e7 : (sealB l).set (j + 1) b = 7 :: (sum4 (crc32 (7 :: l)) ++ l).set j b := by rw [e]; rfl
    have hbj : b ≠ (sum4 (crc32 (7 :: l)) ++ l)[j]'(by simp [sum4_length]; omega) := by simpa [e] using hb
    rw [if_neg (by rw [e7]; simp), if_pos ?_]
    · rfl
    rw [e7]
    show ((sum4 (crc32 (7 :: l)) ++ l).set j b).take 4 ≠ sum4 (crc32 (7 :: ((sum4 (crc32 (7 :: l)) ++ l).set j b).drop 4))
    by_cases h4 : j < 4
    · have hs : (sum4 (crc32 (7 :: l)) ++ l).set j b = (sum4 (crc32 (7 :: l))).set j b ++ l := by
        rw [List.set_append_left _ _ (by rw [sum4_length]; exact h4)]
      rw [hs, List.take_left' (by rw [List.length_set, sum4_length]), List.drop_left' (by rw [List.length_set, sum4_length])]
      intro hh
      rw [List.getElem_append_left (by rw [sum4_length]; exact h4)] at hbj
      have hlt : j < (sum4 (crc32 (7 :: l))).length := by rw [sum4_length]; exact h4
      have ht : ((sum4 (crc32 (7 :: l))).set j b)[j]? = (sum4 (crc32 (7 :: l)))[j]? := by rw [hh]
      rw [List.getElem?_set_self hlt, List.getElem?_eq_getElem hlt] at ht
      exact hbj (Option.some.inj ht)
    · have hs : (sum4 (crc32 (7 :: l)) ++ l).set j b = sum4 (crc32 (7 :: l)) ++ l.set (j - 4) b := by
        rw [List.set_append_right _ _ (by rw [sum4_length]; omega), sum4_length]
      rw [hs, List.take_left' (sum4_length _), List.drop_left' (sum4_length _)]
      intro hh
      rw [List.getElem_append_right (by rw [sum4_length]; omega)] at hbj
      simp only [sum4_length] at hbj
      exact crc32_set l (j - 4) (by omega) b hbj (sum4_inj (crc32_lt _) (crc32_lt _) hh).symm
theorem unseal_bent (l : List UInt8) (i c : Nat) (hi : i < (bs (sealB l)).size) (hc : c < 256) (h0 : c ≠ 0) : unsealB (bent (bs (sealB l)) i c) = ([], if i = 0 then 6 else 5) := by
  rw [bs_size] at hi
  unfold bent
  rw [bs_list]
  refine unseal_set l i hi _ ?_
  have e : (sealB l).getD i 0 = (sealB l)[i] := by rw [List.getD_eq_getElem?_getD, List.getElem?_eq_getElem hi]; rfl
  rw [e]
  intro h
  have h2 := congrArg UInt8.toNat h
  rw [UInt8.toNat_ofNat_of_lt' (by simpa using xor_lt8 (byte_lt _) hc)] at h2
  exact xor_byte_ne h0 h2
set_option maxHeartbeats 1000000 in
theorem walk (a0 : ByteArray) (w0 : a0.size ≤ maxLen) (a1 : Int) (w1 : (Lit.int .i64 a1).wf = true) (a2 : Int) (w2 : (Lit.int .u8 a2).wf = true) (w : World) :
    Calls Try.prog 11 #[.string a0, .int .i64 a1, .int .u8 a2] w fun e w' => e = .returned (.bool true) ∧ Below w.heap.size w w' := by
  have hx : 0 ≤ a2 ∧ a2 ≤ 255 := by simpa [Lit.wf, IntKind.min, IntKind.max, IntKind.signed, IntKind.bits] using w2
  obtain ⟨c, rfl⟩ := Int.eq_ofNat_of_zero_le hx.1
  have hx2 : c < 256 := by omega
  clear hx w1 w2
  go_enter Try.func11, Try.ntmps11
  go_wp2_with fail
  refine (cut_any a0 100 _ w0 (by decide)).mono ?_
  rintro e w' ⟨rfl, rfl⟩
  have hs := cutB_le a0 100
  generalize cutB a0 100 = s at hs ⊢
  go_wp2_with fail
  refine (seal_any s _ (by omega)).mono ?_
  rintro e w1 ⟨rfl, hb1⟩
  have hdz : (bs (sealB s.data.toList)).size = s.size + 5 := by rw [bs_size, sealB_length]; simp
  obtain ⟨cap, w2, hconv, hb2, hz2, hc, hf⟩ := bytes_of w1 (bs (sealB s.data.toList))
  have HU := Lib.hid (fun i => unseal_bent s.data.toList i c)
  generalize bs (sealB s.data.toList) = d at hdz hconv hc hf HU ⊢
  have hd : d.size ≤ 105 := by omega
  have HC := Lib.hid hc
  have HF := Lib.hid hf
  clear hc hf hdz hs
  go_wp2_with fail
  clear hconv
  refine (awake2_any _).mono ?_
  rintro e w3 ⟨rfl, hb3⟩
  have hz3 := hb3.size
  have HB3 := Lib.hid (show Below w.heap.size w w3 from (hb1.trans (hb2.mono hb1.size)).trans (hb3.mono (Nat.le_trans hb1.size hb2.size)))
  have hz1 := hb1.size
  by_cases h1 : a1 < 0
  · go_wp2_with fail
    refine (awake2_any _).mono ?_
    rintro e w4 ⟨rfl, hb4⟩
    go_wp2
    go_ret
    exact ⟨rfl, HB3.out.trans (hb4.mono HB3.out.size)⟩
  by_cases h2 : (d.size : Int) ≤ a1
  · go_wp2_with fail
    refine (awake2_any _).mono ?_
    rintro e w4 ⟨rfl, hb4⟩
    go_wp2
    go_ret
    exact ⟨rfl, HB3.out.trans (hb4.mono HB3.out.size)⟩
  by_cases h3 : c = 0
  · subst h3
    go_wp2_with fail
    refine (awake2_any _).mono ?_
    rintro e w4 ⟨rfl, hb4⟩
    go_wp2
    go_ret
    exact ⟨rfl, HB3.out.trans (hb4.mono HB3.out.size)⟩
  obtain ⟨i, rfl⟩ := Int.eq_ofNat_of_zero_le (show 0 ≤ a1 by omega)
  have hi : i < d.size := by omega
  have h3' : ((c : Int) == 0) = false := by simp; omega
  have h1' : decide ((i : Int) < 0) = false := by simp
  have h2' : decide (d.size ≤ i) = false := by simp; omega
  have hc3 : ∀ j (h : j < d.size), w3.cell? ⟨w1.heap.size, j, none⟩ = some (.int .u8 (d[j].toNat : Int)) := fun j h => (hb3.cell (p := ⟨w1.heap.size, j, none⟩) hz2).trans (HC.out j h)
  have hf3 : w3.frozen? ⟨w1.heap.size, i, none⟩ = false := (hb3.frozen (p := ⟨w1.heap.size, i, none⟩) hz2).trans (HF.out i hi)
  have hback := bytes_back (w3.setCell ⟨w1.heap.size, i, none⟩ (.int .u8 (bits .xor .u8 (d[i].toNat : Int) (c : Int)))) w1.heap.size cap d.size (bent d i c) (bent_length d i c).symm (bent_cells d i c hi hx2 w3 _ hc3)
  have hci := hc3 i hi
  have HU' := Lib.hid (HU.out i hi hx2 h3)
  have hbz : (bent d i c).length = d.size := bent_length d i c
  have hcall : ∀ w : World, Calls Try.prog 42 #[.string (ByteArray.mk (bent d i c).toArray)] w fun e w' => e = .returned (.tuple #[.string (bs []), .int .i64 ((if i = 0 then 6 else 5 : Nat) : Int)]) ∧ Below w.heap.size w w' := fun w => by
    have h := unseal_any (bs (bent d i c)) w (by rw [bs_size]; omega)
    rw [bs_list, HU'.out] at h
    exact h
  have HCall := Lib.hid hcall
  generalize ByteArray.mk (bent d i c).toArray = t at hback HCall
  have he : (bs []).toList = [] := by rw [ByteArray.toList_eq, bs_list]
  clear hcall hc3 HC HF HU HU' hbz hb3 hb2 hb1
  by_cases hi0 : i = 0
  · have hib : ((i : Int) == 0) = true := by simp; omega
    have HI0 := Lib.hid hi0
    clear hi0
    go_wp2_with fail
    refine (HCall.out _).mono ?_
    rintro e w4 ⟨rfl, hb4⟩
    rw [if_pos HI0.out]
    go_wp2
    go_ret
    refine ⟨rfl, ?_⟩
    have h5 := HB3.out.setCell (p := ⟨w1.heap.size, i, none⟩) hz1 (.int .u8 (bits .xor .u8 (d[i].toNat : Int) (c : Int)))
    exact h5.trans (hb4.mono h5.size)
  · have hib : ((i : Int) == 0) = false := by simp; omega
    have HI0 := Lib.hid hi0
    clear hi0
    go_wp2_with fail
    refine (HCall.out _).mono ?_
    rintro e w4 ⟨rfl, hb4⟩
    rw [if_neg HI0.out]
    go_wp2
    go_ret
    refine ⟨rfl, ?_⟩
    have h5 := HB3.out.setCell (p := ⟨w1.heap.size, i, none⟩) hz1 (.int .u8 (bits .xor .u8 (d[i].toNat : Int) (c : Int)))
    exact h5.trans (hb4.mono h5.size)

/-! ### THE ROW's STEP -/
theorem own : ownKnob Try.prog.godebug = none := by kernel_rfl
theorem laidOut : laidOutB Try.prog = true := by kernel_rfl
set_option maxRecDepth 100000 in
theorem lifted (os : Os) (started : os.Started) (H : Type) (enc : TypeId × Value → H) :
    ReturnsInHanded {} Try.checked os 11 .any (Rows.wireBentSpec.pre6 enc Try.prog Try.f11 Rows.wireBentRow.domain false) (Rows.wireBentSpec.post enc Try.prog Try.f11 false true false false) := by
  refine returnsInHanded_of_change (C := Try.checked) own started (by kernel_rfl) Try.func11
    (ChangeSpec.witness6 (enc := enc) (C := Try.checked) false ⟨#[], #[.string ByteArray.empty, .int .i64 0, .int .u8 0], []⟩ 8 (by kernel_rfl) (by kernel_rfl) (by kernel_rfl) (by kernel_rfl)) ?_
  intro W base args ds gs before hval0 hW hcnd _
  have hval : ∀ (j : Nat) t v, Try.f11.params[j]? = some t → args[j]? = some v → Value.okWide Try.prog W .any base t v := hval0
  have hW' := hW
  obtain ⟨p, q, hA0, hV, rfl, hfz, hnd⟩ := hW
  have hA : DataW.TrodAll enc Try.prog W 0 (fun _ => true) true Try.f11.params.toList args.toList ds p := hA0
  rw [Try.params11] at hA hval
  obtain ⟨v0, vs0, d0, ds0, p0, q0, hargs, rfl, rfl, h0, r0⟩ := trodAll_cons hA
  obtain ⟨v1, vs1, d1, ds1, p1, q1, rfl, rfl, rfl, h1, r1⟩ := trodAll_cons r0
  obtain ⟨v2, vs2, d2, ds2, p2, q2, rfl, rfl, rfl, h2, r2⟩ := trodAll_cons r1
  obtain ⟨rfl, rfl, rfl⟩ := trodAll_nil r2
  obtain rfl : args = #[v0, v1, v2] := by cases args; simp_all
  obtain ⟨rfl, rfl⟩ := trodVars_none hV
  have k0 := h0
  have lt0 : ∀ x ∈ p0, x.block < W.heap.size := by obtain ⟨m, hm⟩ := k0; exact DataW.trod_lt m _ _ _ hm
  obtain ⟨a0, rfl, rfl, rfl, w0⟩ := open_string Try.underlying9 (hval 0 9 v0 rfl rfl) h0
  have k1 := h1
  have lt1 : ∀ x ∈ p1, x.block < W.heap.size := by obtain ⟨m, hm⟩ := k1; exact DataW.trod_lt m _ _ _ hm
  obtain ⟨a1, rfl, rfl, rfl, w1⟩ := open_int Try.underlying3 (hval 1 3 v1 rfl rfl) h1
  have k2 := h2
  have lt2 : ∀ x ∈ p2, x.block < W.heap.size := by obtain ⟨m, hm⟩ := k2; exact DataW.trod_lt m _ _ _ hm
  obtain ⟨a2, rfl, rfl, rfl, w2⟩ := open_int Try.underlying5 (hval 2 5 v2 rfl rfl) h2
  clear hA0 hval0
  refine (walk a0 w0 a1 w1 a2 w2 W).mono fun e W' ⟨he, bel⟩ => ?_
  subst he
  exact ⟨_, rfl, _, _, _, [], _, [], hW', trodAll_mk1 (shut_bool Try.underlying4 _), (trodAll_cons_mk (Below.trod laidOut (by kernel_rfl) (of_decide_eq_true (by kernel_rfl)) k0 bel lt0) (trodAll_cons_mk (Below.trod laidOut (by kernel_rfl) (of_decide_eq_true (by kernel_rfl)) k1 bel lt1) (trodAll_cons_mk (Below.trod laidOut (by kernel_rfl) (of_decide_eq_true (by kernel_rfl)) k2 bel lt2) trodAll_mk0))), rfl, bel.frame _, fun h => by cases h⟩

theorem over : Rows.wireBentRow.holds Try.pinned (OpenSpec.ofChange Rows.wireBentSpec) :=
  OpenClaim.holds_of_wide 11 Try.f11 rfl rfl rfl rfl rfl rfl rfl ⟨rfl, rfl, rfl, rfl, rfl⟩ rfl rfl rfl rfl rfl (by kernel_rfl) Try.func11 (by kernel_rfl)
    (of_decide_eq_true (by kernel_rfl)) (by unfold Func.isWrapper; first | (rw [if_pos (by decide +kernel)]; kernel_rfl) | (rw [if_neg (by decide +kernel)]; exact ⟨rfl, rfl⟩))
    (fun os started H enc _ => lifted os started H enc)

end Go.Proofs.Ytblmahofopjceaa.wireBent
namespace Go.Proofs.Ytblmahofopjceaa
theorem wireBent_proved : Rows.WireBentSaid := wireBent.over
end Go.Proofs.Ytblmahofopjceaa
