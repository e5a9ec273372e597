/-
  More calls of a dice: numbers below another one, seeds of parts, its bytes.
-/
import Derived.Test.YtmghhigepjeicaaDice
import Derived.Test.YtmghhigepjeicaaOutIn
import Derived.Test.YtmghhigepjeicaaWireRef
namespace Go.Proofs.Ytmghhigepjeicaa
open Go.RowKit
set_option linter.unusedVariables false

theorem below_none (b s : Nat) (n : Int) (w : World) (hn : n < 1) (h : DiceAt w b s) :
    Calls Try.prog 16 #[.pointer (some ⟨b, 0, none⟩), .int .i64 n] w fun r w' => r = .returned (.int .i64 0) ∧ w = w' := by
  go_enter Try.func16, Try.ntmps16
  go_wp2
  go_ret
  exact ⟨rfl, rfl⟩
theorem below_some (b s m : Nat) (w : World) (h0 : 1 ≤ m) (hm : m ≤ 9223372036854775807) (h : DiceAt w b s) :
    Calls Try.prog 16 #[.pointer (some ⟨b, 0, none⟩), .int .i64 m] w fun r w' => r = .returned (.int .i64 (highN (mixN (goOn s)) m : Nat)) ∧ DiceTo w b (goOn s) w' := by
  have HN := Lib.hid (next_any b s w h)
  have HX := Lib.hid (mixN_lt (goOn s))
  have HH := Lib.hid (highN_lt (mixN_lt (goOn s)) h0)
  clear h
  generalize goOn s = t at HN HX HH ⊢
  generalize mixN t = x at HN HX HH ⊢
  have HM := Lib.hid (fun w1 => mul64_any x m w1 HX.out (by omega))
  generalize highN x m = y at HH HM ⊢
  have hh := HH.out
  go_enter Try.func16, Try.ntmps16
  go_wp2_with fail
  refine HN.out.mono ?_
  rintro r w1 ⟨rfl, hto⟩
  have HT := Lib.hid hto
  clear hto
  go_wp2_with fail
  refine (HM.out w1).mono ?_
  rintro r w2 ⟨rfl, rfl⟩
  go_wp2
  go_ret
  exact ⟨rfl, HT.out⟩
theorem below_at (b s m : Nat) (x : Int) (hx : x = (m : Int)) (w : World) (h0 : 1 ≤ m) (hm : m ≤ 9223372036854775807) (h : DiceAt w b s) :
    Calls Try.prog 16 #[.pointer (some ⟨b, 0, none⟩), .int .i64 x] w fun r w' => r = .returned (.int .i64 (highN (mixN (goOn s)) m : Nat)) ∧ DiceTo w b (goOn s) w' := by
  subst hx; exact below_some b s m w h0 hm h
theorem refBelow_none (s : Nat) (n : Int) (w : World) (hn : n < 1) :
    Calls Try.prog 17 #[.int .u64 s, .int .i64 n] w fun r w' => r = .returned (.tuple #[.int .u64 s, .int .i64 0]) ∧ w = w' := by
  go_enter Try.func17, Try.ntmps17
  go_wp2
  go_ret2
  exact ⟨rfl, rfl⟩
theorem refBelow_some (s m : Nat) (w : World) (hs : s < 18446744073709551616) (h0 : 1 ≤ m) (hm : m ≤ 9223372036854775807) :
    Calls Try.prog 17 #[.int .u64 s, .int .i64 m] w fun r w' => r = .returned (.tuple #[.int .u64 (goOn s : Nat), .int .i64 (highN (mixN (goOn s)) m : Nat)]) ∧ Below w.heap.size w w' := by
  have HN := Lib.hid (refNext_any s w hs)
  have HX := Lib.hid (mixN_lt (goOn s))
  have HH := Lib.hid (highN_lt (mixN_lt (goOn s)) h0)
  generalize goOn s = t at HN HX HH ⊢
  generalize mixN t = x at HN HX HH ⊢
  have HM := Lib.hid (refHigh_any x m w HX.out (by omega))
  generalize highN x m = y at HH HM ⊢
  have hh := HH.out
  go_enter Try.func17, Try.ntmps17
  go_wp2_with fail
  refine HN.out.mono ?_
  rintro r w1 ⟨rfl, rfl⟩
  go_wp2_with fail
  refine HM.out.mono ?_
  rintro r w2 ⟨rfl, hb⟩
  have HB := Lib.hid hb
  clear hb
  go_wp2
  go_ret2
  exact ⟨rfl, HB.out⟩
theorem refSeed_any (a : Option Addr) (cap : Nat) (l : List Nat) (w : World) (hl : l.length ≤ maxLen) (hr : IntRow .u64 w a (l.map Int.ofNat)) (hb : ∀ n ∈ l, n < 18446744073709551616) :
    Calls Try.prog 22 #[.slice a l.length cap] w fun r w' => r = .returned (.int .u64 (seedN l : Nat)) ∧ w = w' := by
  unfold maxLen at hl
  have HR := Lib.hid hr
  have HB := Lib.hid hb
  clear hr hb
  go_enter Try.func22, Try.ntmps22
  go_wp2
  go_loop [3, 10] (fun s i => ∃ k : Nat, k ≤ l.length ∧ i = .int .i64 k ∧ s = .int .u64 (seedN (l.take k) : Nat)) (fun _ i => l.length - (intOf i).toNat)
  case atStart => exact ⟨0, by omega, rfl, rfl⟩
  case round =>
    obtain ⟨k, hk, rfl, rfl⟩ := hrel
    by_cases hlt : k < l.length
    · have hmk : k < (l.map Int.ofNat).length := by simpa using hlt
      obtain ⟨rb, off, rfl, hcell⟩ := HR.out (by omega)
      have hc : w.cell? ⟨rb, off + k, none⟩ = some (.int .u64 (l[k] : Nat)) := by have := hcell k hmk; simpa using this
      have HP := Lib.hid (HB.out l[k] (List.getElem_mem hlt))
      have HS := Lib.hid (seedN_snoc l k hlt)
      have HL := Lib.hid (seedN_lt (l.take k))
      clear hcell
      generalize l[k] = p at hc HP HS
      generalize seedN (l.take k) = s at HL HS
      have HW := Lib.hid (u64_xor_nat s p HL.out HP.out)
      have HX := Lib.hid (xor_lt64 HL.out HP.out)
      go_wp2_with fail
      rw [HW.out]
      refine (refNext_any _ _ HX.out).mono ?_
      rintro r w' ⟨rfl, rfl⟩
      go_wp2
      go_round
      case rel => exact ⟨k + 1, by omega, by go_num, by rw [HS.out]⟩
      case measure => simp [intOf]; omega
    · have HE := Lib.hid (show l.take k = l from List.take_of_length_le (by omega))
      go_wp2
      go_ret
      exact ⟨by rw [HE.out]; rfl, rfl⟩
theorem seed_any (a : Option Addr) (cap : Nat) (l : List Nat) (w : World) (hl : l.length ≤ maxLen) (hr : IntRow .u64 w a (l.map Int.ofNat)) (hb : ∀ n ∈ l, n < 18446744073709551616) :
    Calls Try.prog 21 #[.slice a l.length cap] w fun r w' => r = .returned (.int .u64 (seedN l : Nat)) ∧ Below w.heap.size w w' := by
  unfold maxLen at hl
  have HR := Lib.hid hr
  have HB := Lib.hid hb
  clear hr hb
  go_enter Try.func21, Try.ntmps21
  go_wp2
  go_loopw [8] (fun i wr => ∃ k : Nat, k ≤ l.length ∧ i = .int .i64 k ∧ Hid (DiceAt wr w.heap.size (seedN (l.take k))) ∧ Hid (Below w.heap.size w wr)) (fun i _ => l.length - (intOf i).toNat)
  case atStart => exact ⟨0, by omega, rfl, Lib.hid ⟨by rw [List.take_zero, seedN_nil]; simp, frozen_new _ _ _ _, seedN_lt _⟩, Lib.hid ((Below.refl _ _).alloc (Nat.le_refl _) _)⟩
  case round =>
    obtain ⟨k, hk, rfl, HD, HW⟩ := hrel
    by_cases hlt : k < l.length
    · have hmk : k < (l.map Int.ofNat).length := by simpa using hlt
      obtain ⟨rb, off, rfl, hcell⟩ := HR.out (by omega)
      have hcw : w.cell? ⟨rb, off + k, none⟩ = some (.int .u64 (l[k] : Nat)) := by have := hcell k hmk; simpa using this
      have hc : wr.cell? ⟨rb, off + k, none⟩ = some (.int .u64 (l[k] : Nat)) := (HW.out.cell (p := ⟨rb, off + k, none⟩) (block_lt_of_cell hcw)).trans hcw
      have HP := Lib.hid (HB.out l[k] (List.getElem_mem hlt))
      have HS := Lib.hid (seedN_snoc l k hlt)
      clear hcell hcw
      generalize l[k] = p at hc HP HS
      generalize seedN (l.take k) = s at HD HS
      obtain ⟨h0, h1, h2⟩ := HD.out
      have HX := Lib.hid (u64_xor_nat s p h2 HP.out)
      have HD1 := Lib.hid (diceTo_set HD.out (s ^^^ p) (xor_lt64 h2 HP.out))
      generalize s ^^^ p = q at HX HD1 HS
      go_wp2_with fail
      rw [HX.out]
      generalize wr.setCell ⟨w.heap.size, 0, none⟩ (.int .u64 q) = w1 at HD1 ⊢
      refine (next_any _ q w1 HD1.out.1).mono ?_
      rintro r w2 ⟨rfl, hto⟩
      have HD2 := Lib.hid (HD1.out.trans hto)
      have HD3 := Lib.hid (diceTo_set hto.1 (mixN (goOn q)) (mixN_lt _))
      obtain ⟨g0, g1, g2⟩ := hto.1
      clear hto
      generalize goOn q = t at *
      generalize mixN t = x at *
      go_wp2
      go_roundw
      case rel => exact ⟨k + 1, by omega, by go_num, Lib.hid (by rw [HS.out]; exact HD3.out.1), Lib.hid (HW.out.trans ((HD2.out.trans HD3.out).2.below HW.out.size (by rintro j hj h; omega)))⟩
      case measure => simp [intOf]; omega
    · have HE := Lib.hid (show l.take k = l from List.take_of_length_le (by omega))
      obtain ⟨h0, h1, h2⟩ := HD.out
      go_wp2
      go_ret
      exact ⟨by rw [HE.out]; rfl, HW.out⟩
theorem nats_of {ns : List Int} (h : ∀ n ∈ ns, 0 ≤ n ∧ n ≤ 18446744073709551615) : ∃ l : List Nat, ns = l.map Int.ofNat ∧ ∀ n ∈ l, n < 18446744073709551616 := by
  refine ⟨ns.map Int.toNat, ?_, fun n hn => ?_⟩
  · rw [List.map_map]
    exact (List.map_id ns).symm.trans (List.map_congr_left fun a ha => by have := h a ha; simp; omega)
  · simp only [List.mem_map] at hn
    obtain ⟨a, ha, rfl⟩ := hn
    have := h a ha; omega
theorem and31 (a : Int) : ∃ k : Nat, k ≤ 31 ∧ bits .and .i64 a 31 = (k : Int) := by
  refine ⟨(BitVec.ofInt 64 a &&& BitVec.ofInt 64 31).toNat, ?_, ?_⟩
  · rw [BitVec.toNat_and]
    exact Nat.and_le_right
  · have h : (BitVec.ofInt 64 a &&& BitVec.ofInt 64 31).toNat ≤ 31 := by rw [BitVec.toNat_and]; exact Nat.and_le_right
    show IntKind.i64.wrap ((BitVec.ofInt 64 a &&& BitVec.ofInt 64 31).toNat : Int) = _
    rw [IntKind.wrap_i64]
    omega
theorem and65535 (a : Int) : ∃ k : Nat, k ≤ 65535 ∧ bits .and .i64 a 65535 = (k : Int) := by
  refine ⟨(BitVec.ofInt 64 a &&& BitVec.ofInt 64 65535).toNat, ?_, ?_⟩
  · rw [BitVec.toNat_and]
    exact Nat.and_le_right
  · have h : (BitVec.ofInt 64 a &&& BitVec.ofInt 64 65535).toNat ≤ 65535 := by rw [BitVec.toNat_and]; exact Nat.and_le_right
    show IntKind.i64.wrap ((BitVec.ofInt 64 a &&& BitVec.ofInt 64 65535).toNat : Int) = _
    rw [IntKind.wrap_i64]
    omega
theorem awake5_any (w : World) : Calls Try.prog 12 #[] w fun e w' => e = .returned (.bool true) ∧ Below w.heap.size w w' := by
  have HV := Lib.hid (show mixN (goOn 0) = 16294208416658607535 from by decide +kernel)
  go_enter Try.func12, Try.ntmps12
  go_wp2_with fail
  refine (new_any 0 w (by decide)).mono ?_
  rintro r w1 ⟨rfl, hd, hb⟩
  have HD := Lib.hid hd
  have HB := Lib.hid hb
  clear hd hb
  go_wp2_with fail
  refine (next_any _ 0 w1 HD.out).mono ?_
  rintro r w2 ⟨rfl, hto⟩
  have HT := Lib.hid (HB.out.trans (hto.2.below HB.out.size (by rintro j hj h; omega)))
  clear hto
  rw [HV.out]
  go_wp2
  go_ret
  exact ⟨rfl, HT.out⟩
end Go.Proofs.Ytmghhigepjeicaa
