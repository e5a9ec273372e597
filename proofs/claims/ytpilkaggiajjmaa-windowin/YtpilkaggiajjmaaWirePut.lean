/-
  More calls of bytes that grow: counts, whole numbers, texts.
-/
import Derived.Test.YtpilkaggiajjmaaWireOut
import Derived.Test.YtpilkaggiajjmaaSums
namespace Go.Proofs.Ytpilkaggiajjmaa
open Go.RowKit
set_option linter.unusedVariables false

theorem OutAt.touch {S : Nat → Prop} {w w' : World} {b : Nat} {v : Value} {l : List UInt8} (h : OutAt w b v l) (ht : Touch S w w') (hb : ¬ S b) (hv : ∀ k, v.ownBlock = some k → ¬ S k) : OutAt w' b v l := by
  refine ⟨(ht.cell (p := ⟨b, 0, none⟩) h.lt hb).trans h.1, (ht.frozen (p := ⟨b, 0, none⟩) h.lt hb).trans h.2.1, ?_, h.2.2.2⟩
  refine ⟨h.2.2.1.1, ?_⟩
  rcases h.2.2.1.2 with h' | ⟨g, cap, cur, hv', hg, hh, hr⟩
  · exact .inl h'
  · have hlt : g < w.heap.size := (Array.getElem?_eq_some_iff.1 hh).1
    exact .inr ⟨g, cap, cur, hv', hg, (ht.block g hlt (hv g (by rw [hv']; rfl))).trans hh, hr⟩
theorem OutAt.alloc {w : World} {b : Nat} {v : Value} {l : List UInt8} (h : OutAt w b v l) (o : Obj) : OutAt (w.alloc o) b v l :=
  h.touch ((Touch.refl (fun _ => False) w).alloc o) id (fun _ _ => id)
theorem OutAt.below {w w' : World} {b : Nat} {v : Value} {l : List UInt8} (h : OutAt w b v l) (hb : Below w.heap.size w w') : OutAt w' b v l :=
  h.touch (touch_of_below (S := fun _ => False) hb) id (fun _ _ => id)
theorem OutTo.alloc0 {w w' : World} {b : Nat} {v : Value} {l : List UInt8} {o : Obj} (h : OutTo (w.alloc o) b v l w') : OutTo w b v l w' := by
  obtain ⟨v', h1, h2, h3⟩ := h
  refine ⟨v', h1, fun k hk => ?_, ?_⟩
  · rcases h2 k hk with h' | h'
    · exact .inl h'
    · exact .inr (by simp at h'; omega)
  · exact ((Touch.refl _ w).alloc o).trans h3
theorem OutAt.fresh {w : World} {b : Nat} {v : Value} {l : List UInt8} (h : OutAt w b v l) : ∀ k, v.ownBlock = some k → k < w.heap.size := fun k hk => (h.2.2.1.lt k hk).2
/-- One number, handed in as a list of one. -/
theorem outNum_one (b : Nat) (v : Value) (l : List UInt8) (n : Nat) (x : Int) (hx : x = (n : Int)) (w : World) (h : OutAt w b v l) (hl : l.length + 10 ≤ 1000000000) (hn : n < 18446744073709551616) :
    Calls Try.prog 106 #[.pointer (some ⟨b, 0, none⟩), .slice (some ⟨w.heap.size, 0, none⟩) 1 1] (w.alloc (.cells #[.int .u64 x] 178)) fun r w' => r = .returned (.pointer (some ⟨b, 0, none⟩)) ∧ OutTo w b v (l ++ numB n) w' := by
  subst hx
  refine (outNum_any b v l (some ⟨w.heap.size, 0, none⟩) 1 [n] _ (h.alloc _) (by simpa using hl) (by simpa using hn) ?_ ?_).mono ?_
  · intro _
    refine ⟨w.heap.size, 0, rfl, fun i hi => ?_⟩
    obtain rfl : i = 0 := by simpa using hi
    simp
  · intro y hy
    cases hy
    refine ⟨fun e => ?_, fun e => ?_⟩
    · have := h.lt; simp at e; omega
    · have := h.fresh _ e; simp at this
  · rintro r w' ⟨rfl, ho⟩
    refine ⟨rfl, ?_⟩
    have := ho.alloc0
    simpa [numsB] using this
def countsB (ns : List Int) : List UInt8 := numsB (ns.map Int.toNat)
theorem countsB_snoc (ns : List Int) (k : Nat) (h : k < ns.length) : countsB (ns.take (k + 1)) = countsB (ns.take k) ++ numB (Int.toNat ns[k]) := by
  unfold countsB numsB
  rw [List.take_succ_eq_append_getElem h, List.map_append, List.map_append, List.flatten_append]
  simp
set_option maxHeartbeats 400000 in
theorem outCount_any (b : Nat) (v : Value) (l : List UInt8) (a : Option Addr) (cap : Nat) (ns : List Int) (w : World) (h : OutAt w b v l) (hl : l.length + 10 * ns.length ≤ 1000000000) (hns : ∀ n ∈ ns, n ≤ 9223372036854775807)
    (hr : IntRow .i64 w a ns) (hd : ∀ x, a = some x → x.block ≠ b ∧ v.ownBlock ≠ some x.block) :
    Calls Try.prog 107 #[.pointer (some ⟨b, 0, none⟩), .slice a ns.length cap] w fun r w' => r = .returned (.pointer (some ⟨b, 0, none⟩)) ∧ OutTo w b v (l ++ countsB ns) w' := by
  have HO := Lib.hid h
  have HR := Lib.hid hr
  have HD := Lib.hid hd
  have HN := Lib.hid hns
  clear h hr hd hns
  go_enter Try.func107, Try.ntmps107
  go_wp2
  go_loopw [9] (fun i wr => ∃ (k : Nat), k ≤ ns.length ∧ i = .int .i64 k ∧ Hid ((countsB (ns.take k)).length ≤ 10 * k) ∧ Hid (OutTo w b v (l ++ countsB (ns.take k)) wr)) (fun i _ => ns.length - (intOf i).toNat)
  case atStart => exact ⟨0, by omega, rfl, Lib.hid (by simp [countsB, numsB]), Lib.hid (by simpa [countsB, numsB] using HO.out.to)⟩
  case round =>
    obtain ⟨k, hk, rfl, HL, H⟩ := hrel
    by_cases hlt : k < ns.length
    · obtain ⟨rb, off, rfl, hcell⟩ := HR.out (by omega)
      obtain ⟨hd1, hd2⟩ := HD.out _ rfl
      have hcw := hcell k hlt
      have hrb : rb < w.heap.size := block_lt_of_cell hcw
      obtain ⟨v1, hat, hf, ht⟩ := H.out
      have hc : wr.cell? ⟨rb, off + k, none⟩ = some (.int .i64 ns[k]) := (ht.cell (p := ⟨rb, off + k, none⟩) hrb (by rintro (h | h); exact hd1 h; exact hd2 h)).trans hcw
      have hnk := HN.out ns[k] (List.getElem_mem hlt)
      have HS := Lib.hid (countsB_snoc ns k hlt)
      have HLL := Lib.hid (show (l ++ countsB (ns.take k)).length + 10 ≤ 1000000000 by simp only [List.length_append]; have := HL.out; omega)
      have HAT := Lib.hid hat
      have HF := Lib.hid hf
      have HTT := Lib.hid ht
      clear hcell hcw hd1 hd2 hat hf ht
      generalize ns[k] = n0 at hc HS hnk
      have HLS := Lib.hid (show (countsB (ns.take (k + 1))).length ≤ 10 * (k + 1) by rw [HS.out, List.length_append]; have := HL.out; have := @numB_ten n0.toNat (by omega); omega)
      by_cases hneg : n0 < 0
      · have HZ := Lib.hid (show n0.toNat = 0 by omega)
        go_wp2_with fail
        refine (outNum_one b v1 _ n0.toNat _ (by rw [HZ.out]; rfl) wr HAT.out HLL.out (by omega)).mono ?_
        rintro r w2 ⟨rfl, ho⟩
        have HO2 := Lib.hid ho
        clear ho
        go_wp2
        go_roundw
        case rel => exact ⟨k + 1, by omega, by go_num, HLS, Lib.hid (by rw [HS.out, ← List.append_assoc]; exact OutTo.trans HAT.out HF.out HTT.out HO2.out)⟩
        case measure => simp [intOf]; omega
      · go_wp2_with fail
        refine (outNum_one b v1 _ n0.toNat _ (by omega) wr HAT.out HLL.out (by omega)).mono ?_
        rintro r w2 ⟨rfl, ho⟩
        have HO2 := Lib.hid ho
        clear ho
        go_wp2
        go_roundw
        case rel => exact ⟨k + 1, by omega, by go_num, HLS, Lib.hid (by rw [HS.out, ← List.append_assoc]; exact OutTo.trans HAT.out HF.out HTT.out HO2.out)⟩
        case measure => simp [intOf]; omega
    · go_wp2
      go_ret
      exact ⟨rfl, by have := H.out; rwa [List.take_of_length_le (by omega)] at this⟩
def intsB (ns : List Int) : List UInt8 := numsB (ns.map zig)
theorem intsB_snoc (ns : List Int) (k : Nat) (h : k < ns.length) : intsB (ns.take (k + 1)) = intsB (ns.take k) ++ numB (zig ns[k]) := by
  unfold intsB numsB
  rw [List.take_succ_eq_append_getElem h, List.map_append, List.map_append, List.flatten_append]
  simp
/-- One count, handed in as a list of one. -/
theorem outCount_one (b : Nat) (v : Value) (l : List UInt8) (x : Int) (w : World) (h : OutAt w b v l) (hl : l.length + 10 ≤ 1000000000) (hn : x ≤ 9223372036854775807) :
    Calls Try.prog 107 #[.pointer (some ⟨b, 0, none⟩), .slice (some ⟨w.heap.size, 0, none⟩) 1 1] (w.alloc (.cells #[.int .i64 x] 3)) fun r w' => r = .returned (.pointer (some ⟨b, 0, none⟩)) ∧ OutTo w b v (l ++ numB x.toNat) w' := by
  refine (outCount_any b v l (some ⟨w.heap.size, 0, none⟩) 1 [x] _ (h.alloc _) (by simpa using hl) (by simpa using hn) ?_ ?_).mono ?_
  · intro _
    refine ⟨w.heap.size, 0, rfl, fun i hi => ?_⟩
    obtain rfl : i = 0 := by simpa using hi
    simp
  · intro y hy
    cases hy
    refine ⟨fun e => ?_, fun e => ?_⟩
    · have := h.lt; simp at e; omega
    · have := h.fresh _ e; simp at this
  · rintro r w' ⟨rfl, ho⟩
    refine ⟨rfl, ?_⟩
    have := ho.alloc0
    simpa [countsB, numsB] using this
/-- A text's bytes: how many, and these. -/
def strB (l : List UInt8) : List UInt8 := numB l.length ++ l
def strsB (ss : List ByteArray) : List UInt8 := (ss.map fun s => strB s.data.toList).flatten
theorem strsB_snoc (ss : List ByteArray) (k : Nat) (h : k < ss.length) : strsB (ss.take (k + 1)) = strsB (ss.take k) ++ strB ss[k].data.toList := by
  unfold strsB
  rw [List.take_succ_eq_append_getElem h, List.map_append, List.flatten_append]
  simp
set_option maxHeartbeats 400000 in
theorem outStr_any (b : Nat) (v : Value) (l : List UInt8) (a : Option Addr) (cap : Nat) (ss : List ByteArray) (w : World) (h : OutAt w b v l) (hl : l.length + (strsB ss).length ≤ 900000000)
    (hr : StrRow w a ss) (hd : ∀ x, a = some x → x.block ≠ b ∧ v.ownBlock ≠ some x.block) :
    Calls Try.prog 108 #[.pointer (some ⟨b, 0, none⟩), .slice a ss.length cap] w fun r w' => r = .returned (.pointer (some ⟨b, 0, none⟩)) ∧ OutTo w b v (l ++ strsB ss) w' := by
  have HO := Lib.hid h
  have HR := Lib.hid hr
  have HD := Lib.hid hd
  have hsl : ss.length ≤ 9223372036854775807 := hr.1
  clear h hr hd
  go_enter Try.func108, Try.ntmps108
  go_wp2
  go_loopw [9] (fun i wr => ∃ (k : Nat), k ≤ ss.length ∧ i = .int .i64 k ∧ Hid (OutTo w b v (l ++ strsB (ss.take k)) wr)) (fun i _ => ss.length - (intOf i).toNat)
  case atStart => exact ⟨0, by omega, rfl, Lib.hid (by simpa [strsB] using HO.out.to)⟩
  case round =>
    obtain ⟨k, hk, rfl, H⟩ := hrel
    by_cases hlt : k < ss.length
    · obtain ⟨rb, off, rfl, hcell⟩ := HR.out.2.2 (by omega)
      obtain ⟨hd1, hd2⟩ := HD.out _ rfl
      have hcw := hcell k hlt
      have hrb : rb < w.heap.size := block_lt_of_cell hcw
      obtain ⟨v1, hat, hf, ht⟩ := H.out
      have hc : wr.cell? ⟨rb, off + k, none⟩ = some (.string ss[k]) := (ht.cell (p := ⟨rb, off + k, none⟩) hrb (by rintro (h | h); exact hd1 h; exact hd2 h)).trans hcw
      have HS := Lib.hid (strsB_snoc ss k hlt)
      have hpre : (strsB (ss.take (k + 1))).length ≤ (strsB ss).length := by
        have e : strsB ss = strsB (ss.take (k + 1)) ++ strsB (ss.drop (k + 1)) := by
          unfold strsB; rw [← List.flatten_append, ← List.map_append, List.take_append_drop]
        rw [e, List.length_append]; omega
      rw [HS.out, List.length_append, strB, List.length_append] at hpre
      have HLL := Lib.hid (show (l ++ strsB (ss.take k)).length + 10 ≤ 1000000000 by simp only [List.length_append]; omega)
      have esz : ss[k].data.toList.length = ss[k].size := by simp
      have hlm : (l ++ strsB (ss.take k) ++ numB ss[k].data.toList.length).length + ss[k].size ≤ 1000000000 := by
        simp only [List.length_append]
        omega
      have HLM := Lib.hid hlm
      have hsz : ss[k].size ≤ 900000000 := by omega
      clear esz hlm
      have HAT := Lib.hid hat
      have HF := Lib.hid hf
      have HTT := Lib.hid ht
      clear hcell hcw hd1 hd2 hat hf ht hpre
      generalize ss[k] = s at hc HS HLM hsz
      have HE := Lib.hid (show ((s.size : Int)).toNat = s.data.toList.length by simp)
      go_wp2_with fail
      refine (outCount_one b v1 _ (s.size : Int) wr HAT.out HLL.out (by omega)).mono ?_
      rintro r w2 ⟨rfl, ho⟩
      rw [HE.out] at ho
      have HO1 := Lib.hid (OutTo.trans HAT.out HF.out HTT.out ho)
      clear ho
      obtain ⟨v2, hat2, hf2, ht2⟩ := HO1.out
      have HAT2 := Lib.hid hat2
      have HF2 := Lib.hid hf2
      have HTT2 := Lib.hid ht2
      clear hat2 hf2 ht2
      go_wp2_with fail
      refine (outRaw_any b v2 _ s w2 HAT2.out HLM.out).mono ?_
      rintro r w3 ⟨rfl, ho⟩
      have HO2 := Lib.hid (OutTo.trans HAT2.out HF2.out HTT2.out ho)
      clear ho
      go_wp2
      go_roundw
      case rel => exact ⟨k + 1, by omega, by go_num, Lib.hid (by rw [HS.out, strB]; simpa [List.append_assoc] using HO2.out)⟩
      case measure => simp [intOf]; omega
    · go_wp2
      go_ret
      exact ⟨rfl, by have := H.out; rwa [List.take_of_length_le (by omega)] at this⟩
end Go.Proofs.Ytpilkaggiajjmaa
