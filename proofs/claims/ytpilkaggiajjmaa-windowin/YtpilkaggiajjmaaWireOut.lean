/-
  Bytes that grow: what each call that puts things behind them comes to.
-/
import Derived.Test.YtpilkaggiajjmaaWireMath
import Derived.Test.YtpilkaggiajjmaaTouch
import Derived.Test.YtpilkaggiajjmaaBytes
import Derived.Test.YtpilkaggiajjmaaAppend
import Derived.Deep.LoopGhost
namespace Go.Proofs.Ytpilkaggiajjmaa
open Go.RowKit
set_option linter.unusedVariables false

theorem info5 : (Try.prog.info? 5).map (fun i => (i.zero, i.size, i.bytes)) = some (some (.int .u8 0), 1, 1) := by kernel_rfl
def byteV (c : UInt8) : Value := .int .u8 (c.toNat : Int)
/-- Bytes that grow lie at block b: v is the list that holds them, in a row of its own. -/
def OutAt (w : World) (b : Nat) (v : Value) (l : List UInt8) : Prop :=
  w.cell? ⟨b, 0, none⟩ = some v ∧ w.frozen? ⟨b, 0, none⟩ = false ∧ w.ownsRow 0 5 1 v l.length (l.map byteV) ∧ v.ownBlock ≠ some b
/-- What a call leaves that puts bytes behind: these bytes; no other block is turned but the thing itself and its row. -/
def OutTo (w : World) (b : Nat) (v : Value) (l : List UInt8) (w' : World) : Prop :=
  ∃ v', OutAt w' b v' l ∧ (∀ k, v'.ownBlock = some k → v.ownBlock = some k ∨ w.heap.size ≤ k) ∧ Touch (fun k => k = b ∨ v.ownBlock = some k) w w'
theorem OutAt.lt {w : World} {b : Nat} {v : Value} {l : List UInt8} (h : OutAt w b v l) : b < w.heap.size := block_lt_of_cell h.1
theorem OutAt.to {w : World} {b : Nat} {v : Value} {l : List UInt8} (h : OutAt w b v l) : OutTo w b v l w := ⟨v, h, fun k hk => .inl hk, Touch.refl _ _⟩
theorem OutTo.trans {w w1 w2 : World} {b : Nat} {v v1 : Value} {l1 l2 : List UInt8} (h1 : OutAt w1 b v1 l1) (hf : ∀ k, v1.ownBlock = some k → v.ownBlock = some k ∨ w.heap.size ≤ k) (ht : Touch (fun k => k = b ∨ v.ownBlock = some k) w w1) (h2 : OutTo w1 b v1 l2 w2) : OutTo w b v l2 w2 := by
  obtain ⟨v2, h3, h4, h5⟩ := h2
  refine ⟨v2, h3, fun k hk => ?_, ht.trans' h5 fun k hk hT => ?_⟩
  · rcases h4 k hk with h | h
    · exact hf k h
    · exact .inr (Nat.le_trans ht.size h)
  · rcases hT with h | h
    · exact .inl h
    · rcases hf k h with h' | h'
      · exact .inr h'
      · omega
theorem OutAt.slice {w : World} {b : Nat} {v : Value} {l : List UInt8} (h : OutAt w b v l) : ∃ a cap, v = .slice a l.length cap := by
  rcases h.2.2.1.2 with ⟨hv, h0⟩ | ⟨g, cap, cur, hv, -⟩
  · exact ⟨none, 0, by rw [hv, h0]⟩
  · exact ⟨_, cap, hv⟩
/-- WHAT A CALL IS TOLD OF A LIST OF NUMBERS (kind k). -/
def IntRow (k : IntKind) (w : World) (a : Option Addr) (ns : List Int) : Prop :=
  0 < ns.length → ∃ b off, a = some ⟨b, off, none⟩ ∧ ∀ (i : Nat) (h : i < ns.length), w.cell? ⟨b, off + i, none⟩ = some (.int k ns[i])
theorem touch_grown {w w' : World} {row : Option Nat} (h : w.grownBy w' row) : Touch (fun k => row = some k) w w' :=
  ⟨h.os, h.tape, h.output, h.size, fun k hk hs => h.block k hk (fun e => hs e.symm)⟩
theorem grown_set (w : World) (b : Nat) (v : Value) : w.grownBy (w.setCell ⟨b, 0, none⟩ v) (some b) :=
  ⟨rfl, rfl, rfl, by simp, fun k _ hk => Below.heap_setCell w ⟨b, 0, none⟩ v k (fun e => hk (by rw [e]))⟩
/-- Bytes put behind: what the append and the store come to. -/
theorem out_put {w wa w1 : World} {b : Nat} {v v' : Value} {l m : List UInt8} (h : OutAt w b v l) (ha : Touch (fun _ => False) w wa) (hown : w1.ownsRow 0 5 1 v' (l.length + m.length) (l.map byteV ++ m.map byteV)) (hg : wa.grownBy w1 v.ownBlock)
    (hf : ∀ k, v'.ownBlock = some k → v.ownBlock = some k ∨ wa.heap.size ≤ k) :
    w1.cell? ⟨b, 0, none⟩ = some v ∧ w1.frozen? ⟨b, 0, none⟩ = false ∧ OutTo w b v (l ++ m) (w1.setCell ⟨b, 0, none⟩ v') := by
  have hb := h.lt
  have ht : Touch (fun k => v.ownBlock = some k) w w1 := (ha.mono (fun _ _ hh => hh.elim)).trans (touch_grown hg)
  have hc : w1.cell? ⟨b, 0, none⟩ = some v := (ht.cell (p := ⟨b, 0, none⟩) hb h.2.2.2).trans h.1
  have hz : w1.frozen? ⟨b, 0, none⟩ = false := (ht.frozen (p := ⟨b, 0, none⟩) hb h.2.2.2).trans h.2.1
  have hvb : v'.ownBlock ≠ some b := fun e => by
    rcases hf b e with h' | h'
    · exact h.2.2.2 h'
    · have := ha.size; omega
  refine ⟨hc, hz, v', ⟨World.cell?_setCell_same _ _ _ hc, by simpa using hz, ?_, hvb⟩, fun k hk => ?_, ?_⟩
  · have := hown.kept (grown_set w1 b v') (.inr hvb)
    simpa using this
  · rcases hf k hk with h' | h'
    · exact .inl h'
    · exact .inr (Nat.le_trans ha.size h')
  · exact (ht.mono (fun k _ hh => .inr hh)).setCell (p := ⟨b, 0, none⟩) (fun _ => .inl rfl) _
/-- One byte more. -/
theorem out_byte {w : World} {b : Nat} {v : Value} {l : List UInt8} (c : UInt8) (x : Int) (hx : x = (c.toNat : Int)) (h : OutAt w b v l) (hl : l.length ≤ 1000000000) :
    ∃ a cap w1, (Builtin.append_ #[115, 115] 115 #[v, .slice (some ⟨w.heap.size, 0, none⟩) 1 1]).run Try.prog (w.alloc (.cells #[.int .u8 x] 5)) = .ok (.slice a (l.length + 1) cap) w1 ∧
      w1.cell? ⟨b, 0, none⟩ = some v ∧ w1.frozen? ⟨b, 0, none⟩ = false ∧ OutTo w b v (l ++ [c]) (w1.setCell ⟨b, 0, none⟩ (.slice a (l.length + 1) cap)) := by
  subst hx
  obtain ⟨i0, hi, hz0, hz1, hz2⟩ := info_parts info5
  obtain ⟨v', w1, hr, ho, hg, hf⟩ := append_exact (P := Try.prog) (w.alloc (.cells #[byteV c] 5)) 115 115 5 i0 (.int .u8 0) 1 1 Try.underlying115 hi hz0 hz1 hz2 rfl (by decide) v l.length (l.map byteV) (h.2.2.1.alloc _)
    ⟨w.heap.size, 0, none⟩ 1 1 [byteV c] rfl (fun j u hj => by
      match j, hj with
      | 0, hj => simp at hj; subst hj; simp [Addr.add]) (fun u hu => by simp at hu; subst hu; rfl) (by unfold maxLen; omega) (by omega)
  have h3 := out_put (m := [c]) h ((Touch.refl (fun _ => False) w).alloc _) ho hg hf
  have hsh : ∃ a cap, v' = .slice a (l.length + 1) cap := by
    rcases ho.2 with ⟨hv, h0⟩ | ⟨g, cap, cur, hv, -⟩
    · omega
    · exact ⟨_, cap, hv⟩
  obtain ⟨a, cap, rfl⟩ := hsh
  exact ⟨a, cap, w1, hr, h3⟩
/-- A text's bytes more. -/
theorem out_text {w : World} {b : Nat} {v : Value} {l : List UInt8} (s : ByteArray) (h : OutAt w b v l) (hl : l.length + s.size ≤ 1000000000) :
    ∃ a n cap w1, (Builtin.append_ #[115, 9] 115 #[v, .string s]).run Try.prog w = .ok (.slice a n cap) w1 ∧
      w1.cell? ⟨b, 0, none⟩ = some v ∧ w1.frozen? ⟨b, 0, none⟩ = false ∧ OutTo w b v (l ++ s.data.toList) (w1.setCell ⟨b, 0, none⟩ (.slice a n cap)) := by
  obtain ⟨i0, hi, hz0, hz1, hz2⟩ := info_parts info5
  obtain ⟨v', w1, hr, ho, hg, hf⟩ := append_exact_string (P := Try.prog) w 115 9 115 5 i0 Try.underlying115 Try.underlying9 hi hz0 hz1 hz2 v l.length (l.map byteV) h.2.2.1 s (by unfold maxLen; omega) (by omega)
  have hsz : s.size = s.data.toList.length := by simp
  rw [hsz] at ho
  have h3 := out_put (m := s.data.toList) h (Touch.refl (fun _ => False) w) ho hg hf
  have hsh : ∃ a n cap, v' = .slice a n cap := by
    rcases ho.2 with ⟨hv, h0⟩ | ⟨g, cap, cur, hv, -⟩
    · exact ⟨_, _, _, hv⟩
    · exact ⟨_, _, cap, hv⟩
  obtain ⟨a, n, cap, rfl⟩ := hsh
  exact ⟨a, n, cap, w1, hr, h3⟩
theorem outRaw_any (b : Nat) (v : Value) (l : List UInt8) (s : ByteArray) (w : World) (h : OutAt w b v l) (hl : l.length + s.size ≤ 1000000000) :
    Calls Try.prog 119 #[.pointer (some ⟨b, 0, none⟩), .string s] w fun r w' => r = .returned (.pointer (some ⟨b, 0, none⟩)) ∧ OutTo w b v (l ++ s.data.toList) w' := by
  obtain ⟨a, n, cap, w1, hr, hc, hz, ho⟩ := out_text s h hl
  obtain ⟨a0, cap0, rfl⟩ := h.slice
  have h0 := h.1
  have HO := Lib.hid ho
  have HR := Lib.hid hr
  clear ho h hr
  go_enter Try.func119, Try.ntmps119
  go_wp2_with (at_builtin; refine wpList_append_run _ rfl (.tmp 9) (.tmp 10) 115 9 rfl _ _ rfl rfl (.slice a n cap) w1 HR.out ?_)
  go_ret
  exact ⟨rfl, HO.out⟩
theorem out_back {w : World} {b : Nat} {v : Value} {l : List UInt8} (h : OutAt w b v l) : (convert 115 9 v).run Try.prog w = .ok (.string (bs l)) w := by
  rcases h.2.2.1.2 with ⟨hv, h0⟩ | ⟨g, cap, cur, hv, -⟩
  · obtain rfl : l = [] := List.eq_nil_of_length_eq_zero h0
    subst hv
    rw [run_convert_bytes_string w 115 9 5 none 0 0 Try.underlying115 Try.underlying5 Try.underlying9]
    simp [Conv.bytesToString]
    rfl
  · have hc := h.2.2.1.cells (g := g) (by rw [hv]; rfl)
    subst hv
    refine bytes_back w g cap l.length l rfl fun j hj => ?_
    have := hc j (byteV l[j]) (by simp [hj])
    cases j <;> simpa [Addr.add, byteV] using this
theorem outText_any (b : Nat) (v : Value) (l : List UInt8) (w : World) (h : OutAt w b v l) :
    Calls Try.prog 110 #[.pointer (some ⟨b, 0, none⟩)] w fun r w' => r = .returned (.string (bs l)) ∧ w = w' := by
  have hback := out_back h
  obtain ⟨a0, cap0, rfl⟩ := h.slice
  have h0 := h.1
  clear h
  go_enter Try.func110, Try.ntmps110
  go_wp2
  go_ret
  exact ⟨rfl, rfl⟩
theorem outNum_any (b : Nat) (v : Value) (l : List UInt8) (a : Option Addr) (cap : Nat) (ns : List Nat) (w : World) (h : OutAt w b v l) (hl : l.length + 10 * ns.length ≤ 1000000000) (hns : ∀ n ∈ ns, n < 18446744073709551616)
    (hr : IntRow .u64 w a (ns.map Int.ofNat)) (hd : ∀ x, a = some x → x.block ≠ b ∧ v.ownBlock ≠ some x.block) :
    Calls Try.prog 106 #[.pointer (some ⟨b, 0, none⟩), .slice a ns.length cap] w fun r w' => r = .returned (.pointer (some ⟨b, 0, none⟩)) ∧ OutTo w b v (l ++ numsB ns) w' := by
  have HO := Lib.hid h
  have HR := Lib.hid hr
  have HD := Lib.hid hd
  have HN := Lib.hid hns
  clear h hr hd hns
  go_enter Try.func106, Try.ntmps106
  go_wp2
  go_loopw [9] (fun i wr => ∃ k : Nat, k ≤ ns.length ∧ i = .int .i64 k ∧ Hid (OutTo w b v (l ++ numsB (ns.take k)) wr)) (fun i _ => ns.length - (intOf i).toNat)
  case atStart => exact ⟨0, by omega, rfl, Lib.hid (by simpa [numsB] using HO.out.to)⟩
  case round =>
    obtain ⟨k, hk, rfl, H⟩ := hrel
    by_cases hlt : k < ns.length
    · have hmk : k < (ns.map Int.ofNat).length := by simpa using hlt
      obtain ⟨rb, off, rfl, hcell⟩ := HR.out (by omega)
      obtain ⟨hd1, hd2⟩ := HD.out _ rfl
      have hcw : w.cell? ⟨rb, off + k, none⟩ = some (.int .u64 (ns[k] : Nat)) := by have := hcell k hmk; simpa using this
      have hrb : rb < w.heap.size := block_lt_of_cell hcw
      obtain ⟨v1, hat, hf, ht⟩ := H.out
      have hc : wr.cell? ⟨rb, off + k, none⟩ = some (.int .u64 (ns[k] : Nat)) := (ht.cell (p := ⟨rb, off + k, none⟩) hrb (by rintro (h | h); exact hd1 h; exact hd2 h)).trans hcw
      have hnk := HN.out ns[k] (List.getElem_mem hlt)
      have HS := Lib.hid (numsB_snoc ns k hlt)
      have HNK := Lib.hid hnk
      have hlen := numsB_len (ns.take (k + 1)) (fun n hn => HN.out n (List.mem_of_mem_take hn))
      have HLen : Hid ((l ++ numsB (ns.take (k + 1))).length ≤ 1000000000) := Lib.hid (by simp only [List.length_append]; have := List.length_take_le (k + 1) ns; omega)
      clear hcell hcw hd1 hd2 hat hf ht hnk hlen
      generalize ns[k] = n0 at hc HS HNK
      go_wp2_with fail
      go_loopw [6] (fun x wq => ∃ (m : Nat) (L : List UInt8), x = .int .u64 m ∧ Hid (l ++ numsB (ns.take (k + 1)) = L ++ numB m) ∧ Hid (OutTo w b v L wq)) (fun x _ => (intOf x).toNat)
      case atStart => exact ⟨n0, l ++ numsB (ns.take k), rfl, Lib.hid (by rw [HS.out, List.append_assoc]), H⟩
      case round =>
        obtain ⟨m, L, rfl, H1, H2⟩ := hrel
        have hL : L.length ≤ 1000000000 := by
          have := HLen.out
          rw [H1.out, List.length_append] at this
          omega
        obtain ⟨v1, hat, hf, ht⟩ := H2.out
        by_cases hge : 128 ≤ m
        · have hgb : decide ((128 : Int) ≤ (m : Int)) = true := by simp; omega
          obtain ⟨a2, cap2, w1, hr, hc1, hz1, ho⟩ := out_byte (byteOf (m % 128 + 128)) _ (or128_walk' m) hat hL
          obtain ⟨a1, cap1, rfl⟩ := hat.slice
          have h0 := hat.1
          have HAT := Lib.hid hat
          have HF := Lib.hid hf
          have HTT := Lib.hid ht
          have HR1 := Lib.hid hr
          have HO1 := Lib.hid ho
          have HG := Lib.hid hge
          clear hge hat hf ht hr ho hL
          go_wp2_with (at_builtin; refine wpList_append_run _ rfl (.tmp 19) (.tmp 23) 115 115 rfl _ _ rfl rfl (.slice a2 (L.length + 1) cap2) w1 HR1.out ?_)
          go_roundw
          case rel => exact ⟨m / 128, L ++ [byteOf (m % 128 + 128)], by go_num, Lib.hid (by rw [H1.out, numB_ge HG.out]; simp), Lib.hid (OutTo.trans HAT.out HF.out HTT.out HO1.out)⟩
          case measure => have := HG.out; simp [intOf]; omega
        · have hgb : decide ((128 : Int) ≤ (m : Int)) = false := by simp; omega
          obtain ⟨a2, cap2, w1, hr, hc1, hz1, ho⟩ := out_byte (byteOf m) _ (low_walk m (by omega)) hat hL
          obtain ⟨a1, cap1, rfl⟩ := hat.slice
          have h0 := hat.1
          have HAT := Lib.hid hat
          have HF := Lib.hid hf
          have HTT := Lib.hid ht
          have HR1 := Lib.hid hr
          have HO1 := Lib.hid ho
          have HG := Lib.hid hge
          clear hge hat hf ht hr ho hL
          go_wp2_with (at_builtin; refine wpList_append_run _ rfl (.tmp 33) (.tmp 36) 115 115 rfl _ _ rfl rfl (.slice a2 (L.length + 1) cap2) w1 HR1.out ?_)
          go_roundw
          case rel => exact ⟨k + 1, by omega, by go_num, Lib.hid (by rw [H1.out, numB_lt (by have := HG.out; omega)]; exact OutTo.trans HAT.out HF.out HTT.out HO1.out)⟩
          case measure => simp [intOf]; omega
    · go_wp2
      go_ret
      exact ⟨rfl, by have := H.out; rwa [List.take_of_length_le (by omega)] at this⟩
end Go.Proofs.Ytpilkaggiajjmaa
