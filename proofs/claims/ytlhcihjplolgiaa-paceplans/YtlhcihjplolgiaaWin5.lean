/-
  Layer 13: what an end tells.
-/
import Derived.Test.YtlhcihjplolgiaaWin4
import Derived.Maps.RangeRun
namespace Go.Proofs.Ytlhcihjplolgiaa
open Go.RowKit Go.ChangeMaps
set_option linter.unusedVariables false

/-- All that wait are ahead of the awaited one, at most 32. -/
def OkW (s : Ws) : Prop := ∀ p ∈ s.l, p.1 < 4294967296 ∧ 1 ≤ distW p.1 s.nx ∧ distW p.1 s.nx ≤ 32
/-- The bits that tell of those entries whose stamps were seen. -/
def BitsOf (nx : Nat) (es : List MapEntry) (seen : Array Nat) (B : Nat) : Prop :=
  B < 4294967296 ∧ ∀ k, B.testBit k = true ↔ ∃ x ∈ es, seen.contains x.born = true ∧ ∃ n : Nat, x.key = .int .u32 (n : Int) ∧ distW n nx = k + 1
theorem bits_none (nx : Nat) (es : List MapEntry) : BitsOf nx es #[] 0 := ⟨by decide, fun k => by simp⟩
theorem bits_more {nx : Nat} {es : List MapEntry} {seen : Array Nat} {B : Nat} (h : BitsOf nx es seen B) {x : MapEntry} (hx : x ∈ es) (hn : (es.map (·.born)).Nodup) {n k : Nat} (hk : x.key = .int .u32 (n : Int)) (hd : distW n nx = k + 1) (hk32 : k < 32) : BitsOf nx es (seen.push x.born) (B ||| 2 ^ k) := by
  have h2 : 2 ^ k < 4294967296 := Nat.lt_of_lt_of_le (Nat.pow_lt_pow_right (by decide) hk32) (by decide)
  refine ⟨Nat.or_lt_two_pow (n := 32) h.1 h2, fun j => ?_⟩
  rw [Nat.testBit_or, Bool.or_eq_true, h.2 j, Nat.testBit_two_pow]
  constructor
  · rintro (⟨y, hy, hs, hrest⟩ | e)
    · exact ⟨y, hy, by rw [contains_push, hs]; rfl, hrest⟩
    · have e' : k = j := by simpa using e
      exact ⟨x, hx, by rw [contains_push]; simp, n, hk, by omega⟩
  · rintro ⟨y, hy, hs, m, hm, hdm⟩
    rw [contains_push, Bool.or_eq_true] at hs
    rcases hs with hs | hs
    · exact .inl ⟨y, hy, hs, m, hm, hdm⟩
    · right
      have e1 : y.born = x.born := by simpa using hs
      have e2 : y = x := by
        have f1 := find_born y es hn hy
        have f2 := find_born x es hn hx
        rw [e1, f2] at f1
        exact (Option.some.inj f1).symm
      subst e2
      rw [hk] at hm
      have := int_inj hm
      subst this
      simp; omega
/-- While the map is gone through: the answer's box R, the ack at R + 1, what goes through the map at R + 2. -/
structure AcMem (w : World) (b r nx : Nat) (es : List MapEntry) (clock : Nat) (seen : Array Nat) (B : Nat) (W : World) : Prop where
  it : W.heap[w.heap.size + 1 + 1]? = some (.mapIter (some r) clock seen clock)
  hb : W.heap[r]? = some (.map es.toArray clock)
  a0 : W.cell? ⟨w.heap.size + 1, 0, none⟩ = some (.int .u32 (nx : Int))
  a1 : W.cell? ⟨w.heap.size + 1, 1, none⟩ = some (.int .u32 (B : Int))
  af : W.frozen? ⟨w.heap.size + 1, 1, none⟩ = false
  b0 : W.cell? ⟨b, 0, none⟩ = some (.int .u32 (nx : Int))
  r0 : ∃ v, W.cell? ⟨w.heap.size, 0, none⟩ = some v
  r1 : ∃ v, W.cell? ⟨w.heap.size, 1, none⟩ = some v
  rf : ∀ j, W.frozen? ⟨w.heap.size, j, none⟩ = false
  bel : Below w.heap.size w W
theorem set_other (w : World) (N : Nat) (o : Obj) : Touch (fun j => j = N) w (setBlock w N o) :=
  ⟨rfl, rfl, rfl, by simp [setBlock], fun j hj hne => by
    show (w.heap.setIfInBounds N o)[j]? = w.heap[j]?
    rw [Array.getElem?_setIfInBounds_ne (fun e => hne e.symm)]⟩
theorem AcMem.step {w : World} {b r nx : Nat} {es : List MapEntry} {clock : Nat} {seen : Array Nat} {B : Nat} {W : World} (h : AcMem w b r nx es clock seen B W) (hbw : b < w.heap.size) (hrw : r < w.heap.size) (seen' : Array Nat) : AcMem w b r nx es clock seen' B (setBlock W (w.heap.size + 1 + 1) (.mapIter (some r) clock seen' clock)) := by
  have ht := set_other W (w.heap.size + 1 + 1) (.mapIter (some r) clock seen' clock)
  have hN : w.heap.size + 1 + 1 < W.heap.size := (Array.getElem?_eq_some_iff.1 h.it).1
  obtain ⟨v0, h0⟩ := h.r0
  obtain ⟨v1, h1⟩ := h.r1
  refine ⟨?_, (ht.block r (by omega) (by omega)).trans h.hb, (ht.cell (p := ⟨w.heap.size + 1, 0, none⟩) (by show w.heap.size + 1 < _; omega) (by show ¬ w.heap.size + 1 = _; omega)).trans h.a0, (ht.cell (p := ⟨w.heap.size + 1, 1, none⟩) (by show w.heap.size + 1 < _; omega) (by show ¬ w.heap.size + 1 = _; omega)).trans h.a1, (ht.frozen (p := ⟨w.heap.size + 1, 1, none⟩) (by show w.heap.size + 1 < _; omega) (by show ¬ w.heap.size + 1 = _; omega)).trans h.af, (ht.cell (p := ⟨b, 0, none⟩) (by show b < _; omega) (by show ¬ b = _; omega)).trans h.b0,
    ⟨v0, (ht.cell (p := ⟨w.heap.size, 0, none⟩) (by show w.heap.size < _; omega) (by show ¬ w.heap.size = _; omega)).trans h0⟩, ⟨v1, (ht.cell (p := ⟨w.heap.size, 1, none⟩) (by show w.heap.size < _; omega) (by show ¬ w.heap.size = _; omega)).trans h1⟩, fun j => (ht.frozen (p := ⟨w.heap.size, j, none⟩) (by show w.heap.size < _; omega) (by show ¬ w.heap.size = _; omega)).trans (h.rf j), h.bel.trans (ht.below h.bel.size fun k hk e => by omega)⟩
  show (W.heap.setIfInBounds (w.heap.size + 1 + 1) _)[w.heap.size + 1 + 1]? = _
  rw [Array.getElem?_setIfInBounds_self_of_lt hN]
theorem AcMem.drew {w : World} {b r nx : Nat} {es : List MapEntry} {clock : Nat} {seen : Array Nat} {B : Nat} {W : World} (h : AcMem w b r nx es clock seen B W) : AcMem w b r nx es clock seen B W.drew := ⟨h.it, h.hb, h.a0, h.a1, h.af, h.b0, h.r0, h.r1, h.rf, h.bel.drew⟩
theorem AcMem.bit {w : World} {b r nx : Nat} {es : List MapEntry} {clock : Nat} {seen : Array Nat} {B : Nat} {W : World} (h : AcMem w b r nx es clock seen B W) (hbw : b < w.heap.size) (hrw : r < w.heap.size) (B' : Nat) : AcMem w b r nx es clock seen B' (W.setCell ⟨w.heap.size + 1, 1, none⟩ (.int .u32 (B' : Int))) := by
  have ht : Touch (fun k => k = w.heap.size + 1) W (W.setCell ⟨w.heap.size + 1, 1, none⟩ (.int .u32 (B' : Int))) := (Touch.refl (fun k => k = w.heap.size + 1) W).setCell (p := ⟨w.heap.size + 1, 1, none⟩) (fun _ => rfl) _
  have hN : w.heap.size + 1 + 1 < W.heap.size := (Array.getElem?_eq_some_iff.1 h.it).1
  obtain ⟨v0, h0⟩ := h.r0
  obtain ⟨v1, h1⟩ := h.r1
  exact ⟨(ht.block _ hN (by omega)).trans h.it, (ht.block r (by omega) (by omega)).trans h.hb, (World.cell?_setCell_other _ _ _ _ (by simp)).trans h.a0, World.cell?_setCell_same _ _ _ h.a1, by simpa using h.af, (ht.cell (p := ⟨b, 0, none⟩) (by show b < _; omega) (by show ¬ b = _; omega)).trans h.b0,
    ⟨v0, (ht.cell (p := ⟨w.heap.size, 0, none⟩) (by show w.heap.size < _; omega) (by show ¬ w.heap.size = _; omega)).trans h0⟩, ⟨v1, (ht.cell (p := ⟨w.heap.size, 1, none⟩) (by show w.heap.size < _; omega) (by show ¬ w.heap.size = _; omega)).trans h1⟩, fun j => (ht.frozen (p := ⟨w.heap.size, j, none⟩) (by show w.heap.size < _; omega) (by show ¬ w.heap.size = _; omega)).trans (h.rf j), h.bel.trans (ht.below h.bel.size fun k hk e => by omega)⟩
theorem bits_all {nx : Nat} {s : Ws} {es : List MapEntry} {seen : Array Nat} {B : Nat} (he : EntsAre .u32 es (entL s.l)) (h : BitsOf nx es seen B) (h0 : (leftOf es.toArray seen).size = 0) : ∀ k, B.testBit k = true ↔ ∃ p ∈ s.l, distW p.1 nx = k + 1 := by
  intro k
  rw [h.2 k]
  constructor
  · rintro ⟨x, hx, -, n, hn, hd⟩
    obtain ⟨p, hp, e1, -⟩ := ents_mem he hx
    obtain ⟨q, hq, rfl⟩ := List.mem_map.1 hp
    rw [hn] at e1
    have := int_inj e1
    exact ⟨q, hq, by simp only at this; rw [← this]; exact hd⟩
  · rintro ⟨p, hp, hd⟩
    obtain ⟨x, hx, e1, -⟩ := ents_back he (show (p.1, itV p.1 p.2) ∈ entL s.l from List.mem_map.2 ⟨p, hp, rfl⟩)
    refine ⟨x, hx, ?_, p.1, e1, hd⟩
    cases hc : seen.contains x.born with
    | true => rfl
    | false =>
      have hm : x ∈ leftOf es.toArray seen := by
        unfold leftOf
        exact Array.mem_filter.2 ⟨by simpa using hx, by rw [hc]; rfl⟩
      have := Array.size_pos_of_mem hm
      omega
theorem or_bit (B k : Nat) (hB : B < 4294967296) (hk : k < 32) : bits .or .u32 (B : Int) ((2 : Int) ^ k % 4294967296) = ((B ||| 2 ^ k : Nat) : Int) := by
  have h2 : 2 ^ k < 4294967296 := Nat.lt_of_lt_of_le (Nat.pow_lt_pow_right (by decide) hk) (by decide)
  have e : (2 : Int) ^ k % 4294967296 = ((2 ^ k : Nat) : Int) := by
    have h3 : ((2 ^ k : Nat) : Int) = (2 : Int) ^ k := by simp
    rw [← h3]
    generalize 2 ^ k = z at h2
    omega
  rw [e]
  exact u32_or_nat B (2 ^ k) hB h2
def AckPost (w : World) (s : Ws) (e : Ending) (w' : World) : Prop := (∃ B : Nat, e = .returned (.agg #[.int .u32 (s.nx : Int), .int .u32 (B : Int)]) ∧ B < 4294967296 ∧ ∀ k, B.testBit k = true ↔ ∃ p ∈ s.l, distW p.1 s.nx = k + 1) ∧ Below w.heap.size w w'
set_option maxRecDepth 100000 in
set_option maxHeartbeats 2000000 in
theorem inAck_some (b r : Nat) (s : Ws) (w : World) (h : WAt w b r s) (hok : OkW s) : Calls Try.prog 93 #[.pointer (some ⟨b, 0, none⟩)] w (AckPost w s) := by
  obtain ⟨es, clock, hb, he, hbn, hbc⟩ := h.mp.ex
  have c0 := h.c0
  have c1 := h.c1
  have hbl := h.lt
  have hnx := h.nx
  have hrl := h.mp.lt
  generalize hpost : AckPost w s = Post
  have HPost := Lib.hid hpost
  have HE := Lib.hid he
  have HBN := Lib.hid hbn
  have HBC := Lib.hid hbc
  have HOK := Lib.hid hok
  clear hpost he hbn hbc hok h
  have hA : Below w.heap.size w ((w.alloc (.cells #[.int .u32 0, .int .u32 0] 134)).alloc (.cells #[.int .u32 (s.nx : Int), .int .u32 0] 134)) := bel_alloc (bel_alloc (Below.refl _ _) _) _
  have hb2 : ((w.alloc (.cells #[.int .u32 0, .int .u32 0] 134)).alloc (.cells #[.int .u32 (s.nx : Int), .int .u32 0] 134)).heap[r]? = some (.map es.toArray clock) := (hA.block r hrl).trans hb
  have hrg := run_range_map (P := Try.prog) _ 201 132 142 r es.toArray clock Try.underlying201 hb2
  have HM0 : Hid (AcMem w b r s.nx es clock #[] 0 (((w.alloc (.cells #[.int .u32 0, .int .u32 0] 134)).alloc (.cells #[.int .u32 (s.nx : Int), .int .u32 0] 134)).alloc (.mapIter (some r) clock #[] clock))) := by
    have e1 : (w.alloc (.cells #[.int .u32 0, .int .u32 0] 134)).heap.size = w.heap.size + 1 := by simp
    have e2 : ((w.alloc (.cells #[.int .u32 0, .int .u32 0] 134)).alloc (.cells #[.int .u32 (s.nx : Int), .int .u32 0] 134)).heap.size = w.heap.size + 1 + 1 := by simp
    have q0 : ∀ j v, (#[.int .u32 0, .int .u32 0] : Array Value)[j]? = some v → (w.alloc (.cells #[.int .u32 0, .int .u32 0] 134)).cell? ⟨w.heap.size, j, none⟩ = some v := fun j v hv => by rw [new_at _ _ rfl]; exact hv
    have qf : ∀ j, (w.alloc (.cells #[.int .u32 0, .int .u32 0] 134)).frozen? ⟨w.heap.size, j, none⟩ = false := fun j => frozen_new _ _ _ _
    have qb := alloc_cell c0 (.cells #[.int .u32 0, .int .u32 0] 134)
    generalize w.alloc (.cells #[.int .u32 0, .int .u32 0] 134) = W1 at e1 e2 q0 qf qb hA hb2 ⊢
    have p0 : ∀ j v, (#[.int .u32 (s.nx : Int), .int .u32 0] : Array Value)[j]? = some v → (W1.alloc (.cells #[.int .u32 (s.nx : Int), .int .u32 0] 134)).cell? ⟨w.heap.size + 1, j, none⟩ = some v := fun j v hv => by rw [new_at _ _ e1]; exact hv
    have pf : ∀ j, (W1.alloc (.cells #[.int .u32 (s.nx : Int), .int .u32 0] 134)).frozen? ⟨w.heap.size + 1, j, none⟩ = false := fun j => by rw [← e1]; exact frozen_new _ _ _ _
    have z0 := alloc_cell (q0 0 _ rfl) (.cells #[.int .u32 (s.nx : Int), .int .u32 0] 134)
    have z1 := alloc_cell (q0 1 _ rfl) (.cells #[.int .u32 (s.nx : Int), .int .u32 0] 134)
    have zf : ∀ j, (W1.alloc (.cells #[.int .u32 (s.nx : Int), .int .u32 0] 134)).frozen? ⟨w.heap.size, j, none⟩ = false := fun j => (frozen_old _ _ _ (by show w.heap.size < _; omega)).trans (qf j)
    have zb := alloc_cell qb (.cells #[.int .u32 (s.nx : Int), .int .u32 0] 134)
    generalize W1.alloc (.cells #[.int .u32 (s.nx : Int), .int .u32 0] 134) = W2 at e2 p0 pf z0 z1 zf zb hA hb2 ⊢
    have hI : Below W2.heap.size W2 (W2.alloc (.mapIter (some r) clock #[] clock)) := bel_alloc (Below.refl _ _) _
    exact Lib.hid ⟨by rw [← e2]; exact heap_alloc_new .., (hI.block r (by omega)).trans hb2, alloc_cell (p0 0 _ rfl) _, alloc_cell (p0 1 _ rfl) _, (frozen_old _ _ _ (by show w.heap.size + 1 < _; omega)).trans (pf 1), alloc_cell zb _, ⟨_, alloc_cell z0 _⟩, ⟨_, alloc_cell z1 _⟩, fun j => (frozen_old _ _ _ (by show w.heap.size < _; omega)).trans (zf j), bel_alloc hA _⟩
  go_enter Try.func93, Try.ntmps93
  go_wp2
  generalize ((w.alloc (.cells #[.int .u32 0, .int .u32 0] 134)).alloc (.cells #[.int .u32 (s.nx : Int), .int .u32 0] 134)).alloc (.mapIter (some r) clock #[] clock) = W0 at HM0 ⊢
  clear hrg hb2 hA c0 c1 hb
  go_loopw [4] (fun s4 wr => ∃ (seen : Array Nat) (B : Nat), Hid (BitsOf s.nx es seen B ∧ AcMem w b r s.nx es clock seen B wr)) (fun _ wr => (leftOf es.toArray (wr.iterSeen (w.heap.size + 1 + 1))).size)
  case atStart => exact ⟨#[], 0, Lib.hid ⟨bits_none _ _, HM0.out⟩⟩
  case round =>
    obtain ⟨seen, B, HS⟩ := hrel
    have law := run_next_at (P := Try.prog) wr 0 (w.heap.size + 1 + 1) r clock clock seen es.toArray clock HS.out.2.it HS.out.2.hb (fun x hx => HBC.out x (by simpa using hx)) (Nat.le_refl _)
    rcases law with ⟨h0, hrun⟩ | ⟨e, hel, w1, hw1, hrun⟩
    · have hnn : ∀ ty, (Instr.next (.pointer (some ⟨w.heap.size + 1 + 1, 0, none⟩)) false ty).run Try.prog wr = _ := fun _ => hrun
      obtain ⟨v0, r0⟩ := HS.out.2.r0
      obtain ⟨v1, r1⟩ := HS.out.2.r1
      have a0 := HS.out.2.a0
      have a1 := HS.out.2.a1
      have f0 := HS.out.2.rf 0
      have f1 := HS.out.2.rf 1
      have hRl := block_lt_of_cell r0
      have hAl := block_lt_of_cell a0
      simp only at hRl hAl
      have HF : Hid (AckPost w s (.returned (.agg #[.int .u32 (s.nx : Int), .int .u32 (B : Int)])) ((wr.setCell ⟨w.heap.size, 0, none⟩ (.int .u32 (s.nx : Int))).setCell ⟨w.heap.size, 1, none⟩ (.int .u32 (B : Int)))) := Lib.hid ⟨⟨B, rfl, HS.out.1.1, bits_all HE.out HS.out.1 h0⟩, (HS.out.2.bel.setCell (Nat.le_refl _) _).setCell (Nat.le_refl _) _⟩
      clear hrun h0
      go_wp2
      exact bodyPost_ret (v := .agg #[.int .u32 (s.nx : Int), .int .u32 (B : Int)]) (by simp [results, Try.results93, go_sem, r0, r1]) rfl (by rw [← HPost.out]; exact HF.out)
    · obtain ⟨hmem, -⟩ := mem_left hel
      have hmem' : e ∈ es := by simpa using hmem
      obtain ⟨p, hp, hkey, hval⟩ := ents_mem HE.out hmem'
      obtain ⟨q, hq, rfl⟩ := List.mem_map.1 hp
      simp only at hkey hval
      obtain ⟨hq1, hq2, hq3⟩ := HOK.out q hq
      have hm1 : AcMem w b r s.nx es clock seen B w1 := by
        rcases hw1 with rfl | rfl
        · exact HS.out.2
        · exact HS.out.2.drew
      have HM2 := Lib.hid (hm1.step hbl hrl (seen.push e.born))
      have hrun2 := hrun
      rw [hkey, hval] at hrun
      have hnn : ∀ ty, (Instr.next (.pointer (some ⟨w.heap.size + 1 + 1, 0, none⟩)) false ty).run Try.prog wr = _ := fun _ => hrun
      have HSH := Lib.hid (left_shrinks es.toArray seen e hel)
      have HSE : Hid (wr.iterSeen (w.heap.size + 1 + 1) = seen) := Lib.hid (by unfold World.iterSeen; rw [HS.out.2.it])
      obtain ⟨k, hkd⟩ : ∃ k, distW q.1 s.nx = k + 1 := ⟨distW q.1 s.nx - 1, by omega⟩
      have HBM := Lib.hid (bits_more HS.out.1 hmem' HBN.out hkey hkd (by omega))
      generalize setBlock w1 (w.heap.size + 1 + 1) (.mapIter (some r) clock (seen.push e.born) clock) = W2 at HM2 hnn
      have hen := run_entry_at (P := Try.prog) W2 (w.heap.size + 1 + 1) r clock seen es.toArray clock e HM2.out.it HM2.out.hb hmem (by simpa using HBN.out)
      rw [hkey, hval] at hen
      have HW1 := wrap_sub q.1 s.nx hq1 hnx
      rw [hkd] at HW1
      have hW1 : IntKind.u32.wrap ((q.1 : Int) - (s.nx : Int)) = (k : Int) + 1 := HW1
      have a1 := HM2.out.a1
      have af := HM2.out.af
      have b0 := HM2.out.b0
      have hAl := block_lt_of_cell a1
      have hbl2 := block_lt_of_cell b0
      simp only at hAl hbl2
      have hk32 : k < 32 := by omega
      have HOR := Lib.hid (or_bit B k HS.out.1.1 hk32)
      have HM3 := Lib.hid (HM2.out.bit hbl hrl (B ||| 2 ^ k)).drew
      clear hrun hrun2 hw1 hm1 HW1 hkey hval hmem hmem' hel
      go_upto_region 5 with (fail)
      go_region
      all_goals
        go_wp2
        go_roundw
        case rel => exact ⟨seen.push e.born, B ||| 2 ^ k, Lib.hid ⟨HBM.out, by rw [HOR.out]; exact HM3.out⟩⟩
        case measure =>
          rw [HOR.out, HSE.out]
          have e3 : (W2.setCell ⟨w.heap.size + 1, 1, none⟩ (.int .u32 ((B ||| 2 ^ k : Nat) : Int))).drew.iterSeen (w.heap.size + 1 + 1) = seen.push e.born := by unfold World.iterSeen; rw [HM3.out.it]
          rw [e3]
          exact HSH.out
end Go.Proofs.Ytlhcihjplolgiaa
