/-
  PROVED: for every text and every list of things to take, the law WireTakes answers true, and both read afterwards as before. No condition of our own.
-/
import Derived.Test.YtblmahofopjceaaLawTake
import Derived.Test.YtblmahofopjceaaAwake2
import Derived.Deep.RegionWith
import Derived.Deep.Cut
import Derived.Deep.DeepCutAuto
import Derived.Deep.SlicePairs
import Derived.BigQuiet
import Derived.WalkKit
import Derived.ProofKit
import Derived.OpenShut
import Derived.ShutString
import Derived.ChangeOld
import Derived.Below
import Derived.SliceStrings
namespace Go.Proofs.Ytblmahofopjceaa.wireTakes
open Go.ChangeShapes Go.WideShapes Go.ChangeAt Go.RowKit
open Go.ChangeMaps (open_string shut_string)
set_option linter.unusedVariables false
/-- WHAT THE WALK IS TOLD OF A LIST OF PAIRS OF INTEGERS. -/
def IsPairs (w : World) (a : Option Addr) (len : Nat) (K N : Nat → Int) : Prop :=
  len ≤ maxLen ∧ (0 < len → ∃ b off, a = some ⟨b, off, none⟩ ∧ ∀ i, i < len → w.cell? ⟨b, off + i * 2, none⟩ = some (.int .i64 (K i)) ∧ w.cell? ⟨b, off + i * 2 + 1, none⟩ = some (.int .i64 (N i)) ∧ -9223372036854775808 ≤ N i ∧ N i ≤ 9223372036854775807)
/-- The law's own variables: the reader, and the document's. -/
def Vars (bI bX : Nat) (st : List UInt8 × Nat) (w wr : World) : Prop :=
  InSt wr bI st ∧ wr.cell? ⟨bX, 0, none⟩ = some (.string (bs st.1)) ∧ wr.cell? ⟨bX, 1, none⟩ = some (.int .i64 (st.2 : Nat)) ∧ wr.frozen? ⟨bX, 0, none⟩ = false ∧ wr.frozen? ⟨bX, 1, none⟩ = false ∧ w.heap.size ≤ bI ∧ w.heap.size ≤ bX ∧ bI ≠ bX ∧ bX < wr.heap.size ∧ Below w.heap.size w wr
theorem Vars.keep {bI bX : Nat} {st : List UInt8 × Nat} {w wr w' : World} (h : Vars bI bX st w wr) (hb : Below wr.heap.size wr w') : Vars bI bX st w w' := by
  obtain ⟨h1, h2, h3, h4, h5, h6, h7, h8, h9, h10⟩ := h
  exact ⟨h1.below hb, (hb.cell (p := ⟨bX, 0, none⟩) h9).trans h2, (hb.cell (p := ⟨bX, 1, none⟩) h9).trans h3, (hb.frozen (p := ⟨bX, 0, none⟩) h9).trans h4, (hb.frozen (p := ⟨bX, 1, none⟩) h9).trans h5, h6, h7, h8, Nat.lt_of_lt_of_le h9 hb.size, h10.trans (hb.mono h10.size)⟩
theorem vars_new {w w2 : World} {s : ByteArray} (h : InSt w2 w.heap.size (s.data.toList, 0)) (hb : Below w.heap.size w w2) : Vars w.heap.size w2.heap.size (s.data.toList, 0) w (w2.alloc (.cells #[.string s, .int .i64 0] 45)) := by
  have hl := h.lt
  refine ⟨h.below ((Below.refl _ _).alloc (Nat.le_refl _) _), ?_, by simp, frozen_new _ _ _ _, frozen_new _ _ _ _, Nat.le_refl _, hb.size, by omega, by simp, hb.alloc hb.size _⟩
  rw [bs_eta]; simp
/-- Behind one thing taken of both. -/
theorem Vars.step {bI bX : Nat} {st st' : List UInt8 × Nat} {w wr w1 : World} (h : Vars bI bX st w wr) (hi : InTo wr bI st' w1) (o : Obj) :
    w1.cell? ⟨bX, 0, none⟩ = some (.string (bs st.1)) ∧ w1.cell? ⟨bX, 1, none⟩ = some (.int .i64 (st.2 : Nat)) ∧ w1.frozen? ⟨bX, 0, none⟩ = false ∧ w1.frozen? ⟨bX, 1, none⟩ = false ∧ bX < w1.heap.size ∧
    Vars bI bX st' w (((w1.setCell ⟨bX, 0, none⟩ (.string (bs st'.1))).setCell ⟨bX, 1, none⟩ (.int .i64 (st'.2 : Nat))).alloc o) := by
  obtain ⟨h1, h2, h3, h4, h5, h6, h7, h8, h9, h10⟩ := h
  have hne : ¬ bX = bI := fun e => h8 e.symm
  have q2 := (hi.2.cell (p := ⟨bX, 0, none⟩) h9 hne).trans h2
  have q3 := (hi.2.cell (p := ⟨bX, 1, none⟩) h9 hne).trans h3
  have q4 := (hi.2.frozen (p := ⟨bX, 0, none⟩) h9 hne).trans h4
  have q5 := (hi.2.frozen (p := ⟨bX, 1, none⟩) h9 hne).trans h5
  have q9 : bX < w1.heap.size := Nat.lt_of_lt_of_le h9 hi.2.size
  have hb1 : Below w.heap.size w w1 := h10.trans (hi.2.below h10.size (by rintro k hk rfl; omega))
  refine ⟨q2, q3, q4, q5, q9, ?_⟩
  have ht : Touch (fun k => k = bX) w1 ((w1.setCell ⟨bX, 0, none⟩ (.string (bs st'.1))).setCell ⟨bX, 1, none⟩ (.int .i64 (st'.2 : Nat))) := ((Touch.refl (fun k => k = bX) w1).setCell (p := ⟨bX, 0, none⟩) (fun _ => rfl) _).setCell (p := ⟨bX, 1, none⟩) (fun _ => rfl) _
  have key : Vars bI bX st' w ((w1.setCell ⟨bX, 0, none⟩ (.string (bs st'.1))).setCell ⟨bX, 1, none⟩ (.int .i64 (st'.2 : Nat))) := by
    refine ⟨hi.1.touch ht h8, ?_, World.cell?_setCell_same _ _ _ ((World.cell?_setCell_other _ _ _ _ (by simp)).trans q3), by simpa using q4, by simpa using q5, h6, h7, h8, by simpa using q9, (hb1.setCell h7 _).setCell h7 _⟩
    rw [World.cell?_setCell_other _ _ _ _ (by simp)]; exact World.cell?_setCell_same _ _ _ q2
  exact key.keep ((Below.refl _ _).alloc (Nat.le_refl _) o)
/-- Between the taking and the storing. -/
def Mid (bI bX : Nat) (st st' : List UInt8 × Nat) (B8 : Nat) (w wx : World) : Prop :=
  InSt wx bI st' ∧ wx.cell? ⟨bX, 0, none⟩ = some (.string (bs st.1)) ∧ wx.cell? ⟨bX, 1, none⟩ = some (.int .i64 (st.2 : Nat)) ∧ wx.frozen? ⟨bX, 0, none⟩ = false ∧ wx.frozen? ⟨bX, 1, none⟩ = false ∧
    wx.cell? ⟨B8, 0, none⟩ = some (.string (bs st'.1)) ∧ wx.cell? ⟨B8, 1, none⟩ = some (.int .i64 (st'.2 : Nat)) ∧ w.heap.size ≤ bI ∧ w.heap.size ≤ bX ∧ bI ≠ bX ∧ bX < wx.heap.size ∧ Below w.heap.size w wx
theorem ahead {wr w4 : World} {bI : Nat} {st' : List UInt8 × Nat} (hb : bI < wr.heap.size) (hi : InTo (wr.alloc (.cells #[.string ⟨#[]⟩, .int .i64 0] 45)).drew bI st' w4) :
    w4.cell? ⟨wr.heap.size, 0, none⟩ = some (.string ⟨#[]⟩) ∧ w4.cell? ⟨wr.heap.size, 1, none⟩ = some (.int .i64 0) ∧ w4.frozen? ⟨wr.heap.size, 0, none⟩ = false ∧ w4.frozen? ⟨wr.heap.size, 1, none⟩ = false ∧ wr.heap.size < w4.heap.size := by
  have hz := hi.2.size
  have hlt : wr.heap.size < (wr.alloc (.cells #[.string ⟨#[]⟩, .int .i64 0] 45)).drew.heap.size := by simp
  have hne : ¬ wr.heap.size = bI := by omega
  refine ⟨(hi.2.cell (p := ⟨wr.heap.size, 0, none⟩) hlt hne).trans (by simp), (hi.2.cell (p := ⟨wr.heap.size, 1, none⟩) hlt hne).trans (by simp), (hi.2.frozen (p := ⟨wr.heap.size, 0, none⟩) hlt hne).trans (frozen_new _ _ _ _), (hi.2.frozen (p := ⟨wr.heap.size, 1, none⟩) hlt hne).trans (frozen_new _ _ _ _), Nat.lt_of_lt_of_le hlt hz⟩
theorem vars_lt {bI bX : Nat} {st : List UInt8 × Nat} {w wr : World} (h : Vars bI bX st w wr) : bI < wr.heap.size := h.1.lt
theorem mid_mk {bI bX B8 : Nat} {st st' : List UInt8 × Nat} {w wr wa w4 wx : World} (h : Vars bI bX st w wr) (ha : Below wr.heap.size wr wa) (hi : InTo wa bI st' w4) (ht : Touch (fun k => k = B8) w4 wx) (hB : wr.heap.size ≤ B8)
    (h0 : wx.cell? ⟨B8, 0, none⟩ = some (.string (bs st'.1))) (h1 : wx.cell? ⟨B8, 1, none⟩ = some (.int .i64 (st'.2 : Nat))) : Mid bI bX st st' B8 w wx := by
  have hlt := vars_lt h
  obtain ⟨v1, v2, v3, v4, v5, v6, v7, v8, v9, v10⟩ := h
  have za := ha.size
  have z4 := hi.2.size
  have hne : ¬ bX = bI := fun e => v8 e.symm
  have x9 : bX < wa.heap.size := by omega
  have q2 := (hi.2.cell (p := ⟨bX, 0, none⟩) x9 hne).trans ((ha.cell (p := ⟨bX, 0, none⟩) v9).trans v2)
  have q3 := (hi.2.cell (p := ⟨bX, 1, none⟩) x9 hne).trans ((ha.cell (p := ⟨bX, 1, none⟩) v9).trans v3)
  have q4 := (hi.2.frozen (p := ⟨bX, 0, none⟩) x9 hne).trans ((ha.frozen (p := ⟨bX, 0, none⟩) v9).trans v4)
  have q5 := (hi.2.frozen (p := ⟨bX, 1, none⟩) x9 hne).trans ((ha.frozen (p := ⟨bX, 1, none⟩) v9).trans v5)
  have y9 : bX < w4.heap.size := by omega
  have hBX : ¬ bX = B8 := by omega
  have hBI : ¬ bI = B8 := by omega
  have b1 : Below w.heap.size w wa := v10.trans (ha.mono v10.size)
  have b2 : Below w.heap.size w w4 := b1.trans (hi.2.below b1.size (by rintro k hk rfl; omega))
  exact ⟨hi.1.touch ht hBI, (ht.cell (p := ⟨bX, 0, none⟩) y9 hBX).trans q2, (ht.cell (p := ⟨bX, 1, none⟩) y9 hBX).trans q3, (ht.frozen (p := ⟨bX, 0, none⟩) y9 hBX).trans q4, (ht.frozen (p := ⟨bX, 1, none⟩) y9 hBX).trans q5, h0, h1, v6, v7, v8, Nat.lt_of_lt_of_le y9 ht.size, b2.trans (ht.below b2.size (by rintro k hk rfl; have := v10.size; omega))⟩
theorem mid_after {bI bX : Nat} {st st' : List UInt8 × Nat} {w wr w4 : World} (h : Vars bI bX st w wr) (hi : InTo wr.drew bI st' w4) :
    Mid bI bX st st' w4.heap.size w (w4.alloc (.cells #[.string (bs st'.1), .int .i64 (st'.2 : Nat)] 45)) := by
  refine mid_mk h (Below.refl _ wr).drew hi ((Touch.refl _ w4).alloc _) hi.2.size ?_ ?_ <;> simp
theorem mid_before {bI bX : Nat} {st st' : List UInt8 × Nat} {w wr w4 : World} (h : Vars bI bX st w wr) (hi : InTo (wr.alloc (.cells #[.string ⟨#[]⟩, .int .i64 0] 45)).drew bI st' w4) :
    Mid bI bX st st' wr.heap.size w ((w4.setCell ⟨wr.heap.size, 0, none⟩ (.string (bs st'.1))).setCell ⟨wr.heap.size, 1, none⟩ (.int .i64 (st'.2 : Nat))) := by
  obtain ⟨y0, y1, -, -, -⟩ := ahead (vars_lt h) hi
  refine mid_mk h ((Below.refl _ wr).alloc (Nat.le_refl _) _).drew hi (((Touch.refl (fun k => k = wr.heap.size) w4).setCell (p := ⟨wr.heap.size, 0, none⟩) (fun _ => rfl) _).setCell (p := ⟨wr.heap.size, 1, none⟩) (fun _ => rfl) _) (Nat.le_refl _) ?_ ?_
  · rw [World.cell?_setCell_other _ _ _ _ (by simp)]; exact World.cell?_setCell_same _ _ _ y0
  · exact World.cell?_setCell_same _ _ _ ((World.cell?_setCell_other _ _ _ _ (by simp)).trans y1)
theorem pairs_of {H : Type} {enc : TypeId × Value → H} {w : World} {base : Nat} {held : Bool} {fuel : Nat} {a : Option Addr} {len cap : Nat} {x : DataW H × List MemPlace} (h : DataW.trod enc Try.prog w base (fun _ => true) held fuel 41 [.slice a len cap] = some x) : ∃ K N, IsPairs w a len K N := by
  rcases Deep.open_slice_pairs Try.underlying41 Try.underlying49 (by kernel_rfl) rfl rfl (by kernel_rfl) (by kernel_rfl) h with ⟨hcs, _⟩ | ⟨ad, l, c, m, n, V0, V1, D0, D1, P0, P1, hcs, _, hl, hm, hmm, _, hx⟩
  · simp at hcs
    obtain ⟨rfl, rfl, rfl⟩ := hcs
    exact ⟨fun _ => 0, fun _ => 0, by simp [maxLen], fun h => by simp at h⟩
  · simp at hcs
    obtain ⟨rfl, rfl, rfl⟩ := hcs
    have hmc : m = cap := by simpa using hmm
    refine ⟨fun i => intOf (V0 i), fun i => intOf (V1 i), by omega, fun h0 => ?_⟩
    obtain ⟨b, off, spot⟩ := ad
    have h00 := (hx 0 (by omega)).1
    have hspot : spot = none := by simpa [Addr.add] using World.cell?_spot h00
    subst hspot
    refine ⟨b, off, rfl, fun i hi => ?_⟩
    obtain ⟨e0, e1, e2, e3⟩ := hx i (by omega)
    obtain ⟨k0, q0, _, wf0⟩ := DataW.trod_int Try.underlying3 e2
    obtain ⟨k1, q1, _, wf1⟩ := DataW.trod_int Try.underlying3 e3
    simp at q0 q1
    have hwf : -9223372036854775808 ≤ k1 ∧ k1 ≤ 9223372036854775807 := by simpa [Lit.wf, IntKind.min, IntKind.max, IntKind.signed, IntKind.bits] using wf1
    simp only [q0, q1, intOf]
    rw [q0] at e0
    rw [q1] at e1
    refine ⟨?_, ?_, hwf.1, hwf.2⟩
    · by_cases hz : i * 2 = 0
      · rw [hz] at e0 ⊢; simpa [Addr.add] using e0
      · simpa [Addr.add, hz] using e0
    · simpa [Addr.add, Nat.add_assoc] using e1
theorem err_q {W : World} {b : Nat} {l : List UInt8} {e : Nat} (h : InSt W b (l, e)) (n : Nat) : Calls Try.prog 24 #[.pointer (some ⟨b, 0, none⟩)] (W.drewN n) fun r w' => r = .returned (.int .i64 (e : Nat)) ∧ w' = W.drewN n :=
  (err_any b l e (W.drewN n) h).mono fun _ _ h => ⟨h.1, h.2.symm⟩
theorem len_q {W : World} {b : Nat} {l : List UInt8} {e : Nat} (h : InSt W b (l, e)) (n : Nat) : Calls Try.prog 25 #[.pointer (some ⟨b, 0, none⟩)] (W.drewN n) fun r w' => r = .returned (.int .i64 (l.length : Nat)) ∧ w' = W.drewN n :=
  (len_any b l e (W.drewN n) h).mono fun _ _ h => ⟨h.1, h.2.symm⟩
theorem vars_end {bI bX : Nat} {st st' : List UInt8 × Nat} {w wr w4 : World} (h : Vars bI bX st w wr) (hi : InTo wr.drew bI st' w4) : w4.cell? ⟨bX, 0, none⟩ = some (.string (bs st.1)) ∧ w4.cell? ⟨bX, 1, none⟩ = some (.int .i64 (st.2 : Nat)) ∧ Below w.heap.size w w4 := by
  obtain ⟨v1, v2, v3, v4, v5, v6, v7, v8, v9, v10⟩ := h
  have hne : ¬ bX = bI := fun e => v8 e.symm
  have hz := v10.size
  have b0 : Below w.heap.size w wr.drew := v10.drew
  exact ⟨(hi.2.cell (p := ⟨bX, 0, none⟩) v9 hne).trans v2, (hi.2.cell (p := ⟨bX, 1, none⟩) v9 hne).trans v3, b0.trans (hi.2.below hz (by rintro k hk rfl; omega))⟩
theorem mid_vars {bI bX B8 : Nat} {st st' : List UInt8 × Nat} {w wx : World} (h : Mid bI bX st st' B8 w wx) : Vars bI bX st' w ((wx.setCell ⟨bX, 0, none⟩ (.string (bs st'.1))).setCell ⟨bX, 1, none⟩ (.int .i64 (st'.2 : Nat))) := by
  obtain ⟨m1, m2, m3, m4, m5, m6, m7, m8, m9, m10, m11, m12⟩ := h
  have ht : Touch (fun k => k = bX) wx ((wx.setCell ⟨bX, 0, none⟩ (.string (bs st'.1))).setCell ⟨bX, 1, none⟩ (.int .i64 (st'.2 : Nat))) := ((Touch.refl (fun k => k = bX) wx).setCell (p := ⟨bX, 0, none⟩) (fun _ => rfl) _).setCell (p := ⟨bX, 1, none⟩) (fun _ => rfl) _
  refine ⟨m1.touch ht m10, ?_, World.cell?_setCell_same _ _ _ ((World.cell?_setCell_other _ _ _ _ (by simp)).trans m3), by simpa using m4, by simpa using m5, m8, m9, m10, by simpa using m11, (m12.setCell m9 _).setCell m9 _⟩
  rw [World.cell?_setCell_other _ _ _ _ (by simp)]; exact World.cell?_setCell_same _ _ _ m2
set_option maxHeartbeats 2000000 in
set_option maxRecDepth 100000 in
theorem walk (a0 : ByteArray) (w0 : a0.size ≤ maxLen) (a1 : Option Addr) (len1 cap1 : Nat) (K N : Nat → Int) (w : World) (w1 : IsPairs w a1 len1 K N) :
    Calls Try.prog 7 #[.string a0, .slice a1 len1 cap1] w fun e w' => e = .returned (.bool true) ∧ Below w.heap.size w w' := by
  have HP := Lib.hid w1
  have hlen : len1 ≤ 9223372036854775807 := w1.1
  clear w1
  go_enter Try.func7, Try.ntmps7
  go_wp2_with fail
  refine (cut_any a0 120 _ w0 (by decide)).mono ?_
  rintro e w' ⟨rfl, rfl⟩
  have hs := cutB_le a0 120
  generalize cutB a0 120 = s at hs ⊢
  go_wp2_with fail
  refine (open_any s _ (by omega)).mono ?_
  rintro r w2 ⟨rfl, hi2, hb2⟩
  have HI2 := Lib.hid hi2
  have HB2 := Lib.hid hb2
  have hz2 := hb2.size
  have hlt2 := hi2.lt
  have HV2 := Lib.hid (vars_new hi2 hb2)
  clear hi2 hb2
  go_wp2_with fail
  refine (awake2_any _).mono ?_
  rintro r w3 ⟨rfl, hb3⟩
  have HV3 := Lib.hid (HV2.out.keep hb3)
  clear hb3 HV2 HI2 HB2
  generalize s.data.toList = l0 at HV3
  go_wp2
  go_loopw [7] (fun i wr => ∃ (k : Nat) (st : List UInt8 × Nat), k ≤ len1 ∧ k ≤ 15 ∧ i = .int .i64 k ∧ Hid (Vars w.heap.size w2.heap.size st w wr)) (fun i _ => 15 - (intOf i).toNat)
  case atStart => exact ⟨0, _, by omega, by omega, rfl, HV3⟩
  case round =>
    obtain ⟨k, st, hk, hk15, rfl, HV⟩ := hrel
    obtain ⟨l, e⟩ := st
    have hz := bs_size l
    by_cases hlt : k < len1
    · by_cases hlt2 : k < 15
      · obtain ⟨b, off, rfl, hcell⟩ := HP.out.2 (by omega)
        obtain ⟨e0, e1, n0, n1⟩ := hcell k hlt
        have hbl : b < w.heap.size := block_lt_of_cell e0
        have hbel := HV.out.2.2.2.2.2.2.2.2.2
        have c0 : wr.cell? ⟨b, off + k * 2, none⟩ = some (.int .i64 (K k)) := (hbel.cell (p := ⟨b, off + k * 2, none⟩) hbl).trans e0
        have c1 : wr.cell? ⟨b, off + k * 2 + 1, none⟩ = some (.int .i64 (N k)) := (hbel.cell (p := ⟨b, off + k * 2 + 1, none⟩) hbl).trans e1
        generalize K k = kd at c0
        generalize N k = nn at c1 n0 n1
        have x0 : wr.cell? ⟨w2.heap.size, 0, none⟩ = some (.string (bs l)) := HV.out.2.1
        have x1 : wr.cell? ⟨w2.heap.size, 1, none⟩ = some (.int .i64 (e : Nat)) := HV.out.2.2.1
        have hx2 : w2.heap.size < wr.heap.size := HV.out.2.2.2.2.2.2.2.2.1
        have HN := Lib.hid (And.intro n0 n1)
        have hbr : b < wr.heap.size := by omega
        clear hcell e0 e1 hbel n0 n1
        go_upto_region 9 with (fail)
        go_cut [8, 9] (fun s8 s9 wx => ∃ B8 : Nat, s8 = .pointer (some ⟨B8, 0, none⟩) ∧ s9 = .bool true ∧ Hid (Mid w.heap.size w2.heap.size (l, e) (takeS (l, e) kd nn) B8 w wx))
        case first =>
          go_region_with (first
            | (go_at_call 23; (with_reducible refine (take_any _ l e kd nn wr.drew HN.out.2 HN.out.1 ?_).mono ?_); exact HV.out.1; rintro r w4 ⟨rfl, hi⟩; have HI4 := Lib.hid hi; clear hi; simp only [inV])
            | (go_at_call 23; (with_reducible refine (take_any _ l e kd nn (wr.alloc (.cells #[.string ⟨#[]⟩, .int .i64 0] 45)).drew HN.out.2 HN.out.1 ?_).mono ?_); exact HV.out.1.below ((Below.refl _ _).alloc (Nat.le_refl _) _).drew; rintro r w4 ⟨rfl, hi⟩; obtain ⟨y0, y1, y2, y3, y4⟩ := ahead (by omega) hi; have HI4 := Lib.hid hi; clear hi; simp only [inV]))
          all_goals (go_wp2_with fail; go_meet)
          all_goals first
            | exact ⟨_, rfl, rfl, Lib.hid (mid_after HV.out HI4.out)⟩
            | exact ⟨_, rfl, rfl, Lib.hid (mid_before HV.out HI4.out)⟩
        case rest =>
          obtain ⟨B8, rfl, rfl, HMid⟩ := hcut
          generalize takeS (l, e) kd nn = st' at HMid
          obtain ⟨l', e'⟩ := st'
          have HVW := Lib.hid (mid_vars HMid.out)
          have hz' := bs_size l'
          obtain ⟨m1, m2, m3, m4, m5, m6, m7, m8, m9, m10, m11, m12⟩ := HMid.out
          simp only at m2 m3 m6 m7
          have n1 : ((e' : Int) != (e' : Int)) = false := by simp
          have n2 : ((l'.length : Int) != (l'.length : Int)) = false := by simp
          clear m1 m12 HMid
          go_upto_region 11 with (fail)
          clear m2 m3 m4 m5 m6 m7 m11
          generalize (wc.setCell ⟨w2.heap.size, 0, none⟩ (.string (bs l'))).setCell ⟨w2.heap.size, 1, none⟩ (.int .i64 (e' : Nat)) = W at HVW ⊢
          have p2 : W.cell? ⟨w2.heap.size, 0, none⟩ = some (.string (bs l')) := HVW.out.2.1
          have p3 : W.cell? ⟨w2.heap.size, 1, none⟩ = some (.int .i64 (e' : Nat)) := HVW.out.2.2.1
          go_quiet ((first
            | (go_at_call 24; exact Calls.quiet_of_same (err_q HVW.out.1 _))
            | (go_at_call 25; exact Calls.quiet_of_same (len_q HVW.out.1 _))))
          go_wp2
          go_roundw
          case rel => exact ⟨k + 1, (l', e'), by omega, by omega, by go_num, Lib.hid (HVW.out.keep ⟨rfl, rfl, rfl, Nat.le_refl _, fun _ _ => rfl⟩)⟩
          case measure => simp [intOf]; omega
      · have HVR := Lib.hid HV.out
        obtain ⟨v1, v2, v3, v4, v5, v6, v7, v8, v9, v10⟩ := HV.out
        simp only at v2 v3
        have HOK := Lib.hid (show e ≠ 0 → l = [] from v1.2.2.2.2.2.1)
        clear v1 v10
        go_upto_region 13 with (fail)
        go_region_with (first
          | (go_at_call 26; (with_reducible refine (end_any _ l e wr.drew ?_).mono ?_); exact HVR.out.1; rintro r w4 ⟨rfl, hi⟩; have HE4 := Lib.hid (vars_end HVR.out hi); obtain ⟨z0, z1, -⟩ := vars_end HVR.out hi; clear hi; simp only at z0 z1)
          | (go_at_call 27; (with_reducible refine (refEnd_any l e _ HOK.out).mono ?_); rintro r w5 ⟨rfl, hb5⟩))
        all_goals (go_wp2; go_ret; exact ⟨rfl, HE4.out.2.2.trans (hb5.mono HE4.out.2.2.size)⟩)
    · have HVR := Lib.hid HV.out
      obtain ⟨v1, v2, v3, v4, v5, v6, v7, v8, v9, v10⟩ := HV.out
      simp only at v2 v3
      have HOK := Lib.hid (show e ≠ 0 → l = [] from v1.2.2.2.2.2.1)
      clear v1 v10
      go_upto_region 13 with (fail)
      go_region_with (first
        | (go_at_call 26; (with_reducible refine (end_any _ l e wr.drew ?_).mono ?_); exact HVR.out.1; rintro r w4 ⟨rfl, hi⟩; have HE4 := Lib.hid (vars_end HVR.out hi); obtain ⟨z0, z1, -⟩ := vars_end HVR.out hi; clear hi; simp only at z0 z1)
        | (go_at_call 27; (with_reducible refine (refEnd_any l e _ HOK.out).mono ?_); rintro r w5 ⟨rfl, hb5⟩))
      all_goals (go_wp2; go_ret; exact ⟨rfl, HE4.out.2.2.trans (hb5.mono HE4.out.2.2.size)⟩)

/-! ### THE ROW's STEP -/
theorem own : ownKnob Try.prog.godebug = none := by kernel_rfl
theorem laidOut : laidOutB Try.prog = true := by kernel_rfl
set_option maxRecDepth 100000 in
theorem lifted (os : Os) (started : os.Started) (H : Type) (enc : TypeId × Value → H) :
    ReturnsInHanded {} Try.checked os 7 .any (Rows.wireTakesSpec.pre6 enc Try.prog Try.f7 Rows.wireTakesRow.domain false) (Rows.wireTakesSpec.post enc Try.prog Try.f7 false true false false) := by
  refine returnsInHanded_of_change (C := Try.checked) own started (by kernel_rfl) Try.func7
    (ChangeSpec.witness6 (enc := enc) (C := Try.checked) false ⟨#[], #[.string ByteArray.empty, .slice none 0 0], []⟩ 8 (by kernel_rfl) (by kernel_rfl) (by kernel_rfl) (by kernel_rfl)) ?_
  intro W base args ds gs before hval0 hW hcnd _
  have hval : ∀ (j : Nat) t v, Try.f7.params[j]? = some t → args[j]? = some v → Value.okWide Try.prog W .any base t v := hval0
  have hW' := hW
  obtain ⟨p, q, hA0, hV, rfl, hfz, hnd⟩ := hW
  have hA : DataW.TrodAll enc Try.prog W 0 (fun _ => true) true Try.f7.params.toList args.toList ds p := hA0
  rw [Try.params7] at hA hval
  obtain ⟨v0, vs0, d0, ds0, p0, q0, hargs, rfl, rfl, h0, r0⟩ := trodAll_cons hA
  obtain ⟨v1, vs1, d1, ds1, p1, q1, rfl, rfl, rfl, h1, r1⟩ := trodAll_cons r0
  obtain ⟨rfl, rfl, rfl⟩ := trodAll_nil r1
  obtain rfl : args = #[v0, v1] := by cases args; simp_all
  obtain ⟨rfl, rfl⟩ := trodVars_none hV
  have k0 := h0
  have lt0 : ∀ x ∈ p0, x.block < W.heap.size := by obtain ⟨m, hm⟩ := k0; exact DataW.trod_lt m _ _ _ hm
  obtain ⟨a0, rfl, rfl, rfl, w0⟩ := open_string Try.underlying9 (hval 0 9 v0 rfl rfl) h0
  have k1 := h1
  have lt1 : ∀ x ∈ p1, x.block < W.heap.size := by obtain ⟨m, hm⟩ := k1; exact DataW.trod_lt m _ _ _ hm
  obtain ⟨a1, len1, cap1, rfl⟩ := okWide_slice Try.underlying41 (hval 1 41 v1 rfl rfl)
  obtain ⟨K1, N1, w1⟩ : ∃ K N, IsPairs W a1 len1 K N := by
    obtain ⟨fuel, hf⟩ := h1
    exact pairs_of hf
  clear hA0 hval0
  refine (walk a0 w0 a1 len1 cap1 K1 N1 W w1).mono fun e W' ⟨he, bel⟩ => ?_
  subst he
  exact ⟨_, rfl, _, _, _, [], _, [], hW', trodAll_mk1 (shut_bool Try.underlying4 _), (trodAll_cons_mk (Below.trod laidOut (by kernel_rfl) (of_decide_eq_true (by kernel_rfl)) k0 bel lt0) (trodAll_cons_mk (Below.trod laidOut (by kernel_rfl) (of_decide_eq_true (by kernel_rfl)) k1 bel lt1) trodAll_mk0)), rfl, bel.frame _, fun h => by cases h⟩

theorem over : Rows.wireTakesRow.holds Try.pinned (OpenSpec.ofChange Rows.wireTakesSpec) :=
  OpenClaim.holds_of_wide 7 Try.f7 rfl rfl rfl rfl rfl rfl rfl ⟨rfl, rfl, rfl, rfl, rfl⟩ rfl rfl rfl rfl rfl (by kernel_rfl) Try.func7 (by kernel_rfl)
    (of_decide_eq_true (by kernel_rfl)) (by unfold Func.isWrapper; first | (rw [if_pos (by decide +kernel)]; kernel_rfl) | (rw [if_neg (by decide +kernel)]; exact ⟨rfl, rfl⟩))
    (fun os started H enc _ => lifted os started H enc)

end Go.Proofs.Ytblmahofopjceaa.wireTakes
namespace Go.Proofs.Ytblmahofopjceaa
theorem wireTakes_proved : Rows.WireTakesSaid := wireTakes.over
end Go.Proofs.Ytblmahofopjceaa
