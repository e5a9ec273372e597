/-
  Layer 13: the document's own: a thing came: what is put nowhere; what lies there while things go out.
-/
import Derived.Test.YtpilkaggiajjmaaRWin4
namespace Go.Proofs.Ytpilkaggiajjmaa
open Go.RowKit
set_option linter.unusedVariables false

theorem fw_none {L : Its} {x : Nat} (h : ∀ p ∈ L, p.1 ≠ x) : findW L x = none := by
  unfold findW
  rw [List.find?_eq_none.2 (fun p hp => by simpa using h p hp)]; rfl
theorem find13_fw {L : Its} {x : Nat} {z : Int} (h : Find13 L x z) (nd : (L.map (·.1)).Nodup) : (∃ k, ∃ hk : k < L.length, z = (k : Int) ∧ L[k].1 = x ∧ findW L x = some L[k].2) ∨ (z = -1 ∧ findW L x = none) := by
  rcases h with ⟨k, hk, hz, he⟩ | ⟨hz, hno⟩
  · exact .inl ⟨k, hk, hz, he, findW_at13 nd hk he⟩
  · exact .inr ⟨hz, fw_none hno⟩
def P13 (w : World) (a0 : Option Addr) (t : (Nat × Its × List (List UInt8)) × Nat) (r : Ending) (w' : World) : Prop :=
  ∃ a c a1 c1, r = .returned (.tuple #[.agg #[.int .i64 (t.1.1 : Int), .slice a t.1.2.1.length c], .slice a1 t.1.2.2.length c1, .int .i64 (t.2 : Int)]) ∧ RNew w a0 a c t.1.2.1 w' ∧ VRow 1 w' a1 (t.1.2.2.map strCells1) ∧ (∀ x, a1 = some x → w.heap.size ≤ x.block)
abbrev w3_13 (w : World) (n : Nat) (a : Option Addr) (m c x : Nat) (t : List UInt8) : World := ((w.alloc (.cells #[.int .i64 (n : Int), .slice a m c] 56)).alloc (.cells #[.int .i64 (x : Int), .string (bs t)] 39)).alloc (.cells #[.int .i64 0, .slice none 0 0] 56)
theorem w3_bel (w : World) (n : Nat) (a : Option Addr) (m c x : Nat) (t : List UInt8) : Below w.heap.size w (w3_13 w n a m c x t) := bel_alloc (bel_alloc (bel_alloc (Below.refl _ _) _) _) _
/-- What is put nowhere. -/
theorem p13_no {w w1 : World} {a : Option Addr} {c n : Nat} {L : Its} (hb : Below w.heap.size w w1) (hr : RRow w a L) (hnn : a = none → L = []) (hc : L.length ≤ c ∧ c ≤ maxLen) (ha : ∀ x, a = some x → x.block < w.heap.size) (e R : Nat) (hR : w.heap.size ≤ R) (u v : Value) : P13 w a ((n, L, []), e) (.returned (.tuple #[.agg #[.int .i64 (n : Int), .slice a L.length c], .slice none 0 0, .int .i64 (e : Int)])) ((w1.setCell ⟨R, 0, none⟩ u).setCell ⟨R, 1, none⟩ v) :=
  ⟨a, c, none, 0, rfl, RNew.set2 (w1 := w1) ⟨hr.below hb, hnn, hc.1, hc.2, .inl rfl, hb⟩ hR (fun x hx => by have := ha x hx; omega) u v, (fun h => by simp at h), (fun x hx => by cases hx)⟩
theorem p13_no0 {w w1 : World} {a : Option Addr} {c n : Nat} {L : Its} (hb : Below w.heap.size w w1) (hr : RRow w a L) (hnn : a = none → L = []) (hc : L.length ≤ c ∧ c ≤ maxLen) (e : Nat) : P13 w a ((n, L, []), e) (.returned (.tuple #[.agg #[.int .i64 (n : Int), .slice a L.length c], .slice none 0 0, .int .i64 (e : Int)])) w1 :=
  ⟨a, c, none, 0, rfl, ⟨hr.below hb, hnn, hc.1, hc.2, .inl rfl, hb⟩, (fun h => by simp at h), (fun x hx => by cases hx)⟩
set_option maxRecDepth 100000 in
set_option maxHeartbeats 2000000 in
theorem ref13Put_far (a : Option Addr) (c n x : Nat) (L : Its) (t : List UInt8) (w : World) (hn : n ≤ 10000) (hx : x ≤ 20000) (hr : RRow w a L) (hnn : a = none → L = []) (hc : L.length ≤ c ∧ c ≤ maxLen) (ha : ∀ y, a = some y → y.block < w.heap.size) (h : x < n ∨ ¬ x < n ∧ n + 32 < x) :
    Calls Try.prog 26 #[.agg #[.int .i64 (n : Int), .slice a L.length c], .agg #[.int .i64 (x : Int), .string (bs t)]] w (P13 w a (putR n L x t)) := by
  have HF : Hid (∀ (e : Nat) o, P13 w a ((n, L, []), e) (.returned (.tuple #[.agg #[.int .i64 (n : Int), .slice a L.length c], .slice none 0 0, .int .i64 (e : Int)])) (((w.alloc (.cells #[.int .i64 (n : Int), .slice a L.length c] 56)).alloc (.cells #[.int .i64 (x : Int), .string (bs t)] 39)).alloc o)) := Lib.hid (fun e o => p13_no0 (bel_alloc (bel_alloc (bel_alloc (Below.refl _ _) _) _) _) hr hnn hc e)
  have e11 : x < n → putR n L x t = ((n, L, []), 11) := fun h => by unfold putR; rw [if_pos h]
  have e8 : ¬ x < n ∧ n + 32 < x → putR n L x t = ((n, L, []), 8) := fun h => by unfold putR; rw [if_neg h.1, if_pos h.2]
  rcases h with h | h
  · rw [e11 h]
    have HE : Hid (∀ o, P13 w a ((n, L, []), 11) (.returned (.tuple #[.agg #[.int .i64 (n : Int), .slice a L.length c], .slice none 0 0, .int .i64 11])) (((w.alloc (.cells #[.int .i64 (n : Int), .slice a L.length c] 56)).alloc (.cells #[.int .i64 (x : Int), .string (bs t)] 39)).alloc o)) := Lib.hid (fun o => HF.out 11 o)
    have hi : (x : Int) < (n : Int) := by omega
    generalize P13 w a ((n, L, []), 11) = Post at HE ⊢
    clear e11 e8 HF hr hnn hc ha h
    go_enter Try.func26, Try.ntmps26
    go_wp2
    exact bodyPost_ret (v := .tuple #[.agg #[.int .i64 (n : Int), .slice a L.length c], .slice none 0 0, .int .i64 11]) (by simp [results, Try.results26, go_sem]) rfl (HE.out _)
  · rw [e8 h]
    have HE : Hid (∀ o, P13 w a ((n, L, []), 8) (.returned (.tuple #[.agg #[.int .i64 (n : Int), .slice a L.length c], .slice none 0 0, .int .i64 8])) (((w.alloc (.cells #[.int .i64 (n : Int), .slice a L.length c] 56)).alloc (.cells #[.int .i64 (x : Int), .string (bs t)] 39)).alloc o)) := Lib.hid (fun o => HF.out 8 o)
    have hi : (n : Int) ≤ (x : Int) := by omega
    have hi2 : (n : Int) + 32 < (x : Int) := by omega
    have hnb : (n : Int) ≤ 10000 := by omega
    generalize P13 w a ((n, L, []), 8) = Post at HE ⊢
    clear e11 e8 HF hr hnn hc ha h
    go_enter Try.func26, Try.ntmps26
    go_wp2
    exact bodyPost_ret (v := .tuple #[.agg #[.int .i64 (n : Int), .slice a L.length c], .slice none 0 0, .int .i64 8]) (by simp [results, Try.results26, go_sem]) rfl (HE.out _)
/-- What came at T, the thing at T + 1, the answer's box at T + 2. -/
structure Ti13 (w : World) (n m : Nat) (a : Option Addr) (c x : Nat) (t : List UInt8) (wx : World) : Prop where
  t0 : wx.cell? ⟨w.heap.size, 0, none⟩ = some (.int .i64 (n : Int))
  t1 : wx.cell? ⟨w.heap.size, 1, none⟩ = some (.slice a m c)
  x0 : wx.cell? ⟨w.heap.size + 1, 0, none⟩ = some (.int .i64 (x : Int))
  x1 : wx.cell? ⟨w.heap.size + 1, 1, none⟩ = some (.string (bs t))
  r0 : wx.cell? ⟨w.heap.size + 1 + 1, 0, none⟩ = some (.int .i64 0)
  r1 : wx.cell? ⟨w.heap.size + 1 + 1, 1, none⟩ = some (.slice none 0 0)
  f0 : wx.frozen? ⟨w.heap.size, 0, none⟩ = false
  f1 : wx.frozen? ⟨w.heap.size, 1, none⟩ = false
  z0 : wx.frozen? ⟨w.heap.size + 1 + 1, 0, none⟩ = false
  z1 : wx.frozen? ⟨w.heap.size + 1 + 1, 1, none⟩ = false
  bel : Below w.heap.size w wx
theorem ti13 (w : World) (n m : Nat) (a : Option Addr) (c x : Nat) (t : List UInt8) : Ti13 w n m a c x t (w3_13 w n a m c x t) := by
  refine ⟨?_, ?_, ?_, ?_, ?_, ?_, ?_, ?_, ?_, ?_, w3_bel ..⟩
  · exact alloc_cell (alloc_cell (new_cell rfl rfl) _) _
  · exact alloc_cell (alloc_cell (new_cell rfl rfl) _) _
  · exact alloc_cell (new_cell (by simp) rfl) _
  · exact alloc_cell (new_cell (by simp) rfl) _
  · exact new_cell (by simp) rfl
  · exact new_cell (by simp) rfl
  · exact (frozen_old _ _ _ (by first | (simp; done) | (simp; omega))).trans ((frozen_old _ _ _ (by first | (simp; done) | (simp; omega))).trans (frozen_new13 _ _ (by simp) _ _ _))
  · exact (frozen_old _ _ _ (by first | (simp; done) | (simp; omega))).trans ((frozen_old _ _ _ (by first | (simp; done) | (simp; omega))).trans (frozen_new13 _ _ (by simp) _ _ _))
  · exact frozen_new13 _ _ (by simp) _ _ _
  · exact frozen_new13 _ _ (by simp) _ _ _
theorem Ti13.lt {w : World} {n m : Nat} {a : Option Addr} {c x : Nat} {t : List UInt8} {wx : World} (h : Ti13 w n m a c x t wx) : w.heap.size + 1 + 1 < wx.heap.size := block_lt_of_cell h.r0
theorem Ti13.keep {w : World} {n m : Nat} {a : Option Addr} {c x : Nat} {t : List UInt8} {wx w' : World} (h : Ti13 w n m a c x t wx) (hb : Below wx.heap.size wx w') : Ti13 w n m a c x t w' := by
  have hl := h.lt
  exact ⟨(hb.cell (p := ⟨_, 0, none⟩) (block_lt_of_cell h.t0)).trans h.t0, (hb.cell (p := ⟨_, 1, none⟩) (block_lt_of_cell h.t1)).trans h.t1, (hb.cell (p := ⟨_, 0, none⟩) (block_lt_of_cell h.x0)).trans h.x0, (hb.cell (p := ⟨_, 1, none⟩) (block_lt_of_cell h.x1)).trans h.x1, (hb.cell (p := ⟨_, 0, none⟩) (block_lt_of_cell h.r0)).trans h.r0, (hb.cell (p := ⟨_, 1, none⟩) (block_lt_of_cell h.r1)).trans h.r1, (hb.frozen (p := ⟨_, 0, none⟩) (block_lt_of_cell h.t0)).trans h.f0, (hb.frozen (p := ⟨_, 1, none⟩) (block_lt_of_cell h.t1)).trans h.f1, (hb.frozen (p := ⟨_, 0, none⟩) (block_lt_of_cell h.r0)).trans h.z0, (hb.frozen (p := ⟨_, 1, none⟩) (block_lt_of_cell h.r1)).trans h.z1, h.bel.trans (hb.mono h.bel.size)⟩
set_option maxRecDepth 100000 in
set_option maxHeartbeats 2000000 in
theorem ref13Put_there (a : Option Addr) (c n x : Nat) (L : Its) (t : List UInt8) (w : World) (hn : n ≤ 10000) (hl : L.length ≤ 900) (hr : RRow w a L) (hnn : a = none → L = []) (hc : L.length ≤ c ∧ c ≤ maxLen) (ha : ∀ y, a = some y → y.block < w.heap.size) (nd : (L.map (·.1)).Nodup) (h1 : n ≤ x) (h2 : x ≤ n + 32) (h3 : findW L x ≠ none) :
    Calls Try.prog 26 #[.agg #[.int .i64 (n : Int), .slice a L.length c], .agg #[.int .i64 (x : Int), .string (bs t)]] w (P13 w a (putR n L x t)) := by
  have e : putR n L x t = ((n, L, []), 10) := by unfold putR; rw [if_neg (by omega), if_neg (by omega), if_pos h3]
  rw [e]
  have HF : Hid (∀ w1 u v, Below w.heap.size w w1 → P13 w a ((n, L, []), 10) (.returned (.tuple #[.agg #[.int .i64 (n : Int), .slice a L.length c], .slice none 0 0, .int .i64 10])) ((w1.setCell ⟨w.heap.size + 1 + 1, 0, none⟩ u).setCell ⟨w.heap.size + 1 + 1, 1, none⟩ v)) := Lib.hid (fun w1 u v hb => p13_no hb hr hnn hc ha 10 _ (by omega) u v)
  have HFI := Lib.hid ((find13_any a c L x (w3_13 w n a L.length c x t) (by omega) (hr.below (w3_bel ..))).mono (R' := fun r w' => ∃ k : Nat, r = .returned (.int .i64 (k : Int)) ∧ Below (w3_13 w n a L.length c x t).heap.size (w3_13 w n a L.length c x t) w') fun r w' ⟨⟨z, hz, hf⟩, hb⟩ => by
    rcases find13_fw hf nd with ⟨k, -, rfl, -⟩ | ⟨-, hno⟩
    · exact ⟨k, hz, hb⟩
    · exact absurd hno h3)
  have HT := Lib.hid (ti13 w n L.length a c x t)
  unfold w3_13 at HFI HT
  generalize P13 w a ((n, L, []), 10) = Post at HF ⊢
  have hi1 : (n : Int) ≤ (x : Int) := by omega
  have hi2 : (x : Int) ≤ (n : Int) + 32 := by omega
  have hnb : (n : Int) ≤ 10000 := by omega
  clear e hr hnn hc ha nd h1 h2 h3
  go_enter Try.func26, Try.ntmps26
  go_wp2_with fail
  generalize ((w.alloc (.cells #[.int .i64 (n : Int), .slice a L.length c] 56)).alloc (.cells #[.int .i64 (x : Int), .string (bs t)] 39)).alloc (.cells #[.int .i64 0, .slice none 0 0] 56) = W3 at HFI HT ⊢
  refine HFI.out.mono ?_
  rintro r w4 ⟨k, rfl, hb⟩
  have HT4 := Lib.hid (HT.out.keep hb)
  have t0 := HT4.out.t0
  have t1 := HT4.out.t1
  have r0 := HT4.out.r0
  have r1 := HT4.out.r1
  have z0 := HT4.out.z0
  have z1 := HT4.out.z1
  have hrl := HT4.out.lt
  have hrl2 : w.heap.size < w4.heap.size := by omega
  have HF2 := Lib.hid (fun u v => HF.out w4 u v HT4.out.bel)
  have hk0 : (0 : Int) ≤ (k : Int) := by omega
  clear hb HFI HF HT
  go_wp2
  exact bodyPost_ret (v := .tuple #[.agg #[.int .i64 (n : Int), .slice a L.length c], .slice none 0 0, .int .i64 10]) (by simp [results, Try.results26, go_sem, r0, r1]) rfl (HF2.out _ _)
end Go.Proofs.Ytpilkaggiajjmaa
