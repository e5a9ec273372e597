/-
  Layer 13: the document's own: a thing comes, and what is in its order goes out.
-/
import Derived.Test.YtpilkaggiajjmaaRWin5
import Derived.Deep.DeepCutAuto
namespace Go.Proofs.Ytpilkaggiajjmaa
open Go.RowKit
set_option linter.unusedVariables false

/-- What waits (its box at T), what went out, the answer's box at T + 2. -/
structure Lo13 (w : World) (n : Nat) (a : Option Addr) (c : Nat) (L : Its) (oa : Option Addr) (oc : Nat) (out : List (List UInt8)) (wr : World) : Prop where
  t0 : wr.cell? ⟨w.heap.size, 0, none⟩ = some (.int .i64 (n : Int))
  t1 : wr.cell? ⟨w.heap.size, 1, none⟩ = some (.slice a L.length c)
  f0 : wr.frozen? ⟨w.heap.size, 0, none⟩ = false
  f1 : wr.frozen? ⟨w.heap.size, 1, none⟩ = false
  r0 : wr.cell? ⟨w.heap.size + 1 + 1, 0, none⟩ = some (.int .i64 0)
  r1 : wr.cell? ⟨w.heap.size + 1 + 1, 1, none⟩ = some (.slice none 0 0)
  z0 : wr.frozen? ⟨w.heap.size + 1 + 1, 0, none⟩ = false
  z1 : wr.frozen? ⟨w.heap.size + 1 + 1, 1, none⟩ = false
  row : RRow wr a L
  cap : L.length ≤ c ∧ c ≤ maxLen ∧ (a = none → L = [])
  ha : ∀ x, a = some x → w.heap.size + 1 + 1 < x.block ∧ x.block < wr.heap.size
  o : OwnV 9 1 0 oa oc (out.map strCells1) wr
  ho : ∀ x, oa = some x → w.heap.size + 1 + 1 < x.block
  d : ∀ x y, a = some x → oa = some y → x.block ≠ y.block
  bel : Below w.heap.size w wr
theorem Lo13.lt {w : World} {n : Nat} {a : Option Addr} {c : Nat} {L : Its} {oa : Option Addr} {oc : Nat} {out : List (List UInt8)} {wr : World} (h : Lo13 w n a c L oa oc out wr) : w.heap.size + 1 + 1 < wr.heap.size := block_lt_of_cell h.r0
/-- Only a block behind the three boxes, and not the row's, is touched. -/
theorem Lo13.touch {S : Nat → Prop} {w : World} {n : Nat} {a : Option Addr} {c : Nat} {L : Its} {oa oa' : Option Addr} {oc oc' : Nat} {out out' : List (List UInt8)} {wr w' : World} (h : Lo13 w n a c L oa oc out wr) (ht : Touch S wr w') (hS : ∀ k, S k → w.heap.size + 1 + 1 < k) (hSa : ∀ x, a = some x → ¬ S x.block) (ho : OwnV 9 1 0 oa' oc' (out'.map strCells1) w') (hho : ∀ x, oa' = some x → w.heap.size + 1 + 1 < x.block) (hd : ∀ x y, a = some x → oa' = some y → x.block ≠ y.block) : Lo13 w n a c L oa' oc' out' w' := by
  have hl := h.lt
  have n0 : ¬ S w.heap.size := fun e => by have := hS _ e; omega
  have n2 : ¬ S (w.heap.size + 1 + 1) := fun e => by have := hS _ e; omega
  have hTl : w.heap.size < wr.heap.size := by omega
  exact ⟨(ht.cell (p := ⟨_, 0, none⟩) hTl n0).trans h.t0, (ht.cell (p := ⟨_, 1, none⟩) hTl n0).trans h.t1, (ht.frozen (p := ⟨_, 0, none⟩) hTl n0).trans h.f0, (ht.frozen (p := ⟨_, 1, none⟩) hTl n0).trans h.f1, (ht.cell (p := ⟨_, 0, none⟩) hl n2).trans h.r0, (ht.cell (p := ⟨_, 1, none⟩) hl n2).trans h.r1, (ht.frozen (p := ⟨_, 0, none⟩) hl n2).trans h.z0, (ht.frozen (p := ⟨_, 1, none⟩) hl n2).trans h.z1, h.row.touch ht hSa, h.cap, fun x hx => by have := h.ha x hx; have := ht.size; exact ⟨by omega, by omega⟩, ho, hho, hd, h.bel.trans (ht.below h.bel.size fun k hk e => by have := hS _ e; omega)⟩
theorem Lo13.keep {w : World} {n : Nat} {a : Option Addr} {c : Nat} {L : Its} {oa : Option Addr} {oc : Nat} {out : List (List UInt8)} {wr w' : World} (h : Lo13 w n a c L oa oc out wr) (hb : Below wr.heap.size wr w') : Lo13 w n a c L oa oc out w' :=
  h.touch (touch_of_below (S := fun _ => False) hb) (fun _ e => e.elim) (fun _ _ => id) (h.o.touch (touch_of_below (S := fun _ => False) hb) (fun _ _ => id)) h.ho h.d
theorem Lo13.more {w : World} {n : Nat} {a : Option Addr} {c : Nat} {L : Its} {oa oa' : Option Addr} {oc oc' : Nat} {out out' : List (List UInt8)} {wr w' : World} (h : Lo13 w n a c L oa oc out wr) (ho : OwnV 9 1 0 oa' oc' (out'.map strCells1) w') (ht : Touch (fun b => oa.map (·.block) = some b) wr w') (hf : ∀ x, oa' = some x → oa.map (·.block) = some x.block ∨ wr.heap.size ≤ x.block) : Lo13 w n a c L oa' oc' out' w' := by
  have hl := h.lt
  refine h.touch ht (fun k e => map_none (P := fun k => w.heap.size + 1 + 1 < k) h.ho k e) (fun x hx e => map_none (P := fun k => k = x.block → False) (fun y hy e => h.d x y hx hy e.symm) _ e rfl) ho (fun x hx => ?_) (fun x y hx hy => ?_)
  · rcases hf x hx with e | e
    · exact map_none (P := fun k => w.heap.size + 1 + 1 < k) h.ho _ e
    · omega
  · rcases hf y hy with e | e
    · exact map_none (P := fun k => x.block ≠ k) (fun z hz => h.d x z hx hz) _ e
    · have := (h.ha x hx).2; omega
/-- A new row is laid into the box. -/
theorem Lo13.store {w : World} {n : Nat} {a a' : Option Addr} {c c' : Nat} {L L' : Its} {oa : Option Addr} {oc : Nat} {out : List (List UInt8)} {wr w' : World} (h : Lo13 w n a c L oa oc out wr) (hn : NewV 39 2 wr a' c' (L'.map riC) w') (k : Nat) (hk : L'.length = k) :
    w'.cell? ⟨w.heap.size, 1, none⟩ = some (.slice a L.length c) ∧ w'.frozen? ⟨w.heap.size, 1, none⟩ = false ∧ w.heap.size < w'.heap.size ∧ Lo13 w n a' c' L' oa oc out (w'.setCell ⟨w.heap.size, 1, none⟩ (.slice a' k c')) := by
  subst hk
  have hl := h.lt
  have h1 := h.keep hn.2
  have hl1 := h1.lt
  obtain ⟨g1, g2, g3⟩ := hn.cap
  simp only [List.length_map] at g1
  have ht : Touch (fun b => b = w.heap.size) w' (w'.setCell ⟨w.heap.size, 1, none⟩ (.slice a' L'.length c')) := (Touch.refl (fun b => b = w.heap.size) w').setCell (p := ⟨w.heap.size, 1, none⟩) (fun _ => rfl) _
  have hfr : ∀ x, a' = some x → wr.heap.size ≤ x.block := hn.1.2
  refine ⟨h1.t1, h1.f1, by omega, (World.cell?_setCell_other _ _ _ _ (by simp)).trans h1.t0, World.cell?_setCell_same _ _ _ h1.t1, by simpa using h1.f0, by simpa using h1.f1, (ht.cell (p := ⟨_, 0, none⟩) hl1 (by show ¬ w.heap.size + 1 + 1 = w.heap.size; omega)).trans h1.r0, (ht.cell (p := ⟨_, 1, none⟩) hl1 (by show ¬ w.heap.size + 1 + 1 = w.heap.size; omega)).trans h1.r1, (ht.frozen (p := ⟨_, 0, none⟩) hl1 (by show ¬ w.heap.size + 1 + 1 = w.heap.size; omega)).trans h1.z0, (ht.frozen (p := ⟨_, 1, none⟩) hl1 (by show ¬ w.heap.size + 1 + 1 = w.heap.size; omega)).trans h1.z1, RRow.touch (hn.1.row (ri_wide L')) ht (fun x hx e => by have := hfr x hx; omega), ⟨g1, g2, fun e => by simpa using g3 e⟩, fun x hx => ?_, h1.o.touch ht (fun x hx e => by have := h1.ho x hx; omega), h1.ho, fun x y hx hy e => ?_, h1.bel.trans (ht.below h1.bel.size fun b hb e => by omega)⟩
  · have := hfr x hx
    have := hn.1.lt x hx
    have := ht.size
    exact ⟨by omega, by omega⟩
  · have := hfr x hx
    have := h.o.lt y hy
    omega
/-- The next one is awaited. -/
theorem Lo13.next {w : World} {n n' : Nat} {a : Option Addr} {c : Nat} {L : Its} {oa : Option Addr} {oc : Nat} {out : List (List UInt8)} {wr : World} (h : Lo13 w n a c L oa oc out wr) : Lo13 w n' a c L oa oc out (wr.setCell ⟨w.heap.size, 0, none⟩ (.int .i64 (n' : Int))) := by
  have hl := h.lt
  have ht : Touch (fun b => b = w.heap.size) wr (wr.setCell ⟨w.heap.size, 0, none⟩ (.int .i64 (n' : Int))) := (Touch.refl (fun b => b = w.heap.size) wr).setCell (p := ⟨w.heap.size, 0, none⟩) (fun _ => rfl) _
  exact ⟨World.cell?_setCell_same _ _ _ h.t0, (World.cell?_setCell_other _ _ _ _ (by simp)).trans h.t1, by simpa using h.f0, by simpa using h.f1, (ht.cell (p := ⟨_, 0, none⟩) hl (by show ¬ w.heap.size + 1 + 1 = w.heap.size; omega)).trans h.r0, (ht.cell (p := ⟨_, 1, none⟩) hl (by show ¬ w.heap.size + 1 + 1 = w.heap.size; omega)).trans h.r1, (ht.frozen (p := ⟨_, 0, none⟩) hl (by show ¬ w.heap.size + 1 + 1 = w.heap.size; omega)).trans h.z0, (ht.frozen (p := ⟨_, 1, none⟩) hl (by show ¬ w.heap.size + 1 + 1 = w.heap.size; omega)).trans h.z1, h.row.touch ht (fun x hx e => by have := h.ha x hx; omega), h.cap, fun x hx => by have := h.ha x hx; have := ht.size; exact ⟨by omega, by omega⟩, h.o.touch ht (fun x hx e => by have := h.ho x hx; omega), h.ho, h.d, h.bel.trans (ht.below h.bel.size fun b hb e => by omega)⟩
theorem Lo13.fin {w : World} {n : Nat} {a : Option Addr} {c : Nat} {L : Its} {oa : Option Addr} {oc : Nat} {out : List (List UInt8)} {wr : World} (h : Lo13 w n a c L oa oc out wr) (a0 : Option Addr) (u v : Value) : P13 w a0 ((n, L, out), 0) (.returned (.tuple #[.agg #[.int .i64 (n : Int), .slice a L.length c], .slice oa out.length oc, .int .i64 0])) ((wr.setCell ⟨w.heap.size + 1 + 1, 0, none⟩ u).setCell ⟨w.heap.size + 1 + 1, 1, none⟩ v) :=
  ⟨a, c, oa, oc, rfl, RNew.set2 (w1 := wr) ⟨h.row, h.cap.2.2, h.cap.1, h.cap.2.1, .inr fun x hx => by have := h.ha x hx; exact ⟨by omega, by omega⟩, h.bel⟩ (by omega) (fun x hx => by have := (h.ha x hx).1; omega) u v, (h.o.row (str_wide out)).touch (by decide) (str_wide out) (set2_touch wr _ u v) (fun x hx (e : x.block = w.heap.size + 1 + 1) => by have := h.ho x hx; omega), fun x hx => by have := h.ho x hx; omega⟩
/-- The thing that came is laid behind. -/
theorem Ti13.lo {w : World} {n : Nat} {a a' : Option Addr} {c c' x : Nat} {t : List UInt8} {L' : Its} {m : Nat} {wx w' : World} (h : Ti13 w n m a c x t wx) (hn : NewV 39 2 wx a' c' (L'.map riC) w') (k : Nat) (hk : L'.length = k) :
    Lo13 w n a' c' L' (some ⟨w'.heap.size, 0, none⟩) 0 [] ((w'.setCell ⟨w.heap.size, 1, none⟩ (.slice a' k c')).alloc (.cells #[] 9)) := by
  subst hk
  have hl := h.lt
  have h1 := h.keep hn.2
  have hl1 := h1.lt
  obtain ⟨g1, g2, g3⟩ := hn.cap
  simp only [List.length_map] at g1
  have ht : Touch (fun b => b = w.heap.size) w' (w'.setCell ⟨w.heap.size, 1, none⟩ (.slice a' L'.length c')) := (Touch.refl (fun b => b = w.heap.size) w').setCell (p := ⟨w.heap.size, 1, none⟩) (fun _ => rfl) _
  have hfr : ∀ x, a' = some x → wx.heap.size ≤ x.block := hn.1.2
  have hs1 : (w'.setCell ⟨w.heap.size, 1, none⟩ (.slice a' L'.length c')).heap.size = w'.heap.size := by simp
  generalize hW : w'.setCell ⟨w.heap.size, 1, none⟩ (.slice a' L'.length c') = W at ht hs1
  have q0 : W.cell? ⟨w.heap.size, 0, none⟩ = some (.int .i64 (n : Int)) := by rw [← hW]; exact (World.cell?_setCell_other _ _ _ _ (by simp)).trans h1.t0
  have q1 : W.cell? ⟨w.heap.size, 1, none⟩ = some (.slice a' L'.length c') := by rw [← hW]; exact World.cell?_setCell_same _ _ _ h1.t1
  have q2 : W.frozen? ⟨w.heap.size, 0, none⟩ = false := by rw [← hW]; simpa using h1.f0
  have q3 : W.frozen? ⟨w.heap.size, 1, none⟩ = false := by rw [← hW]; simpa using h1.f1
  have ne2 : ¬ w.heap.size + 1 + 1 = w.heap.size := by omega
  have hb : Below W.heap.size W (W.alloc (.cells #[] 9)) := bel_alloc (Below.refl _ _) _
  have hlW : w.heap.size + 1 + 1 < W.heap.size := by omega
  have hTW : w.heap.size < W.heap.size := by omega
  refine ⟨(hb.cell (p := ⟨_, 0, none⟩) hTW).trans q0, (hb.cell (p := ⟨_, 1, none⟩) hTW).trans q1, (hb.frozen (p := ⟨_, 0, none⟩) hTW).trans q2, (hb.frozen (p := ⟨_, 1, none⟩) hTW).trans q3, (hb.cell (p := ⟨_, 0, none⟩) hlW).trans ((ht.cell (p := ⟨_, 0, none⟩) hl1 ne2).trans h1.r0), (hb.cell (p := ⟨_, 1, none⟩) hlW).trans ((ht.cell (p := ⟨_, 1, none⟩) hl1 ne2).trans h1.r1), (hb.frozen (p := ⟨_, 0, none⟩) hlW).trans ((ht.frozen (p := ⟨_, 0, none⟩) hl1 ne2).trans h1.z0), (hb.frozen (p := ⟨_, 1, none⟩) hlW).trans ((ht.frozen (p := ⟨_, 1, none⟩) hl1 ne2).trans h1.z1), (RRow.touch (hn.1.row (ri_wide L')) ht (fun x hx e => by have := hfr x hx; omega)).below hb, ⟨g1, g2, fun e => by simpa using g3 e⟩, fun x hx => ?_, ?_, fun y hy => ?_, fun x y hx hy => ?_, h1.bel.trans ((ht.below h1.bel.size fun b hb e => by omega).trans (hb.mono (by omega)))⟩
  · have := hfr x hx
    have := hn.1.lt x hx
    have := hb.size
    exact ⟨by omega, by omega⟩
  · have := (NewV.made 9 1 (Below.refl W.heap.size W) w'.heap.size hs1.symm).1
    exact ⟨this.1, fun _ _ => Nat.zero_le _⟩
  · cases hy; simp only; omega
  · cases hy
    have := hn.1.lt x hx
    simp only; omega
end Go.Proofs.Ytpilkaggiajjmaa
