/-
  Layer 12: what joins parts; the document's.
-/
import Derived.Test.YtlhcihjplolgiaaFrag1
import Derived.RegionTactic
namespace Go.Proofs.Ytlhcihjplolgiaa
open Go.RowKit
set_option linter.unusedVariables false

/-- How many parts came of a message that isn't whole, and their bytes. -/
structure Js where
  n : Nat
  l : List UInt8
/-- What a part makes of it; the message, is it whole, the error's number. -/
def putJ (s : Js) (p : Pt) : Js × List UInt8 × Bool × Nat :=
  if 200 < p.text.length ∨ 65536 < s.l.length + p.text.length then (s, [], false, 3) else if p.last = true then (⟨0, []⟩, s.l ++ p.text, true, 0) else (⟨s.n + 1, s.l ++ p.text⟩, [], false, 0)
theorem putJ_len (s : Js) (p : Pt) (h : s.l.length ≤ 65536) : (putJ s p).1.l.length ≤ 65536 := by
  unfold putJ
  split
  · exact h
  · split
    · simp
    · simp only [List.length_append]; omega
theorem putJ_n (s : Js) (p : Pt) : (putJ s p).1.n ≤ s.n + 1 := by
  unfold putJ
  split
  · simp
  · split <;> simp
/-- What joins lies at block b. -/
structure JAt (w : World) (b : Nat) (v : Value) (s : Js) : Prop where
  c0 : w.cell? ⟨b, 0, none⟩ = some (.int .i64 (s.n : Int))
  c1 : w.cell? ⟨b, 1, none⟩ = some v
  f0 : w.frozen? ⟨b, 0, none⟩ = false
  f1 : w.frozen? ⟨b, 1, none⟩ = false
  row : w.ownsRow 0 5 1 v s.l.length (s.l.map byteV)
  ne : v.ownBlock ≠ some b
def JoTo (w : World) (b : Nat) (v : Value) (s : Js) (w' : World) : Prop :=
  ∃ v', JAt w' b v' s ∧ (∀ k, v'.ownBlock = some k → v.ownBlock = some k ∨ w.heap.size ≤ k) ∧ Touch (fun k => k = b ∨ v.ownBlock = some k) w w'
theorem JAt.lt {w : World} {b : Nat} {v : Value} {s : Js} (h : JAt w b v s) : b < w.heap.size := block_lt_of_cell h.c0
theorem JAt.touch {S : Nat → Prop} {w w' : World} {b : Nat} {v : Value} {s : Js} (h : JAt w b v s) (ht : Touch S w w') (hb : ¬ S b) (hv : ∀ k, v.ownBlock = some k → ¬ S k) : JAt w' b v s :=
  ⟨(ht.cell (p := ⟨b, 0, none⟩) h.lt hb).trans h.c0, (ht.cell (p := ⟨b, 1, none⟩) h.lt hb).trans h.c1, (ht.frozen (p := ⟨b, 0, none⟩) h.lt hb).trans h.f0, (ht.frozen (p := ⟨b, 1, none⟩) h.lt hb).trans h.f1, own_touchR h.row ht hv, h.ne⟩
theorem JAt.keep {w w' : World} {b : Nat} {v : Value} {s : Js} (h : JAt w b v s) (hb : Below w.heap.size w w') : JAt w' b v s := h.touch (touch_of_below (S := fun _ => False) hb) id (fun _ _ => id)
theorem JAt.fresh {w : World} {b : Nat} {v : Value} {s : Js} (h : JAt w b v s) (k : Nat) (hk : v.ownBlock = some k) : k < w.heap.size := (h.row.lt k hk).2
theorem JAt.to {w : World} {b : Nat} {v : Value} {s : Js} (h : JAt w b v s) : JoTo w b v s w := ⟨v, h, fun k hk => .inl hk, Touch.refl _ _⟩
theorem JAt.slice {w : World} {b : Nat} {v : Value} {s : Js} (h : JAt w b v s) : ∃ a cap, v = .slice a s.l.length cap := by
  rcases h.row.2 with ⟨hv, h0⟩ | ⟨g, cap, cur, hv, -⟩
  · exact ⟨none, 0, by rw [hv, h0]⟩
  · exact ⟨_, cap, hv⟩
theorem JAt.start (w : World) : JAt (w.alloc (.cells #[.int .i64 0, .slice none 0 0] 120)) w.heap.size (.slice none 0 0) ⟨0, []⟩ :=
  ⟨by simp, by simp, frozen_new _ _ _ _, frozen_new _ _ _ _, World.ownsRow_nil _ _ _ _, by simp [Value.ownBlock]⟩
theorem JAt.count {w : World} {b : Nat} {v : Value} {s : Js} (h : JAt w b v s) (m : Nat) : JAt (w.setCell ⟨b, 0, none⟩ (.int .i64 (m : Int))) b v ⟨m, s.l⟩ := by
  have ht : Touch (fun k => k = b) w (w.setCell ⟨b, 0, none⟩ (.int .i64 (m : Int))) := (Touch.refl (fun k => k = b) w).setCell (p := ⟨b, 0, none⟩) (fun _ => rfl) _
  refine ⟨World.cell?_setCell_same _ _ _ h.c0, (World.cell?_setCell_other _ _ _ _ (by simp)).trans h.c1, by simpa using h.f0, by simpa using h.f1, own_touchR h.row ht (fun k hk e => h.ne (e ▸ hk)), h.ne⟩
/-- A text's bytes behind: what the append and the store come to. -/
theorem JAt.text {w : World} {b : Nat} {v : Value} {s : Js} (h : JAt w b v s) (t : List UInt8) (hl : s.l.length + t.length ≤ 1000000) :
    ∃ a c w1, (Builtin.append_ #[50, 9] 50 #[v, .string (bs t)]).run Try.prog w = .ok (.slice a (s.l.length + t.length) c) w1 ∧
      w1.cell? ⟨b, 1, none⟩ = some v ∧ w1.frozen? ⟨b, 1, none⟩ = false ∧ w.heap.size ≤ w1.heap.size ∧ JoTo w b v ⟨s.n, s.l ++ t⟩ (w1.setCell ⟨b, 1, none⟩ (.slice a (s.l.length + t.length) c)) := by
  obtain ⟨i0, hi, hz0, hz1, hz2⟩ := info_parts info5
  have hbz := bs_size t
  obtain ⟨v', w1, hr, ho, hg, hf⟩ := append_exact_string (P := Try.prog) w 50 9 50 5 i0 Try.underlying50 Try.underlying9 hi hz0 hz1 hz2 v s.l.length (s.l.map byteV) h.row (bs t) (by unfold maxLen; omega) (by omega)
  rw [hbz] at ho
  have htw : Touch (fun k => v.ownBlock = some k) w w1 := touch_grown hg
  have c0 := (htw.cell (p := ⟨b, 0, none⟩) h.lt h.ne).trans h.c0
  have c1 := (htw.cell (p := ⟨b, 1, none⟩) h.lt h.ne).trans h.c1
  have f0 := (htw.frozen (p := ⟨b, 0, none⟩) h.lt h.ne).trans h.f0
  have f1 := (htw.frozen (p := ⟨b, 1, none⟩) h.lt h.ne).trans h.f1
  have hsh : ∃ a c, v' = .slice a (s.l.length + t.length) c := by
    rcases ho.2 with ⟨hv, h0⟩ | ⟨g, cap, cur, hv, -⟩
    · exact ⟨none, 0, by rw [hv, h0]⟩
    · exact ⟨_, cap, hv⟩
  obtain ⟨a, c, rfl⟩ := hsh
  have hne : (Value.slice a (s.l.length + t.length) c).ownBlock ≠ some b := fun e => by
    rcases hf b e with h' | h'
    · exact h.ne h'
    · have := h.lt; omega
  have ht : Touch (fun k => k = b) w1 (w1.setCell ⟨b, 1, none⟩ (.slice a (s.l.length + t.length) c)) := (Touch.refl (fun k => k = b) w1).setCell (p := ⟨b, 1, none⟩) (fun _ => rfl) _
  refine ⟨a, c, w1, hr, c1, f1, htw.size, _, ⟨(World.cell?_setCell_other _ _ _ _ (by simp)).trans c0, World.cell?_setCell_same _ _ _ c1, by simpa using f0, by simpa using f1, ?_, hne⟩, hf, (htw.mono (fun k _ hh => .inr hh)).setCell (p := ⟨b, 1, none⟩) (fun _ => .inl rfl) _⟩
  have hs : Lib.strCells (bs t) = t.map byteV := by
    unfold Lib.strCells byteV
    rw [bs_list]
  rw [hs] at ho
  have := own_touchR ho ht (fun k hk e => hne (e ▸ hk))
  simpa using this
theorem JoTo.trans {w w1 w2 : World} {b : Nat} {v v1 : Value} {s1 s2 : Js} (h1 : JAt w1 b v1 s1) (hf : ∀ k, v1.ownBlock = some k → v.ownBlock = some k ∨ w.heap.size ≤ k) (ht : Touch (fun k => k = b ∨ v.ownBlock = some k) w w1) (h2 : JoTo w1 b v1 s2 w2) : JoTo w b v s2 w2 := by
  obtain ⟨v2, h3, h4, h5⟩ := h2
  refine ⟨v2, h3, fun k hk => ?_, ht.trans' h5 fun k hk hT => ?_⟩
  · rcases h4 k hk with h | h
    · exact hf k h
    · exact .inr (Nat.le_trans ht.size h)
  · rcases hT with h | h
    · exact .inl h
    · rcases hf k h with h' | h'
      · exact .inr h'
      · omega
/-- All that is there goes. -/
theorem JAt.reset {w : World} {b : Nat} {v : Value} {s : Js} (h : JAt w b v s) : JoTo w b v ⟨0, []⟩ ((w.setCell ⟨b, 0, none⟩ (.int .i64 0)).setCell ⟨b, 1, none⟩ (.slice none 0 0)) := by
  refine ⟨.slice none 0 0, ⟨?_, ?_, by simpa using h.f0, by simpa using h.f1, World.ownsRow_nil _ _ _ _, by simp [Value.ownBlock]⟩, fun k hk => by simp [Value.ownBlock] at hk, ?_⟩
  · exact (World.cell?_setCell_other _ _ _ _ (by simp)).trans (World.cell?_setCell_same _ _ _ h.c0)
  · exact World.cell?_setCell_same _ _ _ ((World.cell?_setCell_other _ _ _ _ (by simp)).trans h.c1)
  · exact ((Touch.refl _ w).setCell (p := ⟨b, 0, none⟩) (fun _ => .inl rfl) _).setCell (p := ⟨b, 1, none⟩) (fun _ => .inl rfl) _
theorem JAt.back {w : World} {b : Nat} {v : Value} {s : Js} (h : JAt w b v s) : (convert 50 9 v).run Try.prog w = .ok (.string (bs s.l)) w := by
  rcases h.row.2 with ⟨hv, h0⟩ | ⟨g, cap, cur, hv, -⟩
  · have h0' : s.l = [] := List.eq_nil_of_length_eq_zero h0
    rw [h0']
    subst hv
    rw [run_convert_bytes_string w 50 9 5 none 0 0 Try.underlying50 Try.underlying5 Try.underlying9]
    simp [Conv.bytesToString]
    rfl
  · have hc := h.row.cells (g := g) (by rw [hv]; rfl)
    subst hv
    refine bytes_back w g cap s.l.length s.l rfl fun j hj => ?_
    have := hc j (byteV s.l[j]) (by simp [hj])
    cases j <;> simpa [Addr.add, byteV] using this
theorem JAt.drewN {w : World} {b : Nat} {v : Value} {s : Js} (h : JAt w b v s) (n : Nat) : JAt (w.drewN n) b v s :=
  h.touch (S := fun _ => False) ⟨rfl, rfl, rfl, Nat.le_refl _, fun _ _ _ => rfl⟩ id (fun _ _ => id)
theorem JAt.drew {w : World} {b : Nat} {v : Value} {s : Js} (h : JAt w b v s) : JAt w.drew b v s :=
  h.touch (S := fun _ => False) ⟨rfl, rfl, rfl, Nat.le_refl _, fun _ _ _ => rfl⟩ id (fun _ _ => id)
def JPost (w : World) (b : Nat) (v : Value) (t : Js × List UInt8 × Bool × Nat) (r : Ending) (w' : World) : Prop :=
  r = .returned (.tuple #[.string (bs t.2.1), .bool t.2.2.1, .int .i64 (t.2.2.2 : Nat)]) ∧ JoTo w b v t.1 w'
end Go.Proofs.Ytlhcihjplolgiaa
