/-
  Layer 13: the document's own: an ack comes.
-/
import Derived.Test.YtpilkaggiajjmaaRWin2
namespace Go.Proofs.Ytpilkaggiajjmaa
open Go.RowKit
set_option linter.unusedVariables false

theorem i64Ty : VTy 3 1 (.int .i64 0) 8 := ⟨by kernel_rfl, rfl, by decide, by decide⟩
def i64C (n : Nat) : List Value := [.int .i64 (n : Int)]
theorem i64_wide (l : List Nat) : VWide 1 (l.map i64C) := by
  intro x hx
  obtain ⟨p, -, rfl⟩ := List.mem_map.1 hx
  exact ⟨rfl, fun u hu => by simp only [i64C, List.mem_singleton] at hu; subst hu; rfl⟩
theorem gone_snoc (A B : Nat) (l : Its) (p : Nat × List UInt8) : goneR A B (l ++ [p]) = goneR A B l ++ (if hasR A B p.1 = true then [p.1] else []) := by
  unfold goneR
  rw [List.filter_append, List.map_append]
  congr 1
  by_cases h : hasR A B p.1 = true <;> simp [h]
theorem left_snoc (A B : Nat) (l : Its) (p : Nat × List UInt8) : leftR A B (l ++ [p]) = leftR A B l ++ (if hasR A B p.1 = true then [] else [p]) := by
  unfold leftR
  rw [List.filter_append]
  congr 1
  by_cases h : hasR A B p.1 = true <;> simp [h]
theorem gone_len (A B : Nat) (l : Its) : (goneR A B l).length ≤ l.length ∧ (leftR A B l).length ≤ l.length :=
  ⟨by unfold goneR; rw [List.length_map]; exact List.length_filter_le _ _, List.length_filter_le _ _⟩
/-- What is gone, what is left (its box at O), the answer's box at R. -/
structure Ac13 (w : World) (O R n : Nat) (a1 : Option Addr) (c1 : Nat) (gone : List Nat) (a2 : Option Addr) (c2 : Nat) (rest : Its) (wr : World) : Prop where
  two : Two 3 1 39 2 w a1 c1 (gone.map i64C) a2 c2 (rest.map riC) wr
  o0 : wr.cell? ⟨O, 0, none⟩ = some (.int .i64 (n : Int))
  o1 : wr.cell? ⟨O, 1, none⟩ = some (.slice a2 rest.length c2)
  f1 : wr.frozen? ⟨O, 1, none⟩ = false
  r0 : ∃ v, wr.cell? ⟨R, 0, none⟩ = some v
  r1 : ∃ v, wr.cell? ⟨R, 1, none⟩ = some v
  z0 : wr.frozen? ⟨R, 0, none⟩ = false
  z1 : wr.frozen? ⟨R, 1, none⟩ = false
  hO : w.heap.size ≤ O
  hR : w.heap.size ≤ R
  ne : O ≠ R
  n1 : ∀ x, a1 = some x → x.block ≠ O ∧ x.block ≠ R
  n2 : ∀ x, a2 = some x → x.block ≠ O ∧ x.block ≠ R
theorem Ac13.lt {w : World} {O R n : Nat} {a1 : Option Addr} {c1 : Nat} {gone : List Nat} {a2 : Option Addr} {c2 : Nat} {rest : Its} {wr : World} (h : Ac13 w O R n a1 c1 gone a2 c2 rest wr) : O < wr.heap.size ∧ R < wr.heap.size := by
  obtain ⟨v, hv⟩ := h.r0
  exact ⟨block_lt_of_cell h.o0, block_lt_of_cell hv⟩
theorem Ac13.keep {w : World} {O R n : Nat} {a1 : Option Addr} {c1 : Nat} {gone : List Nat} {a2 : Option Addr} {c2 : Nat} {rest : Its} {wr w' : World} (h : Ac13 w O R n a1 c1 gone a2 c2 rest wr) (hb : Below wr.heap.size wr w') : Ac13 w O R n a1 c1 gone a2 c2 rest w' := by
  obtain ⟨hO, hR⟩ := h.lt
  obtain ⟨v0, g0⟩ := h.r0
  obtain ⟨v1, g1⟩ := h.r1
  exact ⟨h.two.keep hb, (hb.cell (p := ⟨O, 0, none⟩) hO).trans h.o0, (hb.cell (p := ⟨O, 1, none⟩) hO).trans h.o1, (hb.frozen (p := ⟨O, 1, none⟩) hO).trans h.f1, ⟨v0, (hb.cell (p := ⟨R, 0, none⟩) hR).trans g0⟩, ⟨v1, (hb.cell (p := ⟨R, 1, none⟩) hR).trans g1⟩, (hb.frozen (p := ⟨R, 0, none⟩) hR).trans h.z0, (hb.frozen (p := ⟨R, 1, none⟩) hR).trans h.z1, h.hO, h.hR, h.ne, h.n1, h.n2⟩
theorem Ac13.first {w : World} {O R n : Nat} {a1 a' : Option Addr} {c1 c' : Nat} {gone gone' : List Nat} {a2 : Option Addr} {c2 : Nat} {rest : Its} {wr w' : World} (h : Ac13 w O R n a1 c1 gone a2 c2 rest wr) (ho : OwnV 3 1 0 a' c' (gone'.map i64C) w') (ht : Touch (fun k => a1.map (·.block) = some k) wr w') (hn : ∀ x, a' = some x → a1.map (·.block) = some x.block ∨ wr.heap.size ≤ x.block) : Ac13 w O R n a' c' gone' a2 c2 rest w' := by
  obtain ⟨hO, hR⟩ := h.lt
  obtain ⟨v0, g0⟩ := h.r0
  obtain ⟨v1, g1⟩ := h.r1
  have sO : ¬ a1.map (·.block) = some O := fun e => map_none (P := fun k => k ≠ O) (fun x hx => (h.n1 x hx).1) _ e rfl
  have sR : ¬ a1.map (·.block) = some R := fun e => map_none (P := fun k => k ≠ R) (fun x hx => (h.n1 x hx).2) _ e rfl
  refine ⟨h.two.first ho ht hn, (ht.cell (p := ⟨O, 0, none⟩) hO sO).trans h.o0, (ht.cell (p := ⟨O, 1, none⟩) hO sO).trans h.o1, (ht.frozen (p := ⟨O, 1, none⟩) hO sO).trans h.f1, ⟨v0, (ht.cell (p := ⟨R, 0, none⟩) hR sR).trans g0⟩, ⟨v1, (ht.cell (p := ⟨R, 1, none⟩) hR sR).trans g1⟩, (ht.frozen (p := ⟨R, 0, none⟩) hR sR).trans h.z0, (ht.frozen (p := ⟨R, 1, none⟩) hR sR).trans h.z1, h.hO, h.hR, h.ne, fun x hx => ?_, h.n2⟩
  rcases hn x hx with e | e
  · exact map_none (P := fun k => k ≠ O ∧ k ≠ R) h.n1 _ e
  · exact ⟨by omega, by omega⟩
theorem Ac13.second {w : World} {O R n : Nat} {a1 : Option Addr} {c1 : Nat} {gone : List Nat} {a2 a' : Option Addr} {c2 c' : Nat} {rest rest' : Its} {wr w' : World} (h : Ac13 w O R n a1 c1 gone a2 c2 rest wr) (ho : OwnV 39 2 0 a' c' (rest'.map riC) w') (ht : Touch (fun k => a2.map (·.block) = some k) wr w') (hn : ∀ x, a' = some x → a2.map (·.block) = some x.block ∨ wr.heap.size ≤ x.block) (k : Nat) (hk : rest'.length = k) :
    w'.cell? ⟨O, 1, none⟩ = some (.slice a2 rest.length c2) ∧ w'.frozen? ⟨O, 1, none⟩ = false ∧ O < w'.heap.size ∧ Ac13 w O R n a1 c1 gone a' c' rest' (w'.setCell ⟨O, 1, none⟩ (.slice a' k c')) := by
  subst hk
  obtain ⟨hO, hR⟩ := h.lt
  obtain ⟨v0, g0⟩ := h.r0
  obtain ⟨v1, g1⟩ := h.r1
  have sO : ¬ a2.map (·.block) = some O := fun e => map_none (P := fun k => k ≠ O) (fun x hx => (h.n2 x hx).1) _ e rfl
  have sR : ¬ a2.map (·.block) = some R := fun e => map_none (P := fun k => k ≠ R) (fun x hx => (h.n2 x hx).2) _ e rfl
  have q0 := (ht.cell (p := ⟨O, 0, none⟩) hO sO).trans h.o0
  have q1 := (ht.cell (p := ⟨O, 1, none⟩) hO sO).trans h.o1
  have qf := (ht.frozen (p := ⟨O, 1, none⟩) hO sO).trans h.f1
  have hn' : ∀ x, a' = some x → x.block ≠ O ∧ x.block ≠ R := fun x hx => by
    rcases hn x hx with e | e
    · exact map_none (P := fun k => k ≠ O ∧ k ≠ R) h.n2 _ e
    · exact ⟨by omega, by omega⟩
  have ht2 : Touch (fun j => j = O) w' (w'.setCell ⟨O, 1, none⟩ (.slice a' rest'.length c')) := (Touch.refl (fun j => j = O) w').setCell (p := ⟨O, 1, none⟩) (fun _ => rfl) _
  have h2 := h.two.second ho ht hn
  have hRl : R < w'.heap.size := by have := ht.size; omega
  have hRO : ¬ (fun j => j = O) R := fun e => h.ne e.symm
  refine ⟨q1, qf, by have := ht.size; omega, ⟨h2.r1.touch ht2 (fun x hx => (h.n1 x hx).1), h2.r2.touch ht2 (fun x hx => (hn' x hx).1), h2.n1, h2.n2, h2.dj, h2.bel.trans (ht2.below h2.bel.size fun k hk e => by have := h.hO; omega)⟩, (World.cell?_setCell_other _ _ _ _ (by simp)).trans q0, World.cell?_setCell_same _ _ _ q1, by simpa using qf, ⟨v0, ?_⟩, ⟨v1, ?_⟩, ?_, ?_, h.hO, h.hR, h.ne, h.n1, hn'⟩
  · exact ((ht2.cell (p := ⟨R, 0, none⟩) hRl hRO).trans (ht.cell (p := ⟨R, 0, none⟩) hR sR)).trans g0
  · exact ((ht2.cell (p := ⟨R, 1, none⟩) hRl hRO).trans (ht.cell (p := ⟨R, 1, none⟩) hR sR)).trans g1
  · exact ((ht2.frozen (p := ⟨R, 0, none⟩) hRl hRO).trans (ht.frozen (p := ⟨R, 0, none⟩) hR sR)).trans h.z0
  · exact ((ht2.frozen (p := ⟨R, 1, none⟩) hRl hRO).trans (ht.frozen (p := ⟨R, 1, none⟩) hR sR)).trans h.z1
def A13Post (w : World) (a0 : Option Addr) (n : Nat) (rest : Its) (gone : List Nat) (r : Ending) (w' : World) : Prop :=
  ∃ a c a1 c1, r = .returned (.tuple #[.agg #[.int .i64 (n : Int), .slice a rest.length c], .slice a1 gone.length c1]) ∧ RNew w a0 a c rest w' ∧ VRow 1 w' a1 (gone.map i64C) ∧ (∀ x, a1 = some x → w.heap.size ≤ x.block)
theorem Ac13.fin {w : World} {O R n : Nat} {a1 : Option Addr} {c1 : Nat} {gone : List Nat} {a2 : Option Addr} {c2 : Nat} {rest : Its} {wr : World} (h : Ac13 w O R n a1 c1 gone a2 c2 rest wr) (a0 : Option Addr) (k1 k2 : Nat) (h1 : gone.length = k1) (h2 : rest.length = k2) (x y : Value) : A13Post w a0 n rest gone (.returned (.tuple #[.agg #[.int .i64 (n : Int), .slice a2 k2 c2], .slice a1 k1 c1])) ((wr.setCell ⟨R, 0, none⟩ x).setCell ⟨R, 1, none⟩ y) := by
  subst h1 h2
  have hN : NewV 39 2 w a2 c2 (rest.map riC) wr := ⟨⟨h.two.r2.1, h.two.n2⟩, h.two.bel⟩
  exact ⟨a2, c2, a1, c1, rfl, (hN.rnew (Below.refl _ _)).set2 h.hR (fun x hx => (h.n2 x hx).2) x y, (h.two.r1.row (i64_wide gone)).touch (by decide) (i64_wide gone) (set2_touch wr R x y) (fun x hx => (h.n1 x hx).2), h.two.n1⟩
set_option maxRecDepth 100000 in
set_option maxHeartbeats 4000000 in
theorem ref13Ack_no (a : Option Addr) (c n A B : Nat) (L : Its) (w : World) (hn : n ≤ 10000) (hA : n < A) (hr : RRow w a L) (hnn : a = none → L = []) (hc : L.length ≤ c ∧ c ≤ maxLen) :
    Calls Try.prog 20 #[.agg #[.int .i64 (n : Int), .slice a L.length c], .int .i64 (A : Int), .int .u32 (B : Int)] w (A13Post w a n L []) := by
  have hAi : (n : Int) < (A : Int) := by omega
  have HF : Hid (∀ o1 o2, A13Post w a n L [] (.returned (.tuple #[.agg #[.int .i64 (n : Int), .slice a L.length c], .slice none 0 0])) ((w.alloc o1).alloc o2)) := Lib.hid (fun o1 o2 => by
    have hB : Below w.heap.size w ((w.alloc o1).alloc o2) := bel_alloc (bel_alloc (Below.refl _ _) _) _
    exact ⟨a, c, none, 0, rfl, ⟨hr.below hB, hnn, hc.1, hc.2, .inl rfl, hB⟩, (fun h => by simp at h), (fun x hx => by cases hx)⟩)
  generalize A13Post w a n L [] = Post at HF ⊢
  clear hr hnn
  go_enter Try.func20, Try.ntmps20
  go_wp2
  exact bodyPost_ret (v := .tuple #[.agg #[.int .i64 (n : Int), .slice a L.length c], .slice none 0 0]) (by simp [results, Try.results20, go_sem]) rfl (HF.out _ _)
set_option maxRecDepth 100000 in
set_option maxHeartbeats 4000000 in
theorem ref13Ack_yes (a : Option Addr) (c n A B : Nat) (L : Its) (w : World) (hl : L.length ≤ 900) (hn : n ≤ 10000) (hA : A ≤ n) (hB : B < 4294967296) (hlt : ∀ p ∈ L, p.1 < 2147483648) (hr : RRow w a L) :
    Calls Try.prog 20 #[.agg #[.int .i64 (n : Int), .slice a L.length c], .int .i64 (A : Int), .int .u32 (B : Int)] w (A13Post w a n (leftR A B L) (goneR A B L)) := by
  have HR := Lib.hid hr
  have HLT := Lib.hid hlt
  have hAi : (A : Int) ≤ (n : Int) := by omega
  have hdn : decide (n < A) = false := decide_eq_false (by omega)
  have HA : Hid (A < 2147483648) := Lib.hid (by omega)
  have HM0 : Hid (Ac13 w (w.heap.size + 1 + 1) (w.heap.size + 1) n (some ⟨w.heap.size + 1 + 1 + 1, 0, none⟩) 0 [] none 0 [] ((((w.alloc (.cells #[.int .i64 (n : Int), .slice a L.length c] 29)).alloc (.cells #[.int .i64 0, .slice none 0 0] 29)).alloc (.cells #[.int .i64 (n : Int), .slice none 0 0] 29)).alloc (.cells #[] 3))) := Lib.hid (by
    have hB : Below w.heap.size w (((w.alloc (.cells #[.int .i64 (n : Int), .slice a L.length c] 29)).alloc (.cells #[.int .i64 0, .slice none 0 0] 29)).alloc (.cells #[.int .i64 (n : Int), .slice none 0 0] 29)) := bel_alloc (bel_alloc (bel_alloc (Below.refl _ _) _) _) _
    have hN := NewV.made 3 1 hB (w.heap.size + 1 + 1 + 1) (by simp)
    refine ⟨⟨⟨hN.1.1, fun _ _ => Nat.zero_le _⟩, ⟨World.ownsRow_nil _ _ _ _, (fun x hx => by cases hx)⟩, hN.1.2, (fun x hx => by cases hx), (fun x y hx hy => by cases hy), hN.2⟩, ?_, ?_, ?_, ⟨.int .i64 0, ?_⟩, ⟨.slice none 0 0, ?_⟩, ?_, ?_, by omega, by omega, by omega, (fun x hx => by cases hx; simp only; omega), (fun x hx => by cases hx)⟩
    · exact alloc_cell (new_cell (by simp) rfl) _
    · exact alloc_cell (new_cell (by simp) rfl) _
    · exact (frozen_old _ _ _ (by simp)).trans (frozen_new13 _ _ (by simp) _ _ _)
    · exact alloc_cell (alloc_cell (new_cell (by simp) rfl) _) _
    · exact alloc_cell (alloc_cell (new_cell (by simp) rfl) _) _
    · exact (frozen_old _ _ _ (by simp)).trans ((frozen_old _ _ _ (by simp)).trans (frozen_new13 _ _ (by simp) _ _ _))
    · exact (frozen_old _ _ _ (by simp)).trans ((frozen_old _ _ _ (by simp)).trans (frozen_new13 _ _ (by simp) _ _ _)))
  generalize hpost : A13Post w a n (leftR A B L) (goneR A B L) = Post
  have HPost := Lib.hid hpost
  clear hr hlt hA hpost
  go_enter Try.func20, Try.ntmps20
  go_wp2
  generalize (((w.alloc (.cells #[.int .i64 (n : Int), .slice a L.length c] 29)).alloc (.cells #[.int .i64 0, .slice none 0 0] 29)).alloc (.cells #[.int .i64 (n : Int), .slice none 0 0] 29)).alloc (.cells #[] 3) = W1 at HM0 ⊢
  generalize w.heap.size + 1 + 1 + 1 = g1 at HM0 ⊢
  generalize w.heap.size + 1 + 1 = O at HM0 ⊢
  generalize w.heap.size + 1 = R at HM0 ⊢
  go_loopw [9, 24] (fun v9 iv wr => ∃ (k n1 n2 : Nat) (a1 : Option Addr) (c1 : Nat) (a2 : Option Addr) (c2 : Nat), k ≤ L.length ∧ n1 ≤ k ∧ n2 ≤ k ∧ v9 = .slice a1 n1 c1 ∧ iv = .int .i64 k ∧ Hid ((goneR A B (L.take k)).length = n1 ∧ (leftR A B (L.take k)).length = n2 ∧ Ac13 w O R n a1 c1 (goneR A B (L.take k)) a2 c2 (leftR A B (L.take k)) wr)) (fun _ iv _ => L.length - (intOf iv).toNat)
  case atStart => exact ⟨0, 0, 0, _, 0, none, 0, Nat.zero_le _, Nat.le_refl _, Nat.le_refl _, rfl, rfl, Lib.hid ⟨rfl, rfl, HM0.out⟩⟩
  case round =>
    obtain ⟨k, n1, n2, a1, c1', a2, c2', hk, hn1, hn2, rfl, rfl, HS⟩ := hrel
    by_cases hlt : k < L.length
    · obtain ⟨g, off, rfl, hg, d0, d1⟩ := (HR.out.below HS.out.2.2.two.bel).at hlt
      have HCN := Lib.hid (show goneR A B (L.take (k + 1)) = goneR A B (L.take k) ++ (if hasR A B L[k].1 = true then [L[k].1] else []) by rw [List.take_succ_eq_append_getElem hlt]; exact gone_snoc _ _ _ _)
      have HRN := Lib.hid (show leftR A B (L.take (k + 1)) = leftR A B (L.take k) ++ (if hasR A B L[k].1 = true then [] else [L[k]]) by rw [List.take_succ_eq_append_getElem hlt]; exact left_snoc _ _ _ _)
      have hkp := HLT.out L[k] (List.getElem_mem hlt)
      have HHA := Lib.hid (fun W => has13_any A B L[k].1 W HA.out hkp hB)
      generalize L[k] = p at d0 d1 hkp HCN HRN HHA
      obtain ⟨pn, pt⟩ := p
      simp only at d0 d1 hkp HCN HRN HHA
      have hi0 : (0 : Int) ≤ (k : Int) := by omega
      have hi1 : (k : Int) < (L.length : Int) := by omega
      have HT1 := Lib.hid (HS.out.2.2.keep (bel_alloc (Below.refl _ _) (.cells #[.int .i64 (pn : Int), .string (bs pt)] 39)))
      have q0 : (wr.alloc (.cells #[.int .i64 (pn : Int), .string (bs pt)] 39)).cell? ⟨wr.heap.size, 0, none⟩ = some (.int .i64 (pn : Int)) := by simp
      have q1 : (wr.alloc (.cells #[.int .i64 (pn : Int), .string (bs pt)] 39)).cell? ⟨wr.heap.size, 1, none⟩ = some (.string (bs pt)) := by simp
      have HQ0 := Lib.hid q0
      have HQ1 := Lib.hid q1
      clear q0 q1
      go_wp2_with fail
      generalize wr.alloc (.cells #[.int .i64 (pn : Int), .string (bs pt)] 39) = W2 at HT1 HQ0 HQ1 ⊢
      generalize wr.heap.size = Y at HQ0 HQ1 ⊢
      refine (HHA.out _).mono ?_
      rintro r w4 ⟨rfl, rfl⟩
      have q0 := HQ0.out
      have q1 := HQ1.out
      have hql := block_lt_of_cell q0
      simp only at hql
      clear HHA HQ0 HQ1 d0 d1 hg
      cases hh : hasR A B pn
      · rw [hh] at HCN HRN
        obtain ⟨a5, c5, w5, hrun, ho, hto, hnw⟩ := own_one riTy Try.underlying27 HT1.out.two.r2 (riC (pn, pt)) (ri_wide [(pn, pt)]) (by rw [List.length_map]; have := HS.out.2.1; omega) n2 (by rw [List.length_map]; exact HS.out.2.1) #[.int .i64 (pn : Int), .string (bs pt)] rfl
        have HRUN := Lib.hid hrun
        have hsec := HT1.out.second (rest' := leftR A B (L.take (k + 1))) (a' := a5) (c' := c5) (w' := w5) (by rw [HRN.out]; simpa using ho) hto hnw (n2 + 1) (by rw [HRN.out]; simpa using HS.out.2.1)
        obtain ⟨s1, sf, sl, hac⟩ := hsec
        have o1 := HT1.out.o1
        rw [HS.out.2.1] at o1 s1
        have hOl := HT1.out.lt.1
        have HT5 : Hid (Ac13 w O R n a1 c1' (goneR A B (L.take (k + 1))) a5 c5 (leftR A B (L.take (k + 1))) (w5.setCell ⟨O, 1, none⟩ (.slice a5 (n2 + 1) c5))) := Lib.hid (by
          have := hac
          rw [HCN.out]
          simpa using this)
        clear hrun ho hto hnw hac
        go_wp2_with (at_builtin; refine wpList_append_run _ rfl (.tmp 39) (.tmp 41) 27 27 rfl _ _ rfl rfl (.slice a5 (n2 + 1) c5) w5 HRUN.out ?_)
        go_roundw
        case rel => exact ⟨k + 1, n1, n2 + 1, a1, c1', a5, c5, by omega, by omega, by omega, rfl, by go_num, Lib.hid ⟨by rw [HCN.out]; simpa using HS.out.1, by rw [HRN.out]; simpa using HS.out.2.1, HT5.out⟩⟩
        case measure => simp [intOf] <;> omega
      · rw [hh] at HCN HRN
        obtain ⟨a5, c5, w5, hrun, ho, hto, hnw⟩ := own_one i64Ty Try.underlying44 HT1.out.two.r1 (i64C pn) (i64_wide [pn]) (by rw [List.length_map]; have := HS.out.1; omega) n1 (by rw [List.length_map]; exact HS.out.1) #[.int .i64 (pn : Int)] rfl
        have HRUN := Lib.hid hrun
        have HT5 : Hid (Ac13 w O R n a5 c5 (goneR A B (L.take (k + 1))) a2 c2' (leftR A B (L.take (k + 1))) w5) := Lib.hid (by
          have := HT1.out.first (gone' := goneR A B (L.take (k + 1))) (a' := a5) (c' := c5) (w' := w5) (by rw [HCN.out]; simpa using ho) hto hnw
          rw [HRN.out]
          simpa using this)
        clear hrun ho hto hnw
        go_wp2_with (at_builtin; refine wpList_append_run _ rfl (.tmp 33) (.tmp 36) 44 44 rfl _ _ rfl rfl (.slice a5 (n1 + 1) c5) w5 HRUN.out ?_)
        go_roundw
        case rel => exact ⟨k + 1, n1 + 1, n2, a5, c5, a2, c2', by omega, by omega, by omega, rfl, by go_num, Lib.hid ⟨by rw [HCN.out]; simpa using HS.out.1, by rw [HRN.out]; simpa using HS.out.2.1, HT5.out⟩⟩
        case measure => simp [intOf] <;> omega
    · obtain rfl : k = L.length := by omega
      rw [List.take_length] at HS
      obtain ⟨hl1, hl2, hac⟩ := HS.out
      have hi1 : (L.length : Int) ≤ (L.length : Int) := by omega
      have o0 := hac.o0
      have o1 := hac.o1
      rw [hl2] at o1
      obtain ⟨v0, r0⟩ := hac.r0
      obtain ⟨v1, r1⟩ := hac.r1
      have z0 := hac.z0
      have z1 := hac.z1
      have hOl := hac.lt.1
      have hRl := hac.lt.2
      have hne := hac.ne
      have HF := Lib.hid (hac.fin a n1 n2 hl1 hl2)
      rw [HPost.out] at HF
      clear hl1 hl2 hac HS
      go_wp2
      exact bodyPost_ret (v := .tuple #[.agg #[.int .i64 (n : Int), .slice a2 n2 c2'], .slice a1 n1 c1']) (by simp [results, Try.results20, go_sem, r0, r1]) rfl (HF.out _ _)
end Go.Proofs.Ytpilkaggiajjmaa
