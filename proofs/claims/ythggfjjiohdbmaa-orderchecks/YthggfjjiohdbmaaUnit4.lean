/-
  Layer 8: one unit more.
-/
import Derived.Test.YthggfjjiohdbmaaUnit3
namespace Go.Proofs.Ythggfjjiohdbmaa
open Go.RowKit
set_option linter.unusedVariables false

/-- What a table's row and itself have of memory. -/
def TabS (b : Nat) (a : Option Addr) (k : Nat) : Prop := k = b ∨ a.map (·.block) = some k
theorem TabAt.push {w : World} {b : Nat} {a : Option Addr} {c : Nat} {us : List Un} {g : Int} (h : TabAt w b a c us g) (u : Un) (hl : us.length ≤ 1000) (v : Int) :
    ∃ a5 c5 w5, (Builtin.append_ #[48, 48] 48 #[.slice a us.length c, .slice (some ⟨w.heap.size, 0, none⟩) 1 1]).run Try.prog (w.alloc (.cells #[.int .i64 u.id, .int .i64 u.kind, .int .i64 u.owner, .int .i64 u.x, .int .i64 u.y, .int .i64 u.health] 61)) = .ok (.slice a5 (us.length + 1) c5) w5 ∧
      w5.cell? ⟨b, 0, none⟩ = some (.slice a us.length c) ∧ w5.cell? ⟨b, 1, none⟩ = some (.int .i64 g) ∧ w5.frozen? ⟨b, 0, none⟩ = false ∧ w5.frozen? ⟨b, 1, none⟩ = false ∧ Touch (fun k => a.map (·.block) = some k) w w5 ∧
      TabAt ((w5.setCell ⟨b, 0, none⟩ (.slice a5 (us.length + 1) c5)).setCell ⟨b, 1, none⟩ (.int .i64 v)) b a5 c5 (us ++ [u]) v ∧
      (∀ x, a5 = some x → a.map (·.block) = some x.block ∨ w.heap.size ≤ x.block) ∧ Touch (TabS b a) w ((w5.setCell ⟨b, 0, none⟩ (.slice a5 (us.length + 1) c5)).setCell ⟨b, 1, none⟩ (.int .i64 v)) := by
  have hw : Wide 6 [u.ints] := by intro y hy; simp at hy; rw [hy]; rfl
  have hlt := h.lt
  have hr := h.row
  obtain ⟨a5, c5, w5, hrun, ho, hg, hf⟩ := rec_append (l := unsI us) (ty := 48) unTy Try.underlying48 Try.underlying48 hw (World.ownsRow.alloc (by rw [unsI_len]; exact hr) (.cells #[.int .i64 u.id, .int .i64 u.kind, .int .i64 u.owner, .int .i64 u.x, .int .i64 u.y, .int .i64 u.health] 61)) (some ⟨w.heap.size, 0, none⟩) 1 (RecRow.lit w [u.ints] hw _ _ rfl) (fun h => by cases h) (by rw [unsI_len]; simp; omega)
  rw [unsI_len] at hrun ho hf
  have e1 : (fun k => (Value.slice a us.length c).ownBlock = some k) = fun k => a.map (·.block) = some k := by funext k; cases a <;> simp [Value.ownBlock]
  have ht := touch_grown hg
  rw [e1] at ht
  have ht5 : Touch (fun k => a.map (·.block) = some k) w w5 := ((Touch.refl _ w).alloc _).trans ht
  have nb : ¬ a.map (·.block) = some b := fun e => by
    cases a with
    | none => simp at e
    | some x => simp at e; exact h.ap x rfl e
  have k0 : w5.cell? ⟨b, 0, none⟩ = some (.slice a us.length c) := (ht5.cell (p := ⟨b, 0, none⟩) hlt nb).trans h.c0
  have k1 : w5.cell? ⟨b, 1, none⟩ = some (.int .i64 g) := (ht5.cell (p := ⟨b, 1, none⟩) hlt nb).trans h.c1
  have z0 : w5.frozen? ⟨b, 0, none⟩ = false := (ht5.frozen (p := ⟨b, 0, none⟩) hlt nb).trans h.f0
  have z1 : w5.frozen? ⟨b, 1, none⟩ = false := (ht5.frozen (p := ⟨b, 1, none⟩) hlt nb).trans h.f1
  have hnew : ∀ x, a5 = some x → a.map (·.block) = some x.block ∨ w.heap.size ≤ x.block := fun x hx => by
    subst hx
    rcases hf x.block (by simp [Value.ownBlock]) with h' | h'
    · cases a with
      | none => simp [Value.ownBlock] at h'
      | some y => simp [Value.ownBlock] at h'; exact .inl (by simp [h'])
    · simp at h'; exact .inr (by omega)
  have hap : ∀ x, a5 = some x → x.block ≠ b := fun x hx e => by
    rcases hnew x hx with h' | h'
    · rw [e] at h'; exact nb h'
    · omega
  have tS : Touch (fun k => k = b) w5 ((w5.setCell ⟨b, 0, none⟩ (.slice a5 (us.length + 1) c5)).setCell ⟨b, 1, none⟩ (.int .i64 v)) := ((Touch.refl (fun k => k = b) w5).setCell (p := ⟨b, 0, none⟩) (fun _ => rfl) _).setCell (p := ⟨b, 1, none⟩) (fun _ => rfl) _
  refine ⟨a5, c5, w5, hrun, k0, k1, z0, z1, ht5, ⟨?_, ?_, by simpa using z0, by simpa using z1, ?_, hap⟩, hnew, ?_⟩
  · rw [World.cell?_setCell_other _ _ _ _ (by simp), World.cell?_setCell_same _ _ _ k0]; simp
  · exact World.cell?_setCell_same _ _ _ ((World.cell?_setCell_other _ _ _ _ (by simp)).trans k1)
  · rw [unsI_append]
    simp only [List.length_append, List.length_cons, List.length_nil, Nat.zero_add, unsI_len] at ho ⊢
    exact own_touchR ho tS (fun k hk e => by
      cases a5 with
      | none => simp [Value.ownBlock] at hk
      | some x => simp [Value.ownBlock] at hk; subst hk; exact hap x rfl e)
  · exact (ht5.mono fun k _ h => .inr h).trans (tS.mono fun k _ h => .inl h)
theorem TabS.notK {K : Nat → Prop} {w w' : World} {b : Nat} {a : Option Addr} (hb : ¬ K b) (ha : ∀ x, a = some x → ¬ K x.block) (ht : Touch (TabS b a) w w') : Touch (fun k => ¬ K k) w w' :=
  ht.mono fun k _ h => by
    rcases h with rfl | h
    · exact hb
    · cases a with
      | none => simp at h
      | some x => simp at h; subst h; exact ha x rfl
/-- The one that Spawn would make. -/
def spawnU (g kind owner x y : Int) : Un := ⟨g + 1, kind, owner, x, y, 1000⟩
def spawnQ (us : List Un) (g kind owner x y : Int) : Bool := decide (us.length ≠ 64) && (decide (g + 1 ≠ 1099511627776) && mayQ (spawnU g kind owner x y))
theorem tabOk_push {us : List Un} {g kind owner x y : Int} (h : TabOk us g) (hq : spawnQ us g kind owner x y = true) : TabOk (us ++ [spawnU g kind owner x y]) (g + 1) := by
  obtain ⟨h1, h2, h3, h4, h5⟩ := h
  simp only [spawnQ, Bool.and_eq_true, decide_eq_true_eq] at hq
  obtain ⟨q1, q2, q3⟩ := hq
  refine ⟨by simp; omega, fun i j hi hj hij => ?_, fun u hu => ?_, by omega, by omega⟩
  · simp only [List.length_append, List.length_cons, List.length_nil] at hi hj
    by_cases hjl : j < us.length
    · rw [List.getElem_append_left (by omega), List.getElem_append_left hjl]
      exact h2 i j (by omega) hjl hij
    · rw [List.getElem_append_left (by omega), List.getElem_append_right (by omega)]
      have e : j - us.length = 0 := by omega
      simp only [e, List.getElem_cons_zero]
      have := (h3 us[i] (List.getElem_mem _)).2.1
      unfold spawnU
      simp only
      omega
  · rcases List.mem_append.1 hu with h | h
    · have := h3 u h
      exact ⟨this.1, by omega, this.2.2⟩
    · simp at h
      subst h
      exact ⟨by unfold spawnU; simp only; omega, by unfold spawnU; simp only; omega, (mayQ_iff _).1 q3⟩
set_option maxRecDepth 100000 in
set_option maxHeartbeats 2000000 in
theorem spawn_no {K : Nat → Prop} (b : Nat) (us : List Un) (g kind owner x y : Int) (w : World) (h : TabQ K b us g w) (hq : spawnQ us g kind owner x y = false) :
    Calls Try.prog 14 #[.pointer (some ⟨b, 0, none⟩), .int .i64 kind, .int .i64 owner, .int .i64 x, .int .i64 y] w fun r w' => r = .returned (.int .i64 0) ∧ Below w.heap.size w w' := by
  have HN := Lib.hid (tabNext_any b us g w h)
  have hg0 := h.ok.2.2.2.1
  have hg1 := h.ok.2.2.2.2
  have hB : Below w.heap.size w (w.alloc (.cells #[.int .i64 (g + 1), .int .i64 kind, .int .i64 owner, .int .i64 x, .int .i64 y, .int .i64 1000] 61)) := (Below.refl _ w).alloc (Nat.le_refl _) _
  have HM := Lib.hid (mayBe_any (spawnU g kind owner x y) (w.alloc (.cells #[.int .i64 (g + 1), .int .i64 kind, .int .i64 owner, .int .i64 x, .int .i64 y, .int .i64 1000] 61)))
  unfold spawnU unV at HM
  simp only at HM
  have HQ := Lib.hid hq
  unfold spawnQ spawnU at HQ
  obtain ⟨⟨a, c, h1, -⟩, -, -⟩ := h
  have c0 := h1.c0
  have hbl := h1.lt
  have HBL := Lib.hid hB
  clear h1 hq hB
  generalize mayQ ⟨g + 1, kind, owner, x, y, 1000⟩ = q at HM HQ
  generalize us.length = n at c0 HQ HN
  by_cases h64 : n = 64
  · subst h64
    go_enter Try.func14, Try.ntmps14
    go_wp2_with (go_at_call 32; refine HN.out.mono ?_; rintro e w' ⟨rfl, rfl⟩)
    go_ret
    exact ⟨rfl, HBL.out⟩
  · have hnb : ((n : Int) == 64) = false := by simp; omega
    by_cases hge : g + 1 = 1099511627776
    · have hgb : (g + 1 == 1099511627776) = true := by simpa using hge
      clear hge
      go_enter Try.func14, Try.ntmps14
      go_wp2_with (go_at_call 32; refine HN.out.mono ?_; rintro e w' ⟨rfl, rfl⟩)
      go_ret
      exact ⟨rfl, HBL.out⟩
    · have hgb : (g + 1 == 1099511627776) = false := by simpa using hge
      have hqf : q = false := by have := HQ.out; simpa [h64, hge] using this
      subst hqf
      clear h64 hge HQ
      go_enter Try.func14, Try.ntmps14
      go_wp2_with (first | (go_at_call 32; refine HN.out.mono ?_; rintro e w' ⟨rfl, rfl⟩) | fail)
      refine HM.out.mono ?_
      rintro r w1 ⟨rfl, hb1⟩
      have HB1 := Lib.hid (HBL.out.trans (hb1.mono HBL.out.size))
      clear hb1 HM
      go_wp2
      go_ret
      exact ⟨rfl, HB1.out⟩
set_option maxRecDepth 100000 in
set_option maxHeartbeats 2000000 in
theorem spawn_yes {K : Nat → Prop} (b : Nat) (us : List Un) (g kind owner x y : Int) (w : World) (h : TabQ K b us g w) (hq : spawnQ us g kind owner x y = true) :
    Calls Try.prog 14 #[.pointer (some ⟨b, 0, none⟩), .int .i64 kind, .int .i64 owner, .int .i64 x, .int .i64 y] w fun r w' => r = .returned (.int .i64 (g + 1)) ∧ TabTo K b (us ++ [spawnU g kind owner x y]) (g + 1) w w' := by
  have HN := Lib.hid (tabNext_any b us g w h)
  have hg0 := h.ok.2.2.2.1
  have hg1 := h.ok.2.2.2.2
  have hB : Below w.heap.size w (w.alloc (.cells #[.int .i64 (g + 1), .int .i64 kind, .int .i64 owner, .int .i64 x, .int .i64 y, .int .i64 1000] 61)) := (Below.refl _ w).alloc (Nat.le_refl _) _
  have HM := Lib.hid (mayBe_any (spawnU g kind owner x y) (w.alloc (.cells #[.int .i64 (g + 1), .int .i64 kind, .int .i64 owner, .int .i64 x, .int .i64 y, .int .i64 1000] 61)))
  have HOK := Lib.hid (tabOk_push h.ok hq)
  simp only [spawnQ, Bool.and_eq_true, decide_eq_true_eq] at hq
  obtain ⟨q1, q2, q3⟩ := hq
  rw [q3] at HM
  unfold spawnU unV at HM
  simp only at HM
  obtain ⟨⟨a, c, h1, nb, na⟩, hK, hok⟩ := h
  have c0 := h1.c0
  have hbl := h1.lt
  have HNB := Lib.hid nb
  have HNA := Lib.hid na
  have HK := Lib.hid hK
  have HT := Lib.hid h1
  have HBL := Lib.hid hB
  have hnb : ((us.length : Int) == 64) = false := by simp; omega
  have hgb : (g + 1 == 1099511627776) = false := by simpa using q2
  have hl64 := hok.1
  clear h1 hB q1 q2 q3 nb na hK hok
  go_enter Try.func14, Try.ntmps14
  go_wp2_with (first | (go_at_call 32; refine HN.out.mono ?_; rintro e w' ⟨rfl, rfl⟩) | fail)
  refine HM.out.mono ?_
  rintro r w1 ⟨rfl, hb1⟩
  obtain ⟨x0, x1, x2, x3, x4, x5⟩ := new6 hb1
  have hB1 := HBL.out.trans (hb1.mono HBL.out.size)
  have HB1 := Lib.hid hB1
  have hT1 := HT.out.below hB1
  have c01 := hT1.c0
  have hbl1 := hT1.lt
  have hX1 : w.heap.size < w1.heap.size := block_lt_of_cell x0
  obtain ⟨a5, c5, w5, hrun, k0, k1, z0, z1, ht5, hT5, hn5, htS⟩ := TabAt.push (w := w1.drew) (hT1.below ((Below.refl _ w1).drew)) (spawnU g kind owner x y) (by omega) (g + 1)
  have y0 : w5.cell? ⟨w.heap.size, 0, none⟩ = some (.int .i64 (g + 1)) := (ht5.cell (p := ⟨w.heap.size, 0, none⟩) hX1 (fun e => by
    cases a with
    | none => simp at e
    | some z => simp at e; have := HT.out.alt z rfl; omega)).trans x0
  have hX5 : w.heap.size < w5.heap.size := block_lt_of_cell y0
  have hbX : b ≠ w.heap.size := by omega
  have HRUN := Lib.hid hrun
  have HFIN := Lib.hid (show TabTo K b (us ++ [spawnU g kind owner x y]) (g + 1) w ((w5.setCell ⟨b, 0, none⟩ (.slice a5 (us.length + 1) c5)).setCell ⟨b, 1, none⟩ (.int .i64 (g + 1))) from by
    have tt : Touch (fun k => ¬ K k) w ((w5.setCell ⟨b, 0, none⟩ (.slice a5 (us.length + 1) c5)).setCell ⟨b, 1, none⟩ (.int .i64 (g + 1))) := (touch_of_below HB1.out).trans (TabS.notK HNB.out HNA.out htS).drew0
    refine ⟨⟨⟨a5, c5, hT5, HNB.out, fun z hz hk => ?_⟩, fun k hk => Nat.lt_of_lt_of_le (HK.out k hk) tt.size, HOK.out⟩, tt⟩
    rcases hn5 z hz with h' | h'
    · cases a with
      | none => simp at h'
      | some y' => simp at h'; rw [← h'] at hk; exact HNA.out y' rfl hk
    · have := HK.out _ hk
      have hz1 := HB1.out.size
      have : w1.drew.heap.size = w1.heap.size := rfl
      omega)
  unfold spawnU at HRUN
  simp only at HRUN
  clear hb1 hT1 hB1 hrun ht5 hT5 hn5 htS HM HN HOK HT
  go_upto_region 4 with (fail)
  go_region_law (refine step_append_run _ rfl (.tmp 40) (.tmp 42) 48 48 rfl _ _ (by rfl) (by rfl) (.slice a5 (us.length + 1) c5) w5 HRUN.out ?_)
  all_goals
    go_wp2
    go_ret
    exact ⟨rfl, HFIN.out⟩
end Go.Proofs.Ythggfjjiohdbmaa
