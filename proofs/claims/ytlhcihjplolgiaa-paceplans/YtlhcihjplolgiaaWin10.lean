/-
  Layer 13: what was sent: an ack comes.
-/
import Derived.Test.YtlhcihjplolgiaaWin9
namespace Go.Proofs.Ytlhcihjplolgiaa
open Go.RowKit
set_option linter.unusedVariables false

def cameO (nx B : Nat) (l : List (Nat × List UInt8)) : List Nat := (l.filter (fun p => hasB nx B p.1)).map (·.1)
def restO (nx B : Nat) (l : List (Nat × List UInt8)) : List (Nat × List UInt8) := l.filter (fun p => !hasB nx B p.1)
def OAckPost (w : World) (b n : Nat) (came : List Nat) (rest : List (Nat × List UInt8)) (r : Ending) (w' : World) : Prop :=
  ∃ a1 c1 a2 c2, r = .returned (.slice a1 came.length c1) ∧ OAt w' b n a2 c2 rest ∧ OwnV 132 1 w.heap.size a1 c1 (came.map u32C) w' ∧ (∀ x, a2 = some x → w.heap.size ≤ x.block) ∧ (∀ x y, a1 = some x → a2 = some y → x.block ≠ y.block) ∧ Touch (fun j => j = b) w w'
theorem cell_it {w : World} {a : Option Addr} {c B : Nat} {l : List (Nat × List UInt8)} (h : OwnV 142 2 B a c (l.map itCells) w) (h0 : 0 < l.length) : ∃ gb, a = some ⟨gb, 0, none⟩ ∧ gb < w.heap.size ∧ ∀ i (hi : i < l.length), w.cell? ⟨gb, i * 2, none⟩ = some (.int .u32 (l[i].1 : Int)) ∧ w.cell? ⟨gb, i * 2 + 1, none⟩ = some (.string (bs l[i].2)) := by
  have hlen : (l.map itCells).length = l.length := by simp
  rcases h.1.2 with ⟨-, h00⟩ | ⟨g, cap, cur, hv, -, hg, hnc, -, hsz, htk⟩
  · omega
  · have hr := h.row (it_wide _) (by rw [hlen]; exact h0)
    obtain ⟨b, off, e1, hc⟩ := hr
    simp only [Value.slice.injEq] at hv
    rw [hv.1] at e1
    simp only [Option.some.injEq, Addr.mk.injEq] at e1
    obtain ⟨rfl, rfl, -⟩ := e1
    refine ⟨g, hv.1, (Array.getElem?_eq_some_iff.1 hg).1, fun i hi => ?_⟩
    have hx : ∀ j, j < 2 → w.cell? ⟨g, i * 2 + j, none⟩ = (itCells l[i])[j]? := fun j hj => by
      have h1 := hc i (by rw [hlen]; exact hi) j hj
      rw [Nat.zero_add] at h1
      rw [h1]
      simp
    exact ⟨hx 0 (by decide), hx 1 (by decide)⟩
theorem came_snoc (nx B : Nat) (l : List (Nat × List UInt8)) (p : Nat × List UInt8) : cameO nx B (l ++ [p]) = cameO nx B l ++ (if hasB nx B p.1 = true then [p.1] else []) := by
  unfold cameO
  rw [List.filter_append, List.map_append]
  congr 1
  by_cases h : hasB nx B p.1 = true <;> simp [h]
theorem rest_snoc (nx B : Nat) (l : List (Nat × List UInt8)) (p : Nat × List UInt8) : restO nx B (l ++ [p]) = restO nx B l ++ (if hasB nx B p.1 = true then [] else [p]) := by
  unfold restO
  rw [List.filter_append]
  congr 1
  by_cases h : hasB nx B p.1 = true <;> simp [h]
theorem came_len (nx B : Nat) (l : List (Nat × List UInt8)) : (cameO nx B l).length ≤ l.length ∧ (restO nx B l).length ≤ l.length :=
  ⟨by unfold cameO; rw [List.length_map]; exact List.length_filter_le _ _, List.length_filter_le _ _⟩
set_option maxRecDepth 100000 in
set_option maxHeartbeats 2000000 in
theorem outAck_ok (b n : Nat) (a : Option Addr) (c : Nat) (l : List (Nat × List UInt8)) (nx B : Nat) (w : World) (h : OAt w b n a c l) (hl : l.length ≤ 1000) (hks : ∀ p ∈ l, p.1 < 4294967296) (hx : nx < 4294967296) (hB : B < 4294967296) (hgo : nx = n ∨ nx ≠ n ∧ belowB nx n = true) :
    Calls Try.prog 72 #[.pointer (some ⟨b, 0, none⟩), .agg #[.int .u32 (nx : Int), .int .u32 (B : Int)]] w (OAckPost w b n (cameO nx B l) (restO nx B l)) := by
  have hA : Below w.heap.size w (w.alloc (.cells #[.int .u32 (nx : Int), .int .u32 (B : Int)] 134)) := bel_alloc (Below.refl _ _) _
  have x0 : (w.alloc (.cells #[.int .u32 (nx : Int), .int .u32 (B : Int)] 134)).cell? ⟨w.heap.size, 0, none⟩ = some (.int .u32 (nx : Int)) := by simp
  have x1 : (w.alloc (.cells #[.int .u32 (nx : Int), .int .u32 (B : Int)] 134)).cell? ⟨w.heap.size, 1, none⟩ = some (.int .u32 (B : Int)) := by simp
  have HBEL := Lib.hid (fun W => below_any nx n hx h.nx W)
  have HO := Lib.hid (h.keep hA)
  have HA := Lib.hid hA
  have hbw := h.lt
  have HAL := Lib.hid h.row.lt
  have HNE := Lib.hid h.ne
  have HKS := Lib.hid hks
  generalize hpost : OAckPost w b n (cameO nx B l) (restO nx B l) = Post
  have HPost := Lib.hid hpost
  clear hpost h hA hks
  have hcs : ((nx : Int) != (n : Int)) = false ∨ ((nx : Int) != (n : Int)) = true ∧ belowB nx n = true := by
    rcases hgo with e | ⟨e, e2⟩
    · left; subst e; simp
    · right; exact ⟨by rw [bne_iff_ne]; omega, e2⟩
  clear hgo
  rcases hcs with hc1 | ⟨hc1, hc2⟩
  all_goals (try rw [hc2] at HBEL)
  all_goals
    go_enter Try.func72, Try.ntmps72
    go_upto_region 1 with (fail)
    have y0 := HO.out.c0
    have hbl := HO.out.lt
    have hXl := block_lt_of_cell x0
    simp only at hXl
    go_quiet ((go_at_call 107; exact Calls.quiet_of_same (HBEL.out _)))
    have z0 : ((w.alloc (.cells #[.int .u32 (nx : Int), .int .u32 (B : Int)] 134)).drewN nq).cell? ⟨w.heap.size, 0, none⟩ = some (.int .u32 (nx : Int)) := x0
    have z1 : ((w.alloc (.cells #[.int .u32 (nx : Int), .int .u32 (B : Int)] 134)).drewN nq).cell? ⟨w.heap.size, 1, none⟩ = some (.int .u32 (B : Int)) := x1
    have HO1 := Lib.hid (HO.out.keep (drewN_bel _ nq))
    have HA1 := Lib.hid (HA.out.trans ((drewN_bel _ nq).mono HA.out.size))
    clear x0 x1 y0 hbl hXl HO HA hc1
    generalize (w.alloc (.cells #[.int .u32 (nx : Int), .int .u32 (B : Int)] 134)).drewN nq = W1 at z0 z1 HO1 HA1 ⊢
    generalize hX : w.heap.size = X at z0 z1 ⊢
    have HX := Lib.hid hX
    clear hX
    have c1 := HO1.out.c1
    have hbl := HO1.out.lt
    have hXl := block_lt_of_cell z0
    simp only at hXl
    go_wp2
    go_loopw [5, 6, 31] (fun v5 v6 iv wr => ∃ (k n1 n2 : Nat) (a1 : Option Addr) (c1 : Nat) (a2 : Option Addr) (c2 : Nat), k ≤ l.length ∧ n1 ≤ k ∧ n2 ≤ k ∧ v5 = .slice a1 n1 c1 ∧ v6 = .slice a2 n2 c2 ∧ iv = .int .i64 k ∧ Hid ((cameO nx B (l.take k)).length = n1 ∧ (restO nx B (l.take k)).length = n2 ∧ Two 132 1 142 2 W1 a1 c1 ((cameO nx B (l.take k)).map u32C) a2 c2 ((restO nx B (l.take k)).map itCells) wr)) (fun _ _ iv _ => l.length - (intOf iv).toNat)
    case atStart => exact ⟨0, 0, 0, none, 0, none, 0, Nat.zero_le _, Nat.le_refl _, Nat.le_refl _, rfl, rfl, rfl, Lib.hid ⟨rfl, rfl, Two.none _ _ _ _ _⟩⟩
    case round =>
      obtain ⟨k, n1, n2, a1, c1', a2, c2', hk, hn1, hn2, rfl, rfl, rfl, HS⟩ := hrel
      by_cases hlt : k < l.length
      · obtain ⟨g, rfl, hg, hcells⟩ := cell_it HO1.out.row (by omega)
        obtain ⟨u0, u1⟩ := hcells k hlt
        have hbel := HS.out.2.2.bel
        have d0 := (hbel.cell (p := ⟨g, k * 2, none⟩) hg).trans u0
        have d1 := (hbel.cell (p := ⟨g, k * 2 + 1, none⟩) hg).trans u1
        have e0 := (hbel.cell (p := ⟨X, 0, none⟩) hXl).trans z0
        have e1 := (hbel.cell (p := ⟨X, 1, none⟩) hXl).trans z1
        have hgr : g < wr.heap.size := block_lt_of_cell d0
        have hXr : X < wr.heap.size := block_lt_of_cell e0
        have hkp := HKS.out l[k] (List.getElem_mem hlt)
        have HCN := Lib.hid (show cameO nx B (l.take (k + 1)) = cameO nx B (l.take k) ++ (if hasB nx B l[k].1 = true then [l[k].1] else []) by rw [List.take_succ_eq_append_getElem hlt]; exact came_snoc _ _ _ _)
        have HRN := Lib.hid (show restO nx B (l.take (k + 1)) = restO nx B (l.take k) ++ (if hasB nx B l[k].1 = true then [] else [l[k]]) by rw [List.take_succ_eq_append_getElem hlt]; exact rest_snoc _ _ _ _)
        have HHA := Lib.hid (fun W => has_any nx B l[k].1 W hx hB hkp)
        clear hcells u0 u1 hbel
        generalize l[k] = p at d0 d1 hkp HCN HRN HHA
        obtain ⟨pn, pt⟩ := p
        simp only at d0 d1 hkp HCN HRN HHA
        have hi0 : (0 : Int) ≤ (k : Int) := by omega
        have hi1 : (k : Int) < (l.length : Int) := by omega
        have HT1 := Lib.hid (HS.out.2.2.keep (bel_alloc (Below.refl _ _) (.cells #[.int .u32 (pn : Int), .string (bs pt)] 142)))
        have q0 : (wr.alloc (.cells #[.int .u32 (pn : Int), .string (bs pt)] 142)).cell? ⟨wr.heap.size, 0, none⟩ = some (.int .u32 (pn : Int)) := by simp
        have q1 : (wr.alloc (.cells #[.int .u32 (pn : Int), .string (bs pt)] 142)).cell? ⟨wr.heap.size, 1, none⟩ = some (.string (bs pt)) := by simp
        have HQ0 := Lib.hid q0
        have HQ1 := Lib.hid q1
        clear q0 q1
        go_wp2_with fail
        refine (HHA.out _).mono ?_
        rintro r w4 ⟨rfl, hb4⟩
        have q0 := (hb4.cell (p := ⟨wr.heap.size, 0, none⟩) (block_lt_of_cell HQ0.out)).trans HQ0.out
        have q1 := (hb4.cell (p := ⟨wr.heap.size, 1, none⟩) (block_lt_of_cell HQ1.out)).trans HQ1.out
        have HT4 := Lib.hid (HT1.out.keep hb4)
        have hql := block_lt_of_cell q0
        simp only at hql
        clear hb4 HT1 HQ0 HQ1 d0 d1 e0 e1 hgr hXr HHA
        generalize wr.heap.size = Y at q0 q1 hql ⊢
        cases hh : hasB nx B pn
        · rw [hh] at HCN HRN
          obtain ⟨a5, c5, w5, hrun, ho, hto, hnw⟩ := own_one itTy Try.underlying135 HT4.out.r2 (itCells (pn, pt)) (it_wide [(pn, pt)]) (by rw [List.length_map]; have := HS.out.2.1; omega) n2 (by rw [List.length_map]; exact HS.out.2.1) #[.int .u32 (pn : Int), .string (bs pt)] rfl
          have HRUN := Lib.hid hrun
          have HT5 : Hid (Two 132 1 142 2 W1 a1 c1' ((cameO nx B (l.take (k + 1))).map u32C) a5 c5 ((restO nx B (l.take (k + 1))).map itCells) w5) := Lib.hid (by
            rw [HCN.out, HRN.out]
            have := HT4.out.second ho hto hnw
            simpa using this)
          clear hrun ho hto hnw HT4
          go_wp2_with (at_builtin; refine wpList_append_run _ rfl (.tmp 44) (.tmp 46) 135 135 rfl _ _ rfl rfl (.slice a5 (n2 + 1) c5) w5 HRUN.out ?_)
          go_roundw
          case rel => exact ⟨k + 1, n1, n2 + 1, a1, c1', a5, c5, by omega, by omega, by omega, rfl, rfl, by go_num, Lib.hid ⟨by rw [HCN.out]; simpa using HS.out.1, by rw [HRN.out]; simpa using HS.out.2.1, HT5.out⟩⟩
          case measure => simp [intOf] <;> omega
        · rw [hh] at HCN HRN
          obtain ⟨a5, c5, w5, hrun, ho, hto, hnw⟩ := own_one u32Ty Try.underlying139 HT4.out.r1 (u32C pn) (num_wide [pn]) (by rw [List.length_map]; have := HS.out.1; omega) n1 (by rw [List.length_map]; exact HS.out.1) #[.int .u32 (pn : Int)] rfl
          have HRUN := Lib.hid hrun
          have HT5 : Hid (Two 132 1 142 2 W1 a5 c5 ((cameO nx B (l.take (k + 1))).map u32C) a2 c2' ((restO nx B (l.take (k + 1))).map itCells) w5) := Lib.hid (by
            rw [HCN.out, HRN.out]
            have := HT4.out.first ho hto hnw
            simpa using this)
          clear hrun ho hto hnw HT4
          go_wp2_with (at_builtin; refine wpList_append_run _ rfl (.tmp 39) (.tmp 42) 139 139 rfl _ _ rfl rfl (.slice a5 (n1 + 1) c5) w5 HRUN.out ?_)
          go_roundw
          case rel => exact ⟨k + 1, n1 + 1, n2, a5, c5, a2, c2', by omega, by omega, by omega, rfl, rfl, by go_num, Lib.hid ⟨by rw [HCN.out]; simpa using HS.out.1, by rw [HRN.out]; simpa using HS.out.2.1, HT5.out⟩⟩
          case measure => simp [intOf] <;> omega
      · obtain rfl : k = l.length := by omega
        rw [List.take_length] at HS
        obtain ⟨hl1, hl2, htwo⟩ := HS.out
        have HT := Lib.hid htwo
        have HL1 := Lib.hid hl1
        have HL2 := Lib.hid hl2
        have b1 := (htwo.bel.cell (p := ⟨b, 1, none⟩) hbl).trans c1
        have f1 := (htwo.bel.frozen (p := ⟨b, 1, none⟩) hbl).trans HO1.out.f1
        have hb5 : b < wr.heap.size := block_lt_of_cell b1
        have hi1 : (l.length : Int) ≤ (l.length : Int) := by omega
        have HF : Hid (OAckPost w b n (cameO nx B l) (restO nx B l) (.returned (.slice a1 n1 c1')) (wr.setCell ⟨b, 1, none⟩ (.slice a2 n2 c2'))) := Lib.hid (by
          have hs1 := HA1.out.size
          have ht : Touch (fun j => j = b) wr (wr.setCell ⟨b, 1, none⟩ (.slice a2 n2 c2')) := (Touch.refl (fun j => j = b) wr).setCell (p := ⟨b, 1, none⟩) (fun _ => rfl) _
          have b0 := (htwo.bel.cell (p := ⟨b, 0, none⟩) hbl).trans HO1.out.c0
          have f0 := (htwo.bel.frozen (p := ⟨b, 0, none⟩) hbl).trans HO1.out.f0
          refine ⟨a1, c1', a2, c2', by rw [hl1], ⟨(World.cell?_setCell_other _ _ _ _ (by simp)).trans b0, by rw [hl2]; exact World.cell?_setCell_same _ _ _ b1, by simpa using f0, by simpa using f1, htwo.r2.touch ht (fun x hx e => by have := htwo.n2 x hx; omega), (fun x hx e => by have := htwo.n2 x hx; omega), HO1.out.nx⟩, ⟨(htwo.r1.touch ht (fun x hx e => by have := htwo.n1 x hx; omega)).1, fun x hx => by have := htwo.n1 x hx; omega⟩, (fun x hx => by have := htwo.n2 x hx; omega), htwo.dj, ?_⟩
          exact ((touch_of_below (S := fun j => j = b) HA1.out).trans' (touch_of_below (S := fun _ => False) htwo.bel) (fun _ _ => False.elim)).setCell (p := ⟨b, 1, none⟩) (fun _ => rfl) _)
        clear hl1 hl2 htwo
        go_wp2
        rw [← HPost.out]
        exact HF.out
theorem imade0 (W : World) (k : Nat) (hk : W.heap.size = k) : OwnV 142 2 0 (some ⟨k, 0, none⟩) 0 ([] : List (List Value)) (W.alloc (.cells #[] 142)) := by
  subst hk
  refine ⟨⟨by simp, .inr ⟨W.heap.size, 0, #[], rfl, Nat.zero_le _, ?_, Nat.le_refl _, by unfold maxLen; omega, by simp, by simp⟩⟩, fun _ _ => Nat.zero_le _⟩
  show (W.heap.push (.cells #[] 142))[W.heap.size]? = _
  simp
theorem sl_nil (w : World) : (binOp .eql 135 (.slice none 0 0) (.slice none 0 0)).run Try.prog w = .ok (.bool true) w := by kernel_rfl
theorem sl_some (x : Addr) (n c : Nat) (w : World) : (binOp .eql 135 (.slice (some x) n c) (.slice none 0 0)).run Try.prog w = .ok (.bool false) w := by kernel_rfl
def AllO (w : World) (l : List (Nat × List UInt8)) (r : Ending) (w' : World) : Prop := ∃ a c, r = .returned (.slice a l.length c) ∧ OwnV 142 2 w.heap.size a c (l.map itCells) w' ∧ Below w.heap.size w w'
set_option maxRecDepth 100000 in
theorem clone_it (a : Option Addr) (c : Nat) (l : List (Nat × List UInt8)) (w : World) (h : OwnV 142 2 0 a c (l.map itCells) w) (hl : l.length ≤ 1000) : Calls Try.prog 148 #[.slice a l.length c] w (AllO w l) := by
  generalize hpost : AllO w l = Post
  have HPost := Lib.hid hpost
  clear hpost
  cases a with
  | none =>
    have h0 : l.length = 0 ∧ c = 0 := by
      rcases h.1.2 with ⟨hv, h0⟩ | ⟨g, cap, cur, hv, -⟩
      · simp only [List.length_map] at hv h0
        simp only [Value.slice.injEq] at hv
        exact ⟨h0, hv.2.2⟩
      · simp at hv
    obtain ⟨h1, rfl⟩ := h0
    have hn : l = [] := List.eq_nil_of_length_eq_zero h1
    subst hn
    have HE : Hid (AllO w [] (.returned (.slice none 0 0)) w) := Lib.hid ⟨none, 0, rfl, ⟨World.ownsRow_nil _ _ _ _, (fun x hx => by cases hx)⟩, Below.refl _ _⟩
    simp only [List.length_nil]
    clear h h1
    have hq := sl_nil
    go_enter Try.func148, Try.ntmps148
    go_wp2
    rw [← HPost.out]
    exact HE.out
  | some x =>
    have hx : ∃ g, x = ⟨g, 0, none⟩ := by
      rcases h.1.2 with ⟨hv, -⟩ | ⟨g, cap, cur, hv, -⟩
      · simp at hv
      · simp only [Value.slice.injEq, Option.some.injEq] at hv; exact ⟨g, hv.1⟩
    obtain ⟨g, rfl⟩ := hx
    have hgl := h.lt _ rfl
    have hA : Below w.heap.size w (w.alloc (.cells #[] 142)) := bel_alloc (Below.refl _ _) _
    have hrow : ∀ i (hi : i < (l.map itCells).length) j, j < 2 → (w.alloc (.cells #[] 142)).cell? ⟨g, 0 + i * 2 + j, none⟩ = (l.map itCells)[i][j]? := fun i hi j hj => by
      have hvr := (h.touch (touch_of_below (S := fun _ => False) hA) (fun _ _ => id)).row (it_wide l) (by omega)
      obtain ⟨g', off', e1, hvc⟩ := hvr
      simp only [Option.some.injEq, Addr.mk.injEq] at e1
      obtain ⟨rfl, rfl, -⟩ := e1
      exact hvc i hi j hj
    obtain ⟨a', c', w', hrun, ho, hto, hnw⟩ := own_app itTy Try.underlying135 (imade0 w _ rfl) g 0 l.length c (l.map itCells) (it_wide l) (by simp) hrow (by simp; omega) 0 rfl
    have HRUN := Lib.hid hrun
    have HE : Hid (AllO w l (.returned (.slice a' l.length c')) w') := Lib.hid ⟨a', c', rfl, ⟨by simpa using ho.1, fun y hy => by
      rcases hnw y hy with e | e
      · simp at e; omega
      · simp at e; omega⟩, hA.trans (hto.below (by simp) (fun k hk e => by simp at e; omega))⟩
    clear h hrow hrun ho hto hnw hgl hA
    have hq := sl_some ⟨g, 0, none⟩ l.length c
    go_enter Try.func148, Try.ntmps148
    go_wp2_with (at_builtin; refine wpList_append_run _ rfl (.tmp 5) (.tmp 6) 135 135 rfl _ _ rfl rfl (.slice a' (0 + l.length) c') w' HRUN.out ?_)
    rw [← HPost.out]
    exact HE.out
theorem outAll_any (b n : Nat) (a : Option Addr) (c : Nat) (l : List (Nat × List UInt8)) (w : World) (h : OAt w b n a c l) (hl : l.length ≤ 1000) : Calls Try.prog 122 #[.pointer (some ⟨b, 0, none⟩)] w (AllO w l) := by
  have HC := Lib.hid (clone_it a c l w h.row hl)
  have c1 := h.c1
  have hbl := h.lt
  generalize hpost : AllO w l = Post at HC
  have HPost := Lib.hid hpost
  clear h hpost
  go_enter Try.func122, Try.ntmps122
  go_wp2_with fail
  refine HC.out.mono ?_
  intro r w1 hr
  rw [← HPost.out] at hr
  obtain ⟨a1, c1', rfl, ho, hb⟩ := hr
  have HE : Hid (AllO w l (.returned (.slice a1 l.length c1')) w1) := Lib.hid ⟨a1, c1', rfl, ho, hb⟩
  clear ho hb HC
  go_wp2
  rw [← HPost.out]
  exact HE.out
end Go.Proofs.Ytlhcihjplolgiaa
