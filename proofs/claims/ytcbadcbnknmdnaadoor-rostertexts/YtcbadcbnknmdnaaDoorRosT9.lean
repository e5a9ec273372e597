/-
  Layer 18: a roster, put behind other bytes; the document's texts of changes.
-/
import Derived.Test.YtcbadcbnknmdnaaDoorRosT8
import Derived.Test.YtcbadcbnknmdnaaDoorVals
namespace Go.Proofs.YtcbadcbnknmdnaaDoor
open Go.RowKit
set_option linter.unusedVariables false

theorem keepC2 {S : Nat → Prop} {W w' : World} (ht : Touch (fun k => ¬ S k) W w') {X : Nat} (hg : S X) {x y : Value} (h : W.cell? ⟨X, 0, none⟩ = some x ∧ W.cell? ⟨X, 1, none⟩ = some y) :
    w'.cell? ⟨X, 0, none⟩ = some x ∧ w'.cell? ⟨X, 1, none⟩ = some y := ⟨keep_cell ht hg h.1, keep_cell ht hg h.2⟩
theorem keepC2a {W : World} {X : Nat} {x y : Value} (o : Obj) (h : W.cell? ⟨X, 0, none⟩ = some x ∧ W.cell? ⟨X, 1, none⟩ = some y) :
    (W.alloc o).cell? ⟨X, 0, none⟩ = some x ∧ (W.alloc o).cell? ⟨X, 1, none⟩ = some y := ⟨alloc_cell h.1 o, alloc_cell h.2 o⟩
theorem keepC2d {W : World} {X : Nat} {x y : Value} (o : Obj) (h : W.drew.cell? ⟨X, 0, none⟩ = some x ∧ W.drew.cell? ⟨X, 1, none⟩ = some y) :
    (W.alloc o).drew.cell? ⟨X, 0, none⟩ = some x ∧ (W.alloc o).drew.cell? ⟨X, 1, none⟩ = some y := keepC2a (W := W) o h
set_option maxRecDepth 100000 in
set_option maxHeartbeats 4000000 in
theorem rosPut_any (K : Nat → Prop) (b : Nat) (l0 : List UInt8) (n e : Nat) (w : World) (h : OutQ K b l0 w) (hn : n < 4294967296) (he : e ≤ 1099511627776) (hl0 : l0.length ≤ 100000000) :
    Calls Tryd.prog 19 #[rosV n (e : Int), .pointer (some ⟨b, 0, none⟩)] w (PutPost K b (l0 ++ rosB n e) w) := by
  have HE : Hid (∀ L, L = l0 ++ numsB [n] ++ countsB [(e : Int)] → L = l0 ++ rosB n e) := Lib.hid (fun L h => by rw [h]; unfold rosB countsB numsB; simp [List.append_assoc])
  have HO0 := Lib.hid (h.add (.cells #[.int .u32 (n : Int), .int .i64 (e : Int)] 27))
  have HT0 := Lib.hid (touch_of_below (S := fun k => ¬ K k) (bel_alloc (Below.refl _ w) (.cells #[.int .u32 (n : Int), .int .i64 (e : Int)] 27)))
  have x0 : (w.alloc (.cells #[.int .u32 (n : Int), .int .i64 (e : Int)] 27)).cell? ⟨w.heap.size, 0, none⟩ = some (.int .u32 (n : Int)) := new_cell rfl rfl
  have x1 : (w.alloc (.cells #[.int .u32 (n : Int), .int .i64 (e : Int)] 27)).cell? ⟨w.heap.size, 1, none⟩ = some (.int .i64 (e : Int)) := new_cell rfl rfl
  have HL1 := Lib.hid (show l0.length + 10 * [n].length ≤ 1000000000 by simp; omega)
  have HN1 := Lib.hid (show ∀ x ∈ [n], x < 18446744073709551616 by intro x hx; simp at hx; omega)
  have HL2 := Lib.hid (show (l0 ++ numsB [n]).length + 10 * [(e : Int)].length ≤ 1000000000 by
    have h1 := numsB_len [n] HN1.out
    simp at h1; simp; omega)
  have HN2 := Lib.hid (show ∀ x ∈ [(e : Int)], x ≤ 9223372036854775807 by intro x hx; simp at hx; omega)
  have hw : IntKind.u64.wrap (n : Int) = (n : Int) := by rw [IntKind.wrap_u64]; omega
  unfold rosV PutPost
  clear h he hn
  go_enter Tryd.func19, Tryd.ntmps19
  go_upto_region 1 with (fail)
  generalize w.alloc (.cells #[.int .u32 (n : Int), .int .i64 (e : Int)] 27) = W0 at HO0 HT0 x0 x1 ⊢
  generalize w.heap.size = X at HO0 x0 x1 ⊢
  have hX := block_lt_of_cell x0
  simp only at hX
  go_region_held3 (fun w' => w'.cell? ⟨X, 0, none⟩ = some (.int .u32 (n : Int)) ∧ w'.cell? ⟨X, 1, none⟩ = some (.int .i64 (e : Int)))
    (first | (refine keepC2 HT2.out (.inl (.inl (.inr rfl))) ?_; assumption) | (refine keepC2 HT1.out (.inl (.inr rfl)) ?_; assumption) | (refine keepC2a _ ?_; assumption) | (refine keepC2d _ ?_; assumption) | exact ⟨x0, x1⟩)
    (first
      | (go_at_call 41; refine (outNum_q HO0.out [n] HL1.out HN1.out (by repeat' (first | exact Below.refl _ _ | refine Below.drew ?_ | refine bel_alloc ?_ _)) _ 0 1 1 rfl (intRow1 (by repeat' (first | exact new_cell (by first | rfl | (simp; done)) rfl | exact .inr ⟨by first | omega | (simp; done) | (simp; omega), by first | omega | (simp; done) | (simp; omega)⟩ | with_reducible refine drew_cell ?_ | with_reducible refine alloc_cell ?_ _))) (.inr (by first | omega | (simp; done) | (simp; omega)))).mono ?_; rintro r wA ⟨rfl, ho, ht⟩; have HO1 := Lib.hid ho; have HT1 := Lib.hid ht; clear ho ht)
      | (go_at_call 35; refine (outCount_q HO1.out [(e : Int)] HL2.out HN2.out (by repeat' (first | exact Below.refl _ _ | refine Below.drew ?_ | refine bel_alloc ?_ _)) _ 0 1 1 rfl (intRow1 (by repeat' (first | exact new_cell (by first | rfl | (simp; done)) rfl | exact .inr ⟨by first | omega | (simp; done) | (simp; omega), by first | omega | (simp; done) | (simp; omega)⟩ | exact .inl (.inr ⟨by first | omega | (simp; done) | (simp; omega), by first | omega | (simp; done) | (simp; omega)⟩) | with_reducible refine drew_cell ?_ | with_reducible refine alloc_cell ?_ _ | with_reducible refine keep_cell HT1.out ?_ ?_))) (by first | exact .inr (by first | omega | (simp; done) | (simp; omega)) | exact .inl (.inr ⟨by first | omega | (simp; done) | (simp; omega), by first | omega | (simp; done) | (simp; omega)⟩))).mono ?_; rintro r wB ⟨rfl, ho, ht⟩; have HO2 := Lib.hid ho; have HT2 := Lib.hid ht; clear ho ht))
  all_goals
    have HW := Lib.hid (show Touch (fun k => ¬ K k) w wB from (HT0.out.trans ((touchKK (wp := W0) (by repeat' (first | exact Below.refl _ _ | refine Below.drew ?_ | refine bel_alloc ?_ _)) HT1.out).mono fun k _ h1 h2 => h1 (.inl h2))).trans ((touchKK (wp := wA) (by repeat' (first | exact Below.refl _ _ | refine Below.drew ?_ | refine bel_alloc ?_ _)) HT2.out).mono fun k _ h1 h2 => h1 (.inl (.inl h2))))
    have HQ := Lib.hid (HO2.out.sub (K := K) (fun k hk => .inl (.inl (.inl hk))))
    clear HO1 HO2 HT1 HT2 x0 x1
    go_wp2
    go_end0
    refine ⟨rfl, ?_, HW.out⟩
    rw [← HE.out _ rfl]
    exact HQ.out
/-- A change's box, while only new blocks are written. -/
structure Tc3 (w : World) (X : Nat) (x y z : Value) (W : World) : Prop where
  c : W.cell? ⟨X, 0, none⟩ = some x ∧ W.cell? ⟨X, 1, none⟩ = some y ∧ W.cell? ⟨X, 2, none⟩ = some z
  bel : Below w.heap.size w W
theorem Tc3.keep {w : World} {X : Nat} {x y z : Value} {W W' : World} (h : Tc3 w X x y z W) (hb : Below W.heap.size W W') : Tc3 w X x y z W' := ⟨keep3r hb h.c, h.bel.trans (hb.mono h.bel.size)⟩
set_option maxRecDepth 100000 in
set_option maxHeartbeats 4000000 in
theorem refTextChange_any (k p : Int) (a : Option Addr) (c : Nat) (V : List Int) (w : World) (hr : IntRow .i64 w a V) (hd : ChgDom ⟨k, p, V⟩) (N : Nat) (hN : V.length = N) :
    Calls Tryd.prog 14 #[chV k p a N c] w fun r w' => r = .returned (.string (bs (chgB ⟨k, p, V⟩))) ∧ Below w.heap.size w w' := by
  subst hN
  obtain ⟨d1, d2, d3, d4, d5, d6⟩ := hd
  simp only at d1 d2 d3 d4 d5 d6
  have HR := Lib.hid (fun W (hW : Below w.heap.size w W) => hr.below hW)
  have HC1 := Lib.hid (fun W => refCount_any k W (by omega) (by omega))
  have HC2 := Lib.hid (fun W => refCount_any p W (by omega) (by omega))
  have HC3 := Lib.hid (fun W => refCount_any (V.length : Int) W (by omega) (by omega))
  have HD := Lib.hid d6
  have s1 : (bs (numB k.toNat)).size ≤ 10 := by rw [bs_size]; exact numB_ten (by omega)
  have s2 : (bs (numB p.toNat)).size ≤ 10 := by rw [bs_size]; exact numB_ten (by omega)
  have s3 : (bs (numB (V.length : Int).toNat)).size ≤ 10 := by rw [bs_size]; exact numB_ten (by omega)
  have HJ := Lib.hid (show bs (numB k.toNat) ++ bs (numB p.toNat) ++ bs (numB (V.length : Int).toNat) = bs (countsB [k, p, (V.length : Int)]) by simp [countsB, numsB, bs_append])
  have hl3 := countsB_len (ns := [k, p, (V.length : Int)]) (by intro x hx; simp at hx; omega)
  simp at hl3
  have HL3 := Lib.hid hl3
  have HE : Hid (countsB [k, p, (V.length : Int)] ++ countsB (V.take V.length) = chgB ⟨k, p, V⟩) := Lib.hid (by rw [List.take_length]; rfl)
  generalize bs (numB k.toNat) = A1 at HC1 HJ s1
  generalize bs (numB p.toNat) = A2 at HC2 HJ s2
  generalize bs (numB (V.length : Int).toNat) = A3 at HC3 HJ s3
  have u1 : ∀ W, (Op.stringOp .add A1 A2).run Tryd.prog W = .ok (.string (A1 ++ A2)) W := fun W => run_string_add_sum W _ _ (by omega)
  have u2 : ∀ W, (Op.stringOp .add (A1 ++ A2) A3).run Tryd.prog W = .ok (.string (A1 ++ A2 ++ A3)) W := fun W => run_string_add_sum W _ _ (by rw [ByteArray.size_append]; omega)
  have HM : Hid (Tc3 w w.heap.size (.int .i64 k) (.int .i64 p) (.slice a V.length c) (w.alloc (.cells #[.int .i64 k, .int .i64 p, .slice a V.length c] 47))) := Lib.hid ⟨⟨new_cell rfl rfl, new_cell rfl rfl, new_cell rfl rfl⟩, bel_alloc (Below.refl _ _) _⟩
  have hLL : V.length ≤ 32 := d5
  unfold chV
  clear hr hl3 d1 d2 d3 d4 d5 d6 s1 s2 s3
  go_enter Tryd.func14, Tryd.ntmps14
  go_upto_region 1 with (fail)
  generalize w.alloc (.cells #[.int .i64 k, .int .i64 p, .slice a V.length c] 47) = W0 at HM ⊢
  generalize w.heap.size = X at HM ⊢
  generalize hNN : V.length = N at HM HC3 HL3 HE HJ hLL ⊢
  have HNN := Lib.hid hNN
  clear hNN
  · refine wp_region_c18 (C := fun W => Tc3 w X (.int .i64 k) (.int .i64 p) (.slice a N c) W) (by kernel_rfl) (by kernel_rfl) (HM.out.keep (Below.refl _ _).drew) ?_
    repeat
      (refine wpQuiet_step (fun K hK => ?_)
       go_simp
       first
         | (refine hK _ ?_; clear hK K)
         | (apply Exists.intro
            refine ⟨fun W hW => ?_, hK _ ?_⟩
            (first
              | (go_at_call 37; first | exact (HC1.out W).mono fun r W' h => ⟨h.1, hW.keep h.2⟩ | exact (HC2.out W).mono fun r W' h => ⟨h.1, hW.keep h.2⟩ | exact (HC3.out W).mono fun r W' h => ⟨h.1, hW.keep h.2⟩)
              | (have y0 := hW.c.1; have y1 := hW.c.2.1; have y2 := hW.c.2.2; clear hW; go_simp; first | exact ⟨rfl, rfl⟩ | exact rfl | trivial))
            clear hK K))
    refine wpQuiet_nil ?_
    intro W1 hW1
    have HM1 := Lib.hid hW1
    clear hW1 HM HC1 HC2 HC3 u1 u2
    rw [HJ.out]
    have y2 := HM1.out.c.2.2
    have hX := block_lt_of_cell y2
    simp only at hX
    go_wp2
    clear hX y2
    go_loopw [3, 21] (fun s i wr => ∃ j : Nat, j ≤ N ∧ i = .int .i64 j ∧ s = .string (bs (countsB [k, p, (N : Int)] ++ countsB (V.take j))) ∧ Hid (Tc3 w X (.int .i64 k) (.int .i64 p) (.slice a N c) wr)) (fun _ i _ => N - (intOf i).toNat)
    case atStart => exact ⟨0, by omega, rfl, by simp [countsB, numsB], HM1⟩
    case round =>
      obtain ⟨j, hj, rfl, rfl, HM⟩ := hrel
      by_cases hlt : j < N
      · have hlv : j < V.length := by have := HNN.out; omega
        obtain ⟨g, off, rfl, hcell⟩ := HR.out _ HM.out.bel (by omega)
        have c0 := hcell j hlv
        have hg := block_lt_of_cell c0
        simp only at hg
        have HS := Lib.hid (countsB_snoc V j hlv)
        have hv := HD.out _ (List.getElem_mem hlv)
        have HLJ : Hid ((countsB [k, p, (N : Int)] ++ countsB (V.take j)).length ≤ 1000) := Lib.hid (by
          have h2 := countsB_len (ns := V.take j) (fun x hx => by have := HD.out x (List.mem_of_mem_take hx); omega)
          have h3 := List.length_take_le j V
          have h1 := HL3.out
          simp only [List.length_append]
          omega)
        generalize V[j] = v at c0 HS hv
        have HCV := Lib.hid (fun W => refCount_any v W (by omega) (by omega))
        have s0 : (bs (countsB [k, p, (N : Int)] ++ countsB (V.take j))).size ≤ 1000 := by rw [bs_size]; exact HLJ.out
        have s4 : (bs (numB v.toNat)).size ≤ 10 := by rw [bs_size]; exact numB_ten (by omega)
        have HJ2 := Lib.hid (show bs (countsB [k, p, (N : Int)] ++ countsB (V.take j)) ++ bs (numB v.toNat) = bs (countsB [k, p, (N : Int)] ++ countsB (V.take (j + 1))) by rw [HS.out]; simp only [bs_append, List.append_assoc])
        generalize bs (countsB [k, p, (N : Int)] ++ countsB (V.take j)) = A0 at s0 HJ2 ⊢
        generalize bs (numB v.toNat) = A4 at HCV s4 HJ2
        have u4 : ∀ W, (Op.stringOp .add A0 A4).run Tryd.prog W = .ok (.string (A0 ++ A4)) W := fun W => run_string_add_sum W _ _ (by omega)
        clear hcell hv s0 s4
        go_wp2_with fail
        refine (HCV.out _).mono ?_
        rintro r w2 ⟨rfl, hb2⟩
        have HM2 := Lib.hid (HM.out.keep hb2)
        clear hb2 HCV c0 hg
        go_wp2
        go_roundw
        case rel => exact ⟨j + 1, by omega, by go_num, by rw [HJ2.out], HM2⟩
        case measure => simp [intOf]; omega
      · obtain rfl : j = N := by omega
        have hi1 : (j : Int) ≤ (j : Int) := by omega
        have HQ := HNN.out
        subst HQ
        rw [HE.out]
        go_wp2
        go_ret
        exact ⟨rfl, HM.out.bel⟩
end Go.Proofs.YtcbadcbnknmdnaaDoor
