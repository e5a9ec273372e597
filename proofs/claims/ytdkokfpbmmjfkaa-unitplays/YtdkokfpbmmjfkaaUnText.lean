/-
  Layer 8: a table as a text.
-/
import Derived.Test.YtdkokfpbmmjfkaaUnB
namespace Go.Proofs.Ytdkokfpbmmjfkaa
open Go.RowKit
set_option linter.unusedVariables false

theorem intRow5 {k : IntKind} {w : World} {g : Nat} {x y z u v : Int} (h1 : w.cell? ⟨g, 1, none⟩ = some (.int k x)) (h2 : w.cell? ⟨g, 2, none⟩ = some (.int k y)) (h3 : w.cell? ⟨g, 3, none⟩ = some (.int k z)) (h4 : w.cell? ⟨g, 4, none⟩ = some (.int k u)) (h5 : w.cell? ⟨g, 5, none⟩ = some (.int k v)) : IntRow k w (some ⟨g, 1, none⟩) [x, y, z, u, v] := fun _ => ⟨g, 1, rfl, fun i hi => by
  have e : i = 0 ∨ i = 1 ∨ i = 2 ∨ i = 3 ∨ i = 4 := by simp at hi; omega
  rcases e with rfl | rfl | rfl | rfl | rfl
  · exact h1
  · exact h2
  · exact h3
  · exact h4
  · exact h5⟩
/-- Six cells of a box. -/
def Six (Y : Nat) (u0 u1 u2 u3 u4 u5 : Int) (W : World) : Prop := W.cell? ⟨Y, 0, none⟩ = some (.int .i64 u0) ∧ W.cell? ⟨Y, 1, none⟩ = some (.int .i64 u1) ∧ W.cell? ⟨Y, 2, none⟩ = some (.int .i64 u2) ∧ W.cell? ⟨Y, 3, none⟩ = some (.int .i64 u3) ∧ W.cell? ⟨Y, 4, none⟩ = some (.int .i64 u4) ∧ W.cell? ⟨Y, 5, none⟩ = some (.int .i64 u5)
theorem Six.keep {S : Nat → Prop} {Y : Nat} {u0 u1 u2 u3 u4 u5 : Int} {W w' : World} (ht : Touch (fun k => ¬ S k) W w') (hg : S Y) (h : Six Y u0 u1 u2 u3 u4 u5 W) : Six Y u0 u1 u2 u3 u4 u5 w' :=
  ⟨keep_cell ht hg h.1, keep_cell ht hg h.2.1, keep_cell ht hg h.2.2.1, keep_cell ht hg h.2.2.2.1, keep_cell ht hg h.2.2.2.2.1, keep_cell ht hg h.2.2.2.2.2⟩
theorem Six.alloc {Y : Nat} {u0 u1 u2 u3 u4 u5 : Int} {W : World} (o : Obj) (h : Six Y u0 u1 u2 u3 u4 u5 W) : Six Y u0 u1 u2 u3 u4 u5 (W.alloc o) :=
  ⟨alloc_cell h.1 o, alloc_cell h.2.1 o, alloc_cell h.2.2.1 o, alloc_cell h.2.2.2.1 o, alloc_cell h.2.2.2.2.1 o, alloc_cell h.2.2.2.2.2 o⟩
theorem Six.row {Y : Nat} {u0 u1 u2 u3 u4 u5 : Int} {W : World} (h : Six Y u0 u1 u2 u3 u4 u5 W) : IntRow .i64 W (some ⟨Y, 1, none⟩) [u1, u2, u3, u4, u5] := intRow5 h.2.1 h.2.2.1 h.2.2.2.1 h.2.2.2.2.1 h.2.2.2.2.2
theorem unB_len {last : Int} {u : Un} (h1 : u.id - last < 18446744073709551616) (hm : UnMay u) : (unB last u).length ≤ 60 := by
  have e2 := numsB_len [(u.id - last).toNat] (by intro x hx; simp at hx; omega)
  have e3 := intsB_len2 (ns := u.ints.tail) (by
    obtain ⟨m0, m1, m2, m3, m4⟩ := hm
    simp [mayN] at m0 m1 m2 m3 m4
    intro x hx
    simp [Un.ints] at hx
    unfold B64
    rcases hx with rfl | rfl | rfl | rfl | rfl <;> omega)
  have e4 : u.ints.tail.length = 5 := rfl
  unfold unB
  simp only [List.length_append]
  rw [e4] at e3
  simp at e2
  omega
theorem unsB_len {us : List Un} {g : Int} (h : TabOk us g) (k : Nat) (hk : k ≤ us.length) : (unsB 0 (us.take k)).length ≤ 60 * k := by
  induction k with
  | zero => simp [unsB]
  | succ k ih =>
    have h1 := ih (by omega)
    have h2 := lastId_lt h k (by omega)
    have h3 := h.2.2.1 _ (List.getElem_mem (show k < us.length by omega))
    have h4 := unB_len (last := lastId 0 (us.take k)) (u := us[k]) (by have := h.2.2.2.2; omega) h3.2.2
    rw [unsB_snoc us k (by omega), List.length_append]
    omega
set_option maxRecDepth 100000 in
set_option maxHeartbeats 4000000 in
theorem tabText_any {K : Nat → Prop} (b : Nat) (us : List Un) (g : Int) (w : World) (h : TabQ K b us g w) :
    Calls Try.prog 23 #[.pointer (some ⟨b, 0, none⟩)] w fun r w' => r = .returned (.string (bs (tabB us g))) ∧ Below w.heap.size w w' := by
  have HNX := Lib.hid (fun (W : World) (hb : Below w.heap.size w W) => tabNext_any b us g W (h.below hb))
  obtain ⟨⟨a, c, h1, -⟩, -, hok⟩ := h
  have c0 := h1.c0
  have HOK := Lib.hid hok
  have HAT := Lib.hid h1
  have HST := Lib.hid (OutQ.start (K := fun k => k < w.heap.size) w 93 (fun k hk => hk))
  have hbl := block_lt_of_cell c0
  simp only at hbl
  clear h1 hok
  have y0 : (w.alloc (.cells #[.slice none 0 0] 93)).cell? ⟨b, 0, none⟩ = some (.slice a us.length c) := alloc_cell c0 _
  have hg0 := HOK.out.2.2.2.1
  have hg1 := HOK.out.2.2.2.2
  have hwu : IntKind.u64.wrap (g + 1) = g + 1 := by rw [IntKind.wrap_u64]; omega
  have HU := Lib.hid (show (((g + 1).toNat : Nat) : Int) = g + 1 by omega)
  have h64 := HOK.out.1
  generalize hul : us.length = n at c0 y0 h64
  have HN := Lib.hid hul
  clear hul
  have HN1 := Lib.hid (show ∀ x ∈ [(g + 1).toNat], x < 18446744073709551616 by intro x hx; simp at hx; omega)
  have HL1 := Lib.hid (show ([] : List UInt8).length + 10 * [(g + 1).toNat].length ≤ 1000000000 by simp)
  have HN2 := Lib.hid (show ∀ x ∈ [(n : Int)], x ≤ 9223372036854775807 by intro x hx; simp at hx; omega)
  have HL2 := Lib.hid (show ([] ++ numsB [(g + 1).toNat]).length + 10 * [(n : Int)].length ≤ 1000000000 by
    have h2 := numsB_len [(g + 1).toNat] HN1.out
    simp at h2; simp; omega)
  have HB0 := Lib.hid (bel_alloc (Below.refl _ w) (.cells #[.slice none 0 0] 93))
  go_enter Try.func23, Try.ntmps23
  go_wp2_with fail
  have hX : w.heap.size < (w.alloc (.cells #[.slice none 0 0] 93)).heap.size := by simp
  generalize w.alloc (.cells #[.slice none 0 0] 93) = W0 at HST HB0 y0 hX ⊢
  have HSZ := Lib.hid HB0.out.size
  go_region_held3 (fun w' => w'.cell? ⟨b, 0, none⟩ = some (.slice a n c))
    (first | (refine keep_cell HT2.out (.inl (.inl hbl)) ?_; assumption) | (refine keep_cell HT1.out (.inl hbl) ?_; assumption) | (refine alloc_cell ?_ _; assumption) | (refine drew_cell (alloc_cell ?_ _); assumption) | exact y0)
    (first
      | (go_at_call 53; refine (HNX.out _ (by repeat' (first | exact HB0.out | refine Below.drew ?_ | refine bel_alloc ?_ _))).mono ?_; rintro r wK ⟨rfl, rfl⟩)
      | (go_at_call 68; refine (outNum_q HST.out [(g + 1).toNat] HL1.out HN1.out (by repeat' (first | exact Below.refl _ _ | refine Below.drew ?_ | refine bel_alloc ?_ _)) _ 0 1 1 rfl (intRow1 (by show _ = some (Value.int .u64 (((g + 1).toNat : Nat) : Int)); rw [HU.out]; repeat' (first | exact new_cell (by first | rfl | (simp; done)) rfl | exact .inr ⟨by first | omega | (simp; done) | (simp; omega), by first | omega | (simp; done) | (simp; omega)⟩ | exact .inl (.inr ⟨by first | omega | (simp; done) | (simp; omega), by first | omega | (simp; done) | (simp; omega)⟩) | with_reducible refine drew_cell ?_ | with_reducible refine alloc_cell ?_ _ | with_reducible refine keep_cell HT1.out ?_ ?_))) (.inr (by first | omega | (simp; done) | (simp; omega)))).mono ?_; rintro r wA ⟨rfl, ho, ht⟩; have HO1 := Lib.hid ho; have HT1 := Lib.hid ht; clear ho ht)
      | (go_at_call 69; refine (outCount_q HO1.out [(n : Int)] HL2.out HN2.out (by repeat' (first | exact Below.refl _ _ | refine Below.drew ?_ | refine bel_alloc ?_ _)) _ 0 1 1 rfl (intRow1 (by repeat' (first | exact new_cell (by first | rfl | (simp; done)) rfl | exact .inr ⟨by first | omega | (simp; done) | (simp; omega), by first | omega | (simp; done) | (simp; omega)⟩ | exact .inl (.inr ⟨by first | omega | (simp; done) | (simp; omega), by first | omega | (simp; done) | (simp; omega)⟩) | with_reducible refine drew_cell ?_ | with_reducible refine alloc_cell ?_ _ | with_reducible refine keep_cell HT1.out ?_ ?_))) (by first | exact .inr (by first | omega | (simp; done) | (simp; omega)) | exact .inl (.inr ⟨by first | omega | (simp; done) | (simp; omega), by first | omega | (simp; done) | (simp; omega)⟩))).mono ?_; rintro r wB ⟨rfl, ho, ht⟩; have HO2 := Lib.hid ho; have HT2 := Lib.hid ht; clear ho ht))
  all_goals
    have HW := Lib.hid (show Touch (fun k => ¬ k < w.heap.size) W0 wB from (touchKK (K := fun k => k < w.heap.size) (wp := W0) (by repeat' (first | exact Below.refl _ _ | refine Below.drew ?_ | refine bel_alloc ?_ _)) HT1.out).trans (touchKK (K := fun k => k < w.heap.size) (wp := wA) (by repeat' (first | exact Below.refl _ _ | refine Below.drew ?_ | refine bel_alloc ?_ _)) (HT2.out.mono fun k _ h1 h2 => h1 (h2.elim (fun h => .inl (.inl h)) .inr))))
    have HBB := Lib.hid (HB0.out.trans (HW.out.below HSZ.out (fun k hk h => h hk)))
    have HQ := Lib.hid (HO2.out.sub (K := fun k => k < w.heap.size) (fun k hk => .inl (.inl hk)))
    have HROW := Lib.hid (show UnRow w a us from RecRow.of_own (unsI_wide us) (by decide) (by rw [unsI_len]; exact HAT.out.row))
    clear HO1 HO2 HT1 HT2 HW HNX HAT HSZ HB0 HST HL1 HL2 HN1 HN2 y0
    generalize W0.heap.size = s1
    generalize wA.heap.size = s2
    rw [List.nil_append] at HQ
    go_wp2
    go_loopw [4, 24] (fun av iv wr => ∃ k : Nat, k ≤ n ∧ iv = .int .i64 k ∧ av = .int .i64 (lastId 0 (us.take k)) ∧ Hid (OutQ (fun k => k < w.heap.size) w.heap.size (numsB [(g + 1).toNat] ++ countsB [(n : Int)] ++ unsB 0 (us.take k)) wr) ∧ Hid (Below w.heap.size w wr)) (fun _ iv _ => n - (intOf iv).toNat)
    case atStart => exact ⟨0, by omega, rfl, by simp [lastId], Lib.hid (by simpa [unsB] using HQ.out), HBB⟩
    case round =>
      obtain ⟨k, hk, rfl, rfl, HO, HB⟩ := hrel
      by_cases hlt : k < n
      · have hlu : k < us.length := by rw [HN.out]; exact hlt
        have HS := Lib.hid (unsB_snoc us k hlu)
        have HLI := Lib.hid (lastId_snoc us k hlu)
        have HLT := Lib.hid (lastId_lt HOK.out k hlu)
        have HUK := Lib.hid (HOK.out.2.2.1 _ (List.getElem_mem hlu))
        have HLN : Hid ((numsB [(g + 1).toNat] ++ countsB [(n : Int)] ++ unsB 0 (us.take k)).length ≤ 5000) := Lib.hid (by
          have h1 := numsB_len [(g + 1).toNat] (by intro x hx; simp at hx; omega)
          have h2 := countsB_len (ns := [(n : Int)]) (by intro x hx; simp at hx; omega)
          have h3 := unsB_len HOK.out k (by omega)
          simp only [List.length_append]
          simp at h1 h2
          omega)
        obtain ⟨gb, off, rfl, hgb, c0', c1, c2, c3, c4, c5⟩ := (HROW.out.below HB.out).at hlu
        generalize us[k] = u at c0' c1 c2 c3 c4 c5 HS HLI HLT HUK
        generalize hla : lastId 0 (us.take k) = la at HS HLT ⊢
        clear hla
        obtain ⟨u0, u1, u2, u3, u4, u5⟩ := u
        simp only at c0' c1 c2 c3 c4 c5
        have b0 := HLT.out
        have b1 := HUK.out.2.1
        simp only at b0 b1
        have hwi : IntKind.i64.wrap (u0 - la) = u0 - la := by rw [IntKind.wrap_i64]; omega
        have hwv : IntKind.u64.wrap (u0 - la) = u0 - la := by rw [IntKind.wrap_u64]; omega
        have HU2 := Lib.hid (show (((u0 - la).toNat : Nat) : Int) = u0 - la by omega)
        have hk0 : (0 : Int) ≤ (k : Int) := by omega
        have hk1 : (k : Int) < (n : Int) := by omega
        have HN3 := Lib.hid (show ∀ x ∈ [(u0 - la).toNat], x < 18446744073709551616 by intro x hx; simp at hx; omega)
        have HN4 := Lib.hid (show ∀ x ∈ [u1, u2, u3, u4, u5], -9223372036854775808 ≤ x ∧ x ≤ 9223372036854775807 by
          obtain ⟨m0, m1, m2, m3, m4⟩ := HUK.out.2.2
          simp [mayN] at m0 m1 m2 m3 m4
          intro x hx
          simp at hx
          rcases hx with rfl | rfl | rfl | rfl | rfl <;> omega)
        generalize hLE : numsB [(g + 1).toNat] ++ countsB [(n : Int)] ++ unsB 0 (us.take k) = L at HO HLN
        have HLE := Lib.hid hLE
        clear hLE b0 b1
        have HL3 := Lib.hid (show L.length + 10 * [(u0 - la).toNat].length ≤ 1000000000 by have := HLN.out; simp; omega)
        have HL4 := Lib.hid (show (L ++ numsB [(u0 - la).toNat]).length + 10 * [u1, u2, u3, u4, u5].length ≤ 1000000000 by
          have := HLN.out; have h2 := numsB_len [(u0 - la).toNat] HN3.out; simp at h2; simp; omega)
        go_upto_region 7 with (fail)
        have HO0 := Lib.hid (HO.out.add (.cells #[.int .i64 u0, .int .i64 u1, .int .i64 u2, .int .i64 u3, .int .i64 u4, .int .i64 u5] 35))
        have HBW := Lib.hid (bel_alloc (Below.refl _ wr) (.cells #[.int .i64 u0, .int .i64 u1, .int .i64 u2, .int .i64 u3, .int .i64 u4, .int .i64 u5] 35))
        have HSX : Six wr.heap.size u0 u1 u2 u3 u4 u5 (wr.alloc (.cells #[.int .i64 u0, .int .i64 u1, .int .i64 u2, .int .i64 u3, .int .i64 u4, .int .i64 u5] 35)) := ⟨by simp, by simp, by simp, by simp, by simp, by simp⟩
        clear HO c0' c1 c2 c3 c4 c5
        generalize wr.alloc (.cells #[.int .i64 u0, .int .i64 u1, .int .i64 u2, .int .i64 u3, .int .i64 u4, .int .i64 u5] 35) = W1 at HO0 HBW HSX ⊢
        generalize hY : wr.heap.size = Y at HO0 HSX ⊢
        have HY := Lib.hid hY
        clear hY
        have x0 := HSX.1
        go_region_held3 (fun w' => w'.cell? ⟨Y, 0, none⟩ = some (.int .i64 u0) ∧ w'.cell? ⟨Y, 1, none⟩ = some (.int .i64 u1) ∧ w'.cell? ⟨Y, 2, none⟩ = some (.int .i64 u2) ∧ w'.cell? ⟨Y, 3, none⟩ = some (.int .i64 u3) ∧ w'.cell? ⟨Y, 4, none⟩ = some (.int .i64 u4) ∧ w'.cell? ⟨Y, 5, none⟩ = some (.int .i64 u5))
          (first | (refine Six.keep HT2.out (.inl (.inl (.inr rfl))) ?_; assumption) | (refine Six.keep HT1.out (.inl (.inr rfl)) ?_; assumption) | (refine Six.alloc _ ?_; assumption) | (refine Six.alloc (W := World.drew _) _ ?_; assumption) | exact HSX)
          (first
            | (go_at_call 68; refine (outNum_q HO0.out [(u0 - la).toNat] HL3.out HN3.out (by repeat' (first | exact Below.refl _ _ | refine Below.drew ?_ | refine bel_alloc ?_ _)) _ 0 1 1 rfl (intRow1 (by show _ = some (Value.int .u64 (((u0 - la).toNat : Nat) : Int)); rw [HU2.out]; repeat' (first | exact new_cell (by first | rfl | (simp; done)) rfl | exact .inr ⟨by first | omega | (simp; done) | (simp; omega), by first | omega | (simp; done) | (simp; omega)⟩ | exact .inl (.inr ⟨by first | omega | (simp; done) | (simp; omega), by first | omega | (simp; done) | (simp; omega)⟩) | with_reducible refine drew_cell ?_ | with_reducible refine alloc_cell ?_ _ | with_reducible refine keep_cell HT1.out ?_ ?_))) (.inr (by first | omega | (simp; done) | (simp; omega)))).mono ?_; rintro r wA ⟨rfl, ho, ht⟩; have HO1 := Lib.hid ho; have HT1 := Lib.hid ht; clear ho ht)
            | (go_at_call 70; refine (outInt_q HO1.out [u1, u2, u3, u4, u5] HL4.out HN4.out (by repeat' (first | exact Below.refl _ _ | refine Below.drew ?_ | refine bel_alloc ?_ _)) Y 1 5 5 rfl (Six.row (u0 := u0) (by assumption)) (.inl (.inl (.inr rfl)))).mono ?_; rintro r wB ⟨rfl, ho, ht⟩; have HO2 := Lib.hid ho; have HT2 := Lib.hid ht; clear ho ht))
        all_goals
          have x0' : wB.cell? ⟨Y, 0, none⟩ = some (.int .i64 u0) := (show Six Y u0 u1 u2 u3 u4 u5 wB by assumption).1
          have hYl := block_lt_of_cell x0'
          simp only at hYl
          have HW := Lib.hid (show Touch (fun k => ¬ k < w.heap.size) W1 wB from (touchKK (K := fun k => k < w.heap.size) (wp := W1) (by repeat' (first | exact Below.refl _ _ | refine Below.drew ?_ | refine bel_alloc ?_ _)) (HT1.out.mono fun k _ h1 h2 => h1 (h2.elim (fun h => .inl (.inl h)) .inr))).trans
            (touchKK (K := fun k => k < w.heap.size) (wp := wA) (by repeat' (first | exact Below.refl _ _ | refine Below.drew ?_ | refine bel_alloc ?_ _)) (HT2.out.mono fun k _ h1 h2 => h1 (h2.elim (fun h => .inl (.inl (.inl h))) .inr))))
          have HQ2 := Lib.hid (HO2.out.sub (K := fun k => k < w.heap.size) (fun k hk => .inl (.inl (.inl hk))))
          have HB2 := Lib.hid (HB.out.trans ((HBW.out.mono HB.out.size).trans (HW.out.below (by have := HB.out.size; have := HBW.out.size; omega) (fun k hk h => h hk))))
          clear HO1 HO2 HT1 HT2 HW HO0 HBW
          go_wp2
          go_roundw
          case rel => exact ⟨k + 1, by omega, by go_num, by rw [HLI.out], Lib.hid (by rw [HS.out, ← List.append_assoc, HLE.out]; unfold unB; rw [← List.append_assoc]; exact HQ2.out), HB2⟩
          case measure => simp [intOf]; omega
      · obtain rfl : k = n := by omega
        have HE := Lib.hid (show numsB [(g + 1).toNat] ++ countsB [(k : Int)] ++ unsB 0 (us.take k) = tabB us g by unfold tabB; rw [HN.out, ← HN.out, List.take_length])
        rw [HE.out] at HO
        have HTX := Lib.hid (outText_q HO.out)
        go_wp2_with fail
        refine HTX.out.mono ?_
        rintro r w2 ⟨rfl, rfl⟩
        go_wp2
        go_ret
        exact ⟨rfl, HB.out⟩
end Go.Proofs.Ytdkokfpbmmjfkaa
