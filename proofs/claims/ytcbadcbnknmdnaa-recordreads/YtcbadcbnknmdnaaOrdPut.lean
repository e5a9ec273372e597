/-
  Layer 9: a batch's bytes.
-/
import Derived.Test.YtcbadcbnknmdnaaVals
import Derived.Deep.RegionHeld3
namespace Go.Proofs.Ytcbadcbnknmdnaa
open Go.RowKit
set_option linter.unusedVariables false

/-- An order whose numbers can be written. -/
def OrdIn (o : Ord) : Prop := 0 ≤ o.kind ∧ o.kind ≤ 4 ∧ 0 ≤ o.unit ∧ o.unit ≤ 1099511627776 ∧ B64 o.a ∧ B64 o.b
def ordB (o : Ord) : List UInt8 := countsB [o.kind] ++ numsB [o.unit.toNat] ++ intsB [o.a, o.b]
def ordsB (l : List Ord) : List UInt8 := (l.map ordB).flatten
def batchB (l : List Ord) : List UInt8 := countsB [(l.length : Int)] ++ ordsB l
theorem ordsB_snoc (l : List Ord) (k : Nat) (h : k < l.length) : ordsB (l.take (k + 1)) = ordsB (l.take k) ++ ordB l[k] := by
  unfold ordsB; rw [List.take_succ_eq_append_getElem h, List.map_append, List.flatten_append]; simp
theorem intsB_len2 {ns : List Int} (h : ∀ x ∈ ns, B64 x) : (intsB ns).length ≤ 10 * ns.length := by
  have := numsB_len (ns.map zig) (by intro n hn; simp only [List.mem_map] at hn; obtain ⟨a, ha, rfl⟩ := hn; exact zig_lt (h a ha).1 (h a ha).2)
  simpa [intsB] using this
theorem ordB_len {o : Ord} (h : OrdIn o) : (ordB o).length ≤ 40 := by
  obtain ⟨h1, h2, h3, h4, h5, h6⟩ := h
  have e1 := countsB_len (ns := [o.kind]) (by intro x hx; simp at hx; omega)
  have e2 := numsB_len [o.unit.toNat] (by intro x hx; simp at hx; omega)
  have e3 := intsB_len2 (ns := [o.a, o.b]) (by intro x hx; simp at hx; rcases hx with rfl | rfl; exact h5; exact h6)
  unfold ordB
  simp only [List.length_append]
  simp at e1 e2 e3
  omega
theorem ordsB_len {l : List Ord} (h : ∀ o ∈ l, OrdIn o) : (ordsB l).length ≤ 40 * l.length := by
  induction l with
  | nil => simp [ordsB]
  | cons x l ih =>
    have h1 := ordB_len (h x (by simp))
    have h2 := ih (fun y hy => h y (by simp [hy]))
    simp only [ordsB, List.map_cons, List.flatten_cons, List.length_append, List.length_cons] at h2 ⊢
    omega
theorem keepX {S : Nat → Prop} {W w' : World} (ht : Touch (fun k => ¬ S k) W w') {X : Nat} (hg : S X) {x y z u : Value} (h : W.cell? ⟨X, 0, none⟩ = some x ∧ W.cell? ⟨X, 1, none⟩ = some y ∧ W.cell? ⟨X, 2, none⟩ = some z ∧ W.cell? ⟨X, 3, none⟩ = some u) :
    w'.cell? ⟨X, 0, none⟩ = some x ∧ w'.cell? ⟨X, 1, none⟩ = some y ∧ w'.cell? ⟨X, 2, none⟩ = some z ∧ w'.cell? ⟨X, 3, none⟩ = some u :=
  ⟨keep_cell ht hg h.1, keep_cell ht hg h.2.1, keep_cell ht hg h.2.2.1, keep_cell ht hg h.2.2.2⟩
theorem keepXa {W : World} {X : Nat} {x y z u : Value} (o : Obj) (h : W.cell? ⟨X, 0, none⟩ = some x ∧ W.cell? ⟨X, 1, none⟩ = some y ∧ W.cell? ⟨X, 2, none⟩ = some z ∧ W.cell? ⟨X, 3, none⟩ = some u) :
    (W.alloc o).cell? ⟨X, 0, none⟩ = some x ∧ (W.alloc o).cell? ⟨X, 1, none⟩ = some y ∧ (W.alloc o).cell? ⟨X, 2, none⟩ = some z ∧ (W.alloc o).cell? ⟨X, 3, none⟩ = some u :=
  ⟨alloc_cell h.1 o, alloc_cell h.2.1 o, alloc_cell h.2.2.1 o, alloc_cell h.2.2.2 o⟩
theorem keepXd {W : World} {X : Nat} {x y z u : Value} (o : Obj) (h : W.drew.cell? ⟨X, 0, none⟩ = some x ∧ W.drew.cell? ⟨X, 1, none⟩ = some y ∧ W.drew.cell? ⟨X, 2, none⟩ = some z ∧ W.drew.cell? ⟨X, 3, none⟩ = some u) :
    (W.alloc o).drew.cell? ⟨X, 0, none⟩ = some x ∧ (W.alloc o).drew.cell? ⟨X, 1, none⟩ = some y ∧ (W.alloc o).drew.cell? ⟨X, 2, none⟩ = some z ∧ (W.alloc o).drew.cell? ⟨X, 3, none⟩ = some u := keepXa (W := W) o h
theorem touchKK {K : Nat → Prop} {wp W w' : World} (hb : Below wp.heap.size wp W) (h : Touch (fun k => ¬ KK K wp W k) W w') : Touch (fun k => ¬ K k) wp w' :=
  (touch_of_below hb).trans (h.mono fun k _ h1 h2 => h1 (.inl h2))
set_option maxRecDepth 100000 in
set_option maxHeartbeats 4000000 in
theorem ordPut_any (K : Nat → Prop) (b : Nat) (l0 : List UInt8) (a : Option Addr) (c : Nat) (l : List Ord) (w : World) (h : OutQ K b l0 w) (hr : OrdRow w a l) (ha : 0 < l.length → ∀ x, a = some x → K x.block) (hd : ∀ o ∈ l, OrdIn o) (hlen : l.length ≤ 8) (hl0 : l0.length ≤ 100000000) :
    Calls Try.prog 57 #[.slice a l.length c, .pointer (some ⟨b, 0, none⟩)] w fun r w' => r = .returned (.tuple #[]) ∧ OutQ K b (l0 ++ batchB l) w' ∧ Touch (fun k => ¬ K k) w w' := by
  have HR := Lib.hid hr
  have HA := Lib.hid ha
  have HD := Lib.hid hd
  have HC := Lib.hid (outCount_q h [(l.length : Int)] (by simp; omega) (by intro x hx; simp at hx; omega) ((Below.refl _ w).alloc (Nat.le_refl _) (.cells #[.int .i64 (l.length : Int)] 3)) w.heap.size 0 1 1 rfl (intRow1 (by simp)) (.inr (Nat.le_refl _)))
  have HN := Lib.hid h.not
  clear hr ha hd h
  go_enter Try.func57, Try.ntmps57
  go_wp2_with fail
  refine HC.out.mono ?_
  rintro r w1 ⟨rfl, ho1, ht1⟩
  have HOa := Lib.hid (ho1.sub (K := K) (fun k hk => .inl hk))
  have HTa := Lib.hid (touchKK ((Below.refl _ w).alloc (Nat.le_refl _) _) ht1)
  clear ho1 ht1 HC
  go_wp2
  go_loopw [13] (fun i wr => ∃ k : Nat, k ≤ l.length ∧ i = .int .i64 k ∧ Hid (OutQ K b (l0 ++ countsB [(l.length : Int)] ++ ordsB (l.take k)) wr) ∧ Hid (Touch (fun k => ¬ K k) w wr)) (fun i _ => l.length - (intOf i).toNat)
  case atStart => exact ⟨0, by omega, rfl, Lib.hid (by simpa [ordsB] using HOa.out), HTa⟩
  case round =>
    obtain ⟨k, hk, rfl, HO, HT⟩ := hrel
    by_cases hlt : k < l.length
    · have HS := Lib.hid (ordsB_snoc l k hlt)
      have HLN : Hid ((l0 ++ countsB [(l.length : Int)] ++ ordsB (l.take k)).length ≤ 100001000) := Lib.hid (by
        have h1 := countsB_len (ns := [(l.length : Int)]) (by intro x hx; simp at hx; omega)
        have h2 := ordsB_len (l := l.take k) (fun f hf => HD.out f (List.mem_of_mem_take hf))
        have h3 := List.length_take_le k l
        simp only [List.length_append]
        simp at h1
        omega)
      obtain ⟨g, off, rfl, hg, c0, c1, c2, c3⟩ := HR.out.at hlt
      have hKg := HA.out (by omega) _ rfl
      have kc : ∀ j v, w.cell? ⟨g, j, none⟩ = some v → wr.cell? ⟨g, j, none⟩ = some v := fun j v hv => keep_cell HT.out hKg hv
      replace c0 := kc _ _ c0
      replace c1 := kc _ _ c1
      replace c2 := kc _ _ c2
      replace c3 := kc _ _ c3
      have hgr : g < wr.heap.size := block_lt_of_cell c0
      have HI := Lib.hid (HD.out _ (List.getElem_mem hlt))
      generalize l[k] = o at c0 c1 c2 c3 HS HI
      obtain ⟨ok, ou, oa, ob⟩ := o
      simp only at c0 c1 c2 c3
      have hwu : IntKind.u64.wrap ou = ou := by have h3 := HI.out.2.2.1; have h4 := HI.out.2.2.2.1; simp at h3 h4; rw [IntKind.wrap_u64]; omega
      have HU := Lib.hid (show ((ou.toNat : Nat) : Int) = ou by have h3 := HI.out.2.2.1; simp at h3; omega)
      clear kc hKg hg
      go_upto_region 4 with (fail)
      have HO0 := Lib.hid (HO.out.add (.cells #[.int .i64 ok, .int .i64 ou, .int .i64 oa, .int .i64 ob] 158))
      have HBW := Lib.hid ((Below.refl _ wr).alloc (Nat.le_refl _) (.cells #[.int .i64 ok, .int .i64 ou, .int .i64 oa, .int .i64 ob] 158))
      have x0 : (wr.alloc (.cells #[.int .i64 ok, .int .i64 ou, .int .i64 oa, .int .i64 ob] 158)).cell? ⟨wr.heap.size, 0, none⟩ = some (.int .i64 ok) := by simp
      have x1 : (wr.alloc (.cells #[.int .i64 ok, .int .i64 ou, .int .i64 oa, .int .i64 ob] 158)).cell? ⟨wr.heap.size, 1, none⟩ = some (.int .i64 ou) := by simp
      have x2 : (wr.alloc (.cells #[.int .i64 ok, .int .i64 ou, .int .i64 oa, .int .i64 ob] 158)).cell? ⟨wr.heap.size, 2, none⟩ = some (.int .i64 oa) := by simp
      have x3 : (wr.alloc (.cells #[.int .i64 ok, .int .i64 ou, .int .i64 oa, .int .i64 ob] 158)).cell? ⟨wr.heap.size, 3, none⟩ = some (.int .i64 ob) := by simp
      generalize wr.alloc (.cells #[.int .i64 ok, .int .i64 ou, .int .i64 oa, .int .i64 ob] 158) = W0 at HO0 HBW x0 x1 x2 x3 ⊢
      generalize hX : wr.heap.size = X at HO0 x0 x1 x2 x3 ⊢
      have HX := Lib.hid hX
      clear hX
      generalize hLE : l0 ++ countsB [(l.length : Int)] ++ ordsB (l.take k) = L at HO0 HLN
      have HLE := Lib.hid hLE
      clear hLE
      clear c0 c1 c2 c3 HO
      have HL1 := Lib.hid (show L.length + 10 * [ok].length ≤ 1000000000 by have := HLN.out; simp; omega)
      have HL2 := Lib.hid (show (L ++ countsB [ok]).length + 10 * [ou.toNat].length ≤ 1000000000 by
        have := HLN.out; have h1 := countsB_len (ns := [ok]) (by intro x hx; have := HI.out.2.1; simp at hx this; omega); simp at h1; simp; omega)
      have HL3 := Lib.hid (show (L ++ countsB [ok] ++ numsB [ou.toNat]).length + 10 * [oa, ob].length ≤ 1000000000 by
        have := HLN.out; have h1 := countsB_len (ns := [ok]) (by intro x hx; have := HI.out.2.1; simp at hx this; omega)
        have h2 := numsB_len [ou.toNat] (by intro x hx; have := HI.out.2.2.2.1; simp at hx this; omega); simp at h1 h2; simp; omega)
      have HN1 := Lib.hid (show ∀ x ∈ [ok], x ≤ 9223372036854775807 by intro x hx; have := HI.out.2.1; simp at hx this; omega)
      have HN2 := Lib.hid (show ∀ x ∈ [ou.toNat], x < 18446744073709551616 by intro x hx; have := HI.out.2.2.2.1; simp at hx this; omega)
      have HN3 := Lib.hid (show ∀ x ∈ [oa, ob], -9223372036854775808 ≤ x ∧ x ≤ 9223372036854775807 by intro x hx; simp at hx; rcases hx with rfl | rfl; exact HI.out.2.2.2.2.1; exact HI.out.2.2.2.2.2)
      go_region_held3 (fun w' => w'.cell? ⟨X, 0, none⟩ = some (.int .i64 ok) ∧ w'.cell? ⟨X, 1, none⟩ = some (.int .i64 ou) ∧ w'.cell? ⟨X, 2, none⟩ = some (.int .i64 oa) ∧ w'.cell? ⟨X, 3, none⟩ = some (.int .i64 ob))
        (first | (refine keepX HT3.out (.inl (.inl (.inl (.inr rfl)))) ?_; assumption) | (refine keepX HT2.out (.inl (.inl (.inr rfl))) ?_; assumption) | (refine keepX HT1.out (.inl (.inr rfl)) ?_; assumption) | (refine keepXa _ ?_; assumption) | (refine keepXd _ ?_; assumption) | exact ⟨x0, x1, x2, x3⟩)
        (first
          | (go_at_call 55; refine (outCount_q HO0.out [ok] HL1.out HN1.out (by repeat' (first | exact Below.refl _ _ | refine Below.drew ?_ | refine bel_alloc ?_ _)) _ 0 1 1 rfl (intRow1 (by repeat' (first | exact new_cell (by first | rfl | (simp; done)) rfl | exact .inr ⟨by first | omega | (simp; done) | (simp; omega), by first | omega | (simp; done) | (simp; omega)⟩ | exact .inl (.inr ⟨by first | omega | (simp; done) | (simp; omega), by first | omega | (simp; done) | (simp; omega)⟩) | with_reducible refine drew_cell ?_ | with_reducible refine alloc_cell ?_ _ | with_reducible refine keep_cell HT2.out ?_ ?_ | with_reducible refine keep_cell HT1.out ?_ ?_))) (.inr (by first | omega | (simp; done) | (simp; omega)))).mono ?_; rintro r wA ⟨rfl, ho, ht⟩; have HO1 := Lib.hid ho; have HT1 := Lib.hid ht; clear ho ht)
          | (go_at_call 79; refine (outNum_q HO1.out [ou.toNat] HL2.out HN2.out (by repeat' (first | exact Below.refl _ _ | refine Below.drew ?_ | refine bel_alloc ?_ _)) _ 0 1 1 rfl (intRow1 (by show _ = some (Value.int .u64 ((ou.toNat : Nat) : Int)); rw [HU.out]; repeat' (first | exact new_cell (by first | rfl | (simp; done)) rfl | exact .inr ⟨by first | omega | (simp; done) | (simp; omega), by first | omega | (simp; done) | (simp; omega)⟩ | exact .inl (.inr ⟨by first | omega | (simp; done) | (simp; omega), by first | omega | (simp; done) | (simp; omega)⟩) | with_reducible refine drew_cell ?_ | with_reducible refine alloc_cell ?_ _ | with_reducible refine keep_cell HT2.out ?_ ?_ | with_reducible refine keep_cell HT1.out ?_ ?_))) (by first | exact .inr (by first | omega | (simp; done) | (simp; omega)) | exact .inl (.inr ⟨by first | omega | (simp; done) | (simp; omega), by first | omega | (simp; done) | (simp; omega)⟩))).mono ?_; rintro r wB ⟨rfl, ho, ht⟩; have HO2 := Lib.hid ho; have HT2 := Lib.hid ht; clear ho ht)
          | (go_at_call 80; refine (outInt_q HO2.out [oa, ob] HL3.out HN3.out (by repeat' (first | exact Below.refl _ _ | refine Below.drew ?_ | refine bel_alloc ?_ _)) _ 0 2 2 rfl (intRow2 ⟨by repeat' (first | exact new_cell (by first | rfl | (simp; done)) rfl | exact .inr ⟨by first | omega | (simp; done) | (simp; omega), by first | omega | (simp; done) | (simp; omega)⟩ | exact .inl (.inr ⟨by first | omega | (simp; done) | (simp; omega), by first | omega | (simp; done) | (simp; omega)⟩) | with_reducible refine drew_cell ?_ | with_reducible refine alloc_cell ?_ _ | with_reducible refine keep_cell HT2.out ?_ ?_ | with_reducible refine keep_cell HT1.out ?_ ?_), by repeat' (first | exact new_cell (by first | rfl | (simp; done)) rfl | exact .inr ⟨by first | omega | (simp; done) | (simp; omega), by first | omega | (simp; done) | (simp; omega)⟩ | exact .inl (.inr ⟨by first | omega | (simp; done) | (simp; omega), by first | omega | (simp; done) | (simp; omega)⟩) | with_reducible refine drew_cell ?_ | with_reducible refine alloc_cell ?_ _ | with_reducible refine keep_cell HT2.out ?_ ?_ | with_reducible refine keep_cell HT1.out ?_ ?_)⟩) (by first | exact .inr (by first | omega | (simp; done) | (simp; omega)) | exact .inl (.inr ⟨by first | omega | (simp; done) | (simp; omega), by first | omega | (simp; done) | (simp; omega)⟩) | exact .inl (.inl (.inr ⟨by first | omega | (simp; done) | (simp; omega), by first | omega | (simp; done) | (simp; omega)⟩)))).mono ?_; rintro r wC ⟨rfl, ho, ht⟩; have HO3 := Lib.hid ho; have HT3 := Lib.hid ht; clear ho ht))
      all_goals
        have HW := Lib.hid (show Touch (fun k => ¬ K k) W0 wC from (touchKK (K := K) (wp := W0) (by repeat' (first | exact Below.refl _ _ | refine Below.drew ?_ | refine bel_alloc ?_ _)) (HT1.out.mono fun k _ h1 h2 => h1 (h2.elim (fun h => .inl (.inl h)) .inr))).trans
          ((touchKK (K := K) (wp := wA) (by repeat' (first | exact Below.refl _ _ | refine Below.drew ?_ | refine bel_alloc ?_ _)) (HT2.out.mono fun k _ h1 h2 => h1 (h2.elim (fun h => .inl (.inl (.inl h))) .inr))).trans
          (touchKK (K := K) (wp := wB) (by repeat' (first | exact Below.refl _ _ | refine Below.drew ?_ | refine bel_alloc ?_ _)) (HT3.out.mono fun k _ h1 h2 => h1 (h2.elim (fun h => .inl (.inl (.inl (.inl h)))) .inr)))))
        have HQ := Lib.hid (HO3.out.sub (K := K) (fun k hk => .inl (.inl (.inl (.inl hk)))))
        clear HO1 HO2 HO3 HT1 HT2 HT3 x0 x1 x2 x3
        go_wp2
        go_roundw
        case rel => exact ⟨k + 1, by omega, by go_num, Lib.hid (by rw [HS.out, ← List.append_assoc, HLE.out]; unfold ordB; simp only [← List.append_assoc]; exact HQ.out), Lib.hid (HT.out.trans ((touch_of_below HBW.out).trans HW.out))⟩
        case measure => simp [intOf]; omega
    · obtain rfl : k = l.length := by omega
      have HE := Lib.hid (show l0 ++ countsB [(l.length : Int)] ++ ordsB (l.take l.length) = l0 ++ batchB l by rw [List.take_length]; unfold batchB; rw [List.append_assoc])
      rw [HE.out] at HO
      go_wp2
      go_end0
      exact ⟨rfl, HO.out, HT.out⟩
end Go.Proofs.Ytcbadcbnknmdnaa
