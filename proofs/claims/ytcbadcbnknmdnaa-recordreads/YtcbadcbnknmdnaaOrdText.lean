/-
  Layer 9: a batch as a text, and the document's.
-/
import Derived.Test.YtcbadcbnknmdnaaOrdPut
import Derived.Test.YtcbadcbnknmdnaaVals
namespace Go.Proofs.Ytcbadcbnknmdnaa
open Go.RowKit
set_option linter.unusedVariables false

theorem OrdRow.lt {w : World} {a : Option Addr} {l : List Ord} (h : OrdRow w a l) (h0 : 0 < l.length) : ∀ x, a = some x → x.block < w.heap.size := by
  obtain ⟨b, off, e, hb, -⟩ := h.at h0
  intro x hx
  rw [e] at hx
  cases hx
  exact hb
theorem ordB_parts (o : Ord) : ordB o = numB o.kind.toNat ++ numB o.unit.toNat ++ numB (zig o.a) ++ numB (zig o.b) := by
  simp [ordB, countsB, numsB, intsB, List.append_assoc]
theorem keepR {W w' : World} (hb : Below W.heap.size W w') {X : Nat} {x y z u : Value} (h : W.cell? ⟨X, 0, none⟩ = some x ∧ W.cell? ⟨X, 1, none⟩ = some y ∧ W.cell? ⟨X, 2, none⟩ = some z ∧ W.cell? ⟨X, 3, none⟩ = some u) :
    w'.cell? ⟨X, 0, none⟩ = some x ∧ w'.cell? ⟨X, 1, none⟩ = some y ∧ w'.cell? ⟨X, 2, none⟩ = some z ∧ w'.cell? ⟨X, 3, none⟩ = some u := by
  have hX := block_lt_of_cell h.1
  exact ⟨(hb.cell (p := ⟨X, 0, none⟩) hX).trans h.1, (hb.cell (p := ⟨X, 1, none⟩) hX).trans h.2.1, (hb.cell (p := ⟨X, 2, none⟩) hX).trans h.2.2.1, (hb.cell (p := ⟨X, 3, none⟩) hX).trans h.2.2.2⟩
set_option maxRecDepth 100000 in
set_option maxHeartbeats 4000000 in
theorem refOrdText_any (a : Option Addr) (c : Nat) (l : List Ord) (w : World) (hr : OrdRow w a l) (hd : ∀ o ∈ l, OrdIn o) (hlen : l.length ≤ 8) :
    Calls Try.prog 47 #[.slice a l.length c] w fun r w' => r = .returned (.string (bs (batchB l))) ∧ Below w.heap.size w w' := by
  have HR := Lib.hid hr
  have HD := Lib.hid hd
  have HC := Lib.hid (refCount_any (l.length : Int) w (by omega) (by omega))
  clear hr hd
  go_enter Try.func47, Try.ntmps47
  go_wp2_with fail
  refine HC.out.mono ?_
  rintro r w1 ⟨rfl, hb1⟩
  have HB1 := Lib.hid hb1
  clear hb1 HC
  rw [show ((l.length : Int).toNat) = l.length by omega]
  go_wp2
  go_loopw [3, 11] (fun s i wr => ∃ k : Nat, k ≤ l.length ∧ i = .int .i64 k ∧ s = .string (bs (numB l.length ++ ordsB (l.take k))) ∧ Hid (Below w.heap.size w wr)) (fun _ i _ => l.length - (intOf i).toNat)
  case atStart => exact ⟨0, by omega, rfl, by simp [ordsB], HB1⟩
  case round =>
    obtain ⟨k, hk, rfl, rfl, HB⟩ := hrel
    by_cases hlt : k < l.length
    · have HS := Lib.hid (ordsB_snoc l k hlt)
      have HLN : Hid ((numB l.length ++ ordsB (l.take k)).length ≤ 1000) := Lib.hid (by
        have h1 := numB_ten (n := l.length) (by omega)
        have h2 := ordsB_len (l := l.take k) (fun f hf => HD.out f (List.mem_of_mem_take hf))
        have h3 := List.length_take_le k l
        simp only [List.length_append]
        omega)
      obtain ⟨g, off, rfl, hg, c0, c1, c2, c3⟩ := (HR.out.below HB.out).at hlt
      have HI := Lib.hid (HD.out _ (List.getElem_mem hlt))
      generalize l[k] = o at c0 c1 c2 c3 HS HI
      have HP := Lib.hid (ordB_parts o)
      obtain ⟨ok, ou, oa, ob⟩ := o
      obtain ⟨i1, i2, i3, i4, i5, i6⟩ := HI.out
      simp only at c0 c1 c2 c3 i1 i2 i3 i4 i5 i6 HP
      have hwu : IntKind.u64.wrap ou = ou := by rw [IntKind.wrap_u64]; omega
      have HU := Lib.hid (show ((ou.toNat : Nat) : Int) = ou by omega)
      have hc1 := fun W => refCount_any ok W (by omega) (by omega)
      have hc2 := fun W => refNum_any ou.toNat W (by omega)
      rw [HU.out] at hc2
      have hc3 := fun W => refInt_any oa W i5.1 i5.2
      have hc4 := fun W => refInt_any ob W i6.1 i6.2
      have s1 : (bs (numB ok.toNat)).size ≤ 10 := by rw [bs_size]; exact numB_ten (by omega)
      have s2 : (bs (numB ou.toNat)).size ≤ 10 := by rw [bs_size]; exact numB_ten (by omega)
      have s3 : (bs (numB (zig oa))).size ≤ 10 := by rw [bs_size]; exact numB_ten (zig_lt i5.1 i5.2)
      have s4 : (bs (numB (zig ob))).size ≤ 10 := by rw [bs_size]; exact numB_ten (zig_lt i6.1 i6.2)
      have HJ := Lib.hid (show bs (numB l.length ++ ordsB (l.take k)) ++ (bs (numB ok.toNat) ++ bs (numB ou.toNat) ++ bs (numB (zig oa)) ++ bs (numB (zig ob))) = bs (numB l.length ++ ordsB (l.take (k + 1))) by
        rw [HS.out, HP.out]; simp only [bs_append, List.append_assoc])
      have s0 : (bs (numB l.length ++ ordsB (l.take k))).size ≤ 1000 := by rw [bs_size]; exact HLN.out
      generalize bs (numB ok.toNat) = A1 at hc1 HJ s1
      generalize bs (numB ou.toNat) = A2 at hc2 HJ s2
      generalize bs (numB (zig oa)) = A3 at hc3 HJ s3
      generalize bs (numB (zig ob)) = A4 at hc4 HJ s4
      generalize bs (numB l.length ++ ordsB (l.take k)) = A0 at HJ s0 ⊢
      have u1 : ∀ W, (Op.stringOp .add A1 A2).run Try.prog W = .ok (.string (A1 ++ A2)) W := fun W => run_string_add_sum W _ _ (by omega)
      have u2 : ∀ W, (Op.stringOp .add (A1 ++ A2) A3).run Try.prog W = .ok (.string (A1 ++ A2 ++ A3)) W := fun W => run_string_add_sum W _ _ (by rw [ByteArray.size_append]; omega)
      have u3 : ∀ W, (Op.stringOp .add (A1 ++ A2 ++ A3) A4).run Try.prog W = .ok (.string (A1 ++ A2 ++ A3 ++ A4)) W := fun W => run_string_add_sum W _ _ (by rw [ByteArray.size_append, ByteArray.size_append]; omega)
      have u4 : ∀ W, (Op.stringOp .add A0 (A1 ++ A2 ++ A3 ++ A4)).run Try.prog W = .ok (.string (A0 ++ (A1 ++ A2 ++ A3 ++ A4))) W := fun W => run_string_add_sum W _ _ (by rw [ByteArray.size_append, ByteArray.size_append, ByteArray.size_append]; omega)
      have HC1 := Lib.hid hc1
      have HC2 := Lib.hid hc2
      have HC3 := Lib.hid hc3
      have HC4 := Lib.hid hc4
      clear hc1 hc2 hc3 hc4 i1 i2 i3 i4 i5 i6 s0 s1 s2 s3 s4
      go_upto_region 5 with (fail)
      have HBW := Lib.hid ((Below.refl _ wr).alloc (Nat.le_refl _) (.cells #[.int .i64 ok, .int .i64 ou, .int .i64 oa, .int .i64 ob] 159))
      have x0 : (wr.alloc (.cells #[.int .i64 ok, .int .i64 ou, .int .i64 oa, .int .i64 ob] 159)).cell? ⟨wr.heap.size, 0, none⟩ = some (.int .i64 ok) := by simp
      have x1 : (wr.alloc (.cells #[.int .i64 ok, .int .i64 ou, .int .i64 oa, .int .i64 ob] 159)).cell? ⟨wr.heap.size, 1, none⟩ = some (.int .i64 ou) := by simp
      have x2 : (wr.alloc (.cells #[.int .i64 ok, .int .i64 ou, .int .i64 oa, .int .i64 ob] 159)).cell? ⟨wr.heap.size, 2, none⟩ = some (.int .i64 oa) := by simp
      have x3 : (wr.alloc (.cells #[.int .i64 ok, .int .i64 ou, .int .i64 oa, .int .i64 ob] 159)).cell? ⟨wr.heap.size, 3, none⟩ = some (.int .i64 ob) := by simp
      have HBc : Hid (Below w.heap.size w (wr.alloc (.cells #[.int .i64 ok, .int .i64 ou, .int .i64 oa, .int .i64 ob] 159)).drew) := Lib.hid ((HB.out.alloc HB.out.size _).drew)
      generalize wr.alloc (.cells #[.int .i64 ok, .int .i64 ou, .int .i64 oa, .int .i64 ob] 159) = W0 at HBW x0 x1 x2 x3 HBc ⊢
      generalize wr.heap.size = X at x0 x1 x2 x3 ⊢
      clear c0 c1 c2 c3
      go_region_held3 (fun w' => w'.cell? ⟨X, 0, none⟩ = some (.int .i64 ok) ∧ w'.cell? ⟨X, 1, none⟩ = some (.int .i64 ou) ∧ w'.cell? ⟨X, 2, none⟩ = some (.int .i64 oa) ∧ w'.cell? ⟨X, 3, none⟩ = some (.int .i64 ob))
        (first | (refine keepR hbK ?_; assumption) | exact ⟨x0, x1, x2, x3⟩)
        (first
          | (go_at_call 45; (with_reducible refine (HC1.out _).mono ?_); rintro e wK ⟨rfl, hbK⟩; have HBc := Lib.hid (HBc.out.trans (hbK.mono HBc.out.size)))
          | (go_at_call 63; (with_reducible refine (HC2.out _).mono ?_); rintro e wK ⟨rfl, hbK⟩; have HBc := Lib.hid (HBc.out.trans (hbK.mono HBc.out.size)))
          | (go_at_call 73; (first | with_reducible refine (HC3.out _).mono ?_ | with_reducible refine (HC4.out _).mono ?_); rintro e wK ⟨rfl, hbK⟩; have HBc := Lib.hid (HBc.out.trans (hbK.mono HBc.out.size))))
      all_goals
        have HBK := Lib.hid HBc.out
        clear u1 u2 u3 u4 x0 x1 x2 x3
        go_wp2
        go_roundw
        case rel => exact ⟨k + 1, by omega, by go_num, by rw [HJ.out], HBK⟩
        case measure => simp [intOf]; omega
    · obtain rfl : k = l.length := by omega
      have HE := Lib.hid (show numB l.length ++ ordsB (l.take l.length) = batchB l by rw [List.take_length]; unfold batchB; simp [countsB, numsB])
      rw [HE.out]
      go_wp2
      go_ret
      exact ⟨rfl, HB.out⟩
end Go.Proofs.Ytcbadcbnknmdnaa
