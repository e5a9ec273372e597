/-
  Layer 9: are two orders alike.
-/
import Derived.Test.YtapiaogmmoofkaaOrder3
import Derived.Deep.DeepCutAuto
namespace Go.Proofs.Ytapiaogmmoofkaa
open Go.RowKit
set_option linter.unusedVariables false

def ordQ (x y : Ord) : Bool := x.kind == y.kind && (x.unit == y.unit && (x.a == y.a && x.b == y.b))
theorem ordQ_iff (x y : Ord) : ordQ x y = true ↔ x = y := by
  obtain ⟨a, b, c, d⟩ := x
  obtain ⟨e, f, g, h⟩ := y
  simp [ordQ]
theorem ord_neq (x y : Ord) (w : World) : (binOp .neq 63 (ordV x) (ordV y)).run Try.prog w = .ok (.bool (!ordQ x y)) w := by
  obtain ⟨a, b, c, d⟩ := x
  obtain ⟨e, f, g, h⟩ := y
  unfold ordV ordQ
  simp only
  by_cases h0 : a = e <;> by_cases h1 : b = f <;> by_cases h2 : c = g <;> by_cases h3 : d = h <;> go_simp
/-- What the law's Same tells. -/
def SamePost (w : World) (l m : List Ord) (r : Ending) (w' : World) : Prop := ∃ n : Int, r = .returned (.int .i64 n) ∧ (n = 0 ∨ n = -1) ∧ (n = 0 ↔ l = m) ∧ Below w.heap.size w w'
theorem take_all_eq {α : Type} {l m : List α} {k : Nat} (h : l.length = m.length) (hk : l.length ≤ k) (e : l.take k = m.take k) : l = m := by
  rwa [List.take_of_length_le hk, List.take_of_length_le (by omega)] at e
set_option maxRecDepth 100000 in
set_option maxHeartbeats 1000000 in
theorem ordSame_any (a : Option Addr) (c : Nat) (l : List Ord) (b : Option Addr) (d : Nat) (m : List Ord) (w : World) (hl : l.length ≤ 100000) (hm : m.length ≤ 100000) (hr : OrdRow w a l) (hs : OrdRow w b m) :
    Calls Try.prog 43 #[.slice a l.length c, .slice b m.length d] w (SamePost w l m) := by
  have HR := Lib.hid hr
  have HS := Lib.hid hs
  clear hr hs
  by_cases hn : l.length = m.length
  · have HN := Lib.hid hn
    rw [hn]
    have hnn : ((m.length : Int) != (m.length : Int)) = false := by simp
    clear hn
    go_enter Try.func43, Try.ntmps43
    go_wp2
    go_loopw [13] (fun i wr => ∃ k : Nat, k ≤ m.length ∧ i = .int .i64 k ∧ Hid (l.take k = m.take k) ∧ Hid (Below w.heap.size w wr)) (fun i _ => m.length - (intOf i).toNat)
    case atStart => exact ⟨0, by omega, rfl, Lib.hid rfl, Lib.hid (Below.refl _ _)⟩
    case round =>
      obtain ⟨k, hk, rfl, HE, HW⟩ := hrel
      by_cases hlt : k < m.length
      · have hlt2 : k < l.length := by have := HN.out; omega
        obtain ⟨b1, o1, rfl, hb1, c0, c1, c2, c3⟩ := (HR.out.below HW.out).at hlt2
        obtain ⟨b2, o2, rfl, hb2, d0, d1, d2, d3⟩ := (HS.out.below HW.out).at hlt
        have HT1 := Lib.hid (List.take_succ_eq_append_getElem hlt2)
        have HT2 := Lib.hid (List.take_succ_eq_append_getElem hlt)
        have HK1 := Lib.hid (show l[k]? = some l[k] by simp [hlt2])
        have HK2 := Lib.hid (show m[k]? = some m[k] by simp [hlt])
        generalize l[k] = x at c0 c1 c2 c3 HT1 HK1
        generalize m[k] = y at d0 d1 d2 d3 HT2 HK2
        have hq := ord_neq x y
        have HQ := Lib.hid (ordQ_iff x y)
        obtain ⟨x0, x1, x2, x3⟩ := x
        obtain ⟨y0, y1, y2, y3⟩ := y
        generalize ordQ ⟨x0, x1, x2, x3⟩ ⟨y0, y1, y2, y3⟩ = q at hq HQ
        unfold ordV at hq
        simp only at c0 c1 c2 c3 d0 d1 d2 d3 hq
        have hk1 : (k : Int) < (m.length : Int) := by omega
        have hk0 : (0 : Int) ≤ (k : Int) := by omega
        cases q
        · have HX := Lib.hid (show l ≠ m from fun e => by
            subst e
            have := HK1.out.symm.trans HK2.out
            exact absurd (HQ.out.2 (Option.some.inj this)) (by simp))
          simp only [Bool.not_false] at hq
          go_upto_region 6 with (fail)
          go_quiet (fail)
          go_wp2
          go_ret
          exact ⟨-1, rfl, .inr rfl, ⟨fun h => (by cases h), fun h => absurd h HX.out⟩, ⟨HW.out.os, HW.out.tape, HW.out.output, HW.out.size, HW.out.block⟩⟩
        · have HX := Lib.hid (show l.take (k + 1) = m.take (k + 1) by rw [HT1.out, HT2.out, HE.out, HQ.out.1 rfl])
          simp only [Bool.not_true] at hq
          go_upto_region 6 with (fail)
          go_quiet (fail)
          go_wp2
          go_roundw
          case rel => exact ⟨k + 1, by omega, by go_num, HX, Lib.hid ⟨HW.out.os, HW.out.tape, HW.out.output, HW.out.size, HW.out.block⟩⟩
          case measure => simp [intOf]; omega
      · have HX := Lib.hid (show l = m from take_all_eq HN.out (by have := HN.out; omega) HE.out)
        go_wp2
        go_ret
        exact ⟨0, rfl, .inl rfl, ⟨fun _ => HX.out, fun _ => rfl⟩, HW.out⟩
  · have hnn : ((l.length : Int) != (m.length : Int)) = true := by simp; omega
    have HX := Lib.hid (show l ≠ m from fun e => hn (by rw [e]))
    clear hn
    go_enter Try.func43, Try.ntmps43
    go_wp2
    go_ret
    exact ⟨-1, rfl, .inr rfl, ⟨fun h => (by cases h), fun h => absurd h HX.out⟩, Below.refl _ _⟩
/-- What is put behind nothing. -/
theorem newOrd_all {w w1 : World} {t u ty e : TypeId} {z : Value} (H : RecTy e 4 z) (ht : Try.prog.underlying t = some (.slice e)) (hu : Try.prog.underlying u = some (.slice e)) {a1 : Option Addr} {c1 : Nat} {l m : List Ord} (h : NewOrd e w a1 c1 l w1) (a : Option Addr) (c : Nat) (hr : OrdRow w1 a m) (hn : a = none → m = []) (hl : l.length + m.length ≤ 1000000) :
    ∃ a' c' w', (Builtin.append_ #[t, u] ty #[.slice a1 l.length c1, .slice a m.length c]).run Try.prog w1 = .ok (.slice a' (l.length + m.length) c') w' ∧ NewOrd e w a' c' (l ++ m) w' := by
  obtain ⟨a', c', w', h1, h2, h3⟩ := newRec_more (ty := ty) H ht hu h (ordsI_wide m) a c hr (fun e => by rw [hn e]; rfl) (by rw [ordsI_len, ordsI_len]; exact hl)
  rw [ordsI_len, ordsI_len] at h1
  refine ⟨a', c', w', h1, ?_⟩
  unfold NewOrd
  rw [ordsI_append]
  exact h2
def OfPost (w : World) (l : List Ord) (r : Ending) (w' : World) : Prop := ∃ a c, r = .returned (.slice a (l.take 8).length c) ∧ NewOrd 61 w a c (l.take 8) w'
set_option maxRecDepth 100000 in
theorem ordOf_any (a : Option Addr) (c : Nat) (l : List Ord) (w : World) (hl : l.length ≤ c) (hc : c ≤ 9223372036854775807) (hr : OrdRow w a l) (hn : a = none → l = []) :
    Calls Try.prog 44 #[.slice a l.length c] w (OfPost w l) := by
  have h0 := newRec_made 61 4 w w (Below.refl _ _)
  obtain ⟨a1, c1, w1, hrun, hnew⟩ := newOrd_all (t := 68) (u := 67) (ty := 68) (l := []) ordTy Try.underlying68 Try.underlying67 h0 a c ((hr.take 8).below ((Below.refl _ w).alloc (Nat.le_refl _) _)) (fun e => by rw [hn e]; rfl) (by simp; omega)
  rw [List.nil_append] at hnew
  rw [List.length_nil, Nat.zero_add] at hrun
  have HRUN := Lib.hid hrun
  have HNEW := Lib.hid hnew
  clear hrun hnew h0 hr
  by_cases h8 : 8 < l.length
  · have h9 : (l.take 8).length = 8 := by simp; omega
    rw [h9] at HRUN
    have HL := Lib.hid h9
    have hmin : min (l.length : Int) 8 = 8 := by omega
    obtain ⟨x, rfl⟩ : ∃ x, a = some x := by
      cases a with
      | none => rw [hn rfl] at h8; simp at h8
      | some x => exact ⟨x, rfl⟩
    have hc8 : 8 ≤ c := by omega
    clear h9 hn
    go_enter Try.func44, Try.ntmps44
    go_wp2_with (at_builtin; refine wpList_append_run _ rfl (.tmp 3) (.tmp 8) 68 67 rfl _ _ rfl rfl (.slice a1 8 c1) w1 HRUN.out ?_)
    go_ret
    exact ⟨a1, c1, by rw [HL.out]; rfl, HNEW.out⟩
  · have h9 : (l.take 8).length = l.length := by simp; omega
    rw [h9] at HRUN
    have HL := Lib.hid h9
    have hmin : min (l.length : Int) 8 = (l.length : Int) := by omega
    clear h9
    go_enter Try.func44, Try.ntmps44
    go_wp2_with (at_builtin; refine wpList_append_run _ rfl (.tmp 3) (.tmp 8) 68 67 rfl _ _ rfl rfl (.slice a1 l.length c1) w1 HRUN.out ?_)
    go_ret
    exact ⟨a1, c1, by rw [HL.out]; rfl, HNEW.out⟩
end Go.Proofs.Ytapiaogmmoofkaa
