/-
  Layer 9: are two orders alike.
-/
import Derived.Test.YthggfjjiohdbmaaOrder3
import Derived.Deep.DeepCutAuto
namespace Go.Proofs.Ythggfjjiohdbmaa
open Go.RowKit
set_option linter.unusedVariables false

def ordQ (x y : Ord) : Bool := x.kind == y.kind && (x.unit == y.unit && (x.a == y.a && x.b == y.b))
theorem ordQ_iff (x y : Ord) : ordQ x y = true ↔ x = y := by
  obtain ⟨a, b, c, d⟩ := x
  obtain ⟨e, f, g, h⟩ := y
  simp [ordQ]
theorem ord_neq (x y : Ord) (w : World) : (binOp .neq 38 (ordV x) (ordV y)).run Try.prog w = .ok (.bool (!ordQ x y)) w := by
  obtain ⟨a, b, c, d⟩ := x
  obtain ⟨e, f, g, h⟩ := y
  unfold ordV ordQ
  simp only
  by_cases h0 : a = e <;> by_cases h1 : b = f <;> by_cases h2 : c = g <;> by_cases h3 : d = h <;> go_simp
/-- What the law's Same tells. -/
def SamePost (w : World) (l m : List Ord) (r : Ending) (w' : World) : Prop := ∃ n : Int, r = .returned (.int .i64 n) ∧ (n = 0 ∨ n = -1) ∧ (n = 0 ↔ l = m) ∧ Below w.heap.size w w'
theorem take_all_eq {α : Type} {l m : List α} {k : Nat} (h : l.length = m.length) (hk : l.length ≤ k) (e : l.take k = m.take k) : l = m := by
  rwa [List.take_of_length_le hk, List.take_of_length_le (by omega)] at e
/-- What is put behind nothing. -/
theorem newOrd_all {w w1 : World} {t u ty e : TypeId} {z : Value} (H : RecTy e 4 z) (ht : Try.prog.underlying t = some (.slice e)) (hu : Try.prog.underlying u = some (.slice e)) {a1 : Option Addr} {c1 : Nat} {l m : List Ord} (h : NewOrd e w a1 c1 l w1) (a : Option Addr) (c : Nat) (hr : OrdRow w1 a m) (hn : a = none → m = []) (hl : l.length + m.length ≤ 1000000) :
    ∃ a' c' w', (Builtin.append_ #[t, u] ty #[.slice a1 l.length c1, .slice a m.length c]).run Try.prog w1 = .ok (.slice a' (l.length + m.length) c') w' ∧ NewOrd e w a' c' (l ++ m) w' := by
  obtain ⟨a', c', w', h1, h2, h3⟩ := newRec_more (ty := ty) H ht hu h (ordsI_wide m) a c hr (fun e => by rw [hn e]; rfl) (by rw [ordsI_len, ordsI_len]; exact hl)
  rw [ordsI_len, ordsI_len] at h1
  refine ⟨a', c', w', h1, ?_⟩
  unfold NewOrd
  rw [ordsI_append]
  exact h2
def OfPost (w : World) (l : List Ord) (r : Ending) (w' : World) : Prop := ∃ a c, r = .returned (.slice a (l.take 8).length c) ∧ NewOrd 23 w a c (l.take 8) w'
set_option maxRecDepth 100000 in
theorem ordOf_any (a : Option Addr) (c : Nat) (l : List Ord) (w : World) (hl : l.length ≤ c) (hc : c ≤ 9223372036854775807) (hr : OrdRow w a l) (hn : a = none → l = []) :
    Calls Try.prog 11 #[.slice a l.length c] w (OfPost w l) := by
  have h0 := newRec_made 23 4 w w (Below.refl _ _)
  obtain ⟨a1, c1, w1, hrun, hnew⟩ := newOrd_all (t := 43) (u := 42) (ty := 43) (l := []) ordTy Try.underlying43 Try.underlying42 h0 a c ((hr.take 8).below ((Below.refl _ w).alloc (Nat.le_refl _) _)) (fun e => by rw [hn e]; rfl) (by simp; omega)
  rw [List.nil_append] at hnew
  rw [List.length_nil, Nat.zero_add] at hrun
  have HRUN := Lib.hid hrun
  have HNEW := Lib.hid hnew
  clear hrun hnew h0 hr
  by_cases h8 : 8 < l.length
  · have h9 : (l.take 8).length = 8 := by simp; omega
    rw [h9] at HRUN
    have HL := Lib.hid h9
    have hmin : min (l.length : Int) 8 = 8 := by omega
    obtain ⟨x, rfl⟩ : ∃ x, a = some x := by
      cases a with
      | none => rw [hn rfl] at h8; simp at h8
      | some x => exact ⟨x, rfl⟩
    have hc8 : 8 ≤ c := by omega
    clear h9 hn
    go_enter Try.func11, Try.ntmps11
    go_wp2_with (at_builtin; refine wpList_append_run _ rfl (.tmp 3) (.tmp 8) 43 42 rfl _ _ rfl rfl (.slice a1 8 c1) w1 HRUN.out ?_)
    go_ret
    exact ⟨a1, c1, by rw [HL.out]; rfl, HNEW.out⟩
  · have h9 : (l.take 8).length = l.length := by simp; omega
    rw [h9] at HRUN
    have HL := Lib.hid h9
    have hmin : min (l.length : Int) 8 = (l.length : Int) := by omega
    clear h9
    go_enter Try.func11, Try.ntmps11
    go_wp2_with (at_builtin; refine wpList_append_run _ rfl (.tmp 3) (.tmp 8) 43 42 rfl _ _ rfl rfl (.slice a1 l.length c1) w1 HRUN.out ?_)
    go_ret
    exact ⟨a1, c1, by rw [HL.out]; rfl, HNEW.out⟩
end Go.Proofs.Ythggfjjiohdbmaa
