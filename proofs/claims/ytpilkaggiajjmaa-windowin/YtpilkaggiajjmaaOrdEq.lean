/-
  Layer 9: are two orders alike.
-/
import Derived.Test.YtpilkaggiajjmaaOrder3
import Derived.Deep.DeepCutAuto
namespace Go.Proofs.Ytpilkaggiajjmaa
open Go.RowKit
set_option linter.unusedVariables false

def ordQ (x y : Ord) : Bool := x.kind == y.kind && (x.unit == y.unit && (x.a == y.a && x.b == y.b))
theorem ordQ_iff (x y : Ord) : ordQ x y = true ↔ x = y := by
  obtain ⟨a, b, c, d⟩ := x
  obtain ⟨e, f, g, h⟩ := y
  simp [ordQ]
/-- What the law's Same tells. -/
def SamePost (w : World) (l m : List Ord) (r : Ending) (w' : World) : Prop := ∃ n : Int, r = .returned (.int .i64 n) ∧ (n = 0 ∨ n = -1) ∧ (n = 0 ↔ l = m) ∧ Below w.heap.size w w'
theorem take_all_eq {α : Type} {l m : List α} {k : Nat} (h : l.length = m.length) (hk : l.length ≤ k) (e : l.take k = m.take k) : l = m := by
  rwa [List.take_of_length_le hk, List.take_of_length_le (by omega)] at e
/-- What is put behind nothing. -/
theorem newOrd_all {w w1 : World} {t u ty e : TypeId} {z : Value} (H : RecTy e 4 z) (ht : Try.prog.underlying t = some (.slice e)) (hu : Try.prog.underlying u = some (.slice e)) {a1 : Option Addr} {c1 : Nat} {l m : List Ord} (h : NewOrd e w a1 c1 l w1) (a : Option Addr) (c : Nat) (hr : OrdRow w1 a m) (hn : a = none → m = []) (hl : l.length + m.length ≤ 1000000) :
    ∃ a' c' w', (Builtin.append_ #[t, u] ty #[.slice a1 l.length c1, .slice a m.length c]).run Try.prog w1 = .ok (.slice a' (l.length + m.length) c') w' ∧ NewOrd e w a' c' (l ++ m) w' := by
  obtain ⟨a', c', w', h1, h2, h3⟩ := newRec_more (ty := ty) H ht hu h (ordsI_wide m) a c hr (fun e => by rw [hn e]; rfl) (by rw [ordsI_len, ordsI_len]; exact hl)
  rw [ordsI_len, ordsI_len] at h1
  refine ⟨a', c', w', h1, ?_⟩
  unfold NewOrd
  rw [ordsI_append]
  exact h2
end Go.Proofs.Ytpilkaggiajjmaa
