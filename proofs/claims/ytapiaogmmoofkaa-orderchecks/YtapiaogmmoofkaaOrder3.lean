/-
  Layer 9: batches as the document's, copies of them, are they alike.
-/
import Derived.Test.YtapiaogmmoofkaaOrder2
namespace Go.Proofs.Ytapiaogmmoofkaa
open Go.RowKit
set_option linter.unusedVariables false

set_option maxRecDepth 100000 in
set_option maxHeartbeats 1000000 in
theorem ordTold_any (a : Option Addr) (c : Nat) (l : List Ord) (w : World) (hl : l.length ≤ 100000) (hr : OrdRow w a l) :
    Calls Try.prog 39 #[.slice a l.length c] w fun r w' => ∃ a' c', r = .returned (.slice a' l.length c') ∧ NewOrd 63 w a' c' l w' := by
  have HR := Lib.hid hr
  have H0 := Lib.hid (newRec_made 63 4 w w (Below.refl _ _))
  clear hr
  go_enter Try.func39, Try.ntmps39
  go_wp2
  go_loopw [3, 9] (fun o i wr => ∃ (k : Nat) (a' : Option Addr) (c' : Nat), k ≤ l.length ∧ o = .slice a' k c' ∧ i = .int .i64 k ∧ Hid (NewOrd 63 w a' c' (l.take k) wr)) (fun _ i _ => l.length - (intOf i).toNat)
  case atStart => exact ⟨0, _, _, by omega, rfl, rfl, H0⟩
  case round =>
    obtain ⟨k, a', c', hk, rfl, rfl, HN⟩ := hrel
    by_cases hlt : k < l.length
    · obtain ⟨b, off, rfl, hb, c0, c1, c2, c3⟩ := (HR.out.below HN.out.bel).at hlt
      have HT := Lib.hid (List.take_succ_eq_append_getElem hlt)
      have hlk : (l.take k).length = k := by simp; omega
      generalize l[k] = o at c0 c1 c2 c3 HT
      obtain ⟨a2, c2', w2, hrun, hnew, -⟩ := newOrd_one (t := 71) (u := 71) (ty := 71) rordTy Try.underlying71 Try.underlying71 (HN.out.keep ((Below.refl _ wr).alloc (Nat.le_refl _) (.cells #[.int .i64 o.kind, .int .i64 o.unit, .int .i64 o.a, .int .i64 o.b] 61))) o (by omega)
      rw [hlk, show (wr.alloc (.cells #[.int .i64 o.kind, .int .i64 o.unit, .int .i64 o.a, .int .i64 o.b] 61)).heap.size = wr.heap.size + 1 by simp] at hrun
      rw [← HT.out] at hnew
      have HRUN := Lib.hid hrun
      have HNEW := Lib.hid hnew
      clear hrun hnew hlk
      obtain ⟨ok, ou, oa, ob⟩ := o
      simp only at c0 c1 c2 c3 HRUN
      go_wp2_with (at_builtin; refine wpList_append_run _ rfl (.tmp 13) (.tmp 15) 71 71 rfl _ _ rfl rfl (.slice a2 (k + 1) c2') w2 HRUN.out ?_)
      go_roundw
      case rel => exact ⟨k + 1, a2, c2', by omega, rfl, by go_num, HNEW⟩
      case measure => simp [intOf]; omega
    · obtain rfl : k = l.length := by omega
      rw [List.take_length] at HN
      go_wp2
      go_ret
      exact ⟨a', c', rfl, HN.out⟩
end Go.Proofs.Ytapiaogmmoofkaa
