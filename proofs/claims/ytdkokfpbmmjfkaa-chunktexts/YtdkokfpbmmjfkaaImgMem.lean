/-
  An image that grows in memory: functions of one's own, one behind the other; a function that grows; instructions of one's own.
-/
import Derived.Test.YtdkokfpbmmjfkaaCodeParse
namespace Go.Proofs.Ytdkokfpbmmjfkaa
open Go.RowKit
set_option linter.unusedVariables false

theorem own_thaw {w : World} {base : Nat} {e : TypeId} {size : Nat} {a : Option Addr} {n c : Nat} {xs : List Value} (h : w.ownsRow base e size (.slice a n c) n xs) (x : Addr) (hx : a = some x) : x = ⟨x.block, 0, none⟩ ∧ ∀ j, w.frozen? ⟨x.block, j, none⟩ = false := by
  subst hx
  rcases h.2 with ⟨hv, _⟩ | ⟨g, cap, cur, hv, -, hg, -⟩
  · cases hv
  · cases hv
    exact ⟨rfl, fun j => by simp [World.frozen?, hg]⟩
theorem pf_own {p : Pf} {x : Addr} (h : p.x = some x) : p.val.ownBlock = some x.block := by simp [Pf.val, h, Value.ownBlock]
end Go.Proofs.Ytdkokfpbmmjfkaa
