/-
  Layer 9: the law's own helper that makes batches that may be.
-/
import Derived.Test.YtpilkaggiajjmaaAwake9
import Derived.Test.YtpilkaggiajjmaaRecArgs
namespace Go.Proofs.Ytpilkaggiajjmaa
open Go.RowKit
set_option linter.unusedVariables false

theorem andM (a : Int) (m : Nat) (mi : Int) (hm : mi = (m : Int)) (h : m ≤ 9223372036854775807) : ∃ k : Nat, k ≤ m ∧ bits .and .i64 a mi = (k : Int) := by
  subst hm
  have e : (BitVec.ofInt 64 (m : Int)).toNat = m := by simp; omega
  have hle : (BitVec.ofInt 64 a &&& BitVec.ofInt 64 (m : Int)).toNat ≤ m := by
    rw [BitVec.toNat_and, e]; exact Nat.and_le_right
  refine ⟨(BitVec.ofInt 64 a &&& BitVec.ofInt 64 (m : Int)).toNat, hle, ?_⟩
  show IntKind.i64.wrap ((BitVec.ofInt 64 a &&& BitVec.ofInt 64 (m : Int)).toNat : Int) = _
  rw [IntKind.wrap_i64]
  omega
/-- Records as orders. -/
def toOrd (r : List Int) : Ord := ⟨r.getD 0 0, r.getD 1 0, r.getD 2 0, r.getD 3 0⟩
theorem toOrd_ints (r : List Int) (h : r.length = 4) : (toOrd r).ints = r := by
  obtain ⟨a, b, c, d, rfl⟩ := list_4 h
  rfl
theorem toOrds {ls : List (List Int)} (h : Wide 4 ls) : ordsI (ls.map toOrd) = ls := by
  unfold ordsI
  rw [List.map_map]
  have : ∀ x ∈ ls, (Ord.ints ∘ toOrd) x = x := fun x hx => toOrd_ints x (h x hx)
  conv => rhs; rw [← List.map_id ls]
  exact List.map_congr_left this
def OrdArg (w : World) (a : Option Addr) (len cap : Nat) (l : List Ord) : Prop :=
  len = l.length ∧ len ≤ cap ∧ cap ≤ maxLen ∧ OrdRow w a l ∧ (a = none → l = []) ∧ ∀ o ∈ l, OrdOk o
theorem RecArg.ords {w : World} {a : Option Addr} {len cap : Nat} {ls : List (List Int)} (h : RecArg 4 w a len cap ls) : OrdArg w a len cap (ls.map toOrd) := by
  obtain ⟨h1, h2, h3, h4, h5, h6, h7⟩ := h
  refine ⟨by rw [h1]; simp, h2, h3, by unfold OrdRow; rw [toOrds h4]; exact h5, fun e => by rw [h6 e]; rfl, fun o ho => ?_⟩
  simp only [List.mem_map] at ho
  obtain ⟨r, hr, rfl⟩ := ho
  obtain ⟨a, b, c, d, rfl⟩ := list_4 (h4 r hr)
  have := h7 _ hr
  exact ⟨this a (by simp), this b (by simp), this c (by simp), this d (by simp)⟩
theorem OrdArg.below {w w' : World} {a : Option Addr} {len cap : Nat} {l : List Ord} (h : OrdArg w a len cap l) (hb : Below w.heap.size w w') : OrdArg w' a len cap l := ⟨h.1, h.2.1, h.2.2.1, h.2.2.2.1.below hb, h.2.2.2.2⟩
theorem dom_move (u a b : Nat) (hu : u ≤ 63) (ha : a ≤ 127) (hb : b ≤ 127) : OrdDom ⟨1, 1 + u, 1 + a, b⟩ := by
  have h1 : numQ (1 + u) = true := by simp [numQ]; omega
  have h2 : placeQ (1 + a) = true := by simp [placeQ]; omega
  have h3 : placeQ b = true := by simp [placeQ]; omega
  simp [OrdDom, checkN, h1, h2, h3, okN]
theorem dom_hit (u a : Nat) (hu : u ≤ 63) (ha : a ≤ 127) : OrdDom ⟨2, 1 + u, 1 + a, 0⟩ := by
  have h1 : numQ (1 + u) = true := by simp [numQ]; omega
  have h2 : numQ (1 + a) = true := by simp [numQ]; omega
  simp [OrdDom, checkN, h1, h2, okN]
theorem dom_build (a b : Nat) (ha : a ≤ 127) (hb : b ≤ 127) : OrdDom ⟨3, 0, 1 + a, b⟩ := by
  have h2 : kindQ (1 + a) = true := by simp [kindQ]; omega
  have h3 : placeQ b = true := by simp [placeQ]; omega
  simp [OrdDom, checkN, h2, h3, okN]
theorem dom_halt (u : Nat) (hu : u ≤ 63) : OrdDom ⟨4, 1 + u, 0, 0⟩ := by
  have h1 : numQ (1 + u) = true := by simp [numQ]; omega
  simp [OrdDom, checkN, h1, okN]
end Go.Proofs.Ytpilkaggiajjmaa
