/-
  Layer 8: tables in memory; where one stands.
-/
import Derived.Test.YtcbadcbnknmdnaaUnit1
import Derived.Test.YtcbadcbnknmdnaaVals
namespace Go.Proofs.Ytcbadcbnknmdnaa
open Go.RowKit
set_option linter.unusedVariables false

def unsI (l : List Un) : List (List Int) := l.map Un.ints
theorem unsI_wide (l : List Un) : Wide 6 (unsI l) := by
  intro x hx
  simp only [unsI, List.mem_map] at hx
  obtain ⟨o, -, rfl⟩ := hx
  rfl
theorem unsI_len (l : List Un) : (unsI l).length = l.length := by simp [unsI]
theorem unsI_append (l m : List Un) : unsI (l ++ m) = unsI l ++ unsI m := by simp [unsI]
def UnRow (w : World) (a : Option Addr) (l : List Un) : Prop := RecRow 6 w a (unsI l)
theorem UnRow.below {w w' : World} {a : Option Addr} {l : List Un} (h : UnRow w a l) (hb : Below w.heap.size w w') : UnRow w' a l := RecRow.below (by decide) h hb
theorem UnRow.touch {S : Nat → Prop} {w w' : World} {a : Option Addr} {l : List Un} (h : UnRow w a l) (ht : Touch S w w') (hs : ∀ x, a = some x → ¬ S x.block) : UnRow w' a l := RecRow.touch (by decide) h ht hs
theorem UnRow.at {w : World} {a : Option Addr} {l : List Un} (h : UnRow w a l) {i : Nat} (hi : i < l.length) : ∃ b off, a = some ⟨b, off, none⟩ ∧ b < w.heap.size ∧ w.cell? ⟨b, off + i * 6, none⟩ = some (.int .i64 l[i].id) ∧ w.cell? ⟨b, off + i * 6 + 1, none⟩ = some (.int .i64 l[i].kind) ∧ w.cell? ⟨b, off + i * 6 + 2, none⟩ = some (.int .i64 l[i].owner) ∧ w.cell? ⟨b, off + i * 6 + 3, none⟩ = some (.int .i64 l[i].x) ∧ w.cell? ⟨b, off + i * 6 + 4, none⟩ = some (.int .i64 l[i].y) ∧ w.cell? ⟨b, off + i * 6 + 5, none⟩ = some (.int .i64 l[i].health) := by
  obtain ⟨b, off, e, hc⟩ := h (by rw [unsI_len]; omega)
  have hi' : i < (unsI l).length := by rw [unsI_len]; exact hi
  have he : (unsI l)[i] = l[i].ints := by simp [unsI]
  have c0 := hc i hi' 0 (by decide)
  have c1 := hc i hi' 1 (by decide)
  have c2 := hc i hi' 2 (by decide)
  have c3 := hc i hi' 3 (by decide)
  have c4 := hc i hi' 4 (by decide)
  have c5 := hc i hi' 5 (by decide)
  rw [he] at c0 c1 c2 c3 c4 c5
  exact ⟨b, off, e, block_lt_of_cell c0, c0, c1, c2, c3, c4, c5⟩
/-- The first n are those of lesser numbers. -/
def FindIs (l : List Un) (id : Int) (n : Nat) : Prop := n ≤ l.length ∧ ∀ h (hh : h < l.length), l[h].id < id ↔ h < n
def foundQ (l : List Un) (id : Int) (n : Nat) : Bool := match l[n]? with | some u => u.id == id | none => false
def Rising (l : List Un) : Prop := ∀ i j (hi : i < l.length) (hj : j < l.length), i < j → l[i].id < l[j].id
theorem find_is (l : List Un) (id : Int) (h : Rising l) : ∃ n, FindIs l id n := by
  have key : ∀ k, k ≤ l.length → ∃ n, n ≤ k ∧ ∀ h (hh : h < l.length), h < k → (l[h].id < id ↔ h < n) := by
    intro k
    induction k with
    | zero => intro _; exact ⟨0, Nat.le_refl _, fun h hh hk => by omega⟩
    | succ k ih =>
      intro hk
      obtain ⟨n, hn, hp⟩ := ih (by omega)
      by_cases hlt : l[k].id < id
      · refine ⟨k + 1, Nat.le_refl _, fun j hj hjk => ⟨fun _ => by omega, fun _ => ?_⟩⟩
        by_cases e : j = k
        · subst e; exact hlt
        · have := h j k hj (by omega) (by omega)
          omega
      · refine ⟨n, by omega, fun j hj hjk => ?_⟩
        by_cases e : j = k
        · subst e
          exact ⟨fun h => absurd h hlt, fun h => by omega⟩
        · exact hp j hj (by omega)
  obtain ⟨n, hn, hp⟩ := key l.length (Nat.le_refl _)
  exact ⟨n, hn, fun j hj => hp j hj hj⟩
theorem foundQ_lt {l : List Un} {id : Int} {n : Nat} (h : n < l.length) : foundQ l id n = (l[n].id == id) := by simp [foundQ, h]
theorem foundQ_ge {l : List Un} {id : Int} {n : Nat} (h : l.length ≤ n) : foundQ l id n = false := by simp [foundQ, h]
theorem cmpI_lt {a b : Int} : cmpI a b < 0 ↔ a < b := by
  unfold cmpI
  split
  · simp [*]
  · split <;> simp <;> omega
theorem cmpI_eq (a b : Int) : (cmpI a b == 0) = (a == b) := by
  unfold cmpI
  split
  · have : ¬ a = b := by omega
    simp [this]
  · split
    · have : ¬ a = b := by omega
      simp [this]
    · have : a = b := by omega
      simp [this]
/-- A unit whose fields may be. -/
def UnMay (u : Un) : Prop := mayN 0 u.kind = true ∧ mayN 1 u.owner = true ∧ mayN 2 u.x = true ∧ mayN 3 u.y = true ∧ mayN 4 u.health = true
def TabOk (us : List Un) (g : Int) : Prop := us.length ≤ 64 ∧ Rising us ∧ (∀ u ∈ us, 1 ≤ u.id ∧ u.id ≤ g ∧ UnMay u) ∧ 0 ≤ g ∧ g < 1099511627776
/-- The number of the n-th. -/
def nthN (us : List Un) (n : Int) : Int := if n < 0 then 0 else match us[n.toNat]? with | some u => u.id | none => 0
end Go.Proofs.Ytcbadcbnknmdnaa
