/-
  Layer 18: changes and rosters as bytes, and back: plain mathematics.
-/
import Derived.Test.YtcbadcbnknmdnaaRosT6
import Derived.Test.YtcbadcbnknmdnaaCodec
import Derived.Test.YtcbadcbnknmdnaaUnMath
namespace Go.Proofs.Ytcbadcbnknmdnaa
set_option linter.unusedVariables false

def chgB (c : Chg) : List UInt8 := countsB [c.k, c.p, (c.v.length : Int)] ++ countsB c.v
def ChgDom (c : Chg) : Prop := 0 ≤ c.k ∧ c.k ≤ 3 ∧ 0 ≤ c.p ∧ c.p ≤ 31 ∧ c.v.length ≤ 32 ∧ ∀ v ∈ c.v, 0 ≤ v ∧ v ≤ 31
theorem okS_small {n : Nat} {no : Int} (V : List Int) : ∀ last : Int, -1 ≤ last → last ≤ 31 → okS n no last V = true → (V.length : Int) ≤ 31 - last ∧ ∀ v ∈ V, 0 ≤ v ∧ v ≤ 31 := by
  induction V with
  | nil => intro last h1 h2 h; exact ⟨by simp; omega, by simp⟩
  | cons x r ih =>
    intro last h1 h2 h
    unfold okS at h
    simp only [Bool.and_eq_true, decide_eq_true_eq] at h
    obtain ⟨g1, -, g3, g4⟩ := h
    have hx := hasP_iff.1 g3
    obtain ⟨i1, i2⟩ := ih x (by omega) (by omega) g4
    refine ⟨by simp only [List.length_cons]; omega, fun v hv => ?_⟩
    rcases List.mem_cons.1 hv with rfl | hv
    · omega
    · exact i2 v hv
theorem chk_dom {n : Nat} {c : Chg} (h : chk n c = 0) : ChgDom c ∧ 1 ≤ c.k := by
  have hr := chk_range h
  obtain ⟨k, p, v⟩ := c
  simp only at hr
  unfold ChgDom
  simp only
  by_cases h3 : k = 3
  · subst h3
    have hm := chk_drop h
    unfold mostP at hm
    simp only [Bool.and_eq_true, decide_eq_true_eq] at hm
    obtain ⟨i1, i2⟩ := okS_small v (-1) (by omega) (by omega) hm.1
    exact ⟨⟨by omega, by omega, hr.1, by omega, by omega, i2⟩, by omega⟩
  · have hv : v = [] := by
      unfold chk at h
      simp only at h
      rw [if_neg (by omega)] at h
      split at h
      · omega
      · rename_i h4
        cases v with
        | nil => rfl
        | cons y r => exact absurd (.inr (.inr ⟨h3, by simp⟩)) h4
    subst hv
    exact ⟨⟨by omega, by omega, hr.1, by omega, by simp, by simp⟩, by omega⟩
def chG2 (k p : Nat) (st : St) : St × Chg := ((runS votS (countS st 32).2 (countS st 32).1).1, ⟨(k : Int), (p : Int), (runS votS (countS st 32).2 (countS st 32).1).2⟩)
def chG1 (k : Nat) (st : St) : St × Chg := chG2 k (countS st 31).2 (countS st 31).1
theorem votC : Codec votS (fun v : Int => numB v.toNat) (fun v => 0 ≤ v ∧ v ≤ 31) :=
  Codec.map (countC 31 (by decide)) (fun n : Nat => (n : Int)) Int.toNat _ (fun y h => ⟨by omega, by omega⟩) (fun st => by simp)
theorem votsC : Codec (fun st => runS votS (countS st 32).2 (countS st 32).1) (fun m : List Int => numB m.length ++ (m.map fun v => numB v.toNat).flatten) (fun m => m.length ≤ 32 ∧ (m.length = m.length ∧ ∀ v ∈ m, 0 ≤ v ∧ v ≤ 31)) :=
  Codec.bind (countC 32 (by decide)) (fun n => votC.run n) (fun m => m.length) (fun n st => runS_len votS n st)
theorem chG2C (k p : Nat) : Codec (chG2 k p) (fun c : Chg => numB c.v.length ++ (c.v.map fun v => numB v.toNat).flatten) (fun c => c = ⟨(k : Int), (p : Int), c.v⟩ ∧ (c.v.length ≤ 32 ∧ (c.v.length = c.v.length ∧ ∀ v ∈ c.v, 0 ≤ v ∧ v ≤ 31))) :=
  Codec.map votsC (fun v => (⟨(k : Int), (p : Int), v⟩ : Chg)) (fun c => c.v) _ (fun y h => ⟨h.2, h.1.symm⟩) (fun st => rfl)
theorem chG1C (k : Nat) : Codec (chG1 k) (fun c : Chg => numB c.p.toNat ++ (numB c.v.length ++ (c.v.map fun v => numB v.toNat).flatten)) (fun c => c.p.toNat ≤ 31 ∧ (c = ⟨(k : Int), (c.p.toNat : Int), c.v⟩ ∧ (c.v.length ≤ 32 ∧ (c.v.length = c.v.length ∧ ∀ v ∈ c.v, 0 ≤ v ∧ v ≤ 31)))) :=
  Codec.bind (countC 31 (by decide)) (fun p => chG2C k p) (fun c => c.p.toNat) (fun a st => rfl)
theorem chgB_parts (c : Chg) : chgB c = numB c.k.toNat ++ (numB c.p.toNat ++ (numB c.v.length ++ (c.v.map fun v => numB v.toNat).flatten)) := by
  unfold chgB countsB numsB
  simp [List.append_assoc, List.map_map, Function.comp_def]
theorem chgC : Codec chgS chgB ChgDom := by
  have h : Codec chgS (fun c : Chg => numB c.k.toNat ++ (numB c.p.toNat ++ (numB c.v.length ++ (c.v.map fun v => numB v.toNat).flatten))) (fun c => c.k.toNat ≤ 3 ∧ (c.p.toNat ≤ 31 ∧ (c = ⟨(c.k.toNat : Int), (c.p.toNat : Int), c.v⟩ ∧ (c.v.length ≤ 32 ∧ (c.v.length = c.v.length ∧ ∀ v ∈ c.v, 0 ≤ v ∧ v ≤ 31))))) :=
    Codec.bind (countC 3 (by decide)) (fun k => chG1C k) (fun c => c.k.toNat) (fun a st => rfl)
  rw [show (fun c : Chg => numB c.k.toNat ++ (numB c.p.toNat ++ (numB c.v.length ++ (c.v.map fun v => numB v.toNat).flatten))) = chgB from funext fun c => (chgB_parts c).symm] at h
  have hd : ∀ c : Chg, ChgDom c → c.k.toNat ≤ 3 ∧ (c.p.toNat ≤ 31 ∧ (c = ⟨(c.k.toNat : Int), (c.p.toNat : Int), c.v⟩ ∧ (c.v.length ≤ 32 ∧ (c.v.length = c.v.length ∧ ∀ v ∈ c.v, 0 ≤ v ∧ v ≤ 31)))) := fun c hc => by
    obtain ⟨k, p, v⟩ := c
    obtain ⟨h1, h2, h3, h4, h5, h6⟩ := hc
    simp only at h1 h2 h3 h4 h5 h6 ⊢
    exact ⟨by omega, by omega, by rw [Int.toNat_of_nonneg h1, Int.toNat_of_nonneg h3], h5, (by first | rfl | trivial), h6⟩
  exact ⟨fun x r hx => h.back x r (hd x hx), fun x p hx => h.cut x p (hd x hx), h.stick, h.spell, h.nil⟩
theorem chgB_len {c : Chg} (h : ChgDom c) : (chgB c).length ≤ 400 := by
  obtain ⟨h1, h2, h3, h4, h5, h6⟩ := h
  have e1 := countsB_len (ns := [c.k, c.p, (c.v.length : Int)]) (by intro x hx; simp at hx; omega)
  have e2 := countsB_len (ns := c.v) (by intro x hx; have := h6 x hx; omega)
  unfold chgB
  simp only [List.length_append]
  simp at e1
  omega
/-! ### A roster -/
def rosB (n : Nat) (e : Nat) : List UInt8 := numB n ++ numB e
theorem ros_back {n e : Nat} (hn : n < 4294967296) (he : e ≤ 1099511627776) (r : List UInt8) : rosS (rosB n e ++ r, 0) = ((r, 0), n, e) := by
  unfold rosS rosB
  have h1 : countS (numB n ++ (numB e ++ r), 0) 4294967295 = ((numB e ++ r, 0), n) := (countC 4294967295 (by decide)).back n (numB e ++ r) (by omega)
  have h2 : countS (numB e ++ r, 0) 1099511627776 = ((r, 0), e) := (countC 1099511627776 (by decide)).back e r he
  rw [List.append_assoc, h1]
  simp only
  rw [h2]
theorem sum_bits (p : Nat) : p % 2 ^ 32 = p % 4294967296 := rfl
end Go.Proofs.Ytcbadcbnknmdnaa
