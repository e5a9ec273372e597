/-
  Batches as bytes, and back: plain mathematics.
-/
import Derived.Test.YtcbadcbnknmdnaaCodec
import Derived.Test.YtcbadcbnknmdnaaVals
import Derived.Test.YtcbadcbnknmdnaaOrdText
namespace Go.Proofs.Ytcbadcbnknmdnaa
set_option linter.unusedVariables false

/-- Nothing is taken; an error, if there is one to tell. -/
theorem Codec.fail {α : Type} (a : α) (x : Nat) : Codec (fun st => (failS st x, a)) (fun _ => []) (fun y => y = a ∧ x = 0) where
  back y r h := by obtain ⟨rfl, rfl⟩ := h; simp [failS]
  cut y p h hp hne := absurd (List.prefix_nil.1 hp) hne
  stick e he := by show failS ([], e) x = _; unfold failS; rw [if_neg (fun h => he h.1)]
  spell l h := by
    have h' : (failS (l, 0) x).2 = 0 := h
    show l = [] ++ (failS (l, 0) x).1
    unfold failS at h' ⊢
    split at h'
    · rename_i hc; exact absurd h' hc.2
    · rename_i hc; rw [if_neg hc]; rfl
  nil l h := by
    have h' : (failS (l, 0) x).2 ≠ 0 := h
    show (failS (l, 0) x).1 = []
    unfold failS at h' ⊢
    split at h'
    · rename_i hc; rw [if_pos hc]
    · exact absurd rfl h'
def OrdDom (o : Ord) : Prop := checkN o = 0
theorem okN_zero {q : Bool} (h : okN q = 0) : q = true := by
  cases q
  · simp [okN] at h
  · rfl
theorem numQ_is {n : Int} (h : numQ n = true) : 1 ≤ n ∧ n < 1099511627776 := by simpa [numQ] using h
theorem placeQ_is {n : Int} (h : placeQ n = true) : -1000 ≤ n ∧ n ≤ 1000 := by simpa [placeQ] using h
theorem kindQ_is {n : Int} (h : kindQ n = true) : 0 ≤ n ∧ n ≤ 255 := by simpa [kindQ] using h
theorem ordDom_in {o : Ord} (h : OrdDom o) : OrdIn o := by
  obtain ⟨k, u, a, b⟩ := o
  unfold OrdDom checkN at h
  unfold OrdIn B64
  simp only at h ⊢
  by_cases h1 : k = 1
  · rw [if_pos h1] at h
    have := okN_zero h
    simp only [Bool.and_eq_true] at this
    have p := numQ_is this.1; have q := placeQ_is this.2.1; have r := placeQ_is this.2.2
    omega
  rw [if_neg h1] at h
  by_cases h2 : k = 2
  · rw [if_pos h2] at h
    have := okN_zero h
    simp only [Bool.and_eq_true, decide_eq_true_eq] at this
    have p := numQ_is this.1; have q := numQ_is this.2.1; have r := this.2.2
    omega
  rw [if_neg h2] at h
  by_cases h3 : k = 3
  · rw [if_pos h3] at h
    have := okN_zero h
    simp only [Bool.and_eq_true, decide_eq_true_eq] at this
    have p := this.1; have q := kindQ_is this.2.1; have r := placeQ_is this.2.2
    omega
  rw [if_neg h3] at h
  by_cases h4 : k = 4
  · rw [if_pos h4] at h
    have := okN_zero h
    simp only [Bool.and_eq_true, decide_eq_true_eq] at this
    have p := numQ_is this.1; have q := this.2.1; have r := this.2.2
    omega
  rw [if_neg h4] at h
  omega
def ordG3 (k u a b : Int) (st : St) : St × Ord := (failS st (checkN ⟨k, u, a, b⟩), ⟨k, u, a, b⟩)
def ordG2 (k u a : Int) (st : St) : St × Ord := ordG3 k u a (unzig (numS st).2) (numS st).1
def ordG1 (k u : Int) (st : St) : St × Ord := ordG2 k u (unzig (numS st).2) (numS st).1
def ordG0 (k : Int) (st : St) : St × Ord := ordG1 k ((countS st 1099511627776).2 : Nat) (countS st 1099511627776).1
theorem ordG3C (k u a b : Int) : Codec (ordG3 k u a b) (fun _ => []) (fun o => o = ⟨k, u, a, b⟩ ∧ checkN ⟨k, u, a, b⟩ = 0) := Codec.fail _ _
theorem ordG2C (k u a : Int) : Codec (ordG2 k u a) (fun o => numB (zig o.b)) (fun o => o.kind = k ∧ o.unit = u ∧ o.a = a ∧ OrdDom o) := by
  have h : Codec (ordG2 k u a) (fun o : Ord => numB (zig o.b) ++ []) (fun o => (-9223372036854775808 ≤ o.b ∧ o.b ≤ 9223372036854775807) ∧ (o = ⟨k, u, a, o.b⟩ ∧ checkN ⟨k, u, a, o.b⟩ = 0)) := Codec.bind intC (ordG3C k u a) (fun o => o.b) (fun b st => rfl)
  simp only [List.append_nil] at h
  have hd : ∀ o : Ord, (o.kind = k ∧ o.unit = u ∧ o.a = a ∧ OrdDom o) → (-9223372036854775808 ≤ o.b ∧ o.b ≤ 9223372036854775807) ∧ (o = ⟨k, u, a, o.b⟩ ∧ checkN ⟨k, u, a, o.b⟩ = 0) := by
    intro o ho
    have hi := ordDom_in ho.2.2.2
    obtain ⟨k', u', a', b'⟩ := o
    obtain ⟨rfl, rfl, rfl, hdom⟩ := ho
    exact ⟨hi.2.2.2.2.2, rfl, hdom⟩
  exact ⟨fun x r hx => h.back x r (hd x hx), fun x p hx => h.cut x p (hd x hx), h.stick, h.spell, h.nil⟩
theorem ordG1C (k u : Int) : Codec (ordG1 k u) (fun o => numB (zig o.a) ++ numB (zig o.b)) (fun o => o.kind = k ∧ o.unit = u ∧ OrdDom o) := by
  have h : Codec (ordG1 k u) (fun o : Ord => numB (zig o.a) ++ numB (zig o.b)) (fun o => (-9223372036854775808 ≤ o.a ∧ o.a ≤ 9223372036854775807) ∧ (o.kind = k ∧ o.unit = u ∧ o.a = o.a ∧ OrdDom o)) := Codec.bind intC (ordG2C k u) (fun o => o.a) (fun a st => rfl)
  have hd : ∀ o : Ord, (o.kind = k ∧ o.unit = u ∧ OrdDom o) → (-9223372036854775808 ≤ o.a ∧ o.a ≤ 9223372036854775807) ∧ (o.kind = k ∧ o.unit = u ∧ o.a = o.a ∧ OrdDom o) := fun o ho => ⟨(ordDom_in ho.2.2).2.2.2.2.1, ho.1, ho.2.1, rfl, ho.2.2⟩
  exact ⟨fun x r hx => h.back x r (hd x hx), fun x p hx => h.cut x p (hd x hx), h.stick, h.spell, h.nil⟩
theorem ordG0C (k : Int) : Codec (ordG0 k) (fun o => numB o.unit.toNat ++ (numB (zig o.a) ++ numB (zig o.b))) (fun o => o.kind = k ∧ OrdDom o) := by
  have h : Codec (ordG0 k) (fun o : Ord => numB o.unit.toNat ++ (numB (zig o.a) ++ numB (zig o.b))) (fun o => o.unit.toNat ≤ 1099511627776 ∧ (o.kind = k ∧ o.unit = (o.unit.toNat : Int) ∧ OrdDom o)) := Codec.bind (countC 1099511627776 (by decide)) (fun u => ordG1C k (u : Int)) (fun o => o.unit.toNat) (fun a st => rfl)
  have hd : ∀ o : Ord, (o.kind = k ∧ OrdDom o) → o.unit.toNat ≤ 1099511627776 ∧ (o.kind = k ∧ o.unit = (o.unit.toNat : Int) ∧ OrdDom o) := fun o ho => by
    have hi := ordDom_in ho.2
    have h3 := hi.2.2.1
    have h4 := hi.2.2.2.1
    exact ⟨by omega, ho.1, by omega, ho.2⟩
  exact ⟨fun x r hx => h.back x r (hd x hx), fun x p hx => h.cut x p (hd x hx), h.stick, h.spell, h.nil⟩
theorem orderC : Codec orderS ordB OrdDom := by
  have h : Codec orderS (fun o : Ord => numB o.kind.toNat ++ (numB o.unit.toNat ++ (numB (zig o.a) ++ numB (zig o.b)))) (fun o => o.kind.toNat ≤ 4 ∧ (o.kind = (o.kind.toNat : Int) ∧ OrdDom o)) := Codec.bind (countC 4 (by decide)) (fun k => ordG0C (k : Int)) (fun o => o.kind.toNat) (fun a st => rfl)
  have e2 : (fun o : Ord => numB o.kind.toNat ++ (numB o.unit.toNat ++ (numB (zig o.a) ++ numB (zig o.b)))) = ordB := by
    funext o; rw [ordB_parts]; simp only [List.append_assoc]
  rw [e2] at h
  have hd : ∀ o : Ord, OrdDom o → o.kind.toNat ≤ 4 ∧ (o.kind = (o.kind.toNat : Int) ∧ OrdDom o) := fun o ho => by
    have hi := ordDom_in ho
    have h1 := hi.1
    have h2 := hi.2.1
    exact ⟨by omega, by omega, ho⟩
  exact ⟨fun x r hx => h.back x r (hd x hx), fun x p hx => h.cut x p (hd x hx), h.stick, h.spell, h.nil⟩
def BatchDom (l : List Ord) : Prop := l.length ≤ 8 ∧ ∀ o ∈ l, OrdDom o
theorem batchC : Codec batchS batchB BatchDom := by
  have h : Codec batchS (fun m : List Ord => numB m.length ++ (m.map ordB).flatten) (fun m => m.length ≤ 8 ∧ (m.length = m.length ∧ ∀ f ∈ m, OrdDom f)) := Codec.bind (countC 8 (by decide)) (fun n => orderC.run n) (fun m => m.length) (fun n st => runS_len orderS n st)
  have e2 : (fun m : List Ord => numB m.length ++ (m.map ordB).flatten) = batchB := by
    funext m; unfold batchB; simp [countsB, numsB, ordsB]
  rw [e2] at h
  exact ⟨fun x r hx => h.back x r ⟨hx.1, rfl, hx.2⟩, fun x p hx => h.cut x p ⟨hx.1, rfl, hx.2⟩, h.stick, h.spell, h.nil⟩
theorem firstN_dom {l : List Ord} (h : firstN l = 0) : ∀ o ∈ l, OrdDom o := by
  induction l with
  | nil => intro o ho; simp at ho
  | cons x l ih =>
    unfold firstN at h
    split at h
    · rename_i hx; exact absurd h hx
    · rename_i hx
      intro o ho
      rcases List.mem_cons.1 ho with rfl | ho
      · exact Classical.not_not.1 hx
      · exact ih h o ho
theorem batchN_dom {l : List Ord} (h : batchN l = 0) : BatchDom l := by
  unfold batchN at h
  split at h
  · omega
  · rename_i hl
    exact ⟨by omega, firstN_dom h⟩
theorem batchN_of {l : List Ord} (h : BatchDom l) : batchN l = 0 := by
  unfold batchN
  rw [if_neg (by have := h.1; omega)]
  have h2 := h.2
  clear h
  induction l with
  | nil => rfl
  | cons x l ih =>
    unfold firstN
    rw [if_neg (by have := h2 x (by simp); simpa [OrdDom] using this)]
    exact ih (fun o ho => h2 o (by simp [ho]))
/-- A batch of bytes, the error. -/
def parseO (l : List UInt8) : List Ord × Nat := if (endS (batchS (l, 0)).1).2 ≠ 0 then ([], (endS (batchS (l, 0)).1).2) else ((batchS (l, 0)).2, 0)
theorem parseO_back (m : List Ord) (h : BatchDom m) : parseO (batchB m) = (m, 0) := by
  have := batchC.back m [] h
  rw [List.append_nil] at this
  unfold parseO
  rw [this]
  rfl
theorem parseO_more (m : List Ord) (h : BatchDom m) (b : UInt8) (r : List UInt8) : parseO (batchB m ++ b :: r) = ([], 2) := by
  unfold parseO
  rw [batchC.back m (b :: r) h]
  simp [endS, failS]
theorem parseO_cut (m : List Ord) (h : BatchDom m) (p : List UInt8) (hp : p <+: batchB m) (hne : p ≠ batchB m) : parseO p = ([], 1) := by
  unfold parseO
  rw [batchC.cut m p h hp hne]
  simp [endS]
theorem parseO_err (l : List UInt8) (h : (endS (batchS (l, 0)).1).2 = 0) : (batchS (l, 0)).1.2 = 0 := by
  unfold endS at h
  split at h
  · unfold failS at h
    split at h
    · simp at h
    · exact h
  · exact h
theorem batchB_pos (m : List Ord) : 0 < (batchB m).length := by
  unfold batchB
  have : 0 < (countsB [(m.length : Int)]).length := by
    simp only [countsB, numsB, List.map_cons, List.map_nil, List.flatten_cons, List.flatten_nil, List.append_nil]
    by_cases h : ((m.length : Int).toNat) < 128
    · rw [numB_lt h]; simp
    · rw [numB_ge (by omega)]; simp
  rw [List.length_append]; omega
end Go.Proofs.Ytcbadcbnknmdnaa
