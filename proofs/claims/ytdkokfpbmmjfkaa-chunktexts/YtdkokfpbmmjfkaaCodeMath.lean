/-
  Images as bytes, and back: plain mathematics.
-/
import Derived.Test.YtdkokfpbmmjfkaaCodec
namespace Go.Proofs.Ytdkokfpbmmjfkaa
set_option linter.unusedVariables false

/-- An instruction that is one, with an argument where it has one. -/
def InsDom (x : Nat × Int) : Prop := 1 ≤ x.1 ∧ x.1 ≤ 22 ∧ InsOk x ∧ (hasA x.1 = false → x.2 = 0)
def FnDom (f : Fn) : Prop := 0 ≤ f.args ∧ f.args ≤ 16 ∧ 0 ≤ f.locals ∧ f.locals ≤ 16 ∧ f.code.length ≤ 128 ∧ ∀ x ∈ f.code, InsDom x
def ImgDom (m : List Fn) : Prop := m.length ≤ 16 ∧ ∀ f ∈ m, FnDom f
def insG (o : Nat) (st : St) : St × (Nat × Int) := if hasA o then ((numS st).1, (o, unzig (numS st).2)) else (if o = 0 then failS st 14 else st, (o, 0))
def insE (x : Nat × Int) : List UInt8 := if hasA x.1 then numB (zig x.2) else []
theorem insGC (o : Nat) : Codec (insG o) insE (fun x => x.1 = o ∧ 1 ≤ x.1 ∧ InsOk x ∧ (hasA x.1 = false → x.2 = 0)) := by
  cases hA : hasA o
  · by_cases h0 : o = 0
    · subst h0
      have hf : ∀ st, insG 0 st = (failS st 14, (0, 0)) := fun st => rfl
      refine ⟨fun x r h => absurd h.2.1 (by rw [h.1]; decide), fun x p h hp hne => absurd h.2.1 (by rw [h.1]; decide), fun e he => ?_, fun l h => ?_, fun l h => ?_⟩
      · rw [hf]; unfold failS; rw [if_neg (fun h => he h.1)]
      · rw [hf] at h; unfold failS at h; simp at h
      · rw [hf]; unfold failS; simp
    · have hf : ∀ st, insG o st = (st, (o, 0)) := fun st => by unfold insG; rw [hA, if_neg h0]; simp
      have he : ∀ y : Int, insE (o, y) = [] := fun y => by unfold insE; simp [hA]
      refine ⟨fun x r h => ?_, fun x p h hp hne => ?_, fun e he => by rw [hf], fun l h => ?_, fun l h => ?_⟩
      · obtain ⟨x1, x2⟩ := x
        obtain ⟨rfl, _, _, h3⟩ := h
        have := h3 hA
        simp only at this
        subst this
        rw [hf, he]; rfl
      · obtain ⟨x1, x2⟩ := x
        obtain ⟨rfl, _, _, h3⟩ := h
        rw [he] at hp hne
        exact absurd (List.prefix_nil.1 hp) hne
      · rw [hf, he]; rfl
      · rw [hf] at h; exact absurd rfl h
  · have hf : ∀ st, insG o st = ((numS st).1, (o, unzig (numS st).2)) := fun st => by unfold insG; rw [hA]; simp
    have he : ∀ y : Int, insE (o, y) = numB (zig y) := fun y => by unfold insE; simp [hA]
    refine ⟨fun x r h => ?_, fun x p h hp hne => ?_, fun e he => ?_, fun l h => ?_, fun l h => ?_⟩
    · obtain ⟨x1, x2⟩ := x
      obtain ⟨rfl, _, h2, _⟩ := h
      have := intC.back x2 r h2.2
      rw [hf, he, (Prod.mk.inj this).1]
      rw [(Prod.mk.inj this).2]
    · obtain ⟨x1, x2⟩ := x
      obtain ⟨rfl, _, h2, _⟩ := h
      rw [he] at hp hne
      rw [hf]
      exact intC.cut x2 p h2.2 hp hne
    · rw [hf]; exact intC.stick e he
    · rw [hf] at h ⊢; rw [he]; exact intC.spell l h
    · rw [hf] at h ⊢; exact intC.nil l h
theorem insC : Codec insS insB InsDom := by
  have h := Codec.bind (countC 22 (by decide)) insGC (fun x => x.1) (fun a st => by unfold insG; split <;> rfl)
  have e1 : (fun st => insG ((fun st => countS st ((22 : Nat) : Int)) st).2 ((fun st => countS st ((22 : Nat) : Int)) st).1) = insS := rfl
  have e2 : (fun x : Nat × Int => numB x.1 ++ insE x) = insB := rfl
  rw [e1, e2] at h
  exact ⟨fun x r hx => h.back x r ⟨hx.2.1, rfl, hx.1, hx.2.2⟩, fun x p hx => h.cut x p ⟨hx.2.1, rfl, hx.1, hx.2.2⟩, h.stick, h.spell, h.nil⟩
/-- The instructions of a function, its arguments and locals known. -/
def fnG2 (a b n : Nat) (st : St) : St × Fn := ((runS insS n st).1, ⟨a, b, (runS insS n st).2⟩)
def fnG1 (a b : Nat) (st : St) : St × Fn := fnG2 a b (countS st 128).2 (countS st 128).1
def fnG0 (a : Nat) (st : St) : St × Fn := fnG1 a (countS st 16).2 (countS st 16).1
theorem fnS_eq (st : St) : fnS st = fnG0 (countS st 16).2 (countS st 16).1 := rfl
theorem fnG2C (a b n : Nat) : Codec (fnG2 a b n) (fun f => codeB f.code) (fun f => f.args = a ∧ f.locals = b ∧ f.code.length = n ∧ ∀ x ∈ f.code, InsDom x) :=
  (insC.run n).map (fun l => (⟨a, b, l⟩ : Fn)) Fn.code _ (fun y h => ⟨⟨h.2.2.1, h.2.2.2⟩, by obtain ⟨ar, lo, co⟩ := y; obtain ⟨h1, h2, _⟩ := h; simp only at h1 h2; rw [h1, h2]⟩) (fun st => rfl)
theorem fnG1C (a b : Nat) : Codec (fnG1 a b) (fun f => numB f.code.length ++ codeB f.code) (fun f => f.args = a ∧ f.locals = b ∧ f.code.length ≤ 128 ∧ ∀ x ∈ f.code, InsDom x) := by
  have h := Codec.bind (countC 128 (by decide)) (fnG2C a b) (fun f => f.code.length) (fun n st => runS_len insS n st)
  exact ⟨fun x r hx => h.back x r ⟨hx.2.2.1, hx.1, hx.2.1, rfl, hx.2.2.2⟩, fun x p hx => h.cut x p ⟨hx.2.2.1, hx.1, hx.2.1, rfl, hx.2.2.2⟩, h.stick, h.spell, h.nil⟩
theorem fnG0C (a : Nat) : Codec (fnG0 a) (fun f => numB f.locals.toNat ++ (numB f.code.length ++ codeB f.code)) (fun f => f.args = a ∧ 0 ≤ f.locals ∧ f.locals ≤ 16 ∧ f.code.length ≤ 128 ∧ ∀ x ∈ f.code, InsDom x) := by
  have h := Codec.bind (countC 16 (by decide)) (fnG1C a) (fun f => f.locals.toNat) (fun n st => rfl)
  exact ⟨fun x r hx => h.back x r ⟨by have := hx.2.2.1; omega, hx.1, by have := hx.2.1; omega, hx.2.2.2⟩, fun x p hx => h.cut x p ⟨by have := hx.2.2.1; omega, hx.1, by have := hx.2.1; omega, hx.2.2.2⟩, h.stick, h.spell, h.nil⟩
theorem counts3 (a b : Int) (n : Nat) : countsB [a, b, (n : Int)] = numB a.toNat ++ (numB b.toNat ++ numB n) := by simp [countsB, numsB]
theorem counts1 (n : Nat) : countsB [(n : Int)] = numB n := by simp [countsB, numsB]
theorem fnC : Codec fnS fnB FnDom := by
  have h : Codec fnS (fun f : Fn => numB f.args.toNat ++ (numB f.locals.toNat ++ (numB f.code.length ++ codeB f.code))) (fun f => f.args.toNat ≤ 16 ∧ (f.args = (f.args.toNat : Int) ∧ 0 ≤ f.locals ∧ f.locals ≤ 16 ∧ f.code.length ≤ 128 ∧ ∀ x ∈ f.code, InsDom x)) := Codec.bind (countC 16 (by decide)) fnG0C (fun f => f.args.toNat) (fun n st => rfl)
  have e2 : (fun f : Fn => numB f.args.toNat ++ (numB f.locals.toNat ++ (numB f.code.length ++ codeB f.code))) = fnB := by
    funext f; unfold fnB; rw [counts3]; simp [List.append_assoc]
  rw [e2] at h
  exact ⟨fun x r hx => h.back x r ⟨by have := hx.2.1; omega, by have := hx.1; omega, hx.2.2⟩, fun x p hx => h.cut x p ⟨by have := hx.2.1; omega, by have := hx.1; omega, hx.2.2⟩, h.stick, h.spell, h.nil⟩
def imgS (st : St) : St × List Fn := runS fnS (countS st 16).2 (countS st 16).1
theorem imgC : Codec imgS textB ImgDom := by
  have h : Codec imgS (fun m : List Fn => numB m.length ++ (m.map fnB).flatten) (fun m => m.length ≤ 16 ∧ (m.length = m.length ∧ ∀ f ∈ m, FnDom f)) := Codec.bind (countC 16 (by decide)) (fun n => fnC.run n) (fun m => m.length) (fun n st => runS_len fnS n st)
  have e2 : (fun m : List Fn => numB m.length ++ (m.map fnB).flatten) = textB := by
    funext m; unfold textB; rw [counts1]; rfl
  rw [e2] at h
  exact ⟨fun x r hx => h.back x r ⟨hx.1, rfl, hx.2⟩, fun x p hx => h.cut x p ⟨hx.1, rfl, hx.2⟩, h.stick, h.spell, h.nil⟩
theorem parseS_eq (l : List UInt8) : parseS l = if (endS (imgS (l, 0)).1).2 ≠ 0 then ([], (endS (imgS (l, 0)).1).2) else ((imgS (l, 0)).2, 0) := rfl
theorem parse_back (m : List Fn) (h : ImgDom m) : parseS (textB m) = (m, 0) := by
  have := imgC.back m [] h
  rw [List.append_nil] at this
  rw [parseS_eq, this]
  rfl
theorem parse_more (m : List Fn) (h : ImgDom m) (b : UInt8) (r : List UInt8) : parseS (textB m ++ b :: r) = ([], 2) := by
  rw [parseS_eq, imgC.back m (b :: r) h]
  simp [endS, failS]
theorem parse_cut (m : List Fn) (h : ImgDom m) (p : List UInt8) (hp : p <+: textB m) (hne : p ≠ textB m) : parseS p = ([], 1) := by
  rw [parseS_eq, imgC.cut m p h hp hne]
  simp [endS]
theorem parse_spelt (l : List UInt8) (h : (parseS l).2 = 0) : textB (parseS l).1 = l := by
  rw [parseS_eq] at h ⊢
  by_cases he : (endS (imgS (l, 0)).1).2 = 0
  · rw [if_neg (by simpa using he)]
    unfold endS at he
    by_cases hl : 0 < (imgS (l, 0)).1.1.length
    · rw [if_pos hl] at he
      unfold failS at he
      split at he
      · simp at he
      · rename_i h2
        exact absurd ⟨he, by decide⟩ h2
    · rw [if_neg hl] at he
      have h1 := imgC.spell l he
      have h2 : (imgS (l, 0)).1.1 = [] := List.eq_nil_of_length_eq_zero (by omega)
      rw [h2, List.append_nil] at h1
      exact h1.symm
  · rw [if_pos he] at h
    exact absurd h he
/-- What is read has numbers that fit. -/
theorem insS_ok (st : St) : InsOk (insS st).2 := by
  have hle : (countS st 22).2 ≤ 22 := countS_le st 22
  unfold insS
  split
  · have hlt := numS_lt (countS st 22).1
    refine ⟨by show (countS st 22).2 < 256; omega, ?_, ?_⟩
    · show -9223372036854775808 ≤ unzig (numS (countS st 22).1).2
      unfold unzig; split <;> omega
    · show unzig (numS (countS st 22).1).2 ≤ 9223372036854775807
      unfold unzig; split <;> omega
  · exact ⟨by show (countS st 22).2 < 256; omega, by show (-9223372036854775808 : Int) ≤ 0; decide, by show (0 : Int) ≤ 9223372036854775807; decide⟩
theorem runS_all {α : Type} {f : St → St × α} {P : α → Prop} (hf : ∀ st, P (f st).2) (n : Nat) (st : St) : ∀ x ∈ (runS f n st).2, P x := by
  induction n with
  | zero => intro x hx; simp [runS] at hx
  | succ n ih =>
    intro x hx
    simp only [runS, List.mem_append, List.mem_singleton] at hx
    rcases hx with hx | rfl
    · exact ih x hx
    · exact hf _
theorem fnS_ok (st : St) : FnOk (fnS st).2 := by
  have h1 : (countS st 16).2 ≤ 16 := countS_le st 16
  have h2 : (countS (countS st 16).1 16).2 ≤ 16 := countS_le (countS st 16).1 16
  have h3 : (countS (countS (countS st 16).1 16).1 128).2 ≤ 128 := countS_le (countS (countS st 16).1 16).1 128
  have e : (fnS st).2 = ⟨((countS st 16).2 : Nat), ((countS (countS st 16).1 16).2 : Nat), (runS insS (countS (countS (countS st 16).1 16).1 128).2 (countS (countS (countS st 16).1 16).1 128).1).2⟩ := rfl
  have h4 := runS_len insS (countS (countS (countS st 16).1 16).1 128).2 (countS (countS (countS st 16).1 16).1 128).1
  have h5 := runS_all insS_ok (countS (countS (countS st 16).1 16).1 128).2 (countS (countS (countS st 16).1 16).1 128).1
  rw [e]
  generalize runS insS (countS (countS (countS st 16).1 16).1 128).2 (countS (countS (countS st 16).1 16).1 128).1 = q at h4 h5
  generalize (countS st 16).2 = x at h1
  generalize (countS (countS st 16).1 16).2 = y at h2
  exact ⟨by simp only; omega, by simp only; omega, by simp only; omega, by simp only; omega, by simp only; omega, h5⟩
theorem parse_ok (l : List UInt8) : ImgOk (parseS l).1 := by
  rw [parseS_eq]
  split
  · exact ⟨Nat.zero_le _, by simp⟩
  · have h1 : (countS (l, 0) 16).2 ≤ 16 := countS_le (l, 0) 16
    have h2 := runS_len fnS (countS (l, 0) 16).2 (countS (l, 0) 16).1
    refine ⟨?_, fun f hf => runS_all fnS_ok _ _ f hf⟩
    show (runS fnS (countS (l, 0) 16).2 (countS (l, 0) 16).1).2.length ≤ 1000
    omega
end Go.Proofs.Ytdkokfpbmmjfkaa
