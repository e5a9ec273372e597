/-
  Layer 8: a table out of bytes: plain mathematics of the reader.
-/
import Derived.Test.YtcbadcbnknmdnaaOrdMath
import Derived.Test.YtcbadcbnknmdnaaUnB
namespace Go.Proofs.Ytcbadcbnknmdnaa
open Go.RowKit
set_option linter.unusedVariables false

theorem Codec.sub {α : Type} {f : St → St × α} {enc : α → List UInt8} {dom dom' : α → Prop} (h : Codec f enc dom) (hd : ∀ x, dom' x → dom x) : Codec f enc dom' :=
  ⟨fun x r hx => h.back x r (hd x hx), fun x p hx => h.cut x p (hd x hx), h.stick, h.spell, h.nil⟩
theorem Codec.same {α : Type} {f : St → St × α} {enc enc' : α → List UInt8} {dom : α → Prop} (h : Codec f enc dom) (e : ∀ x, enc x = enc' x) : Codec f enc' dom := by
  have : enc = enc' := funext e
  exact this ▸ h
theorem failS_zero {st : St} {x : Nat} (h : (failS st x).2 = 0) : st.2 = 0 ∧ x = 0 := by
  unfold failS at h
  split at h
  · rename_i hc; exact absurd h hc.2
  · rename_i hc
    refine ⟨h, ?_⟩
    rcases Nat.eq_zero_or_pos x with e | e
    · exact e
    · exact absurd ⟨h, by omega⟩ hc
theorem numS_zero {st : St} (h : (numS st).1.2 = 0) : st.2 = 0 := by
  unfold numS at h
  split at h
  · exact (failS_zero h).1
  · exact h
theorem countS_zero {st : St} {m : Int} (h : (countS st m).1.2 = 0) : st.2 = 0 := by
  unfold countS at h
  split at h
  · exact numS_zero (failS_zero h).1
  · exact numS_zero h
/-- A field, as the reader takes it. -/
def fieldS (f : Nat) (st : St) : St × Int := (failS (numS st).1 (if mayN f (unzig (numS st).2) then 0 else 4), unzig (numS st).2)
theorem may_bound {f : Nat} {x : Int} (h : mayN f x = true) : -9223372036854775808 ≤ x ∧ x ≤ 9223372036854775807 := by
  unfold mayN at h
  split at h
  · simp at h; omega
  · split at h
    · simp at h; omega
    · simp at h; omega
theorem fieldC (f : Nat) : Codec (fieldS f) (fun x => numB (zig x)) (fun x => mayN f x = true) := by
  have h : Codec (fieldS f) (fun x : Int => numB (zig x) ++ []) (fun x => (-9223372036854775808 ≤ x ∧ x ≤ 9223372036854775807) ∧ (x = x ∧ (if mayN f x then 0 else 4) = 0)) :=
    Codec.bind intC (fun x => Codec.fail x (if mayN f x then 0 else 4)) (fun x => x) (fun a st => rfl)
  exact (h.same fun x => List.append_nil _).sub fun x hx => ⟨may_bound hx, rfl, by rw [hx]; rfl⟩
theorem fieldS_zero {f : Nat} {st : St} (h : (fieldS f st).1.2 = 0) : st.2 = 0 ∧ mayN f (fieldS f st).2 = true := by
  obtain ⟨h1, h2⟩ := failS_zero (st := (numS st).1) h
  refine ⟨numS_zero h1, ?_⟩
  show mayN f (unzig (numS st).2) = true
  by_cases hm : mayN f (unzig (numS st).2) = true
  · exact hm
  · rw [if_neg hm] at h2; omega
theorem fieldS_stOk {f : Nat} {st : St} (h : StOk st) : StOk (fieldS f st).1 := failS_stOk (numS_stOk h)
/-- The first so many fields; the fields' reader, and the reader of numbers, are told (so that nothing looks into them). -/
def fsG (F : Nat → St → St × Int) : Nat → St → St × List Int
  | 0, st => (st, [])
  | k + 1, st => ((F k (fsG F k st).1).1, (fsG F k st).2 ++ [(F k (fsG F k st).1).2])
theorem fsG_succ (F : Nat → St → St × Int) (k : Nat) (st : St) : fsG F (k + 1) st = ((F k (fsG F k st).1).1, (fsG F k st).2 ++ [(F k (fsG F k st).1).2]) := rfl
theorem fsG_len (F : Nat → St → St × Int) (k : Nat) (st : St) : (fsG F k st).2.length = k := by
  induction k with
  | zero => rfl
  | succ k ih => simp [fsG, ih]
def unOf (id : Int) (l : List Int) : Un := ⟨id, l.getD 0 0, l.getD 1 0, l.getD 2 0, l.getD 3 0, l.getD 4 0⟩
/-- A unit behind one of the number `last`. -/
def rdG (F : Nat → St → St × Int) (C : St → St × Nat) (last : Int) (st : St) : St × Un := ((fsG F 5 (C st).1).1, unOf (last + ((C st).2 : Nat)) (fsG F 5 (C st).1).2)
theorem rdG_eq (F : Nat → St → St × Int) (C : St → St × Nat) (last : Int) (st : St) : rdG F C last st = ((fsG F 5 (C st).1).1, unOf (last + ((C st).2 : Nat)) (fsG F 5 (C st).1).2) := rfl
def ordE (last next : Int) (u : Un) : Nat := if u.id = last ∨ next ≤ u.id then 12 else 0
/-- A unit in its order. -/
def oneG (F : Nat → St → St × Int) (C : St → St × Nat) (last next : Int) (st : St) : St × Un := (failS (rdG F C last st).1 (ordE last next (rdG F C last st).2), (rdG F C last st).2)
/-- So many units behind one of the number `last`. -/
def unsG (O : Int → St → St × Un) (last : Int) : Nat → St → St × List Un
  | 0, st => (st, [])
  | k + 1, st => ((O (lastId last (unsG O last k st).2) (unsG O last k st).1).1, (unsG O last k st).2 ++ [(O (lastId last (unsG O last k st).2) (unsG O last k st).1).2])
theorem unsG_succ (O : Int → St → St × Un) (last : Int) (k : Nat) (st : St) : unsG O last (k + 1) st = ((O (lastId last (unsG O last k st).2) (unsG O last k st).1).1, (unsG O last k st).2 ++ [(O (lastId last (unsG O last k st).2) (unsG O last k st).1).2]) := rfl
theorem unsG_cons (O : Int → St → St × Un) (last : Int) (n : Nat) (st : St) : unsG O last (n + 1) st = ((unsG O (O last st).2.id n (O last st).1).1, (O last st).2 :: (unsG O (O last st).2.id n (O last st).1).2) := by
  induction n with
  | zero => rfl
  | succ n ih =>
    rw [unsG, ih]
    rfl
theorem unsG_len (O : Int → St → St × Un) (last : Int) (k : Nat) (st : St) : (unsG O last k st).2.length = k := by
  induction k with
  | zero => rfl
  | succ k ih => simp [unsG, ih]
def rd5 (F : Nat → St → St × Int) (id a b c d : Int) (st : St) : St × Un := ((F 4 st).1, ⟨id, a, b, c, d, (F 4 st).2⟩)
def rd4 (F : Nat → St → St × Int) (id a b c : Int) (st : St) : St × Un := rd5 F id a b c (F 3 st).2 (F 3 st).1
def rd3 (F : Nat → St → St × Int) (id a b : Int) (st : St) : St × Un := rd4 F id a b (F 2 st).2 (F 2 st).1
def rd2 (F : Nat → St → St × Int) (id a : Int) (st : St) : St × Un := rd3 F id a (F 1 st).2 (F 1 st).1
def rd1 (F : Nat → St → St × Int) (id : Int) (st : St) : St × Un := rd2 F id (F 0 st).2 (F 0 st).1
theorem rdG_is (F : Nat → St → St × Int) (C : St → St × Nat) (last : Int) (st : St) : rdG F C last st = rd1 F (last + ((C st).2 : Nat)) (C st).1 := rfl
/-- What is told of the fields' reader. -/
structure FldR (F : Nat → St → St × Int) : Prop where
  cod : ∀ f, Codec (F f) (fun x => numB (zig x)) (fun x => mayN f x = true)
  zero : ∀ f st, (F f st).1.2 = 0 → st.2 = 0 ∧ mayN f (F f st).2 = true
  ok : ∀ f st, StOk st → StOk (F f st).1
theorem fldR : FldR fieldS := ⟨fieldC, fun f st h => fieldS_zero h, fun f st h => fieldS_stOk h⟩
structure CntR (m : Nat) (C : St → St × Nat) : Prop where
  cod : Codec C numB (fun n => n ≤ m)
  zero : ∀ st, (C st).1.2 = 0 → st.2 = 0
  ok : ∀ st, StOk st → StOk (C st).1
  le : ∀ st, (C st).2 ≤ m
def cntS (m : Nat) (st : St) : St × Nat := countS st (m : Int)
theorem cntR (m : Nat) (h : m < 18446744073709551616) : CntR m (cntS m) := ⟨countC m h, fun st h => countS_zero h, fun st h => countS_stOk h, fun st => countS_le st m⟩
theorem rd5C {F : Nat → St → St × Int} (hF : FldR F) (id a b c d : Int) : Codec (rd5 F id a b c d) (fun u => numB (zig u.health)) (fun u => mayN 4 u.health = true ∧ u = ⟨id, a, b, c, d, u.health⟩) := by
  have h : Codec (rd5 F id a b c d) (fun u : Un => numB (zig u.health) ++ []) (fun u => mayN 4 u.health = true ∧ u = ⟨id, a, b, c, d, u.health⟩) :=
    Codec.bind (hF.cod 4) (fun x => Codec.unit (⟨id, a, b, c, d, x⟩ : Un)) (fun u => u.health) (fun a st => rfl)
  exact h.same fun x => List.append_nil _
theorem rd4C {F : Nat → St → St × Int} (hF : FldR F) (id a b c : Int) : Codec (rd4 F id a b c) (fun u => numB (zig u.y) ++ numB (zig u.health)) (fun u => mayN 3 u.y = true ∧ (mayN 4 u.health = true ∧ u = ⟨id, a, b, c, u.y, u.health⟩)) :=
  Codec.bind (hF.cod 3) (fun x => rd5C hF id a b c x) (fun u => u.y) (fun a st => rfl)
theorem rd3C {F : Nat → St → St × Int} (hF : FldR F) (id a b : Int) : Codec (rd3 F id a b) (fun u => numB (zig u.x) ++ (numB (zig u.y) ++ numB (zig u.health))) (fun u => mayN 2 u.x = true ∧ (mayN 3 u.y = true ∧ (mayN 4 u.health = true ∧ u = ⟨id, a, b, u.x, u.y, u.health⟩))) :=
  Codec.bind (hF.cod 2) (fun x => rd4C hF id a b x) (fun u => u.x) (fun a st => rfl)
theorem rd2C {F : Nat → St → St × Int} (hF : FldR F) (id a : Int) : Codec (rd2 F id a) (fun u => numB (zig u.owner) ++ (numB (zig u.x) ++ (numB (zig u.y) ++ numB (zig u.health)))) (fun u => mayN 1 u.owner = true ∧ (mayN 2 u.x = true ∧ (mayN 3 u.y = true ∧ (mayN 4 u.health = true ∧ u = ⟨id, a, u.owner, u.x, u.y, u.health⟩)))) :=
  Codec.bind (hF.cod 1) (fun x => rd3C hF id a x) (fun u => u.owner) (fun a st => rfl)
theorem rd1C {F : Nat → St → St × Int} (hF : FldR F) (id : Int) : Codec (rd1 F id) (fun u => numB (zig u.kind) ++ (numB (zig u.owner) ++ (numB (zig u.x) ++ (numB (zig u.y) ++ numB (zig u.health))))) (fun u => mayN 0 u.kind = true ∧ (mayN 1 u.owner = true ∧ (mayN 2 u.x = true ∧ (mayN 3 u.y = true ∧ (mayN 4 u.health = true ∧ u = ⟨id, u.kind, u.owner, u.x, u.y, u.health⟩))))) :=
  Codec.bind (hF.cod 0) (fun x => rd2C hF id x) (fun u => u.kind) (fun a st => rfl)
theorem unB_is (last : Int) (u : Un) : numB (u.id - last).toNat ++ (numB (zig u.kind) ++ (numB (zig u.owner) ++ (numB (zig u.x) ++ (numB (zig u.y) ++ numB (zig u.health))))) = unB last u := by
  simp [unB, numsB, intsB, Un.ints]
theorem rdC {F : Nat → St → St × Int} (hF : FldR F) {C : St → St × Nat} (hC : CntR 1099511627776 C) (last : Int) : Codec (rdG F C last) (unB last) (fun u => UnMay u ∧ last ≤ u.id ∧ u.id - last ≤ 1099511627776) := by
  have h : Codec (fun st => rd1 F (last + ((C st).2 : Nat)) (C st).1) (fun u : Un => numB (u.id - last).toNat ++ (numB (zig u.kind) ++ (numB (zig u.owner) ++ (numB (zig u.x) ++ (numB (zig u.y) ++ numB (zig u.health)))))) (fun u => (u.id - last).toNat ≤ 1099511627776 ∧ (mayN 0 u.kind = true ∧ (mayN 1 u.owner = true ∧ (mayN 2 u.x = true ∧ (mayN 3 u.y = true ∧ (mayN 4 u.health = true ∧ u = ⟨last + (((u.id - last).toNat : Nat) : Int), u.kind, u.owner, u.x, u.y, u.health⟩)))))) :=
    Codec.bind hC.cod (fun n => rd1C hF (last + (n : Int))) (fun u => (u.id - last).toNat) (fun a st => by show (last + (a : Int) - last).toNat = a; omega)
  have e : rdG F C last = (fun st => rd1 F (last + ((C st).2 : Nat)) (C st).1) := funext fun st => rdG_is F C last st
  rw [e]
  refine (h.same fun x => unB_is last x).sub fun u hu => ?_
  obtain ⟨⟨m0, m1, m2, m3, m4⟩, h1, h2⟩ := hu
  refine ⟨by omega, m0, m1, m2, m3, m4, ?_⟩
  rw [show last + (((u.id - last).toNat : Nat) : Int) = u.id by omega]
theorem rdG_zero {F : Nat → St → St × Int} (hF : FldR F) {C : St → St × Nat} (hC : CntR 1099511627776 C) {last : Int} {st : St} (h : (rdG F C last st).1.2 = 0) : st.2 = 0 ∧ UnMay (rdG F C last st).2 := by
  have h' : (F 4 (fsG F 4 (C st).1).1).1.2 = 0 := h
  obtain ⟨h4, m4⟩ := hF.zero _ _ h'
  obtain ⟨h3, m3⟩ := hF.zero 3 (fsG F 3 (C st).1).1 h4
  obtain ⟨h2, m2⟩ := hF.zero 2 (fsG F 2 (C st).1).1 h3
  obtain ⟨h1, m1⟩ := hF.zero 1 (fsG F 1 (C st).1).1 h2
  obtain ⟨h0, m0⟩ := hF.zero 0 (C st).1 h1
  exact ⟨hC.zero _ h0, m0, m1, m2, m3, m4⟩
theorem rdG_id {F : Nat → St → St × Int} {C : St → St × Nat} (hC : CntR 1099511627776 C) (last : Int) (st : St) : last ≤ (rdG F C last st).2.id ∧ (rdG F C last st).2.id ≤ last + 1099511627776 := by
  have h := hC.le st
  show last ≤ last + ((C st).2 : Nat) ∧ last + ((C st).2 : Nat) ≤ last + 1099511627776
  omega
theorem fsG_stOk {F : Nat → St → St × Int} (hF : FldR F) {k : Nat} {st : St} (h : StOk st) : StOk (fsG F k st).1 := by
  induction k with
  | zero => exact h
  | succ k ih => exact hF.ok _ _ ih
theorem rdG_stOk {F : Nat → St → St × Int} (hF : FldR F) {C : St → St × Nat} (hC : CntR 1099511627776 C) {last : Int} {st : St} (h : StOk st) : StOk (rdG F C last st).1 := fsG_stOk hF (hC.ok _ h)
theorem oneGC {F : Nat → St → St × Int} (hF : FldR F) {C : St → St × Nat} (hC : CntR 1099511627776 C) (last next : Int) : Codec (oneG F C last next) (unB last) (fun u => UnMay u ∧ last < u.id ∧ u.id < next ∧ u.id - last ≤ 1099511627776) := by
  have h : Codec (oneG F C last next) (fun u : Un => unB last u ++ []) (fun u => (UnMay u ∧ last ≤ u.id ∧ u.id - last ≤ 1099511627776) ∧ (u = u ∧ ordE last next u = 0)) :=
    Codec.bind (rdC hF hC last) (fun u => Codec.fail u (ordE last next u)) (fun u => u) (fun a st => rfl)
  refine (h.same fun x => List.append_nil _).sub fun u hu => ⟨⟨hu.1, by have := hu.2.1; omega, hu.2.2.2⟩, rfl, ?_⟩
  unfold ordE
  rw [if_neg]
  have := hu.2.1
  have := hu.2.2.1
  omega
def UnIn (next last : Int) (u : Un) : Prop := UnMay u ∧ last < u.id ∧ u.id < next ∧ u.id - last ≤ 1099511627776
theorem oneG_zero {F : Nat → St → St × Int} (hF : FldR F) {C : St → St × Nat} (hC : CntR 1099511627776 C) {last next : Int} {st : St} (h : (oneG F C last next st).1.2 = 0) : st.2 = 0 ∧ UnIn next last (oneG F C last next st).2 := by
  obtain ⟨h1, h2⟩ := failS_zero (st := (rdG F C last st).1) h
  obtain ⟨h3, h4⟩ := rdG_zero hF hC h1
  have h5 := rdG_id (F := F) hC last st
  unfold ordE at h2
  split at h2
  · omega
  · rename_i hc
    refine ⟨h3, h4, ?_, ?_, ?_⟩
    · show last < (rdG F C last st).2.id; omega
    · show (rdG F C last st).2.id < next; omega
    · show (rdG F C last st).2.id - last ≤ 1099511627776; omega
/-- What is told of the reader of one unit. -/
structure OneR (next : Int) (O : Int → St → St × Un) : Prop where
  cod : ∀ last, Codec (O last) (unB last) (fun u => UnIn next last u)
  zero : ∀ last st, (O last st).1.2 = 0 → st.2 = 0 ∧ UnIn next last (O last st).2
  ok : ∀ last st, StOk st → StOk (O last st).1
theorem oneGR {F : Nat → St → St × Int} (hF : FldR F) {C : St → St × Nat} (hC : CntR 1099511627776 C) (next : Int) : OneR next (fun last st => oneG F C last next st) :=
  ⟨fun last => oneGC hF hC last next, fun last st h => oneG_zero hF hC h, fun last st h => failS_stOk (rdG_stOk hF hC h)⟩
theorem unsG_stOk {next : Int} {O : Int → St → St × Un} (hO : OneR next O) {last : Int} {k : Nat} {st : St} (h : StOk st) : StOk (unsG O last k st).1 := by
  induction k with
  | zero => exact h
  | succ k ih => exact hO.ok _ _ ih
theorem unsG_zero {next : Int} {O : Int → St → St × Un} (hO : OneR next O) {last : Int} {k : Nat} {st : St} (h : (unsG O last k st).1.2 = 0) : st.2 = 0 := by
  induction k with
  | zero => exact h
  | succ k ih => exact ih (hO.zero _ _ h).1
def UnsIn (next : Int) : Int → List Un → Prop
  | _, [] => True
  | last, u :: l => UnIn next last u ∧ UnsIn next u.id l
theorem unsG_in {next : Int} {O : Int → St → St × Un} (hO : OneR next O) (n : Nat) : ∀ (last : Int) (st : St), (unsG O last n st).1.2 = 0 → UnsIn next last (unsG O last n st).2 := by
  induction n with
  | zero => intro last st h; trivial
  | succ n ih =>
    intro last st h
    rw [unsG_cons] at h ⊢
    exact ⟨(hO.zero _ _ (unsG_zero hO h)).2, ih _ _ h⟩
theorem unsC {next : Int} {O : Int → St → St × Un} (hO : OneR next O) (n : Nat) : ∀ last, Codec (unsG O last n) (unsB last) (fun us => us.length = n ∧ UnsIn next last us) := by
  induction n with
  | zero =>
    intro last
    refine ⟨fun x r h => ?_, fun x p h hp hne => ?_, fun e he => rfl, fun l h => rfl, fun l h => absurd rfl h⟩
    · obtain rfl : x = [] := List.eq_nil_of_length_eq_zero h.1
      rfl
    · obtain rfl : x = [] := List.eq_nil_of_length_eq_zero h.1
      exact absurd (List.prefix_nil.1 hp) hne
  | succ n ih =>
    intro last
    have hf := hO.cod last
    refine ⟨fun x r h => ?_, fun x p h hp hne => ?_, fun e he => ?_, fun l h => ?_, fun l h => ?_⟩
    · obtain ⟨y, ys, rfl⟩ := List.exists_cons_of_length_eq_add_one h.1
      obtain ⟨h1, h2, h3⟩ := h
      rw [unsB, List.append_assoc, unsG_cons, hf.back _ _ h2]
      simp only
      rw [(ih y.id).back _ _ ⟨by simpa using h1, h3⟩]
    · obtain ⟨y, ys, rfl⟩ := List.exists_cons_of_length_eq_add_one h.1
      obtain ⟨h1, h2, h3⟩ := h
      rw [unsB] at hp hne
      rw [unsG_cons]
      rcases prefix_parts hp with ⟨k1, k2⟩ | ⟨q, rfl, hq⟩
      · show (unsG O (O last (p, 0)).2.id n (O last (p, 0)).1).1 = _
        rw [hf.cut _ _ h2 k1 k2]
        exact (ih _).stick 1 (by decide)
      · show (unsG O (O last (unB last y ++ q, 0)).2.id n (O last (unB last y ++ q, 0)).1).1 = _
        rw [hf.back _ _ h2]
        exact (ih _).cut ys q ⟨by simpa using h1, h3⟩ hq (fun e => hne (by rw [e]))
    · rw [unsG_cons]
      show (unsG O (O last ([], e)).2.id n (O last ([], e)).1).1 = _
      rw [hf.stick e he]
      exact (ih _).stick e he
    · rw [unsG_cons] at h ⊢
      have h' : (unsG O (O last (l, 0)).2.id n (O last (l, 0)).1).1.2 = 0 := h
      show l = unB last (O last (l, 0)).2 ++ unsB (O last (l, 0)).2.id (unsG O (O last (l, 0)).2.id n (O last (l, 0)).1).2 ++ (unsG O (O last (l, 0)).2.id n (O last (l, 0)).1).1.1
      have he := unsG_zero hO h'
      have h1 := hf.spell l he
      have e1 : (O last (l, 0)).1 = ((O last (l, 0)).1.1, 0) := Prod.ext rfl he
      rw [e1] at h' ⊢
      have h2 := (ih _).spell _ h'
      rw [List.append_assoc, ← h2]
      exact h1
    · rw [unsG_cons] at h ⊢
      have h' : (unsG O (O last (l, 0)).2.id n (O last (l, 0)).1).1.2 ≠ 0 := h
      show (unsG O (O last (l, 0)).2.id n (O last (l, 0)).1).1.1 = []
      by_cases he : (O last (l, 0)).1.2 = 0
      · have e1 : (O last (l, 0)).1 = ((O last (l, 0)).1.1, 0) := Prod.ext rfl he
        rw [e1] at h' ⊢
        exact (ih _).nil _ h'
      · have e1 : (O last (l, 0)).1 = ([], (O last (l, 0)).1.2) := Prod.ext (hf.nil l he) rfl
        rw [e1, (ih _).stick _ he]
/-- What is read is in order. -/
theorem unsIn_all {next : Int} {us : List Un} : ∀ {last : Int}, UnsIn next last us → ∀ u ∈ us, last < u.id ∧ u.id < next ∧ UnMay u := by
  induction us with
  | nil => intro last h u hu; simp at hu
  | cons x l ih =>
    intro last h u hu
    obtain ⟨⟨h1, h2, h3, -⟩, h5⟩ := h
    rcases List.mem_cons.1 hu with rfl | hu
    · exact ⟨h2, h3, h1⟩
    · have := ih h5 u hu
      exact ⟨by omega, this.2⟩
theorem unsIn_rising {next : Int} {us : List Un} : ∀ {last : Int}, UnsIn next last us → Rising us := by
  induction us with
  | nil => intro last h i j hi; simp at hi
  | cons x l ih =>
    intro last h i j hi hj hij
    obtain ⟨-, h5⟩ := h
    cases j with
    | zero => omega
    | succ j =>
      cases i with
      | zero =>
        have hj' : j < l.length := by simpa using hj
        have := unsIn_all h5 l[j] (List.getElem_mem hj')
        simpa using this.1
      | succ i =>
        have := ih h5 i j (by simpa using hi) (by simpa using hj) (by omega)
        simpa using this
theorem unsIn_of {g : Int} {us : List Un} (hg : g < 1099511627776) : ∀ {last : Int}, 0 ≤ last → (∀ u ∈ us, last < u.id ∧ u.id ≤ g ∧ UnMay u) → Rising us → UnsIn (g + 1) last us := by
  induction us with
  | nil => intro last _ _ _; trivial
  | cons x l ih =>
    intro last h0 h hr
    have hx := h x (by simp)
    refine ⟨⟨hx.2.2, hx.1, by omega, by omega⟩, ih (by omega) (fun u hu => ?_) (fun i j hi hj hij => ?_)⟩
    · obtain ⟨i, hi, rfl⟩ := List.mem_iff_getElem.1 hu
      have := hr 0 (i + 1) (by simp) (by simpa using hi) (by omega)
      have h2 := h l[i] (by simp)
      exact ⟨by simpa using this, h2.2⟩
    · have := hr (i + 1) (j + 1) (by simpa using hi) (by simpa using hj) (by omega)
      simpa using this
/-- A table, as the reader takes it: the units, the number given out last. -/
def tab3 (next : Nat) (us : List Un) (st : St) : St × (List Un × Int) := (failS st (if next = 0 then 4 else 0), (us, (next : Int) - 1))
def tab2 (O : Int → Int → St → St × Un) (next n : Nat) (st : St) : St × (List Un × Int) := tab3 next (unsG (O next) 0 n st).2 (unsG (O next) 0 n st).1
def tab1 (O : Int → Int → St → St × Un) (C2 : St → St × Nat) (next : Nat) (st : St) : St × (List Un × Int) := tab2 O next (C2 st).2 (C2 st).1
def tabG (O : Int → Int → St → St × Un) (C C2 : St → St × Nat) (st : St) : St × (List Un × Int) := tab1 O C2 (C st).2 (C st).1
theorem tabG_eq (O : Int → Int → St → St × Un) (C C2 : St → St × Nat) (st : St) : tabG O C C2 st = (failS (unsG (O ((C st).2 : Nat)) 0 (C2 (C st).1).2 (C2 (C st).1).1).1 (if (C st).2 = 0 then 4 else 0), ((unsG (O ((C st).2 : Nat)) 0 (C2 (C st).1).2 (C2 (C st).1).1).2, ((C st).2 : Int) - 1)) := rfl
theorem tabB_is (us : List Un) (g : Int) : numB (g + 1).toNat ++ (numB us.length ++ unsB 0 us) = tabB us g := by
  simp [tabB, numsB, countsB]
theorem tabGC {O : Int → Int → St → St × Un} (hO : ∀ next, OneR next (O next)) {C C2 : St → St × Nat} (hC : CntR 1099511627776 C) (hC2 : CntR 64 C2) : Codec (tabG O C C2) (fun y => tabB y.1 y.2) (fun y => TabOk y.1 y.2) := by
  have h3 : ∀ next n, Codec (tab2 O next n) (fun y => unsB 0 y.1 ++ []) (fun y => (y.1.length = n ∧ UnsIn (next : Int) 0 y.1) ∧ (y = (y.1, (next : Int) - 1) ∧ (if next = 0 then 4 else 0) = 0)) := fun next n =>
    Codec.bind (unsC (hO (next : Int)) n 0) (fun us => Codec.fail (us, (next : Int) - 1) (if next = 0 then 4 else 0)) (fun y : List Un × Int => y.1) (fun a st => rfl)
  have h2 : ∀ next, Codec (tab1 O C2 next) (fun y : List Un × Int => numB y.1.length ++ (unsB 0 y.1 ++ [])) (fun y => y.1.length ≤ 64 ∧ ((y.1.length = y.1.length ∧ UnsIn (next : Int) 0 y.1) ∧ (y = (y.1, (next : Int) - 1) ∧ (if next = 0 then 4 else 0) = 0))) := fun next =>
    Codec.bind hC2.cod (fun n => h3 next n) (fun y : List Un × Int => y.1.length) (fun a st => unsG_len _ _ _ _)
  have h1 : Codec (tabG O C C2) (fun y : List Un × Int => numB (y.2 + 1).toNat ++ (numB y.1.length ++ (unsB 0 y.1 ++ []))) (fun y => (y.2 + 1).toNat ≤ 1099511627776 ∧ (y.1.length ≤ 64 ∧ ((y.1.length = y.1.length ∧ UnsIn (((y.2 + 1).toNat : Nat) : Int) 0 y.1) ∧ (y = (y.1, (((y.2 + 1).toNat : Nat) : Int) - 1) ∧ (if (y.2 + 1).toNat = 0 then 4 else 0) = 0)))) :=
    Codec.bind hC.cod (fun n => h2 n) (fun y : List Un × Int => (y.2 + 1).toNat) (fun a st => by show ((a : Int) - 1 + 1).toNat = a; omega)
  refine (h1.same fun y => ?_).sub fun y hy => ?_
  · rw [List.append_nil]; exact tabB_is y.1 y.2
  · obtain ⟨t1, t2, t3, t4, t5⟩ := hy
    have e : (((y.2 + 1).toNat : Nat) : Int) = y.2 + 1 := by omega
    rw [e]
    refine ⟨by omega, t1, ⟨rfl, unsIn_of t5 (by omega) (fun u hu => ?_) t2⟩, ?_, by rw [if_neg (by omega)]⟩
    · have := t3 u hu
      exact ⟨by omega, this.2⟩
    · rw [show y.2 + 1 - 1 = y.2 by omega]
theorem tabG_ok {O : Int → Int → St → St × Un} (hO : ∀ next, OneR next (O next)) {C C2 : St → St × Nat} (hC : CntR 1099511627776 C) (hC2 : CntR 64 C2) {st : St} (h : (tabG O C C2 st).1.2 = 0) : st.2 = 0 ∧ TabOk (tabG O C C2 st).2.1 (tabG O C C2 st).2.2 := by
  have hle := hC.le st
  have hz := hC.zero st
  rw [tabG_eq] at h ⊢
  simp only at h ⊢
  generalize C st = t at h hle hz ⊢
  obtain ⟨s1, next⟩ := t
  have hl2 := hC2.le s1
  have hz2 := hC2.zero s1
  generalize C2 s1 = t2 at h hl2 hz2 ⊢
  obtain ⟨s2, n⟩ := t2
  simp only at h hle hz hl2 hz2 ⊢
  obtain ⟨h1, h2⟩ := failS_zero h
  have hin := unsG_in (hO (next : Int)) n 0 s2 h1
  have hn : next ≠ 0 := by intro e; rw [if_pos e] at h2; omega
  refine ⟨hz (hz2 (unsG_zero (hO (next : Int)) h1)), by rw [unsG_len]; omega, unsIn_rising hin, fun u hu => ?_, by omega, by omega⟩
  have := unsIn_all hin u hu
  exact ⟨by omega, by omega, this.2.2⟩
theorem tabG_stOk {O : Int → Int → St → St × Un} (hO : ∀ next, OneR next (O next)) {C C2 : St → St × Nat} (hC : CntR 1099511627776 C) (hC2 : CntR 64 C2) {st : St} (h : StOk st) : StOk (tabG O C C2 st).1 := failS_stOk (unsG_stOk (hO _) (hC2.ok _ (hC.ok _ h)))
def oneO (next : Int) : Int → St → St × Un := fun last st => oneG fieldS (cntS 1099511627776) last next st
theorem oneR (next : Int) : OneR next (oneO next) := oneGR fldR (cntR _ (by decide)) next
def tabS (st : St) : St × (List Un × Int) := tabG oneO (cntS 1099511627776) (cntS 64) st
theorem tabC : Codec tabS (fun y => tabB y.1 y.2) (fun y => TabOk y.1 y.2) := tabGC oneR (cntR _ (by decide)) (cntR _ (by decide))
theorem tabS_ok {st : St} (h : (tabS st).1.2 = 0) : st.2 = 0 ∧ TabOk (tabS st).2.1 (tabS st).2.2 := tabG_ok oneR (cntR _ (by decide)) (cntR _ (by decide)) h
theorem tabS_stOk {st : St} (h : StOk st) : StOk (tabS st).1 := tabG_stOk oneR (cntR _ (by decide)) (cntR _ (by decide)) h
end Go.Proofs.Ytcbadcbnknmdnaa
