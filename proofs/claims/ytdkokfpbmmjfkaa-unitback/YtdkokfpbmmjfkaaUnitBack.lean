/-
  PROVED: for every two lists of calls, the law UnitBack answers true, and all read afterwards as before. No condition of our own.
-/
import Derived.Test.YtdkokfpbmmjfkaaUnit2
import Derived.Test.YtdkokfpbmmjfkaaOrdPut
import Derived.Test.YtdkokfpbmmjfkaaOrdMath
import Derived.Test.YtdkokfpbmmjfkaaUnit3
import Derived.Test.YtdkokfpbmmjfkaaCodeRead
import Derived.Deep.RegionLaw
import Derived.Deep.Cut
import Derived.Test.YtdkokfpbmmjfkaaCodec
import Derived.Test.YtdkokfpbmmjfkaaRefMore
import Derived.RegionTactic
import Derived.Test.YtdkokfpbmmjfkaaDoes1
import Derived.Test.YtdkokfpbmmjfkaaOrdText
import Derived.Test.YtdkokfpbmmjfkaaAwake8
import Derived.Test.YtdkokfpbmmjfkaaSums
import Derived.Below
import Derived.Deep.LoopGhost
import Derived.Test.YtdkokfpbmmjfkaaOrdTidy
import Derived.Test.YtdkokfpbmmjfkaaRecArgs
import Derived.Deep.DeepCutAuto
import Derived.Deep.CutBlock
import Derived.WalkKit
import Derived.ProofKit
import Derived.OpenShut
import Derived.ShutString
import Derived.ChangeOld
import Derived.SliceStrings
namespace Go.Proofs.Ytdkokfpbmmjfkaa
open Go.RowKit
set_option linter.unusedVariables false

/-- A unit's bytes behind one of the number `last`. -/
def unB (last : Int) (u : Un) : List UInt8 := numsB [(u.id - last).toNat] ++ intsB u.ints.tail
def unsB : Int → List Un → List UInt8
  | _, [] => []
  | last, u :: l => unB last u ++ unsB u.id l
/-- The number of the last of them; `last` where there is none. -/
def lastId (last : Int) : List Un → Int
  | [] => last
  | u :: l => lastId u.id l
def tabB (us : List Un) (g : Int) : List UInt8 := numsB [(g + 1).toNat] ++ countsB [(us.length : Int)] ++ unsB 0 us
theorem unsB_append (last : Int) (l : List Un) (u : Un) : unsB last (l ++ [u]) = unsB last l ++ unB (lastId last l) u := by
  induction l generalizing last with
  | nil => simp [unsB, lastId]
  | cons x l ih => simp [unsB, lastId, ih]
theorem lastId_append (last : Int) (l : List Un) (u : Un) : lastId last (l ++ [u]) = u.id := by
  induction l generalizing last with
  | nil => rfl
  | cons x l ih => simp [lastId, ih]
theorem unsB_snoc (l : List Un) (k : Nat) (h : k < l.length) : unsB 0 (l.take (k + 1)) = unsB 0 (l.take k) ++ unB (lastId 0 (l.take k)) l[k] := by
  rw [List.take_succ_eq_append_getElem h, unsB_append]
theorem lastId_snoc (l : List Un) (k : Nat) (h : k < l.length) : lastId 0 (l.take (k + 1)) = l[k].id := by
  rw [List.take_succ_eq_append_getElem h, lastId_append]
/-- In a table the last number is below the next one's, and none is below 0. -/
theorem lastId_lt {us : List Un} {g : Int} (h : TabOk us g) (k : Nat) (hk : k < us.length) : 0 ≤ lastId 0 (us.take k) ∧ lastId 0 (us.take k) < us[k].id := by
  cases k with
  | zero =>
    have := (h.2.2.1 _ (List.getElem_mem hk)).1
    simp [lastId]; omega
  | succ k =>
    rw [lastId_snoc us k (by omega)]
    have h1 := (h.2.2.1 _ (List.getElem_mem (show k < us.length by omega))).1
    have h2 := h.2.1 k (k + 1) (by omega) hk (by omega)
    exact ⟨by omega, h2⟩
end Go.Proofs.Ytdkokfpbmmjfkaa
namespace Go.Proofs.Ytdkokfpbmmjfkaa
open Go.RowKit
set_option linter.unusedVariables false

theorem Codec.sub {α : Type} {f : St → St × α} {enc : α → List UInt8} {dom dom' : α → Prop} (h : Codec f enc dom) (hd : ∀ x, dom' x → dom x) : Codec f enc dom' :=
  ⟨fun x r hx => h.back x r (hd x hx), fun x p hx => h.cut x p (hd x hx), h.stick, h.spell, h.nil⟩
theorem Codec.same {α : Type} {f : St → St × α} {enc enc' : α → List UInt8} {dom : α → Prop} (h : Codec f enc dom) (e : ∀ x, enc x = enc' x) : Codec f enc' dom := by
  have : enc = enc' := funext e
  exact this ▸ h
theorem failS_zero {st : St} {x : Nat} (h : (failS st x).2 = 0) : st.2 = 0 ∧ x = 0 := by
  unfold failS at h
  split at h
  · rename_i hc; exact absurd h hc.2
  · rename_i hc
    refine ⟨h, ?_⟩
    rcases Nat.eq_zero_or_pos x with e | e
    · exact e
    · exact absurd ⟨h, by omega⟩ hc
theorem numS_zero {st : St} (h : (numS st).1.2 = 0) : st.2 = 0 := by
  unfold numS at h
  split at h
  · exact (failS_zero h).1
  · exact h
theorem countS_zero {st : St} {m : Int} (h : (countS st m).1.2 = 0) : st.2 = 0 := by
  unfold countS at h
  split at h
  · exact numS_zero (failS_zero h).1
  · exact numS_zero h
/-- A field, as the reader takes it. -/
def fieldS (f : Nat) (st : St) : St × Int := (failS (numS st).1 (if mayN f (unzig (numS st).2) then 0 else 4), unzig (numS st).2)
theorem may_bound {f : Nat} {x : Int} (h : mayN f x = true) : -9223372036854775808 ≤ x ∧ x ≤ 9223372036854775807 := by
  unfold mayN at h
  split at h
  · simp at h; omega
  · split at h
    · simp at h; omega
    · simp at h; omega
theorem fieldC (f : Nat) : Codec (fieldS f) (fun x => numB (zig x)) (fun x => mayN f x = true) := by
  have h : Codec (fieldS f) (fun x : Int => numB (zig x) ++ []) (fun x => (-9223372036854775808 ≤ x ∧ x ≤ 9223372036854775807) ∧ (x = x ∧ (if mayN f x then 0 else 4) = 0)) :=
    Codec.bind intC (fun x => Codec.fail x (if mayN f x then 0 else 4)) (fun x => x) (fun a st => rfl)
  exact (h.same fun x => List.append_nil _).sub fun x hx => ⟨may_bound hx, rfl, by rw [hx]; rfl⟩
theorem fieldS_zero {f : Nat} {st : St} (h : (fieldS f st).1.2 = 0) : st.2 = 0 ∧ mayN f (fieldS f st).2 = true := by
  obtain ⟨h1, h2⟩ := failS_zero (st := (numS st).1) h
  refine ⟨numS_zero h1, ?_⟩
  show mayN f (unzig (numS st).2) = true
  by_cases hm : mayN f (unzig (numS st).2) = true
  · exact hm
  · rw [if_neg hm] at h2; omega
theorem fieldS_stOk {f : Nat} {st : St} (h : StOk st) : StOk (fieldS f st).1 := failS_stOk (numS_stOk h)
/-- The first so many fields; the fields' reader, and the reader of numbers, are told (so that nothing looks into them). -/
def fsG (F : Nat → St → St × Int) : Nat → St → St × List Int
  | 0, st => (st, [])
  | k + 1, st => ((F k (fsG F k st).1).1, (fsG F k st).2 ++ [(F k (fsG F k st).1).2])
theorem fsG_succ (F : Nat → St → St × Int) (k : Nat) (st : St) : fsG F (k + 1) st = ((F k (fsG F k st).1).1, (fsG F k st).2 ++ [(F k (fsG F k st).1).2]) := rfl
theorem fsG_len (F : Nat → St → St × Int) (k : Nat) (st : St) : (fsG F k st).2.length = k := by
  induction k with
  | zero => rfl
  | succ k ih => simp [fsG, ih]
def unOf (id : Int) (l : List Int) : Un := ⟨id, l.getD 0 0, l.getD 1 0, l.getD 2 0, l.getD 3 0, l.getD 4 0⟩
/-- A unit behind one of the number `last`. -/
def rdG (F : Nat → St → St × Int) (C : St → St × Nat) (last : Int) (st : St) : St × Un := ((fsG F 5 (C st).1).1, unOf (last + ((C st).2 : Nat)) (fsG F 5 (C st).1).2)
theorem rdG_eq (F : Nat → St → St × Int) (C : St → St × Nat) (last : Int) (st : St) : rdG F C last st = ((fsG F 5 (C st).1).1, unOf (last + ((C st).2 : Nat)) (fsG F 5 (C st).1).2) := rfl
def ordE (last next : Int) (u : Un) : Nat := if u.id = last ∨ next ≤ u.id then 12 else 0
/-- A unit in its order. -/
def oneG (F : Nat → St → St × Int) (C : St → St × Nat) (last next : Int) (st : St) : St × Un := (failS (rdG F C last st).1 (ordE last next (rdG F C last st).2), (rdG F C last st).2)
/-- So many units behind one of the number `last`. -/
def unsG (O : Int → St → St × Un) (last : Int) : Nat → St → St × List Un
  | 0, st => (st, [])
  | k + 1, st => ((O (lastId last (unsG O last k st).2) (unsG O last k st).1).1, (unsG O last k st).2 ++ [(O (lastId last (unsG O last k st).2) (unsG O last k st).1).2])
theorem unsG_succ (O : Int → St → St × Un) (last : Int) (k : Nat) (st : St) : unsG O last (k + 1) st = ((O (lastId last (unsG O last k st).2) (unsG O last k st).1).1, (unsG O last k st).2 ++ [(O (lastId last (unsG O last k st).2) (unsG O last k st).1).2]) := rfl
theorem unsG_cons (O : Int → St → St × Un) (last : Int) (n : Nat) (st : St) : unsG O last (n + 1) st = ((unsG O (O last st).2.id n (O last st).1).1, (O last st).2 :: (unsG O (O last st).2.id n (O last st).1).2) := by
  induction n with
  | zero => rfl
  | succ n ih =>
    rw [unsG, ih]
    rfl
theorem unsG_len (O : Int → St → St × Un) (last : Int) (k : Nat) (st : St) : (unsG O last k st).2.length = k := by
  induction k with
  | zero => rfl
  | succ k ih => simp [unsG, ih]
def rd5 (F : Nat → St → St × Int) (id a b c d : Int) (st : St) : St × Un := ((F 4 st).1, ⟨id, a, b, c, d, (F 4 st).2⟩)
def rd4 (F : Nat → St → St × Int) (id a b c : Int) (st : St) : St × Un := rd5 F id a b c (F 3 st).2 (F 3 st).1
def rd3 (F : Nat → St → St × Int) (id a b : Int) (st : St) : St × Un := rd4 F id a b (F 2 st).2 (F 2 st).1
def rd2 (F : Nat → St → St × Int) (id a : Int) (st : St) : St × Un := rd3 F id a (F 1 st).2 (F 1 st).1
def rd1 (F : Nat → St → St × Int) (id : Int) (st : St) : St × Un := rd2 F id (F 0 st).2 (F 0 st).1
theorem rdG_is (F : Nat → St → St × Int) (C : St → St × Nat) (last : Int) (st : St) : rdG F C last st = rd1 F (last + ((C st).2 : Nat)) (C st).1 := rfl
/-- What is told of the fields' reader. -/
structure FldR (F : Nat → St → St × Int) : Prop where
  cod : ∀ f, Codec (F f) (fun x => numB (zig x)) (fun x => mayN f x = true)
  zero : ∀ f st, (F f st).1.2 = 0 → st.2 = 0 ∧ mayN f (F f st).2 = true
  ok : ∀ f st, StOk st → StOk (F f st).1
theorem fldR : FldR fieldS := ⟨fieldC, fun f st h => fieldS_zero h, fun f st h => fieldS_stOk h⟩
structure CntR (m : Nat) (C : St → St × Nat) : Prop where
  cod : Codec C numB (fun n => n ≤ m)
  zero : ∀ st, (C st).1.2 = 0 → st.2 = 0
  ok : ∀ st, StOk st → StOk (C st).1
  le : ∀ st, (C st).2 ≤ m
def cntS (m : Nat) (st : St) : St × Nat := countS st (m : Int)
theorem cntR (m : Nat) (h : m < 18446744073709551616) : CntR m (cntS m) := ⟨countC m h, fun st h => countS_zero h, fun st h => countS_stOk h, fun st => countS_le st m⟩
theorem rd5C {F : Nat → St → St × Int} (hF : FldR F) (id a b c d : Int) : Codec (rd5 F id a b c d) (fun u => numB (zig u.health)) (fun u => mayN 4 u.health = true ∧ u = ⟨id, a, b, c, d, u.health⟩) := by
  have h : Codec (rd5 F id a b c d) (fun u : Un => numB (zig u.health) ++ []) (fun u => mayN 4 u.health = true ∧ u = ⟨id, a, b, c, d, u.health⟩) :=
    Codec.bind (hF.cod 4) (fun x => Codec.unit (⟨id, a, b, c, d, x⟩ : Un)) (fun u => u.health) (fun a st => rfl)
  exact h.same fun x => List.append_nil _
theorem rd4C {F : Nat → St → St × Int} (hF : FldR F) (id a b c : Int) : Codec (rd4 F id a b c) (fun u => numB (zig u.y) ++ numB (zig u.health)) (fun u => mayN 3 u.y = true ∧ (mayN 4 u.health = true ∧ u = ⟨id, a, b, c, u.y, u.health⟩)) :=
  Codec.bind (hF.cod 3) (fun x => rd5C hF id a b c x) (fun u => u.y) (fun a st => rfl)
theorem rd3C {F : Nat → St → St × Int} (hF : FldR F) (id a b : Int) : Codec (rd3 F id a b) (fun u => numB (zig u.x) ++ (numB (zig u.y) ++ numB (zig u.health))) (fun u => mayN 2 u.x = true ∧ (mayN 3 u.y = true ∧ (mayN 4 u.health = true ∧ u = ⟨id, a, b, u.x, u.y, u.health⟩))) :=
  Codec.bind (hF.cod 2) (fun x => rd4C hF id a b x) (fun u => u.x) (fun a st => rfl)
theorem rd2C {F : Nat → St → St × Int} (hF : FldR F) (id a : Int) : Codec (rd2 F id a) (fun u => numB (zig u.owner) ++ (numB (zig u.x) ++ (numB (zig u.y) ++ numB (zig u.health)))) (fun u => mayN 1 u.owner = true ∧ (mayN 2 u.x = true ∧ (mayN 3 u.y = true ∧ (mayN 4 u.health = true ∧ u = ⟨id, a, u.owner, u.x, u.y, u.health⟩)))) :=
  Codec.bind (hF.cod 1) (fun x => rd3C hF id a x) (fun u => u.owner) (fun a st => rfl)
theorem rd1C {F : Nat → St → St × Int} (hF : FldR F) (id : Int) : Codec (rd1 F id) (fun u => numB (zig u.kind) ++ (numB (zig u.owner) ++ (numB (zig u.x) ++ (numB (zig u.y) ++ numB (zig u.health))))) (fun u => mayN 0 u.kind = true ∧ (mayN 1 u.owner = true ∧ (mayN 2 u.x = true ∧ (mayN 3 u.y = true ∧ (mayN 4 u.health = true ∧ u = ⟨id, u.kind, u.owner, u.x, u.y, u.health⟩))))) :=
  Codec.bind (hF.cod 0) (fun x => rd2C hF id x) (fun u => u.kind) (fun a st => rfl)
theorem unB_is (last : Int) (u : Un) : numB (u.id - last).toNat ++ (numB (zig u.kind) ++ (numB (zig u.owner) ++ (numB (zig u.x) ++ (numB (zig u.y) ++ numB (zig u.health))))) = unB last u := by
  simp [unB, numsB, intsB, Un.ints]
theorem rdC {F : Nat → St → St × Int} (hF : FldR F) {C : St → St × Nat} (hC : CntR 1099511627776 C) (last : Int) : Codec (rdG F C last) (unB last) (fun u => UnMay u ∧ last ≤ u.id ∧ u.id - last ≤ 1099511627776) := by
  have h : Codec (fun st => rd1 F (last + ((C st).2 : Nat)) (C st).1) (fun u : Un => numB (u.id - last).toNat ++ (numB (zig u.kind) ++ (numB (zig u.owner) ++ (numB (zig u.x) ++ (numB (zig u.y) ++ numB (zig u.health)))))) (fun u => (u.id - last).toNat ≤ 1099511627776 ∧ (mayN 0 u.kind = true ∧ (mayN 1 u.owner = true ∧ (mayN 2 u.x = true ∧ (mayN 3 u.y = true ∧ (mayN 4 u.health = true ∧ u = ⟨last + (((u.id - last).toNat : Nat) : Int), u.kind, u.owner, u.x, u.y, u.health⟩)))))) :=
    Codec.bind hC.cod (fun n => rd1C hF (last + (n : Int))) (fun u => (u.id - last).toNat) (fun a st => by show (last + (a : Int) - last).toNat = a; omega)
  have e : rdG F C last = (fun st => rd1 F (last + ((C st).2 : Nat)) (C st).1) := funext fun st => rdG_is F C last st
  rw [e]
  refine (h.same fun x => unB_is last x).sub fun u hu => ?_
  obtain ⟨⟨m0, m1, m2, m3, m4⟩, h1, h2⟩ := hu
  refine ⟨by omega, m0, m1, m2, m3, m4, ?_⟩
  rw [show last + (((u.id - last).toNat : Nat) : Int) = u.id by omega]
theorem rdG_zero {F : Nat → St → St × Int} (hF : FldR F) {C : St → St × Nat} (hC : CntR 1099511627776 C) {last : Int} {st : St} (h : (rdG F C last st).1.2 = 0) : st.2 = 0 ∧ UnMay (rdG F C last st).2 := by
  have h' : (F 4 (fsG F 4 (C st).1).1).1.2 = 0 := h
  obtain ⟨h4, m4⟩ := hF.zero _ _ h'
  obtain ⟨h3, m3⟩ := hF.zero 3 (fsG F 3 (C st).1).1 h4
  obtain ⟨h2, m2⟩ := hF.zero 2 (fsG F 2 (C st).1).1 h3
  obtain ⟨h1, m1⟩ := hF.zero 1 (fsG F 1 (C st).1).1 h2
  obtain ⟨h0, m0⟩ := hF.zero 0 (C st).1 h1
  exact ⟨hC.zero _ h0, m0, m1, m2, m3, m4⟩
theorem rdG_id {F : Nat → St → St × Int} {C : St → St × Nat} (hC : CntR 1099511627776 C) (last : Int) (st : St) : last ≤ (rdG F C last st).2.id ∧ (rdG F C last st).2.id ≤ last + 1099511627776 := by
  have h := hC.le st
  show last ≤ last + ((C st).2 : Nat) ∧ last + ((C st).2 : Nat) ≤ last + 1099511627776
  omega
theorem fsG_stOk {F : Nat → St → St × Int} (hF : FldR F) {k : Nat} {st : St} (h : StOk st) : StOk (fsG F k st).1 := by
  induction k with
  | zero => exact h
  | succ k ih => exact hF.ok _ _ ih
theorem rdG_stOk {F : Nat → St → St × Int} (hF : FldR F) {C : St → St × Nat} (hC : CntR 1099511627776 C) {last : Int} {st : St} (h : StOk st) : StOk (rdG F C last st).1 := fsG_stOk hF (hC.ok _ h)
theorem oneGC {F : Nat → St → St × Int} (hF : FldR F) {C : St → St × Nat} (hC : CntR 1099511627776 C) (last next : Int) : Codec (oneG F C last next) (unB last) (fun u => UnMay u ∧ last < u.id ∧ u.id < next ∧ u.id - last ≤ 1099511627776) := by
  have h : Codec (oneG F C last next) (fun u : Un => unB last u ++ []) (fun u => (UnMay u ∧ last ≤ u.id ∧ u.id - last ≤ 1099511627776) ∧ (u = u ∧ ordE last next u = 0)) :=
    Codec.bind (rdC hF hC last) (fun u => Codec.fail u (ordE last next u)) (fun u => u) (fun a st => rfl)
  refine (h.same fun x => List.append_nil _).sub fun u hu => ⟨⟨hu.1, by have := hu.2.1; omega, hu.2.2.2⟩, rfl, ?_⟩
  unfold ordE
  rw [if_neg]
  have := hu.2.1
  have := hu.2.2.1
  omega
def UnIn (next last : Int) (u : Un) : Prop := UnMay u ∧ last < u.id ∧ u.id < next ∧ u.id - last ≤ 1099511627776
theorem oneG_zero {F : Nat → St → St × Int} (hF : FldR F) {C : St → St × Nat} (hC : CntR 1099511627776 C) {last next : Int} {st : St} (h : (oneG F C last next st).1.2 = 0) : st.2 = 0 ∧ UnIn next last (oneG F C last next st).2 := by
  obtain ⟨h1, h2⟩ := failS_zero (st := (rdG F C last st).1) h
  obtain ⟨h3, h4⟩ := rdG_zero hF hC h1
  have h5 := rdG_id (F := F) hC last st
  unfold ordE at h2
  split at h2
  · omega
  · rename_i hc
    refine ⟨h3, h4, ?_, ?_, ?_⟩
    · show last < (rdG F C last st).2.id; omega
    · show (rdG F C last st).2.id < next; omega
    · show (rdG F C last st).2.id - last ≤ 1099511627776; omega
/-- What is told of the reader of one unit. -/
structure OneR (next : Int) (O : Int → St → St × Un) : Prop where
  cod : ∀ last, Codec (O last) (unB last) (fun u => UnIn next last u)
  zero : ∀ last st, (O last st).1.2 = 0 → st.2 = 0 ∧ UnIn next last (O last st).2
  ok : ∀ last st, StOk st → StOk (O last st).1
theorem oneGR {F : Nat → St → St × Int} (hF : FldR F) {C : St → St × Nat} (hC : CntR 1099511627776 C) (next : Int) : OneR next (fun last st => oneG F C last next st) :=
  ⟨fun last => oneGC hF hC last next, fun last st h => oneG_zero hF hC h, fun last st h => failS_stOk (rdG_stOk hF hC h)⟩
theorem unsG_stOk {next : Int} {O : Int → St → St × Un} (hO : OneR next O) {last : Int} {k : Nat} {st : St} (h : StOk st) : StOk (unsG O last k st).1 := by
  induction k with
  | zero => exact h
  | succ k ih => exact hO.ok _ _ ih
theorem unsG_zero {next : Int} {O : Int → St → St × Un} (hO : OneR next O) {last : Int} {k : Nat} {st : St} (h : (unsG O last k st).1.2 = 0) : st.2 = 0 := by
  induction k with
  | zero => exact h
  | succ k ih => exact ih (hO.zero _ _ h).1
def UnsIn (next : Int) : Int → List Un → Prop
  | _, [] => True
  | last, u :: l => UnIn next last u ∧ UnsIn next u.id l
theorem unsG_in {next : Int} {O : Int → St → St × Un} (hO : OneR next O) (n : Nat) : ∀ (last : Int) (st : St), (unsG O last n st).1.2 = 0 → UnsIn next last (unsG O last n st).2 := by
  induction n with
  | zero => intro last st h; trivial
  | succ n ih =>
    intro last st h
    rw [unsG_cons] at h ⊢
    exact ⟨(hO.zero _ _ (unsG_zero hO h)).2, ih _ _ h⟩
theorem unsC {next : Int} {O : Int → St → St × Un} (hO : OneR next O) (n : Nat) : ∀ last, Codec (unsG O last n) (unsB last) (fun us => us.length = n ∧ UnsIn next last us) := by
  induction n with
  | zero =>
    intro last
    refine ⟨fun x r h => ?_, fun x p h hp hne => ?_, fun e he => rfl, fun l h => rfl, fun l h => absurd rfl h⟩
    · obtain rfl : x = [] := List.eq_nil_of_length_eq_zero h.1
      rfl
    · obtain rfl : x = [] := List.eq_nil_of_length_eq_zero h.1
      exact absurd (List.prefix_nil.1 hp) hne
  | succ n ih =>
    intro last
    have hf := hO.cod last
    refine ⟨fun x r h => ?_, fun x p h hp hne => ?_, fun e he => ?_, fun l h => ?_, fun l h => ?_⟩
    · obtain ⟨y, ys, rfl⟩ := List.exists_cons_of_length_eq_add_one h.1
      obtain ⟨h1, h2, h3⟩ := h
      rw [unsB, List.append_assoc, unsG_cons, hf.back _ _ h2]
      simp only
      rw [(ih y.id).back _ _ ⟨by simpa using h1, h3⟩]
    · obtain ⟨y, ys, rfl⟩ := List.exists_cons_of_length_eq_add_one h.1
      obtain ⟨h1, h2, h3⟩ := h
      rw [unsB] at hp hne
      rw [unsG_cons]
      rcases prefix_parts hp with ⟨k1, k2⟩ | ⟨q, rfl, hq⟩
      · show (unsG O (O last (p, 0)).2.id n (O last (p, 0)).1).1 = _
        rw [hf.cut _ _ h2 k1 k2]
        exact (ih _).stick 1 (by decide)
      · show (unsG O (O last (unB last y ++ q, 0)).2.id n (O last (unB last y ++ q, 0)).1).1 = _
        rw [hf.back _ _ h2]
        exact (ih _).cut ys q ⟨by simpa using h1, h3⟩ hq (fun e => hne (by rw [e]))
    · rw [unsG_cons]
      show (unsG O (O last ([], e)).2.id n (O last ([], e)).1).1 = _
      rw [hf.stick e he]
      exact (ih _).stick e he
    · rw [unsG_cons] at h ⊢
      have h' : (unsG O (O last (l, 0)).2.id n (O last (l, 0)).1).1.2 = 0 := h
      show l = unB last (O last (l, 0)).2 ++ unsB (O last (l, 0)).2.id (unsG O (O last (l, 0)).2.id n (O last (l, 0)).1).2 ++ (unsG O (O last (l, 0)).2.id n (O last (l, 0)).1).1.1
      have he := unsG_zero hO h'
      have h1 := hf.spell l he
      have e1 : (O last (l, 0)).1 = ((O last (l, 0)).1.1, 0) := Prod.ext rfl he
      rw [e1] at h' ⊢
      have h2 := (ih _).spell _ h'
      rw [List.append_assoc, ← h2]
      exact h1
    · rw [unsG_cons] at h ⊢
      have h' : (unsG O (O last (l, 0)).2.id n (O last (l, 0)).1).1.2 ≠ 0 := h
      show (unsG O (O last (l, 0)).2.id n (O last (l, 0)).1).1.1 = []
      by_cases he : (O last (l, 0)).1.2 = 0
      · have e1 : (O last (l, 0)).1 = ((O last (l, 0)).1.1, 0) := Prod.ext rfl he
        rw [e1] at h' ⊢
        exact (ih _).nil _ h'
      · have e1 : (O last (l, 0)).1 = ([], (O last (l, 0)).1.2) := Prod.ext (hf.nil l he) rfl
        rw [e1, (ih _).stick _ he]
/-- What is read is in order. -/
theorem unsIn_all {next : Int} {us : List Un} : ∀ {last : Int}, UnsIn next last us → ∀ u ∈ us, last < u.id ∧ u.id < next ∧ UnMay u := by
  induction us with
  | nil => intro last h u hu; simp at hu
  | cons x l ih =>
    intro last h u hu
    obtain ⟨⟨h1, h2, h3, -⟩, h5⟩ := h
    rcases List.mem_cons.1 hu with rfl | hu
    · exact ⟨h2, h3, h1⟩
    · have := ih h5 u hu
      exact ⟨by omega, this.2⟩
theorem unsIn_rising {next : Int} {us : List Un} : ∀ {last : Int}, UnsIn next last us → Rising us := by
  induction us with
  | nil => intro last h i j hi; simp at hi
  | cons x l ih =>
    intro last h i j hi hj hij
    obtain ⟨-, h5⟩ := h
    cases j with
    | zero => omega
    | succ j =>
      cases i with
      | zero =>
        have hj' : j < l.length := by simpa using hj
        have := unsIn_all h5 l[j] (List.getElem_mem hj')
        simpa using this.1
      | succ i =>
        have := ih h5 i j (by simpa using hi) (by simpa using hj) (by omega)
        simpa using this
theorem unsIn_of {g : Int} {us : List Un} (hg : g < 1099511627776) : ∀ {last : Int}, 0 ≤ last → (∀ u ∈ us, last < u.id ∧ u.id ≤ g ∧ UnMay u) → Rising us → UnsIn (g + 1) last us := by
  induction us with
  | nil => intro last _ _ _; trivial
  | cons x l ih =>
    intro last h0 h hr
    have hx := h x (by simp)
    refine ⟨⟨hx.2.2, hx.1, by omega, by omega⟩, ih (by omega) (fun u hu => ?_) (fun i j hi hj hij => ?_)⟩
    · obtain ⟨i, hi, rfl⟩ := List.mem_iff_getElem.1 hu
      have := hr 0 (i + 1) (by simp) (by simpa using hi) (by omega)
      have h2 := h l[i] (by simp)
      exact ⟨by simpa using this, h2.2⟩
    · have := hr (i + 1) (j + 1) (by simpa using hi) (by simpa using hj) (by omega)
      simpa using this
/-- A table, as the reader takes it: the units, the number given out last. -/
def tab3 (next : Nat) (us : List Un) (st : St) : St × (List Un × Int) := (failS st (if next = 0 then 4 else 0), (us, (next : Int) - 1))
def tab2 (O : Int → Int → St → St × Un) (next n : Nat) (st : St) : St × (List Un × Int) := tab3 next (unsG (O next) 0 n st).2 (unsG (O next) 0 n st).1
def tab1 (O : Int → Int → St → St × Un) (C2 : St → St × Nat) (next : Nat) (st : St) : St × (List Un × Int) := tab2 O next (C2 st).2 (C2 st).1
def tabG (O : Int → Int → St → St × Un) (C C2 : St → St × Nat) (st : St) : St × (List Un × Int) := tab1 O C2 (C st).2 (C st).1
theorem tabG_eq (O : Int → Int → St → St × Un) (C C2 : St → St × Nat) (st : St) : tabG O C C2 st = (failS (unsG (O ((C st).2 : Nat)) 0 (C2 (C st).1).2 (C2 (C st).1).1).1 (if (C st).2 = 0 then 4 else 0), ((unsG (O ((C st).2 : Nat)) 0 (C2 (C st).1).2 (C2 (C st).1).1).2, ((C st).2 : Int) - 1)) := rfl
theorem tabB_is (us : List Un) (g : Int) : numB (g + 1).toNat ++ (numB us.length ++ unsB 0 us) = tabB us g := by
  simp [tabB, numsB, countsB]
theorem tabGC {O : Int → Int → St → St × Un} (hO : ∀ next, OneR next (O next)) {C C2 : St → St × Nat} (hC : CntR 1099511627776 C) (hC2 : CntR 64 C2) : Codec (tabG O C C2) (fun y => tabB y.1 y.2) (fun y => TabOk y.1 y.2) := by
  have h3 : ∀ next n, Codec (tab2 O next n) (fun y => unsB 0 y.1 ++ []) (fun y => (y.1.length = n ∧ UnsIn (next : Int) 0 y.1) ∧ (y = (y.1, (next : Int) - 1) ∧ (if next = 0 then 4 else 0) = 0)) := fun next n =>
    Codec.bind (unsC (hO (next : Int)) n 0) (fun us => Codec.fail (us, (next : Int) - 1) (if next = 0 then 4 else 0)) (fun y : List Un × Int => y.1) (fun a st => rfl)
  have h2 : ∀ next, Codec (tab1 O C2 next) (fun y : List Un × Int => numB y.1.length ++ (unsB 0 y.1 ++ [])) (fun y => y.1.length ≤ 64 ∧ ((y.1.length = y.1.length ∧ UnsIn (next : Int) 0 y.1) ∧ (y = (y.1, (next : Int) - 1) ∧ (if next = 0 then 4 else 0) = 0))) := fun next =>
    Codec.bind hC2.cod (fun n => h3 next n) (fun y : List Un × Int => y.1.length) (fun a st => unsG_len _ _ _ _)
  have h1 : Codec (tabG O C C2) (fun y : List Un × Int => numB (y.2 + 1).toNat ++ (numB y.1.length ++ (unsB 0 y.1 ++ []))) (fun y => (y.2 + 1).toNat ≤ 1099511627776 ∧ (y.1.length ≤ 64 ∧ ((y.1.length = y.1.length ∧ UnsIn (((y.2 + 1).toNat : Nat) : Int) 0 y.1) ∧ (y = (y.1, (((y.2 + 1).toNat : Nat) : Int) - 1) ∧ (if (y.2 + 1).toNat = 0 then 4 else 0) = 0)))) :=
    Codec.bind hC.cod (fun n => h2 n) (fun y : List Un × Int => (y.2 + 1).toNat) (fun a st => by show ((a : Int) - 1 + 1).toNat = a; omega)
  refine (h1.same fun y => ?_).sub fun y hy => ?_
  · rw [List.append_nil]; exact tabB_is y.1 y.2
  · obtain ⟨t1, t2, t3, t4, t5⟩ := hy
    have e : (((y.2 + 1).toNat : Nat) : Int) = y.2 + 1 := by omega
    rw [e]
    refine ⟨by omega, t1, ⟨rfl, unsIn_of t5 (by omega) (fun u hu => ?_) t2⟩, ?_, by rw [if_neg (by omega)]⟩
    · have := t3 u hu
      exact ⟨by omega, this.2⟩
    · rw [show y.2 + 1 - 1 = y.2 by omega]
theorem tabG_ok {O : Int → Int → St → St × Un} (hO : ∀ next, OneR next (O next)) {C C2 : St → St × Nat} (hC : CntR 1099511627776 C) (hC2 : CntR 64 C2) {st : St} (h : (tabG O C C2 st).1.2 = 0) : st.2 = 0 ∧ TabOk (tabG O C C2 st).2.1 (tabG O C C2 st).2.2 := by
  have hle := hC.le st
  have hz := hC.zero st
  rw [tabG_eq] at h ⊢
  simp only at h ⊢
  generalize C st = t at h hle hz ⊢
  obtain ⟨s1, next⟩ := t
  have hl2 := hC2.le s1
  have hz2 := hC2.zero s1
  generalize C2 s1 = t2 at h hl2 hz2 ⊢
  obtain ⟨s2, n⟩ := t2
  simp only at h hle hz hl2 hz2 ⊢
  obtain ⟨h1, h2⟩ := failS_zero h
  have hin := unsG_in (hO (next : Int)) n 0 s2 h1
  have hn : next ≠ 0 := by intro e; rw [if_pos e] at h2; omega
  refine ⟨hz (hz2 (unsG_zero (hO (next : Int)) h1)), by rw [unsG_len]; omega, unsIn_rising hin, fun u hu => ?_, by omega, by omega⟩
  have := unsIn_all hin u hu
  exact ⟨by omega, by omega, this.2.2⟩
theorem tabG_stOk {O : Int → Int → St → St × Un} (hO : ∀ next, OneR next (O next)) {C C2 : St → St × Nat} (hC : CntR 1099511627776 C) (hC2 : CntR 64 C2) {st : St} (h : StOk st) : StOk (tabG O C C2 st).1 := failS_stOk (unsG_stOk (hO _) (hC2.ok _ (hC.ok _ h)))
def oneO (next : Int) : Int → St → St × Un := fun last st => oneG fieldS (cntS 1099511627776) last next st
theorem oneR (next : Int) : OneR next (oneO next) := oneGR fldR (cntR _ (by decide)) next
def tabS (st : St) : St × (List Un × Int) := tabG oneO (cntS 1099511627776) (cntS 64) st
theorem tabC : Codec tabS (fun y => tabB y.1 y.2) (fun y => TabOk y.1 y.2) := tabGC oneR (cntR _ (by decide)) (cntR _ (by decide))
theorem tabS_ok {st : St} (h : (tabS st).1.2 = 0) : st.2 = 0 ∧ TabOk (tabS st).2.1 (tabS st).2.2 := tabG_ok oneR (cntR _ (by decide)) (cntR _ (by decide)) h
theorem tabS_stOk {st : St} (h : StOk st) : StOk (tabS st).1 := tabG_stOk oneR (cntR _ (by decide)) (cntR _ (by decide)) h
end Go.Proofs.Ytdkokfpbmmjfkaa
namespace Go.Proofs.Ytdkokfpbmmjfkaa
open Go.RowKit
set_option linter.unusedVariables false

/-- A unit in a box of its own: its number, the fields so far. -/
structure UBox (U : Nat) (id : Int) (l : List Int) (W : World) : Prop where
  c0 : W.cell? ⟨U, 0, none⟩ = some (.int .i64 id)
  c : ∀ j, j < 5 → W.cell? ⟨U, j + 1, none⟩ = some (.int .i64 (l.getD j 0))
  f : ∀ j, W.frozen? ⟨U, j, none⟩ = false
theorem UBox.lt {U : Nat} {id : Int} {l : List Int} {W : World} (h : UBox U id l W) : U < W.heap.size := block_lt_of_cell h.c0
theorem UBox.touch {S : Nat → Prop} {U : Nat} {id : Int} {l : List Int} {W w' : World} (h : UBox U id l W) (ht : Touch S W w') (hs : ¬ S U) : UBox U id l w' :=
  ⟨(ht.cell (p := ⟨U, 0, none⟩) h.lt hs).trans h.c0, fun j hj => (ht.cell (p := ⟨U, j + 1, none⟩) h.lt hs).trans (h.c j hj), fun j => (ht.frozen (p := ⟨U, j, none⟩) h.lt hs).trans (h.f j)⟩
theorem UBox.set {U : Nat} {id : Int} {l : List Int} {W : World} (h : UBox U id l W) (hl : l.length < 5) (x : Int) : UBox U id (l ++ [x]) (W.setCell ⟨U, 1 + l.length, none⟩ (.int .i64 x)) := by
  rw [Nat.add_comm 1]
  refine ⟨(World.cell?_setCell_other _ _ _ _ (by simp)).trans h.c0, fun j hj => ?_, fun j => by simpa using h.f j⟩
  by_cases e : j = l.length
  · subst e
    rw [World.cell?_setCell_same _ _ _ (h.c _ hj)]
    simp
  · rw [World.cell?_setCell_other _ _ _ _ (by simp), h.c j hj]
    by_cases h2 : j < l.length
    · simp [List.getD, List.getElem?_append_left h2]
    · simp [List.getD, List.getElem?_eq_none (show l.length ≤ j by omega), List.getElem?_eq_none (show (l ++ [x]).length ≤ j by simp; omega)]
theorem UBox.new (W : World) (id : Int) (t : TypeId) : UBox W.heap.size id [] (W.alloc (.cells #[.int .i64 id, .int .i64 0, .int .i64 0, .int .i64 0, .int .i64 0, .int .i64 0] t)) := by
  refine ⟨by simp, fun j hj => ?_, fun j => frozen_new _ _ _ _⟩
  have e : j = 0 ∨ j = 1 ∨ j = 2 ∨ j = 3 ∨ j = 4 := by omega
  rcases e with rfl | rfl | rfl | rfl | rfl <;> simp
/-- The reader at b, the unit at U, the answer's box. -/
structure RuMem (w : World) (b U : Nat) (id : Int) (q : St × List Int) (wr : World) : Prop where
  inst : InSt wr b q.1
  box : UBox U id q.2 wr
  rb : UBox w.heap.size 0 [] wr
  tch : Touch (fun k => k = b) w wr
  ne : w.heap.size < U
theorem RuMem.step {w : World} {b U : Nat} {id : Int} {q : St × List Int} {wr wa : World} {s' : St} (h : RuMem w b U id q wr) (hb : b < w.heap.size) (ha : InTo wr b s' wa) (hl : q.2.length < 5) (x : Int) : RuMem w b U id (s', q.2 ++ [x]) (wa.setCell ⟨U, 1 + q.2.length, none⟩ (.int .i64 x)) := by
  have hne := h.ne
  have hs : Touch (fun k => k = U) wa (wa.setCell ⟨U, 1 + q.2.length, none⟩ (.int .i64 x)) := (Touch.refl (fun k => k = U) wa).setCell (p := ⟨U, 1 + q.2.length, none⟩) (fun _ => rfl) _
  exact ⟨ha.1.touch hs (by show ¬ b = U; omega), (h.box.touch ha.2 (by show ¬ U = b; omega)).set hl x, (h.rb.touch ha.2 (by show ¬ w.heap.size = b; omega)).touch hs (by show ¬ w.heap.size = U; omega), (h.tch.trans ha.2).trans' hs (fun j hj e => by omega), h.ne⟩
theorem set6_touch (w : World) (X : Nat) (x0 x1 x2 x3 x4 x5 : Value) : Touch (fun k => k = X) w (set6 w X x0 x1 x2 x3 x4 x5) :=
  ((((((Touch.refl (fun k => k = X) w).setCell (p := ⟨X, 0, none⟩) (fun _ => rfl) _).setCell (p := ⟨X, 1, none⟩) (fun _ => rfl) _).setCell (p := ⟨X, 2, none⟩) (fun _ => rfl) _).setCell (p := ⟨X, 3, none⟩) (fun _ => rfl) _).setCell (p := ⟨X, 4, none⟩) (fun _ => rfl) _).setCell (p := ⟨X, 5, none⟩) (fun _ => rfl) _
theorem RuMem.fin {w : World} {b U : Nat} {id : Int} {q : St × List Int} {wr : World} (h : RuMem w b U id q wr) (hb : b < w.heap.size) (x0 x1 x2 x3 x4 x5 : Value) : InTo w b q.1 (set6 wr w.heap.size x0 x1 x2 x3 x4 x5) := by
  have hs := set6_touch wr w.heap.size x0 x1 x2 x3 x4 x5
  exact ⟨h.inst.touch hs (by show ¬ b = w.heap.size; omega), h.tch.trans' hs (fun j hj e => by omega)⟩
def rdU (last : Int) (st : St) : St × Un := rdG fieldS (cntS 1099511627776) last st
theorem fieldS_eq (f : Nat) (st : St) : fieldS f st = (failS (numS st).1 (if mayN f (unzig (numS st).2) then 0 else 4), unzig (numS st).2) := rfl
theorem cntS_eq (m : Nat) (st : St) : cntS m st = countS st (m : Int) := rfl
theorem fsG_stOk' {k : Nat} {st : St} (h : StOk st) : StOk (fsG fieldS k st).1 := fsG_stOk fldR h
set_option maxRecDepth 100000 in
set_option maxHeartbeats 4000000 in
theorem readUnit_any (b : Nat) (st : St) (last : Int) (w : World) (h : InSt w b st) (h0 : 0 ≤ last) (h1 : last ≤ 1099511627776) :
    Calls Try.prog 63 #[.pointer (some ⟨b, 0, none⟩), .int .i64 last] w fun r w' => r = .returned (unV (rdU last st).2) ∧ InTo w b (rdU last st).1 w' := by
  have hb := h.lt
  have hC := count_any b st.1 st.2 1099511627776 (w.alloc (.cells #[.int .i64 0, .int .i64 0, .int .i64 0, .int .i64 0, .int .i64 0, .int .i64 0] 35)) (by decide) (by decide) (h.alloc _)
  have hle := (cntR 1099511627776 (by decide)).le st
  have hS := rdG_eq fieldS (cntS 1099511627776) last st
  rw [← show rdU last st = rdG fieldS (cntS 1099511627776) last st from rfl] at hS
  rw [show countS (st.1, st.2) 1099511627776 = cntS 1099511627776 st from rfl] at hC
  generalize rdU last st = res at hS
  generalize cntS 1099511627776 st = t at hC hle hS
  obtain ⟨s1, n⟩ := t
  simp only at hle hS
  have HC := Lib.hid hC
  have HS := Lib.hid hS
  clear hC hS
  have hwr : IntKind.i64.wrap (last + (n : Int)) = last + (n : Int) := by rw [IntKind.wrap_i64]; omega
  go_enter Try.func63, Try.ntmps63
  go_wp2_with fail
  refine HC.out.mono ?_
  rintro r w1 ⟨rfl, hi1⟩
  have HM : Hid (RuMem w b w1.heap.size (last + (n : Int)) (s1, []) (w1.alloc (.cells #[.int .i64 (last + (n : Int)), .int .i64 0, .int .i64 0, .int .i64 0, .int .i64 0, .int .i64 0] 35))) :=
    Lib.hid ⟨hi1.1.alloc _, UBox.new w1 _ _, ((UBox.new w 0 35).touch hi1.2 (by show ¬ w.heap.size = b; omega)).touch (touch_of_below (S := fun _ => False) (bel_alloc (Below.refl _ _) _)) id, (((Touch.refl _ w).alloc _).trans hi1.2).alloc _, by have := hi1.2.size; simp at this; omega⟩
  clear hi1 HC
  simp only
  go_wp2
  generalize last + (n : Int) = id at HM HS
  generalize w1.heap.size = U at HM ⊢
  go_loopw [13] (fun iv wr => ∃ k : Nat, k ≤ 5 ∧ iv = .int .i64 k ∧ Hid (RuMem w b U id (fsG fieldS k s1) wr)) (fun iv _ => 5 - (intOf iv).toNat)
  case atStart => exact ⟨0, by omega, rfl, HM⟩
  case round =>
    obtain ⟨k, hk, rfl, HR⟩ := hrel
    by_cases hlt : k < 5
    · have hN := fsG_succ fieldS k s1
      have hln := fsG_len fieldS k s1
      generalize fsG fieldS k s1 = q at HR hN hln
      obtain ⟨sq, lq⟩ := q
      simp only at HR hN hln
      rw [fieldS_eq] at hN
      have hI := inInt_any b sq.1 sq.2 wr HR.out.inst
      rw [show (sq.1, sq.2) = sq from rfl] at hI
      generalize numS sq = t2 at hI hN
      obtain ⟨s2, m⟩ := t2
      simp only at hI hN
      generalize unzig m = x at hI hN
      have HI := Lib.hid hI
      have HN := Lib.hid hN
      have HLN := Lib.hid hln
      have HMB := Lib.hid (fun W => fieldMayBe_any k x W (by omega))
      clear hI hN hln
      have hk0 : (0 : Int) ≤ (k : Int) := by omega
      have hk1 : (k : Int) < (5 : Int) := by omega
      cases hm : mayN k x
      · rw [hm] at HMB
        have HNF := Lib.hid (show fsG fieldS (k + 1) s1 = (failS s2 4, lq ++ [x]) by rw [HN.out, hm]; rfl)
        clear hm HN
        go_wp2_with fail
        refine HI.out.mono ?_
        rintro r w2 ⟨rfl, hi2⟩
        have HI2 := Lib.hid hi2
        clear hi2
        go_wp2_with fail
        refine (HMB.out _).mono ?_
        rintro r w3 ⟨rfl, rfl⟩
        have HF := Lib.hid (fail_any b s2.1 s2.2 4 w2 (by decide) HI2.out.1)
        go_wp2_with fail
        refine HF.out.mono ?_
        rintro r w3 ⟨rfl, hi3⟩
        rw [show (s2.1, s2.2) = s2 from rfl] at hi3
        have HM3 := Lib.hid (HR.out.step hb (HI2.out.trans hi3) (by rw [HLN.out]; exact hlt) x)
        simp only [HLN.out] at HM3
        have hbox := (HR.out.box.touch (HI2.out.trans hi3).2 (by show ¬ U = b; have := HR.out.ne; omega))
        have hc := hbox.c k hlt
        rw [Nat.add_comm k] at hc
        have hf := hbox.f (1 + k)
        have hUl := hbox.lt
        clear hi3 HI2 HF hbox
        go_wp2
        go_roundw
        case rel => exact ⟨k + 1, by omega, by go_num, by rw [HNF.out]; exact HM3⟩
        case measure => simp [intOf]; omega
      · rw [hm] at HMB
        have HNF := Lib.hid (show fsG fieldS (k + 1) s1 = (s2, lq ++ [x]) by rw [HN.out, hm]; simp [failS])
        clear hm HN
        go_wp2_with fail
        refine HI.out.mono ?_
        rintro r w2 ⟨rfl, hi2⟩
        have HI2 := Lib.hid hi2
        clear hi2
        go_wp2_with fail
        refine (HMB.out _).mono ?_
        rintro r w3 ⟨rfl, rfl⟩
        have HM3 := Lib.hid (HR.out.step hb HI2.out (by rw [HLN.out]; exact hlt) x)
        simp only [HLN.out] at HM3
        have hbox := (HR.out.box.touch HI2.out.2 (by show ¬ U = b; have := HR.out.ne; omega))
        have hc := hbox.c k hlt
        rw [Nat.add_comm k] at hc
        have hf := hbox.f (1 + k)
        have hUl := hbox.lt
        clear HI2 hbox
        go_wp2
        go_roundw
        case rel => exact ⟨k + 1, by omega, by go_num, by rw [HNF.out]; exact HM3⟩
        case measure => simp [intOf]; omega
    · obtain rfl : k = 5 := by omega
      have c0 := HR.out.box.c0
      have c1 := HR.out.box.c 0 (by decide)
      have c2 := HR.out.box.c 1 (by decide)
      have c3 := HR.out.box.c 2 (by decide)
      have c4 := HR.out.box.c 3 (by decide)
      have c5 := HR.out.box.c 4 (by decide)
      have r0 := HR.out.rb.c0
      have r1 := HR.out.rb.c 0 (by decide)
      have r2 := HR.out.rb.c 1 (by decide)
      have r3 := HR.out.rb.c 2 (by decide)
      have r4 := HR.out.rb.c 3 (by decide)
      have r5 := HR.out.rb.c 4 (by decide)
      have z0 := HR.out.rb.f 0
      have z1 := HR.out.rb.f 1
      have z2 := HR.out.rb.f 2
      have z3 := HR.out.rb.f 3
      have z4 := HR.out.rb.f 4
      have z5 := HR.out.rb.f 5
      have hRU := HR.out.ne
      have hUl := HR.out.box.lt
      have hRl := HR.out.rb.lt
      generalize hl0 : (fsG fieldS 5 s1).2.getD 0 0 = y0 at c1
      generalize hl1 : (fsG fieldS 5 s1).2.getD 1 0 = y1 at c2
      generalize hl2 : (fsG fieldS 5 s1).2.getD 2 0 = y2 at c3
      generalize hl3 : (fsG fieldS 5 s1).2.getD 3 0 = y3 at c4
      generalize hl4 : (fsG fieldS 5 s1).2.getD 4 0 = y4 at c5
      have HE := Lib.hid (show unV res.2 = .agg #[.int .i64 id, .int .i64 y0, .int .i64 y1, .int .i64 y2, .int .i64 y3, .int .i64 y4] by rw [HS.out]; simp only [unOf, unV, hl0, hl1, hl2, hl3, hl4])
      have HFN := Lib.hid (HR.out.fin hb (.int .i64 id) (.int .i64 y0) (.int .i64 y1) (.int .i64 y2) (.int .i64 y3) (.int .i64 y4))
      unfold set6 at HFN
      have HSR := Lib.hid (show res.1 = (fsG fieldS 5 s1).1 by rw [HS.out])
      clear hl0 hl1 hl2 hl3 hl4 HR HS HM
      go_wp2
      rw [HE.out, HSR.out]
      exact bodyPost_ret (v := .agg #[.int .i64 id, .int .i64 y0, .int .i64 y1, .int .i64 y2, .int .i64 y3, .int .i64 y4]) (by simp [results, Try.results63, go_sem, r0, r1, r2, r3, r4, r5]) rfl ⟨rfl, HFN.out⟩
end Go.Proofs.Ytdkokfpbmmjfkaa
namespace Go.Proofs.Ytdkokfpbmmjfkaa
open Go.RowKit
set_option linter.unusedVariables false

def rdUn (next : Int) (k : Nat) (st : St) : St × List Un := unsG (oneO next) 0 k st
theorem rdUn_succ (next : Int) (k : Nat) (st : St) : rdUn next (k + 1) st = (failS (rdU (lastId 0 (rdUn next k st).2) (rdUn next k st).1).1 (ordE (lastId 0 (rdUn next k st).2) next (rdU (lastId 0 (rdUn next k st).2) (rdUn next k st).1).2), (rdUn next k st).2 ++ [(rdU (lastId 0 (rdUn next k st).2) (rdUn next k st).1).2]) := by
  have h := unsG_succ (oneO next) 0 k st
  unfold rdUn
  rw [h]
  generalize unsG (oneO next) 0 k st = q
  simp only [oneO, oneG, rdU]
theorem rdUn_len (next : Int) (k : Nat) (st : St) : (rdUn next k st).2.length = k := unsG_len _ _ _ _
theorem unsG_stuck {next : Int} {O : Int → St → St × Un} (hO : OneR next O) {last : Int} {k : Nat} {st : St} (h : (unsG O last k st).1.2 ≠ 0) (hn : (unsG O last k st).1.1 = []) (j : Nat) : (unsG O last (k + j) st).1 = (unsG O last k st).1 := by
  induction j with
  | zero => rfl
  | succ j ih =>
    show (O (lastId last (unsG O last (k + j) st).2) (unsG O last (k + j) st).1).1 = _
    rw [ih]
    generalize (unsG O last k st).1 = s at h hn
    obtain ⟨l, e⟩ := s
    simp only at h hn
    subst hn
    exact (hO.cod _).stick e h
theorem rdUn_stuck {next : Int} {k n : Nat} {st : St} (hk : k ≤ n) (h : (rdUn next k st).1.2 ≠ 0) (hn : (rdUn next k st).1.1 = []) : (rdUn next n st).1 = (rdUn next k st).1 := by
  have := unsG_stuck (oneR next) h hn (n - k)
  rw [show k + (n - k) = n by omega] at this
  exact this
theorem failS_stuck {st : St} (h : st.2 ≠ 0) (x : Nat) : failS st x = st := by unfold failS; rw [if_neg (fun hc => h hc.1)]
theorem rdU_zero {last : Int} {st : St} (h : (rdU last st).1.2 = 0) : UnMay (rdU last st).2 := (rdG_zero fldR (cntR _ (by decide)) h).2
theorem rdU_id (last : Int) (st : St) : last ≤ (rdU last st).2.id ∧ (rdU last st).2.id ≤ last + 1099511627776 := rdG_id (cntR _ (by decide)) last st
/-- What Read leaves: a table of its own, or nil beside the reader's error. -/
def TReadPost (w : World) (b : Nat) (t : St × (List Un × Int)) (r : Ending) (w' : World) : Prop :=
  InTo w b t.1 w' ∧ ((t.1.2 = 0 ∧ ∃ B, r = .returned (.pointer (some ⟨B, 0, none⟩)) ∧ TabQ (fun k => k < w.heap.size) B t.2.1 t.2.2 w') ∨ (t.1.2 ≠ 0 ∧ r = .returned (.pointer none)))
theorem OwnRec.one2 {w1 : World} {t u ty e : TypeId} {k B : Nat} {z : Value} (H : RecTy e k z) (ht : Try.prog.underlying t = some (.slice e)) (hu : Try.prog.underlying u = some (.slice e)) {a1 : Option Addr} {c1 : Nat} {l : List (List Int)} (h : OwnRec e k B a1 c1 l w1) (hB : B ≤ w1.heap.size) (x : List Int) (hx : x.length = k) (hl : l.length + 1 ≤ 1000000) :
    ∃ a' c' w', (Builtin.append_ #[t, u] ty #[.slice a1 l.length c1, .slice (some ⟨w1.heap.size, 0, none⟩) 1 1]).run Try.prog (w1.alloc (.cells ((x.map (Value.int .i64)).toArray) e)) = .ok (.slice a' (l.length + 1) c') w' ∧ OwnRec e k B a' c' (l ++ [x]) w' ∧ Touch (fun b => a1.map (·.block) = some b) w1 w' := by
  have hw : Wide k [x] := by intro y hy; simp at hy; rw [hy]; exact hx
  obtain ⟨a', c', w', hrun, ho, hg, hf⟩ := rec_append (ty := ty) H ht hu hw (h.1.alloc (.cells ((x.map (Value.int .i64)).toArray) e)) (some ⟨w1.heap.size, 0, none⟩) 1 (RecRow.lit w1 [x] hw ((x.map (Value.int .i64)).toArray) e (by simp [recCells])) (fun h => by cases h) (by simpa using hl)
  refine ⟨a', c', w', hrun, ⟨by rw [List.length_append] at ho ⊢; exact ho, fun y hy => ?_⟩, ((Touch.refl _ w1).alloc _).trans ((touch_grown hg).mono fun b hb h' => ?_)⟩
  · subst hy
    rcases hf y.block (by simp [Value.ownBlock]) with h' | h'
    · cases a1 with
      | none => simp [Value.ownBlock] at h'
      | some z => simp [Value.ownBlock] at h'; have := h.2 z rfl; omega
    · simp at h'; omega
  · cases a1 with
    | none => simp [Value.ownBlock] at h'
    | some z => simpa [Value.ownBlock] using h'
theorem OwnRec.lt {e : TypeId} {k B : Nat} {a : Option Addr} {c : Nat} {ls : List (List Int)} {w : World} (h : OwnRec e k B a c ls w) : ∀ x, a = some x → x.block < w.heap.size := fun x hx => by
  rcases h.1.2 with ⟨hv, -⟩ | ⟨g, cap, cur, hv, -, hg, -⟩
  · rw [hx] at hv; simp at hv
  · rw [hx] at hv
    simp only [Value.slice.injEq, Option.some.injEq] at hv
    rw [hv.1]
    exact (Array.getElem?_eq_some_iff.1 hg).1
structure RtMem (w : World) (b : Nat) (q : St × List Un) (a : Option Addr) (c : Nat) (wr : World) : Prop where
  inst : InSt wr b q.1
  row : OwnRec 35 6 w.heap.size a c (unsI q.2) wr
  tch : Touch (fun k => k = b) w wr
theorem RtMem.step {w : World} {b : Nat} {q : St × List Un} {a : Option Addr} {c : Nat} {wr w2 : World} {s' : St} {u : Un} {t : TypeId} (h : RtMem w b q a c wr) (hb : b < w.heap.size) (h2 : InTo wr b s' w2) (hl : q.2.length ≤ 1000) :
    ∃ a' c' w', (Builtin.append_ #[110, 110] 110 #[.slice a q.2.length c, .slice (some ⟨w2.heap.size + 1, 0, none⟩) 1 1]).run Try.prog ((w2.alloc (.cells #[.int .i64 u.id, .int .i64 u.kind, .int .i64 u.owner, .int .i64 u.x, .int .i64 u.y, .int .i64 u.health] t)).alloc (.cells #[.int .i64 u.id, .int .i64 u.kind, .int .i64 u.owner, .int .i64 u.x, .int .i64 u.y, .int .i64 u.health] 35)) = .ok (.slice a' (q.2.length + 1) c') w' ∧ RtMem w b (s', q.2 ++ [u]) a' c' w' ∧
      w'.cell? ⟨w2.heap.size, 0, none⟩ = some (.int .i64 u.id) := by
  obtain ⟨hi, hrow, ht⟩ := h
  have z1 := ht.size
  have z2 := h2.2.size
  have hA : Below w2.heap.size w2 (w2.alloc (.cells #[.int .i64 u.id, .int .i64 u.kind, .int .i64 u.owner, .int .i64 u.x, .int .i64 u.y, .int .i64 u.health] t)) := bel_alloc (Below.refl _ _) _
  have hsz : (w2.alloc (.cells #[.int .i64 u.id, .int .i64 u.kind, .int .i64 u.owner, .int .i64 u.x, .int .i64 u.y, .int .i64 u.health] t)).heap.size = w2.heap.size + 1 := by simp
  have hc : (w2.alloc (.cells #[.int .i64 u.id, .int .i64 u.kind, .int .i64 u.owner, .int .i64 u.x, .int .i64 u.y, .int .i64 u.health] t)).cell? ⟨w2.heap.size, 0, none⟩ = some (.int .i64 u.id) := by simp
  have hrow' : OwnRec 35 6 w.heap.size a c (unsI q.2) (w2.alloc (.cells #[.int .i64 u.id, .int .i64 u.kind, .int .i64 u.owner, .int .i64 u.x, .int .i64 u.y, .int .i64 u.health] t)) := (hrow.touch h2.2 (fun j hj e => by omega)).touch (touch_of_below (S := fun _ => False) hA) (fun j _ => id)
  have hi' : InSt (w2.alloc (.cells #[.int .i64 u.id, .int .i64 u.kind, .int .i64 u.owner, .int .i64 u.x, .int .i64 u.y, .int .i64 u.health] t)) b s' := h2.1.below hA
  have ht' : Touch (fun k => k = b) w (w2.alloc (.cells #[.int .i64 u.id, .int .i64 u.kind, .int .i64 u.owner, .int .i64 u.x, .int .i64 u.y, .int .i64 u.health] t)) := (ht.trans h2.2).alloc _
  generalize w2.alloc (.cells #[.int .i64 u.id, .int .i64 u.kind, .int .i64 u.owner, .int .i64 u.x, .int .i64 u.y, .int .i64 u.health] t) = W at hA hsz hc hrow' hi' ht' ⊢
  obtain ⟨a', c', w', hrun, hnew, htch⟩ := hrow'.one2 (t := 110) (u := 110) (ty := 110) unTy Try.underlying110 Try.underlying110 (by omega) u.ints rfl (by rw [unsI_len]; omega)
  rw [unsI_len, hsz] at hrun
  have hlt := (hrow.touch h2.2 (fun j hj e => by omega)).lt
  have hge := hrow.2
  have hno : ∀ j, a.map (·.block) = some j → w.heap.size ≤ j ∧ j < w2.heap.size := fun j hj => by
    cases a with
    | none => simp at hj
    | some x => simp at hj; subst hj; exact ⟨hge x rfl, hlt x rfl⟩
  refine ⟨a', c', w', hrun, ⟨hi'.touch htch (fun e => by have := hno _ e; omega), ?_, ht'.trans' htch (fun j hj e => by have := hno _ e; omega)⟩, ?_⟩
  · rw [unsI_append]; exact hnew
  · exact (htch.cell (p := ⟨w2.heap.size, 0, none⟩) (by show w2.heap.size < _; omega) (fun e => by have := hno w2.heap.size e; omega)).trans hc
set_option maxRecDepth 100000 in
set_option maxHeartbeats 4000000 in
theorem tabRead_any (b : Nat) (st : St) (w : World) (h : InSt w b st) : Calls Try.prog 19 #[.pointer (some ⟨b, 0, none⟩)] w (TReadPost w b (tabS st)) := by
  have hb := h.lt
  have hC := count_any b st.1 st.2 1099511627776 w (by decide) (by decide) h
  rw [show countS (st.1, st.2) 1099511627776 = cntS 1099511627776 st from rfl] at hC
  have hle := (cntR 1099511627776 (by decide)).le st
  have hS := tabG_eq oneO (cntS 1099511627776) (cntS 64) st
  rw [← show tabS st = tabG oneO (cntS 1099511627776) (cntS 64) st from rfl] at hS
  have HTOK := Lib.hid (fun hh => (tabS_ok (st := st) hh).2)
  generalize tabS st = res at hS HTOK
  generalize cntS 1099511627776 st = t at hC hle hS
  obtain ⟨s1, next⟩ := t
  simp only at hle hS
  have hC2 := fun W (hh : InSt W b s1) => count_any b s1.1 s1.2 64 W (by decide) (by decide) hh
  rw [show countS (s1.1, s1.2) 64 = cntS 64 s1 from rfl] at hC2
  have hle2 := (cntR 64 (by decide)).le s1
  generalize cntS 64 s1 = t at hC2 hle2 hS
  obtain ⟨s2, n⟩ := t
  simp only at hle2 hS
  have hS' : res = (failS (rdUn (next : Int) n s2).1 (if next = 0 then 4 else 0), ((rdUn (next : Int) n s2).2, (next : Int) - 1)) := hS
  have HC := Lib.hid hC
  have HC2 := Lib.hid hC2
  have HS := Lib.hid hS'
  generalize hpost : TReadPost w b res = Post
  have HPost := Lib.hid hpost
  clear hC hC2 hS hS' h hpost
  go_enter Try.func19, Try.ntmps19
  go_wp2_with fail
  refine HC.out.mono ?_
  rintro r w1 ⟨rfl, hi1⟩
  have HI1 := Lib.hid hi1
  clear hi1 HC
  simp only
  go_wp2_with fail
  refine (HC2.out _ HI1.out.1).mono ?_
  rintro r w2 ⟨rfl, hi2⟩
  have HM : Hid (RtMem w b (rdUn (next : Int) 0 s2) none 0 w2) := Lib.hid ⟨hi2.1, ⟨World.ownsRow_nil _ _ _ _, fun x hx => by cases hx⟩, (HI1.out.2.trans hi2.2)⟩
  clear hi2 HI1 HC2
  simp only
  go_wp2
  go_loopw [4, 5, 11] (fun v5 v6 iv wr => ∃ (k : Nat) (a : Option Addr) (c : Nat), k ≤ n ∧ v5 = .slice a k c ∧ v6 = .int .i64 (lastId 0 (rdUn (next : Int) k s2).2) ∧ iv = .int .i64 k ∧ Hid (RtMem w b (rdUn (next : Int) k s2) a c wr ∧ 0 ≤ lastId 0 (rdUn (next : Int) k s2).2 ∧ lastId 0 (rdUn (next : Int) k s2).2 ≤ next)) (fun _ _ iv _ => n - (intOf iv).toNat)
  case atStart => exact ⟨0, none, 0, by omega, rfl, rfl, rfl, Lib.hid ⟨HM.out, by show (0 : Int) ≤ 0; omega, by show (0 : Int) ≤ (next : Int); omega⟩⟩
  case round =>
    obtain ⟨k, a, c, hk, rfl, rfl, rfl, HR⟩ := hrel
    have hln := rdUn_len (next : Int) k s2
    by_cases hlt : k < n
    · have hN := rdUn_succ (next : Int) k s2
      have HST := Lib.hid (fun h1 h2 => rdUn_stuck (next := (next : Int)) (k := k + 1) (n := n) (st := s2) (by omega) h1 h2)
      generalize rdUn (next : Int) k s2 = q at HR hN hln
      obtain ⟨sq, lq⟩ := q
      simp only at HR hN hln
      have HLA := Lib.hid (lastId_append 0 lq)
      generalize hla : lastId 0 lq = last at HR hN
      have h0 := HR.out.2.1
      have h1 := HR.out.2.2
      have HRU := Lib.hid (readUnit_any b sq last wr HR.out.1.inst (by omega) (by omega))
      have hid := rdU_id last sq
      clear hla
      generalize rdU last sq = t at HRU hN hid
      obtain ⟨s3, u⟩ := t
      simp only at hN hid
      have HN := Lib.hid hN
      clear hN
      go_wp2_with fail
      refine HRU.out.mono ?_
      rintro r w3 ⟨rfl, hi3⟩
      have HI3 := Lib.hid hi3
      have hstep := HR.out.1.step (u := u) (t := 35) hb hi3 (by simp only; omega)
      simp only [hln] at hstep
      have HSTEP := Lib.hid hstep
      clear hi3 HRU hstep
      obtain ⟨u0, u1, u2', u3, u4, u5⟩ := u
      unfold unV
      simp only at hid HSTEP HN
      have HI4 := Lib.hid (show InTo wr b s3 (w3.alloc (.cells #[.int .i64 u0, .int .i64 u1, .int .i64 u2', .int .i64 u3, .int .i64 u4, .int .i64 u5] 35)) from ⟨HI3.out.1.alloc _, HI3.out.2.alloc _⟩)
      have HT := Lib.hid HR.out.1.tch
      by_cases hE : u0 = last ∨ (next : Int) ≤ u0
      · have HNF := Lib.hid (show rdUn (next : Int) (k + 1) s2 = (failS s3 12, lq ++ [⟨u0, u1, u2', u3, u4, u5⟩]) by rw [HN.out, ordE, if_pos hE])
        have HF := Lib.hid (fail_any b s3.1 s3.2 12 _ (by decide) HI4.out.1)
        rw [show (s3.1, s3.2) = s3 from rfl] at HF
        have hne : (failS s3 12).2 ≠ 0 := fun h => by have := (failS_zero h).2; omega
        generalize failS s3 12 = s4 at HF HNF hne
        obtain ⟨l4, e4⟩ := s4
        simp only at hne
        have heb : ((e4 : Int) != 0) = true := by simp; omega
        have HNE := Lib.hid hne
        have hcase : (u0 == last) = true ∨ ((u0 == last) = false ∧ decide ((next : Int) ≤ u0) = true) := by
          by_cases h : u0 = last
          · exact .inl (by simpa using h)
          · exact .inr ⟨by simpa using h, by simp; omega⟩
        clear hE hne HN
        rcases hcase with hq | ⟨hq, hq2⟩
        all_goals
          go_wp2_with fail
          refine HF.out.mono ?_
          rintro r w5 ⟨rfl, hi5⟩
          have HI5 := Lib.hid (HI4.out.trans hi5)
          have HER := Lib.hid (err_any b l4 e4 w5 hi5.1)
          clear hi5
          go_wp2_with fail
          refine HER.out.mono ?_
          rintro r w6 ⟨rfl, rfl⟩
          go_wp2
          rw [← HPost.out]
          have hst := HST.out (by rw [HNF.out]; exact HNE.out) (by rw [HNF.out]; exact HI5.out.1.2.2.2.2.2.1 HNE.out)
          rw [HNF.out] at hst
          refine ⟨?_, .inr ⟨?_, rfl⟩⟩
          · rw [HS.out, hst, failS_stuck HNE.out]
            exact ⟨HI5.out.1, HT.out.trans HI5.out.2⟩
          · rw [HS.out, hst, failS_stuck HNE.out]
            exact HNE.out
      · have hq : (u0 == last) = false := by simp; omega
        have hq2 : decide ((next : Int) ≤ u0) = false := by simp; omega
        have HNF := Lib.hid (show rdUn (next : Int) (k + 1) s2 = (s3, lq ++ [⟨u0, u1, u2', u3, u4, u5⟩]) by rw [HN.out, ordE, if_neg hE]; simp [failS])
        have HEE := Lib.hid hE
        clear hE HN
        obtain ⟨l3, e3⟩ := s3
        have HER := Lib.hid (err_any b l3 e3 _ HI4.out.1)
        by_cases he : e3 = 0
        · subst he
          go_wp2_with fail
          refine HER.out.mono ?_
          rintro r w6 ⟨rfl, rfl⟩
          obtain ⟨a', c', w', hrun, hmem, hcl⟩ := HSTEP.out
          have HRUN := Lib.hid hrun
          have HMEM := Lib.hid hmem
          have hwl := block_lt_of_cell hcl
          simp only at hwl
          clear hrun hmem HSTEP
          go_wp2_with (at_builtin; refine wpList_append_run _ rfl (.tmp 31) (.tmp 33) 110 110 rfl _ _ rfl rfl (.slice a' (k + 1) c') w' HRUN.out ?_)
          go_roundw
          case rel => exact ⟨k + 1, a', c', by omega, rfl, by rw [HNF.out]; simp only [HLA.out], by go_num, Lib.hid (by rw [HNF.out]; simp only [HLA.out]; exact ⟨HMEM.out, by omega, by have := HEE.out; omega⟩)⟩
          case measure => simp [intOf]; omega
        · have heb : ((e3 : Int) != 0) = true := by simp; omega
          have HNE := Lib.hid he
          clear he
          go_wp2_with fail
          refine HER.out.mono ?_
          rintro r w6 ⟨rfl, rfl⟩
          go_wp2
          rw [← HPost.out]
          have hst := HST.out (by rw [HNF.out]; exact HNE.out) (by rw [HNF.out]; exact HI4.out.1.2.2.2.2.2.1 HNE.out)
          rw [HNF.out] at hst
          refine ⟨?_, .inr ⟨?_, rfl⟩⟩
          · rw [HS.out, hst, failS_stuck HNE.out]
            exact ⟨HI4.out.1, HT.out.trans HI4.out.2⟩
          · rw [HS.out, hst, failS_stuck HNE.out]
            exact HNE.out
    · obtain rfl : n = k := by omega
      generalize rdUn (next : Int) n s2 = q at HR hln HS
      obtain ⟨sq, lq⟩ := q
      simp only at HR hln HS
      generalize lastId 0 lq = last at HR
      have HI := Lib.hid HR.out.1.inst
      have HT := Lib.hid HR.out.1.tch
      have HROW := Lib.hid HR.out.1.row
      have HLN := Lib.hid hln
      clear HR hln HM
      by_cases hn0 : next = 0
      · subst hn0
        have HS1 := Lib.hid (show res.1 = failS sq 4 by rw [HS.out]; rfl)
        have HF := Lib.hid (fail_any b sq.1 sq.2 4 wr (by decide) HI.out)
        rw [show (sq.1, sq.2) = sq from rfl] at HF
        have hne : (failS sq 4).2 ≠ 0 := fun h => by have := (failS_zero h).2; omega
        generalize failS sq 4 = s4 at HF HS1 hne
        obtain ⟨l4, e4⟩ := s4
        simp only at hne
        have heb : ((e4 : Int) != 0) = true := by simp; omega
        have HNE := Lib.hid hne
        clear hne
        go_wp2_with fail
        refine HF.out.mono ?_
        rintro r w5 ⟨rfl, hi5⟩
        have HI5 := Lib.hid hi5
        have HER := Lib.hid (err_any b l4 e4 w5 hi5.1)
        clear hi5
        go_wp2_with fail
        refine HER.out.mono ?_
        rintro r w6 ⟨rfl, rfl⟩
        go_wp2
        rw [← HPost.out]
        exact ⟨by rw [HS1.out]; exact ⟨HI5.out.1, HT.out.trans HI5.out.2⟩, .inr ⟨by rw [HS1.out]; exact HNE.out, rfl⟩⟩
      · have HS1 := Lib.hid (show res.1 = sq by rw [HS.out, if_neg hn0]; simp [failS])
        have HS2 := Lib.hid (show res.2 = (lq, (next : Int) - 1) by rw [HS.out])
        have hnb : ((next : Int) == 0) = false := by simp; omega
        have hwr : IntKind.i64.wrap ((next : Int) - 1) = (next : Int) - 1 := by rw [IntKind.wrap_i64]; omega
        have HTK := Lib.hid HTOK.out
        clear hn0 HS
        obtain ⟨l3, e3⟩ := sq
        have HER := Lib.hid (err_any b l3 e3 wr HI.out)
        by_cases he : e3 = 0
        · subst he
          go_wp2_with fail
          refine HER.out.mono ?_
          rintro r w6 ⟨rfl, rfl⟩
          go_wp2
          rw [← HPost.out]
          refine ⟨by rw [HS1.out]; exact ⟨HI.out.alloc _, HT.out.alloc _⟩, .inl ⟨by rw [HS1.out], _, rfl, ?_⟩⟩
          have htok := HTK.out (by rw [HS1.out])
          rw [HS2.out] at htok ⊢
          have hrl := HROW.out.lt
          have hr2 := HROW.out.2
          have hsz := HT.out.size
          have hrow := HROW.out.touch (S := fun _ => False) (touch_of_below (bel_alloc (Below.refl _ wr) (.cells #[.slice a n c, .int .i64 ((next : Int) - 1)] 112))) (fun j _ => id)
          have hr := hrow.1
          rw [unsI_len] at hr
          refine ⟨⟨a, c, ⟨by rw [HLN.out]; exact new_cell rfl rfl, new_cell rfl rfl, frozen_new _ _ _ _, frozen_new _ _ _ _, hr, fun x hx => ?_⟩, ?_, fun x hx => ?_⟩, fun k hk => ?_, htok⟩
          · have := hrl x hx; omega
          · omega
          · have := hr2 x hx; omega
          · simp; omega
        · have heb : ((e3 : Int) != 0) = true := by simp; omega
          have HNE := Lib.hid he
          clear he
          go_wp2_with fail
          refine HER.out.mono ?_
          rintro r w6 ⟨rfl, rfl⟩
          go_wp2
          rw [← HPost.out]
          exact ⟨by rw [HS1.out]; exact ⟨HI.out, HT.out⟩, .inr ⟨by rw [HS1.out]; exact HNE.out, rfl⟩⟩
end Go.Proofs.Ytdkokfpbmmjfkaa
namespace Go.Proofs.Ytdkokfpbmmjfkaa
open Go.RowKit
set_option linter.unusedVariables false

theorem new3 {w w1 : World} {b : Nat} {x y z : Value} {t : TypeId} (hb : b < w.heap.size) (h : Touch (fun k => k = b) (w.alloc (.cells #[x, y, z] t)) w1) :
    (∀ j, w1.cell? ⟨w.heap.size, j, none⟩ = (#[x, y, z] : Array Value)[j]?) ∧ (∀ j, w1.frozen? ⟨w.heap.size, j, none⟩ = false) ∧ w.heap.size < w1.heap.size := by
  have hne : ¬ w.heap.size = b := by omega
  have hz := h.size
  exact ⟨fun j => (h.cell (p := ⟨w.heap.size, j, none⟩) (by simp) hne).trans (by simp), fun j => (h.frozen (p := ⟨w.heap.size, j, none⟩) (by simp) hne).trans (frozen_new _ _ _ _), by simp at hz; omega⟩
end Go.Proofs.Ytdkokfpbmmjfkaa
namespace Go.Proofs.Ytdkokfpbmmjfkaa
open Go.RowKit
set_option linter.unusedVariables false

/-- A function in memory: where its instructions lie. -/
structure Pf where
  fn : Fn
  x : Option Addr
  c : Nat
def Pf.val (p : Pf) : Value := .slice p.x p.fn.code.length p.c
def pfCells (p : Pf) : List Value := [.int .i64 p.fn.args, .int .i64 p.fn.locals, p.val]
def pfsCells (l : List Pf) : List Value := (l.map pfCells).flatten
theorem pfsCells_len (l : List Pf) : (pfsCells l).length = l.length * 3 := by
  induction l with
  | nil => rfl
  | cons x l ih => simp only [pfsCells, List.map_cons, List.flatten_cons, List.length_append, List.length_cons, pfCells, List.length_nil] at ih ⊢; omega
theorem pfsCells_at (l : List Pf) : ∀ i (h : i < l.length), (pfsCells l)[i * 3]? = some (.int .i64 l[i].fn.args) ∧ (pfsCells l)[i * 3 + 1]? = some (.int .i64 l[i].fn.locals) ∧ (pfsCells l)[i * 3 + 2]? = some l[i].val := by
  induction l with
  | nil => intro i h; simp at h
  | cons x l ih =>
    intro i h
    cases i with
    | zero => exact ⟨rfl, rfl, rfl⟩
    | succ i =>
      have := ih i (by simpa using h)
      have e : (i + 1) * 3 = i * 3 + 1 + 1 + 1 := by omega
      rw [e]
      exact this
theorem pfsCells_append (l m : List Pf) : pfsCells (l ++ m) = pfsCells l ++ pfsCells m := by simp [pfsCells]
theorem pfsCells_one (l : List Pf) : ∀ u ∈ pfsCells l, u.oneCell' = true := by
  intro u hu
  simp only [pfsCells, List.mem_flatten, List.mem_map] at hu
  obtain ⟨_, ⟨x, _, rfl⟩, h⟩ := hu
  simp only [pfCells, List.mem_cons, List.not_mem_nil, or_false] at h
  rcases h with rfl | rfl | rfl <;> rfl
theorem InsRow.touch' {S : Nat → Prop} {w w' : World} {p : Pf} (h : InsRow w p.x p.fn.code) (ht : Touch S w w') (hs : ∀ k, p.val.ownBlock = some k → ¬ S k) : InsRow w' p.x p.fn.code :=
  h.touch ht (fun x hx => hs x.block (by simp [Pf.val, hx, Value.ownBlock]))
def ParsePost (w : World) (l : List UInt8) (e : Ending) (w' : World) : Prop :=
  ∃ a c, e = .returned (.tuple #[.agg #[.slice a (parseS l).1.length c], .int .i64 ((parseS l).2 : Nat)]) ∧ FnRow w' a (parseS l).1 ∧ Below w.heap.size w w'
end Go.Proofs.Ytdkokfpbmmjfkaa
namespace Go.Proofs.Ytdkokfpbmmjfkaa
open Go.RowKit
set_option linter.unusedVariables false

theorem own_thaw {w : World} {base : Nat} {e : TypeId} {size : Nat} {a : Option Addr} {n c : Nat} {xs : List Value} (h : w.ownsRow base e size (.slice a n c) n xs) (x : Addr) (hx : a = some x) : x = ⟨x.block, 0, none⟩ ∧ ∀ j, w.frozen? ⟨x.block, j, none⟩ = false := by
  subst hx
  rcases h.2 with ⟨hv, _⟩ | ⟨g, cap, cur, hv, -, hg, -⟩
  · cases hv
  · cases hv
    exact ⟨rfl, fun j => by simp [World.frozen?, hg]⟩
theorem pf_own {p : Pf} {x : Addr} (h : p.x = some x) : p.val.ownBlock = some x.block := by simp [Pf.val, h, Value.ownBlock]
end Go.Proofs.Ytdkokfpbmmjfkaa
namespace Go.Proofs.Ytdkokfpbmmjfkaa
open Go.RowKit
set_option linter.unusedVariables false

/-- An instruction's two cells. -/
def rInsCells (x : Nat × Int) : List Value := [.int .i64 (x.1 : Int), .int .i64 x.2]
def rCodeCells (l : List (Nat × Int)) : List Value := (l.map rInsCells).flatten
theorem rCodeCells_len (l : List (Nat × Int)) : (rCodeCells l).length = l.length * 2 := by
  induction l with
  | nil => rfl
  | cons x l ih => simp only [rCodeCells, List.map_cons, List.flatten_cons, List.length_append, List.length_cons, rInsCells, List.length_nil] at ih ⊢; omega
theorem rCodeCells_at (l : List (Nat × Int)) : ∀ i (h : i < l.length), (rCodeCells l)[i * 2]? = some (.int .i64 (l[i].1 : Int)) ∧ (rCodeCells l)[i * 2 + 1]? = some (.int .i64 l[i].2) := by
  induction l with
  | nil => intro i h; simp at h
  | cons x l ih =>
    intro i h
    cases i with
    | zero => exact ⟨rfl, rfl⟩
    | succ i =>
      have := ih i (by simpa using h)
      have e : (i + 1) * 2 = i * 2 + 1 + 1 := by omega
      rw [e]
      exact this
theorem rCodeCells_append (l m : List (Nat × Int)) : rCodeCells (l ++ m) = rCodeCells l ++ rCodeCells m := by simp [rCodeCells]
theorem rCodeCells_one (l : List (Nat × Int)) : ∀ u ∈ rCodeCells l, u.oneCell' = true := by
  intro u hu
  simp only [rCodeCells, List.mem_flatten, List.mem_map] at hu
  obtain ⟨_, ⟨x, _, rfl⟩, h⟩ := hu
  simp only [rInsCells, List.mem_cons, List.not_mem_nil, or_false] at h
  rcases h with rfl | rfl <;> rfl
/-- Instructions lie one behind the other from a on. -/
def RInsRow (w : World) (a : Option Addr) (l : List (Nat × Int)) : Prop :=
  0 < l.length → ∃ b off, a = some ⟨b, off, none⟩ ∧ ∀ i (h : i < l.length), w.cell? ⟨b, off + i * 2, none⟩ = some (.int .i64 (l[i].1 : Int)) ∧ w.cell? ⟨b, off + i * 2 + 1, none⟩ = some (.int .i64 l[i].2)
theorem RInsRow.touch {S : Nat → Prop} {w w' : World} {a : Option Addr} {l : List (Nat × Int)} (h : RInsRow w a l) (ht : Touch S w w') (hs : ∀ x, a = some x → ¬ S x.block) : RInsRow w' a l := by
  intro h0
  obtain ⟨b, off, e, hc⟩ := h h0
  have hlt := block_lt_of_cell (hc 0 h0).1
  have hsb : ¬ S b := hs _ e
  refine ⟨b, off, e, fun i hi => ?_⟩
  obtain ⟨c1, c2⟩ := hc i hi
  exact ⟨(ht.cell (p := ⟨b, off + i * 2, none⟩) hlt hsb).trans c1, (ht.cell (p := ⟨b, off + i * 2 + 1, none⟩) hlt hsb).trans c2⟩
theorem RInsRow.below {w w' : World} {a : Option Addr} {l : List (Nat × Int)} (h : RInsRow w a l) (hb : Below w.heap.size w w') : RInsRow w' a l :=
  h.touch (touch_of_below (S := fun _ => False) hb) (fun _ _ => id)
theorem RInsRow.lt {w : World} {a : Option Addr} {l : List (Nat × Int)} (h : RInsRow w a l) (h0 : 0 < l.length) : ∃ b off, a = some ⟨b, off, none⟩ ∧ b < w.heap.size := by
  obtain ⟨b, off, e, hc⟩ := h h0
  exact ⟨b, off, e, block_lt_of_cell (hc 0 h0).1⟩
theorem RInsRow.cells {w : World} {b off : Nat} {l : List (Nat × Int)} (h : ∀ i (h : i < l.length), w.cell? ⟨b, off + i * 2, none⟩ = some (.int .i64 (l[i].1 : Int)) ∧ w.cell? ⟨b, off + i * 2 + 1, none⟩ = some (.int .i64 l[i].2)) :
    ∀ j u, (rCodeCells l)[j]? = some u → w.cell? ((⟨b, off, none⟩ : Addr).add j) = some u := by
  intro j u hu
  have hj : j < (rCodeCells l).length := (List.getElem?_eq_some_iff.1 hu).1
  rw [rCodeCells_len] at hj
  have hi : j / 2 < l.length := by omega
  obtain ⟨c1, c2⟩ := rCodeCells_at l (j / 2) hi
  obtain ⟨d1, d2⟩ := h (j / 2) hi
  rcases Nat.mod_two_eq_zero_or_one j with hm | hm
  · have e : j / 2 * 2 = j := by omega
    rw [e] at c1 d1
    rw [c1] at hu
    cases hu
    by_cases hz : j = 0
    · subst hz; simpa [Addr.add] using d1
    · simpa [Addr.add, hz] using d1
  · have e : j / 2 * 2 + 1 = j := by omega
    rw [e] at c2
    rw [Nat.add_assoc, e] at d2
    rw [c2] at hu
    cases hu
    have hz : j ≠ 0 := by omega
    simpa [Addr.add, hz] using d2
theorem RInsRow.lit (w : World) (l : List (Nat × Int)) (cells : Array Value) (t : TypeId) (hc : cells = (rCodeCells l).toArray) : RInsRow (w.alloc (.cells cells t)) (some ⟨w.heap.size, 0, none⟩) l := by
  subst hc
  intro h0
  refine ⟨w.heap.size, 0, rfl, fun i hi => ?_⟩
  obtain ⟨c1, c2⟩ := rCodeCells_at l i hi
  simp only [Nat.zero_add, World.cell?_alloc_new]
  simp [c1, c2]
/-- Functions lie one behind the other from a on. -/
def RFnRow (w : World) (a : Option Addr) (m : List Fn) : Prop :=
  0 < m.length → ∃ b off, a = some ⟨b, off, none⟩ ∧ ∀ i (h : i < m.length), w.cell? ⟨b, off + i * 3, none⟩ = some (.int .i64 m[i].args) ∧ w.cell? ⟨b, off + i * 3 + 1, none⟩ = some (.int .i64 m[i].locals) ∧
    ∃ x c, w.cell? ⟨b, off + i * 3 + 2, none⟩ = some (.slice x m[i].code.length c) ∧ RInsRow w x m[i].code
theorem RFnRow.below {w w' : World} {a : Option Addr} {m : List Fn} (h : RFnRow w a m) (hb : Below w.heap.size w w') : RFnRow w' a m := by
  intro h0
  obtain ⟨b, off, e, hc⟩ := h h0
  have hlt := block_lt_of_cell (hc 0 h0).1
  refine ⟨b, off, e, fun i hi => ?_⟩
  obtain ⟨c1, c2, x, c, c3, hr⟩ := hc i hi
  exact ⟨(hb.cell (p := ⟨b, off + i * 3, none⟩) hlt).trans c1, (hb.cell (p := ⟨b, off + i * 3 + 1, none⟩) hlt).trans c2, x, c, (hb.cell (p := ⟨b, off + i * 3 + 2, none⟩) hlt).trans c3, hr.below hb⟩
theorem RInsRow.touch' {S : Nat → Prop} {w w' : World} {p : Pf} (h : RInsRow w p.x p.fn.code) (ht : Touch S w w') (hs : ∀ k, p.val.ownBlock = some k → ¬ S k) : RInsRow w' p.x p.fn.code :=
  h.touch ht (fun x hx => hs x.block (by simp [Pf.val, hx, Value.ownBlock]))
end Go.Proofs.Ytdkokfpbmmjfkaa
namespace Go.Proofs.Ytdkokfpbmmjfkaa
set_option linter.unusedVariables false

/-- An instruction that is one, with an argument where it has one. -/
def InsDom (x : Nat × Int) : Prop := 1 ≤ x.1 ∧ x.1 ≤ 22 ∧ InsOk x ∧ (hasA x.1 = false → x.2 = 0)
def FnDom (f : Fn) : Prop := 0 ≤ f.args ∧ f.args ≤ 16 ∧ 0 ≤ f.locals ∧ f.locals ≤ 16 ∧ f.code.length ≤ 128 ∧ ∀ x ∈ f.code, InsDom x
def ImgDom (m : List Fn) : Prop := m.length ≤ 16 ∧ ∀ f ∈ m, FnDom f
def insG (o : Nat) (st : St) : St × (Nat × Int) := if hasA o then ((numS st).1, (o, unzig (numS st).2)) else (if o = 0 then failS st 14 else st, (o, 0))
def insE (x : Nat × Int) : List UInt8 := if hasA x.1 then numB (zig x.2) else []
theorem insGC (o : Nat) : Codec (insG o) insE (fun x => x.1 = o ∧ 1 ≤ x.1 ∧ InsOk x ∧ (hasA x.1 = false → x.2 = 0)) := by
  cases hA : hasA o
  · by_cases h0 : o = 0
    · subst h0
      have hf : ∀ st, insG 0 st = (failS st 14, (0, 0)) := fun st => rfl
      refine ⟨fun x r h => absurd h.2.1 (by rw [h.1]; decide), fun x p h hp hne => absurd h.2.1 (by rw [h.1]; decide), fun e he => ?_, fun l h => ?_, fun l h => ?_⟩
      · rw [hf]; unfold failS; rw [if_neg (fun h => he h.1)]
      · rw [hf] at h; unfold failS at h; simp at h
      · rw [hf]; unfold failS; simp
    · have hf : ∀ st, insG o st = (st, (o, 0)) := fun st => by unfold insG; rw [hA, if_neg h0]; simp
      have he : ∀ y : Int, insE (o, y) = [] := fun y => by unfold insE; simp [hA]
      refine ⟨fun x r h => ?_, fun x p h hp hne => ?_, fun e he => by rw [hf], fun l h => ?_, fun l h => ?_⟩
      · obtain ⟨x1, x2⟩ := x
        obtain ⟨rfl, _, _, h3⟩ := h
        have := h3 hA
        simp only at this
        subst this
        rw [hf, he]; rfl
      · obtain ⟨x1, x2⟩ := x
        obtain ⟨rfl, _, _, h3⟩ := h
        rw [he] at hp hne
        exact absurd (List.prefix_nil.1 hp) hne
      · rw [hf, he]; rfl
      · rw [hf] at h; exact absurd rfl h
  · have hf : ∀ st, insG o st = ((numS st).1, (o, unzig (numS st).2)) := fun st => by unfold insG; rw [hA]; simp
    have he : ∀ y : Int, insE (o, y) = numB (zig y) := fun y => by unfold insE; simp [hA]
    refine ⟨fun x r h => ?_, fun x p h hp hne => ?_, fun e he => ?_, fun l h => ?_, fun l h => ?_⟩
    · obtain ⟨x1, x2⟩ := x
      obtain ⟨rfl, _, h2, _⟩ := h
      have := intC.back x2 r h2.2
      rw [hf, he, (Prod.mk.inj this).1]
      rw [(Prod.mk.inj this).2]
    · obtain ⟨x1, x2⟩ := x
      obtain ⟨rfl, _, h2, _⟩ := h
      rw [he] at hp hne
      rw [hf]
      exact intC.cut x2 p h2.2 hp hne
    · rw [hf]; exact intC.stick e he
    · rw [hf] at h ⊢; rw [he]; exact intC.spell l h
    · rw [hf] at h ⊢; exact intC.nil l h
theorem insC : Codec insS insB InsDom := by
  have h := Codec.bind (countC 22 (by decide)) insGC (fun x => x.1) (fun a st => by unfold insG; split <;> rfl)
  have e1 : (fun st => insG ((fun st => countS st ((22 : Nat) : Int)) st).2 ((fun st => countS st ((22 : Nat) : Int)) st).1) = insS := rfl
  have e2 : (fun x : Nat × Int => numB x.1 ++ insE x) = insB := rfl
  rw [e1, e2] at h
  exact ⟨fun x r hx => h.back x r ⟨hx.2.1, rfl, hx.1, hx.2.2⟩, fun x p hx => h.cut x p ⟨hx.2.1, rfl, hx.1, hx.2.2⟩, h.stick, h.spell, h.nil⟩
/-- The instructions of a function, its arguments and locals known. -/
def fnG2 (a b n : Nat) (st : St) : St × Fn := ((runS insS n st).1, ⟨a, b, (runS insS n st).2⟩)
def fnG1 (a b : Nat) (st : St) : St × Fn := fnG2 a b (countS st 128).2 (countS st 128).1
def fnG0 (a : Nat) (st : St) : St × Fn := fnG1 a (countS st 16).2 (countS st 16).1
theorem fnS_eq (st : St) : fnS st = fnG0 (countS st 16).2 (countS st 16).1 := rfl
theorem fnG2C (a b n : Nat) : Codec (fnG2 a b n) (fun f => codeB f.code) (fun f => f.args = a ∧ f.locals = b ∧ f.code.length = n ∧ ∀ x ∈ f.code, InsDom x) :=
  (insC.run n).map (fun l => (⟨a, b, l⟩ : Fn)) Fn.code _ (fun y h => ⟨⟨h.2.2.1, h.2.2.2⟩, by obtain ⟨ar, lo, co⟩ := y; obtain ⟨h1, h2, _⟩ := h; simp only at h1 h2; rw [h1, h2]⟩) (fun st => rfl)
theorem fnG1C (a b : Nat) : Codec (fnG1 a b) (fun f => numB f.code.length ++ codeB f.code) (fun f => f.args = a ∧ f.locals = b ∧ f.code.length ≤ 128 ∧ ∀ x ∈ f.code, InsDom x) := by
  have h := Codec.bind (countC 128 (by decide)) (fnG2C a b) (fun f => f.code.length) (fun n st => runS_len insS n st)
  exact ⟨fun x r hx => h.back x r ⟨hx.2.2.1, hx.1, hx.2.1, rfl, hx.2.2.2⟩, fun x p hx => h.cut x p ⟨hx.2.2.1, hx.1, hx.2.1, rfl, hx.2.2.2⟩, h.stick, h.spell, h.nil⟩
theorem fnG0C (a : Nat) : Codec (fnG0 a) (fun f => numB f.locals.toNat ++ (numB f.code.length ++ codeB f.code)) (fun f => f.args = a ∧ 0 ≤ f.locals ∧ f.locals ≤ 16 ∧ f.code.length ≤ 128 ∧ ∀ x ∈ f.code, InsDom x) := by
  have h := Codec.bind (countC 16 (by decide)) (fnG1C a) (fun f => f.locals.toNat) (fun n st => rfl)
  exact ⟨fun x r hx => h.back x r ⟨by have := hx.2.2.1; omega, hx.1, by have := hx.2.1; omega, hx.2.2.2⟩, fun x p hx => h.cut x p ⟨by have := hx.2.2.1; omega, hx.1, by have := hx.2.1; omega, hx.2.2.2⟩, h.stick, h.spell, h.nil⟩
theorem counts3 (a b : Int) (n : Nat) : countsB [a, b, (n : Int)] = numB a.toNat ++ (numB b.toNat ++ numB n) := by simp [countsB, numsB]
theorem counts1 (n : Nat) : countsB [(n : Int)] = numB n := by simp [countsB, numsB]
theorem fnC : Codec fnS fnB FnDom := by
  have h : Codec fnS (fun f : Fn => numB f.args.toNat ++ (numB f.locals.toNat ++ (numB f.code.length ++ codeB f.code))) (fun f => f.args.toNat ≤ 16 ∧ (f.args = (f.args.toNat : Int) ∧ 0 ≤ f.locals ∧ f.locals ≤ 16 ∧ f.code.length ≤ 128 ∧ ∀ x ∈ f.code, InsDom x)) := Codec.bind (countC 16 (by decide)) fnG0C (fun f => f.args.toNat) (fun n st => rfl)
  have e2 : (fun f : Fn => numB f.args.toNat ++ (numB f.locals.toNat ++ (numB f.code.length ++ codeB f.code))) = fnB := by
    funext f; unfold fnB; rw [counts3]; simp [List.append_assoc]
  rw [e2] at h
  exact ⟨fun x r hx => h.back x r ⟨by have := hx.2.1; omega, by have := hx.1; omega, hx.2.2⟩, fun x p hx => h.cut x p ⟨by have := hx.2.1; omega, by have := hx.1; omega, hx.2.2⟩, h.stick, h.spell, h.nil⟩
def imgS (st : St) : St × List Fn := runS fnS (countS st 16).2 (countS st 16).1
theorem imgC : Codec imgS textB ImgDom := by
  have h : Codec imgS (fun m : List Fn => numB m.length ++ (m.map fnB).flatten) (fun m => m.length ≤ 16 ∧ (m.length = m.length ∧ ∀ f ∈ m, FnDom f)) := Codec.bind (countC 16 (by decide)) (fun n => fnC.run n) (fun m => m.length) (fun n st => runS_len fnS n st)
  have e2 : (fun m : List Fn => numB m.length ++ (m.map fnB).flatten) = textB := by
    funext m; unfold textB; rw [counts1]; rfl
  rw [e2] at h
  exact ⟨fun x r hx => h.back x r ⟨hx.1, rfl, hx.2⟩, fun x p hx => h.cut x p ⟨hx.1, rfl, hx.2⟩, h.stick, h.spell, h.nil⟩
theorem parseS_eq (l : List UInt8) : parseS l = if (endS (imgS (l, 0)).1).2 ≠ 0 then ([], (endS (imgS (l, 0)).1).2) else ((imgS (l, 0)).2, 0) := rfl
theorem parse_back (m : List Fn) (h : ImgDom m) : parseS (textB m) = (m, 0) := by
  have := imgC.back m [] h
  rw [List.append_nil] at this
  rw [parseS_eq, this]
  rfl
theorem parse_more (m : List Fn) (h : ImgDom m) (b : UInt8) (r : List UInt8) : parseS (textB m ++ b :: r) = ([], 2) := by
  rw [parseS_eq, imgC.back m (b :: r) h]
  simp [endS, failS]
theorem parse_cut (m : List Fn) (h : ImgDom m) (p : List UInt8) (hp : p <+: textB m) (hne : p ≠ textB m) : parseS p = ([], 1) := by
  rw [parseS_eq, imgC.cut m p h hp hne]
  simp [endS]
theorem parse_spelt (l : List UInt8) (h : (parseS l).2 = 0) : textB (parseS l).1 = l := by
  rw [parseS_eq] at h ⊢
  by_cases he : (endS (imgS (l, 0)).1).2 = 0
  · rw [if_neg (by simpa using he)]
    unfold endS at he
    by_cases hl : 0 < (imgS (l, 0)).1.1.length
    · rw [if_pos hl] at he
      unfold failS at he
      split at he
      · simp at he
      · rename_i h2
        exact absurd ⟨he, by decide⟩ h2
    · rw [if_neg hl] at he
      have h1 := imgC.spell l he
      have h2 : (imgS (l, 0)).1.1 = [] := List.eq_nil_of_length_eq_zero (by omega)
      rw [h2, List.append_nil] at h1
      exact h1.symm
  · rw [if_pos he] at h
    exact absurd h he
/-- What is read has numbers that fit. -/
theorem insS_ok (st : St) : InsOk (insS st).2 := by
  have hle : (countS st 22).2 ≤ 22 := countS_le st 22
  unfold insS
  split
  · have hlt := numS_lt (countS st 22).1
    refine ⟨by show (countS st 22).2 < 256; omega, ?_, ?_⟩
    · show -9223372036854775808 ≤ unzig (numS (countS st 22).1).2
      unfold unzig; split <;> omega
    · show unzig (numS (countS st 22).1).2 ≤ 9223372036854775807
      unfold unzig; split <;> omega
  · exact ⟨by show (countS st 22).2 < 256; omega, by show (-9223372036854775808 : Int) ≤ 0; decide, by show (0 : Int) ≤ 9223372036854775807; decide⟩
theorem runS_all {α : Type} {f : St → St × α} {P : α → Prop} (hf : ∀ st, P (f st).2) (n : Nat) (st : St) : ∀ x ∈ (runS f n st).2, P x := by
  induction n with
  | zero => intro x hx; simp [runS] at hx
  | succ n ih =>
    intro x hx
    simp only [runS, List.mem_append, List.mem_singleton] at hx
    rcases hx with hx | rfl
    · exact ih x hx
    · exact hf _
theorem fnS_ok (st : St) : FnOk (fnS st).2 := by
  have h1 : (countS st 16).2 ≤ 16 := countS_le st 16
  have h2 : (countS (countS st 16).1 16).2 ≤ 16 := countS_le (countS st 16).1 16
  have h3 : (countS (countS (countS st 16).1 16).1 128).2 ≤ 128 := countS_le (countS (countS st 16).1 16).1 128
  have e : (fnS st).2 = ⟨((countS st 16).2 : Nat), ((countS (countS st 16).1 16).2 : Nat), (runS insS (countS (countS (countS st 16).1 16).1 128).2 (countS (countS (countS st 16).1 16).1 128).1).2⟩ := rfl
  have h4 := runS_len insS (countS (countS (countS st 16).1 16).1 128).2 (countS (countS (countS st 16).1 16).1 128).1
  have h5 := runS_all insS_ok (countS (countS (countS st 16).1 16).1 128).2 (countS (countS (countS st 16).1 16).1 128).1
  rw [e]
  generalize runS insS (countS (countS (countS st 16).1 16).1 128).2 (countS (countS (countS st 16).1 16).1 128).1 = q at h4 h5
  generalize (countS st 16).2 = x at h1
  generalize (countS (countS st 16).1 16).2 = y at h2
  exact ⟨by simp only; omega, by simp only; omega, by simp only; omega, by simp only; omega, by simp only; omega, h5⟩
theorem parse_ok (l : List UInt8) : ImgOk (parseS l).1 := by
  rw [parseS_eq]
  split
  · exact ⟨Nat.zero_le _, by simp⟩
  · have h1 : (countS (l, 0) 16).2 ≤ 16 := countS_le (l, 0) 16
    have h2 := runS_len fnS (countS (l, 0) 16).2 (countS (l, 0) 16).1
    refine ⟨?_, fun f hf => runS_all fnS_ok _ _ f hf⟩
    show (runS fnS (countS (l, 0) 16).2 (countS (l, 0) 16).1).2.length ≤ 1000
    omega
end Go.Proofs.Ytdkokfpbmmjfkaa
namespace Go.Proofs.Ytdkokfpbmmjfkaa
open Go.RowKit
set_option linter.unusedVariables false

theorem cell_new (W : World) (n : Nat) (h : W.heap.size = n) (cs : Array Value) (t : TypeId) (j : Nat) : (W.alloc (.cells cs t)).cell? ⟨n, j, none⟩ = cs[j]? := by subst h; simp
theorem inV_eq (st : St) : inV st = .agg #[.string (bs st.1), .int .i64 (st.2 : Nat)] := rfl
/-- Three blocks of the call's own, the first ones behind w. -/
structure Bx (w wr : World) (A1 A2 A3 : Array Value) : Prop where
  c1 : ∀ j, wr.cell? ⟨w.heap.size, j, none⟩ = A1[j]?
  c2 : ∀ j, wr.cell? ⟨w.heap.size + 1, j, none⟩ = A2[j]?
  c3 : ∀ j, wr.cell? ⟨w.heap.size + 1 + 1, j, none⟩ = A3[j]?
  f1 : ∀ j, wr.frozen? ⟨w.heap.size, j, none⟩ = false
  f2 : ∀ j, wr.frozen? ⟨w.heap.size + 1, j, none⟩ = false
  f3 : ∀ j, wr.frozen? ⟨w.heap.size + 1 + 1, j, none⟩ = false
  sz : w.heap.size + 1 + 1 < wr.heap.size
  bel : Below w.heap.size w wr
theorem Bx.new (w : World) (A1 A2 A3 : Array Value) (t1 t2 t3 : TypeId) : Bx w (((w.alloc (.cells A1 t1)).alloc (.cells A2 t2)).alloc (.cells A3 t3)) A1 A2 A3 := by
  have z1 : (w.alloc (.cells A1 t1)).heap.size = w.heap.size + 1 := by simp
  have z2 : ((w.alloc (.cells A1 t1)).alloc (.cells A2 t2)).heap.size = w.heap.size + 1 + 1 := by simp
  refine ⟨fun j => ?_, fun j => ?_, fun j => ?_, fun j => ?_, fun j => ?_, fun j => ?_, by simp, (((Below.refl _ _).alloc (Nat.le_refl _) _).alloc (by omega) _).alloc (by omega) _⟩
  · rw [World.cell?_alloc_lt _ _ _ (by show w.heap.size < _; omega), World.cell?_alloc_lt _ _ _ (by show w.heap.size < _; omega)]; simp
  · rw [World.cell?_alloc_lt _ _ _ (by show w.heap.size + 1 < _; omega), ← z1]; simp
  · generalize (w.alloc (.cells A1 t1)).alloc (.cells A2 t2) = wB at z2 ⊢
    rw [← z2]; simp
  · rw [frozen_old _ _ _ (by show w.heap.size < _; omega), frozen_old _ _ _ (by show w.heap.size < _; omega)]; exact frozen_new _ _ _ _
  · rw [frozen_old _ _ _ (by show w.heap.size + 1 < _; omega), ← z1]; exact frozen_new _ _ _ _
  · rw [← z2]; exact frozen_new _ _ _ _
theorem Bx.keep {w wr w' : World} {A1 A2 A3 : Array Value} (h : Bx w wr A1 A2 A3) (hb : Below wr.heap.size wr w') : Bx w w' A1 A2 A3 := by
  have hs := h.sz
  exact ⟨fun j => (hb.cell (p := ⟨w.heap.size, j, none⟩) (by show w.heap.size < _; omega)).trans (h.c1 j), fun j => (hb.cell (p := ⟨w.heap.size + 1, j, none⟩) (by show w.heap.size + 1 < _; omega)).trans (h.c2 j), fun j => (hb.cell (p := ⟨w.heap.size + 1 + 1, j, none⟩) hs).trans (h.c3 j),
    fun j => (hb.frozen (p := ⟨w.heap.size, j, none⟩) (by show w.heap.size < _; omega)).trans (h.f1 j), fun j => (hb.frozen (p := ⟨w.heap.size + 1, j, none⟩) (by show w.heap.size + 1 < _; omega)).trans (h.f2 j), fun j => (hb.frozen (p := ⟨w.heap.size + 1 + 1, j, none⟩) hs).trans (h.f3 j),
    by have := hb.size; omega, h.bel.trans (hb.mono h.bel.size)⟩
/-- A pair stored into the first block. -/
theorem Bx.set1 {w wr : World} {x0 x1 : Value} {A2 A3 : Array Value} (h : Bx w wr #[x0, x1] A2 A3) (y0 y1 : Value) : Bx w ((wr.setCell ⟨w.heap.size, 0, none⟩ y0).setCell ⟨w.heap.size, 1, none⟩ y1) #[y0, y1] A2 A3 := by
  have ht : Touch (fun k => k = w.heap.size) wr ((wr.setCell ⟨w.heap.size, 0, none⟩ y0).setCell ⟨w.heap.size, 1, none⟩ y1) := ((Touch.refl (fun k => k = w.heap.size) wr).setCell (p := ⟨w.heap.size, 0, none⟩) (fun _ => rfl) _).setCell (p := ⟨w.heap.size, 1, none⟩) (fun _ => rfl) _
  have hs := h.sz
  have n1 : ¬ w.heap.size + 1 = w.heap.size := by omega
  have n2 : ¬ w.heap.size + 1 + 1 = w.heap.size := by omega
  have c0 : wr.cell? ⟨w.heap.size, 0, none⟩ = some x0 := (h.c1 0).trans rfl
  have c1 : wr.cell? ⟨w.heap.size, 1, none⟩ = some x1 := (h.c1 1).trans rfl
  refine ⟨fun j => ?_, fun j => (ht.cell (p := ⟨w.heap.size + 1, j, none⟩) (by show w.heap.size + 1 < _; omega) n1).trans (h.c2 j), fun j => (ht.cell (p := ⟨w.heap.size + 1 + 1, j, none⟩) hs n2).trans (h.c3 j), fun j => by simpa using h.f1 j, fun j => by simpa using h.f2 j, fun j => by simpa using h.f3 j, by have := ht.size; omega, (h.bel.setCell (by simp) _).setCell (by simp) _⟩
  match j with
  | 0 => rw [World.cell?_setCell_other _ _ _ _ (by simp)]; exact World.cell?_setCell_same _ _ _ c0
  | 1 => exact World.cell?_setCell_same _ _ _ ((World.cell?_setCell_other _ _ _ _ (by simp)).trans c1)
  | j + 2 => rw [World.cell?_setCell_other _ _ _ _ (by simp), World.cell?_setCell_other _ _ _ _ (by simp)]; exact (h.c1 (j + 2)).trans (by simp)
/-- A store behind the three. -/
theorem Bx.far {w wr : World} {A1 A2 A3 : Array Value} (h : Bx w wr A1 A2 A3) {p : Addr} (hp : w.heap.size + 1 + 1 < p.block) (u : Value) : Bx w (wr.setCell p u) A1 A2 A3 := by
  have ht : Touch (fun k => k = p.block) wr (wr.setCell p u) := (Touch.refl (fun k => k = p.block) wr).setCell (p := p) (fun _ => rfl) _
  have hs := h.sz
  exact ⟨fun j => (ht.cell (p := ⟨w.heap.size, j, none⟩) (by show w.heap.size < _; omega) (by show ¬ w.heap.size = _; omega)).trans (h.c1 j), fun j => (ht.cell (p := ⟨w.heap.size + 1, j, none⟩) (by show w.heap.size + 1 < _; omega) (by show ¬ w.heap.size + 1 = _; omega)).trans (h.c2 j), fun j => (ht.cell (p := ⟨w.heap.size + 1 + 1, j, none⟩) hs (by show ¬ w.heap.size + 1 + 1 = _; omega)).trans (h.c3 j),
    fun j => by simpa using h.f1 j, fun j => by simpa using h.f2 j, fun j => by simpa using h.f3 j, by have := ht.size; omega, h.bel.setCell (by omega) _⟩
end Go.Proofs.Ytdkokfpbmmjfkaa
namespace Go.Proofs.Ytdkokfpbmmjfkaa
open Go.RowKit
set_option linter.unusedVariables false

/-- The document's reader in its box, the answer's boxes, the unit at U. -/
structure ROm (w : World) (U : Nat) (id : Int) (st : St) (l : List Int) (wr : World) : Prop where
  bx : Bx w wr #[.string (bs st.1), .int .i64 (st.2 : Nat)] #[.string ⟨#[]⟩, .int .i64 0] #[.int .i64 0, .int .i64 0, .int .i64 0, .int .i64 0, .int .i64 0, .int .i64 0]
  box : UBox U id l wr
  lt : w.heap.size + 1 + 1 < U
theorem ROm.keep {w : World} {U : Nat} {id : Int} {st : St} {l : List Int} {wr w' : World} (h : ROm w U id st l wr) (hb : Below wr.heap.size wr w') : ROm w U id st l w' :=
  ⟨h.bx.keep hb, h.box.touch (touch_of_below (S := fun _ => False) hb) (fun e => e), h.lt⟩
theorem ROm.set1 {w : World} {U : Nat} {id : Int} {st : St} {l : List Int} {wr : World} (h : ROm w U id st l wr) (st' : St) : ROm w U id st' l ((wr.setCell ⟨w.heap.size, 0, none⟩ (.string (bs st'.1))).setCell ⟨w.heap.size, 1, none⟩ (.int .i64 (st'.2 : Nat))) := by
  have hl := h.lt
  exact ⟨h.bx.set1 _ _, h.box.touch (((Touch.refl (fun k => k = w.heap.size) wr).setCell (p := ⟨w.heap.size, 0, none⟩) (fun _ => rfl) _).setCell (p := ⟨w.heap.size, 1, none⟩) (fun _ => rfl) _) (by show ¬ U = w.heap.size; omega), h.lt⟩
theorem ROm.setU {w : World} {U : Nat} {id : Int} {st : St} {l : List Int} {wr : World} (h : ROm w U id st l wr) (hl : l.length < 5) (x : Int) : ROm w U id st (l ++ [x]) (wr.setCell ⟨U, 1 + l.length, none⟩ (.int .i64 x)) :=
  ⟨h.bx.far h.lt _, h.box.set hl x, h.lt⟩
def set8 (w : World) (X : Nat) (y0 y1 x0 x1 x2 x3 x4 x5 : Value) : World := ((((((((w.setCell ⟨X + 1, 0, none⟩ y0).setCell ⟨X + 1, 1, none⟩ y1).setCell ⟨X + 1 + 1, 0, none⟩ x0).setCell ⟨X + 1 + 1, 1, none⟩ x1).setCell ⟨X + 1 + 1, 2, none⟩ x2).setCell ⟨X + 1 + 1, 3, none⟩ x3).setCell ⟨X + 1 + 1, 4, none⟩ x4).setCell ⟨X + 1 + 1, 5, none⟩ x5)
theorem ROm.fin {w : World} {U : Nat} {id : Int} {st : St} {l : List Int} {wr : World} (h : ROm w U id st l wr) (y0 y1 x0 x1 x2 x3 x4 x5 : Value) : Below w.heap.size w (set8 wr w.heap.size y0 y1 x0 x1 x2 x3 x4 x5) := by
  have a1 : w.heap.size ≤ w.heap.size + 1 := by omega
  have a2 : w.heap.size ≤ w.heap.size + 1 + 1 := by omega
  exact (((((((h.bx.bel.setCell (p := ⟨w.heap.size + 1, 0, none⟩) a1 _).setCell (p := ⟨w.heap.size + 1, 1, none⟩) a1 _).setCell (p := ⟨w.heap.size + 1 + 1, 0, none⟩) a2 _).setCell (p := ⟨w.heap.size + 1 + 1, 1, none⟩) a2 _).setCell (p := ⟨w.heap.size + 1 + 1, 2, none⟩) a2 _).setCell (p := ⟨w.heap.size + 1 + 1, 3, none⟩) a2 _).setCell (p := ⟨w.heap.size + 1 + 1, 4, none⟩) a2 _).setCell (p := ⟨w.heap.size + 1 + 1, 5, none⟩) a2 _
set_option maxRecDepth 100000 in
set_option maxHeartbeats 1000000 in
theorem refOne_any (st : St) (last next : Int) (w : World) (h : StOk st) (h0 : 0 ≤ last) (h1 : last ≤ 1099511627776) :
    Calls Try.prog 66 #[.agg #[.string (bs st.1), .int .i64 (st.2 : Nat)], .int .i64 last, .int .i64 next] w fun r w' => r = .returned (.tuple #[.agg #[.string (bs (oneO next last st).1.1), .int .i64 ((oneO next last st).1.2 : Nat)], unV (oneO next last st).2]) ∧ Below w.heap.size w w' := by
  have hC := fun W => refTakeCount_any st.1 st.2 1099511627776 W (by decide) (by decide) h.2 h.1
  rw [show countS (st.1, st.2) 1099511627776 = cntS 1099511627776 st from rfl] at hC
  have hle := (cntR 1099511627776 (by decide)).le st
  have hok := (cntR 1099511627776 (by decide)).ok st h
  have hS : oneO next last st = (failS (rdU last st).1 (ordE last next (rdU last st).2), (rdU last st).2) := by simp only [oneO, oneG, rdU]
  have hS2 := rdG_eq fieldS (cntS 1099511627776) last st
  rw [← show rdU last st = rdG fieldS (cntS 1099511627776) last st from rfl] at hS2
  rw [hS2] at hS
  simp only at hS
  clear hS2
  generalize oneO next last st = res at hS ⊢
  obtain ⟨l0, e0⟩ := st
  simp only at hC ⊢
  generalize cntS 1099511627776 (l0, e0) = t at hC hle hok hS
  obtain ⟨s1, n⟩ := t
  simp only [inV_eq] at hC
  simp only at hle hok hS
  have HC := Lib.hid hC
  have HS := Lib.hid hS
  have HOK := Lib.hid hok
  have HB0 := Lib.hid (Bx.new w #[.string (bs l0), .int .i64 (e0 : Nat)] #[.string ⟨#[]⟩, .int .i64 0] #[.int .i64 0, .int .i64 0, .int .i64 0, .int .i64 0, .int .i64 0, .int .i64 0] 46 46 113)
  have hwr : IntKind.i64.wrap (last + (n : Int)) = last + (n : Int) := by rw [IntKind.wrap_i64]; omega
  clear hC hS h hok
  go_enter Try.func66, Try.ntmps66
  go_wp2_with fail
  refine (HC.out _).mono ?_
  rintro r w1 ⟨rfl, hb1⟩
  have HB1 := Lib.hid (HB0.out.keep hb1)
  have HB2 := Lib.hid (HB1.out.set1 (.string (bs s1.1)) (.int .i64 (s1.2 : Nat)))
  have a0 := (HB1.out.c1 0).trans rfl
  have a1 := (HB1.out.c1 1).trans rfl
  have g0 := HB1.out.f1 0
  have g1 := HB1.out.f1 1
  have hz := HB1.out.sz
  have hzw : w.heap.size < w1.heap.size := by omega
  clear hb1 HB0 HB1
  have HM : Hid (ROm w w1.heap.size (last + (n : Int)) s1 [] (((w1.setCell ⟨w.heap.size, 0, none⟩ (.string (bs s1.1))).setCell ⟨w.heap.size, 1, none⟩ (.int .i64 (s1.2 : Nat))).alloc (.cells #[.int .i64 (last + (n : Int)), .int .i64 0, .int .i64 0, .int .i64 0, .int .i64 0, .int .i64 0] 113))) := by
    have hu := UBox.new ((w1.setCell ⟨w.heap.size, 0, none⟩ (.string (bs s1.1))).setCell ⟨w.heap.size, 1, none⟩ (.int .i64 (s1.2 : Nat))) (last + (n : Int)) 113
    rw [show ((w1.setCell ⟨w.heap.size, 0, none⟩ (.string (bs s1.1))).setCell ⟨w.heap.size, 1, none⟩ (.int .i64 (s1.2 : Nat))).heap.size = w1.heap.size by simp] at hu
    exact Lib.hid ⟨HB2.out.keep (bel_alloc (Below.refl _ _) _), hu, hz⟩
  go_wp2
  clear a0 a1 g0 g1 hz hzw HB2
  generalize hid : last + (n : Int) = id at HM HS
  generalize w1.heap.size = U at HM ⊢
  go_loopw [10] (fun iv wr => ∃ k : Nat, k ≤ 5 ∧ iv = .int .i64 k ∧ Hid (ROm w U id (fsG fieldS k s1).1 (fsG fieldS k s1).2 wr)) (fun iv _ => 5 - (intOf iv).toNat)
  case atStart => exact ⟨0, by omega, rfl, HM⟩
  case round =>
    obtain ⟨k, hk, rfl, HR⟩ := hrel
    by_cases hlt : k < 5
    · have hN := fsG_succ fieldS k s1
      have hln := fsG_len fieldS k s1
      have hok := fsG_stOk' (k := k) HOK.out
      generalize fsG fieldS k s1 = q at HR hN hln hok
      obtain ⟨sq, lq⟩ := q
      simp only at HR hN hln hok
      rw [fieldS_eq] at hN
      have hI := fun W => refTakeInt_any sq.1 sq.2 W hok.2 hok.1
      rw [show (sq.1, sq.2) = sq from rfl] at hI
      generalize numS sq = t2 at hI hN
      obtain ⟨s2, m⟩ := t2
      simp only [inV_eq] at hI
      simp only at hN
      generalize unzig m = x at hI hN
      have HI := Lib.hid hI
      have HN := Lib.hid hN
      have HMB := Lib.hid (fun W => refMay_any k x W (by omega))
      have i0 := (HR.out.bx.c1 0).trans rfl
      have i1 := (HR.out.bx.c1 1).trans rfl
      have hsz := HR.out.bx.sz
      have hsz0 : w.heap.size < wr.heap.size := by omega
      have hk0 : (0 : Int) ≤ (k : Int) := by omega
      have hk1 : (k : Int) < (5 : Int) := by omega
      clear hI hN hok
      go_wp2_with fail
      refine (HI.out _).mono ?_
      rintro r w2 ⟨rfl, hb2⟩
      have HM2 := Lib.hid (HR.out.keep hb2)
      clear HR hb2 HI i0 i1 hsz hsz0 HM
      have i0 := (HM2.out.bx.c1 0).trans rfl
      have i1 := (HM2.out.bx.c1 1).trans rfl
      have f0 := HM2.out.bx.f1 0
      have f1 := HM2.out.bx.f1 1
      have uc := HM2.out.box.c k hlt
      rw [Nat.add_comm k] at uc
      have uf := HM2.out.box.f (1 + k)
      have hUl := HM2.out.box.lt
      have hUI := HM2.out.lt
      have hUn : U ≠ w.heap.size := by omega
      have hsz := HM2.out.bx.sz
      have hsz0 : w.heap.size < w2.heap.size := by omega
      have HM3 := Lib.hid ((HM2.out.set1 s2).setU (by rw [hln]; exact hlt) x)
      rw [hln] at HM3
      have HM4 := Lib.hid (HM3.out.keep (bel_alloc (Below.refl _ _) (.cells #[.string (bs s2.1), .int .i64 (s2.2 : Nat)] 46)))
      clear HM2 HM3
      go_wp2_with fail
      generalize ((((w2.setCell ⟨w.heap.size, 0, none⟩ (.string (bs s2.1))).setCell ⟨w.heap.size, 1, none⟩ (.int .i64 (s2.2 : Nat))).setCell ⟨U, 1 + k, none⟩ (.int .i64 x)).alloc (.cells #[.string (bs s2.1), .int .i64 (s2.2 : Nat)] 46)) = W4 at HM4 ⊢
      clear i0 i1 f0 f1 uc uf hUl hUI hUn hsz hsz0
      refine (HMB.out _).mono ?_
      rintro r w3 ⟨rfl, rfl⟩
      cases hm : mayN k x
      · have HNF := Lib.hid (show fsG fieldS (k + 1) s1 = (failS s2 4, lq ++ [x]) by rw [HN.out, hm]; rfl)
        have hF := fun W => refFail_any s2.1 s2.2 4 W
        rw [show (s2.1, s2.2) = s2 from rfl] at hF
        generalize failS s2 4 = s5 at hF HNF
        simp only [inV_eq] at hF
        have HF := Lib.hid hF
        have i0 := (HM4.out.bx.c1 0).trans rfl
        have i1 := (HM4.out.bx.c1 1).trans rfl
        have hsz := HM4.out.bx.sz
        have hsz0 : w.heap.size < W4.heap.size := by omega
        clear hm HN hF
        go_wp2_with fail
        refine (HF.out _).mono ?_
        rintro r w5 ⟨rfl, hb5⟩
        have HM5 := Lib.hid (HM4.out.keep hb5)
        clear hb5 i0 i1 hsz hsz0 HM4 HF
        have i0 := (HM5.out.bx.c1 0).trans rfl
        have i1 := (HM5.out.bx.c1 1).trans rfl
        have f0 := HM5.out.bx.f1 0
        have f1 := HM5.out.bx.f1 1
        have hsz := HM5.out.bx.sz
        have hsz0 : w.heap.size < w5.heap.size := by omega
        have HM6 := Lib.hid (HM5.out.set1 s5)
        clear HM5
        go_wp2
        go_roundw
        case rel => exact ⟨k + 1, by omega, by go_num, by rw [HNF.out]; exact HM6⟩
        case measure => simp [intOf]; omega
      · have HNF := Lib.hid (show fsG fieldS (k + 1) s1 = (s2, lq ++ [x]) by rw [HN.out, hm]; simp [failS])
        clear hm HN
        go_wp2
        go_roundw
        case rel => exact ⟨k + 1, by omega, by go_num, by rw [HNF.out]; exact HM4⟩
        case measure => simp [intOf]; omega
    · obtain rfl : k = 5 := by omega
      clear HM HC
      generalize hq : fsG fieldS 5 s1 = q at HR HS
      obtain ⟨s5, lq⟩ := q
      simp only at HR HS
      have hle2 : id = last + (n : Int) := hid.symm
      clear hq hid
      have HLE := Lib.hid hle2
      have hE0 : ((n : Int) == 0) = true ↔ id = last := by simp; omega
      have v0 := HR.out.box.c0
      have hUl := HR.out.box.lt
      have hUI := HR.out.lt
      clear hle2
      by_cases hE : id = last ∨ next ≤ id
      · have HNF := Lib.hid (show res = (failS s5 12, unOf id lq) by rw [HS.out]; rw [show ordE last next (unOf id lq) = 12 from if_pos hE])
        have hF := fun W => refFail_any s5.1 s5.2 12 W
        rw [show (s5.1, s5.2) = s5 from rfl] at hF
        generalize failS s5 12 = s6 at hF HNF
        simp only [inV_eq] at hF
        have HF := Lib.hid hF
        have i0 := (HR.out.bx.c1 0).trans rfl
        have i1 := (HR.out.bx.c1 1).trans rfl
        have hsz := HR.out.bx.sz
        have hsz0 : w.heap.size < wr.heap.size := by omega
        have hcase : ((n : Int) == 0) = true ∨ (((n : Int) == 0) = false ∧ decide (next ≤ id) = true) := by
          by_cases h : (n : Int) = 0
          · exact .inl (by simpa using h)
          · refine .inr ⟨by simpa using h, ?_⟩
            have := HLE.out
            simp; omega
        clear hE hF HS hE0
        rcases hcase with hq | ⟨hq, hq2⟩
        all_goals
          go_wp2_with fail
          refine (HF.out _).mono ?_
          rintro r w5 ⟨rfl, hb5⟩
          have HM5 := Lib.hid (HR.out.keep hb5)
          clear hb5 i0 i1 hsz hsz0 v0 hUl
          have k0 := (HM5.out.bx.c1 0).trans rfl
          have k1 := (HM5.out.bx.c1 1).trans rfl
          have f0 := HM5.out.bx.f1 0
          have f1 := HM5.out.bx.f1 1
          have hsz := HM5.out.bx.sz
          have hsz0 : w.heap.size < w5.heap.size := by omega
          have HMz := Lib.hid (HM5.out.set1 s6)
          clear HM5
          go_upto_region 13 with (fail)
          generalize (w5.setCell ⟨w.heap.size, 0, none⟩ (.string (bs s6.1))).setCell ⟨w.heap.size, 1, none⟩ (.int .i64 (s6.2 : Nat)) = Wz at HMz ⊢
          clear k0 k1 f0 f1 hsz hsz0
          have i0 := (HMz.out.bx.c1 0).trans rfl
          have i1 := (HMz.out.bx.c1 1).trans rfl
          have p0 := (HMz.out.bx.c2 0).trans rfl
          have p1 := (HMz.out.bx.c2 1).trans rfl
          have q0 := (HMz.out.bx.c3 0).trans rfl
          have q1 := (HMz.out.bx.c3 1).trans rfl
          have q2 := (HMz.out.bx.c3 2).trans rfl
          have q3 := (HMz.out.bx.c3 3).trans rfl
          have q4 := (HMz.out.bx.c3 4).trans rfl
          have q5 := (HMz.out.bx.c3 5).trans rfl
          have d0 := HMz.out.bx.f2 0
          have d1 := HMz.out.bx.f2 1
          have z0 := HMz.out.bx.f3 0
          have z1 := HMz.out.bx.f3 1
          have z2 := HMz.out.bx.f3 2
          have z3 := HMz.out.bx.f3 3
          have z4 := HMz.out.bx.f3 4
          have z5 := HMz.out.bx.f3 5
          have v0 := HMz.out.box.c0
          have v1 := HMz.out.box.c 0 (by decide)
          have v2 := HMz.out.box.c 1 (by decide)
          have v3 := HMz.out.box.c 2 (by decide)
          have v4 := HMz.out.box.c 3 (by decide)
          have v5 := HMz.out.box.c 4 (by decide)
          have hs9 := HMz.out.bx.sz
          have hUl := HMz.out.box.lt
          have hs8 : w.heap.size + 1 < Wz.heap.size := by omega
          have hs7 : w.heap.size < Wz.heap.size := by omega
          have HU5 := Lib.hid (show unV (unOf id lq) = .agg #[.int .i64 id, .int .i64 (lq.getD 0 0), .int .i64 (lq.getD 1 0), .int .i64 (lq.getD 2 0), .int .i64 (lq.getD 3 0), .int .i64 (lq.getD 4 0)] from rfl)
          generalize lq.getD 0 0 = x0 at v1 HU5
          generalize lq.getD 1 0 = x1 at v2 HU5
          generalize lq.getD 2 0 = x2 at v3 HU5
          generalize lq.getD 3 0 = x3 at v4 HU5
          generalize lq.getD 4 0 = x4 at v5 HU5
          have HFN := Lib.hid (HMz.out.fin (.string (bs s6.1)) (.int .i64 (s6.2 : Nat)) (.int .i64 id) (.int .i64 x0) (.int .i64 x1) (.int .i64 x2) (.int .i64 x3) (.int .i64 x4))
          unfold set8 at HFN
          clear HMz
          have n1 : U ≠ w.heap.size + 1 := by omega
          have n2 : U ≠ w.heap.size + 1 + 1 := by omega
          go_region
          all_goals
            go_wp2
            refine bodyPost_ret (v := .tuple #[.agg #[.string (bs s6.1), .int .i64 (s6.2 : Nat)], .agg #[.int .i64 id, .int .i64 x0, .int .i64 x1, .int .i64 x2, .int .i64 x3, .int .i64 x4]]) (by simp [results, Try.results66, go_sem, p0, p1, q0, q1, q2, q3, q4, q5]) rfl ⟨?_, ?_⟩
            · rw [HNF.out]; simp only [HU5.out]
            · exact HFN.out.drew
      · have HNF := Lib.hid (show res = (s5, unOf id lq) by rw [HS.out]; rw [show ordE last next (unOf id lq) = 0 from if_neg hE]; simp [failS])
        have hq : ((n : Int) == 0) = false := by
          have := HLE.out
          simp; omega
        have hq2 : decide (next ≤ id) = false := by simp; omega
        have HMz := Lib.hid HR.out
        clear hE HS hE0
        go_upto_region 13 with (fail)
        generalize wr = Wz at HMz v0 hUl ⊢
        clear v0 hUl
        have i0 := (HMz.out.bx.c1 0).trans rfl
        have i1 := (HMz.out.bx.c1 1).trans rfl
        have p0 := (HMz.out.bx.c2 0).trans rfl
        have p1 := (HMz.out.bx.c2 1).trans rfl
        have q0 := (HMz.out.bx.c3 0).trans rfl
        have q1 := (HMz.out.bx.c3 1).trans rfl
        have q2 := (HMz.out.bx.c3 2).trans rfl
        have q3 := (HMz.out.bx.c3 3).trans rfl
        have q4 := (HMz.out.bx.c3 4).trans rfl
        have q5 := (HMz.out.bx.c3 5).trans rfl
        have d0 := HMz.out.bx.f2 0
        have d1 := HMz.out.bx.f2 1
        have z0 := HMz.out.bx.f3 0
        have z1 := HMz.out.bx.f3 1
        have z2 := HMz.out.bx.f3 2
        have z3 := HMz.out.bx.f3 3
        have z4 := HMz.out.bx.f3 4
        have z5 := HMz.out.bx.f3 5
        have v0 := HMz.out.box.c0
        have v1 := HMz.out.box.c 0 (by decide)
        have v2 := HMz.out.box.c 1 (by decide)
        have v3 := HMz.out.box.c 2 (by decide)
        have v4 := HMz.out.box.c 3 (by decide)
        have v5 := HMz.out.box.c 4 (by decide)
        have hs9 := HMz.out.bx.sz
        have hUl := HMz.out.box.lt
        have hs8 : w.heap.size + 1 < Wz.heap.size := by omega
        have hs7 : w.heap.size < Wz.heap.size := by omega
        have HU5 := Lib.hid (show unV (unOf id lq) = .agg #[.int .i64 id, .int .i64 (lq.getD 0 0), .int .i64 (lq.getD 1 0), .int .i64 (lq.getD 2 0), .int .i64 (lq.getD 3 0), .int .i64 (lq.getD 4 0)] from rfl)
        generalize lq.getD 0 0 = x0 at v1 HU5
        generalize lq.getD 1 0 = x1 at v2 HU5
        generalize lq.getD 2 0 = x2 at v3 HU5
        generalize lq.getD 3 0 = x3 at v4 HU5
        generalize lq.getD 4 0 = x4 at v5 HU5
        have HFN := Lib.hid (HMz.out.fin (.string (bs s5.1)) (.int .i64 (s5.2 : Nat)) (.int .i64 id) (.int .i64 x0) (.int .i64 x1) (.int .i64 x2) (.int .i64 x3) (.int .i64 x4))
        unfold set8 at HFN
        clear HMz
        have n1 : U ≠ w.heap.size + 1 := by omega
        have n2 : U ≠ w.heap.size + 1 + 1 := by omega
        go_region
        all_goals
          go_wp2
          refine bodyPost_ret (v := .tuple #[.agg #[.string (bs s5.1), .int .i64 (s5.2 : Nat)], .agg #[.int .i64 id, .int .i64 x0, .int .i64 x1, .int .i64 x2, .int .i64 x3, .int .i64 x4]]) (by simp [results, Try.results66, go_sem, p0, p1, q0, q1, q2, q3, q4, q5]) rfl ⟨?_, ?_⟩
          · rw [HNF.out]; simp only [HU5.out]
          · exact HFN.out.drew
end Go.Proofs.Ytdkokfpbmmjfkaa
namespace Go.Proofs.Ytdkokfpbmmjfkaa
open Go.RowKit
set_option linter.unusedVariables false

/-- What the document's Read answers. -/
def RReadPost (w : World) (t : St × (List Un × Int)) (r : Ending) (w' : World) : Prop :=
  ∃ a len c, r = .returned (.tuple #[.agg #[.string (bs t.1.1), .int .i64 (t.1.2 : Nat)], .agg #[.slice a len c, .int .i64 (t.2.2 + 1)]]) ∧ Below w.heap.size w w' ∧
    (t.1.2 = 0 → len = t.2.1.length ∧ RT w' a c t.2.1 ∧ ∀ x, a = some x → w.heap.size ≤ x.block ∧ x.block < w'.heap.size)
theorem Bx.touch {S : Nat → Prop} {w wr w' : World} {A1 A2 A3 : Array Value} (h : Bx w wr A1 A2 A3) (ht : Touch S wr w') (hs : ∀ k, S k → w.heap.size + 1 + 1 < k) : Bx w w' A1 A2 A3 := by
  have hz := h.sz
  have n0 : ¬ S w.heap.size := fun e => by have := hs _ e; omega
  have n1 : ¬ S (w.heap.size + 1) := fun e => by have := hs _ e; omega
  have n2 : ¬ S (w.heap.size + 1 + 1) := fun e => by have := hs _ e; omega
  exact ⟨fun j => (ht.cell (p := ⟨w.heap.size, j, none⟩) (by show w.heap.size < _; omega) n0).trans (h.c1 j), fun j => (ht.cell (p := ⟨w.heap.size + 1, j, none⟩) (by show w.heap.size + 1 < _; omega) n1).trans (h.c2 j), fun j => (ht.cell (p := ⟨w.heap.size + 1 + 1, j, none⟩) hz n2).trans (h.c3 j),
    fun j => (ht.frozen (p := ⟨w.heap.size, j, none⟩) (by show w.heap.size < _; omega) n0).trans (h.f1 j), fun j => (ht.frozen (p := ⟨w.heap.size + 1, j, none⟩) (by show w.heap.size + 1 < _; omega) n1).trans (h.f2 j), fun j => (ht.frozen (p := ⟨w.heap.size + 1 + 1, j, none⟩) hz n2).trans (h.f3 j),
    by have := ht.size; omega, h.bel.trans (ht.below (by omega) (fun k hk e => by have := hs _ e; omega))⟩
/-- The document's reader in its box, the table at T with a row of its own behind it. -/
structure RRm (w : World) (T : Nat) (nx : Int) (st : St) (us : List Un) (a : Option Addr) (c : Nat) (wr : World) : Prop where
  bx : Bx w wr #[.string (bs st.1), .int .i64 (st.2 : Nat)] #[.string ⟨#[]⟩, .int .i64 0] #[.slice none 0 0, .int .i64 0]
  t0 : wr.cell? ⟨T, 0, none⟩ = some (.slice a us.length c)
  t1 : wr.cell? ⟨T, 1, none⟩ = some (.int .i64 nx)
  f0 : wr.frozen? ⟨T, 0, none⟩ = false
  row : OwnRec 113 6 (T + 1) a c (unsI us) wr
  lt : w.heap.size + 1 + 1 < T
theorem RRm.touch {S : Nat → Prop} {w : World} {T : Nat} {nx : Int} {st : St} {us : List Un} {a : Option Addr} {c : Nat} {wr w' : World} (h : RRm w T nx st us a c wr) (ht : Touch S wr w') (hs : ∀ k, S k → w.heap.size + 1 + 1 < k ∧ k < T) : RRm w T nx st us a c w' := by
  have nT : ¬ S T := fun e => by have := hs _ e; omega
  have hT := block_lt_of_cell h.t0
  exact ⟨h.bx.touch ht (fun k hk => (hs k hk).1), (ht.cell (p := ⟨T, 0, none⟩) hT nT).trans h.t0, (ht.cell (p := ⟨T, 1, none⟩) hT nT).trans h.t1, (ht.frozen (p := ⟨T, 0, none⟩) hT nT).trans h.f0, h.row.touch ht (fun j hj e => by have := hs _ e; omega), h.lt⟩
theorem RRm.keep {w : World} {T : Nat} {nx : Int} {st : St} {us : List Un} {a : Option Addr} {c : Nat} {wr w' : World} (h : RRm w T nx st us a c wr) (hb : Below wr.heap.size wr w') : RRm w T nx st us a c w' :=
  h.touch (touch_of_below (S := fun _ => False) hb) (fun k hk => hk.elim)
theorem RRm.set1 {w : World} {T : Nat} {nx : Int} {st : St} {us : List Un} {a : Option Addr} {c : Nat} {wr : World} (h : RRm w T nx st us a c wr) (st' : St) : RRm w T nx st' us a c ((wr.setCell ⟨w.heap.size, 0, none⟩ (.string (bs st'.1))).setCell ⟨w.heap.size, 1, none⟩ (.int .i64 (st'.2 : Nat))) := by
  have hl := h.lt
  have hT := block_lt_of_cell h.t0
  have ht : Touch (fun k => k = w.heap.size) wr ((wr.setCell ⟨w.heap.size, 0, none⟩ (.string (bs st'.1))).setCell ⟨w.heap.size, 1, none⟩ (.int .i64 (st'.2 : Nat))) := ((Touch.refl (fun k => k = w.heap.size) wr).setCell (p := ⟨w.heap.size, 0, none⟩) (fun _ => rfl) _).setCell (p := ⟨w.heap.size, 1, none⟩) (fun _ => rfl) _
  have nT : ¬ T = w.heap.size := by omega
  exact ⟨h.bx.set1 _ _, (ht.cell (p := ⟨T, 0, none⟩) hT nT).trans h.t0, (ht.cell (p := ⟨T, 1, none⟩) hT nT).trans h.t1, (ht.frozen (p := ⟨T, 0, none⟩) hT nT).trans h.f0, h.row.touch ht (fun j hj e => by omega), h.lt⟩
theorem RRm.step {w : World} {T : Nat} {nx : Int} {st : St} {us : List Un} {a : Option Addr} {c : Nat} {wr : World} (h : RRm w T nx st us a c wr) (u : Un) (hl : us.length ≤ 1000) (m : Nat) (hm : wr.heap.size = m) :
    ∃ a' c' w', (Builtin.append_ #[26, 26] 26 #[.slice a us.length c, .slice (some ⟨m, 0, none⟩) 1 1]).run Try.prog (wr.alloc (.cells #[.int .i64 u.id, .int .i64 u.kind, .int .i64 u.owner, .int .i64 u.x, .int .i64 u.y, .int .i64 u.health] 113)) = .ok (.slice a' (us.length + 1) c') w' ∧
      (∃ o, w'.cell? ⟨T, 0, none⟩ = some o) ∧ w'.frozen? ⟨T, 0, none⟩ = false ∧ T < w'.heap.size ∧ RRm w T nx st (us ++ [u]) a' c' (w'.setCell ⟨T, 0, none⟩ (.slice a' (us.length + 1) c')) := by
  subst hm
  have hlt := h.lt
  have hT := block_lt_of_cell h.t0
  simp only at hT
  obtain ⟨a', c', w', hrun, hnew, htch⟩ := h.row.one2 (t := 26) (u := 26) (ty := 26) runTy Try.underlying26 Try.underlying26 (by omega) u.ints rfl (by rw [unsI_len]; omega)
  rw [unsI_len] at hrun
  have hno : ∀ j, a.map (·.block) = some j → T + 1 ≤ j := fun j hj => by
    cases a with
    | none => simp at hj
    | some x => simp at hj; subst hj; exact h.row.2 x rfl
  have nT : ¬ a.map (·.block) = some T := fun e => by have := hno _ e; omega
  have t0 := (htch.cell (p := ⟨T, 0, none⟩) hT nT).trans h.t0
  have t1 := (htch.cell (p := ⟨T, 1, none⟩) hT nT).trans h.t1
  have f0 := (htch.frozen (p := ⟨T, 0, none⟩) hT nT).trans h.f0
  have hT' := block_lt_of_cell t0
  have hs : Touch (fun k => k = T) w' (w'.setCell ⟨T, 0, none⟩ (.slice a' (us.length + 1) c')) := (Touch.refl (fun k => k = T) w').setCell (p := ⟨T, 0, none⟩) (fun _ => rfl) _
  have hbx := h.bx.touch htch (fun k hk => by have := hno _ hk; omega)
  refine ⟨a', c', w', hrun, ⟨_, t0⟩, f0, hT', hbx.far hlt _, ?_, (World.cell?_setCell_other _ _ _ _ (by simp)).trans t1, by simpa using f0, ?_, hlt⟩
  · rw [List.length_append]; exact World.cell?_setCell_same _ _ _ t0
  · exact OwnRec.touch (by rw [unsI_append]; exact hnew) hs (fun j hj e => by omega)
theorem RT.drew {w : World} {a : Option Addr} {c : Nat} {us : List Un} (h : RT w a c us) : RT w.drew a c us := ⟨h.row, h.nil, h.len, h.cap⟩
theorem RRm.fin {w : World} {T : Nat} {nx : Int} {st : St} {us : List Un} {a : Option Addr} {c : Nat} {wr : World} (h : RRm w T nx st us a c wr) (y0 y1 x0 x1 : Value) :
    Below w.heap.size w ((((wr.setCell ⟨w.heap.size + 1, 0, none⟩ y0).setCell ⟨w.heap.size + 1, 1, none⟩ y1).setCell ⟨w.heap.size + 1 + 1, 0, none⟩ x0).setCell ⟨w.heap.size + 1 + 1, 1, none⟩ x1) ∧
    RT ((((wr.setCell ⟨w.heap.size + 1, 0, none⟩ y0).setCell ⟨w.heap.size + 1, 1, none⟩ y1).setCell ⟨w.heap.size + 1 + 1, 0, none⟩ x0).setCell ⟨w.heap.size + 1 + 1, 1, none⟩ x1) a c us ∧ ∀ x, a = some x → w.heap.size ≤ x.block ∧ x.block < ((((wr.setCell ⟨w.heap.size + 1, 0, none⟩ y0).setCell ⟨w.heap.size + 1, 1, none⟩ y1).setCell ⟨w.heap.size + 1 + 1, 0, none⟩ x0).setCell ⟨w.heap.size + 1 + 1, 1, none⟩ x1).heap.size := by
  have a1 : w.heap.size ≤ w.heap.size + 1 := by omega
  have a2 : w.heap.size ≤ w.heap.size + 1 + 1 := by omega
  have hlt := h.lt
  have ht : Touch (fun k => k = w.heap.size + 1 ∨ k = w.heap.size + 1 + 1) wr ((((wr.setCell ⟨w.heap.size + 1, 0, none⟩ y0).setCell ⟨w.heap.size + 1, 1, none⟩ y1).setCell ⟨w.heap.size + 1 + 1, 0, none⟩ x0).setCell ⟨w.heap.size + 1 + 1, 1, none⟩ x1) := ((((Touch.refl _ wr).setCell (p := ⟨w.heap.size + 1, 0, none⟩) (fun _ => .inl rfl) _).setCell (p := ⟨w.heap.size + 1, 1, none⟩) (fun _ => .inl rfl) _).setCell (p := ⟨w.heap.size + 1 + 1, 0, none⟩) (fun _ => .inr rfl) _).setCell (p := ⟨w.heap.size + 1 + 1, 1, none⟩) (fun _ => .inr rfl) _
  have hrow := h.row.touch ht (fun j hj e => by omega)
  refine ⟨(((h.bx.bel.setCell (p := ⟨w.heap.size + 1, 0, none⟩) a1 _).setCell (p := ⟨w.heap.size + 1, 1, none⟩) a1 _).setCell (p := ⟨w.heap.size + 1 + 1, 0, none⟩) a2 _).setCell (p := ⟨w.heap.size + 1 + 1, 1, none⟩) a2 _, ⟨RecRow.of_own (unsI_wide us) (by decide) hrow.1, ?_, ?_, ?_⟩, fun x hx => ⟨by have := h.row.2 x hx; omega, hrow.lt x hx⟩⟩
  · intro hn
    rcases hrow.1.2 with ⟨-, h0⟩ | ⟨g, cap, cur, hv, -⟩
    · rw [unsI_len] at h0; exact List.eq_nil_of_length_eq_zero h0
    · rw [hn] at hv; simp at hv
  · rcases hrow.1.2 with ⟨hv, h0⟩ | ⟨g, cap, cur, hv, -, -, h1, h2, -⟩
    · rw [unsI_len] at h0; omega
    · simp only [Value.slice.injEq] at hv; rw [unsI_len] at h1; omega
  · rcases hrow.1.2 with ⟨hv, h0⟩ | ⟨g, cap, cur, hv, -, -, h1, h2, -⟩
    · simp only [Value.slice.injEq] at hv; rw [hv.2.2]; exact Nat.zero_le _
    · simp only [Value.slice.injEq] at hv; omega
set_option maxRecDepth 100000 in
set_option maxHeartbeats 1000000 in
theorem refTabRead_any (st : St) (w : World) (h : StOk st) : Calls Try.prog 20 #[.agg #[.string (bs st.1), .int .i64 (st.2 : Nat)]] w (RReadPost w (tabS st)) := by
  have hC := fun W => refTakeCount_any st.1 st.2 1099511627776 W (by decide) (by decide) h.2 h.1
  rw [show countS (st.1, st.2) 1099511627776 = cntS 1099511627776 st from rfl] at hC
  have hle := (cntR 1099511627776 (by decide)).le st
  have hok := (cntR 1099511627776 (by decide)).ok st h
  have hS := tabG_eq oneO (cntS 1099511627776) (cntS 64) st
  rw [← show tabS st = tabG oneO (cntS 1099511627776) (cntS 64) st from rfl] at hS
  generalize tabS st = res at hS
  obtain ⟨l0, e0⟩ := st
  simp only at hC ⊢
  generalize cntS 1099511627776 (l0, e0) = t at hC hle hok hS
  obtain ⟨s1, next⟩ := t
  simp only [inV_eq] at hC
  simp only at hle hok hS
  have hC2 := fun W => refTakeCount_any s1.1 s1.2 64 W (by decide) (by decide) hok.2 hok.1
  rw [show countS (s1.1, s1.2) 64 = cntS 64 s1 from rfl] at hC2
  have hle2 := (cntR 64 (by decide)).le s1
  have hok2 := (cntR 64 (by decide)).ok s1 hok
  generalize cntS 64 s1 = t at hC2 hle2 hok2 hS
  obtain ⟨s2, n⟩ := t
  simp only [inV_eq] at hC2
  simp only at hle2 hok2 hS
  have hS' : res = (failS (rdUn (next : Int) n s2).1 (if next = 0 then 4 else 0), ((rdUn (next : Int) n s2).2, (next : Int) - 1)) := hS
  have HC := Lib.hid hC
  have HC2 := Lib.hid hC2
  have HS := Lib.hid hS'
  have HOK := Lib.hid hok2
  have HB0 := Lib.hid (Bx.new w #[.string (bs l0), .int .i64 (e0 : Nat)] #[.string ⟨#[]⟩, .int .i64 0] #[.slice none 0 0, .int .i64 0] 46 46 28)
  generalize hpost : RReadPost w res = Post
  have HPost := Lib.hid hpost
  clear hC hC2 hS hS' h hpost hok hok2
  go_enter Try.func20, Try.ntmps20
  go_wp2_with fail
  refine (HC.out _).mono ?_
  rintro r w1 ⟨rfl, hb1⟩
  have HB1 := Lib.hid (HB0.out.keep hb1)
  have HB2 := Lib.hid (HB1.out.set1 (.string (bs s1.1)) (.int .i64 (s1.2 : Nat)))
  have a0 := (HB1.out.c1 0).trans rfl
  have a1 := (HB1.out.c1 1).trans rfl
  have g0 := HB1.out.f1 0
  have g1 := HB1.out.f1 1
  have hz := HB1.out.sz
  have hzw : w.heap.size < w1.heap.size := by omega
  clear hb1 HB0 HB1 HC
  go_wp2_with fail
  clear a0 a1 g0 g1 hz hzw
  refine (HC2.out _).mono ?_
  rintro r w2 ⟨rfl, hb2⟩
  have HB3 := Lib.hid (HB2.out.keep hb2)
  have HB4 := Lib.hid (HB3.out.set1 (.string (bs s2.1)) (.int .i64 (s2.2 : Nat)))
  have a0 := (HB3.out.c1 0).trans rfl
  have a1 := (HB3.out.c1 1).trans rfl
  have g0 := HB3.out.f1 0
  have g1 := HB3.out.f1 1
  have hz := HB3.out.sz
  have hzw : w.heap.size < w2.heap.size := by omega
  clear hb2 HB2 HB3 HC2
  have HM : Hid (RRm w w2.heap.size (next : Int) (rdUn (next : Int) 0 s2).1 (rdUn (next : Int) 0 s2).2 none 0 (((w2.setCell ⟨w.heap.size, 0, none⟩ (.string (bs s2.1))).setCell ⟨w.heap.size, 1, none⟩ (.int .i64 (s2.2 : Nat))).alloc (.cells #[.slice none 0 0, .int .i64 (next : Int)] 28))) := by
    have hsz : ((w2.setCell ⟨w.heap.size, 0, none⟩ (.string (bs s2.1))).setCell ⟨w.heap.size, 1, none⟩ (.int .i64 (s2.2 : Nat))).heap.size = w2.heap.size := by simp
    have hb4 := HB4.out
    generalize (w2.setCell ⟨w.heap.size, 0, none⟩ (.string (bs s2.1))).setCell ⟨w.heap.size, 1, none⟩ (.int .i64 (s2.2 : Nat)) = W at hsz hb4 ⊢
    rw [← hsz] at hz ⊢
    exact Lib.hid ⟨hb4.keep (bel_alloc (Below.refl _ _) _), new_cell rfl rfl, new_cell rfl rfl, frozen_new _ _ _ _, ⟨World.ownsRow_nil _ _ _ _, fun x hx => by cases hx⟩, hz⟩
  go_wp2
  clear a0 a1 g0 g1 hz hzw HB4
  generalize w2.heap.size = T at HM ⊢
  go_loopw [7, 8] (fun lv iv wr => ∃ (k : Nat) (a : Option Addr) (c : Nat), k ≤ n ∧ lv = .int .i64 (lastId 0 (rdUn (next : Int) k s2).2) ∧ iv = .int .i64 k ∧ Hid (RRm w T (next : Int) (rdUn (next : Int) k s2).1 (rdUn (next : Int) k s2).2 a c wr ∧ ((rdUn (next : Int) k s2).1.2 = 0 → 0 ≤ lastId 0 (rdUn (next : Int) k s2).2 ∧ lastId 0 (rdUn (next : Int) k s2).2 ≤ next))) (fun _ iv _ => n - (intOf iv).toNat)
  case atStart => exact ⟨0, none, 0, by omega, rfl, rfl, Lib.hid ⟨HM.out, fun _ => ⟨by show (0 : Int) ≤ 0; omega, by show (0 : Int) ≤ (next : Int); omega⟩⟩⟩
  case round =>
    obtain ⟨k, a, c, hk, rfl, rfl, HR⟩ := hrel
    have hln := rdUn_len (next : Int) k s2
    have hokq : StOk (rdUn (next : Int) k s2).1 := unsG_stOk (oneR (next : Int)) HOK.out
    by_cases hgo : k < n ∧ (rdUn (next : Int) k s2).1.2 = 0
    · obtain ⟨hlt, he0⟩ := hgo
      have hN := unsG_succ (oneO (next : Int)) 0 k s2
      rw [← show rdUn (next : Int) (k + 1) s2 = unsG (oneO (next : Int)) 0 (k + 1) s2 from rfl, ← show rdUn (next : Int) k s2 = unsG (oneO (next : Int)) 0 k s2 from rfl] at hN
      generalize rdUn (next : Int) k s2 = q at HR hN hln hokq he0
      obtain ⟨sq, lq⟩ := q
      simp only at HR hN hln hokq he0
      have HLA := Lib.hid (lastId_append 0 lq)
      generalize lastId 0 lq = last at HR hN
      have hb := HR.out.2 he0
      have HON := Lib.hid (fun W => refOne_any sq last (next : Int) W hokq hb.1 (by omega))
      have HZ := Lib.hid (fun hh => ((oneR (next : Int)).zero last sq hh).2)
      generalize oneO (next : Int) last sq = t at HON hN HZ
      obtain ⟨s3, u⟩ := t
      simp only at hN HON HZ
      have HN := Lib.hid hN
      obtain ⟨lq1, eq1⟩ := sq
      simp only at he0
      subst he0
      have i0 := (HR.out.1.bx.c1 0).trans rfl
      have i1 := (HR.out.1.bx.c1 1).trans rfl
      have t1 := HR.out.1.t1
      have hT := block_lt_of_cell t1
      have hlT := HR.out.1.lt
      have hsz := HR.out.1.bx.sz
      have hsz0 : w.heap.size < wr.heap.size := by omega
      simp only at hT
      clear hN hokq HM
      go_wp2_with fail
      refine (HON.out _).mono ?_
      rintro r w3 ⟨rfl, hb3⟩
      have HM3 := Lib.hid (HR.out.1.keep hb3)
      have HBD := Lib.hid hb
      have HLN := Lib.hid hln
      clear hb3 HON i0 i1 t1 hT hsz hsz0 HR hb
      obtain ⟨u0, u1, u2', u3, u4, u5⟩ := u
      unfold unV
      simp only
      have i0 := (HM3.out.bx.c1 0).trans rfl
      have i1 := (HM3.out.bx.c1 1).trans rfl
      have f0 := HM3.out.bx.f1 0
      have f1 := HM3.out.bx.f1 1
      have hsz := HM3.out.bx.sz
      have hsz0 : w.heap.size < w3.heap.size := by omega
      have HM4 := Lib.hid (((HM3.out.set1 s3).keep (bel_alloc (Below.refl _ _) (.cells #[.string (bs s3.1), .int .i64 (s3.2 : Nat)] 46))).keep (bel_alloc (Below.refl _ _) (.cells #[.int .i64 u0, .int .i64 u1, .int .i64 u2', .int .i64 u3, .int .i64 u4, .int .i64 u5] 113)))
      clear HM3
      go_upto_region 11 with (fail)
      have hz4 : ((((w3.setCell ⟨w.heap.size, 0, none⟩ (.string (bs s3.1))).setCell ⟨w.heap.size, 1, none⟩ (.int .i64 (s3.2 : Nat))).alloc (.cells #[.string (bs s3.1), .int .i64 (s3.2 : Nat)] 46)).heap.size) = w3.heap.size + 1 := by simp
      have hp : ∀ j v, (#[.int .i64 u0, .int .i64 u1, .int .i64 u2', .int .i64 u3, .int .i64 u4, .int .i64 u5] : Array Value)[j]? = some v → ((((w3.setCell ⟨w.heap.size, 0, none⟩ (.string (bs s3.1))).setCell ⟨w.heap.size, 1, none⟩ (.int .i64 (s3.2 : Nat))).alloc (.cells #[.string (bs s3.1), .int .i64 (s3.2 : Nat)] 46)).alloc (.cells #[.int .i64 u0, .int .i64 u1, .int .i64 u2', .int .i64 u3, .int .i64 u4, .int .i64 u5] 113)).cell? ⟨w3.heap.size + 1, j, none⟩ = some v := fun j v hv => by
        generalize (((w3.setCell ⟨w.heap.size, 0, none⟩ (.string (bs s3.1))).setCell ⟨w.heap.size, 1, none⟩ (.int .i64 (s3.2 : Nat))).alloc (.cells #[.string (bs s3.1), .int .i64 (s3.2 : Nat)] 46)) = W3 at hz4
        rw [cell_new _ _ hz4]; exact hv
      generalize ((((w3.setCell ⟨w.heap.size, 0, none⟩ (.string (bs s3.1))).setCell ⟨w.heap.size, 1, none⟩ (.int .i64 (s3.2 : Nat))).alloc (.cells #[.string (bs s3.1), .int .i64 (s3.2 : Nat)] 46)).alloc (.cells #[.int .i64 u0, .int .i64 u1, .int .i64 u2', .int .i64 u3, .int .i64 u4, .int .i64 u5] 113)) = W4 at HM4 hp ⊢
      have p0 := hp 0 _ rfl
      have p1 := hp 1 _ rfl
      have p2 := hp 2 _ rfl
      have p3 := hp 3 _ rfl
      have p4 := hp 4 _ rfl
      have p5 := hp 5 _ rfl
      have hpl := block_lt_of_cell p0
      simp only at hpl
      have t0 := HM4.out.t0
      have hT := block_lt_of_cell t0
      simp only at hT
      obtain ⟨a', c', w', hrun, ⟨o, hc⟩, hf, hTl, hmem⟩ := HM4.out.step ⟨u0, u1, u2', u3, u4, u5⟩ (by rw [HLN.out]; omega) _ rfl
      simp only at hrun
      have HRUN := Lib.hid hrun
      have HMEM := Lib.hid hmem
      clear hz4 hp i0 i1 f0 f1 hsz hsz0 hrun hmem HM4 hln
      generalize lq.length = ul at t0 HRUN HMEM
      generalize w3.heap.size + 1 = B at p0 p1 p2 p3 p4 p5 hpl ⊢
      go_wp2_with (at_builtin; refine wpList_append_run _ rfl (.tmp 45) (.tmp 47) 26 26 rfl _ _ rfl rfl (.slice a' (ul + 1) c') w' HRUN.out ?_)
      go_roundw
      case rel => exact ⟨k + 1, a', c', by omega, by rw [HN.out]; simp only [HLA.out], by go_num, Lib.hid (by rw [HN.out]; simp only [HLA.out]; exact ⟨HMEM.out, fun h0 => by have h1 := HZ.out h0; have h2 := h1.2.1; have h3 := h1.2.2.1; have h4 := HBD.out; simp only at h2 h3; omega⟩)⟩
      case measure => simp [intOf]; omega
    · have HX : Hid ((rdUn (next : Int) n s2).1 = (rdUn (next : Int) k s2).1 ∧ ((rdUn (next : Int) k s2).1.2 = 0 → (rdUn (next : Int) n s2).2 = (rdUn (next : Int) k s2).2)) := Lib.hid (by
        by_cases he : (rdUn (next : Int) k s2).1.2 = 0
        · obtain rfl : n = k := by
            by_cases h : k < n
            · exact absurd ⟨h, he⟩ hgo
            · omega
          exact ⟨rfl, fun _ => rfl⟩
        · exact ⟨rdUn_stuck hk he (hokq.1 he), fun h => absurd h he⟩)
      have hex : (k < n ∧ (((rdUn (next : Int) k s2).1.2 : Int) == 0) = false) ∨ (¬ k < n ∧ decide ((k : Int) < (n : Int)) = false) := by
        by_cases h : k < n
        · refine .inl ⟨h, ?_⟩
          have : ¬ (rdUn (next : Int) k s2).1.2 = 0 := fun e => hgo ⟨h, e⟩
          simp; omega
        · exact .inr ⟨h, by simp; omega⟩
      generalize rdUn (next : Int) n s2 = qn at HX HS
      generalize rdUn (next : Int) k s2 = q at HR hln hokq HX hex
      obtain ⟨sq, lq⟩ := q
      simp only at HR hln hokq HX hex
      have HR1 := Lib.hid HR.out.1
      generalize lastId 0 lq = last
      obtain ⟨lz, ez⟩ := sq
      simp only at hex
      have i0 := (HR1.out.bx.c1 0).trans rfl
      have i1 := (HR1.out.bx.c1 1).trans rfl
      have hsz := HR1.out.bx.sz
      have hsz0 : w.heap.size < wr.heap.size := by omega
      clear hgo HR hln HM hk
      by_cases hn0 : next = 0
      · have hF0 := fun W => refFail_any lz ez 4 W
        have HF := Lib.hid (show res.1 = failS (lz, ez) 4 ∧ ((next : Int) = res.2.2 + 1 ∧ True) ∧ ((failS (lz, ez) 4).2 = 0 → False) from ⟨by rw [HS.out, if_pos hn0, HX.out.1], ⟨by rw [HS.out]; simp only; omega, trivial⟩, fun h => by have := (failS_zero h).2; omega⟩)
        generalize failS (lz, ez) 4 = s6 at hF0 HF
        simp only [inV_eq] at hF0
        have HFA := Lib.hid hF0
        have hnb : decide ((next : Int) < 1) = true := by simp; omega
        clear hF0 hn0 HS
        rcases hex with ⟨h1, h2⟩ | ⟨h1, h2⟩
        all_goals
          go_wp2_with fail
          refine (HFA.out _).mono ?_
          rintro r w5 ⟨rfl, hb5⟩
          have HM5 := Lib.hid (HR1.out.keep hb5)
          clear hb5 i0 i1 hsz hsz0
          have k0 := (HM5.out.bx.c1 0).trans rfl
          have k1 := (HM5.out.bx.c1 1).trans rfl
          have f0 := HM5.out.bx.f1 0
          have f1 := HM5.out.bx.f1 1
          have hsz := HM5.out.bx.sz
          have hsz0 : w.heap.size < w5.heap.size := by omega
          have HMz := Lib.hid (HM5.out.set1 s6)
          clear HM5
          go_upto_region 14 with (fail)
          generalize (w5.setCell ⟨w.heap.size, 0, none⟩ (.string (bs s6.1))).setCell ⟨w.heap.size, 1, none⟩ (.int .i64 (s6.2 : Nat)) = Wz at HMz ⊢
          clear k0 k1 f0 f1 hsz hsz0
          have i0 := (HMz.out.bx.c1 0).trans rfl
          have i1 := (HMz.out.bx.c1 1).trans rfl
          have p0 := (HMz.out.bx.c2 0).trans rfl
          have p1 := (HMz.out.bx.c2 1).trans rfl
          have q0 := (HMz.out.bx.c3 0).trans rfl
          have q1 := (HMz.out.bx.c3 1).trans rfl
          have d0 := HMz.out.bx.f2 0
          have d1 := HMz.out.bx.f2 1
          have z0 := HMz.out.bx.f3 0
          have z1 := HMz.out.bx.f3 1
          have v0 := HMz.out.t0
          have v1 := HMz.out.t1
          have hs9 := HMz.out.bx.sz
          have hTl := block_lt_of_cell v0
          simp only at hTl
          have hlT := HMz.out.lt
          have hs8 : w.heap.size + 1 < Wz.heap.size := by omega
          have hs7 : w.heap.size < Wz.heap.size := by omega
          have n1 : T ≠ w.heap.size + 1 := by omega
          have n2 : T ≠ w.heap.size + 1 + 1 := by omega
          have n3 : T ≠ w.heap.size := by omega
          generalize hul : lq.length = un at v0
          have HUL := Lib.hid hul
          clear hul
          go_region
          all_goals
            go_wp2
            refine bodyPost_ret (v := .tuple #[.agg #[.string (bs s6.1), .int .i64 (s6.2 : Nat)], .agg #[.slice a un c, .int .i64 (next : Int)]]) (by simp [results, Try.results20, go_sem, p0, p1, q0, q1]) rfl ?_
            rw [← HPost.out]
            exact ⟨a, un, c, by rw [HF.out.1, HF.out.2.1.1], (HMz.out.fin _ _ _ _).1.drew, fun h0 => (HF.out.2.2 (by rw [← HF.out.1]; exact h0)).elim⟩
      · have HF := Lib.hid (show res.1 = (lz, ez) ∧ (next : Int) = res.2.2 + 1 ∧ (ez = 0 → res.2.1 = lq) from ⟨by rw [HS.out, if_neg hn0, HX.out.1]; simp [failS], by rw [HS.out]; simp only; omega, fun h => by rw [HS.out]; exact HX.out.2 h⟩)
        have hnb : decide ((next : Int) < 1) = false := by simp; omega
        have HMz := Lib.hid HR1.out
        clear hn0 HS
        rcases hex with ⟨h1, h2⟩ | ⟨h1, h2⟩
        all_goals
          go_upto_region 14 with (fail)
          clear i0 i1 hsz hsz0
          generalize wr = Wz at HMz ⊢
          have i0 := (HMz.out.bx.c1 0).trans rfl
          have i1 := (HMz.out.bx.c1 1).trans rfl
          have p0 := (HMz.out.bx.c2 0).trans rfl
          have p1 := (HMz.out.bx.c2 1).trans rfl
          have q0 := (HMz.out.bx.c3 0).trans rfl
          have q1 := (HMz.out.bx.c3 1).trans rfl
          have d0 := HMz.out.bx.f2 0
          have d1 := HMz.out.bx.f2 1
          have z0 := HMz.out.bx.f3 0
          have z1 := HMz.out.bx.f3 1
          have v0 := HMz.out.t0
          have v1 := HMz.out.t1
          have hs9 := HMz.out.bx.sz
          have hTl := block_lt_of_cell v0
          simp only at hTl
          have hlT := HMz.out.lt
          have hs8 : w.heap.size + 1 < Wz.heap.size := by omega
          have hs7 : w.heap.size < Wz.heap.size := by omega
          have n1 : T ≠ w.heap.size + 1 := by omega
          have n2 : T ≠ w.heap.size + 1 + 1 := by omega
          have n3 : T ≠ w.heap.size := by omega
          generalize hul : lq.length = un at v0
          have HUL := Lib.hid hul
          clear hul
          go_region
          all_goals
            go_wp2
            refine bodyPost_ret (v := .tuple #[.agg #[.string (bs lz), .int .i64 (ez : Nat)], .agg #[.slice a un c, .int .i64 (next : Int)]]) (by simp [results, Try.results20, go_sem, p0, p1, q0, q1]) rfl ?_
            rw [← HPost.out]
            refine ⟨a, un, c, by rw [HF.out.1, HF.out.2.1], (HMz.out.fin _ _ _ _).1.drew, fun h0 => ?_⟩
            have hx1 := HF.out.2.2 (by rw [HF.out.1] at h0; exact h0)
            rw [hx1]
            exact ⟨HUL.out.symm, ((HMz.out.fin _ _ _ _).2.1).drew, (HMz.out.fin _ _ _ _).2.2⟩
end Go.Proofs.Ytdkokfpbmmjfkaa
namespace Go.Proofs.Ytdkokfpbmmjfkaa
open Go.RowKit
set_option linter.unusedVariables false

theorem intRow5 {k : IntKind} {w : World} {g : Nat} {x y z u v : Int} (h1 : w.cell? ⟨g, 1, none⟩ = some (.int k x)) (h2 : w.cell? ⟨g, 2, none⟩ = some (.int k y)) (h3 : w.cell? ⟨g, 3, none⟩ = some (.int k z)) (h4 : w.cell? ⟨g, 4, none⟩ = some (.int k u)) (h5 : w.cell? ⟨g, 5, none⟩ = some (.int k v)) : IntRow k w (some ⟨g, 1, none⟩) [x, y, z, u, v] := fun _ => ⟨g, 1, rfl, fun i hi => by
  have e : i = 0 ∨ i = 1 ∨ i = 2 ∨ i = 3 ∨ i = 4 := by simp at hi; omega
  rcases e with rfl | rfl | rfl | rfl | rfl
  · exact h1
  · exact h2
  · exact h3
  · exact h4
  · exact h5⟩
/-- Six cells of a box. -/
def Six (Y : Nat) (u0 u1 u2 u3 u4 u5 : Int) (W : World) : Prop := W.cell? ⟨Y, 0, none⟩ = some (.int .i64 u0) ∧ W.cell? ⟨Y, 1, none⟩ = some (.int .i64 u1) ∧ W.cell? ⟨Y, 2, none⟩ = some (.int .i64 u2) ∧ W.cell? ⟨Y, 3, none⟩ = some (.int .i64 u3) ∧ W.cell? ⟨Y, 4, none⟩ = some (.int .i64 u4) ∧ W.cell? ⟨Y, 5, none⟩ = some (.int .i64 u5)
theorem Six.keep {S : Nat → Prop} {Y : Nat} {u0 u1 u2 u3 u4 u5 : Int} {W w' : World} (ht : Touch (fun k => ¬ S k) W w') (hg : S Y) (h : Six Y u0 u1 u2 u3 u4 u5 W) : Six Y u0 u1 u2 u3 u4 u5 w' :=
  ⟨keep_cell ht hg h.1, keep_cell ht hg h.2.1, keep_cell ht hg h.2.2.1, keep_cell ht hg h.2.2.2.1, keep_cell ht hg h.2.2.2.2.1, keep_cell ht hg h.2.2.2.2.2⟩
theorem Six.alloc {Y : Nat} {u0 u1 u2 u3 u4 u5 : Int} {W : World} (o : Obj) (h : Six Y u0 u1 u2 u3 u4 u5 W) : Six Y u0 u1 u2 u3 u4 u5 (W.alloc o) :=
  ⟨alloc_cell h.1 o, alloc_cell h.2.1 o, alloc_cell h.2.2.1 o, alloc_cell h.2.2.2.1 o, alloc_cell h.2.2.2.2.1 o, alloc_cell h.2.2.2.2.2 o⟩
theorem Six.row {Y : Nat} {u0 u1 u2 u3 u4 u5 : Int} {W : World} (h : Six Y u0 u1 u2 u3 u4 u5 W) : IntRow .i64 W (some ⟨Y, 1, none⟩) [u1, u2, u3, u4, u5] := intRow5 h.2.1 h.2.2.1 h.2.2.2.1 h.2.2.2.2.1 h.2.2.2.2.2
theorem unB_len {last : Int} {u : Un} (h1 : u.id - last < 18446744073709551616) (hm : UnMay u) : (unB last u).length ≤ 60 := by
  have e2 := numsB_len [(u.id - last).toNat] (by intro x hx; simp at hx; omega)
  have e3 := intsB_len2 (ns := u.ints.tail) (by
    obtain ⟨m0, m1, m2, m3, m4⟩ := hm
    simp [mayN] at m0 m1 m2 m3 m4
    intro x hx
    simp [Un.ints] at hx
    unfold B64
    rcases hx with rfl | rfl | rfl | rfl | rfl <;> omega)
  have e4 : u.ints.tail.length = 5 := rfl
  unfold unB
  simp only [List.length_append]
  rw [e4] at e3
  simp at e2
  omega
theorem unsB_len {us : List Un} {g : Int} (h : TabOk us g) (k : Nat) (hk : k ≤ us.length) : (unsB 0 (us.take k)).length ≤ 60 * k := by
  induction k with
  | zero => simp [unsB]
  | succ k ih =>
    have h1 := ih (by omega)
    have h2 := lastId_lt h k (by omega)
    have h3 := h.2.2.1 _ (List.getElem_mem (show k < us.length by omega))
    have h4 := unB_len (last := lastId 0 (us.take k)) (u := us[k]) (by have := h.2.2.2.2; omega) h3.2.2
    rw [unsB_snoc us k (by omega), List.length_append]
    omega
set_option maxRecDepth 100000 in
set_option maxHeartbeats 4000000 in
theorem tabText_any {K : Nat → Prop} (b : Nat) (us : List Un) (g : Int) (w : World) (h : TabQ K b us g w) :
    Calls Try.prog 23 #[.pointer (some ⟨b, 0, none⟩)] w fun r w' => r = .returned (.string (bs (tabB us g))) ∧ Below w.heap.size w w' := by
  have HNX := Lib.hid (fun (W : World) (hb : Below w.heap.size w W) => tabNext_any b us g W (h.below hb))
  obtain ⟨⟨a, c, h1, -⟩, -, hok⟩ := h
  have c0 := h1.c0
  have HOK := Lib.hid hok
  have HAT := Lib.hid h1
  have HST := Lib.hid (OutQ.start (K := fun k => k < w.heap.size) w 93 (fun k hk => hk))
  have hbl := block_lt_of_cell c0
  simp only at hbl
  clear h1 hok
  have y0 : (w.alloc (.cells #[.slice none 0 0] 93)).cell? ⟨b, 0, none⟩ = some (.slice a us.length c) := alloc_cell c0 _
  have hg0 := HOK.out.2.2.2.1
  have hg1 := HOK.out.2.2.2.2
  have hwu : IntKind.u64.wrap (g + 1) = g + 1 := by rw [IntKind.wrap_u64]; omega
  have HU := Lib.hid (show (((g + 1).toNat : Nat) : Int) = g + 1 by omega)
  have h64 := HOK.out.1
  generalize hul : us.length = n at c0 y0 h64
  have HN := Lib.hid hul
  clear hul
  have HN1 := Lib.hid (show ∀ x ∈ [(g + 1).toNat], x < 18446744073709551616 by intro x hx; simp at hx; omega)
  have HL1 := Lib.hid (show ([] : List UInt8).length + 10 * [(g + 1).toNat].length ≤ 1000000000 by simp)
  have HN2 := Lib.hid (show ∀ x ∈ [(n : Int)], x ≤ 9223372036854775807 by intro x hx; simp at hx; omega)
  have HL2 := Lib.hid (show ([] ++ numsB [(g + 1).toNat]).length + 10 * [(n : Int)].length ≤ 1000000000 by
    have h2 := numsB_len [(g + 1).toNat] HN1.out
    simp at h2; simp; omega)
  have HB0 := Lib.hid (bel_alloc (Below.refl _ w) (.cells #[.slice none 0 0] 93))
  go_enter Try.func23, Try.ntmps23
  go_wp2_with fail
  have hX : w.heap.size < (w.alloc (.cells #[.slice none 0 0] 93)).heap.size := by simp
  generalize w.alloc (.cells #[.slice none 0 0] 93) = W0 at HST HB0 y0 hX ⊢
  have HSZ := Lib.hid HB0.out.size
  go_region_held3 (fun w' => w'.cell? ⟨b, 0, none⟩ = some (.slice a n c))
    (first | (refine keep_cell HT2.out (.inl (.inl hbl)) ?_; assumption) | (refine keep_cell HT1.out (.inl hbl) ?_; assumption) | (refine alloc_cell ?_ _; assumption) | (refine drew_cell (alloc_cell ?_ _); assumption) | exact y0)
    (first
      | (go_at_call 53; refine (HNX.out _ (by repeat' (first | exact HB0.out | refine Below.drew ?_ | refine bel_alloc ?_ _))).mono ?_; rintro r wK ⟨rfl, rfl⟩)
      | (go_at_call 68; refine (outNum_q HST.out [(g + 1).toNat] HL1.out HN1.out (by repeat' (first | exact Below.refl _ _ | refine Below.drew ?_ | refine bel_alloc ?_ _)) _ 0 1 1 rfl (intRow1 (by show _ = some (Value.int .u64 (((g + 1).toNat : Nat) : Int)); rw [HU.out]; repeat' (first | exact new_cell (by first | rfl | (simp; done)) rfl | exact .inr ⟨by first | omega | (simp; done) | (simp; omega), by first | omega | (simp; done) | (simp; omega)⟩ | exact .inl (.inr ⟨by first | omega | (simp; done) | (simp; omega), by first | omega | (simp; done) | (simp; omega)⟩) | with_reducible refine drew_cell ?_ | with_reducible refine alloc_cell ?_ _ | with_reducible refine keep_cell HT1.out ?_ ?_))) (.inr (by first | omega | (simp; done) | (simp; omega)))).mono ?_; rintro r wA ⟨rfl, ho, ht⟩; have HO1 := Lib.hid ho; have HT1 := Lib.hid ht; clear ho ht)
      | (go_at_call 69; refine (outCount_q HO1.out [(n : Int)] HL2.out HN2.out (by repeat' (first | exact Below.refl _ _ | refine Below.drew ?_ | refine bel_alloc ?_ _)) _ 0 1 1 rfl (intRow1 (by repeat' (first | exact new_cell (by first | rfl | (simp; done)) rfl | exact .inr ⟨by first | omega | (simp; done) | (simp; omega), by first | omega | (simp; done) | (simp; omega)⟩ | exact .inl (.inr ⟨by first | omega | (simp; done) | (simp; omega), by first | omega | (simp; done) | (simp; omega)⟩) | with_reducible refine drew_cell ?_ | with_reducible refine alloc_cell ?_ _ | with_reducible refine keep_cell HT1.out ?_ ?_))) (by first | exact .inr (by first | omega | (simp; done) | (simp; omega)) | exact .inl (.inr ⟨by first | omega | (simp; done) | (simp; omega), by first | omega | (simp; done) | (simp; omega)⟩))).mono ?_; rintro r wB ⟨rfl, ho, ht⟩; have HO2 := Lib.hid ho; have HT2 := Lib.hid ht; clear ho ht))
  all_goals
    have HW := Lib.hid (show Touch (fun k => ¬ k < w.heap.size) W0 wB from (touchKK (K := fun k => k < w.heap.size) (wp := W0) (by repeat' (first | exact Below.refl _ _ | refine Below.drew ?_ | refine bel_alloc ?_ _)) HT1.out).trans (touchKK (K := fun k => k < w.heap.size) (wp := wA) (by repeat' (first | exact Below.refl _ _ | refine Below.drew ?_ | refine bel_alloc ?_ _)) (HT2.out.mono fun k _ h1 h2 => h1 (h2.elim (fun h => .inl (.inl h)) .inr))))
    have HBB := Lib.hid (HB0.out.trans (HW.out.below HSZ.out (fun k hk h => h hk)))
    have HQ := Lib.hid (HO2.out.sub (K := fun k => k < w.heap.size) (fun k hk => .inl (.inl hk)))
    have HROW := Lib.hid (show UnRow w a us from RecRow.of_own (unsI_wide us) (by decide) (by rw [unsI_len]; exact HAT.out.row))
    clear HO1 HO2 HT1 HT2 HW HNX HAT HSZ HB0 HST HL1 HL2 HN1 HN2 y0
    generalize W0.heap.size = s1
    generalize wA.heap.size = s2
    rw [List.nil_append] at HQ
    go_wp2
    go_loopw [4, 24] (fun av iv wr => ∃ k : Nat, k ≤ n ∧ iv = .int .i64 k ∧ av = .int .i64 (lastId 0 (us.take k)) ∧ Hid (OutQ (fun k => k < w.heap.size) w.heap.size (numsB [(g + 1).toNat] ++ countsB [(n : Int)] ++ unsB 0 (us.take k)) wr) ∧ Hid (Below w.heap.size w wr)) (fun _ iv _ => n - (intOf iv).toNat)
    case atStart => exact ⟨0, by omega, rfl, by simp [lastId], Lib.hid (by simpa [unsB] using HQ.out), HBB⟩
    case round =>
      obtain ⟨k, hk, rfl, rfl, HO, HB⟩ := hrel
      by_cases hlt : k < n
      · have hlu : k < us.length := by rw [HN.out]; exact hlt
        have HS := Lib.hid (unsB_snoc us k hlu)
        have HLI := Lib.hid (lastId_snoc us k hlu)
        have HLT := Lib.hid (lastId_lt HOK.out k hlu)
        have HUK := Lib.hid (HOK.out.2.2.1 _ (List.getElem_mem hlu))
        have HLN : Hid ((numsB [(g + 1).toNat] ++ countsB [(n : Int)] ++ unsB 0 (us.take k)).length ≤ 5000) := Lib.hid (by
          have h1 := numsB_len [(g + 1).toNat] (by intro x hx; simp at hx; omega)
          have h2 := countsB_len (ns := [(n : Int)]) (by intro x hx; simp at hx; omega)
          have h3 := unsB_len HOK.out k (by omega)
          simp only [List.length_append]
          simp at h1 h2
          omega)
        obtain ⟨gb, off, rfl, hgb, c0', c1, c2, c3, c4, c5⟩ := (HROW.out.below HB.out).at hlu
        generalize us[k] = u at c0' c1 c2 c3 c4 c5 HS HLI HLT HUK
        generalize hla : lastId 0 (us.take k) = la at HS HLT ⊢
        clear hla
        obtain ⟨u0, u1, u2, u3, u4, u5⟩ := u
        simp only at c0' c1 c2 c3 c4 c5
        have b0 := HLT.out
        have b1 := HUK.out.2.1
        simp only at b0 b1
        have hwi : IntKind.i64.wrap (u0 - la) = u0 - la := by rw [IntKind.wrap_i64]; omega
        have hwv : IntKind.u64.wrap (u0 - la) = u0 - la := by rw [IntKind.wrap_u64]; omega
        have HU2 := Lib.hid (show (((u0 - la).toNat : Nat) : Int) = u0 - la by omega)
        have hk0 : (0 : Int) ≤ (k : Int) := by omega
        have hk1 : (k : Int) < (n : Int) := by omega
        have HN3 := Lib.hid (show ∀ x ∈ [(u0 - la).toNat], x < 18446744073709551616 by intro x hx; simp at hx; omega)
        have HN4 := Lib.hid (show ∀ x ∈ [u1, u2, u3, u4, u5], -9223372036854775808 ≤ x ∧ x ≤ 9223372036854775807 by
          obtain ⟨m0, m1, m2, m3, m4⟩ := HUK.out.2.2
          simp [mayN] at m0 m1 m2 m3 m4
          intro x hx
          simp at hx
          rcases hx with rfl | rfl | rfl | rfl | rfl <;> omega)
        generalize hLE : numsB [(g + 1).toNat] ++ countsB [(n : Int)] ++ unsB 0 (us.take k) = L at HO HLN
        have HLE := Lib.hid hLE
        clear hLE b0 b1
        have HL3 := Lib.hid (show L.length + 10 * [(u0 - la).toNat].length ≤ 1000000000 by have := HLN.out; simp; omega)
        have HL4 := Lib.hid (show (L ++ numsB [(u0 - la).toNat]).length + 10 * [u1, u2, u3, u4, u5].length ≤ 1000000000 by
          have := HLN.out; have h2 := numsB_len [(u0 - la).toNat] HN3.out; simp at h2; simp; omega)
        go_upto_region 7 with (fail)
        have HO0 := Lib.hid (HO.out.add (.cells #[.int .i64 u0, .int .i64 u1, .int .i64 u2, .int .i64 u3, .int .i64 u4, .int .i64 u5] 35))
        have HBW := Lib.hid (bel_alloc (Below.refl _ wr) (.cells #[.int .i64 u0, .int .i64 u1, .int .i64 u2, .int .i64 u3, .int .i64 u4, .int .i64 u5] 35))
        have HSX : Six wr.heap.size u0 u1 u2 u3 u4 u5 (wr.alloc (.cells #[.int .i64 u0, .int .i64 u1, .int .i64 u2, .int .i64 u3, .int .i64 u4, .int .i64 u5] 35)) := ⟨by simp, by simp, by simp, by simp, by simp, by simp⟩
        clear HO c0' c1 c2 c3 c4 c5
        generalize wr.alloc (.cells #[.int .i64 u0, .int .i64 u1, .int .i64 u2, .int .i64 u3, .int .i64 u4, .int .i64 u5] 35) = W1 at HO0 HBW HSX ⊢
        generalize hY : wr.heap.size = Y at HO0 HSX ⊢
        have HY := Lib.hid hY
        clear hY
        have x0 := HSX.1
        go_region_held3 (fun w' => w'.cell? ⟨Y, 0, none⟩ = some (.int .i64 u0) ∧ w'.cell? ⟨Y, 1, none⟩ = some (.int .i64 u1) ∧ w'.cell? ⟨Y, 2, none⟩ = some (.int .i64 u2) ∧ w'.cell? ⟨Y, 3, none⟩ = some (.int .i64 u3) ∧ w'.cell? ⟨Y, 4, none⟩ = some (.int .i64 u4) ∧ w'.cell? ⟨Y, 5, none⟩ = some (.int .i64 u5))
          (first | (refine Six.keep HT2.out (.inl (.inl (.inr rfl))) ?_; assumption) | (refine Six.keep HT1.out (.inl (.inr rfl)) ?_; assumption) | (refine Six.alloc _ ?_; assumption) | (refine Six.alloc (W := World.drew _) _ ?_; assumption) | exact HSX)
          (first
            | (go_at_call 68; refine (outNum_q HO0.out [(u0 - la).toNat] HL3.out HN3.out (by repeat' (first | exact Below.refl _ _ | refine Below.drew ?_ | refine bel_alloc ?_ _)) _ 0 1 1 rfl (intRow1 (by show _ = some (Value.int .u64 (((u0 - la).toNat : Nat) : Int)); rw [HU2.out]; repeat' (first | exact new_cell (by first | rfl | (simp; done)) rfl | exact .inr ⟨by first | omega | (simp; done) | (simp; omega), by first | omega | (simp; done) | (simp; omega)⟩ | exact .inl (.inr ⟨by first | omega | (simp; done) | (simp; omega), by first | omega | (simp; done) | (simp; omega)⟩) | with_reducible refine drew_cell ?_ | with_reducible refine alloc_cell ?_ _ | with_reducible refine keep_cell HT1.out ?_ ?_))) (.inr (by first | omega | (simp; done) | (simp; omega)))).mono ?_; rintro r wA ⟨rfl, ho, ht⟩; have HO1 := Lib.hid ho; have HT1 := Lib.hid ht; clear ho ht)
            | (go_at_call 70; refine (outInt_q HO1.out [u1, u2, u3, u4, u5] HL4.out HN4.out (by repeat' (first | exact Below.refl _ _ | refine Below.drew ?_ | refine bel_alloc ?_ _)) Y 1 5 5 rfl (Six.row (u0 := u0) (by assumption)) (.inl (.inl (.inr rfl)))).mono ?_; rintro r wB ⟨rfl, ho, ht⟩; have HO2 := Lib.hid ho; have HT2 := Lib.hid ht; clear ho ht))
        all_goals
          have x0' : wB.cell? ⟨Y, 0, none⟩ = some (.int .i64 u0) := (show Six Y u0 u1 u2 u3 u4 u5 wB by assumption).1
          have hYl := block_lt_of_cell x0'
          simp only at hYl
          have HW := Lib.hid (show Touch (fun k => ¬ k < w.heap.size) W1 wB from (touchKK (K := fun k => k < w.heap.size) (wp := W1) (by repeat' (first | exact Below.refl _ _ | refine Below.drew ?_ | refine bel_alloc ?_ _)) (HT1.out.mono fun k _ h1 h2 => h1 (h2.elim (fun h => .inl (.inl h)) .inr))).trans
            (touchKK (K := fun k => k < w.heap.size) (wp := wA) (by repeat' (first | exact Below.refl _ _ | refine Below.drew ?_ | refine bel_alloc ?_ _)) (HT2.out.mono fun k _ h1 h2 => h1 (h2.elim (fun h => .inl (.inl (.inl h))) .inr))))
          have HQ2 := Lib.hid (HO2.out.sub (K := fun k => k < w.heap.size) (fun k hk => .inl (.inl (.inl hk))))
          have HB2 := Lib.hid (HB.out.trans ((HBW.out.mono HB.out.size).trans (HW.out.below (by have := HB.out.size; have := HBW.out.size; omega) (fun k hk h => h hk))))
          clear HO1 HO2 HT1 HT2 HW HO0 HBW
          go_wp2
          go_roundw
          case rel => exact ⟨k + 1, by omega, by go_num, by rw [HLI.out], Lib.hid (by rw [HS.out, ← List.append_assoc, HLE.out]; unfold unB; rw [← List.append_assoc]; exact HQ2.out), HB2⟩
          case measure => simp [intOf]; omega
      · obtain rfl : k = n := by omega
        have HE := Lib.hid (show numsB [(g + 1).toNat] ++ countsB [(k : Int)] ++ unsB 0 (us.take k) = tabB us g by unfold tabB; rw [HN.out, ← HN.out, List.take_length])
        rw [HE.out] at HO
        have HTX := Lib.hid (outText_q HO.out)
        go_wp2_with fail
        refine HTX.out.mono ?_
        rintro r w2 ⟨rfl, rfl⟩
        go_wp2
        go_ret
        exact ⟨rfl, HB.out⟩
end Go.Proofs.Ytdkokfpbmmjfkaa
namespace Go.Proofs.Ytdkokfpbmmjfkaa
open Go.RowKit
set_option linter.unusedVariables false

theorem index5_any (a b c d e : Int) (j : Nat) (hj : j < 5) : ∀ w : World, (Instr.index 33 (.agg #[.int .i64 a, .int .i64 b, .int .i64 c, .int .i64 d, .int .i64 e]) (.int .i64 (j : Int))).run Try.prog w = .ok (.int .i64 ([a, b, c, d, e].getD j 0)) w := by
  have h : j = 0 ∨ j = 1 ∨ j = 2 ∨ j = 3 ∨ j = 4 := by omega
  rcases h with rfl | rfl | rfl | rfl | rfl
  · exact index5_0 a b c d e
  · exact index5_1 a b c d e
  · exact index5_2 a b c d e
  · exact index5_3 a b c d e
  · exact index5_4 a b c d e
theorem intsB_snoc5 (l : List Int) (j : Nat) (h : j < l.length) : intsB (l.take (j + 1)) = intsB (l.take j) ++ numB (zig (l.getD j 0)) := by
  have e : l.getD j 0 = l[j] := by simp [h]
  rw [intsB_snoc l j h, e]
theorem keep2c {W w' : World} (hb : Below W.heap.size W w') {X : Nat} {x y : Value} (h : W.cell? ⟨X, 0, none⟩ = some x ∧ W.cell? ⟨X, 1, none⟩ = some y) : w'.cell? ⟨X, 0, none⟩ = some x ∧ w'.cell? ⟨X, 1, none⟩ = some y := by
  have hX := block_lt_of_cell h.1
  exact ⟨(hb.cell (p := ⟨X, 0, none⟩) hX).trans h.1, (hb.cell (p := ⟨X, 1, none⟩) hX).trans h.2⟩
set_option maxRecDepth 100000 in
set_option maxHeartbeats 4000000 in
theorem refTabText_any (a : Option Addr) (c : Nat) (us : List Un) (g : Int) (w : World) (hok : TabOk us g) (h : RT w a c us) :
    Calls Try.prog 60 #[.agg #[.slice a us.length c, .int .i64 (g + 1)]] w fun r w' => r = .returned (.string (bs (tabB us g))) ∧ Below w.heap.size w w' := by
  have HOK := Lib.hid hok
  have HROW := Lib.hid h.row
  have hg0 := hok.2.2.2.1
  have hg1 := hok.2.2.2.2
  have h64 := hok.1
  generalize hul : us.length = n at h64 ⊢
  have HN := Lib.hid hul
  clear hul h hok
  have hwu : IntKind.u64.wrap (g + 1) = g + 1 := by rw [IntKind.wrap_u64]; omega
  have HU := Lib.hid (show (((g + 1).toNat : Nat) : Int) = g + 1 by omega)
  have hc1 := fun W => refNum_any (g + 1).toNat W (by omega)
  rw [HU.out] at hc1
  have hc2 := fun W => refCount_any (n : Int) W (by omega) (by omega)
  have s1 : (bs (numB (g + 1).toNat)).size ≤ 10 := by rw [bs_size]; exact numB_ten (by omega)
  have s2 : (bs (numB ((n : Int)).toNat)).size ≤ 10 := by rw [bs_size]; exact numB_ten (by omega)
  have HJ := Lib.hid (show bs (numB (g + 1).toNat) ++ bs (numB ((n : Int)).toNat) = bs (numsB [(g + 1).toNat] ++ countsB [(n : Int)]) by simp [numsB, countsB, bs_append])
  generalize bs (numB (g + 1).toNat) = A1 at hc1 HJ s1
  generalize bs (numB ((n : Int)).toNat) = A2 at hc2 HJ s2
  have v1 : ∀ W, (Op.stringOp .add A1 A2).run Try.prog W = .ok (.string (A1 ++ A2)) W := fun W => run_string_add_sum W _ _ (by omega)
  have HC1 := Lib.hid hc1
  have HC2 := Lib.hid hc2
  clear hc1 hc2 s1 s2
  have HBc := Lib.hid (bel_alloc (Below.refl _ w) (.cells #[.slice a n c, .int .i64 (g + 1)] 28)).drew
  have x0 : (w.alloc (.cells #[.slice a n c, .int .i64 (g + 1)] 28)).cell? ⟨w.heap.size, 0, none⟩ = some (.slice a n c) := by simp
  have x1 : (w.alloc (.cells #[.slice a n c, .int .i64 (g + 1)] 28)).cell? ⟨w.heap.size, 1, none⟩ = some (.int .i64 (g + 1)) := by simp
  go_enter Try.func60, Try.ntmps60
  go_wp2_with fail
  generalize w.alloc (.cells #[.slice a n c, .int .i64 (g + 1)] 28) = W0 at HBc x0 x1 ⊢
  generalize hX : w.heap.size = X at x0 x1 ⊢
  have HX := Lib.hid hX
  clear hX
  go_region_held3 (fun w' => w'.cell? ⟨X, 0, none⟩ = some (.slice a n c) ∧ w'.cell? ⟨X, 1, none⟩ = some (.int .i64 (g + 1)))
    (first | (refine keep2c hbK ?_; assumption) | exact ⟨x0, x1⟩)
    (first
      | (go_at_call 79; (with_reducible refine (HC1.out _).mono ?_); rintro e wK ⟨rfl, hbK⟩; have HBc := Lib.hid (HBc.out.trans (hbK.mono HBc.out.size)))
      | (go_at_call 78; (with_reducible refine (HC2.out _).mono ?_); rintro e wK ⟨rfl, hbK⟩; have HBc := Lib.hid (HBc.out.trans (hbK.mono HBc.out.size))))
  all_goals
    have HB1 := Lib.hid HBc.out
    have x0' : wK.cell? ⟨X, 0, none⟩ = some (.slice a n c) := (show wK.cell? ⟨X, 0, none⟩ = some (.slice a n c) ∧ wK.cell? ⟨X, 1, none⟩ = some (.int .i64 (g + 1)) by assumption).1
    have hXl := block_lt_of_cell x0'
    simp only at hXl
    rw [HJ.out]
    clear v1 HC1 HC2 HBc x0 x1 HJ
    go_wp2
    go_loopw [3, 4, 21] (fun sv av iv wr => ∃ k : Nat, k ≤ n ∧ iv = .int .i64 k ∧ av = .int .i64 (lastId 0 (us.take k)) ∧ sv = .string (bs (numsB [(g + 1).toNat] ++ countsB [(n : Int)] ++ unsB 0 (us.take k))) ∧ Hid (Below w.heap.size w wr)) (fun _ _ iv _ => n - (intOf iv).toNat)
    case atStart => exact ⟨0, by omega, rfl, by simp [lastId], by simp [unsB], HB1⟩
    case round =>
      obtain ⟨k, hk, rfl, rfl, rfl, HB⟩ := hrel
      by_cases hlt : k < n
      · have hlu : k < us.length := by rw [HN.out]; exact hlt
        have HS := Lib.hid (unsB_snoc us k hlu)
        have HLI := Lib.hid (lastId_snoc us k hlu)
        have HLT := Lib.hid (lastId_lt HOK.out k hlu)
        have HUK := Lib.hid (HOK.out.2.2.1 _ (List.getElem_mem hlu))
        have HLN : Hid ((numsB [(g + 1).toNat] ++ countsB [(n : Int)] ++ unsB 0 (us.take k)).length ≤ 5000) := Lib.hid (by
          have h1 := numsB_len [(g + 1).toNat] (by intro x hx; simp at hx; omega)
          have h2 := countsB_len (ns := [(n : Int)]) (by intro x hx; simp at hx; omega)
          have h3 := unsB_len HOK.out k (by omega)
          simp only [List.length_append]
          simp at h1 h2
          omega)
        obtain ⟨gb, off, rfl, hgb, c0', c1, c2, c3, c4, c5⟩ := (HROW.out.below HB.out).at hlu
        generalize us[k] = u at c0' c1 c2 c3 c4 c5 HS HLI HLT HUK
        generalize hla : lastId 0 (us.take k) = la at HS HLT ⊢
        clear hla
        obtain ⟨u0, u1, u2, u3, u4, u5⟩ := u
        simp only at c0' c1 c2 c3 c4 c5
        have b0 := HLT.out
        have b1 := HUK.out.2.1
        simp only at b0 b1
        have hwi : IntKind.i64.wrap (u0 - la) = u0 - la := by rw [IntKind.wrap_i64]; omega
        have hwv : IntKind.u64.wrap (u0 - la) = u0 - la := by rw [IntKind.wrap_u64]; omega
        have HU2 := Lib.hid (show (((u0 - la).toNat : Nat) : Int) = u0 - la by omega)
        have hk0 : (0 : Int) ≤ (k : Int) := by omega
        have hk1 : (k : Int) < (n : Int) := by omega
        have HN4 := Lib.hid (show ∀ x ∈ [u1, u2, u3, u4, u5], B64 x by
          obtain ⟨m0, m1, m2, m3, m4⟩ := HUK.out.2.2
          simp [mayN] at m0 m1 m2 m3 m4
          intro x hx
          simp at hx
          unfold B64
          rcases hx with rfl | rfl | rfl | rfl | rfl <;> omega)
        have hc3 := fun W => refNum_any (u0 - la).toNat W (by omega)
        rw [HU2.out] at hc3
        have HC3 := Lib.hid hc3
        generalize hLE : numsB [(g + 1).toNat] ++ countsB [(n : Int)] ++ unsB 0 (us.take k) = L at HLN
        have HLE := Lib.hid hLE
        have s3 : (bs (numB (u0 - la).toNat)).size ≤ 10 := by rw [bs_size]; exact numB_ten (by omega)
        have s4 : (bs L).size ≤ 5000 := by rw [bs_size]; exact HLN.out
        have HJ2 := Lib.hid (show bs L ++ bs (numB (u0 - la).toNat) = bs (L ++ numsB [(u0 - la).toNat]) by simp [numsB, bs_append])
        have HML := Lib.hid (show (L ++ numsB [(u0 - la).toNat]).length ≤ 5010 by
          have h2 := numsB_len [(u0 - la).toNat] (by intro x hx; simp at hx; omega)
          have := HLN.out
          simp at h2; simp; omega)
        generalize hM : L ++ numsB [(u0 - la).toNat] = M at HJ2 HML
        have HM := Lib.hid hM
        generalize bs (numB (u0 - la).toNat) = A3 at HC3 HJ2 s3
        generalize bs L = S0 at HJ2 s4 ⊢
        have v2 : ∀ W, (Op.stringOp .add S0 A3).run Try.prog W = .ok (.string (S0 ++ A3)) W := fun W => run_string_add_sum W _ _ (by omega)
        clear hLE hM hc3 b0 b1 s3 s4
        have HBA := Lib.hid (bel_alloc HB.out (.cells #[.int .i64 u0, .int .i64 u1, .int .i64 u2, .int .i64 u3, .int .i64 u4, .int .i64 u5] 113))
        go_wp2_with fail
        refine (HC3.out _).mono ?_
        rintro r w2 ⟨rfl, hb2⟩
        have q0 : w2.cell? ⟨wr.heap.size, 0, none⟩ = some (.int .i64 u0) := (hb2.cell (p := ⟨wr.heap.size, 0, none⟩) (by simp)).trans (by simp)
        have q1 : w2.cell? ⟨wr.heap.size, 1, none⟩ = some (.int .i64 u1) := (hb2.cell (p := ⟨wr.heap.size, 1, none⟩) (by simp)).trans (by simp)
        have q2 : w2.cell? ⟨wr.heap.size, 2, none⟩ = some (.int .i64 u2) := (hb2.cell (p := ⟨wr.heap.size, 2, none⟩) (by simp)).trans (by simp)
        have q3 : w2.cell? ⟨wr.heap.size, 3, none⟩ = some (.int .i64 u3) := (hb2.cell (p := ⟨wr.heap.size, 3, none⟩) (by simp)).trans (by simp)
        have q4 : w2.cell? ⟨wr.heap.size, 4, none⟩ = some (.int .i64 u4) := (hb2.cell (p := ⟨wr.heap.size, 4, none⟩) (by simp)).trans (by simp)
        have q5 : w2.cell? ⟨wr.heap.size, 5, none⟩ = some (.int .i64 u5) := (hb2.cell (p := ⟨wr.heap.size, 5, none⟩) (by simp)).trans (by simp)
        have hYl := block_lt_of_cell q0
        simp only at hYl
        have HB2 := Lib.hid (HBA.out.trans (hb2.mono HBA.out.size))
        generalize wr.heap.size = Y at q0 q1 q2 q3 q4 q5 hYl ⊢
        clear hb2 HC3 HBA c0' c1 c2 c3 c4 c5
        have HI5 := Lib.hid (index5_any u1 u2 u3 u4 u5)
        have HSN := Lib.hid (fun j (hj : j < 5) => intsB_snoc5 [u1, u2, u3, u4, u5] j hj)
        have HFB := Lib.hid (fun j (hj : j < 5) => HN4.out _ (show [u1, u2, u3, u4, u5].getD j 0 ∈ [u1, u2, u3, u4, u5] by
          have e : j = 0 ∨ j = 1 ∨ j = 2 ∨ j = 3 ∨ j = 4 := by omega
          rcases e with rfl | rfl | rfl | rfl | rfl <;> simp))
        have HFL := Lib.hid (fun j (hj : j ≤ 5) => show (intsB ([u1, u2, u3, u4, u5].take j)).length ≤ 50 by
          have h1 := intsB_len2 (ns := [u1, u2, u3, u4, u5].take j) (fun x hx => HN4.out x (List.mem_of_mem_take hx))
          have h2 := List.length_take_le j [u1, u2, u3, u4, u5]
          omega)
        have HT5 := Lib.hid (show [u1, u2, u3, u4, u5].take 5 = [u1, u2, u3, u4, u5] from rfl)
        generalize hF : [u1, u2, u3, u4, u5] = F at HI5 HSN HFB HFL HT5
        have HF := Lib.hid hF
        clear hF
        go_wp2
        rw [HJ2.out]
        clear v2
        go_loopw [3, 35] (fun sv jv wr => ∃ j : Nat, j ≤ 5 ∧ jv = .int .i64 j ∧ sv = .string (bs (M ++ intsB (F.take j))) ∧ Hid (Below w.heap.size w wr) ∧ wr.cell? ⟨Y, 0, none⟩ = some (.int .i64 u0)) (fun _ jv _ => 5 - (intOf jv).toNat)
        case atStart => exact ⟨0, by omega, rfl, by simp [intsB, numsB], HB2, q0⟩
        case round =>
          obtain ⟨j, hj, rfl, rfl, HB3, q0'⟩ := hrel
          have hYl3 := block_lt_of_cell q0'
          simp only at hYl3
          by_cases hlt5 : j < 5
          · have hix := HI5.out j hlt5
            have HSJ := Lib.hid (HSN.out j hlt5)
            have fb := HFB.out j hlt5
            have fl := HFL.out j hj
            have ml := HML.out
            generalize F.getD j 0 = f at hix HSJ fb
            have hc4 := fun W => refInt_any f W fb.1 fb.2
            have s5 : (bs (numB (zig f))).size ≤ 10 := by rw [bs_size]; exact numB_ten (zig_lt fb.1 fb.2)
            have s6 : (bs (M ++ intsB (F.take j))).size ≤ 5060 := by rw [bs_size, List.length_append]; omega
            have HJ3 := Lib.hid (show bs (M ++ intsB (F.take j)) ++ bs (numB (zig f)) = bs (M ++ intsB (F.take (j + 1))) by rw [HSJ.out, ← List.append_assoc, bs_append])
            generalize bs (numB (zig f)) = A5 at hc4 s5 HJ3
            generalize bs (M ++ intsB (F.take j)) = S5 at s6 HJ3 ⊢
            have v3 : ∀ W, (Op.stringOp .add S5 A5).run Try.prog W = .ok (.string (S5 ++ A5)) W := fun W => run_string_add_sum W _ _ (by omega)
            have HC4 := Lib.hid hc4
            clear hc4 s5 s6 fb fl ml
            have hj0 : (0 : Int) ≤ (j : Int) := by omega
            have hj1 : (j : Int) < (5 : Int) := by omega
            go_wp2_with fail
            refine (HC4.out _).mono ?_
            rintro r w6 ⟨rfl, hb6⟩
            have q6 : w6.cell? ⟨Y, 0, none⟩ = some (.int .i64 u0) := (hb6.cell (p := ⟨Y, 0, none⟩) hYl3).trans q0'
            have HB6 := Lib.hid (HB3.out.trans (hb6.mono HB3.out.size))
            clear hb6 HC4
            go_wp2
            go_roundw
            case rel => exact ⟨j + 1, by omega, by go_num, by rw [HJ3.out], HB6, q6⟩
            case measure => simp [intOf]; omega
          · obtain rfl : j = 5 := by omega
            have HEN := Lib.hid (show M ++ intsB (F.take 5) = numsB [(g + 1).toNat] ++ countsB [(n : Int)] ++ unsB 0 (us.take (k + 1)) by
              rw [HT5.out, HS.out, ← List.append_assoc, HLE.out, ← HM.out, ← HF.out, List.append_assoc]; rfl)
            rw [HEN.out]
            go_wp2
            go_roundw
            case rel => exact ⟨k + 1, by omega, by go_num, by rw [HLI.out], rfl, HB3⟩
            case measure => simp [intOf]; omega
      · obtain rfl : k = n := by omega
        have HE := Lib.hid (show numsB [(g + 1).toNat] ++ countsB [(k : Int)] ++ unsB 0 (us.take k) = tabB us g by unfold tabB; rw [HN.out, ← HN.out, List.take_length])
        rw [HE.out]
        go_wp2
        go_ret
        exact ⟨rfl, HB.out⟩
end Go.Proofs.Ytdkokfpbmmjfkaa
namespace Go.Proofs.Ytdkokfpbmmjfkaa
open Go.RowKit
set_option linter.unusedVariables false

theorem find_at {us : List Un} (h : Rising us) (k : Nat) (hk : k < us.length) : FindIs us us[k].id k := by
  refine ⟨by omega, fun j hj => ⟨fun hlt => ?_, fun hlt => h j k hj hk hlt⟩⟩
  rcases Nat.lt_trichotomy j k with e | e | e
  · exact e
  · subst e; omega
  · have := h k j hk hj e; omega
set_option maxRecDepth 100000 in
set_option maxHeartbeats 4000000 in
theorem is_any (K0 : Nat → Prop) (b : Nat) (us : List Un) (g : Int) (a : Option Addr) (c : Nat) (w : World) (h : DoMem K0 b us g a c w) :
    Calls Try.prog 15 #[.pointer (some ⟨b, 0, none⟩), .agg #[.slice a us.length c, .int .i64 (g + 1)]] w fun r w' => r = .returned (.int .i64 0) ∧ Below w.heap.size w w' := by
  have hok := h.tab.ok
  have HOK := Lib.hid hok
  have h64 := hok.1
  have hg0 := hok.2.2.2.1
  have hg1 := hok.2.2.2.2
  have HLE := Lib.hid (fun W (hh : DoMem K0 b us g a c W) => tabLen_any b us g W hh.tab)
  have HNX := Lib.hid (fun W (hh : DoMem K0 b us g a c W) => tabNext_any b us g W hh.tab)
  have HTX := Lib.hid (fun W (hh : DoMem K0 b us g a c W) => tabText_any b us g W hh.tab)
  have HRX := Lib.hid (fun W (hh : DoMem K0 b us g a c W) => refTabText_any a c us g W hok hh.rt)
  have HNT := Lib.hid (fun k W (hh : DoMem K0 b us g a c W) => tabNth_any b us g k W hh.tab)
  have HAL := Lib.hid (fun W (hh : DoMem K0 b us g a c W) => tabAll_any b us g W hh.tab)
  have HM0 := Lib.hid h
  have n1 : nthN us (-1) = 0 := by simp [nthN]
  have n2 : nthN us (us.length : Int) = 0 := by simp [nthN]
  have HN1 := Lib.hid (HNT.out (-1))
  have HN2 := Lib.hid (HNT.out (us.length : Int))
  rw [n1] at HN1
  rw [n2] at HN2
  clear h hok n1 n2
  generalize bs (tabB us g) = T at HTX HRX
  generalize hul : us.length = n at HLE HRX HAL HN2 h64 ⊢
  have HN := Lib.hid hul
  clear hul
  have HM1 := Lib.hid (HM0.out.keep (bel_alloc (Below.refl _ w) (.cells #[.slice a n c, .int .i64 (g + 1)] 28)))
  have HB1 := Lib.hid (bel_alloc (Below.refl _ w) (.cells #[.slice a n c, .int .i64 (g + 1)] 28))
  have x0 : (w.alloc (.cells #[.slice a n c, .int .i64 (g + 1)] 28)).cell? ⟨w.heap.size, 0, none⟩ = some (.slice a n c) := by simp
  have x1 : (w.alloc (.cells #[.slice a n c, .int .i64 (g + 1)] 28)).cell? ⟨w.heap.size, 1, none⟩ = some (.int .i64 (g + 1)) := by simp
  go_enter Try.func15, Try.ntmps15
  go_wp2_with fail
  refine (HAL.out _ HM1.out).mono ?_
  rintro r w1 ⟨a', c', rfl, hr1, hb1⟩
  have HR1 := Lib.hid hr1
  obtain ⟨y0, y1⟩ := keep2c hb1 ⟨x0, x1⟩
  have HMc := Lib.hid ((HM1.out.keep hb1).keep (w' := w1.drew) (Below.refl _ w1).drew)
  have HBc := Lib.hid (HB1.out.trans (hb1.mono HB1.out.size)).drew
  have HRc := Lib.hid (show UnRow w1.drew a' us from hr1)
  have hXl := block_lt_of_cell y0
  simp only at hXl
  clear hr1 hb1 x0 x1 HM1 HB1 HAL HR1
  generalize w.heap.size = X at y0 y1 hXl ⊢
  go_upto_region 2 with (fail)
  go_region_held3 (fun w' => w'.cell? ⟨X, 0, none⟩ = some (.slice a n c) ∧ w'.cell? ⟨X, 1, none⟩ = some (.int .i64 (g + 1)))
    (first | (refine keep2c hbK ?_; assumption) | assumption | exact ⟨y0, y1⟩)
    (first
      | (go_at_call 52; refine (HLE.out _ HMc.out).mono ?_; rintro e wK ⟨rfl, rfl⟩)
      | (go_at_call 53; refine (HNX.out _ HMc.out).mono ?_; rintro e wK ⟨rfl, rfl⟩)
      | (go_at_call 61; (first | with_reducible refine (HN1.out _ HMc.out).mono ?_ | with_reducible refine (HN2.out _ HMc.out).mono ?_ | refine (HN2.out _ HMc.out).mono ?_); rintro e wK ⟨rfl, rfl⟩)
      | (go_at_call 23; refine (HTX.out _ HMc.out).mono ?_; rintro e wK ⟨rfl, hbK⟩; have HRc := Lib.hid (UnRow.below HRc.out hbK); have HMc := Lib.hid (HMc.out.keep hbK); have HBc := Lib.hid (HBc.out.trans (hbK.mono HBc.out.size)))
      | (go_at_call 60; refine (HRX.out _ HMc.out).mono ?_; rintro e wK ⟨rfl, hbK⟩; have HRc := Lib.hid (UnRow.below HRc.out hbK); have HMc := Lib.hid (HMc.out.keep hbK); have HBc := Lib.hid (HBc.out.trans (hbK.mono HBc.out.size))))
  all_goals
    have z0 : wK.cell? ⟨X, 0, none⟩ = some (.slice a n c) := (show wK.cell? ⟨X, 0, none⟩ = some (.slice a n c) ∧ wK.cell? ⟨X, 1, none⟩ = some (.int .i64 (g + 1)) by assumption).1
    have hzl := block_lt_of_cell z0
    simp only at hzl
    have HMz := Lib.hid HMc.out
    have HBz := Lib.hid HBc.out
    have HRz := Lib.hid HRc.out
    clear HLE HNX HTX HRX HN1 HN2 y0 y1 hXl HM0
    go_wp2
    go_loopw [55] (fun iv wr => ∃ k : Nat, k ≤ n ∧ iv = .int .i64 k ∧ Hid (DoMem K0 b us g a c wr) ∧ Hid (Below w.heap.size w wr) ∧ Hid (UnRow wr a' us)) (fun iv _ => n - (intOf iv).toNat)
    case atStart => exact ⟨0, by omega, rfl, HMz, HBz, HRz⟩
    case round =>
      obtain ⟨k, hk, rfl, HM, HB, HR⟩ := hrel
      by_cases hlt : k < n
      · have hlu : k < us.length := by rw [HN.out]; exact hlt
        obtain ⟨gb, off, rfl, hgb, c0, c1, c2, c3, c4, c5⟩ := HM.out.rt.row.at hlu
        obtain ⟨gb', off', rfl, hgb', d0, d1, d2, d3, d4, d5⟩ := HR.out.at hlu
        have hun := fun W (hh : DoMem K0 b us g (some ⟨gb, off, none⟩) c W) => tabUnit_some b us g us[k].id k W hh.tab (find_at HOK.out.2.1 k hlu) hlu rfl
        have hnt := fun W (hh : DoMem K0 b us g (some ⟨gb, off, none⟩) c W) => HNT.out (k : Int) W hh
        rw [show nthN us (k : Int) = us[k].id by simp [nthN, hlu]; omega] at hnt
        have hne := run_neq us[k] us[k]
        rw [show unQ us[k] us[k] = true from (unQ_iff _ _).2 rfl] at hne
        generalize us[k] = u at c0 c1 c2 c3 c4 c5 d0 d1 d2 d3 d4 d5 hun hnt hne
        obtain ⟨u0, u1, u2, u3, u4, u5⟩ := u
        unfold unV at hun hne
        simp only [Bool.not_true] at c0 c1 c2 c3 c4 c5 d0 d1 d2 d3 d4 d5 hun hnt hne
        have HUN := Lib.hid hun
        have HNH := Lib.hid hnt
        have hk0 : (0 : Int) ≤ (k : Int) := by omega
        have hk1 : (k : Int) < (n : Int) := by omega
        have HM1 := Lib.hid (HM.out.keep (bel_alloc (Below.refl _ wr) (.cells #[.int .i64 u0, .int .i64 u1, .int .i64 u2, .int .i64 u3, .int .i64 u4, .int .i64 u5] 113)))
        have HB1 := Lib.hid (bel_alloc HB.out (.cells #[.int .i64 u0, .int .i64 u1, .int .i64 u2, .int .i64 u3, .int .i64 u4, .int .i64 u5] 113))
        have HR1 := Lib.hid (HR.out.below (bel_alloc (Below.refl _ wr) (.cells #[.int .i64 u0, .int .i64 u1, .int .i64 u2, .int .i64 u3, .int .i64 u4, .int .i64 u5] 113)))
        clear hun hnt HM HB HR HNT
        go_wp2_with fail
        refine (HUN.out _ HM1.out).mono ?_
        rintro r w2 ⟨rfl, hb2⟩
        have p0 : w2.cell? ⟨wr.heap.size, 0, none⟩ = some (.int .i64 u0) := (hb2.cell (p := ⟨wr.heap.size, 0, none⟩) (by simp)).trans (by simp)
        have p1 : w2.cell? ⟨wr.heap.size, 1, none⟩ = some (.int .i64 u1) := (hb2.cell (p := ⟨wr.heap.size, 1, none⟩) (by simp)).trans (by simp)
        have p2 : w2.cell? ⟨wr.heap.size, 2, none⟩ = some (.int .i64 u2) := (hb2.cell (p := ⟨wr.heap.size, 2, none⟩) (by simp)).trans (by simp)
        have p3 : w2.cell? ⟨wr.heap.size, 3, none⟩ = some (.int .i64 u3) := (hb2.cell (p := ⟨wr.heap.size, 3, none⟩) (by simp)).trans (by simp)
        have p4 : w2.cell? ⟨wr.heap.size, 4, none⟩ = some (.int .i64 u4) := (hb2.cell (p := ⟨wr.heap.size, 4, none⟩) (by simp)).trans (by simp)
        have p5 : w2.cell? ⟨wr.heap.size, 5, none⟩ = some (.int .i64 u5) := (hb2.cell (p := ⟨wr.heap.size, 5, none⟩) (by simp)).trans (by simp)
        have e0 := hb2.cell (p := ⟨gb', off' + k * 6, none⟩) (by simp; omega) |>.trans (alloc_cell d0 (.cells #[.int .i64 u0, .int .i64 u1, .int .i64 u2, .int .i64 u3, .int .i64 u4, .int .i64 u5] 113))
        have e1 := hb2.cell (p := ⟨gb', off' + k * 6 + 1, none⟩) (by simp; omega) |>.trans (alloc_cell d1 (.cells #[.int .i64 u0, .int .i64 u1, .int .i64 u2, .int .i64 u3, .int .i64 u4, .int .i64 u5] 113))
        have e2 := hb2.cell (p := ⟨gb', off' + k * 6 + 2, none⟩) (by simp; omega) |>.trans (alloc_cell d2 (.cells #[.int .i64 u0, .int .i64 u1, .int .i64 u2, .int .i64 u3, .int .i64 u4, .int .i64 u5] 113))
        have e3 := hb2.cell (p := ⟨gb', off' + k * 6 + 3, none⟩) (by simp; omega) |>.trans (alloc_cell d3 (.cells #[.int .i64 u0, .int .i64 u1, .int .i64 u2, .int .i64 u3, .int .i64 u4, .int .i64 u5] 113))
        have e4 := hb2.cell (p := ⟨gb', off' + k * 6 + 4, none⟩) (by simp; omega) |>.trans (alloc_cell d4 (.cells #[.int .i64 u0, .int .i64 u1, .int .i64 u2, .int .i64 u3, .int .i64 u4, .int .i64 u5] 113))
        have e5 := hb2.cell (p := ⟨gb', off' + k * 6 + 5, none⟩) (by simp; omega) |>.trans (alloc_cell d5 (.cells #[.int .i64 u0, .int .i64 u1, .int .i64 u2, .int .i64 u3, .int .i64 u4, .int .i64 u5] 113))
        have HM2 := Lib.hid ((HM1.out.keep hb2).keep (bel_alloc (Below.refl _ w2) (.cells #[.int .i64 u0, .int .i64 u1, .int .i64 u2, .int .i64 u3, .int .i64 u4, .int .i64 u5] 35)))
        have HB2 := Lib.hid (bel_alloc (HB1.out.trans (hb2.mono HB1.out.size)) (.cells #[.int .i64 u0, .int .i64 u1, .int .i64 u2, .int .i64 u3, .int .i64 u4, .int .i64 u5] 35))
        have HR2 := Lib.hid ((HR1.out.below hb2).below (bel_alloc (Below.refl _ w2) (.cells #[.int .i64 u0, .int .i64 u1, .int .i64 u2, .int .i64 u3, .int .i64 u4, .int .i64 u5] 35)))
        have hYl := block_lt_of_cell p0
        have hgl := block_lt_of_cell e0
        simp only at hYl hgl
        generalize wr.heap.size = Y at p0 p1 p2 p3 p4 p5 hYl ⊢
        clear hb2 HUN HM1 HB1 HR1 c0 c1 c2 c3 c4 c5 d0 d1 d2 d3 d4 d5
        go_upto_region 8 with (fail)
        have HM3 := Lib.hid (HM2.out.keep (w' := (w2.alloc (.cells #[.int .i64 u0, .int .i64 u1, .int .i64 u2, .int .i64 u3, .int .i64 u4, .int .i64 u5] 35)).drew) (Below.refl _ (w2.alloc (.cells #[.int .i64 u0, .int .i64 u1, .int .i64 u2, .int .i64 u3, .int .i64 u4, .int .i64 u5] 35))).drew)
        have HB3 := Lib.hid HB2.out.drew
        have HR3 := Lib.hid (show UnRow (w2.alloc (.cells #[.int .i64 u0, .int .i64 u1, .int .i64 u2, .int .i64 u3, .int .i64 u4, .int .i64 u5] 35)).drew (some ⟨gb', off', none⟩) us from HR2.out)
        have S1 : (w2.alloc (.cells #[.int .i64 u0, .int .i64 u1, .int .i64 u2, .int .i64 u3, .int .i64 u4, .int .i64 u5] 35)).cell? ⟨Y, 0, none⟩ = some (.int .i64 u0) ∧ (w2.alloc (.cells #[.int .i64 u0, .int .i64 u1, .int .i64 u2, .int .i64 u3, .int .i64 u4, .int .i64 u5] 35)).cell? ⟨Y, 1, none⟩ = some (.int .i64 u1) ∧ (w2.alloc (.cells #[.int .i64 u0, .int .i64 u1, .int .i64 u2, .int .i64 u3, .int .i64 u4, .int .i64 u5] 35)).cell? ⟨Y, 2, none⟩ = some (.int .i64 u2) ∧ (w2.alloc (.cells #[.int .i64 u0, .int .i64 u1, .int .i64 u2, .int .i64 u3, .int .i64 u4, .int .i64 u5] 35)).cell? ⟨Y, 3, none⟩ = some (.int .i64 u3) ∧ (w2.alloc (.cells #[.int .i64 u0, .int .i64 u1, .int .i64 u2, .int .i64 u3, .int .i64 u4, .int .i64 u5] 35)).cell? ⟨Y, 4, none⟩ = some (.int .i64 u4) ∧ (w2.alloc (.cells #[.int .i64 u0, .int .i64 u1, .int .i64 u2, .int .i64 u3, .int .i64 u4, .int .i64 u5] 35)).cell? ⟨Y, 5, none⟩ = some (.int .i64 u5) := ⟨alloc_cell p0 _, alloc_cell p1 _, alloc_cell p2 _, alloc_cell p3 _, alloc_cell p4 _, alloc_cell p5 _⟩
        have S2 : (w2.alloc (.cells #[.int .i64 u0, .int .i64 u1, .int .i64 u2, .int .i64 u3, .int .i64 u4, .int .i64 u5] 35)).cell? ⟨gb', off' + k * 6, none⟩ = some (.int .i64 u0) ∧ (w2.alloc (.cells #[.int .i64 u0, .int .i64 u1, .int .i64 u2, .int .i64 u3, .int .i64 u4, .int .i64 u5] 35)).cell? ⟨gb', off' + k * 6 + 1, none⟩ = some (.int .i64 u1) ∧ (w2.alloc (.cells #[.int .i64 u0, .int .i64 u1, .int .i64 u2, .int .i64 u3, .int .i64 u4, .int .i64 u5] 35)).cell? ⟨gb', off' + k * 6 + 2, none⟩ = some (.int .i64 u2) ∧ (w2.alloc (.cells #[.int .i64 u0, .int .i64 u1, .int .i64 u2, .int .i64 u3, .int .i64 u4, .int .i64 u5] 35)).cell? ⟨gb', off' + k * 6 + 3, none⟩ = some (.int .i64 u3) ∧ (w2.alloc (.cells #[.int .i64 u0, .int .i64 u1, .int .i64 u2, .int .i64 u3, .int .i64 u4, .int .i64 u5] 35)).cell? ⟨gb', off' + k * 6 + 4, none⟩ = some (.int .i64 u4) ∧ (w2.alloc (.cells #[.int .i64 u0, .int .i64 u1, .int .i64 u2, .int .i64 u3, .int .i64 u4, .int .i64 u5] 35)).cell? ⟨gb', off' + k * 6 + 5, none⟩ = some (.int .i64 u5) := ⟨alloc_cell e0 _, alloc_cell e1 _, alloc_cell e2 _, alloc_cell e3 _, alloc_cell e4 _, alloc_cell e5 _⟩
        have S3 : (w2.alloc (.cells #[.int .i64 u0, .int .i64 u1, .int .i64 u2, .int .i64 u3, .int .i64 u4, .int .i64 u5] 35)).cell? ⟨w2.heap.size, 0, none⟩ = some (.int .i64 u0) ∧ (w2.alloc (.cells #[.int .i64 u0, .int .i64 u1, .int .i64 u2, .int .i64 u3, .int .i64 u4, .int .i64 u5] 35)).cell? ⟨w2.heap.size, 1, none⟩ = some (.int .i64 u1) ∧ (w2.alloc (.cells #[.int .i64 u0, .int .i64 u1, .int .i64 u2, .int .i64 u3, .int .i64 u4, .int .i64 u5] 35)).cell? ⟨w2.heap.size, 2, none⟩ = some (.int .i64 u2) ∧ (w2.alloc (.cells #[.int .i64 u0, .int .i64 u1, .int .i64 u2, .int .i64 u3, .int .i64 u4, .int .i64 u5] 35)).cell? ⟨w2.heap.size, 3, none⟩ = some (.int .i64 u3) ∧ (w2.alloc (.cells #[.int .i64 u0, .int .i64 u1, .int .i64 u2, .int .i64 u3, .int .i64 u4, .int .i64 u5] 35)).cell? ⟨w2.heap.size, 4, none⟩ = some (.int .i64 u4) ∧ (w2.alloc (.cells #[.int .i64 u0, .int .i64 u1, .int .i64 u2, .int .i64 u3, .int .i64 u4, .int .i64 u5] 35)).cell? ⟨w2.heap.size, 5, none⟩ = some (.int .i64 u5) := ⟨by simp, by simp, by simp, by simp, by simp, by simp⟩
        clear p0 p1 p2 p3 p4 p5 e0 e1 e2 e3 e4 e5 HM2 HB2 HR2
        generalize w2.alloc (.cells #[.int .i64 u0, .int .i64 u1, .int .i64 u2, .int .i64 u3, .int .i64 u4, .int .i64 u5] 35) = W3 at S1 S2 S3 HM3 HB3 HR3 ⊢
        generalize w2.heap.size = Z at S3 ⊢
        go_region_held3 (fun w' => (w'.cell? ⟨Y, 0, none⟩ = some (.int .i64 u0) ∧ w'.cell? ⟨Y, 1, none⟩ = some (.int .i64 u1) ∧ w'.cell? ⟨Y, 2, none⟩ = some (.int .i64 u2) ∧ w'.cell? ⟨Y, 3, none⟩ = some (.int .i64 u3) ∧ w'.cell? ⟨Y, 4, none⟩ = some (.int .i64 u4) ∧ w'.cell? ⟨Y, 5, none⟩ = some (.int .i64 u5)) ∧ (w'.cell? ⟨gb', off' + k * 6, none⟩ = some (.int .i64 u0) ∧ w'.cell? ⟨gb', off' + k * 6 + 1, none⟩ = some (.int .i64 u1) ∧ w'.cell? ⟨gb', off' + k * 6 + 2, none⟩ = some (.int .i64 u2) ∧ w'.cell? ⟨gb', off' + k * 6 + 3, none⟩ = some (.int .i64 u3) ∧ w'.cell? ⟨gb', off' + k * 6 + 4, none⟩ = some (.int .i64 u4) ∧ w'.cell? ⟨gb', off' + k * 6 + 5, none⟩ = some (.int .i64 u5)) ∧ (w'.cell? ⟨Z, 0, none⟩ = some (.int .i64 u0) ∧ w'.cell? ⟨Z, 1, none⟩ = some (.int .i64 u1) ∧ w'.cell? ⟨Z, 2, none⟩ = some (.int .i64 u2) ∧ w'.cell? ⟨Z, 3, none⟩ = some (.int .i64 u3) ∧ w'.cell? ⟨Z, 4, none⟩ = some (.int .i64 u4) ∧ w'.cell? ⟨Z, 5, none⟩ = some (.int .i64 u5)))
          (first | assumption | exact ⟨S1, S2, S3⟩)
          (first | (go_at_call 61; refine (HNH.out _ HM3.out).mono ?_; rintro e wK ⟨rfl, rfl⟩))
        all_goals
          go_wp2
          go_roundw
          case rel => exact ⟨k + 1, by omega, by go_num, HM3, HB3, HR3⟩
          case measure => simp [intOf]; omega
      · obtain rfl : k = n := by omega
        go_wp2
        go_ret
        exact ⟨rfl, HB.out⟩
end Go.Proofs.Ytdkokfpbmmjfkaa
namespace Go.Proofs.Ytdkokfpbmmjfkaa
open Go.RowKit
set_option linter.unusedVariables false

theorem info9 : (Try.prog.info? 9).map (fun i => (i.zero, i.size, i.bytes)) = some (some (.string .empty), 1, 16) := by kernel_rfl
/-- WHAT THE ROW's READING SAYS OF A LIST OF TEXTS THAT CAME IN. -/
def IsStrs (w : World) (a : Option Addr) (len cap : Nat) (zs : List ByteArray) : Prop :=
  (a = none ∧ len = 0 ∧ cap = 0 ∧ zs = []) ∨ ∃ x, a = some x ∧ len ≤ cap ∧ cap ≤ maxLen ∧ zs.length = cap ∧ (∀ i, i < zs.length → w.cell? (x.add i) = some (.string (zs.getD i ByteArray.empty))) ∧ (∀ s ∈ zs, s.size ≤ maxLen)
theorem IsStrs.row {w : World} {a : Option Addr} {len cap : Nat} {zs : List ByteArray} (h : IsStrs w a len cap zs) : ∃ ss : List ByteArray, ss.length = len ∧ StrRow w a ss := by
  rcases h with ⟨rfl, rfl, rfl, rfl⟩ | ⟨x, rfl, hl, hm, hz, hcell, hw⟩
  · exact ⟨[], rfl, by simp [maxLen], fun i h => by simp at h, fun h => by simp at h⟩
  · have hlen : (zs.take len).length = len := by simp; omega
    refine ⟨zs.take len, hlen, by omega, fun i hi => ?_, fun h0 => ?_⟩
    · exact hw _ (List.mem_of_mem_take (List.getElem_mem hi))
    · obtain ⟨b, off, spot⟩ := x
      have h0' := hcell 0 (by omega)
      have hspot : spot = none := by simpa [Addr.add] using World.cell?_spot h0'
      subst hspot
      refine ⟨b, off, rfl, fun i hi => ?_⟩
      have hi' : i < zs.length := by omega
      have := hcell i hi'
      rw [List.getD_eq_getElem?_getD, List.getElem?_eq_getElem hi'] at this
      rw [List.getElem_take]
      cases i <;> simpa [Addr.add] using this

def fewL (ss : List ByteArray) (n m : Nat) : List ByteArray := (ss.take n).map (cutB · m)
theorem fewL_succ (ss : List ByteArray) (k m : Nat) (h : k < ss.length) : fewL ss (k + 1) m = fewL ss k m ++ [cutB ss[k] m] := by
  unfold fewL; rw [List.take_succ_eq_append_getElem h, List.map_append]; rfl
theorem fewL_length (ss : List ByteArray) (k m : Nat) (h : k ≤ ss.length) : (fewL ss k m).length = k := by
  unfold fewL; simp; omega
theorem bls_append (l m : List ByteArray) : bls (l ++ m) = bls l ++ bls m := by unfold bls; simp
/-- WHAT 'Few' LEAVES: a list of its own of the texts, and all of them. -/
def FewPost (w : World) (few : List ByteArray) (e : Ending) (w' : World) : Prop :=
  ∃ (a : Option Addr) (cap : Nat) (A : ByteArray), e = .returned (.tuple #[.slice a few.length cap, .string A]) ∧ A.data.toList = (bls few).flatten ∧ A.size ≤ maxLen ∧ StrRow w' a few ∧ Below w.heap.size w w'

theorem owns_row {w : World} {base : Nat} {v : Value} {few : List ByteArray} (h : w.ownsRow base 9 1 v few.length (few.map Value.string)) (hs : ∀ (i : Nat) (h : i < few.length), few[i].size ≤ maxLen) (hl : few.length ≤ maxLen) :
    ∃ a cap, v = .slice a few.length cap ∧ StrRow w a few := by
  rcases h.2 with ⟨hv, h0⟩ | ⟨g, cap, cur, hv, hg, hb, hn, hm, hsz, ht⟩
  · exact ⟨none, 0, by rw [hv, h0], hl, hs, fun h => by omega⟩
  · refine ⟨some ⟨g, 0, none⟩, cap, hv, hl, hs, fun _ => ⟨g, 0, rfl, fun i hi => ?_⟩⟩
    have hc := h.cells (g := g) (by rw [hv]; rfl) i (.string few[i]) (by simp [hi])
    cases i <;> simpa [Addr.add] using hc
theorem fewL_sizes (ss : List ByteArray) (n m : Nat) (hm : m ≤ 1000) : ∀ (i : Nat) (h : i < (fewL ss n m).length), (fewL ss n m)[i].size ≤ maxLen := by
  intro i h
  unfold fewL at h ⊢
  rw [List.getElem_map]
  exact cutB_le' _ _ (by omega)
theorem fewL_end (ss : List ByteArray) (k n m : Nat) (hk : k ≤ ss.length) (hn : k ≤ n) (h : ¬ (k < ss.length ∧ k < n)) : fewL ss n m = fewL ss k m := by
  by_cases h1 : k = n
  · rw [h1]
  · have : k = ss.length := by omega
    unfold fewL
    rw [List.take_of_length_le (by omega), List.take_of_length_le (by omega)]

theorem few_post {w wr : World} {ss : List ByteArray} {k n m : Nat} {v : Value} {A : ByteArray} (hm : m ≤ 1000) (hk : k ≤ 1000) (HE : fewL ss n m = fewL ss k m) (HL : (fewL ss k m).length = k)
    (HA : A.data.toList = (bls (fewL ss k m)).flatten) (hA : A.size ≤ 1000 * k) (HO : wr.ownsRow w.heap.size 9 1 v k ((fewL ss k m).map Value.string)) (hb : Below w.heap.size w wr) :
    FewPost w (fewL ss n m) (.returned (.tuple #[v, .string A])) wr := by
  rw [HE]
  obtain ⟨a, cap, hv, hr⟩ := owns_row (few := fewL ss k m) (by rw [HL]; exact HO) (fewL_sizes ss k m hm) (by rw [HL]; unfold maxLen; omega)
  exact ⟨a, cap, A, by rw [hv], HA, by unfold maxLen; omega, hr, hb⟩

end Go.Proofs.Ytdkokfpbmmjfkaa
namespace Go.Proofs.Ytdkokfpbmmjfkaa
open Go.RowKit
set_option linter.unusedVariables false

theorem both_mem {w3 w4 : World} {B : Nat} {us : List Un} {g : Int} {K : Nat → Prop} {a : Option Addr} {c : Nat} (hq : TabQ K B us g w3) (hb : Below w3.heap.size w3 w4) (hr : RT w4 a c us) (ha : ∀ x, a = some x → w3.heap.size ≤ x.block) (hl : ∀ x, a = some x → x.block < w4.heap.size) : DoMem K B us g a c w4 := by
  refine ⟨(hq.grow (N := fun k => a.map (·.block) = some k) hb (fun k hk => ?_)).sub (fun k hk => hk), hr⟩
  cases a with
  | none => simp at hk
  | some x => simp at hk; subst hk; exact ⟨ha x rfl, hl x rfl⟩
theorem keep4c {W w' : World} (hb : Below W.heap.size W w') {p q r t : Addr} {x y z u : Value} (h : (W.cell? p = some x ∧ W.cell? q = some y) ∧ (W.cell? r = some z ∧ W.cell? t = some u)) : (w'.cell? p = some x ∧ w'.cell? q = some y) ∧ (w'.cell? r = some z ∧ w'.cell? t = some u) :=
  ⟨⟨(hb.cell (block_lt_of_cell h.1.1)).trans h.1.1, (hb.cell (block_lt_of_cell h.1.2)).trans h.1.2⟩, (hb.cell (block_lt_of_cell h.2.1)).trans h.2.1, (hb.cell (block_lt_of_cell h.2.2)).trans h.2.2⟩
set_option maxRecDepth 100000 in
set_option maxHeartbeats 1000000 in
theorem unitReads_walk (w : World) (a0 : ByteArray) (w0 : a0.size ≤ maxLen) :
    Calls Try.prog 4 #[.string a0] w fun e w' => e = .returned (.bool true) ∧ Below w.heap.size w w' := by
  have HAW := Lib.hid (fun W => awake8_any W)
  go_enter Try.func4, Try.ntmps4
  go_wp2_with fail
  refine (cut_any a0 400 _ w0 (by decide)).mono ?_
  rintro e w' ⟨rfl, rfl⟩
  have hs := cutB_le a0 400
  generalize cutB a0 400 = s at hs ⊢
  go_wp2_with fail
  refine (open_any s _ (by omega)).mono ?_
  rintro r w2 ⟨rfl, hi2, hb2⟩
  have HRD := Lib.hid (tabRead_any w.heap.size _ w2 hi2)
  have HRR := Lib.hid (fun W => refTabRead_any (s.data.toList, 0) W ⟨fun h => absurd rfl h, by simpa using (show s.size ≤ 1000000000 by omega)⟩)
  have hlt2 := hi2.lt
  have HB2 := Lib.hid hb2
  have hb2s : w.heap.size ≤ w2.heap.size := hb2.size
  have HSP := Lib.hid (tabC.spell s.data.toList)
  clear hi2 hb2
  generalize tabS (s.data.toList, 0) = res at HRD HRR HSP
  obtain ⟨⟨l, e⟩, us, g⟩ := res
  simp only at HRR HSP
  rw [show bs s.data.toList = s from by simp [bs]] at HRR
  go_wp2_with fail
  refine HRD.out.mono ?_
  rintro r w3 ⟨hi3, hcase⟩
  simp only at hi3 hcase
  have HI3 := Lib.hid hi3
  have HBW3 := Lib.hid (HB2.out.trans (hi3.2.below hb2s (fun k hk e => by omega)))
  rcases hcase with ⟨he, B, rfl, hq⟩ | ⟨he, rfl⟩
  · subst he
    obtain rfl : s = bs (tabB us g) ++ bs l := by
      have h := HSP.out rfl
      rw [bs_append, ← h]; simp [bs]
    have HSZ := Lib.hid (show (bs (tabB us g)).size + (bs l).size = (bs (tabB us g) ++ bs l).size by simp)
    clear HSP
    have HQ3 := Lib.hid hq
    clear hq hi3 HRD
    go_wp2_with fail
    refine (HRR.out _).mono ?_
    rintro r w4 ⟨a, len, c, rfl, hb4, hx⟩
    obtain ⟨rfl, hrt, ha⟩ := hx rfl
    simp only at hrt ha
    have HM4 := Lib.hid (both_mem HQ3.out hb4 hrt (fun x hx => (ha x hx).1) (fun x hx => (ha x hx).2))
    have HI4 := Lib.hid (HI3.out.1.below hb4)
    have HB4 := Lib.hid (HBW3.out.trans (hb4.mono HBW3.out.size))
    simp only
    clear hb4 hrt ha hx HRR HQ3 HI3 HBW3
    generalize hul : us.length = un
    have HUL := Lib.hid hul
    clear hul
    go_wp2_with fail
    have HM5 := Lib.hid ((HM4.out.keep (bel_alloc (Below.refl _ _) (.cells #[.string (bs l), .int .i64 0] 46))).keep (bel_alloc (Below.refl _ _) (.cells #[.slice a un c, .int .i64 (g + 1)] 28)))
    have HI5 := Lib.hid ((HI4.out.alloc (.cells #[.string (bs l), .int .i64 0] 46)).alloc (.cells #[.slice a un c, .int .i64 (g + 1)] 28))
    have HB5 := Lib.hid (bel_alloc (bel_alloc HB4.out (.cells #[.string (bs l), .int .i64 0] 46)) (.cells #[.slice a un c, .int .i64 (g + 1)] 28))
    have hz4 : (w4.alloc (.cells #[.string (bs l), .int .i64 0] 46)).heap.size = w4.heap.size + 1 := by simp
    have x0 : ((w4.alloc (.cells #[.string (bs l), .int .i64 0] 46)).alloc (.cells #[.slice a un c, .int .i64 (g + 1)] 28)).cell? ⟨w4.heap.size, 0, none⟩ = some (.string (bs l)) := alloc_cell (new_cell rfl rfl) _
    have x1 : ((w4.alloc (.cells #[.string (bs l), .int .i64 0] 46)).alloc (.cells #[.slice a un c, .int .i64 (g + 1)] 28)).cell? ⟨w4.heap.size, 1, none⟩ = some (.int .i64 0) := alloc_cell (new_cell rfl rfl) _
    have y0 : ((w4.alloc (.cells #[.string (bs l), .int .i64 0] 46)).alloc (.cells #[.slice a un c, .int .i64 (g + 1)] 28)).cell? ⟨w4.heap.size + 1, 0, none⟩ = some (.slice a un c) := (cell_new _ _ hz4 _ _ _).trans rfl
    have y1 : ((w4.alloc (.cells #[.string (bs l), .int .i64 0] 46)).alloc (.cells #[.slice a un c, .int .i64 (g + 1)] 28)).cell? ⟨w4.heap.size + 1, 1, none⟩ = some (.int .i64 (g + 1)) := (cell_new _ _ hz4 _ _ _).trans rfl
    generalize (w4.alloc (.cells #[.string (bs l), .int .i64 0] 46)).alloc (.cells #[.slice a un c, .int .i64 (g + 1)] 28) = W5 at HM5 HI5 HB5 x0 x1 y0 y1 ⊢
    generalize w4.heap.size = X at x0 x1 y0 y1 ⊢
    have hXl := block_lt_of_cell x0
    have hYl := block_lt_of_cell y0
    simp only at hXl hYl
    have HMc := Lib.hid (HM5.out.keep (w' := W5.drew) (Below.refl _ W5).drew)
    have HIc := Lib.hid (HI5.out.below (w' := W5.drew) (Below.refl _ W5).drew)
    have HBc := Lib.hid HB5.out.drew
    clear HM4 HI4 HB4 HM5 HI5 HB5 hz4
    go_region_held3 (fun w' => (w'.cell? ⟨X, 0, none⟩ = some (.string (bs l)) ∧ w'.cell? ⟨X, 1, none⟩ = some (.int .i64 0)) ∧ (w'.cell? ⟨X + 1, 0, none⟩ = some (.slice a un c) ∧ w'.cell? ⟨X + 1, 1, none⟩ = some (.int .i64 (g + 1))))
      (first | (refine keep4c hbK ?_; assumption) | assumption | exact ⟨⟨x0, x1⟩, y0, y1⟩)
      (first
        | (go_at_call 11; refine (HAW.out _).mono ?_; rintro e wK ⟨rfl, hbK⟩; have HMc := Lib.hid (HMc.out.keep hbK); have HIc := Lib.hid (HIc.out.below hbK); have HBc := Lib.hid (HBc.out.trans (hbK.mono HBc.out.size)))
        | (go_at_call 21; refine (err_any _ l 0 _ HIc.out).mono ?_; rintro e wE ⟨rfl, rfl⟩))
    all_goals
      have hS : (wK.cell? ⟨X, 0, none⟩ = some (.string (bs l)) ∧ wK.cell? ⟨X, 1, none⟩ = some (.int .i64 0)) ∧ (wK.cell? ⟨X + 1, 0, none⟩ = some (.slice a un c) ∧ wK.cell? ⟨X + 1, 1, none⟩ = some (.int .i64 (g + 1))) := by assumption
      have HMk := Lib.hid HMc.out
      have HIk := Lib.hid HIc.out
      have HBk := Lib.hid HBc.out
      obtain ⟨⟨x0, x1⟩, y0, y1⟩ := hS
      clear HAW
      go_upto_region 7 with (fail)
      generalize wK = W6 at HMk HIk HBk x0 x1 y0 y1 ⊢
      have hXl := block_lt_of_cell x0
      have hYl := block_lt_of_cell y0
      simp only at hXl hYl
      have hz := bs_size l
      have hsz : (bs (tabB us g)).size + (bs l).size ≤ 400 := by rw [HSZ.out]; exact hs
      have v1 : ∀ W, (Op.stringOp .add (bs (tabB us g)) (bs l)).run Try.prog W = .ok (.string (bs (tabB us g) ++ bs l)) W := fun W => run_string_add_sum W _ _ (by omega)
      have HIS := Lib.hid (fun W hh => is_any (fun k => k < w2.heap.size) B us g a c W hh)
      have HTX := Lib.hid (fun W (hh : DoMem (fun k => k < w2.heap.size) B us g a c W) => tabText_any B us g W hh.tab)
      rw [HUL.out] at HIS
      have HMd := Lib.hid (HMk.out.keep (w' := W6.drew) (Below.refl _ W6).drew)
      have HId := Lib.hid (HIk.out.below (w' := W6.drew) (Below.refl _ W6).drew)
      have HBd := Lib.hid HBk.out.drew
      clear HMk HIk HBk hsz HSZ hs
      generalize bs (tabB us g) = T at v1 HTX ⊢
      go_region_held3 (fun w' => (w'.cell? ⟨X, 0, none⟩ = some (.string (bs l)) ∧ w'.cell? ⟨X, 1, none⟩ = some (.int .i64 0)) ∧ (w'.cell? ⟨X + 1, 0, none⟩ = some (.slice a un c) ∧ w'.cell? ⟨X + 1, 1, none⟩ = some (.int .i64 (g + 1))))
        (first | (refine keep4c hbL ?_; assumption) | assumption | exact ⟨⟨x0, x1⟩, y0, y1⟩)
        (first
          | (go_at_call 15; refine (HIS.out _ HMd.out).mono ?_; rintro e wL ⟨rfl, hbL⟩; have HMd := Lib.hid (HMd.out.keep hbL); have HId := Lib.hid (HId.out.below hbL); have HBd := Lib.hid (HBd.out.trans (hbL.mono HBd.out.size)))
          | (go_at_call 23; refine (HTX.out _ HMd.out).mono ?_; rintro e wL ⟨rfl, hbL⟩; have HMd := Lib.hid (HMd.out.keep hbL); have HId := Lib.hid (HId.out.below hbL); have HBd := Lib.hid (HBd.out.trans (hbL.mono HBd.out.size)))
          | (go_at_call 22; refine (len_any _ l 0 _ HId.out).mono ?_; rintro e wE ⟨rfl, rfl⟩))
      all_goals
        have HBz := Lib.hid HBd.out
        go_wp2
        go_ret
        exact ⟨rfl, HBz.out⟩
  · have heb : ((e : Int) == 0) = false := by simp; omega
    have heb2 : ((e : Int) != 0) = true := by simp; omega
    have HNE := Lib.hid he
    clear he hi3 HRD
    go_wp2_with fail
    refine (HRR.out _).mono ?_
    rintro r w4 ⟨a, len, c, rfl, hb4, -⟩
    have HI4 := Lib.hid (HI3.out.1.below hb4)
    have HB4 := Lib.hid (HBW3.out.trans (hb4.mono HBW3.out.size))
    simp only
    clear hb4 HRR HI3 HBW3
    go_wp2_with fail
    have HI5 := Lib.hid ((HI4.out.alloc (.cells #[.string (bs l), .int .i64 (e : Nat)] 46)).alloc (.cells #[.slice a len c, .int .i64 (g + 1)] 28))
    have HB5 := Lib.hid (bel_alloc (bel_alloc HB4.out (.cells #[.string (bs l), .int .i64 (e : Nat)] 46)) (.cells #[.slice a len c, .int .i64 (g + 1)] 28))
    have x0 : ((w4.alloc (.cells #[.string (bs l), .int .i64 (e : Nat)] 46)).alloc (.cells #[.slice a len c, .int .i64 (g + 1)] 28)).cell? ⟨w4.heap.size, 0, none⟩ = some (.string (bs l)) := alloc_cell (new_cell rfl rfl) _
    have x1 : ((w4.alloc (.cells #[.string (bs l), .int .i64 (e : Nat)] 46)).alloc (.cells #[.slice a len c, .int .i64 (g + 1)] 28)).cell? ⟨w4.heap.size, 1, none⟩ = some (.int .i64 (e : Nat)) := alloc_cell (new_cell rfl rfl) _
    generalize (w4.alloc (.cells #[.string (bs l), .int .i64 (e : Nat)] 46)).alloc (.cells #[.slice a len c, .int .i64 (g + 1)] 28) = W5 at HI5 HB5 x0 x1 ⊢
    generalize w4.heap.size = X at x0 x1 ⊢
    have hXl := block_lt_of_cell x0
    simp only at hXl
    have HIc := Lib.hid (HI5.out.below (w' := W5.drew) (Below.refl _ W5).drew)
    have HBc := Lib.hid HB5.out.drew
    clear HI4 HB4 HI5 HB5
    go_region_held3 (fun w' => w'.cell? ⟨X, 0, none⟩ = some (.string (bs l)) ∧ w'.cell? ⟨X, 1, none⟩ = some (.int .i64 (e : Nat)))
      (first | (refine keep2c hbK ?_; assumption) | assumption | exact ⟨x0, x1⟩)
      (first
        | (go_at_call 11; refine (HAW.out _).mono ?_; rintro e wK ⟨rfl, hbK⟩; have HIc := Lib.hid (HIc.out.below hbK); have HBc := Lib.hid (HBc.out.trans (hbK.mono HBc.out.size)))
        | (go_at_call 21; refine (err_any _ l e _ HIc.out).mono ?_; rintro e wE ⟨rfl, rfl⟩))
    all_goals
      have hS : wK.cell? ⟨X, 0, none⟩ = some (.string (bs l)) ∧ wK.cell? ⟨X, 1, none⟩ = some (.int .i64 (e : Nat)) := by assumption
      have HBk := Lib.hid HBc.out
      obtain ⟨x0, x1⟩ := hS
      clear HAW
      go_upto_region 7 with (fail)
      generalize wK = W6 at HBk x0 x1 ⊢
      have hXl := block_lt_of_cell x0
      simp only at hXl
      go_quiet (fail)
      have HBz : Hid (Below w.heap.size w (W6.drewN nq)) := Lib.hid ⟨HBk.out.os, HBk.out.tape, HBk.out.output, HBk.out.size, HBk.out.block⟩
      go_wp2
      go_ret
      exact ⟨rfl, HBz.out⟩
end Go.Proofs.Ytdkokfpbmmjfkaa
namespace Go.Proofs.Ytdkokfpbmmjfkaa
open Go.RowKit
set_option linter.unusedVariables false

theorem rem_run (q n : Nat) (hn : n ≤ 64) (h0 : ¬ n = 0) (hq : q ≤ 255) (W : World) : (binOp .rem 3 (.int .i64 q) (.int .i64 n)).run Try.prog W = .ok (.int .i64 ((q % n : Nat) : Int)) W := by
  have m3 : (q : Int).tmod (n : Int) = ((q % n : Nat) : Int) := by rw [Int.tmod_eq_emod_of_nonneg (by omega)]; exact (Int.natCast_emod _ _).symm
  have hlt : q % n < n := Nat.mod_lt _ (by omega)
  have m5 : IntKind.i64.wrap ((q % n : Nat) : Int) = ((q % n : Nat) : Int) := by rw [IntKind.wrap_i64]; omega
  have m4 : ((n : Int) == 0) = false := by simp; omega
  have m6 : ¬ (n : Int) = 0 := by omega
  go_simp
def DoesPost (K0 : Nat → Prop) (b : Nat) (a : Option Addr) (w : World) (r : Ending) (w' : World) : Prop := ∃ us' g' a' c', r = .returned (.tuple #[.agg #[.slice a' us'.length c', .int .i64 (g' + 1)], .bool true]) ∧ DoMem K0 b us' g' a' c' w' ∧ Touch (fun k => ¬ K0 k) w w' ∧ (a' = a ∨ ∀ x, a' = some x → w.heap.size ≤ x.block)
/-- The boxes of Does: the document's table, the call, the answer. -/
structure DBox (B : Nat) (a : Option Addr) (n c : Nat) (nx : Int) (v : List Int) (W : World) : Prop where
  t0 : W.cell? ⟨B, 0, none⟩ = some (.slice a n c)
  t1 : W.cell? ⟨B, 1, none⟩ = some (.int .i64 nx)
  s : ∀ j, j < 7 → W.cell? ⟨B + 1, j, none⟩ = some (.int .i64 (v.getD j 0))
  r0 : W.cell? ⟨B + 2, 0, none⟩ = some (.slice none 0 0)
  r1 : W.cell? ⟨B + 2, 1, none⟩ = some (.int .i64 0)
  z0 : W.frozen? ⟨B + 2, 0, none⟩ = false
  z1 : W.frozen? ⟨B + 2, 1, none⟩ = false
theorem DBox.touch {S : Nat → Prop} {B : Nat} {a : Option Addr} {n c : Nat} {nx : Int} {v : List Int} {W W' : World} (h : DBox B a n c nx v W) (ht : Touch S W W') (hS : ∀ k, B ≤ k → k < B + 3 → ¬ S k) : DBox B a n c nx v W' := by
  have n0 := hS B (by omega) (by omega)
  have n1 := hS (B + 1) (by omega) (by omega)
  have n2 := hS (B + 2) (by omega) (by omega)
  exact ⟨(ht.cell (p := ⟨B, 0, none⟩) (block_lt_of_cell h.t0) n0).trans h.t0, (ht.cell (p := ⟨B, 1, none⟩) (block_lt_of_cell h.t1) n0).trans h.t1, fun j hj => (ht.cell (p := ⟨B + 1, j, none⟩) (block_lt_of_cell (h.s j hj)) n1).trans (h.s j hj), (ht.cell (p := ⟨B + 2, 0, none⟩) (block_lt_of_cell h.r0) n2).trans h.r0, (ht.cell (p := ⟨B + 2, 1, none⟩) (block_lt_of_cell h.r1) n2).trans h.r1,
    (ht.frozen (p := ⟨B + 2, 0, none⟩) (block_lt_of_cell h.r0) n2).trans h.z0, (ht.frozen (p := ⟨B + 2, 1, none⟩) (block_lt_of_cell h.r1) n2).trans h.z1⟩
theorem DBox.below {B : Nat} {a : Option Addr} {n c : Nat} {nx : Int} {v : List Int} {W W' : World} (h : DBox B a n c nx v W) (hb : Below W.heap.size W W') : DBox B a n c nx v W' := h.touch (touch_of_below (S := fun _ => False) hb) (fun _ _ _ => id)
theorem dbox_new (w : World) (a : Option Addr) (n c : Nat) (nx ak an af aa ab ax ay : Int) : DBox w.heap.size a n c nx [ak, an, af, aa, ab, ax, ay] (((w.alloc (.cells #[.slice a n c, .int .i64 nx] 28)).alloc (.cells #[.int .i64 ak, .int .i64 an, .int .i64 af, .int .i64 aa, .int .i64 ab, .int .i64 ax, .int .i64 ay] 32)).alloc (.cells #[.slice none 0 0, .int .i64 0] 28)) := by
  refine ⟨by repeat' (first | exact new_cell (by first | rfl | (simp; done)) rfl | with_reducible refine alloc_cell ?_ _), by repeat' (first | exact new_cell (by first | rfl | (simp; done)) rfl | with_reducible refine alloc_cell ?_ _), fun j hj => ?_, by repeat' (first | exact new_cell (by first | rfl | (simp; done)) rfl | with_reducible refine alloc_cell ?_ _), by repeat' (first | exact new_cell (by first | rfl | (simp; done)) rfl | with_reducible refine alloc_cell ?_ _), ?_, ?_⟩
  · refine alloc_cell (new_cell (by simp) ?_) _
    have : j = 0 ∨ j = 1 ∨ j = 2 ∨ j = 3 ∨ j = 4 ∨ j = 5 ∨ j = 6 := by omega
    rcases this with rfl | rfl | rfl | rfl | rfl | rfl | rfl <;> rfl
  · rw [show w.heap.size + 2 = ((w.alloc (.cells #[.slice a n c, .int .i64 nx] 28)).alloc (.cells #[.int .i64 ak, .int .i64 an, .int .i64 af, .int .i64 aa, .int .i64 ab, .int .i64 ax, .int .i64 ay] 32)).heap.size by simp]; exact frozen_new _ _ _ _
  · rw [show w.heap.size + 2 = ((w.alloc (.cells #[.slice a n c, .int .i64 nx] 28)).alloc (.cells #[.int .i64 ak, .int .i64 an, .int .i64 af, .int .i64 aa, .int .i64 ab, .int .i64 ax, .int .i64 ay] 32)).heap.size by simp]; exact frozen_new _ _ _ _
set_option maxRecDepth 100000 in
set_option maxHeartbeats 4000000 in
theorem does_1 (K0 : Nat → Prop) (b : Nat) (us : List Un) (g : Int) (a : Option Addr) (c : Nat) (w : World) (an af aa ab ax ay : Int) (h : DoMem K0 b us g a c w) :
    Calls Try.prog 13 #[.pointer (some ⟨b, 0, none⟩), .agg #[.slice a us.length c, .int .i64 (g + 1)], .agg #[.int .i64 1, .int .i64 an, .int .i64 af, .int .i64 aa, .int .i64 ab, .int .i64 ax, .int .i64 ay]] w (DoesPost K0 b a w) := by
  have hA3 : Below w.heap.size w (((w.alloc (.cells #[.slice a us.length c, .int .i64 (g + 1)] 28)).alloc (.cells #[.int .i64 1, .int .i64 an, .int .i64 af, .int .i64 aa, .int .i64 ab, .int .i64 ax, .int .i64 ay] 32)).alloc (.cells #[.slice none 0 0, .int .i64 0] 28)) := bel_alloc (bel_alloc (bel_alloc (Below.refl _ _) _) _) _
  have HQ3 := Lib.hid (show TabQ (KB K0 a w.heap.size) b us g (((w.alloc (.cells #[.slice a us.length c, .int .i64 (g + 1)] 28)).alloc (.cells #[.int .i64 1, .int .i64 an, .int .i64 af, .int .i64 aa, .int .i64 ab, .int .i64 ax, .int .i64 ay] 32)).alloc (.cells #[.slice none 0 0, .int .i64 0] 28)) from h.tab.grow (N := fun k => w.heap.size ≤ k ∧ k < w.heap.size + 3) hA3 (fun k hk => ⟨hk.1, by simp; omega⟩))
  have HD3 := Lib.hid (dbox_new w a us.length c (g + 1) 1 an af aa ab ax ay)
  have HB3 := Lib.hid (show Touch (fun k => ¬ K0 k) w (((w.alloc (.cells #[.slice a us.length c, .int .i64 (g + 1)] 28)).alloc (.cells #[.int .i64 1, .int .i64 an, .int .i64 af, .int .i64 aa, .int .i64 ab, .int .i64 ax, .int .i64 ay] 32)).alloc (.cells #[.slice none 0 0, .int .i64 0] 28)) from touch_of_below hA3)
  have HR3 := Lib.hid (h.rt.below hA3)
  have HAB := Lib.hid (show ∀ x, a = some x → x.block < w.heap.size from fun x hx => h.tab.2.1 _ (.inr (by rw [hx]; rfl)))
  have HW0 := Lib.hid (show ∀ k, K0 k → k < w.heap.size from fun k hk => h.tab.2.1 k (.inl hk))
  have h64 := h.tab.ok.1
  have hc1 := h.rt.len
  have hc2 := h.rt.cap
  unfold maxLen at hc2
  have HOK := Lib.hid h.tab.ok
  have HBO := Lib.hid (fun (idv : Int) => spawn_both (K := KB K0 a w.heap.size) b us g aa ab ax ay HOK.out)
  generalize hpost : DoesPost K0 b a w = Post
  have HPOST := Lib.hid hpost
  clear hA3 h hpost
  generalize hn : us.length = n at HQ3 HD3 HB3 HR3 h64 hc1 ⊢
  have HN := Lib.hid hn
  clear hn
  by_cases h0 : n = 0
  · subst h0
    obtain ⟨us', g', z, hk1, hk2⟩ := HBO.out 0
    have hn := HN.out
    simp only [hn] at hk2
    clear hn
    have HK1 := Lib.hid hk1
    have HK2 := Lib.hid hk2
    have hself : (z == z) = true := by simp
    clear hk1 hk2 HBO
    go_enter Try.func13, Try.ntmps13
    go_wp2_with fail
    refine (HK1.out _ HQ3.out).mono ?_
    rintro r w2 ⟨rfl, hq2, ht2⟩
    have HQ2 := Lib.hid hq2
    have HD2 := Lib.hid (HD3.out.touch ht2 (fun k h1 h2 hn => hn (.inr ⟨h1, h2⟩)))
    have HB2 := Lib.hid (HB3.out.trans (ht2.mono fun k _ h1 h2 => h1 (.inl (.inl h2))))
    have HR2 := Lib.hid (show RT w2 a c us from ⟨HR3.out.row.touch ht2 (fun x hx hn => hn (.inl (.inr (by rw [hx]; rfl)))), HR3.out.nil, HR3.out.len, HR3.out.cap⟩)
    clear hq2 ht2 HK1
    have t0 := HD2.out.t0
    have t1 := HD2.out.t1
    have s2 := HD2.out.s 2 (by decide)
    have s3 := HD2.out.s 3 (by decide)
    have s4 := HD2.out.s 4 (by decide)
    have s5 := HD2.out.s 5 (by decide)
    have s6 := HD2.out.s 6 (by decide)
    simp only [List.getD_cons_succ, List.getD_cons_zero] at s2 s3 s4 s5 s6
    have b0 := block_lt_of_cell t0
    have b1 := block_lt_of_cell s2
    simp only at b0 b1
    go_wp2_with fail
    refine (HK2.out w2 a c HR2.out).mono ?_
    rintro r w3 ⟨a5, c5, rfl, p2, p3, p4, p5, p6, p7⟩
    have HD4 := Lib.hid (HD2.out.below p7)
    have HFIN := Lib.hid (fun x0 x1 o => does_fin HQ2.out p2 p3 p4 p5 p6 p7 HB2.out HW0.out HAB.out x0 x1 o)
    have r0 := HD4.out.r0
    have r1 := HD4.out.r1
    have z0 := HD4.out.z0
    have z1 := HD4.out.z1
    have b2 := block_lt_of_cell r0
    simp only at b2
    have HFR0 := Lib.hid (fun x y o => alloc_cell (set2_same0 (x := x) (y := y) r0) o)
    have HFR1 := Lib.hid (fun x y o => alloc_cell (set2_same1 (x := x) (y := y) r1) o)
    clear p2 p3 p4 p5 p6 p7 HK2 HD2 HQ2 HR2 t0 t1 s2 s3 s4 s5 s6
    go_wp2
    have fr0 := HFR0.out (.slice a5 us'.length c5) (.int .i64 (g' + 1)) (.cells #[.slice a5 us'.length c5, .int .i64 (g' + 1)] 28)
    have fr1 := HFR1.out (.slice a5 us'.length c5) (.int .i64 (g' + 1)) (.cells #[.slice a5 us'.length c5, .int .i64 (g' + 1)] 28)
    have hfin := HFIN.out (.slice a5 us'.length c5) (.int .i64 (g' + 1)) (.cells #[.slice a5 us'.length c5, .int .i64 (g' + 1)] 28)
    rw [← HPOST.out]
    exact bodyPost_ret (v := .tuple #[.agg #[.slice a5 us'.length c5, .int .i64 (g' + 1)], .bool true]) (by simp [results, Try.results13, go_sem, fr0, fr1]) rfl ⟨us', g', a5, c5, rfl, hfin.1, hfin.2.1, hfin.2.2.imp id (fun h x hx => Nat.le_trans HB2.out.size (h x hx))⟩
  · have d0 : decide ((0 : Int) < (n : Int)) = true := by simp; omega
    obtain ⟨q5, hq5, eq5⟩ := andM an 255 255 rfl (by decide)
    have hmod : q5 % n < n := Nat.mod_lt _ (by omega)
    obtain ⟨gb, off, rfl, hgb, e0, -⟩ := HR3.out.row.at (i := q5 % n) (by rw [HN.out]; exact hmod)
    generalize us[q5 % n]'(by rw [HN.out]; exact hmod) = uu at e0
    generalize uu.id = idv at e0
    obtain ⟨us', g', z, hk1, hk2⟩ := HBO.out 0
    have hn := HN.out
    simp only [hn] at hk2
    clear hn
    have HK1 := Lib.hid hk1
    have HK2 := Lib.hid hk2
    have hself : (z == z) = true := by simp
    clear hk1 hk2 HBO
    go_enter Try.func13, Try.ntmps13
    have m1 : (0 : Int) ≤ ((q5 % n : Nat) : Int) := by omega
    have m2 : ((q5 % n : Nat) : Int) < (n : Int) := by omega
    have hrem := rem_run q5 n h64 h0 hq5
    have hmE : (q5 : Int) % (n : Int) = ((q5 % n : Nat) : Int) := (Int.natCast_emod _ _).symm
    have hmT : (q5 : Int).tmod (n : Int) = ((q5 % n : Nat) : Int) := by rw [Int.tmod_eq_emod_of_nonneg (by omega)]; exact hmE
    generalize q5 % n = m5 at hrem e0 m1 m2 hmod hmE hmT
    go_upto_region 3 with (fail)
    have t0 := HD3.out.t0
    have s1 := HD3.out.s 1 (by decide)
    simp only [List.getD_cons_succ, List.getD_cons_zero] at s1
    generalize ((w.alloc (.cells #[.slice (some ⟨gb, off, none⟩) n c, .int .i64 (g + 1)] 28)).alloc (.cells #[.int .i64 1, .int .i64 an, .int .i64 af, .int .i64 aa, .int .i64 ab, .int .i64 ax, .int .i64 ay] 32)).alloc (.cells #[.slice none 0 0, .int .i64 0] 28) = Wq at HQ3 HD3 HB3 HR3 e0 t0 s1 hgb ⊢
    go_quiet (fail)
    clear hrem m1 m2 e0 t0 s1 eq5 hmE hmT
    have HQ3 : Hid (TabQ (KB K0 (some ⟨gb, off, none⟩) w.heap.size) b us g (Wq.drewN nq)) := Lib.hid (HQ3.out.below ⟨rfl, rfl, rfl, Nat.le_refl _, fun _ _ => rfl⟩)
    have HD3 : Hid (DBox w.heap.size (some ⟨gb, off, none⟩) n c (g + 1) [1, an, af, aa, ab, ax, ay] (Wq.drewN nq)) := Lib.hid (HD3.out.below ⟨rfl, rfl, rfl, Nat.le_refl _, fun _ _ => rfl⟩)
    have HB3 : Hid (Touch (fun k => ¬ K0 k) w (Wq.drewN nq)) := Lib.hid ⟨HB3.out.os, HB3.out.tape, HB3.out.output, HB3.out.size, HB3.out.block⟩
    have HR3 : Hid (RT (Wq.drewN nq) (some ⟨gb, off, none⟩) c us) := Lib.hid (HR3.out.below ⟨rfl, rfl, rfl, Nat.le_refl _, fun _ _ => rfl⟩)
    generalize Wq.drewN nq = Wp at HQ3 HD3 HB3 HR3 ⊢
    have s0 := HD3.out.s 0 (by decide)
    have s2 := HD3.out.s 2 (by decide)
    have s3 := HD3.out.s 3 (by decide)
    have s4 := HD3.out.s 4 (by decide)
    have s5 := HD3.out.s 5 (by decide)
    have s6 := HD3.out.s 6 (by decide)
    simp only [List.getD_cons_succ, List.getD_cons_zero] at s0 s2 s3 s4 s5 s6
    have t0 := HD3.out.t0
    have r0 := HD3.out.r0
    have hs1 := block_lt_of_cell s2
    have ht0 := block_lt_of_cell t0
    have hr0 := block_lt_of_cell r0
    simp only at hs1 ht0 hr0
    go_wp2_with fail
    clear s0 s2 s3 s4 s5 s6 t0 r0 hs1 ht0 hr0
    refine (HK1.out _ HQ3.out).mono ?_
    rintro r w2 ⟨rfl, hq2, ht2⟩
    have HQ2 := Lib.hid hq2
    have HD2 := Lib.hid (HD3.out.touch ht2 (fun k h1 h2 hn => hn (.inr ⟨h1, h2⟩)))
    have HB2 := Lib.hid (HB3.out.trans (ht2.mono fun k _ h1 h2 => h1 (.inl (.inl h2))))
    have HR2 := Lib.hid (show RT w2 (some ⟨gb, off, none⟩) c us from ⟨HR3.out.row.touch ht2 (fun x hx hn => hn (.inl (.inr (by cases hx; rfl)))), HR3.out.nil, HR3.out.len, HR3.out.cap⟩)
    clear hq2 ht2 HK1
    have t0 := HD2.out.t0
    have t1 := HD2.out.t1
    have s2 := HD2.out.s 2 (by decide)
    have s3 := HD2.out.s 3 (by decide)
    have s4 := HD2.out.s 4 (by decide)
    have s5 := HD2.out.s 5 (by decide)
    have s6 := HD2.out.s 6 (by decide)
    simp only [List.getD_cons_succ, List.getD_cons_zero] at s2 s3 s4 s5 s6
    have b0 := block_lt_of_cell t0
    have b1 := block_lt_of_cell s2
    simp only at b0 b1
    go_wp2_with fail
    refine (HK2.out w2 _ c HR2.out).mono ?_
    rintro r w3 ⟨a5, c5, rfl, p2, p3, p4, p5, p6, p7⟩
    have HD4 := Lib.hid (HD2.out.below p7)
    have HFIN := Lib.hid (fun x0 x1 o => does_fin HQ2.out p2 p3 p4 p5 p6 p7 HB2.out HW0.out HAB.out x0 x1 o)
    have r0 := HD4.out.r0
    have r1 := HD4.out.r1
    have z0 := HD4.out.z0
    have z1 := HD4.out.z1
    have b2 := block_lt_of_cell r0
    simp only at b2
    have HFR0 := Lib.hid (fun x y o => alloc_cell (set2_same0 (x := x) (y := y) r0) o)
    have HFR1 := Lib.hid (fun x y o => alloc_cell (set2_same1 (x := x) (y := y) r1) o)
    clear p2 p3 p4 p5 p6 p7 HK2 HD2 HQ2 HR2 t0 t1 s2 s3 s4 s5 s6
    go_wp2
    have fr0 := HFR0.out (.slice a5 us'.length c5) (.int .i64 (g' + 1)) (.cells #[.slice a5 us'.length c5, .int .i64 (g' + 1)] 28)
    have fr1 := HFR1.out (.slice a5 us'.length c5) (.int .i64 (g' + 1)) (.cells #[.slice a5 us'.length c5, .int .i64 (g' + 1)] 28)
    have hfin := HFIN.out (.slice a5 us'.length c5) (.int .i64 (g' + 1)) (.cells #[.slice a5 us'.length c5, .int .i64 (g' + 1)] 28)
    rw [← HPOST.out]
    exact bodyPost_ret (v := .tuple #[.agg #[.slice a5 us'.length c5, .int .i64 (g' + 1)], .bool true]) (by simp [results, Try.results13, go_sem, fr0, fr1]) rfl ⟨us', g', a5, c5, rfl, hfin.1, hfin.2.1, hfin.2.2.imp id (fun h x hx => Nat.le_trans HB2.out.size (h x hx))⟩
set_option maxRecDepth 100000 in
set_option maxHeartbeats 4000000 in
theorem does_2 (K0 : Nat → Prop) (b : Nat) (us : List Un) (g : Int) (a : Option Addr) (c : Nat) (w : World) (an af aa ab ax ay : Int) (h : DoMem K0 b us g a c w) :
    Calls Try.prog 13 #[.pointer (some ⟨b, 0, none⟩), .agg #[.slice a us.length c, .int .i64 (g + 1)], .agg #[.int .i64 2, .int .i64 an, .int .i64 af, .int .i64 aa, .int .i64 ab, .int .i64 ax, .int .i64 ay]] w (DoesPost K0 b a w) := by
  have hA3 : Below w.heap.size w (((w.alloc (.cells #[.slice a us.length c, .int .i64 (g + 1)] 28)).alloc (.cells #[.int .i64 2, .int .i64 an, .int .i64 af, .int .i64 aa, .int .i64 ab, .int .i64 ax, .int .i64 ay] 32)).alloc (.cells #[.slice none 0 0, .int .i64 0] 28)) := bel_alloc (bel_alloc (bel_alloc (Below.refl _ _) _) _) _
  have HQ3 := Lib.hid (show TabQ (KB K0 a w.heap.size) b us g (((w.alloc (.cells #[.slice a us.length c, .int .i64 (g + 1)] 28)).alloc (.cells #[.int .i64 2, .int .i64 an, .int .i64 af, .int .i64 aa, .int .i64 ab, .int .i64 ax, .int .i64 ay] 32)).alloc (.cells #[.slice none 0 0, .int .i64 0] 28)) from h.tab.grow (N := fun k => w.heap.size ≤ k ∧ k < w.heap.size + 3) hA3 (fun k hk => ⟨hk.1, by simp; omega⟩))
  have HD3 := Lib.hid (dbox_new w a us.length c (g + 1) 2 an af aa ab ax ay)
  have HB3 := Lib.hid (show Touch (fun k => ¬ K0 k) w (((w.alloc (.cells #[.slice a us.length c, .int .i64 (g + 1)] 28)).alloc (.cells #[.int .i64 2, .int .i64 an, .int .i64 af, .int .i64 aa, .int .i64 ab, .int .i64 ax, .int .i64 ay] 32)).alloc (.cells #[.slice none 0 0, .int .i64 0] 28)) from touch_of_below hA3)
  have HR3 := Lib.hid (h.rt.below hA3)
  have HAB := Lib.hid (show ∀ x, a = some x → x.block < w.heap.size from fun x hx => h.tab.2.1 _ (.inr (by rw [hx]; rfl)))
  have HW0 := Lib.hid (show ∀ k, K0 k → k < w.heap.size from fun k hk => h.tab.2.1 k (.inl hk))
  have h64 := h.tab.ok.1
  have hc1 := h.rt.len
  have hc2 := h.rt.cap
  unfold maxLen at hc2
  have HOK := Lib.hid h.tab.ok
  have HBO := Lib.hid (fun (idv : Int) => kill_both (K := KB K0 a w.heap.size) b us g idv HOK.out)
  generalize hpost : DoesPost K0 b a w = Post
  have HPOST := Lib.hid hpost
  clear hA3 h hpost
  generalize hn : us.length = n at HQ3 HD3 HB3 HR3 h64 hc1 ⊢
  have HN := Lib.hid hn
  clear hn
  by_cases h0 : n = 0
  · subst h0
    obtain ⟨us', q, hk1, hk2⟩ := HBO.out ay
    have hn := HN.out
    simp only [hn] at hk2
    clear hn
    have HK1 := Lib.hid hk1
    have HK2 := Lib.hid hk2
    have hself : (q == q) = true := by simp
    clear hk1 hk2 HBO
    go_enter Try.func13, Try.ntmps13
    go_wp2_with fail
    refine (HK1.out _ HQ3.out).mono ?_
    rintro r w2 ⟨rfl, hq2, ht2⟩
    have HQ2 := Lib.hid hq2
    have HD2 := Lib.hid (HD3.out.touch ht2 (fun k h1 h2 hn => hn (.inr ⟨h1, h2⟩)))
    have HB2 := Lib.hid (HB3.out.trans (ht2.mono fun k _ h1 h2 => h1 (.inl (.inl h2))))
    have HR2 := Lib.hid (show RT w2 a c us from ⟨HR3.out.row.touch ht2 (fun x hx hn => hn (.inl (.inr (by rw [hx]; rfl)))), HR3.out.nil, HR3.out.len, HR3.out.cap⟩)
    clear hq2 ht2 HK1
    have t0 := HD2.out.t0
    have t1 := HD2.out.t1
    have s2 := HD2.out.s 2 (by decide)
    have s3 := HD2.out.s 3 (by decide)
    have s4 := HD2.out.s 4 (by decide)
    have s5 := HD2.out.s 5 (by decide)
    have s6 := HD2.out.s 6 (by decide)
    simp only [List.getD_cons_succ, List.getD_cons_zero] at s2 s3 s4 s5 s6
    have b0 := block_lt_of_cell t0
    have b1 := block_lt_of_cell s2
    simp only at b0 b1
    go_wp2_with fail
    refine (HK2.out w2 a c HR2.out).mono ?_
    rintro r w3 ⟨a5, c5, rfl, p2, p3, p4, p5, p6, p7⟩
    have HD4 := Lib.hid (HD2.out.below p7)
    have HFIN := Lib.hid (fun x0 x1 o => does_fin HQ2.out p2 p3 p4 p5 p6 p7 HB2.out HW0.out HAB.out x0 x1 o)
    have r0 := HD4.out.r0
    have r1 := HD4.out.r1
    have z0 := HD4.out.z0
    have z1 := HD4.out.z1
    have b2 := block_lt_of_cell r0
    simp only at b2
    have HFR0 := Lib.hid (fun x y o => alloc_cell (set2_same0 (x := x) (y := y) r0) o)
    have HFR1 := Lib.hid (fun x y o => alloc_cell (set2_same1 (x := x) (y := y) r1) o)
    clear p2 p3 p4 p5 p6 p7 HK2 HD2 HQ2 HR2 t0 t1 s2 s3 s4 s5 s6
    go_wp2
    have fr0 := HFR0.out (.slice a5 us'.length c5) (.int .i64 (g + 1)) (.cells #[.slice a5 us'.length c5, .int .i64 (g + 1)] 28)
    have fr1 := HFR1.out (.slice a5 us'.length c5) (.int .i64 (g + 1)) (.cells #[.slice a5 us'.length c5, .int .i64 (g + 1)] 28)
    have hfin := HFIN.out (.slice a5 us'.length c5) (.int .i64 (g + 1)) (.cells #[.slice a5 us'.length c5, .int .i64 (g + 1)] 28)
    rw [← HPOST.out]
    exact bodyPost_ret (v := .tuple #[.agg #[.slice a5 us'.length c5, .int .i64 (g + 1)], .bool true]) (by simp [results, Try.results13, go_sem, fr0, fr1]) rfl ⟨us', g, a5, c5, rfl, hfin.1, hfin.2.1, hfin.2.2.imp id (fun h x hx => Nat.le_trans HB2.out.size (h x hx))⟩
  · have d0 : decide ((0 : Int) < (n : Int)) = true := by simp; omega
    obtain ⟨q5, hq5, eq5⟩ := andM an 255 255 rfl (by decide)
    have hmod : q5 % n < n := Nat.mod_lt _ (by omega)
    obtain ⟨gb, off, rfl, hgb, e0, -⟩ := HR3.out.row.at (i := q5 % n) (by rw [HN.out]; exact hmod)
    generalize us[q5 % n]'(by rw [HN.out]; exact hmod) = uu at e0
    generalize uu.id = idv at e0
    obtain ⟨us', q, hk1, hk2⟩ := HBO.out idv
    have hn := HN.out
    simp only [hn] at hk2
    clear hn
    have HK1 := Lib.hid hk1
    have HK2 := Lib.hid hk2
    have hself : (q == q) = true := by simp
    clear hk1 hk2 HBO
    go_enter Try.func13, Try.ntmps13
    have m1 : (0 : Int) ≤ ((q5 % n : Nat) : Int) := by omega
    have m2 : ((q5 % n : Nat) : Int) < (n : Int) := by omega
    have hrem := rem_run q5 n h64 h0 hq5
    have hmE : (q5 : Int) % (n : Int) = ((q5 % n : Nat) : Int) := (Int.natCast_emod _ _).symm
    have hmT : (q5 : Int).tmod (n : Int) = ((q5 % n : Nat) : Int) := by rw [Int.tmod_eq_emod_of_nonneg (by omega)]; exact hmE
    generalize q5 % n = m5 at hrem e0 m1 m2 hmod hmE hmT
    go_upto_region 3 with (fail)
    have t0 := HD3.out.t0
    have s1 := HD3.out.s 1 (by decide)
    simp only [List.getD_cons_succ, List.getD_cons_zero] at s1
    generalize ((w.alloc (.cells #[.slice (some ⟨gb, off, none⟩) n c, .int .i64 (g + 1)] 28)).alloc (.cells #[.int .i64 2, .int .i64 an, .int .i64 af, .int .i64 aa, .int .i64 ab, .int .i64 ax, .int .i64 ay] 32)).alloc (.cells #[.slice none 0 0, .int .i64 0] 28) = Wq at HQ3 HD3 HB3 HR3 e0 t0 s1 hgb ⊢
    go_quiet (fail)
    clear hrem m1 m2 e0 t0 s1 eq5 hmE hmT
    have HQ3 : Hid (TabQ (KB K0 (some ⟨gb, off, none⟩) w.heap.size) b us g (Wq.drewN nq)) := Lib.hid (HQ3.out.below ⟨rfl, rfl, rfl, Nat.le_refl _, fun _ _ => rfl⟩)
    have HD3 : Hid (DBox w.heap.size (some ⟨gb, off, none⟩) n c (g + 1) [2, an, af, aa, ab, ax, ay] (Wq.drewN nq)) := Lib.hid (HD3.out.below ⟨rfl, rfl, rfl, Nat.le_refl _, fun _ _ => rfl⟩)
    have HB3 : Hid (Touch (fun k => ¬ K0 k) w (Wq.drewN nq)) := Lib.hid ⟨HB3.out.os, HB3.out.tape, HB3.out.output, HB3.out.size, HB3.out.block⟩
    have HR3 : Hid (RT (Wq.drewN nq) (some ⟨gb, off, none⟩) c us) := Lib.hid (HR3.out.below ⟨rfl, rfl, rfl, Nat.le_refl _, fun _ _ => rfl⟩)
    generalize Wq.drewN nq = Wp at HQ3 HD3 HB3 HR3 ⊢
    have s0 := HD3.out.s 0 (by decide)
    have s2 := HD3.out.s 2 (by decide)
    have s3 := HD3.out.s 3 (by decide)
    have s4 := HD3.out.s 4 (by decide)
    have s5 := HD3.out.s 5 (by decide)
    have s6 := HD3.out.s 6 (by decide)
    simp only [List.getD_cons_succ, List.getD_cons_zero] at s0 s2 s3 s4 s5 s6
    have t0 := HD3.out.t0
    have r0 := HD3.out.r0
    have hs1 := block_lt_of_cell s2
    have ht0 := block_lt_of_cell t0
    have hr0 := block_lt_of_cell r0
    simp only at hs1 ht0 hr0
    go_wp2_with fail
    clear s0 s2 s3 s4 s5 s6 t0 r0 hs1 ht0 hr0
    refine (HK1.out _ HQ3.out).mono ?_
    rintro r w2 ⟨rfl, hq2, ht2⟩
    have HQ2 := Lib.hid hq2
    have HD2 := Lib.hid (HD3.out.touch ht2 (fun k h1 h2 hn => hn (.inr ⟨h1, h2⟩)))
    have HB2 := Lib.hid (HB3.out.trans (ht2.mono fun k _ h1 h2 => h1 (.inl (.inl h2))))
    have HR2 := Lib.hid (show RT w2 (some ⟨gb, off, none⟩) c us from ⟨HR3.out.row.touch ht2 (fun x hx hn => hn (.inl (.inr (by cases hx; rfl)))), HR3.out.nil, HR3.out.len, HR3.out.cap⟩)
    clear hq2 ht2 HK1
    have t0 := HD2.out.t0
    have t1 := HD2.out.t1
    have s2 := HD2.out.s 2 (by decide)
    have s3 := HD2.out.s 3 (by decide)
    have s4 := HD2.out.s 4 (by decide)
    have s5 := HD2.out.s 5 (by decide)
    have s6 := HD2.out.s 6 (by decide)
    simp only [List.getD_cons_succ, List.getD_cons_zero] at s2 s3 s4 s5 s6
    have b0 := block_lt_of_cell t0
    have b1 := block_lt_of_cell s2
    simp only at b0 b1
    go_wp2_with fail
    refine (HK2.out w2 _ c HR2.out).mono ?_
    rintro r w3 ⟨a5, c5, rfl, p2, p3, p4, p5, p6, p7⟩
    have HD4 := Lib.hid (HD2.out.below p7)
    have HFIN := Lib.hid (fun x0 x1 o => does_fin HQ2.out p2 p3 p4 p5 p6 p7 HB2.out HW0.out HAB.out x0 x1 o)
    have r0 := HD4.out.r0
    have r1 := HD4.out.r1
    have z0 := HD4.out.z0
    have z1 := HD4.out.z1
    have b2 := block_lt_of_cell r0
    simp only at b2
    have HFR0 := Lib.hid (fun x y o => alloc_cell (set2_same0 (x := x) (y := y) r0) o)
    have HFR1 := Lib.hid (fun x y o => alloc_cell (set2_same1 (x := x) (y := y) r1) o)
    clear p2 p3 p4 p5 p6 p7 HK2 HD2 HQ2 HR2 t0 t1 s2 s3 s4 s5 s6
    go_wp2
    have fr0 := HFR0.out (.slice a5 us'.length c5) (.int .i64 (g + 1)) (.cells #[.slice a5 us'.length c5, .int .i64 (g + 1)] 28)
    have fr1 := HFR1.out (.slice a5 us'.length c5) (.int .i64 (g + 1)) (.cells #[.slice a5 us'.length c5, .int .i64 (g + 1)] 28)
    have hfin := HFIN.out (.slice a5 us'.length c5) (.int .i64 (g + 1)) (.cells #[.slice a5 us'.length c5, .int .i64 (g + 1)] 28)
    rw [← HPOST.out]
    exact bodyPost_ret (v := .tuple #[.agg #[.slice a5 us'.length c5, .int .i64 (g + 1)], .bool true]) (by simp [results, Try.results13, go_sem, fr0, fr1]) rfl ⟨us', g, a5, c5, rfl, hfin.1, hfin.2.1, hfin.2.2.imp id (fun h x hx => Nat.le_trans HB2.out.size (h x hx))⟩
set_option maxRecDepth 100000 in
set_option maxHeartbeats 4000000 in
theorem does_3 (K0 : Nat → Prop) (b : Nat) (us : List Un) (g : Int) (a : Option Addr) (c : Nat) (w : World) (an af aa ab ax ay : Int) (h : DoMem K0 b us g a c w) :
    Calls Try.prog 13 #[.pointer (some ⟨b, 0, none⟩), .agg #[.slice a us.length c, .int .i64 (g + 1)], .agg #[.int .i64 3, .int .i64 an, .int .i64 af, .int .i64 aa, .int .i64 ab, .int .i64 ax, .int .i64 ay]] w (DoesPost K0 b a w) := by
  have hA3 : Below w.heap.size w (((w.alloc (.cells #[.slice a us.length c, .int .i64 (g + 1)] 28)).alloc (.cells #[.int .i64 3, .int .i64 an, .int .i64 af, .int .i64 aa, .int .i64 ab, .int .i64 ax, .int .i64 ay] 32)).alloc (.cells #[.slice none 0 0, .int .i64 0] 28)) := bel_alloc (bel_alloc (bel_alloc (Below.refl _ _) _) _) _
  have HQ3 := Lib.hid (show TabQ (KB K0 a w.heap.size) b us g (((w.alloc (.cells #[.slice a us.length c, .int .i64 (g + 1)] 28)).alloc (.cells #[.int .i64 3, .int .i64 an, .int .i64 af, .int .i64 aa, .int .i64 ab, .int .i64 ax, .int .i64 ay] 32)).alloc (.cells #[.slice none 0 0, .int .i64 0] 28)) from h.tab.grow (N := fun k => w.heap.size ≤ k ∧ k < w.heap.size + 3) hA3 (fun k hk => ⟨hk.1, by simp; omega⟩))
  have HD3 := Lib.hid (dbox_new w a us.length c (g + 1) 3 an af aa ab ax ay)
  have HB3 := Lib.hid (show Touch (fun k => ¬ K0 k) w (((w.alloc (.cells #[.slice a us.length c, .int .i64 (g + 1)] 28)).alloc (.cells #[.int .i64 3, .int .i64 an, .int .i64 af, .int .i64 aa, .int .i64 ab, .int .i64 ax, .int .i64 ay] 32)).alloc (.cells #[.slice none 0 0, .int .i64 0] 28)) from touch_of_below hA3)
  have HR3 := Lib.hid (h.rt.below hA3)
  have HAB := Lib.hid (show ∀ x, a = some x → x.block < w.heap.size from fun x hx => h.tab.2.1 _ (.inr (by rw [hx]; rfl)))
  have HW0 := Lib.hid (show ∀ k, K0 k → k < w.heap.size from fun k hk => h.tab.2.1 k (.inl hk))
  have h64 := h.tab.ok.1
  have hc1 := h.rt.len
  have hc2 := h.rt.cap
  unfold maxLen at hc2
  have HOK := Lib.hid h.tab.ok
  have HBO := Lib.hid (fun (idv : Int) => set_both (K := KB K0 a w.heap.size) b us g idv af ax HOK.out)
  generalize hpost : DoesPost K0 b a w = Post
  have HPOST := Lib.hid hpost
  clear hA3 h hpost
  generalize hn : us.length = n at HQ3 HD3 HB3 HR3 h64 hc1 ⊢
  have HN := Lib.hid hn
  clear hn
  by_cases h0 : n = 0
  · subst h0
    obtain ⟨us', q, hk1, hk2⟩ := HBO.out ay
    have hn := HN.out
    simp only [hn] at hk2
    clear hn
    have HK1 := Lib.hid hk1
    have HK2 := Lib.hid hk2
    have hself : (q == q) = true := by simp
    clear hk1 hk2 HBO
    go_enter Try.func13, Try.ntmps13
    go_wp2_with fail
    refine (HK1.out _ HQ3.out).mono ?_
    rintro r w2 ⟨rfl, hq2, ht2⟩
    have HQ2 := Lib.hid hq2
    have HD2 := Lib.hid (HD3.out.touch ht2 (fun k h1 h2 hn => hn (.inr ⟨h1, h2⟩)))
    have HB2 := Lib.hid (HB3.out.trans (ht2.mono fun k _ h1 h2 => h1 (.inl (.inl h2))))
    have HR2 := Lib.hid (show RT w2 a c us from ⟨HR3.out.row.touch ht2 (fun x hx hn => hn (.inl (.inr (by rw [hx]; rfl)))), HR3.out.nil, HR3.out.len, HR3.out.cap⟩)
    clear hq2 ht2 HK1
    have t0 := HD2.out.t0
    have t1 := HD2.out.t1
    have s2 := HD2.out.s 2 (by decide)
    have s3 := HD2.out.s 3 (by decide)
    have s4 := HD2.out.s 4 (by decide)
    have s5 := HD2.out.s 5 (by decide)
    have s6 := HD2.out.s 6 (by decide)
    simp only [List.getD_cons_succ, List.getD_cons_zero] at s2 s3 s4 s5 s6
    have b0 := block_lt_of_cell t0
    have b1 := block_lt_of_cell s2
    simp only at b0 b1
    go_wp2_with fail
    refine (HK2.out w2 a c HR2.out).mono ?_
    rintro r w3 ⟨a5, c5, rfl, p2, p3, p4, p5, p6, p7⟩
    have HD4 := Lib.hid (HD2.out.below p7)
    have HFIN := Lib.hid (fun x0 x1 o => does_fin HQ2.out p2 p3 p4 p5 p6 p7 HB2.out HW0.out HAB.out x0 x1 o)
    have r0 := HD4.out.r0
    have r1 := HD4.out.r1
    have z0 := HD4.out.z0
    have z1 := HD4.out.z1
    have b2 := block_lt_of_cell r0
    simp only at b2
    have HFR0 := Lib.hid (fun x y o => alloc_cell (set2_same0 (x := x) (y := y) r0) o)
    have HFR1 := Lib.hid (fun x y o => alloc_cell (set2_same1 (x := x) (y := y) r1) o)
    clear p2 p3 p4 p5 p6 p7 HK2 HD2 HQ2 HR2 t0 t1 s2 s3 s4 s5 s6
    go_wp2
    have fr0 := HFR0.out (.slice a5 us'.length c5) (.int .i64 (g + 1)) (.cells #[.slice a5 us'.length c5, .int .i64 (g + 1)] 28)
    have fr1 := HFR1.out (.slice a5 us'.length c5) (.int .i64 (g + 1)) (.cells #[.slice a5 us'.length c5, .int .i64 (g + 1)] 28)
    have hfin := HFIN.out (.slice a5 us'.length c5) (.int .i64 (g + 1)) (.cells #[.slice a5 us'.length c5, .int .i64 (g + 1)] 28)
    rw [← HPOST.out]
    exact bodyPost_ret (v := .tuple #[.agg #[.slice a5 us'.length c5, .int .i64 (g + 1)], .bool true]) (by simp [results, Try.results13, go_sem, fr0, fr1]) rfl ⟨us', g, a5, c5, rfl, hfin.1, hfin.2.1, hfin.2.2.imp id (fun h x hx => Nat.le_trans HB2.out.size (h x hx))⟩
  · have d0 : decide ((0 : Int) < (n : Int)) = true := by simp; omega
    obtain ⟨q5, hq5, eq5⟩ := andM an 255 255 rfl (by decide)
    have hmod : q5 % n < n := Nat.mod_lt _ (by omega)
    obtain ⟨gb, off, rfl, hgb, e0, -⟩ := HR3.out.row.at (i := q5 % n) (by rw [HN.out]; exact hmod)
    generalize us[q5 % n]'(by rw [HN.out]; exact hmod) = uu at e0
    generalize uu.id = idv at e0
    obtain ⟨us', q, hk1, hk2⟩ := HBO.out idv
    have hn := HN.out
    simp only [hn] at hk2
    clear hn
    have HK1 := Lib.hid hk1
    have HK2 := Lib.hid hk2
    have hself : (q == q) = true := by simp
    clear hk1 hk2 HBO
    go_enter Try.func13, Try.ntmps13
    have m1 : (0 : Int) ≤ ((q5 % n : Nat) : Int) := by omega
    have m2 : ((q5 % n : Nat) : Int) < (n : Int) := by omega
    have hrem := rem_run q5 n h64 h0 hq5
    have hmE : (q5 : Int) % (n : Int) = ((q5 % n : Nat) : Int) := (Int.natCast_emod _ _).symm
    have hmT : (q5 : Int).tmod (n : Int) = ((q5 % n : Nat) : Int) := by rw [Int.tmod_eq_emod_of_nonneg (by omega)]; exact hmE
    generalize q5 % n = m5 at hrem e0 m1 m2 hmod hmE hmT
    go_upto_region 3 with (fail)
    have t0 := HD3.out.t0
    have s1 := HD3.out.s 1 (by decide)
    simp only [List.getD_cons_succ, List.getD_cons_zero] at s1
    generalize ((w.alloc (.cells #[.slice (some ⟨gb, off, none⟩) n c, .int .i64 (g + 1)] 28)).alloc (.cells #[.int .i64 3, .int .i64 an, .int .i64 af, .int .i64 aa, .int .i64 ab, .int .i64 ax, .int .i64 ay] 32)).alloc (.cells #[.slice none 0 0, .int .i64 0] 28) = Wq at HQ3 HD3 HB3 HR3 e0 t0 s1 hgb ⊢
    go_quiet (fail)
    clear hrem m1 m2 e0 t0 s1 eq5 hmE hmT
    have HQ3 : Hid (TabQ (KB K0 (some ⟨gb, off, none⟩) w.heap.size) b us g (Wq.drewN nq)) := Lib.hid (HQ3.out.below ⟨rfl, rfl, rfl, Nat.le_refl _, fun _ _ => rfl⟩)
    have HD3 : Hid (DBox w.heap.size (some ⟨gb, off, none⟩) n c (g + 1) [3, an, af, aa, ab, ax, ay] (Wq.drewN nq)) := Lib.hid (HD3.out.below ⟨rfl, rfl, rfl, Nat.le_refl _, fun _ _ => rfl⟩)
    have HB3 : Hid (Touch (fun k => ¬ K0 k) w (Wq.drewN nq)) := Lib.hid ⟨HB3.out.os, HB3.out.tape, HB3.out.output, HB3.out.size, HB3.out.block⟩
    have HR3 : Hid (RT (Wq.drewN nq) (some ⟨gb, off, none⟩) c us) := Lib.hid (HR3.out.below ⟨rfl, rfl, rfl, Nat.le_refl _, fun _ _ => rfl⟩)
    generalize Wq.drewN nq = Wp at HQ3 HD3 HB3 HR3 ⊢
    have s0 := HD3.out.s 0 (by decide)
    have s2 := HD3.out.s 2 (by decide)
    have s3 := HD3.out.s 3 (by decide)
    have s4 := HD3.out.s 4 (by decide)
    have s5 := HD3.out.s 5 (by decide)
    have s6 := HD3.out.s 6 (by decide)
    simp only [List.getD_cons_succ, List.getD_cons_zero] at s0 s2 s3 s4 s5 s6
    have t0 := HD3.out.t0
    have r0 := HD3.out.r0
    have hs1 := block_lt_of_cell s2
    have ht0 := block_lt_of_cell t0
    have hr0 := block_lt_of_cell r0
    simp only at hs1 ht0 hr0
    go_wp2_with fail
    clear s0 s2 s3 s4 s5 s6 t0 r0 hs1 ht0 hr0
    refine (HK1.out _ HQ3.out).mono ?_
    rintro r w2 ⟨rfl, hq2, ht2⟩
    have HQ2 := Lib.hid hq2
    have HD2 := Lib.hid (HD3.out.touch ht2 (fun k h1 h2 hn => hn (.inr ⟨h1, h2⟩)))
    have HB2 := Lib.hid (HB3.out.trans (ht2.mono fun k _ h1 h2 => h1 (.inl (.inl h2))))
    have HR2 := Lib.hid (show RT w2 (some ⟨gb, off, none⟩) c us from ⟨HR3.out.row.touch ht2 (fun x hx hn => hn (.inl (.inr (by cases hx; rfl)))), HR3.out.nil, HR3.out.len, HR3.out.cap⟩)
    clear hq2 ht2 HK1
    have t0 := HD2.out.t0
    have t1 := HD2.out.t1
    have s2 := HD2.out.s 2 (by decide)
    have s3 := HD2.out.s 3 (by decide)
    have s4 := HD2.out.s 4 (by decide)
    have s5 := HD2.out.s 5 (by decide)
    have s6 := HD2.out.s 6 (by decide)
    simp only [List.getD_cons_succ, List.getD_cons_zero] at s2 s3 s4 s5 s6
    have b0 := block_lt_of_cell t0
    have b1 := block_lt_of_cell s2
    simp only at b0 b1
    go_wp2_with fail
    refine (HK2.out w2 _ c HR2.out).mono ?_
    rintro r w3 ⟨a5, c5, rfl, p2, p3, p4, p5, p6, p7⟩
    have HD4 := Lib.hid (HD2.out.below p7)
    have HFIN := Lib.hid (fun x0 x1 o => does_fin HQ2.out p2 p3 p4 p5 p6 p7 HB2.out HW0.out HAB.out x0 x1 o)
    have r0 := HD4.out.r0
    have r1 := HD4.out.r1
    have z0 := HD4.out.z0
    have z1 := HD4.out.z1
    have b2 := block_lt_of_cell r0
    simp only at b2
    have HFR0 := Lib.hid (fun x y o => alloc_cell (set2_same0 (x := x) (y := y) r0) o)
    have HFR1 := Lib.hid (fun x y o => alloc_cell (set2_same1 (x := x) (y := y) r1) o)
    clear p2 p3 p4 p5 p6 p7 HK2 HD2 HQ2 HR2 t0 t1 s2 s3 s4 s5 s6
    go_wp2
    have fr0 := HFR0.out (.slice a5 us'.length c5) (.int .i64 (g + 1)) (.cells #[.slice a5 us'.length c5, .int .i64 (g + 1)] 28)
    have fr1 := HFR1.out (.slice a5 us'.length c5) (.int .i64 (g + 1)) (.cells #[.slice a5 us'.length c5, .int .i64 (g + 1)] 28)
    have hfin := HFIN.out (.slice a5 us'.length c5) (.int .i64 (g + 1)) (.cells #[.slice a5 us'.length c5, .int .i64 (g + 1)] 28)
    rw [← HPOST.out]
    exact bodyPost_ret (v := .tuple #[.agg #[.slice a5 us'.length c5, .int .i64 (g + 1)], .bool true]) (by simp [results, Try.results13, go_sem, fr0, fr1]) rfl ⟨us', g, a5, c5, rfl, hfin.1, hfin.2.1, hfin.2.2.imp id (fun h x hx => Nat.le_trans HB2.out.size (h x hx))⟩
set_option maxRecDepth 100000 in
set_option maxHeartbeats 4000000 in
theorem does_4 (K0 : Nat → Prop) (b : Nat) (us : List Un) (g : Int) (a : Option Addr) (c : Nat) (w : World) (an af aa ab ax ay : Int) (h : DoMem K0 b us g a c w) :
    Calls Try.prog 13 #[.pointer (some ⟨b, 0, none⟩), .agg #[.slice a us.length c, .int .i64 (g + 1)], .agg #[.int .i64 4, .int .i64 an, .int .i64 af, .int .i64 aa, .int .i64 ab, .int .i64 ax, .int .i64 ay]] w (DoesPost K0 b a w) := by
  have hA3 : Below w.heap.size w (((w.alloc (.cells #[.slice a us.length c, .int .i64 (g + 1)] 28)).alloc (.cells #[.int .i64 4, .int .i64 an, .int .i64 af, .int .i64 aa, .int .i64 ab, .int .i64 ax, .int .i64 ay] 32)).alloc (.cells #[.slice none 0 0, .int .i64 0] 28)) := bel_alloc (bel_alloc (bel_alloc (Below.refl _ _) _) _) _
  have HQ3 := Lib.hid (show TabQ (KB K0 a w.heap.size) b us g (((w.alloc (.cells #[.slice a us.length c, .int .i64 (g + 1)] 28)).alloc (.cells #[.int .i64 4, .int .i64 an, .int .i64 af, .int .i64 aa, .int .i64 ab, .int .i64 ax, .int .i64 ay] 32)).alloc (.cells #[.slice none 0 0, .int .i64 0] 28)) from h.tab.grow (N := fun k => w.heap.size ≤ k ∧ k < w.heap.size + 3) hA3 (fun k hk => ⟨hk.1, by simp; omega⟩))
  have HD3 := Lib.hid (dbox_new w a us.length c (g + 1) 4 an af aa ab ax ay)
  have HB3 := Lib.hid (show Touch (fun k => ¬ K0 k) w (((w.alloc (.cells #[.slice a us.length c, .int .i64 (g + 1)] 28)).alloc (.cells #[.int .i64 4, .int .i64 an, .int .i64 af, .int .i64 aa, .int .i64 ab, .int .i64 ax, .int .i64 ay] 32)).alloc (.cells #[.slice none 0 0, .int .i64 0] 28)) from touch_of_below hA3)
  have HR3 := Lib.hid (h.rt.below hA3)
  have HAB := Lib.hid (show ∀ x, a = some x → x.block < w.heap.size from fun x hx => h.tab.2.1 _ (.inr (by rw [hx]; rfl)))
  have HW0 := Lib.hid (show ∀ k, K0 k → k < w.heap.size from fun k hk => h.tab.2.1 k (.inl hk))
  have h64 := h.tab.ok.1
  have hc1 := h.rt.len
  have hc2 := h.rt.cap
  unfold maxLen at hc2
  have HOK := Lib.hid h.tab.ok
  have HBO := Lib.hid (fun (idv : Int) => kill_both (K := KB K0 a w.heap.size) b us g idv HOK.out)
  generalize hpost : DoesPost K0 b a w = Post
  have HPOST := Lib.hid hpost
  clear hA3 h hpost
  generalize hn : us.length = n at HQ3 HD3 HB3 HR3 h64 hc1 ⊢
  have HN := Lib.hid hn
  clear hn
  by_cases h0 : n = 0
  · subst h0
    obtain ⟨us', q, hk1, hk2⟩ := HBO.out ax
    have hn := HN.out
    simp only [hn] at hk2
    clear hn
    have HK1 := Lib.hid hk1
    have HK2 := Lib.hid hk2
    have hself : (q == q) = true := by simp
    clear hk1 hk2 HBO
    go_enter Try.func13, Try.ntmps13
    go_wp2_with fail
    refine (HK1.out _ HQ3.out).mono ?_
    rintro r w2 ⟨rfl, hq2, ht2⟩
    have HQ2 := Lib.hid hq2
    have HD2 := Lib.hid (HD3.out.touch ht2 (fun k h1 h2 hn => hn (.inr ⟨h1, h2⟩)))
    have HB2 := Lib.hid (HB3.out.trans (ht2.mono fun k _ h1 h2 => h1 (.inl (.inl h2))))
    have HR2 := Lib.hid (show RT w2 a c us from ⟨HR3.out.row.touch ht2 (fun x hx hn => hn (.inl (.inr (by rw [hx]; rfl)))), HR3.out.nil, HR3.out.len, HR3.out.cap⟩)
    clear hq2 ht2 HK1
    have t0 := HD2.out.t0
    have t1 := HD2.out.t1
    have s2 := HD2.out.s 2 (by decide)
    have s3 := HD2.out.s 3 (by decide)
    have s4 := HD2.out.s 4 (by decide)
    have s5 := HD2.out.s 5 (by decide)
    have s6 := HD2.out.s 6 (by decide)
    simp only [List.getD_cons_succ, List.getD_cons_zero] at s2 s3 s4 s5 s6
    have b0 := block_lt_of_cell t0
    have b1 := block_lt_of_cell s2
    simp only at b0 b1
    go_wp2_with fail
    refine (HK2.out w2 a c HR2.out).mono ?_
    rintro r w3 ⟨a5, c5, rfl, p2, p3, p4, p5, p6, p7⟩
    have HD4 := Lib.hid (HD2.out.below p7)
    have HFIN := Lib.hid (fun x0 x1 o => does_fin HQ2.out p2 p3 p4 p5 p6 p7 HB2.out HW0.out HAB.out x0 x1 o)
    have r0 := HD4.out.r0
    have r1 := HD4.out.r1
    have z0 := HD4.out.z0
    have z1 := HD4.out.z1
    have b2 := block_lt_of_cell r0
    simp only at b2
    have HFR0 := Lib.hid (fun x y o => alloc_cell (set2_same0 (x := x) (y := y) r0) o)
    have HFR1 := Lib.hid (fun x y o => alloc_cell (set2_same1 (x := x) (y := y) r1) o)
    clear p2 p3 p4 p5 p6 p7 HK2 HD2 HQ2 HR2 t0 t1 s2 s3 s4 s5 s6
    go_wp2
    have fr0 := HFR0.out (.slice a5 us'.length c5) (.int .i64 (g + 1)) (.cells #[.slice a5 us'.length c5, .int .i64 (g + 1)] 28)
    have fr1 := HFR1.out (.slice a5 us'.length c5) (.int .i64 (g + 1)) (.cells #[.slice a5 us'.length c5, .int .i64 (g + 1)] 28)
    have hfin := HFIN.out (.slice a5 us'.length c5) (.int .i64 (g + 1)) (.cells #[.slice a5 us'.length c5, .int .i64 (g + 1)] 28)
    rw [← HPOST.out]
    exact bodyPost_ret (v := .tuple #[.agg #[.slice a5 us'.length c5, .int .i64 (g + 1)], .bool true]) (by simp [results, Try.results13, go_sem, fr0, fr1]) rfl ⟨us', g, a5, c5, rfl, hfin.1, hfin.2.1, hfin.2.2.imp id (fun h x hx => Nat.le_trans HB2.out.size (h x hx))⟩
  · have d0 : decide ((0 : Int) < (n : Int)) = true := by simp; omega
    obtain ⟨us', q, hk1, hk2⟩ := HBO.out ax
    have hn := HN.out
    simp only [hn] at hk2
    clear hn
    have HK1 := Lib.hid hk1
    have HK2 := Lib.hid hk2
    have hself : (q == q) = true := by simp
    clear hk1 hk2 HBO
    go_enter Try.func13, Try.ntmps13
    go_wp2_with fail
    refine (HK1.out _ HQ3.out).mono ?_
    rintro r w2 ⟨rfl, hq2, ht2⟩
    have HQ2 := Lib.hid hq2
    have HD2 := Lib.hid (HD3.out.touch ht2 (fun k h1 h2 hn => hn (.inr ⟨h1, h2⟩)))
    have HB2 := Lib.hid (HB3.out.trans (ht2.mono fun k _ h1 h2 => h1 (.inl (.inl h2))))
    have HR2 := Lib.hid (show RT w2 a c us from ⟨HR3.out.row.touch ht2 (fun x hx hn => hn (.inl (.inr (by rw [hx]; rfl)))), HR3.out.nil, HR3.out.len, HR3.out.cap⟩)
    clear hq2 ht2 HK1
    have t0 := HD2.out.t0
    have t1 := HD2.out.t1
    have s2 := HD2.out.s 2 (by decide)
    have s3 := HD2.out.s 3 (by decide)
    have s4 := HD2.out.s 4 (by decide)
    have s5 := HD2.out.s 5 (by decide)
    have s6 := HD2.out.s 6 (by decide)
    simp only [List.getD_cons_succ, List.getD_cons_zero] at s2 s3 s4 s5 s6
    have b0 := block_lt_of_cell t0
    have b1 := block_lt_of_cell s2
    simp only at b0 b1
    go_wp2_with fail
    refine (HK2.out w2 a c HR2.out).mono ?_
    rintro r w3 ⟨a5, c5, rfl, p2, p3, p4, p5, p6, p7⟩
    have HD4 := Lib.hid (HD2.out.below p7)
    have HFIN := Lib.hid (fun x0 x1 o => does_fin HQ2.out p2 p3 p4 p5 p6 p7 HB2.out HW0.out HAB.out x0 x1 o)
    have r0 := HD4.out.r0
    have r1 := HD4.out.r1
    have z0 := HD4.out.z0
    have z1 := HD4.out.z1
    have b2 := block_lt_of_cell r0
    simp only at b2
    have HFR0 := Lib.hid (fun x y o => alloc_cell (set2_same0 (x := x) (y := y) r0) o)
    have HFR1 := Lib.hid (fun x y o => alloc_cell (set2_same1 (x := x) (y := y) r1) o)
    clear p2 p3 p4 p5 p6 p7 HK2 HD2 HQ2 HR2 t0 t1 s2 s3 s4 s5 s6
    go_wp2
    have fr0 := HFR0.out (.slice a5 us'.length c5) (.int .i64 (g + 1)) (.cells #[.slice a5 us'.length c5, .int .i64 (g + 1)] 28)
    have fr1 := HFR1.out (.slice a5 us'.length c5) (.int .i64 (g + 1)) (.cells #[.slice a5 us'.length c5, .int .i64 (g + 1)] 28)
    have hfin := HFIN.out (.slice a5 us'.length c5) (.int .i64 (g + 1)) (.cells #[.slice a5 us'.length c5, .int .i64 (g + 1)] 28)
    rw [← HPOST.out]
    exact bodyPost_ret (v := .tuple #[.agg #[.slice a5 us'.length c5, .int .i64 (g + 1)], .bool true]) (by simp [results, Try.results13, go_sem, fr0, fr1]) rfl ⟨us', g, a5, c5, rfl, hfin.1, hfin.2.1, hfin.2.2.imp id (fun h x hx => Nat.le_trans HB2.out.size (h x hx))⟩
set_option maxRecDepth 100000 in
set_option maxHeartbeats 4000000 in
theorem does_5 (K0 : Nat → Prop) (b : Nat) (us : List Un) (g : Int) (a : Option Addr) (c : Nat) (w : World) (an af aa ab ax ay : Int) (h : DoMem K0 b us g a c w) :
    Calls Try.prog 13 #[.pointer (some ⟨b, 0, none⟩), .agg #[.slice a us.length c, .int .i64 (g + 1)], .agg #[.int .i64 5, .int .i64 an, .int .i64 af, .int .i64 aa, .int .i64 ab, .int .i64 ax, .int .i64 ay]] w (DoesPost K0 b a w) := by
  have hA3 : Below w.heap.size w (((w.alloc (.cells #[.slice a us.length c, .int .i64 (g + 1)] 28)).alloc (.cells #[.int .i64 5, .int .i64 an, .int .i64 af, .int .i64 aa, .int .i64 ab, .int .i64 ax, .int .i64 ay] 32)).alloc (.cells #[.slice none 0 0, .int .i64 0] 28)) := bel_alloc (bel_alloc (bel_alloc (Below.refl _ _) _) _) _
  have HQ3 := Lib.hid (show TabQ (KB K0 a w.heap.size) b us g (((w.alloc (.cells #[.slice a us.length c, .int .i64 (g + 1)] 28)).alloc (.cells #[.int .i64 5, .int .i64 an, .int .i64 af, .int .i64 aa, .int .i64 ab, .int .i64 ax, .int .i64 ay] 32)).alloc (.cells #[.slice none 0 0, .int .i64 0] 28)) from h.tab.grow (N := fun k => w.heap.size ≤ k ∧ k < w.heap.size + 3) hA3 (fun k hk => ⟨hk.1, by simp; omega⟩))
  have HD3 := Lib.hid (dbox_new w a us.length c (g + 1) 5 an af aa ab ax ay)
  have HB3 := Lib.hid (show Touch (fun k => ¬ K0 k) w (((w.alloc (.cells #[.slice a us.length c, .int .i64 (g + 1)] 28)).alloc (.cells #[.int .i64 5, .int .i64 an, .int .i64 af, .int .i64 aa, .int .i64 ab, .int .i64 ax, .int .i64 ay] 32)).alloc (.cells #[.slice none 0 0, .int .i64 0] 28)) from touch_of_below hA3)
  have HR3 := Lib.hid (h.rt.below hA3)
  have HAB := Lib.hid (show ∀ x, a = some x → x.block < w.heap.size from fun x hx => h.tab.2.1 _ (.inr (by rw [hx]; rfl)))
  have HW0 := Lib.hid (show ∀ k, K0 k → k < w.heap.size from fun k hk => h.tab.2.1 k (.inl hk))
  have h64 := h.tab.ok.1
  have hc1 := h.rt.len
  have hc2 := h.rt.cap
  unfold maxLen at hc2
  have HOK := Lib.hid h.tab.ok
  have HBO := Lib.hid (fun (idv : Int) => set_both (K := KB K0 a w.heap.size) b us g idv af ax HOK.out)
  generalize hpost : DoesPost K0 b a w = Post
  have HPOST := Lib.hid hpost
  clear hA3 h hpost
  generalize hn : us.length = n at HQ3 HD3 HB3 HR3 h64 hc1 ⊢
  have HN := Lib.hid hn
  clear hn
  by_cases h0 : n = 0
  · subst h0
    obtain ⟨us', q, hk1, hk2⟩ := HBO.out ay
    have hn := HN.out
    simp only [hn] at hk2
    clear hn
    have HK1 := Lib.hid hk1
    have HK2 := Lib.hid hk2
    have hself : (q == q) = true := by simp
    clear hk1 hk2 HBO
    go_enter Try.func13, Try.ntmps13
    go_wp2_with fail
    refine (HK1.out _ HQ3.out).mono ?_
    rintro r w2 ⟨rfl, hq2, ht2⟩
    have HQ2 := Lib.hid hq2
    have HD2 := Lib.hid (HD3.out.touch ht2 (fun k h1 h2 hn => hn (.inr ⟨h1, h2⟩)))
    have HB2 := Lib.hid (HB3.out.trans (ht2.mono fun k _ h1 h2 => h1 (.inl (.inl h2))))
    have HR2 := Lib.hid (show RT w2 a c us from ⟨HR3.out.row.touch ht2 (fun x hx hn => hn (.inl (.inr (by rw [hx]; rfl)))), HR3.out.nil, HR3.out.len, HR3.out.cap⟩)
    clear hq2 ht2 HK1
    have t0 := HD2.out.t0
    have t1 := HD2.out.t1
    have s2 := HD2.out.s 2 (by decide)
    have s3 := HD2.out.s 3 (by decide)
    have s4 := HD2.out.s 4 (by decide)
    have s5 := HD2.out.s 5 (by decide)
    have s6 := HD2.out.s 6 (by decide)
    simp only [List.getD_cons_succ, List.getD_cons_zero] at s2 s3 s4 s5 s6
    have b0 := block_lt_of_cell t0
    have b1 := block_lt_of_cell s2
    simp only at b0 b1
    go_wp2_with fail
    refine (HK2.out w2 a c HR2.out).mono ?_
    rintro r w3 ⟨a5, c5, rfl, p2, p3, p4, p5, p6, p7⟩
    have HD4 := Lib.hid (HD2.out.below p7)
    have HFIN := Lib.hid (fun x0 x1 o => does_fin HQ2.out p2 p3 p4 p5 p6 p7 HB2.out HW0.out HAB.out x0 x1 o)
    have r0 := HD4.out.r0
    have r1 := HD4.out.r1
    have z0 := HD4.out.z0
    have z1 := HD4.out.z1
    have b2 := block_lt_of_cell r0
    simp only at b2
    have HFR0 := Lib.hid (fun x y o => alloc_cell (set2_same0 (x := x) (y := y) r0) o)
    have HFR1 := Lib.hid (fun x y o => alloc_cell (set2_same1 (x := x) (y := y) r1) o)
    clear p2 p3 p4 p5 p6 p7 HK2 HD2 HQ2 HR2 t0 t1 s2 s3 s4 s5 s6
    go_wp2
    have fr0 := HFR0.out (.slice a5 us'.length c5) (.int .i64 (g + 1)) (.cells #[.slice a5 us'.length c5, .int .i64 (g + 1)] 28)
    have fr1 := HFR1.out (.slice a5 us'.length c5) (.int .i64 (g + 1)) (.cells #[.slice a5 us'.length c5, .int .i64 (g + 1)] 28)
    have hfin := HFIN.out (.slice a5 us'.length c5) (.int .i64 (g + 1)) (.cells #[.slice a5 us'.length c5, .int .i64 (g + 1)] 28)
    rw [← HPOST.out]
    exact bodyPost_ret (v := .tuple #[.agg #[.slice a5 us'.length c5, .int .i64 (g + 1)], .bool true]) (by simp [results, Try.results13, go_sem, fr0, fr1]) rfl ⟨us', g, a5, c5, rfl, hfin.1, hfin.2.1, hfin.2.2.imp id (fun h x hx => Nat.le_trans HB2.out.size (h x hx))⟩
  · have d0 : decide ((0 : Int) < (n : Int)) = true := by simp; omega
    obtain ⟨us', q, hk1, hk2⟩ := HBO.out ay
    have hn := HN.out
    simp only [hn] at hk2
    clear hn
    have HK1 := Lib.hid hk1
    have HK2 := Lib.hid hk2
    have hself : (q == q) = true := by simp
    clear hk1 hk2 HBO
    go_enter Try.func13, Try.ntmps13
    go_wp2_with fail
    refine (HK1.out _ HQ3.out).mono ?_
    rintro r w2 ⟨rfl, hq2, ht2⟩
    have HQ2 := Lib.hid hq2
    have HD2 := Lib.hid (HD3.out.touch ht2 (fun k h1 h2 hn => hn (.inr ⟨h1, h2⟩)))
    have HB2 := Lib.hid (HB3.out.trans (ht2.mono fun k _ h1 h2 => h1 (.inl (.inl h2))))
    have HR2 := Lib.hid (show RT w2 a c us from ⟨HR3.out.row.touch ht2 (fun x hx hn => hn (.inl (.inr (by rw [hx]; rfl)))), HR3.out.nil, HR3.out.len, HR3.out.cap⟩)
    clear hq2 ht2 HK1
    have t0 := HD2.out.t0
    have t1 := HD2.out.t1
    have s2 := HD2.out.s 2 (by decide)
    have s3 := HD2.out.s 3 (by decide)
    have s4 := HD2.out.s 4 (by decide)
    have s5 := HD2.out.s 5 (by decide)
    have s6 := HD2.out.s 6 (by decide)
    simp only [List.getD_cons_succ, List.getD_cons_zero] at s2 s3 s4 s5 s6
    have b0 := block_lt_of_cell t0
    have b1 := block_lt_of_cell s2
    simp only at b0 b1
    go_wp2_with fail
    refine (HK2.out w2 a c HR2.out).mono ?_
    rintro r w3 ⟨a5, c5, rfl, p2, p3, p4, p5, p6, p7⟩
    have HD4 := Lib.hid (HD2.out.below p7)
    have HFIN := Lib.hid (fun x0 x1 o => does_fin HQ2.out p2 p3 p4 p5 p6 p7 HB2.out HW0.out HAB.out x0 x1 o)
    have r0 := HD4.out.r0
    have r1 := HD4.out.r1
    have z0 := HD4.out.z0
    have z1 := HD4.out.z1
    have b2 := block_lt_of_cell r0
    simp only at b2
    have HFR0 := Lib.hid (fun x y o => alloc_cell (set2_same0 (x := x) (y := y) r0) o)
    have HFR1 := Lib.hid (fun x y o => alloc_cell (set2_same1 (x := x) (y := y) r1) o)
    clear p2 p3 p4 p5 p6 p7 HK2 HD2 HQ2 HR2 t0 t1 s2 s3 s4 s5 s6
    go_wp2
    have fr0 := HFR0.out (.slice a5 us'.length c5) (.int .i64 (g + 1)) (.cells #[.slice a5 us'.length c5, .int .i64 (g + 1)] 28)
    have fr1 := HFR1.out (.slice a5 us'.length c5) (.int .i64 (g + 1)) (.cells #[.slice a5 us'.length c5, .int .i64 (g + 1)] 28)
    have hfin := HFIN.out (.slice a5 us'.length c5) (.int .i64 (g + 1)) (.cells #[.slice a5 us'.length c5, .int .i64 (g + 1)] 28)
    rw [← HPOST.out]
    exact bodyPost_ret (v := .tuple #[.agg #[.slice a5 us'.length c5, .int .i64 (g + 1)], .bool true]) (by simp [results, Try.results13, go_sem, fr0, fr1]) rfl ⟨us', g, a5, c5, rfl, hfin.1, hfin.2.1, hfin.2.2.imp id (fun h x hx => Nat.le_trans HB2.out.size (h x hx))⟩
end Go.Proofs.Ytdkokfpbmmjfkaa
namespace Go.Proofs.Ytdkokfpbmmjfkaa
open Go.RowKit
set_option linter.unusedVariables false

set_option maxRecDepth 100000 in
set_option maxHeartbeats 4000000 in
theorem does_other (K0 : Nat → Prop) (b : Nat) (us : List Un) (g : Int) (a : Option Addr) (c : Nat) (w : World) (ak an af aa ab ax ay : Int) (h : DoMem K0 b us g a c w) (n1 : ak ≠ 1) (n2 : ak ≠ 2) (n3 : ak ≠ 3) (n4 : ak ≠ 4) (n5 : ak ≠ 5) :
    Calls Try.prog 13 #[.pointer (some ⟨b, 0, none⟩), .agg #[.slice a us.length c, .int .i64 (g + 1)], .agg #[.int .i64 ak, .int .i64 an, .int .i64 af, .int .i64 aa, .int .i64 ab, .int .i64 ax, .int .i64 ay]] w (DoesPost K0 b a w) := by
  have HFIN0 := Lib.hid (show ∀ W, Below w.heap.size w W → DoesPost K0 b a w (.returned (.tuple #[.agg #[.slice a us.length c, .int .i64 (g + 1)], .bool true])) W from fun W hb => ⟨us, g, a, c, rfl, h.keep hb, touch_of_below hb, .inl rfl⟩)
  have HR := Lib.hid h.rt
  have h64 := h.tab.ok.1
  have hc1 := h.rt.len
  have hc2 := h.rt.cap
  unfold maxLen at hc2
  have k1 : (ak == 1) = false := by simpa using n1
  have k2 : (ak == 2) = false := by simpa using n2
  have k3 : (ak == 3) = false := by simpa using n3
  have k4 : (ak == 4) = false := by simpa using n4
  have k5 : (ak == 5) = false := by simpa using n5
  generalize hn : us.length = n at HFIN0 h64 hc1 ⊢
  have HN := Lib.hid hn
  generalize hpost : DoesPost K0 b a w = Post at HFIN0 ⊢
  have HFIN := HFIN0
  clear h hn hpost n1 n2 n3 n4 n5 HFIN0
  by_cases h0 : n = 0
  · subst h0
    go_enter Try.func13, Try.ntmps13
    go_wp2
    exact bodyPost_ret (v := .tuple #[.agg #[.slice a 0 c, .int .i64 (g + 1)], .bool true]) (by simp [results, Try.results13, go_sem]) rfl (HFIN.out _ (bel_alloc (bel_alloc (bel_alloc (Below.refl _ _) _) _) _))
  · have d0 : decide ((0 : Int) < (n : Int)) = true := by simp; omega
    by_cases hk : ak < 4
    · have dk : decide (ak < 4) = true := by simpa using hk
      obtain ⟨q5, hq5, eq5⟩ := andM an 255 255 rfl (by decide)
      have hmod : q5 % n < n := Nat.mod_lt _ (by omega)
      have hA3 : Below w.heap.size w (((w.alloc (.cells #[.slice a n c, .int .i64 (g + 1)] 28)).alloc (.cells #[.int .i64 ak, .int .i64 an, .int .i64 af, .int .i64 aa, .int .i64 ab, .int .i64 ax, .int .i64 ay] 32)).alloc (.cells #[.slice none 0 0, .int .i64 0] 28)) := bel_alloc (bel_alloc (bel_alloc (Below.refl _ _) _) _) _
      have HD3 := Lib.hid (dbox_new w a n c (g + 1) ak an af aa ab ax ay)
      obtain ⟨gb, off, rfl, hgb, e0, -⟩ := (HR.out.row.below hA3).at (i := q5 % n) (by rw [HN.out]; exact hmod)
      generalize us[q5 % n]'(by rw [HN.out]; exact hmod) = uu at e0
      generalize uu.id = idv at e0
      have HB3 := Lib.hid hA3
      clear hA3 hk
      go_enter Try.func13, Try.ntmps13
      have m1 : (0 : Int) ≤ ((q5 % n : Nat) : Int) := by omega
      have m2 : ((q5 % n : Nat) : Int) < (n : Int) := by omega
      have hrem := rem_run q5 n h64 h0 hq5
      have hmE : (q5 : Int) % (n : Int) = ((q5 % n : Nat) : Int) := (Int.natCast_emod _ _).symm
      have hmT : (q5 : Int).tmod (n : Int) = ((q5 % n : Nat) : Int) := by rw [Int.tmod_eq_emod_of_nonneg (by omega)]; exact hmE
      generalize q5 % n = m5 at hrem e0 m1 m2 hmod hmE hmT
      go_upto_region 3 with (fail)
      have t0 := HD3.out.t0
      have s1 := HD3.out.s 1 (by decide)
      simp only [List.getD_cons_succ, List.getD_cons_zero] at s1
      generalize ((w.alloc (.cells #[.slice (some ⟨gb, off, none⟩) n c, .int .i64 (g + 1)] 28)).alloc (.cells #[.int .i64 ak, .int .i64 an, .int .i64 af, .int .i64 aa, .int .i64 ab, .int .i64 ax, .int .i64 ay] 32)).alloc (.cells #[.slice none 0 0, .int .i64 0] 28) = Wq at HD3 HB3 e0 t0 s1 hgb ⊢
      go_quiet (fail)
      clear hrem m1 m2 e0 t0 s1 eq5 hmE hmT
      have HD3 : Hid (DBox w.heap.size (some ⟨gb, off, none⟩) n c (g + 1) [ak, an, af, aa, ab, ax, ay] (Wq.drewN nq)) := Lib.hid (HD3.out.below ⟨rfl, rfl, rfl, Nat.le_refl _, fun _ _ => rfl⟩)
      have HB3 : Hid (Below w.heap.size w (Wq.drewN nq)) := Lib.hid ⟨HB3.out.os, HB3.out.tape, HB3.out.output, HB3.out.size, HB3.out.block⟩
      generalize Wq.drewN nq = Wp at HD3 HB3 ⊢
      have s0 := HD3.out.s 0 (by decide)
      simp only [List.getD_cons_zero] at s0
      have t0 := HD3.out.t0
      have t1 := HD3.out.t1
      have r0 := HD3.out.r0
      have r1 := HD3.out.r1
      have z0 := HD3.out.z0
      have z1 := HD3.out.z1
      have hs0 := block_lt_of_cell s0
      have ht0 := block_lt_of_cell t0
      have hr0 := block_lt_of_cell r0
      simp only at hs0 ht0 hr0
      have fr0 := set2_same0 (x := .slice (some ⟨gb, off, none⟩) n c) (y := .int .i64 (g + 1)) r0
      have fr1 := set2_same1 (x := .slice (some ⟨gb, off, none⟩) n c) (y := .int .i64 (g + 1)) r1
      have HFR0 := Lib.hid fr0
      have HFR1 := Lib.hid fr1
      have HBF := Lib.hid (set2r_below HB3.out (show w.heap.size ≤ w.heap.size + 2 by omega) (.slice (some ⟨gb, off, none⟩) n c) (.int .i64 (g + 1)))
      unfold set2r at HBF
      clear fr0 fr1 HB3 HD3
      go_wp2
      have fr0 := HFR0.out
      have fr1 := HFR1.out
      exact bodyPost_ret (v := .tuple #[.agg #[.slice (some ⟨gb, off, none⟩) n c, .int .i64 (g + 1)], .bool true]) (by simp [results, Try.results13, go_sem, fr0, fr1]) rfl (HFIN.out _ HBF.out)
    · have dk : decide (ak < 4) = false := by simpa using hk
      clear hk
      go_enter Try.func13, Try.ntmps13
      go_wp2
      exact bodyPost_ret (v := .tuple #[.agg #[.slice a n c, .int .i64 (g + 1)], .bool true]) (by simp [results, Try.results13, go_sem]) rfl (HFIN.out _ (bel_alloc (bel_alloc (bel_alloc (Below.refl _ _) _) _) _))
theorem does_any (K0 : Nat → Prop) (b : Nat) (us : List Un) (g : Int) (a : Option Addr) (c : Nat) (w : World) (ak an af aa ab ax ay : Int) (h : DoMem K0 b us g a c w) :
    Calls Try.prog 13 #[.pointer (some ⟨b, 0, none⟩), .agg #[.slice a us.length c, .int .i64 (g + 1)], .agg #[.int .i64 ak, .int .i64 an, .int .i64 af, .int .i64 aa, .int .i64 ab, .int .i64 ax, .int .i64 ay]] w (DoesPost K0 b a w) := by
  by_cases h1 : ak = 1
  · subst h1; exact does_1 K0 b us g a c w an af aa ab ax ay h
  by_cases h2 : ak = 2
  · subst h2; exact does_2 K0 b us g a c w an af aa ab ax ay h
  by_cases h3 : ak = 3
  · subst h3; exact does_3 K0 b us g a c w an af aa ab ax ay h
  by_cases h4 : ak = 4
  · subst h4; exact does_4 K0 b us g a c w an af aa ab ax ay h
  by_cases h5 : ak = 5
  · subst h5; exact does_5 K0 b us g a c w an af aa ab ax ay h
  exact does_other K0 b us g a c w ak an af aa ab ax ay h h1 h2 h3 h4 h5
end Go.Proofs.Ytdkokfpbmmjfkaa
namespace Go.Proofs.Ytdkokfpbmmjfkaa
open Go.RowKit
set_option linter.unusedVariables false

/-- The blocks that no table of a law with one box Y has. -/
def KP (n Y k : Nat) : Prop := k < n ∨ k = Y
/-- The law's memory: both tables, the document's in the box Y. -/
structure PlMem (n Y b : Nat) (us : List Un) (g : Int) (a : Option Addr) (c : Nat) (wr : World) : Prop where
  mem : DoMem (KP n Y) b us g a c wr
  y0 : wr.cell? ⟨Y, 0, none⟩ = some (.slice a us.length c)
  y1 : wr.cell? ⟨Y, 1, none⟩ = some (.int .i64 (g + 1))
  z0 : wr.frozen? ⟨Y, 0, none⟩ = false
  z1 : wr.frozen? ⟨Y, 1, none⟩ = false
  far : ∀ x, a = some x → Y < x.block
  lo : n ≤ Y
theorem PlMem.keep {n Y b : Nat} {us : List Un} {g : Int} {a : Option Addr} {c : Nat} {wr w' : World} (h : PlMem n Y b us g a c wr) (hb : Below wr.heap.size wr w') : PlMem n Y b us g a c w' :=
  ⟨h.mem.keep hb, (hb.cell (p := ⟨Y, 0, none⟩) (block_lt_of_cell h.y0)).trans h.y0, (hb.cell (p := ⟨Y, 1, none⟩) (block_lt_of_cell h.y1)).trans h.y1,
    ((touch_of_below (S := fun _ => False) hb).frozen (p := ⟨Y, 0, none⟩) (block_lt_of_cell h.y0) id).trans h.z0, ((touch_of_below (S := fun _ => False) hb).frozen (p := ⟨Y, 1, none⟩) (block_lt_of_cell h.y1) id).trans h.z1, h.far, h.lo⟩
theorem PlMem.does {n Y b : Nat} {us us' : List Un} {g g' : Int} {a a' : Option Addr} {c c' : Nat} {wr w' : World} (h : PlMem n Y b us g a c wr) (h2 : DoMem (KP n Y) b us' g' a' c' w') (ht : Touch (fun k => ¬ KP n Y k) wr w') (ha : a' = a ∨ ∀ x, a' = some x → wr.heap.size ≤ x.block) :
    w'.frozen? ⟨Y, 0, none⟩ = false ∧ w'.frozen? ⟨Y, 1, none⟩ = false ∧ (∃ o0, w'.cell? ⟨Y, 0, none⟩ = some o0) ∧ (∃ o1, w'.cell? ⟨Y, 1, none⟩ = some o1) ∧
    PlMem n Y b us' g' a' c' ((w'.setCell ⟨Y, 0, none⟩ (.slice a' us'.length c')).setCell ⟨Y, 1, none⟩ (.int .i64 (g' + 1))) ∧ Below n wr ((w'.setCell ⟨Y, 0, none⟩ (.slice a' us'.length c')).setCell ⟨Y, 1, none⟩ (.int .i64 (g' + 1))) := by
  have nY : ¬ ¬ KP n Y Y := fun hn => hn (.inr rfl)
  have hY := block_lt_of_cell h.y0
  simp only at hY
  have y0 := (ht.cell (p := ⟨Y, 0, none⟩) hY nY).trans h.y0
  have y1 := (ht.cell (p := ⟨Y, 1, none⟩) hY nY).trans h.y1
  have z0 := (ht.frozen (p := ⟨Y, 0, none⟩) hY nY).trans h.z0
  have z1 := (ht.frozen (p := ⟨Y, 1, none⟩) hY nY).trans h.z1
  have hs := set2r_touch w' Y (.slice a' us'.length c') (.int .i64 (g' + 1))
  unfold set2r at hs
  have far : ∀ x, a' = some x → Y < x.block := fun x hx => by
    rcases ha with e | e
    · exact h.far x (e ▸ hx)
    · have := e x hx; omega
  have hlo := h.lo
  refine ⟨z0, z1, ⟨_, y0⟩, ⟨_, y1⟩, ⟨h2.set hs (fun k hk => .inr hk) (fun x hx e => by have := far x hx; omega), set2_same0 y0, set2_same1 y1, by simpa using z0, by simpa using z1, far, h.lo⟩, ?_⟩
  refine (ht.below (by omega) (fun k hk hn => hn (.inl hk))).trans ((hs.below (B := n) ?_ (fun k hk e => ?_)))
  · have := ht.size; omega
  · omega
/-- A unit's number, looked for by both. -/
theorem unit_both {K : Nat → Prop} (b : Nat) (us : List Un) (g id : Int) (hok : TabOk us g) : ∃ (u : Un) (q : Bool) (f : Int), decide (0 ≤ f) = q ∧
    (∀ W, TabQ K b us g W → Calls Try.prog 14 #[.pointer (some ⟨b, 0, none⟩), .int .i64 id] W fun r w' => r = .returned (.tuple #[unV u, .bool q]) ∧ Below W.heap.size W w') ∧
    ∀ W a c, RT W a c us → Calls Try.prog 16 #[.agg #[.slice a us.length c, .int .i64 (g + 1)], .int .i64 id] W fun r w' => r = .returned (.int .i64 f) ∧ Below W.heap.size W w' := by
  obtain ⟨n, hn⟩ := find_is us id hok.2.1
  cases hq : foundQ us id n
  · refine ⟨⟨0, 0, 0, 0, 0, 0⟩, false, findR us id n, by simp [findR, hq], fun W h => tabUnit_none b us g id n W h hn hq, fun W a c h => refFind_any a c us (g + 1) id n W (by have := hok.1; omega) hok.2.1 h.row hn⟩
  · obtain ⟨hlt, he⟩ := findIs_lt hq
    refine ⟨us[n], true, findR us id n, by simp [findR, hq], fun W h => tabUnit_some b us g id n W h hn hlt he, fun W a c h => refFind_any a c us (g + 1) id n W (by have := hok.1; omega) hok.2.1 h.row hn⟩
/-- Behind the law's call: both tables, and the document's new one in the box B; the old box is still to be written. -/
structure PlMid (n Y b B : Nat) (us : List Un) (g : Int) (a : Option Addr) (c : Nat) (w0 wx : World) : Prop where
  mem : DoMem (KP n Y) b us g a c wx
  b0 : wx.cell? ⟨B, 0, none⟩ = some (.slice a us.length c)
  b1 : wx.cell? ⟨B, 1, none⟩ = some (.int .i64 (g + 1))
  y0 : ∃ o, wx.cell? ⟨Y, 0, none⟩ = some o
  y1 : ∃ o, wx.cell? ⟨Y, 1, none⟩ = some o
  z0 : wx.frozen? ⟨Y, 0, none⟩ = false
  z1 : wx.frozen? ⟨Y, 1, none⟩ = false
  far : ∀ x, a = some x → Y < x.block
  lo : n ≤ Y
  ne : B ≠ Y
  bel : Below n w0 wx
theorem DoMem.sub {K0 K1 : Nat → Prop} {wr : World} {b : Nat} {us : List Un} {g : Int} {a : Option Addr} {c : Nat} (h : DoMem K1 b us g a c wr) (hs : ∀ k, K0 k → K1 k) : DoMem K0 b us g a c wr :=
  ⟨h.tab.sub (fun k hk => hk.elim (fun h => .inl (hs k h)) .inr), h.rt⟩
theorem DoMem.grow {K0 : Nat → Prop} {wr : World} {b : Nat} {us : List Un} {g : Int} {a : Option Addr} {c : Nat} (h : DoMem K0 b us g a c wr) (o : Obj) : DoMem (fun k => K0 k ∨ k = wr.heap.size) b us g a c (wr.alloc o) := by
  have hb : Below wr.heap.size wr (wr.alloc o) := bel_alloc (Below.refl _ _) _
  refine ⟨(h.tab.grow (N := fun k => k = wr.heap.size) hb (fun k hk => by subst hk; simp)).sub (fun k hk => ?_), h.rt.below hb⟩
  rcases hk with (h | h) | h
  · exact .inl (.inl h)
  · exact .inr h
  · exact .inl (.inr h)
theorem plMid_after {n Y b : Nat} {us us' : List Un} {g g' : Int} {a a' : Option Addr} {c c' : Nat} {w0 wr w4 : World} {t : TypeId} (h : PlMem n Y b us g a c wr) (hw : Below n w0 wr) (h2 : DoMem (KP n Y) b us' g' a' c' w4) (ht : Touch (fun k => ¬ KP n Y k) wr w4) (ha : a' = a ∨ ∀ x, a' = some x → wr.heap.size ≤ x.block) :
    PlMid n Y b w4.heap.size us' g' a' c' w0 (w4.alloc (.cells #[.slice a' us'.length c', .int .i64 (g' + 1)] t)) := by
  obtain ⟨z0, z1, ⟨o0, y0⟩, ⟨o1, y1⟩, -, -⟩ := h.does h2 ht ha
  have hY := block_lt_of_cell h.y0
  have hYl := block_lt_of_cell y0
  have hlo := h.lo
  simp only at hY hYl
  have hb : Below w4.heap.size w4 (w4.alloc (.cells #[.slice a' us'.length c', .int .i64 (g' + 1)] t)) := bel_alloc (Below.refl _ _) _
  refine ⟨h2.keep hb, new_cell rfl rfl, new_cell rfl rfl, ⟨_, alloc_cell y0 _⟩, ⟨_, alloc_cell y1 _⟩, (frozen_old _ _ _ hYl).trans z0, (frozen_old _ _ _ hYl).trans z1, fun x hx => ?_, h.lo, by omega, ?_⟩
  · rcases ha with e | e
    · exact h.far x (e ▸ hx)
    · have := e x hx; omega
  · exact (hw.trans (ht.below (by omega) (fun k hk hn => hn (.inl hk)))).alloc (by have := ht.size; omega) _
theorem plMid_before {n Y b : Nat} {us us' : List Un} {g g' : Int} {a a' : Option Addr} {c c' : Nat} {w0 wr w4 : World} {t : TypeId} {o0 o1 : Value} (h : PlMem n Y b us g a c wr) (hw : Below n w0 wr) (h2 : DoMem (fun k => KP n Y k ∨ k = wr.heap.size) b us' g' a' c' w4) (ht : Touch (fun k => ¬ (KP n Y k ∨ k = wr.heap.size)) (wr.alloc (.cells #[o0, o1] t)) w4) (ha : a' = a ∨ ∀ x, a' = some x → (wr.alloc (.cells #[o0, o1] t)).heap.size ≤ x.block) :
    w4.cell? ⟨wr.heap.size, 0, none⟩ = some o0 ∧ w4.cell? ⟨wr.heap.size, 1, none⟩ = some o1 ∧ w4.frozen? ⟨wr.heap.size, 0, none⟩ = false ∧ w4.frozen? ⟨wr.heap.size, 1, none⟩ = false ∧ wr.heap.size < w4.heap.size ∧
    PlMid n Y b wr.heap.size us' g' a' c' w0 ((w4.setCell ⟨wr.heap.size, 0, none⟩ (.slice a' us'.length c')).setCell ⟨wr.heap.size, 1, none⟩ (.int .i64 (g' + 1))) := by
  have nB : ¬ ¬ (KP n Y wr.heap.size ∨ wr.heap.size = wr.heap.size) := fun hn => hn (.inr rfl)
  have nY : ¬ ¬ (KP n Y Y ∨ Y = wr.heap.size) := fun hn => hn (.inl (.inr rfl))
  have hsz : (wr.alloc (.cells #[o0, o1] t)).heap.size = wr.heap.size + 1 := by simp
  have hlt : wr.heap.size < (wr.alloc (.cells #[o0, o1] t)).heap.size := by omega
  have hY := block_lt_of_cell h.y0
  have hlo := h.lo
  simp only at hY
  have hYl : Y < (wr.alloc (.cells #[o0, o1] t)).heap.size := by omega
  have b0 : w4.cell? ⟨wr.heap.size, 0, none⟩ = some o0 := (ht.cell (p := ⟨wr.heap.size, 0, none⟩) hlt nB).trans (by simp)
  have b1 : w4.cell? ⟨wr.heap.size, 1, none⟩ = some o1 := (ht.cell (p := ⟨wr.heap.size, 1, none⟩) hlt nB).trans (by simp)
  have f0 : w4.frozen? ⟨wr.heap.size, 0, none⟩ = false := (ht.frozen (p := ⟨wr.heap.size, 0, none⟩) hlt nB).trans (frozen_new _ _ _ _)
  have f1 : w4.frozen? ⟨wr.heap.size, 1, none⟩ = false := (ht.frozen (p := ⟨wr.heap.size, 1, none⟩) hlt nB).trans (frozen_new _ _ _ _)
  have y0 := (ht.cell (p := ⟨Y, 0, none⟩) hYl nY).trans (alloc_cell h.y0 _)
  have y1 := (ht.cell (p := ⟨Y, 1, none⟩) hYl nY).trans (alloc_cell h.y1 _)
  have z0 := (ht.frozen (p := ⟨Y, 0, none⟩) hYl nY).trans ((frozen_old _ _ _ hY).trans h.z0)
  have z1 := (ht.frozen (p := ⟨Y, 1, none⟩) hYl nY).trans ((frozen_old _ _ _ hY).trans h.z1)
  have hs := set2r_touch w4 wr.heap.size (.slice a' us'.length c') (.int .i64 (g' + 1))
  unfold set2r at hs
  have hlt4 : wr.heap.size < w4.heap.size := by have := ht.size; omega
  have hne : ¬ Y = wr.heap.size := by omega
  refine ⟨b0, b1, f0, f1, hlt4, ⟨(h2.set hs (fun k hk => .inr hk) (fun x hx e => ?_)).sub (fun k hk => .inl hk), set2_same0 b0, set2_same1 b1, ⟨_, (hs.cell (p := ⟨Y, 0, none⟩) (by show Y < _; omega) hne).trans y0⟩, ⟨_, (hs.cell (p := ⟨Y, 1, none⟩) (by show Y < _; omega) hne).trans y1⟩, (hs.frozen (p := ⟨Y, 0, none⟩) (by show Y < _; omega) hne).trans z0, (hs.frozen (p := ⟨Y, 1, none⟩) (by show Y < _; omega) hne).trans z1, fun x hx => ?_, hlo, by omega, ?_⟩⟩
  · rcases ha with e' | e'
    · have := h.mem.rt.row
      have hx2 : a = some x := e' ▸ hx
      have := h.mem.tab.2.1 x.block (.inr (by rw [hx2]; rfl))
      omega
    · have := e' x hx; omega
  · rcases ha with e | e
    · exact h.far x (e ▸ hx)
    · have := e x hx; omega
  · refine ((hw.alloc (by have := hw.size; omega) _).trans (ht.below (by omega) (fun k hk hn => hn (.inl (.inl hk))))).trans (hs.below (by omega) (fun k hk e => by omega))
theorem PlMid.fin {n Y b B : Nat} {us : List Un} {g : Int} {a : Option Addr} {c : Nat} {w0 wx : World} (h : PlMid n Y b B us g a c w0 wx) :
    PlMem n Y b us g a c ((wx.setCell ⟨Y, 0, none⟩ (.slice a us.length c)).setCell ⟨Y, 1, none⟩ (.int .i64 (g + 1))) ∧ Below n w0 ((wx.setCell ⟨Y, 0, none⟩ (.slice a us.length c)).setCell ⟨Y, 1, none⟩ (.int .i64 (g + 1))) := by
  have hs := set2r_touch wx Y (.slice a us.length c) (.int .i64 (g + 1))
  unfold set2r at hs
  obtain ⟨o0, y0⟩ := h.y0
  obtain ⟨o1, y1⟩ := h.y1
  have hlo := h.lo
  refine ⟨⟨h.mem.set hs (fun k hk => .inr hk) (fun x hx e => by have := h.far x hx; omega), set2_same0 y0, set2_same1 y1, by simpa using h.z0, by simpa using h.z1, h.far, h.lo⟩, h.bel.trans (hs.below ?_ (fun k hk e => by omega))⟩
  have := block_lt_of_cell y0
  simp only at this
  omega
theorem keepC {W w' : World} (hb : Below W.heap.size W w') {p q r : Addr} {x y z : Value} (h : W.cell? p = some x ∧ W.cell? q = some y ∧ W.cell? r = some z) : w'.cell? p = some x ∧ w'.cell? q = some y ∧ w'.cell? r = some z :=
  ⟨(hb.cell (block_lt_of_cell h.1)).trans h.1, (hb.cell (block_lt_of_cell h.2.1)).trans h.2.1, (hb.cell (block_lt_of_cell h.2.2)).trans h.2.2⟩
set_option maxRecDepth 100000 in
set_option maxHeartbeats 4000000 in
theorem unitPlays_walk (w : World) (a : Option Addr) (len cap : Nat) (ls : List (List Int)) (h : RecArg 7 w a len cap ls) :
    Calls Try.prog 3 #[.slice a len cap] w fun e w' => e = .returned (.bool true) ∧ Below w.heap.size w w' := by
  obtain ⟨rfl, hlc, hcm, hwide, hrow, -, -⟩ := h
  unfold maxLen at hcm
  have HROW := Lib.hid hrow
  have HAW := Lib.hid (fun W => awake8_any W)
  clear hrow hwide
  go_enter Try.func3, Try.ntmps3
  go_wp2_with fail
  refine (HAW.out _).mono ?_
  rintro e w1 ⟨rfl, hb1⟩
  have HB1 := Lib.hid hb1
  have hs1 := hb1.size
  have HNEW := Lib.hid (tabNew_any (fun k => k < w.heap.size) w1 (fun k hk => by omega))
  clear hb1 HAW
  go_wp2_with fail
  refine HNEW.out.mono ?_
  rintro e w2 ⟨rfl, hq2, hb2⟩
  have HQ2 := Lib.hid hq2
  have HB2 := Lib.hid (HB1.out.trans (hb2.mono HB1.out.size))
  have hs2 := hb2.size
  have HM2 : Hid (PlMem w.heap.size w2.heap.size w1.heap.size [] 0 none 0 (w2.alloc (.cells #[.slice none 0 0, .int .i64 1] 28)) ∧ Below w.heap.size w (w2.alloc (.cells #[.slice none 0 0, .int .i64 1] 28))) := by
    refine Lib.hid ⟨⟨⟨?_, ⟨fun h => by simp [unsI] at h, fun _ => rfl, by simp, by simp [maxLen]⟩⟩, new_cell rfl rfl, new_cell rfl rfl, frozen_new _ _ _ _, frozen_new _ _ _ _, fun x hx => (by cases hx), by omega⟩, HB2.out.alloc (by have := HB2.out.size; omega) _⟩
    refine (HQ2.out.grow (N := fun k => k = w2.heap.size) (bel_alloc (Below.refl _ _) _) (fun k hk => by subst hk; simp)).sub (fun k hk => ?_)
    rcases hk with (h | h) | h
    · exact .inl (by omega)
    · exact .inr h
    · simp at h
  clear hq2 hb2 HNEW HB1 HQ2 HB2
  go_wp2
  generalize w1.heap.size = b at HM2 ⊢
  generalize hY : w2.heap.size = Y at HM2 ⊢
  go_loopw [5] (fun iv wr => ∃ (k : Nat) (us : List Un) (g : Int) (a5 : Option Addr) (c5 : Nat), k ≤ ls.length ∧ k ≤ 120 ∧ iv = .int .i64 k ∧ Hid (PlMem w.heap.size Y b us g a5 c5 wr ∧ Below w.heap.size w wr)) (fun iv _ => 120 - (intOf iv).toNat)
  case atStart => exact ⟨0, [], 0, none, 0, by omega, by omega, rfl, HM2⟩
  case round =>
    obtain ⟨k, us, g, a5, c5, hk, hk30, rfl, HM⟩ := hrel
    by_cases hlt : k < ls.length
    · by_cases hlt2 : k < 120
      · obtain ⟨ab, aoff, rfl, hcell⟩ := RecRow.below (by decide) HROW.out HM.out.2 (by omega)
        have c0 := hcell k hlt 0 (by decide)
        have c1 := hcell k hlt 1 (by decide)
        have c2 := hcell k hlt 2 (by decide)
        have c3 := hcell k hlt 3 (by decide)
        have c4 := hcell k hlt 4 (by decide)
        have c5' := hcell k hlt 5 (by decide)
        have c6 := hcell k hlt 6 (by decide)
        rw [Nat.add_zero] at c0
        have hab := block_lt_of_cell c0
        clear hcell
        generalize ls[k].getD 0 0 = v0 at c0
        generalize ls[k].getD 1 0 = v1 at c1
        generalize ls[k].getD 2 0 = v2 at c2
        generalize ls[k].getD 3 0 = v3 at c3
        generalize ls[k].getD 4 0 = v4 at c4
        generalize hv5 : ls[k].getD 5 0 = v5 at c5'
        have HV5 := Lib.hid hv5
        clear hv5
        generalize ls[k].getD 6 0 = v6 at c6
        have y0 := HM.out.1.y0
        have y1 := HM.out.1.y1
        have hYl := block_lt_of_cell y0
        simp only at hYl hab
        have HD := Lib.hid (does_any (KP w.heap.size Y) b us g a5 c5 wr.drew v0 v1 v2 v3 v4 v5 v6 (HM.out.1.mem.keep (w' := wr.drew) (Below.refl _ wr).drew))
        have HD2 := Lib.hid (does_any (fun k => KP w.heap.size Y k ∨ k = wr.heap.size) b us g a5 c5 (wr.alloc (.cells #[.slice none 0 0, .int .i64 0] 28)).drew v0 v1 v2 v3 v4 v5 v6 ((HM.out.1.mem.grow (.cells #[.slice none 0 0, .int .i64 0] 28)).keep (w' := (wr.alloc (.cells #[.slice none 0 0, .int .i64 0] 28)).drew) (Below.refl _ _).drew))
        have hk0 : (0 : Int) ≤ (k : Int) := by omega
        have hk1 : (k : Int) < (ls.length : Int) := by omega
        have hk2 : (k : Int) < (120 : Int) := by omega
        generalize us.length = un at HD HD2 y0
        go_upto_region 8 with (fail)
        go_cut [6, 7] (fun s6 s7 wx => ∃ (B : Nat) (us : List Un) (g : Int) (a : Option Addr) (c : Nat), s6 = .pointer (some ⟨B, 0, none⟩) ∧ s7 = .bool true ∧ Hid (PlMid w.heap.size Y b B us g a c w wx))
        case first =>
          go_region_with (first
            | (go_at_call 13; (with_reducible refine HD.out.mono ?_); rintro r w4 ⟨us', g', a6, c6', rfl, hm4, ht4, ha4⟩; have HI4 := Lib.hid (plMid_after (t := 28) HM.out.1 HM.out.2 hm4 ht4.drew0 ha4); clear hm4 ht4 ha4)
            | (go_at_call 13; (with_reducible refine HD2.out.mono ?_); rintro r w4 ⟨us', g', a6, c6', rfl, hm4, ht4, ha4⟩; obtain ⟨y0', y1', y2, y3, y4, hi4⟩ := plMid_before HM.out.1 HM.out.2 hm4 ht4.drew0 ha4; have HI4 := Lib.hid hi4; clear hm4 ht4 ha4 hi4))
          all_goals (go_wp2_with fail; go_meet)
          all_goals exact ⟨_, _, _, _, _, rfl, rfl, HI4⟩
        case rest =>
          obtain ⟨B, us', g', a6, c6', rfl, rfl, HMid⟩ := hcut
          clear HD HD2 c0 c1 c2 c3 c4 c5' c6 y0 y1 hYl hab HM2
          obtain ⟨uq, q, f, hfq, hU, hFi⟩ := unit_both (K := KA (KP w.heap.size Y) a6) b us' g' v5 HMid.out.mem.tab.ok
          have HU := Lib.hid hU
          have HFi := Lib.hid hFi
          have HF := Lib.hid HMid.out.fin
          have b0 := HMid.out.b0
          have b1 := HMid.out.b1
          obtain ⟨o0, y0⟩ := HMid.out.y0
          obtain ⟨o1, y1⟩ := HMid.out.y1
          have z0 := HMid.out.z0
          have z1 := HMid.out.z1
          have hne := HMid.out.ne
          have hBl := block_lt_of_cell b0
          have hYl := block_lt_of_cell y0
          simp only at hBl hYl
          have HIS := Lib.hid (fun W hh => is_any (KP w.heap.size Y) b us' g' a6 c6' W hh)
          generalize hul : us'.length = un' at HF b0 HFi HIS
          have HUL := Lib.hid hul
          clear hU hFi HMid hul HM
          cases q
          all_goals
            go_upto_region 10 with (fail)
            generalize (wc.setCell ⟨Y, 0, none⟩ (.slice a6 un' c6')).setCell ⟨Y, 1, none⟩ (.int .i64 (g' + 1)) = W at HF ⊢
            clear b0 b1 y0 y1 z0 z1 hBl hYl hne
            obtain ⟨ab', aoff', he, hcell⟩ := RecRow.below (by decide) HROW.out HF.out.2 (by omega)
            obtain ⟨rfl, rfl⟩ : ab = ab' ∧ aoff = aoff' := by simpa using he
            have c5 := hcell k hlt 5 (by decide)
            have hab := block_lt_of_cell c5
            simp only at hab
            rw [HV5.out] at c5
            clear hcell he
            go_wp2_with fail
            refine (HU.out _ HF.out.1.mem.tab).mono ?_
            rintro r w5 ⟨rfl, hb5⟩
            obtain ⟨u0, u1, u2', u3, u4, u5⟩ := uq
            unfold unV
            simp only
            have hb6 : Below W.heap.size W (w5.alloc (.cells #[.int .i64 u0, .int .i64 u1, .int .i64 u2', .int .i64 u3, .int .i64 u4, .int .i64 u5] 35)) := bel_alloc hb5 _
            have HM6 := Lib.hid (HF.out.1.keep hb6)
            have HB6 := Lib.hid (HF.out.2.trans (hb6.mono HF.out.2.size))
            have d5 := (hb6.cell (p := ⟨ab, aoff + k * 7 + 5, none⟩) hab).trans c5
            clear hb5 hb6 HF HU c5 hab
            go_upto_region 11 with (fail)
            generalize w5.alloc (.cells #[.int .i64 u0, .int .i64 u1, .int .i64 u2', .int .i64 u3, .int .i64 u4, .int .i64 u5] 35) = W6 at HM6 HB6 d5 ⊢
            have y0 := HM6.out.y0
            have y1 := HM6.out.y1
            rw [HUL.out] at y0
            have hYl := block_lt_of_cell y0
            have hab := block_lt_of_cell d5
            simp only at hYl hab
            have HMc := Lib.hid (HM6.out.keep (w' := W6.drew) (Below.refl _ W6).drew)
            have HBc := Lib.hid HB6.out.drew
            clear HM6 HB6
            go_region_held3 (fun w' => w'.cell? ⟨Y, 0, none⟩ = some (.slice a6 un' c6') ∧ w'.cell? ⟨Y, 1, none⟩ = some (.int .i64 (g' + 1)) ∧ w'.cell? ⟨ab, aoff + k * 7 + 5, none⟩ = some (.int .i64 v5))
              (first | (refine keepC hbK ?_; assumption) | exact ⟨y0, y1, d5⟩)
              (first
                | (go_at_call 15; refine (HIS.out _ HMc.out.mem).mono ?_; rintro e wK ⟨rfl, hbK⟩; have HMc := Lib.hid (HMc.out.keep hbK); have HBc := Lib.hid (HBc.out.trans (hbK.mono HBc.out.size)))
                | (go_at_call 16; refine (HFi.out _ _ _ HMc.out.mem.rt).mono ?_; rintro e wK ⟨rfl, hbK⟩; have HMc := Lib.hid (HMc.out.keep hbK); have HBc := Lib.hid (HBc.out.trans (hbK.mono HBc.out.size))))
            all_goals
              have HMK := Lib.hid HMc.out
              have HBK := Lib.hid HBc.out
              go_wp2
              go_roundw
              case rel => exact ⟨k + 1, us', g', a6, c6', by omega, by omega, by go_num, Lib.hid ⟨HMK.out, HBK.out⟩⟩
              case measure => simp [intOf]; omega
      · go_wp2
        go_ret
        exact ⟨rfl, HM.out.2⟩
    · go_wp2
      go_ret
      exact ⟨rfl, HM.out.2⟩
end Go.Proofs.Ytdkokfpbmmjfkaa
namespace Go.Proofs.Ytdkokfpbmmjfkaa
open Go.RowKit
set_option linter.unusedVariables false

theorem tabB_len {us : List Un} {g : Int} (h : TabOk us g) : (tabB us g).length ≤ 5000 := by
  have h64 := h.1
  have hg0 := h.2.2.2.1
  have hg1 := h.2.2.2.2
  have h1 := numsB_len [(g + 1).toNat] (by intro x hx; simp at hx; omega)
  have h2 := countsB_len (ns := [(us.length : Int)]) (by intro x hx; simp at hx; omega)
  have h3 := unsB_len h us.length (Nat.le_refl _)
  rw [List.take_length] at h3
  simp only [tabB, List.length_append]
  simp at h1 h2
  omega
set_option maxRecDepth 100000 in
set_option maxHeartbeats 2000000 in
theorem unitBack_walk (w : World) (a : Option Addr) (len cap : Nat) (ls : List (List Int)) (h : RecArg 7 w a len cap ls) (a2 : Option Addr) (len2 cap2 : Nat) (ls2 : List (List Int)) (h2 : RecArg 7 w a2 len2 cap2 ls2) :
    Calls Try.prog 5 #[.slice a len cap, .slice a2 len2 cap2] w fun e w' => e = .returned (.bool true) ∧ Below w.heap.size w w' := by
  obtain ⟨rfl, hlc, hcm, hwide, hrow, -, -⟩ := h
  obtain ⟨rfl, hlc2, hcm2, hwide2, hrow2, -, -⟩ := h2
  unfold maxLen at hcm hcm2
  have HROW := Lib.hid hrow
  have HROW2 := Lib.hid hrow2
  have HAW := Lib.hid (fun W => awake8_any W)
  clear hrow hwide hrow2 hwide2
  go_enter Try.func5, Try.ntmps5
  go_wp2_with fail
  refine (HAW.out _).mono ?_
  rintro e w1 ⟨rfl, hb1⟩
  have HB1 := Lib.hid hb1
  have hs1 := hb1.size
  have HNEW := Lib.hid (tabNew_any (fun k => k < w.heap.size) w1 (fun k hk => by omega))
  clear hb1 HAW
  go_wp2_with fail
  refine HNEW.out.mono ?_
  rintro e w2 ⟨rfl, hq2, hb2⟩
  have HQ2 := Lib.hid hq2
  have HB2 := Lib.hid (HB1.out.trans (hb2.mono HB1.out.size))
  have hs2 := hb2.size
  have HM2 : Hid (PlMem w.heap.size w2.heap.size w1.heap.size [] 0 none 0 (w2.alloc (.cells #[.slice none 0 0, .int .i64 1] 28)) ∧ Below w.heap.size w (w2.alloc (.cells #[.slice none 0 0, .int .i64 1] 28))) := by
    refine Lib.hid ⟨⟨⟨?_, ⟨fun h => by simp [unsI] at h, fun _ => rfl, by simp, by simp [maxLen]⟩⟩, new_cell rfl rfl, new_cell rfl rfl, frozen_new _ _ _ _, frozen_new _ _ _ _, fun x hx => (by cases hx), by omega⟩, HB2.out.alloc (by have := HB2.out.size; omega) _⟩
    refine (HQ2.out.grow (N := fun k => k = w2.heap.size) (bel_alloc (Below.refl _ _) _) (fun k hk => by subst hk; simp)).sub (fun k hk => ?_)
    rcases hk with (h | h) | h
    · exact .inl (by omega)
    · exact .inr h
    · simp at h
  clear hq2 hb2 HNEW HB1 HQ2 HB2
  go_upto_block 0 with (fail)
  generalize w1.heap.size = b at HM2 ⊢
  generalize hY : w2.heap.size = Y at HM2 ⊢
  generalize w2.alloc (.cells #[.slice none 0 0, .int .i64 1] 28) = W2 at HM2 ⊢
  go_cut [7] (fun s7 wx => ∃ (us : List Un) (g : Int) (a5 : Option Addr) (c5 : Nat), s7 = s7 ∧ Hid (PlMem w.heap.size Y b us g a5 c5 wx ∧ Below w.heap.size w wx))
  case first =>
    go_wp2
    go_loopw [7] (fun iv wr => ∃ (k : Nat) (us : List Un) (g : Int) (a5 : Option Addr) (c5 : Nat), k ≤ ls.length ∧ k ≤ 80 ∧ iv = .int .i64 k ∧ Hid (PlMem w.heap.size Y b us g a5 c5 wr ∧ Below w.heap.size w wr)) (fun iv _ => 80 - (intOf iv).toNat)
    case atStart => exact ⟨0, [], 0, none, 0, by omega, by omega, rfl, HM2⟩
    case round =>
      obtain ⟨k, us, g, a5, c5, hk, hk80, rfl, HM⟩ := hrel
      by_cases hlt : k < ls.length
      · by_cases hlt2 : k < 80
        · obtain ⟨ab, aoff, rfl, hcell⟩ := RecRow.below (by decide) HROW.out HM.out.2 (by omega)
          have c0 := hcell k hlt 0 (by decide)
          have c1 := hcell k hlt 1 (by decide)
          have c2 := hcell k hlt 2 (by decide)
          have c3 := hcell k hlt 3 (by decide)
          have c4 := hcell k hlt 4 (by decide)
          have c5' := hcell k hlt 5 (by decide)
          have c6 := hcell k hlt 6 (by decide)
          rw [Nat.add_zero] at c0
          have hab := block_lt_of_cell c0
          clear hcell
          generalize ls[k].getD 0 0 = v0 at c0
          generalize ls[k].getD 1 0 = v1 at c1
          generalize ls[k].getD 2 0 = v2 at c2
          generalize ls[k].getD 3 0 = v3 at c3
          generalize ls[k].getD 4 0 = v4 at c4
          generalize ls[k].getD 5 0 = v5 at c5'
          generalize ls[k].getD 6 0 = v6 at c6
          have y0 := HM.out.1.y0
          have y1 := HM.out.1.y1
          have hYl := block_lt_of_cell y0
          simp only at hYl hab
          have HMD := Lib.hid (HM.out.1.keep (w' := wr.drew) (Below.refl _ wr).drew)
          have HD := Lib.hid (does_any (KP w.heap.size Y) b us g a5 c5 wr.drew v0 v1 v2 v3 v4 v5 v6 HMD.out.mem)
          have HBD := Lib.hid HM.out.2.drew
          clear HM
          have hk0 : (0 : Int) ≤ (k : Int) := by omega
          have hk1 : (k : Int) < (ls.length : Int) := by omega
          have hk2 : (k : Int) < (80 : Int) := by omega
          generalize us.length = un at HD y0
          go_upto_region 8 with (fail)
          go_region_law (first
            | (go_simp; go_at_call 13; refine HD.out.mono ?_; rintro e w4 ⟨us', g', a6, c6', rfl, hm4, ht4, ha4⟩; obtain ⟨z0, z1, ⟨o0, y0'⟩, ⟨o1, y1'⟩, hm5, hb5⟩ := HMD.out.does hm4 ht4 ha4; have HM5 := Lib.hid (show _ ∧ Below w.heap.size w _ from ⟨hm5, HBD.out.trans hb5⟩); have hY4 := block_lt_of_cell y0'; simp only at hY4; clear hm4 ht4 ha4 hm5 hb5))
          all_goals
            go_wp2
            go_roundw
            case rel => exact ⟨k + 1, us', g', a6, c6', by omega, by omega, by go_num, HM5⟩
            case measure => simp [intOf]; omega
        · have hk2 : decide ((k : Int) < (80 : Int)) = false := by simp; omega
          go_wp2
          go_meet
          exact ⟨us, g, a5, c5, trivial, HM⟩
      · have hk1 : decide ((k : Int) < (ls.length : Int)) = false := by simp; omega
        go_wp2
        go_meet
        exact ⟨us, g, a5, c5, trivial, HM⟩
  case rest =>
    obtain ⟨us, g, a5, c5, -, HM⟩ := hcut
    clear HM2
    have htok := HM.out.1.mem.tab.ok
    have HTX := Lib.hid (tabText_any b us g _ HM.out.1.mem.tab)
    have hback := tabC.back (us, g) [] htok
    simp only [List.append_nil] at hback
    have HBK := Lib.hid hback
    have HTL := Lib.hid (tabB_len htok)
    clear hback htok
    go_wp2_with fail
    refine HTX.out.mono ?_
    rintro e w3 ⟨rfl, hb3⟩
    have HM3 := Lib.hid (show PlMem w.heap.size Y b us g a5 c5 w3 ∧ Below w.heap.size w w3 from ⟨HM.out.1.keep hb3, HM.out.2.trans (hb3.mono HM.out.2.size)⟩)
    have HOP := Lib.hid (open_any (bs (tabB us g)) w3 (by rw [bs_size]; have := HTL.out; omega))
    rw [show (bs (tabB us g)).data.toList = tabB us g from by simp [bs]] at HOP
    clear hb3 HTX HM
    generalize bs (tabB us g) = TS at HOP ⊢
    go_wp2_with fail
    refine HOP.out.mono ?_
    rintro e w4 ⟨rfl, hi4, hb4⟩
    have HM4 := Lib.hid (show PlMem w.heap.size Y b us g a5 c5 w4 ∧ Below w.heap.size w w4 from ⟨HM3.out.1.keep hb4, HM3.out.2.trans (hb4.mono HM3.out.2.size)⟩)
    have hR3 : Y < w3.heap.size := block_lt_of_cell HM3.out.1.y0
    have HA3 := Lib.hid (show ∀ x, a5 = some x → x.block < w3.heap.size from fun x hx => HM3.out.1.mem.tab.2.1 x.block (.inr (by rw [hx]; rfl)))
    have hw3 : w.heap.size ≤ w3.heap.size := HM3.out.2.size
    have hR4 : w3.heap.size < w4.heap.size := hi4.lt
    have HRD := Lib.hid (tabRead_any w3.heap.size _ w4 hi4)
    rw [HBK.out] at HRD
    clear hi4 hb4 HOP HM3
    generalize w3.heap.size = R at HRD hR3 hR4 HA3 hw3 ⊢
    go_wp2_with fail
    refine HRD.out.mono ?_
    rintro e w5 ⟨hi5, hcase⟩
    obtain ⟨-, B, rfl, hq5⟩ : (0 : Nat) = 0 ∧ ∃ B, e = .returned (.pointer (some ⟨B, 0, none⟩)) ∧ TabQ (fun k => k < w4.heap.size) B us g w5 := by
      rcases hcase with h | h
      · exact h
      · exact absurd rfl h.1
    simp only at hi5
    have HEN := Lib.hid (end_any R [] 0 w5 hi5.1)
    rw [show endS ([], 0) = ([], 0) from rfl] at HEN
    have HI5 := Lib.hid hi5
    have HQ5 := Lib.hid hq5
    have HY5 := Lib.hid (show w5.cell? ⟨Y, 0, none⟩ = some (.slice a5 us.length c5) ∧ w5.cell? ⟨Y, 1, none⟩ = some (.int .i64 (g + 1)) ∧ w5.frozen? ⟨Y, 0, none⟩ = false ∧ w5.frozen? ⟨Y, 1, none⟩ = false ∧ RT w5 a5 c5 us from by
      have nY : ¬ Y = R := by omega
      have hYl : Y < w4.heap.size := by omega
      exact ⟨(hi5.2.cell (p := ⟨Y, 0, none⟩) hYl nY).trans HM4.out.1.y0, (hi5.2.cell (p := ⟨Y, 1, none⟩) hYl nY).trans HM4.out.1.y1, (hi5.2.frozen (p := ⟨Y, 0, none⟩) hYl nY).trans HM4.out.1.z0, (hi5.2.frozen (p := ⟨Y, 1, none⟩) hYl nY).trans HM4.out.1.z1,
        ⟨HM4.out.1.mem.rt.row.touch hi5.2 (fun x hx e => by have := HA3.out x hx; omega), HM4.out.1.mem.rt.nil, HM4.out.1.mem.rt.len, HM4.out.1.mem.rt.cap⟩⟩)
    have HB5 := Lib.hid (HM4.out.2.trans (hi5.2.below (by omega) (fun k hk e => by omega)))
    have HFR := Lib.hid HM4.out.1.far
    have hlo := HM4.out.1.lo
    clear hi5 hq5 hcase HRD HM4 HBK
    go_wp2_with fail
    refine HEN.out.mono ?_
    rintro e w6 ⟨rfl, hi6⟩
    have HM6 : Hid (PlMem w.heap.size Y B us g a5 c5 w6 ∧ Below w.heap.size w w6) := Lib.hid (by
      have nY : ¬ Y = R := by omega
      have hY5 := block_lt_of_cell HY5.out.1
      simp only at hY5
      have hq6 := HQ5.out.touchK hi6.2 (fun k hk => by omega)
      refine ⟨⟨⟨hq6.sub (fun k hk => ?_), ⟨HY5.out.2.2.2.2.row.touch hi6.2 (fun x hx e => by have := HA3.out x hx; omega), HY5.out.2.2.2.2.nil, HY5.out.2.2.2.2.len, HY5.out.2.2.2.2.cap⟩⟩, (hi6.2.cell (p := ⟨Y, 0, none⟩) hY5 nY).trans HY5.out.1, (hi6.2.cell (p := ⟨Y, 1, none⟩) hY5 nY).trans HY5.out.2.1, (hi6.2.frozen (p := ⟨Y, 0, none⟩) hY5 nY).trans HY5.out.2.2.1, (hi6.2.frozen (p := ⟨Y, 1, none⟩) hY5 nY).trans HY5.out.2.2.2.1, HFR.out, hlo⟩, HB5.out.trans (hi6.2.below (by have := HB5.out.size; omega) (fun k hk e => by omega))⟩
      rcases hk with (h | h) | h
      · omega
      · omega
      · cases a5 with
        | none => simp at h
        | some x => simp at h; have := HA3.out x rfl; omega)
    have HIS := Lib.hid (is_any (KP w.heap.size Y) B us g a5 c5 w6 HM6.out.1.mem)
    clear hi6 HEN HQ5 HY5 HB5 HI5
    have y0 := HM6.out.1.y0
    have y1 := HM6.out.1.y1
    have hYl := block_lt_of_cell y0
    simp only at hYl
    generalize us.length = un at HIS y0
    go_wp2_with fail
    refine HIS.out.mono ?_
    rintro e w7 ⟨rfl, hb7⟩
    have HM7 := Lib.hid (show PlMem w.heap.size Y B us g a5 c5 w7 ∧ Below w.heap.size w w7 from ⟨HM6.out.1.keep hb7, HM6.out.2.trans (hb7.mono HM6.out.2.size)⟩)
    clear hb7 HIS y0 y1 hYl HM6
    go_wp2
    go_loopw [10] (fun iv wr => ∃ (k : Nat) (us : List Un) (g : Int) (a5 : Option Addr) (c5 : Nat), k ≤ ls2.length ∧ k ≤ 40 ∧ iv = .int .i64 k ∧ Hid (PlMem w.heap.size Y B us g a5 c5 wr ∧ Below w.heap.size w wr)) (fun iv _ => 40 - (intOf iv).toNat)
    case atStart => exact ⟨0, us, g, a5, c5, by omega, by omega, rfl, HM7⟩
    case round =>
      clear HM7 HA3 HFR hlo HTL
      obtain ⟨k, us, g, a5, c5, hk, hk40, rfl, HM⟩ := hrel
      by_cases hlt : k < ls2.length
      · by_cases hlt2 : k < 40
        · obtain ⟨ab, aoff, rfl, hcell⟩ := RecRow.below (by decide) HROW2.out HM.out.2 (by omega)
          have c0 := hcell k hlt 0 (by decide)
          have c1 := hcell k hlt 1 (by decide)
          have c2 := hcell k hlt 2 (by decide)
          have c3 := hcell k hlt 3 (by decide)
          have c4 := hcell k hlt 4 (by decide)
          have c5' := hcell k hlt 5 (by decide)
          have c6 := hcell k hlt 6 (by decide)
          rw [Nat.add_zero] at c0
          have hab := block_lt_of_cell c0
          clear hcell
          generalize ls2[k].getD 0 0 = v0 at c0
          generalize ls2[k].getD 1 0 = v1 at c1
          generalize ls2[k].getD 2 0 = v2 at c2
          generalize ls2[k].getD 3 0 = v3 at c3
          generalize ls2[k].getD 4 0 = v4 at c4
          generalize ls2[k].getD 5 0 = v5 at c5'
          generalize ls2[k].getD 6 0 = v6 at c6
          have y0 := HM.out.1.y0
          have y1 := HM.out.1.y1
          have hYl := block_lt_of_cell y0
          simp only at hYl hab
          have HD := Lib.hid (does_any (KP w.heap.size Y) B us g a5 c5 wr.drew v0 v1 v2 v3 v4 v5 v6 (HM.out.1.mem.keep (w' := wr.drew) (Below.refl _ wr).drew))
          have HD2 := Lib.hid (does_any (fun k => KP w.heap.size Y k ∨ k = wr.heap.size) B us g a5 c5 (wr.alloc (.cells #[.slice none 0 0, .int .i64 0] 28)).drew v0 v1 v2 v3 v4 v5 v6 ((HM.out.1.mem.grow (.cells #[.slice none 0 0, .int .i64 0] 28)).keep (w' := (wr.alloc (.cells #[.slice none 0 0, .int .i64 0] 28)).drew) (Below.refl _ _).drew))
          have hk0 : (0 : Int) ≤ (k : Int) := by omega
          have hk1 : (k : Int) < (ls2.length : Int) := by omega
          have hk2 : (k : Int) < (40 : Int) := by omega
          generalize us.length = un at HD HD2 y0
          go_upto_region 16 with (fail)
          go_cut [11, 12] (fun s6 s7 wx => ∃ (B2 : Nat) (us : List Un) (g : Int) (a : Option Addr) (c : Nat), s6 = .pointer (some ⟨B2, 0, none⟩) ∧ s7 = .bool true ∧ Hid (PlMid w.heap.size Y B B2 us g a c w wx))
          case first =>
            go_region_with (first
              | (go_at_call 13; (with_reducible refine HD.out.mono ?_); rintro r w4 ⟨us', g', a6, c6', rfl, hm4, ht4, ha4⟩; have HI4 := Lib.hid (plMid_after (t := 28) HM.out.1 HM.out.2 hm4 ht4.drew0 ha4); clear hm4 ht4 ha4)
              | (go_at_call 13; (with_reducible refine HD2.out.mono ?_); rintro r w4 ⟨us', g', a6, c6', rfl, hm4, ht4, ha4⟩; obtain ⟨y0', y1', y2, y3, y4, hi4⟩ := plMid_before HM.out.1 HM.out.2 hm4 ht4.drew0 ha4; have HI4 := Lib.hid hi4; clear hm4 ht4 ha4 hi4))
            all_goals (go_wp2_with fail; go_meet)
            all_goals exact ⟨_, _, _, _, _, rfl, rfl, HI4⟩
          case rest =>
            obtain ⟨B2, us', g', a6, c6', rfl, rfl, HMid⟩ := hcut
            clear HD HD2 c0 c1 c2 c3 c4 c5' c6 y0 y1 hYl hab
            have HF := Lib.hid HMid.out.fin
            have b0 := HMid.out.b0
            have b1 := HMid.out.b1
            obtain ⟨o0, y0⟩ := HMid.out.y0
            obtain ⟨o1, y1⟩ := HMid.out.y1
            have z0 := HMid.out.z0
            have z1 := HMid.out.z1
            have hne := HMid.out.ne
            have hBl := block_lt_of_cell b0
            have hYl := block_lt_of_cell y0
            simp only at hBl hYl
            have HIS := Lib.hid (fun W hh => is_any (KP w.heap.size Y) B us' g' a6 c6' W hh)
            generalize hul : us'.length = un' at HF b0 HIS
            have HUL := Lib.hid hul
            clear HMid hul HM
            go_upto_region 18 with (fail)
            generalize (wc.setCell ⟨Y, 0, none⟩ (.slice a6 un' c6')).setCell ⟨Y, 1, none⟩ (.int .i64 (g' + 1)) = W at HF ⊢
            clear b0 b1 y0 y1 z0 z1 hBl hYl hne
            have y0 := HF.out.1.y0
            have y1 := HF.out.1.y1
            rw [HUL.out] at y0
            have hYl := block_lt_of_cell y0
            simp only at hYl
            go_wp2_with fail
            refine (HIS.out _ HF.out.1.mem).mono ?_
            rintro r w5 ⟨rfl, hb5⟩
            have HM6 := Lib.hid (show PlMem w.heap.size Y B us' g' a6 c6' w5 ∧ Below w.heap.size w w5 from ⟨HF.out.1.keep hb5, HF.out.2.trans (hb5.mono HF.out.2.size)⟩)
            clear hb5 HF y0 y1 hYl HIS
            go_wp2
            go_roundw
            case rel => exact ⟨k + 1, us', g', a6, c6', by omega, by omega, by go_num, HM6⟩
            case measure => simp [intOf]; omega
        · have hk2 : decide ((k : Int) < (40 : Int)) = false := by simp; omega
          go_wp2
          go_ret
          exact ⟨rfl, HM.out.2⟩
      · have hk1 : decide ((k : Int) < (ls2.length : Int)) = false := by simp; omega
        go_wp2
        go_ret
        exact ⟨rfl, HM.out.2⟩
end Go.Proofs.Ytdkokfpbmmjfkaa
namespace Go.Proofs.Ytdkokfpbmmjfkaa.unitBack
open Go.ChangeShapes Go.WideShapes Go.ChangeAt Go.RowKit
open Go.ChangeMaps (open_string shut_string)
set_option linter.unusedVariables false
theorem walk (w : World) (a0 : Option Addr) (len0 cap0 : Nat) (m0 : List (List Int)) (w0 : RecArg 7 w a0 len0 cap0 m0) (a1 : Option Addr) (len1 cap1 : Nat) (m1 : List (List Int)) (w1 : RecArg 7 w a1 len1 cap1 m1) :
    Calls Try.prog 5 #[.slice a0 len0 cap0, .slice a1 len1 cap1] w fun e w' => e = .returned (.bool true) ∧ Below w.heap.size w w' :=
  unitBack_walk w a0 len0 cap0 m0 w0 a1 len1 cap1 m1 w1

/-! ### THE ROW's STEP -/
theorem own : ownKnob Try.prog.godebug = none := by kernel_rfl
theorem laidOut : laidOutB Try.prog = true := by kernel_rfl
set_option maxRecDepth 100000 in
theorem lifted (os : Os) (started : os.Started) (H : Type) (enc : TypeId × Value → H) :
    ReturnsInHanded {} Try.checked os 5 .any (Rows.unitBackSpec.pre6 enc Try.prog Try.f5 Rows.unitBackRow.domain false) (Rows.unitBackSpec.post enc Try.prog Try.f5 false true false false) := by
  refine returnsInHanded_of_change (C := Try.checked) own started (by kernel_rfl) Try.func5
    (ChangeSpec.witness6 (enc := enc) (C := Try.checked) false ⟨#[], #[.slice none 0 0, .slice none 0 0], []⟩ 8 (by kernel_rfl) (by kernel_rfl) (by kernel_rfl) (by kernel_rfl)) ?_
  intro W base args ds gs before hval0 hW hcnd _
  have hval : ∀ (j : Nat) t v, Try.f5.params[j]? = some t → args[j]? = some v → Value.okWide Try.prog W .any base t v := hval0
  have hW' := hW
  obtain ⟨p, q, hA0, hV, rfl, hfz, hnd⟩ := hW
  have hA : DataW.TrodAll enc Try.prog W 0 (fun _ => true) true Try.f5.params.toList args.toList ds p := hA0
  rw [Try.params5] at hA hval
  obtain ⟨v0, vs0, d0, ds0, p0, q0, hargs, rfl, rfl, h0, r0⟩ := trodAll_cons hA
  obtain ⟨v1, vs1, d1, ds1, p1, q1, rfl, rfl, rfl, h1, r1⟩ := trodAll_cons r0
  obtain ⟨rfl, rfl, rfl⟩ := trodAll_nil r1
  obtain rfl : args = #[v0, v1] := by cases args; simp_all
  obtain ⟨rfl, rfl⟩ := trodVars_none hV
  have k0 := h0
  have lt0 : ∀ x ∈ p0, x.block < W.heap.size := by obtain ⟨m, hm⟩ := k0; exact DataW.trod_lt m _ _ _ hm
  obtain ⟨a0, len0, cap0, rfl⟩ := okWide_slice Try.underlying22 (hval 0 22 v0 rfl rfl)
  obtain ⟨m0, w0⟩ : ∃ m, RecArg 7 W a0 len0 cap0 m := by
    obtain ⟨fuel, hf⟩ := h0
    exact acts8_of hf
  have k1 := h1
  have lt1 : ∀ x ∈ p1, x.block < W.heap.size := by obtain ⟨m, hm⟩ := k1; exact DataW.trod_lt m _ _ _ hm
  obtain ⟨a1, len1, cap1, rfl⟩ := okWide_slice Try.underlying22 (hval 1 22 v1 rfl rfl)
  obtain ⟨m1, w1⟩ : ∃ m, RecArg 7 W a1 len1 cap1 m := by
    obtain ⟨fuel, hf⟩ := h1
    exact acts8_of hf
  clear hA0 hval0
  refine (walk W a0 len0 cap0 m0 w0 a1 len1 cap1 m1 w1).mono fun e W' ⟨he, bel⟩ => ?_
  subst he
  exact ⟨_, rfl, _, _, _, [], _, [], hW', trodAll_mk1 (shut_bool Try.underlying4 _), (trodAll_cons_mk (Below.trod laidOut (by kernel_rfl) (of_decide_eq_true (by kernel_rfl)) k0 bel lt0) (trodAll_cons_mk (Below.trod laidOut (by kernel_rfl) (of_decide_eq_true (by kernel_rfl)) k1 bel lt1) trodAll_mk0)), rfl, bel.frame _, fun h => by cases h⟩

theorem over : Rows.unitBackRow.holds Try.pinned (OpenSpec.ofChange Rows.unitBackSpec) :=
  OpenClaim.holds_of_wide 5 Try.f5 rfl rfl rfl rfl rfl rfl rfl ⟨rfl, rfl, rfl, rfl, rfl⟩ rfl rfl rfl rfl rfl (by kernel_rfl) Try.func5 (by kernel_rfl)
    (of_decide_eq_true (by kernel_rfl)) (by unfold Func.isWrapper; first | (rw [if_pos (by decide +kernel)]; kernel_rfl) | (rw [if_neg (by decide +kernel)]; exact ⟨rfl, rfl⟩))
    (fun os started H enc _ => lifted os started H enc)

end Go.Proofs.Ytdkokfpbmmjfkaa.unitBack
namespace Go.Proofs.Ytdkokfpbmmjfkaa
theorem unitBack_proved : Rows.UnitBackSaid := unitBack.over
end Go.Proofs.Ytdkokfpbmmjfkaa
