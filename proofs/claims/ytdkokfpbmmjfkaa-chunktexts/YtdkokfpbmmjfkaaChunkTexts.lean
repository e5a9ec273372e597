/-
  PROVED: for every piece and every text, the law ChunkTexts answers true, and all read afterwards as before. No condition of our own.
-/
import Derived.Test.YtdkokfpbmmjfkaaOrdMath
import Derived.Test.YtdkokfpbmmjfkaaWireOut
import Derived.OpenShut
import Derived.ProofKit
import Derived.ChangeSlices
import Derived.Test.YtdkokfpbmmjfkaaRecs
import Derived.Deep.Slices
import Derived.Test.YtdkokfpbmmjfkaaChunk5
import Derived.Test.YtdkokfpbmmjfkaaChunk8
import Derived.Test.YtdkokfpbmmjfkaaWireRef
import Derived.Test.YtdkokfpbmmjfkaaChunk1
import Derived.Test.YtdkokfpbmmjfkaaSums
import Derived.Below
import Derived.Deep.LoopGhost
import Derived.Deep.DeepCutAuto
import Derived.Deep.CutBlock
import Derived.Test.YtdkokfpbmmjfkaaOrdPut
import Derived.WalkKit
import Derived.ShutString
import Derived.ChangeOld
import Derived.SliceStrings
namespace Go.Proofs.Ytdkokfpbmmjfkaa
open Go.RowKit
set_option linter.unusedVariables false

/-- What Parse answers. -/
def OParsePost (w : World) (t : List Ord × Nat) (r : Ending) (w' : World) : Prop :=
  ∃ a c, r = .returned (.tuple #[.slice a t.1.length c, .int .i64 (t.2 : Nat)]) ∧ OrdRow w' a t.1 ∧ Below w.heap.size w w'
theorem awakeB : batchB [⟨1, 1, 2, -1⟩] = [1, 1, 1, 4, 1] := by decide +kernel
theorem awakeD : BatchDom [⟨1, 1, 2, -1⟩] := ⟨by decide, by intro o ho; simp at ho; subst ho; rfl⟩
theorem awakeP : parseO [1, 1, 1, 4, 1] = ([⟨1, 1, 2, -1⟩], 0) := by rw [← awakeB]; exact parseO_back _ awakeD
theorem awakeL : (bs [1, 1, 1, 4, 1]).toList = [1, 1, 1, 4, 1] := by simp [bs]
theorem keep8 {W w' : World} (hb : Below W.heap.size W w') {X Y o p : Nat} {x y z u x' y' z' u' : Value} (h : (W.cell? ⟨X, o, none⟩ = some x ∧ W.cell? ⟨X, o + 1, none⟩ = some y ∧ W.cell? ⟨X, o + 2, none⟩ = some z ∧ W.cell? ⟨X, o + 3, none⟩ = some u) ∧ (W.cell? ⟨Y, p, none⟩ = some x' ∧ W.cell? ⟨Y, p + 1, none⟩ = some y' ∧ W.cell? ⟨Y, p + 2, none⟩ = some z' ∧ W.cell? ⟨Y, p + 3, none⟩ = some u')) :
    (w'.cell? ⟨X, o, none⟩ = some x ∧ w'.cell? ⟨X, o + 1, none⟩ = some y ∧ w'.cell? ⟨X, o + 2, none⟩ = some z ∧ w'.cell? ⟨X, o + 3, none⟩ = some u) ∧ (w'.cell? ⟨Y, p, none⟩ = some x' ∧ w'.cell? ⟨Y, p + 1, none⟩ = some y' ∧ w'.cell? ⟨Y, p + 2, none⟩ = some z' ∧ w'.cell? ⟨Y, p + 3, none⟩ = some u') := by
  have hX := block_lt_of_cell h.1.1
  have hY := block_lt_of_cell h.2.1
  exact ⟨⟨(hb.cell (p := ⟨X, o, none⟩) hX).trans h.1.1, (hb.cell (p := ⟨X, o + 1, none⟩) hX).trans h.1.2.1, (hb.cell (p := ⟨X, o + 2, none⟩) hX).trans h.1.2.2.1, (hb.cell (p := ⟨X, o + 3, none⟩) hX).trans h.1.2.2.2⟩,
    ⟨(hb.cell (p := ⟨Y, p, none⟩) hY).trans h.2.1, (hb.cell (p := ⟨Y, p + 1, none⟩) hY).trans h.2.2.1, (hb.cell (p := ⟨Y, p + 2, none⟩) hY).trans h.2.2.2.1, (hb.cell (p := ⟨Y, p + 3, none⟩) hY).trans h.2.2.2.2⟩⟩
end Go.Proofs.Ytdkokfpbmmjfkaa
namespace Go.Proofs.Ytdkokfpbmmjfkaa
open Go.RowKit Go.WideShapes Go.ChangeShapes
set_option linter.unusedVariables false

/-- A list of numbers came in. -/
def NumArg (k : IntKind) (w : World) (a : Option Addr) (len cap : Nat) (ns : List Int) : Prop :=
  len = ns.length ∧ len ≤ maxLen ∧ len ≤ cap ∧ cap ≤ maxLen ∧ IntRow k w a ns ∧ (a = none → ns = []) ∧ ∀ n ∈ ns, (Lit.int k n).wf = true
theorem cell_addN {w : World} {b off j : Nat} {v : Value} (h : w.cell? ((⟨b, off, none⟩ : Addr).add j) = some v) : w.cell? ⟨b, off + j, none⟩ = some v := by
  by_cases hz : j = 0
  · subst hz; simpa [Addr.add] using h
  · simpa [Addr.add, hz] using h
theorem wf_i64 {n : Int} (h : (Lit.int .i64 n).wf = true) : -9223372036854775808 ≤ n ∧ n ≤ 9223372036854775807 := by
  simpa [Lit.wf, IntKind.min, IntKind.max, IntKind.signed, IntKind.bits] using h
theorem wf_u64 {n : Int} (h : (Lit.int .u64 n).wf = true) : 0 ≤ n ∧ n ≤ 18446744073709551615 := by
  simpa [Lit.wf, IntKind.min, IntKind.max, IntKind.signed, IntKind.bits] using h
theorem nums_of {H : Type} {enc : TypeId × Value → H} {P : Program} {w : World} {base : Nat} {sp : Nat → Bool} {held : Bool} {fuel : Nat} {a : Option Addr} {len cap : Nat} {t e : TypeId} {k : IntKind} {x : DataW H × List MemPlace}
    (ht : P.underlying t = some (.slice e)) (he : P.underlying e = some (.int k)) (hc : P.cellsOf e = 1)
    (h : DataW.trod enc P w base sp held fuel t [.slice a len cap] = some x) : ∃ ns, NumArg k w a len cap ns := by
  rcases open_ints ht he hc h with ⟨hcs, _⟩ | ⟨ad, l, c, zs, hcs, _, hl, hm, hz, _, hcell, hwf⟩
  · simp at hcs
    obtain ⟨rfl, rfl, rfl⟩ := hcs
    exact ⟨[], rfl, by simp [maxLen], Nat.le_refl _, by simp [maxLen], fun h => by simp at h, fun _ => rfl, by simp⟩
  · simp at hcs
    obtain ⟨rfl, rfl, rfl⟩ := hcs
    have hzl : len ≤ zs.length := by rw [hz]; split <;> omega
    refine ⟨zs.take len, by simp; omega, by omega, hl, hm, fun h0 => ?_, (fun h => by cases h), fun n hn => hwf n (List.mem_of_mem_take hn)⟩
    have h0' : 0 < len := by simp at h0; omega
    obtain ⟨b, off, spot⟩ := ad
    have h00 := hcell 0 (by omega)
    have hspot : spot = none := by simpa [Addr.add] using World.cell?_spot h00
    subst hspot
    refine ⟨b, off, rfl, fun i hi => ?_⟩
    have hi' : i < len := by simp at hi; omega
    have := cell_addN (hcell i (by omega))
    rw [List.getElem_take]
    rw [this]
    congr 2
    simp [List.getD, List.getElem?_eq_getElem (show i < zs.length by omega)]
theorem IntRow.below {k : IntKind} {w w' : World} {a : Option Addr} {ns : List Int} (h : IntRow k w a ns) (hb : Below w.heap.size w w') : IntRow k w' a ns := by
  intro h0
  obtain ⟨b, off, e, hc⟩ := h h0
  exact ⟨b, off, e, fun i hi => by rw [hb.cell (p := ⟨b, off + i, none⟩) (block_lt_of_cell (hc i hi))]; exact hc i hi⟩
theorem IntRow.touch {k : IntKind} {S : Nat → Prop} {w w' : World} {a : Option Addr} {ns : List Int} (h : IntRow k w a ns) (ht : Touch S w w') (hs : ∀ x, a = some x → ¬ S x.block) : IntRow k w' a ns := by
  intro h0
  obtain ⟨b, off, e, hc⟩ := h h0
  exact ⟨b, off, e, fun i hi => by rw [ht.cell (p := ⟨b, off + i, none⟩) (block_lt_of_cell (hc i hi)) (by have := hs _ e; exact this)]; exact hc i hi⟩
theorem IntRow.take {k : IntKind} {w : World} {a : Option Addr} {ns : List Int} (h : IntRow k w a ns) (n : Nat) : IntRow k w a (ns.take n) := by
  intro h0
  have h0' : 0 < ns.length := by simp at h0; omega
  obtain ⟨b, off, e, hc⟩ := h h0'
  refine ⟨b, off, e, fun i hi => ?_⟩
  have : i < ns.length := by simp at hi; omega
  rw [List.getElem_take]
  exact hc i this
theorem IntRow.lt {k : IntKind} {w : World} {a : Option Addr} {ns : List Int} (h : IntRow k w a ns) (h0 : 0 < ns.length) : ∃ b off, a = some ⟨b, off, none⟩ ∧ b < w.heap.size := by
  obtain ⟨b, off, e, hc⟩ := h h0
  exact ⟨b, off, e, block_lt_of_cell (hc 0 h0)⟩
end Go.Proofs.Ytdkokfpbmmjfkaa
namespace Go.Proofs.Ytdkokfpbmmjfkaa
open Go.RowKit Go.WideShapes Go.ChangeShapes
set_option linter.unusedVariables false

def RecArg (k : Nat) (w : World) (a : Option Addr) (len cap : Nat) (ls : List (List Int)) : Prop :=
  len = ls.length ∧ len ≤ cap ∧ cap ≤ maxLen ∧ Wide k ls ∧ RecRow k w a ls ∧ (a = none → ls = []) ∧ ∀ r ∈ ls, ∀ y ∈ r, B64 y
theorem RecArg.below {k : Nat} (hk : 0 < k) {w w' : World} {a : Option Addr} {len cap : Nat} {ls : List (List Int)} (h : RecArg k w a len cap ls) (hb : Below w.heap.size w w') : RecArg k w' a len cap ls :=
  ⟨h.1, h.2.1, h.2.2.1, h.2.2.2.1, h.2.2.2.2.1.below hk hb, h.2.2.2.2.2⟩
theorem list_4 {α : Type} {l : List α} (h : l.length = 4) : ∃ a b c d, l = [a, b, c, d] := by
  match l, h with
  | [a, b, c, d], _ => exact ⟨a, b, c, d, rfl⟩
theorem list_6 {α : Type} {l : List α} (h : l.length = 6) : ∃ a b c d e f, l = [a, b, c, d, e, f] := by
  match l, h with
  | [a, b, c, d, e, f], _ => exact ⟨a, b, c, d, e, f, rfl⟩
theorem list_7 {α : Type} {l : List α} (h : l.length = 7) : ∃ a b c d e f g, l = [a, b, c, d, e, f, g] := by
  match l, h with
  | [a, b, c, d, e, f, g], _ => exact ⟨a, b, c, d, e, f, g, rfl⟩
theorem recArg_of (k : Nat) (hk : 0 < k) {w : World} {ad : Addr} {len cap : Nat} (hl : len ≤ cap) (hm : cap ≤ maxLen)
    (each : ∀ i, i < len → ∃ r : List Int, r.length = k ∧ (∀ j, j < k → w.cell? (ad.add (i * k + j)) = some (.int .i64 (r.getD j 0))) ∧ ∀ y ∈ r, B64 y) : ∃ ls, RecArg k w (some ad) len cap ls := by
  let F : Nat → List Int := fun i => if hi : i < len then (each i hi).choose else []
  have hF : ∀ i, i < len → (F i).length = k ∧ (∀ j, j < k → w.cell? (ad.add (i * k + j)) = some (.int .i64 ((F i).getD j 0))) ∧ ∀ y ∈ F i, B64 y := by
    intro i hi
    have := (each i hi).choose_spec
    simp only [F, hi, dif_pos]
    exact this
  clear_value F
  refine ⟨(List.range len).map F, by simp, hl, hm, fun x hx => ?_, fun h0 => ?_, fun h => (by cases h), fun x hx => ?_⟩
  · simp only [List.mem_map, List.mem_range] at hx
    obtain ⟨i, hi, rfl⟩ := hx
    exact (hF i hi).1
  · obtain ⟨b, off, spot⟩ := ad
    have hlen : 0 < len := by simpa using h0
    have h00 := (hF 0 hlen).2.1 0 hk
    have hspot : spot = none := by simpa [Addr.add] using World.cell?_spot h00
    subst hspot
    refine ⟨b, off, rfl, fun i hi j hj => ?_⟩
    have hil : i < len := by simpa using hi
    simp only [List.getElem_map, List.getElem_range]
    rw [Nat.add_assoc]
    exact cell_addR ((hF i hil).2.1 j hj)
  · simp only [List.mem_map, List.mem_range] at hx
    obtain ⟨i, hi, rfl⟩ := hx
    exact (hF i hi).2.2
theorem acts8_of {H : Type} {enc : TypeId × Value → H} {w : World} {base : Nat} {sp : Nat → Bool} {held : Bool} {fuel : Nat} {a : Option Addr} {len cap : Nat} {x : DataW H × List MemPlace} (h : DataW.trod enc Try.prog w base sp held fuel 22 [.slice a len cap] = some x) : ∃ ls, RecArg 7 w a len cap ls := by
  rcases Deep.open_slice Try.underlying22 h with ⟨hcs, _⟩ | ⟨ad, l, c, m, n, D, Pl, hcs, _, hl, hm, hmm, _, hx⟩
  · simp at hcs
    obtain ⟨rfl, rfl, rfl⟩ := hcs
    exact ⟨[], rfl, Nat.le_refl _, by simp [maxLen], fun x hx => by simp at hx, fun h => by simp at h, fun _ => rfl, fun x hx => by simp at hx⟩
  · simp at hcs
    obtain ⟨rfl, rfl, rfl⟩ := hcs
    have hmc : len ≤ m := by rw [hmm]; split <;> omega
    have cS : Try.prog.cellsOf 32 = 7 := by kernel_rfl
    have c_int : Try.prog.cellsOf 3 = 1 := by kernel_rfl
    have c_int64 : Try.prog.cellsOf 2 = 1 := by kernel_rfl
    rw [cS] at hx
    have each : ∀ i, i < len → ∃ r : List Int, r.length = 7 ∧ (∀ j, j < 7 → w.cell? (ad.add (i * 7 + j)) = some (.int .i64 (r.getD j 0))) ∧ ∀ y ∈ r, B64 y := by
      intro i hi
      obtain ⟨cs', hc, ht⟩ := hx i (by omega)
      obtain ⟨ys, n', hn', hy, hlen, hyl, hf⟩ := DataW.trod_struct Try.underlying32 ht
      obtain ⟨_, hcl, hat⟩ := World.cells?_some hc
      obtain ⟨v0, v1, v2, v3, v4, v5, v6, rfl⟩ := list_7 hcl
      obtain ⟨y0, y1, y2, y3, y4, y5, y6, rfl⟩ := list_7 (show ys.length = 7 by simpa using hyl)
      have g0 : DataW.trod enc Try.prog w base sp held n' 3 [v0] = some y0 := by simpa [c_int] using hf 0 _ rfl
      have g1 : DataW.trod enc Try.prog w base sp held n' 3 [v1] = some y1 := by simpa [c_int] using hf 1 _ rfl
      have g2 : DataW.trod enc Try.prog w base sp held n' 3 [v2] = some y2 := by simpa [c_int] using hf 2 _ rfl
      have g3 : DataW.trod enc Try.prog w base sp held n' 2 [v3] = some y3 := by simpa [c_int64] using hf 3 _ rfl
      have g4 : DataW.trod enc Try.prog w base sp held n' 2 [v4] = some y4 := by simpa [c_int64] using hf 4 _ rfl
      have g5 : DataW.trod enc Try.prog w base sp held n' 2 [v5] = some y5 := by simpa [c_int64] using hf 5 _ rfl
      have g6 : DataW.trod enc Try.prog w base sp held n' 2 [v6] = some y6 := by simpa [c_int64] using hf 6 _ rfl
      obtain ⟨k0, q0, _, wf0⟩ := DataW.trod_int Try.underlying3 g0
      obtain ⟨k1, q1, _, wf1⟩ := DataW.trod_int Try.underlying3 g1
      obtain ⟨k2, q2, _, wf2⟩ := DataW.trod_int Try.underlying3 g2
      obtain ⟨k3, q3, _, wf3⟩ := DataW.trod_int Try.underlying2 g3
      obtain ⟨k4, q4, _, wf4⟩ := DataW.trod_int Try.underlying2 g4
      obtain ⟨k5, q5, _, wf5⟩ := DataW.trod_int Try.underlying2 g5
      obtain ⟨k6, q6, _, wf6⟩ := DataW.trod_int Try.underlying2 g6
      simp only [List.cons.injEq, and_true] at q0 q1 q2 q3 q4 q5 q6
      subst q0 q1 q2 q3 q4 q5 q6
      refine ⟨[k0, k1, k2, k3, k4, k5, k6], rfl, fun j hj => ?_, fun y hy => ?_⟩
      · have a0 := hat j (by simpa using hj)
        rw [Deep.add_add] at a0
        rw [a0]
        have : j = 0 ∨ j = 1 ∨ j = 2 ∨ j = 3 ∨ j = 4 ∨ j = 5 ∨ j = 6 := by omega
        rcases this with rfl | rfl | rfl | rfl | rfl | rfl | rfl <;> rfl
      · simp only [List.mem_cons, List.not_mem_nil, or_false] at hy
        rcases hy with rfl | rfl | rfl | rfl | rfl | rfl | rfl
        · exact wf_i64 wf0
        · exact wf_i64 wf1
        · exact wf_i64 wf2
        · exact wf_i64 wf3
        · exact wf_i64 wf4
        · exact wf_i64 wf5
        · exact wf_i64 wf6
    exact recArg_of 7 (by decide) hl hm each

end Go.Proofs.Ytdkokfpbmmjfkaa
namespace Go.Proofs.Ytdkokfpbmmjfkaa
open Go.RowKit
set_option linter.unusedVariables false

theorem andM (a : Int) (m : Nat) (mi : Int) (hm : mi = (m : Int)) (h : m ≤ 9223372036854775807) : ∃ k : Nat, k ≤ m ∧ bits .and .i64 a mi = (k : Int) := by
  subst hm
  have e : (BitVec.ofInt 64 (m : Int)).toNat = m := by simp; omega
  have hle : (BitVec.ofInt 64 a &&& BitVec.ofInt 64 (m : Int)).toNat ≤ m := by
    rw [BitVec.toNat_and, e]; exact Nat.and_le_right
  refine ⟨(BitVec.ofInt 64 a &&& BitVec.ofInt 64 (m : Int)).toNat, hle, ?_⟩
  show IntKind.i64.wrap ((BitVec.ofInt 64 a &&& BitVec.ofInt 64 (m : Int)).toNat : Int) = _
  rw [IntKind.wrap_i64]
  omega
/-- Records as orders. -/
def toOrd (r : List Int) : Ord := ⟨r.getD 0 0, r.getD 1 0, r.getD 2 0, r.getD 3 0⟩
theorem toOrd_ints (r : List Int) (h : r.length = 4) : (toOrd r).ints = r := by
  obtain ⟨a, b, c, d, rfl⟩ := list_4 h
  rfl
theorem toOrds {ls : List (List Int)} (h : Wide 4 ls) : ordsI (ls.map toOrd) = ls := by
  unfold ordsI
  rw [List.map_map]
  have : ∀ x ∈ ls, (Ord.ints ∘ toOrd) x = x := fun x hx => toOrd_ints x (h x hx)
  conv => rhs; rw [← List.map_id ls]
  exact List.map_congr_left this
def OrdArg (w : World) (a : Option Addr) (len cap : Nat) (l : List Ord) : Prop :=
  len = l.length ∧ len ≤ cap ∧ cap ≤ maxLen ∧ OrdRow w a l ∧ (a = none → l = []) ∧ ∀ o ∈ l, OrdOk o
theorem RecArg.ords {w : World} {a : Option Addr} {len cap : Nat} {ls : List (List Int)} (h : RecArg 4 w a len cap ls) : OrdArg w a len cap (ls.map toOrd) := by
  obtain ⟨h1, h2, h3, h4, h5, h6, h7⟩ := h
  refine ⟨by rw [h1]; simp, h2, h3, by unfold OrdRow; rw [toOrds h4]; exact h5, fun e => by rw [h6 e]; rfl, fun o ho => ?_⟩
  simp only [List.mem_map] at ho
  obtain ⟨r, hr, rfl⟩ := ho
  obtain ⟨a, b, c, d, rfl⟩ := list_4 (h4 r hr)
  have := h7 _ hr
  exact ⟨this a (by simp), this b (by simp), this c (by simp), this d (by simp)⟩
theorem OrdArg.below {w w' : World} {a : Option Addr} {len cap : Nat} {l : List Ord} (h : OrdArg w a len cap l) (hb : Below w.heap.size w w') : OrdArg w' a len cap l := ⟨h.1, h.2.1, h.2.2.1, h.2.2.2.1.below hb, h.2.2.2.2⟩
theorem dom_move (u a b : Nat) (hu : u ≤ 63) (ha : a ≤ 127) (hb : b ≤ 127) : OrdDom ⟨1, 1 + u, 1 + a, b⟩ := by
  have h1 : numQ (1 + u) = true := by simp [numQ]; omega
  have h2 : placeQ (1 + a) = true := by simp [placeQ]; omega
  have h3 : placeQ b = true := by simp [placeQ]; omega
  simp [OrdDom, checkN, h1, h2, h3, okN]
theorem dom_hit (u a : Nat) (hu : u ≤ 63) (ha : a ≤ 127) : OrdDom ⟨2, 1 + u, 1 + a, 0⟩ := by
  have h1 : numQ (1 + u) = true := by simp [numQ]; omega
  have h2 : numQ (1 + a) = true := by simp [numQ]; omega
  simp [OrdDom, checkN, h1, h2, okN]
theorem dom_build (a b : Nat) (ha : a ≤ 127) (hb : b ≤ 127) : OrdDom ⟨3, 0, 1 + a, b⟩ := by
  have h2 : kindQ (1 + a) = true := by simp [kindQ]; omega
  have h3 : placeQ b = true := by simp [placeQ]; omega
  simp [OrdDom, checkN, h2, h3, okN]
theorem dom_halt (u : Nat) (hu : u ≤ 63) : OrdDom ⟨4, 1 + u, 0, 0⟩ := by
  have h1 : numQ (1 + u) = true := by simp [numQ]; omega
  simp [OrdDom, checkN, h1, okN]
end Go.Proofs.Ytdkokfpbmmjfkaa
namespace Go.Proofs.Ytdkokfpbmmjfkaa
open Go.RowKit
set_option linter.unusedVariables false

theorem pcAt_ok (t : Int) (l : List UInt8) (k : Nat) (h0 : 0 ≤ t) (h1 : t ≤ 65535) (hl : l.length ≤ 65536) (hk : k < cntN l.length) : checkP (pcAt t l k) = 0 := by
  have h100 : 100 * k < l.length := by unfold cntN at hk; omega
  unfold checkP pcAt
  simp only [List.length_take, List.length_drop]
  rw [if_neg (by omega), if_neg (by omega), if_neg]
  rw [countP_nat]
  omega
theorem told11_any (p : Pc) (w : World) : Calls Try.prog 31 #[pcV p] w fun r w' => r = .returned (pcV p) ∧ Below w.heap.size w w' := by
  obtain ⟨p0, p1, p2, p3, p4⟩ := p
  unfold pcV
  simp only
  have HB := Lib.hid (show Below w.heap.size w ((w.alloc (.cells #[.int .i64 p0, .int .i64 p1, .int .u64 (p2 : Int), .int .i64 p3, .string (bs p4)] 64)).alloc (.cells #[.int .i64 p0, .int .i64 p1, .int .u64 (p2 : Int), .int .i64 p3, .string (bs p4)] 71)) from bel_alloc (bel_alloc (Below.refl _ _) _) _)
  go_enter Try.func31, Try.ntmps31
  go_wp2
  exact bodyPost_ret (v := .agg #[.int .i64 p0, .int .i64 p1, .int .u64 (p2 : Int), .int .i64 p3, .string (bs p4)]) (by simp [results, Try.results31, go_sem]) rfl ⟨rfl, HB.out⟩
theorem rpc_same (a b c d : Int) (t : ByteArray) (w : World) : (binOp .neq 71 (.agg #[.int .i64 a, .int .i64 b, .int .u64 c, .int .i64 d, .string t]) (.agg #[.int .i64 a, .int .i64 b, .int .u64 c, .int .i64 d, .string t])).run Try.prog w = .ok (.bool false) w := by
  have := str_eq t
  go_simp
theorem head_same (a b c : Int) (w : World) : (binOp .neq 103 (.agg #[.int .i64 a, .int .i64 b, .int .u64 c]) (.agg #[.int .i64 a, .int .i64 b, .int .u64 c])).run Try.prog w = .ok (.bool false) w := by
  rw [head_neq]; simp
/-- Both rows of pieces. -/
structure SsMem (w : World) (t : Int) (l : List UInt8) (a a2 : Option Addr) (c c2 : Nat) (wr : World) : Prop where
  r1 : OwnV 64 5 w.heap.size a c ((splitL t l).map pcCells) wr
  r2 : OwnV 71 5 w.heap.size a2 c2 ((splitL t l).map pcCells) wr
  bel : Below w.heap.size w wr
theorem SsMem.keep {w : World} {t : Int} {l : List UInt8} {a a2 : Option Addr} {c c2 : Nat} {wr w' : World} (h : SsMem w t l a a2 c c2 wr) (hb : Below wr.heap.size wr w') : SsMem w t l a a2 c c2 w' :=
  ⟨h.r1.touch (touch_of_below (S := fun _ => False) hb) (fun _ _ => id), h.r2.touch (touch_of_below (S := fun _ => False) hb) (fun _ _ => id), h.bel.trans (hb.mono h.bel.size)⟩
theorem keep5 {W w' : World} (hb : Below W.heap.size W w') {p q r t u : Addr} {x y z v y' : Value} (h : W.cell? p = some x ∧ W.cell? q = some y ∧ W.cell? r = some z ∧ W.cell? t = some v ∧ W.cell? u = some y') :
    w'.cell? p = some x ∧ w'.cell? q = some y ∧ w'.cell? r = some z ∧ w'.cell? t = some v ∧ w'.cell? u = some y' :=
  ⟨(hb.cell (block_lt_of_cell h.1)).trans h.1, (hb.cell (block_lt_of_cell h.2.1)).trans h.2.1, (hb.cell (block_lt_of_cell h.2.2.1)).trans h.2.2.1, (hb.cell (block_lt_of_cell h.2.2.2.1)).trans h.2.2.2.1, (hb.cell (block_lt_of_cell h.2.2.2.2)).trans h.2.2.2.2⟩
theorem keep15 {W w' : World} (hb : Below W.heap.size W w') {p q r t u p1 q1 r1 t1 u1 p2 q2 r2 t2 u2 : Addr} {x y z v y' x1 y1 z1 v1 y1' x2 y2 z2 v2 y2' : Value} (h : (W.cell? p = some x ∧ W.cell? q = some y ∧ W.cell? r = some z ∧ W.cell? t = some v ∧ W.cell? u = some y') ∧ (W.cell? p1 = some x1 ∧ W.cell? q1 = some y1 ∧ W.cell? r1 = some z1 ∧ W.cell? t1 = some v1 ∧ W.cell? u1 = some y1') ∧ (W.cell? p2 = some x2 ∧ W.cell? q2 = some y2 ∧ W.cell? r2 = some z2 ∧ W.cell? t2 = some v2 ∧ W.cell? u2 = some y2')) :
    (w'.cell? p = some x ∧ w'.cell? q = some y ∧ w'.cell? r = some z ∧ w'.cell? t = some v ∧ w'.cell? u = some y') ∧ (w'.cell? p1 = some x1 ∧ w'.cell? q1 = some y1 ∧ w'.cell? r1 = some z1 ∧ w'.cell? t1 = some v1 ∧ w'.cell? u1 = some y1') ∧ (w'.cell? p2 = some x2 ∧ w'.cell? q2 = some y2 ∧ w'.cell? r2 = some z2 ∧ w'.cell? t2 = some v2 ∧ w'.cell? u2 = some y2') :=
  ⟨keep5 hb h.1, keep5 hb h.2.1, keep5 hb h.2.2⟩
set_option maxRecDepth 100000 in
set_option maxHeartbeats 2000000 in
theorem chunkSplits_walk (w : World) (a0 : ByteArray) (w0 : a0.size ≤ maxLen) (turn : Int) :
    Calls Try.prog 9 #[.string a0, .int .i64 turn] w fun e w' => e = .returned (.bool true) ∧ Below w.heap.size w w' := by
  have HAW := Lib.hid (fun W => awake11_any W)
  obtain ⟨q, hq, eq⟩ := andM turn 65535 65535 rfl (by decide)
  have HC5 := Lib.hid (fun W => chCount_any (-5) (by unfold B64; omega) W)
  rw [show countP (-5) = 0 from rfl] at HC5
  go_enter Try.func9, Try.ntmps9
  go_wp2_with fail
  refine (cut_any a0 2000 _ w0 (by decide)).mono ?_
  rintro e w' ⟨rfl, rfl⟩
  have hs := cutB_le a0 2000
  rw [← bs_eta (cutB a0 2000)] at hs ⊢
  generalize (cutB a0 2000).data.toList = l at hs ⊢
  have hz := bs_size l
  rw [hz] at hs
  have HSP := Lib.hid (fun W => split_any (q : Int) l W (by omega))
  have HRS := Lib.hid (fun W => refSplit_any (q : Int) l W (by omega))
  go_wp2_with fail
  refine (HSP.out _).mono ?_
  rintro r w1 ⟨a, c, rfl, hown, hb1⟩
  have HO1 := Lib.hid hown
  have HB1 := Lib.hid hb1
  clear hown hb1 HSP
  go_wp2_with fail
  refine (HRS.out _).mono ?_
  rintro r w2 ⟨a2, c2, rfl, hown2, hb2⟩
  have HM2 : Hid (SsMem w (q : Int) l a a2 c c2 w2) := Lib.hid ⟨HO1.out.touch (touch_of_below (S := fun _ => False) hb2) (fun _ _ => id), ⟨hown2.1, fun x hx => by have := hown2.2 x hx; have := HB1.out.size; omega⟩, HB1.out.trans (hb2.mono HB1.out.size)⟩
  have hlen : (splitL (q : Int) l).length = cntN l.length := splitK_len _ _ _
  have hcn : cntN l.length ≤ 20 := by unfold cntN; omega
  have HCL := Lib.hid (fun W => chCount_any (l.length : Int) (by unfold B64; omega) W)
  rw [countP_nat] at HCL
  simp only [hlen]
  generalize hn : cntN l.length = n at hcn HCL
  have HNN := Lib.hid hn
  clear hown2 hb2 HRS HO1 HB1 hlen hn
  go_wp2_with fail
  refine (HAW.out _).mono ?_
  rintro r w3 ⟨rfl, hb3⟩
  have HM3 := Lib.hid (HM2.out.keep hb3)
  clear hb3 HM2 HAW
  go_wp2_with fail
  refine (HCL.out _).mono ?_
  rintro r w4 ⟨rfl, rfl⟩
  go_wp2_with fail
  refine (HC5.out _).mono ?_
  rintro r w4 ⟨rfl, rfl⟩
  go_wp2
  go_loopw [7, 43] (fun sv iv wr => ∃ k : Nat, k ≤ n ∧ sv = .string (bs (l.take (100 * k))) ∧ iv = .int .i64 k ∧ Hid (SsMem w (q : Int) l a a2 c c2 wr)) (fun _ iv _ => n - (intOf iv).toNat)
  case atStart => exact ⟨0, Nat.zero_le _, rfl, rfl, HM3⟩
  case round =>
    obtain ⟨k, hk, rfl, rfl, HM⟩ := hrel
    by_cases hlt : k < n
    · obtain ⟨g1, rfl, hg1, -, hc1⟩ := own_piece HM.out.r1 (by rw [HNN.out]; omega)
      obtain ⟨g2, rfl, hg2, -, hc2⟩ := own_piece HM.out.r2 (by rw [HNN.out]; omega)
      have p0 := hc1 0 (by rw [HNN.out]; omega)
      have pk := hc1 k (by rw [HNN.out]; exact hlt)
      have rk := hc2 k (by rw [HNN.out]; exact hlt)
      have HPK := Lib.hid (show pcV (pcAt (q : Int) l k) = .agg #[.int .i64 (q : Int), .int .i64 (l.length : Int), .int .u64 (sumOf l : Int), .int .i64 (k : Int), .string (bs ((l.drop (100 * k)).take 100))] from rfl)
      have HHK := Lib.hid (show headV (pcAt (q : Int) l k) = .agg #[.int .i64 (q : Int), .int .i64 (l.length : Int), .int .u64 (sumOf l : Int)] from rfl)
      have HP0 := Lib.hid (show pcV (pcAt (q : Int) l 0) = .agg #[.int .i64 (q : Int), .int .i64 (l.length : Int), .int .u64 (sumOf l : Int), .int .i64 0, .string (bs ((l.drop (100 * 0)).take 100))] from rfl)
      have HH0 := Lib.hid (show headV (pcAt (q : Int) l 0) = .agg #[.int .i64 (q : Int), .int .i64 (l.length : Int), .int .u64 (sumOf l : Int)] from rfl)
      have HTD := Lib.hid (fun W => told11_any (pcAt (q : Int) l k) W)
      have HCK := Lib.hid (fun W => pcCheck_any (pcAt (q : Int) l k) W (by show ((l.drop (100 * k)).take 100).length ≤ 1000000; rw [List.length_take]; omega))
      rw [pcAt_ok (q : Int) l k (by omega) (by omega) (by omega) (by rw [HNN.out]; exact hlt)] at HCK
      have HDk := Lib.hid (fun W => pcHead_any (pcAt (q : Int) l k) W)
      have HD0 := Lib.hid (fun W => pcHead_any (pcAt (q : Int) l 0) W)
      rw [HPK.out] at HTD HCK
      rw [HPK.out, HHK.out] at HDk
      rw [HP0.out, HH0.out] at HD0
      have HJ := Lib.hid (show bs (l.take (100 * k)) ++ bs ((l.drop (100 * k)).take 100) = bs (l.take (100 * (k + 1))) by
        rw [bs_append]; congr 1
        rw [show 100 * (k + 1) = 100 * k + 100 by omega, List.take_add])
      have hz1 : (bs (l.take (100 * k))).size ≤ 2000 := by rw [bs_size, List.length_take]; omega
      have hz2 : (bs ((l.drop (100 * k)).take 100)).size ≤ 100 := by rw [bs_size, List.length_take]; omega
      clear hc1 hc2 HPK HHK HP0 HH0
      have hsame := fun W => rpc_same (q : Int) (l.length : Int) (sumOf l : Int) (k : Int) (bs ((l.drop (100 * k)).take 100)) W
      have hhead := fun W => head_same (q : Int) (l.length : Int) (sumOf l : Int) W
      generalize bs ((l.drop (100 * k)).take 100) = Tk at pk rk HTD HCK HDk HJ hz2 hsame
      generalize bs ((l.drop (100 * 0)).take 100) = T0 at p0 HD0
      generalize bs (l.take (100 * k)) = A at HJ hz1 ⊢
      generalize hA' : bs (l.take (100 * (k + 1))) = A' at HJ
      have HA' := Lib.hid hA'
      clear hA'
      have v1 : ∀ W, (Op.stringOp .add A Tk).run Try.prog W = .ok (.string (A ++ Tk)) W := fun W => run_string_add_sum W _ _ (by omega)
      generalize hL0 : (l.length : Int) = L0 at p0 pk rk HTD HCK HDk HD0 hsame hhead
      generalize hsm : sumOf l = sm at p0 pk rk HTD HCK HDk HD0 hsame hhead
      obtain ⟨c0, c1, c2', c3, c4⟩ := pk
      obtain ⟨d0, d1, d2, d3, d4⟩ := rk
      obtain ⟨e0, e1, e2, e3, e4⟩ := p0
      simp only [Nat.zero_mul, Nat.zero_add] at e0 e1 e2 e3 e4
      have hk0 : (0 : Int) ≤ (k : Int) := by omega
      have hk1 : (k : Int) < (n : Int) := by omega
      have hn0 : (0 : Int) < (n : Int) := by omega
      have hn1 : 0 < n := by omega
      have hn2 : decide (0 < n) = true := by simp; omega
      go_upto_region 11 with (fail)
      have hA : Below wr.heap.size wr (wr.alloc (.cells #[.int .i64 (q : Int), .int .i64 L0, .int .u64 (sm : Int), .int .i64 (k : Int), .string Tk] 64)) := bel_alloc (Below.refl _ _) _
      have HMa := Lib.hid (HM.out.keep hA)
      have x0 : (wr.alloc (.cells #[.int .i64 (q : Int), .int .i64 L0, .int .u64 (sm : Int), .int .i64 (k : Int), .string Tk] 64)).cell? ⟨wr.heap.size, 0, none⟩ = some (.int .i64 (q : Int)) := by simp
      have x1 : (wr.alloc (.cells #[.int .i64 (q : Int), .int .i64 L0, .int .u64 (sm : Int), .int .i64 (k : Int), .string Tk] 64)).cell? ⟨wr.heap.size, 1, none⟩ = some (.int .i64 L0) := by simp
      have x2 : (wr.alloc (.cells #[.int .i64 (q : Int), .int .i64 L0, .int .u64 (sm : Int), .int .i64 (k : Int), .string Tk] 64)).cell? ⟨wr.heap.size, 2, none⟩ = some (.int .u64 (sm : Int)) := by simp
      have x3 : (wr.alloc (.cells #[.int .i64 (q : Int), .int .i64 L0, .int .u64 (sm : Int), .int .i64 (k : Int), .string Tk] 64)).cell? ⟨wr.heap.size, 3, none⟩ = some (.int .i64 (k : Int)) := by simp
      have x4 : (wr.alloc (.cells #[.int .i64 (q : Int), .int .i64 L0, .int .u64 (sm : Int), .int .i64 (k : Int), .string Tk] 64)).cell? ⟨wr.heap.size, 4, none⟩ = some (.string Tk) := by simp
      have hS1 := keep5 hA ⟨d0, d1, d2, d3, d4⟩
      have hS2 := keep5 hA ⟨e0, e1, e2, e3, e4⟩
      clear c0 c1 c2' c3 c4 d0 d1 d2 d3 d4 e0 e1 e2 e3 e4 hA HM v1
      generalize wr.alloc (.cells #[.int .i64 (q : Int), .int .i64 L0, .int .u64 (sm : Int), .int .i64 (k : Int), .string Tk] 64) = W at HMa x0 x1 x2 x3 x4 hS1 hS2 ⊢
      generalize wr.heap.size = X at x0 x1 x2 x3 x4 ⊢
      have hXl := block_lt_of_cell x0
      have hg1' := block_lt_of_cell hS2.1
      have hg2' := block_lt_of_cell hS1.1
      simp only at hXl hg1' hg2'
      have HMc := Lib.hid (HMa.out.keep (w' := W.drew) (Below.refl _ W).drew)
      clear HMa
      go_region_held3 (fun w' => (w'.cell? ⟨X, 0, none⟩ = some (.int .i64 (q : Int)) ∧ w'.cell? ⟨X, 1, none⟩ = some (.int .i64 L0) ∧ w'.cell? ⟨X, 2, none⟩ = some (.int .u64 (sm : Int)) ∧ w'.cell? ⟨X, 3, none⟩ = some (.int .i64 (k : Int)) ∧ w'.cell? ⟨X, 4, none⟩ = some (.string Tk)) ∧ (w'.cell? ⟨g2, k * 5, none⟩ = some (.int .i64 (q : Int)) ∧ w'.cell? ⟨g2, k * 5 + 1, none⟩ = some (.int .i64 L0) ∧ w'.cell? ⟨g2, k * 5 + 2, none⟩ = some (.int .u64 (sm : Int)) ∧ w'.cell? ⟨g2, k * 5 + 3, none⟩ = some (.int .i64 (k : Int)) ∧ w'.cell? ⟨g2, k * 5 + 4, none⟩ = some (.string Tk)) ∧ (w'.cell? ⟨g1, 0, none⟩ = some (.int .i64 (q : Int)) ∧ w'.cell? ⟨g1, 1, none⟩ = some (.int .i64 L0) ∧ w'.cell? ⟨g1, 2, none⟩ = some (.int .u64 (sm : Int)) ∧ w'.cell? ⟨g1, 3, none⟩ = some (.int .i64 0) ∧ w'.cell? ⟨g1, 4, none⟩ = some (.string T0)))
        (first | (refine keep15 hbK ?_; assumption) | assumption | exact ⟨⟨x0, x1, x2, x3, x4⟩, hS1, hS2⟩)
        (first
          | (go_at_call 31; refine (HTD.out _).mono ?_; rintro e wK ⟨rfl, hbK⟩; have HMc := Lib.hid (HMc.out.keep hbK))
          | (go_at_call 40; refine (HCK.out _).mono ?_; rintro e wK ⟨rfl, hbK⟩; have HMc := Lib.hid (HMc.out.keep hbK))
          | (go_at_call 49; (first | with_reducible refine (HDk.out _).mono ?_ | with_reducible refine (HD0.out _).mono ?_); rintro e wK ⟨rfl, hbK⟩; have HMc := Lib.hid (HMc.out.keep hbK)))
      all_goals
        have HMz := Lib.hid HMc.out
        go_wp2
        go_roundw
        case rel => exact ⟨k + 1, by omega, by rw [HJ.out, ← HA'.out], by go_num, HMz⟩
        case measure => simp [intOf]; omega
    · obtain rfl : k = n := by omega
      have HE := Lib.hid (show bs (l.take (100 * k)) = bs l by rw [List.take_of_length_le]; have := HNN.out; unfold cntN at this; omega)
      rw [HE.out]
      have hse := str_eq (bs l)
      go_wp2
      go_ret
      exact ⟨rfl, HM.out.bel⟩
end Go.Proofs.Ytdkokfpbmmjfkaa
namespace Go.Proofs.Ytdkokfpbmmjfkaa
open Go.RowKit
set_option linter.unusedVariables false

set_option maxRecDepth 100000 in
set_option maxHeartbeats 2000000 in
theorem refPcText_any (p : Pc) (w : World) (hp : PcDom p) : Calls Try.prog 45 #[pcV p] w fun r w' => r = .returned (.string (bs (pieceB p))) ∧ Below w.heap.size w w' := by
  have hin := pcDom_in hp.1
  have hh := hp.2
  obtain ⟨p0, p1, p2, p3, p4⟩ := p
  unfold pcV
  simp only at hin hh ⊢
  clear hp
  have hc1 := fun W => refCount_any p0 W (by omega) (by omega)
  have hc2 := fun W => refCount_any p1 W (by omega) (by omega)
  have hc3 := fun W => refNum_any p2 W hh
  have hc4 := fun W => refCount_any p3 W (by omega) (by omega)
  have hc5 := fun W => refStr_any (bs p4) W (by rw [bs_size]; omega)
  rw [bs_list] at hc5
  have z1 : (bs (numB p0.toNat)).size ≤ 10 := by rw [bs_size]; exact numB_ten (by omega)
  have z2 : (bs (numB p1.toNat)).size ≤ 10 := by rw [bs_size]; exact numB_ten (by omega)
  have z3 : (bs (numB p2)).size ≤ 10 := by rw [bs_size]; exact numB_ten hh
  have z4 : (bs (numB p3.toNat)).size ≤ 10 := by rw [bs_size]; exact numB_ten (by omega)
  have z5 : (bs (strB p4)).size ≤ 110 := by
    rw [bs_size, strB, List.length_append]
    have := numB_ten (n := p4.length) (by omega)
    omega
  have HJ := Lib.hid (show bs (numB p0.toNat) ++ bs (numB p1.toNat) ++ bs (numB p2) ++ bs (numB p3.toNat) ++ bs (strB p4) = bs (pieceB ⟨p0, p1, p2, p3, p4⟩) by
    simp only [bs_append, pieceB, strB, List.append_assoc])
  generalize bs (pieceB ⟨p0, p1, p2, p3, p4⟩) = R at HJ
  generalize bs (numB p0.toNat) = A1 at hc1 z1 HJ
  generalize bs (numB p1.toNat) = A2 at hc2 z2 HJ
  generalize bs (numB p2) = A3 at hc3 z3 HJ
  generalize bs (numB p3.toNat) = A4 at hc4 z4 HJ
  generalize bs (strB p4) = A5 at hc5 z5 HJ
  have s1 : (A1 ++ A2).size = A1.size + A2.size := ByteArray.size_append
  have s2 : (A1 ++ A2 ++ A3).size = (A1 ++ A2).size + A3.size := ByteArray.size_append
  have s3 : (A1 ++ A2 ++ A3 ++ A4).size = (A1 ++ A2 ++ A3).size + A4.size := ByteArray.size_append
  have v1 : ∀ W, (Op.stringOp .add A1 A2).run Try.prog W = .ok (.string (A1 ++ A2)) W := fun W => run_string_add_sum W _ _ (by omega)
  have v2 : ∀ W, (Op.stringOp .add (A1 ++ A2) A3).run Try.prog W = .ok (.string (A1 ++ A2 ++ A3)) W := fun W => run_string_add_sum W _ _ (by omega)
  have v3 : ∀ W, (Op.stringOp .add (A1 ++ A2 ++ A3) A4).run Try.prog W = .ok (.string (A1 ++ A2 ++ A3 ++ A4)) W := fun W => run_string_add_sum W _ _ (by omega)
  have v4 : ∀ W, (Op.stringOp .add (A1 ++ A2 ++ A3 ++ A4) A5).run Try.prog W = .ok (.string (A1 ++ A2 ++ A3 ++ A4 ++ A5)) W := fun W => run_string_add_sum W _ _ (by omega)
  have HC1 := Lib.hid hc1
  have HC2 := Lib.hid hc2
  have HC3 := Lib.hid hc3
  have HC4 := Lib.hid hc4
  have HC5 := Lib.hid hc5
  clear hc1 hc2 hc3 hc4 hc5 z1 z2 z3 z4 z5 s1 s2 s3
  have HBc := Lib.hid (bel_alloc (Below.refl _ w) (.cells #[.int .i64 p0, .int .i64 p1, .int .u64 (p2 : Int), .int .i64 p3, .string (bs p4)] 71)).drew
  have x0 : (w.alloc (.cells #[.int .i64 p0, .int .i64 p1, .int .u64 (p2 : Int), .int .i64 p3, .string (bs p4)] 71)).cell? ⟨w.heap.size, 0, none⟩ = some (.int .i64 p0) := by simp
  have x1 : (w.alloc (.cells #[.int .i64 p0, .int .i64 p1, .int .u64 (p2 : Int), .int .i64 p3, .string (bs p4)] 71)).cell? ⟨w.heap.size, 1, none⟩ = some (.int .i64 p1) := by simp
  have x2 : (w.alloc (.cells #[.int .i64 p0, .int .i64 p1, .int .u64 (p2 : Int), .int .i64 p3, .string (bs p4)] 71)).cell? ⟨w.heap.size, 2, none⟩ = some (.int .u64 (p2 : Int)) := by simp
  have x3 : (w.alloc (.cells #[.int .i64 p0, .int .i64 p1, .int .u64 (p2 : Int), .int .i64 p3, .string (bs p4)] 71)).cell? ⟨w.heap.size, 3, none⟩ = some (.int .i64 p3) := by simp
  have x4 : (w.alloc (.cells #[.int .i64 p0, .int .i64 p1, .int .u64 (p2 : Int), .int .i64 p3, .string (bs p4)] 71)).cell? ⟨w.heap.size, 4, none⟩ = some (.string (bs p4)) := by simp
  go_enter Try.func45, Try.ntmps45
  go_wp2_with fail
  generalize w.alloc (.cells #[.int .i64 p0, .int .i64 p1, .int .u64 (p2 : Int), .int .i64 p3, .string (bs p4)] 71) = W0 at HBc x0 x1 x2 x3 x4 ⊢
  generalize hX : w.heap.size = X at x0 x1 x2 x3 x4 ⊢
  have HX := Lib.hid hX
  clear hX
  have hXl := block_lt_of_cell x0
  simp only at hXl
  go_region_held3 (fun w' => w'.cell? ⟨X, 0, none⟩ = some (.int .i64 p0) ∧ w'.cell? ⟨X, 1, none⟩ = some (.int .i64 p1) ∧ w'.cell? ⟨X, 2, none⟩ = some (.int .u64 (p2 : Int)) ∧ w'.cell? ⟨X, 3, none⟩ = some (.int .i64 p3) ∧ w'.cell? ⟨X, 4, none⟩ = some (.string (bs p4)))
    (first | (refine keep5 hbK ?_; assumption) | assumption | exact ⟨x0, x1, x2, x3, x4⟩)
    (first
      | (go_at_call 79; (with_reducible refine (HC3.out _).mono ?_); rintro e wK ⟨rfl, hbK⟩; have HBc := Lib.hid (HBc.out.trans (hbK.mono HBc.out.size)))
      | (go_at_call 80; (with_reducible refine (HC5.out _).mono ?_); rintro e wK ⟨rfl, hbK⟩; have HBc := Lib.hid (HBc.out.trans (hbK.mono HBc.out.size)))
      | (go_at_call 78; (first | with_reducible refine (HC1.out _).mono ?_ | with_reducible refine (HC2.out _).mono ?_ | with_reducible refine (HC4.out _).mono ?_); rintro e wK ⟨rfl, hbK⟩; have HBc := Lib.hid (HBc.out.trans (hbK.mono HBc.out.size))))
  all_goals
    have HBz := Lib.hid HBc.out
    rw [HJ.out]
    go_wp2
    go_ret
    exact ⟨rfl, HBz.out⟩
end Go.Proofs.Ytdkokfpbmmjfkaa
namespace Go.Proofs.Ytdkokfpbmmjfkaa
open Go.RowKit
set_option linter.unusedVariables false

theorem list_five {α : Type} {l : List α} (h : l.length = 5) : ∃ a b c d e, l = [a, b, c, d, e] := by
  match l, h with
  | [a, b, c, d, e], _ => exact ⟨a, b, c, d, e, rfl⟩
theorem pc_of {H : Type} {enc : TypeId × Value → H} {w : World} {base : Nat} {sp : Nat → Bool} {held : Bool} {v : Value} {d : DataW H} {p : List MemPlace} (hv : ∃ cs, v = .agg cs ∧ cs.size = Try.prog.cellsOf 64) (h : DataW.Trod enc Try.prog w base sp held 64 v d p) :
    ∃ q : Pc, v = pcV q ∧ B64 q.turn ∧ B64 q.bytes ∧ q.hash < 18446744073709551616 ∧ B64 q.n ∧ (bs q.text).size ≤ maxLen := by
  obtain ⟨cs, rfl, hsz⟩ := hv
  have cS : Try.prog.cellsOf 64 = 5 := by kernel_rfl
  have c_int : Try.prog.cellsOf 3 = 1 := by kernel_rfl
  have c_u64 : Try.prog.cellsOf 62 = 1 := by kernel_rfl
  have c_str : Try.prog.cellsOf 9 = 1 := by kernel_rfl
  rw [cS] at hsz
  obtain ⟨l⟩ := cs
  obtain ⟨v0, v1, v2, v3, v4, rfl⟩ := list_five (l := l) hsz
  obtain ⟨fuel, ht⟩ := h
  obtain ⟨ys, n', hn', hy, hlen, hyl, hf⟩ := DataW.trod_struct Try.underlying64 ht
  obtain ⟨y0, y1, y2, y3, y4, rfl⟩ := list_five (show ys.length = 5 by simpa using hyl)
  have g0 : DataW.trod enc Try.prog w base sp held n' 3 [v0] = some y0 := by simpa [c_int, Value.cells] using hf 0 _ rfl
  have g1 : DataW.trod enc Try.prog w base sp held n' 3 [v1] = some y1 := by simpa [c_int, Value.cells] using hf 1 _ rfl
  have g2 : DataW.trod enc Try.prog w base sp held n' 62 [v2] = some y2 := by simpa [c_int, c_u64, Value.cells] using hf 2 _ rfl
  have g3 : DataW.trod enc Try.prog w base sp held n' 3 [v3] = some y3 := by simpa [c_int, c_u64, Value.cells] using hf 3 _ rfl
  have g4 : DataW.trod enc Try.prog w base sp held n' 9 [v4] = some y4 := by simpa [c_int, c_u64, c_str, Value.cells] using hf 4 _ rfl
  obtain ⟨k0, q0, _, wf0⟩ := DataW.trod_int Try.underlying3 g0
  obtain ⟨k1, q1, _, wf1⟩ := DataW.trod_int Try.underlying3 g1
  obtain ⟨k2, q2, _, wf2⟩ := DataW.trod_int Try.underlying62 g2
  obtain ⟨k3, q3, _, wf3⟩ := DataW.trod_int Try.underlying3 g3
  obtain ⟨k4, q4, _, wf4⟩ := DataW.trod_string Try.underlying9 g4
  simp only [List.cons.injEq, and_true] at q0 q1 q2 q3 q4
  subst q0 q1 q2 q3 q4
  have h0 := wf_i64 wf0
  have h1 := wf_i64 wf1
  have h2 := wf_u64 wf2
  have h3 := wf_i64 wf3
  obtain ⟨m, rfl⟩ := Int.eq_ofNat_of_zero_le h2.1
  refine ⟨⟨k0, k1, m, k3, k4.data.toList⟩, ?_, h0, h1, by simp only; omega, h3, ?_⟩
  · simp only [pcV, bs_eta]
  · simp only [bs_eta]; exact wf4
end Go.Proofs.Ytdkokfpbmmjfkaa
namespace Go.Proofs.Ytdkokfpbmmjfkaa
open Go.RowKit
set_option linter.unusedVariables false

theorem info9 : (Try.prog.info? 9).map (fun i => (i.zero, i.size, i.bytes)) = some (some (.string .empty), 1, 16) := by kernel_rfl
/-- WHAT THE ROW's READING SAYS OF A LIST OF TEXTS THAT CAME IN. -/
def IsStrs (w : World) (a : Option Addr) (len cap : Nat) (zs : List ByteArray) : Prop :=
  (a = none ∧ len = 0 ∧ cap = 0 ∧ zs = []) ∨ ∃ x, a = some x ∧ len ≤ cap ∧ cap ≤ maxLen ∧ zs.length = cap ∧ (∀ i, i < zs.length → w.cell? (x.add i) = some (.string (zs.getD i ByteArray.empty))) ∧ (∀ s ∈ zs, s.size ≤ maxLen)
theorem IsStrs.row {w : World} {a : Option Addr} {len cap : Nat} {zs : List ByteArray} (h : IsStrs w a len cap zs) : ∃ ss : List ByteArray, ss.length = len ∧ StrRow w a ss := by
  rcases h with ⟨rfl, rfl, rfl, rfl⟩ | ⟨x, rfl, hl, hm, hz, hcell, hw⟩
  · exact ⟨[], rfl, by simp [maxLen], fun i h => by simp at h, fun h => by simp at h⟩
  · have hlen : (zs.take len).length = len := by simp; omega
    refine ⟨zs.take len, hlen, by omega, fun i hi => ?_, fun h0 => ?_⟩
    · exact hw _ (List.mem_of_mem_take (List.getElem_mem hi))
    · obtain ⟨b, off, spot⟩ := x
      have h0' := hcell 0 (by omega)
      have hspot : spot = none := by simpa [Addr.add] using World.cell?_spot h0'
      subst hspot
      refine ⟨b, off, rfl, fun i hi => ?_⟩
      have hi' : i < zs.length := by omega
      have := hcell i hi'
      rw [List.getD_eq_getElem?_getD, List.getElem?_eq_getElem hi'] at this
      rw [List.getElem_take]
      cases i <;> simpa [Addr.add] using this

def fewL (ss : List ByteArray) (n m : Nat) : List ByteArray := (ss.take n).map (cutB · m)
theorem fewL_succ (ss : List ByteArray) (k m : Nat) (h : k < ss.length) : fewL ss (k + 1) m = fewL ss k m ++ [cutB ss[k] m] := by
  unfold fewL; rw [List.take_succ_eq_append_getElem h, List.map_append]; rfl
theorem fewL_length (ss : List ByteArray) (k m : Nat) (h : k ≤ ss.length) : (fewL ss k m).length = k := by
  unfold fewL; simp; omega
theorem bls_append (l m : List ByteArray) : bls (l ++ m) = bls l ++ bls m := by unfold bls; simp
/-- WHAT 'Few' LEAVES: a list of its own of the texts, and all of them. -/
def FewPost (w : World) (few : List ByteArray) (e : Ending) (w' : World) : Prop :=
  ∃ (a : Option Addr) (cap : Nat) (A : ByteArray), e = .returned (.tuple #[.slice a few.length cap, .string A]) ∧ A.data.toList = (bls few).flatten ∧ A.size ≤ maxLen ∧ StrRow w' a few ∧ Below w.heap.size w w'

theorem owns_row {w : World} {base : Nat} {v : Value} {few : List ByteArray} (h : w.ownsRow base 9 1 v few.length (few.map Value.string)) (hs : ∀ (i : Nat) (h : i < few.length), few[i].size ≤ maxLen) (hl : few.length ≤ maxLen) :
    ∃ a cap, v = .slice a few.length cap ∧ StrRow w a few := by
  rcases h.2 with ⟨hv, h0⟩ | ⟨g, cap, cur, hv, hg, hb, hn, hm, hsz, ht⟩
  · exact ⟨none, 0, by rw [hv, h0], hl, hs, fun h => by omega⟩
  · refine ⟨some ⟨g, 0, none⟩, cap, hv, hl, hs, fun _ => ⟨g, 0, rfl, fun i hi => ?_⟩⟩
    have hc := h.cells (g := g) (by rw [hv]; rfl) i (.string few[i]) (by simp [hi])
    cases i <;> simpa [Addr.add] using hc
theorem fewL_sizes (ss : List ByteArray) (n m : Nat) (hm : m ≤ 1000) : ∀ (i : Nat) (h : i < (fewL ss n m).length), (fewL ss n m)[i].size ≤ maxLen := by
  intro i h
  unfold fewL at h ⊢
  rw [List.getElem_map]
  exact cutB_le' _ _ (by omega)
theorem fewL_end (ss : List ByteArray) (k n m : Nat) (hk : k ≤ ss.length) (hn : k ≤ n) (h : ¬ (k < ss.length ∧ k < n)) : fewL ss n m = fewL ss k m := by
  by_cases h1 : k = n
  · rw [h1]
  · have : k = ss.length := by omega
    unfold fewL
    rw [List.take_of_length_le (by omega), List.take_of_length_le (by omega)]

theorem few_post {w wr : World} {ss : List ByteArray} {k n m : Nat} {v : Value} {A : ByteArray} (hm : m ≤ 1000) (hk : k ≤ 1000) (HE : fewL ss n m = fewL ss k m) (HL : (fewL ss k m).length = k)
    (HA : A.data.toList = (bls (fewL ss k m)).flatten) (hA : A.size ≤ 1000 * k) (HO : wr.ownsRow w.heap.size 9 1 v k ((fewL ss k m).map Value.string)) (hb : Below w.heap.size w wr) :
    FewPost w (fewL ss n m) (.returned (.tuple #[v, .string A])) wr := by
  rw [HE]
  obtain ⟨a, cap, hv, hr⟩ := owns_row (few := fewL ss k m) (by rw [HL]; exact HO) (fewL_sizes ss k m hm) (by rw [HL]; unfold maxLen; omega)
  exact ⟨a, cap, A, by rw [hv], HA, by unfold maxLen; omega, hr, hb⟩

end Go.Proofs.Ytdkokfpbmmjfkaa
namespace Go.Proofs.Ytdkokfpbmmjfkaa
open Go.RowKit
set_option linter.unusedVariables false

theorem pc_same (a b c d : Int) (t : ByteArray) (w : World) : (binOp .neq 64 (.agg #[.int .i64 a, .int .i64 b, .int .u64 c, .int .i64 d, .string t]) (.agg #[.int .i64 a, .int .i64 b, .int .u64 c, .int .i64 d, .string t])).run Try.prog w = .ok (.bool false) w := by
  have := str_eq t
  go_simp
theorem rpc_eq (a b c d : Int) (t : ByteArray) (w : World) : (binOp .eql 71 (.agg #[.int .i64 a, .int .i64 b, .int .u64 c, .int .i64 d, .string t]) (.agg #[.int .i64 a, .int .i64 b, .int .u64 c, .int .i64 d, .string t])).run Try.prog w = .ok (.bool true) w := by
  have := str_eq t
  go_simp
theorem keep10 {W w' : World} (hb : Below W.heap.size W w') {p q r t u p1 q1 r1 t1 u1 : Addr} {x y z v y' x1 y1 z1 v1 y1' : Value} (h : (W.cell? p = some x ∧ W.cell? q = some y ∧ W.cell? r = some z ∧ W.cell? t = some v ∧ W.cell? u = some y') ∧ (W.cell? p1 = some x1 ∧ W.cell? q1 = some y1 ∧ W.cell? r1 = some z1 ∧ W.cell? t1 = some v1 ∧ W.cell? u1 = some y1')) :
    (w'.cell? p = some x ∧ w'.cell? q = some y ∧ w'.cell? r = some z ∧ w'.cell? t = some v ∧ w'.cell? u = some y') ∧ (w'.cell? p1 = some x1 ∧ w'.cell? q1 = some y1 ∧ w'.cell? r1 = some z1 ∧ w'.cell? t1 = some v1 ∧ w'.cell? u1 = some y1') :=
  ⟨keep5 hb h.1, keep5 hb h.2⟩
theorem keepT5 {S : Nat → Prop} {W w' : World} (ht : Touch S W w') {X : Nat} (hs : ¬ S X) {x y z u v : Value} (h : W.cell? ⟨X, 0, none⟩ = some x ∧ W.cell? ⟨X, 1, none⟩ = some y ∧ W.cell? ⟨X, 2, none⟩ = some z ∧ W.cell? ⟨X, 3, none⟩ = some u ∧ W.cell? ⟨X, 4, none⟩ = some v) :
    w'.cell? ⟨X, 0, none⟩ = some x ∧ w'.cell? ⟨X, 1, none⟩ = some y ∧ w'.cell? ⟨X, 2, none⟩ = some z ∧ w'.cell? ⟨X, 3, none⟩ = some u ∧ w'.cell? ⟨X, 4, none⟩ = some v := by
  have hl := block_lt_of_cell h.1
  simp only at hl
  exact ⟨(ht.cell (p := ⟨X, 0, none⟩) hl hs).trans h.1, (ht.cell (p := ⟨X, 1, none⟩) hl hs).trans h.2.1, (ht.cell (p := ⟨X, 2, none⟩) hl hs).trans h.2.2.1, (ht.cell (p := ⟨X, 3, none⟩) hl hs).trans h.2.2.2.1, (ht.cell (p := ⟨X, 4, none⟩) hl hs).trans h.2.2.2.2⟩
theorem keepT10 {S : Nat → Prop} {W w' : World} (ht : Touch S W w') {X Q : Nat} (hs : ¬ S X) (hq : ¬ S Q) {x y z u v x' y' z' u' v' : Value} (h : (W.cell? ⟨X, 0, none⟩ = some x ∧ W.cell? ⟨X, 1, none⟩ = some y ∧ W.cell? ⟨X, 2, none⟩ = some z ∧ W.cell? ⟨X, 3, none⟩ = some u ∧ W.cell? ⟨X, 4, none⟩ = some v) ∧ (W.cell? ⟨Q, 0, none⟩ = some x' ∧ W.cell? ⟨Q, 1, none⟩ = some y' ∧ W.cell? ⟨Q, 2, none⟩ = some z' ∧ W.cell? ⟨Q, 3, none⟩ = some u' ∧ W.cell? ⟨Q, 4, none⟩ = some v')) :
    (w'.cell? ⟨X, 0, none⟩ = some x ∧ w'.cell? ⟨X, 1, none⟩ = some y ∧ w'.cell? ⟨X, 2, none⟩ = some z ∧ w'.cell? ⟨X, 3, none⟩ = some u ∧ w'.cell? ⟨X, 4, none⟩ = some v) ∧ (w'.cell? ⟨Q, 0, none⟩ = some x' ∧ w'.cell? ⟨Q, 1, none⟩ = some y' ∧ w'.cell? ⟨Q, 2, none⟩ = some z' ∧ w'.cell? ⟨Q, 3, none⟩ = some u' ∧ w'.cell? ⟨Q, 4, none⟩ = some v') :=
  ⟨keepT5 ht hs h.1, keepT5 ht hq h.2⟩
theorem keep12 {W w' : World} (hb : Below W.heap.size W w') {p q r t u p1 q1 p2 q2 r2 t2 u2 : Addr} {x y z v y' x1 y1 x2 y2 z2 v2 y2' : Value} (h : (W.cell? p = some x ∧ W.cell? q = some y ∧ W.cell? r = some z ∧ W.cell? t = some v ∧ W.cell? u = some y') ∧ (W.cell? p1 = some x1 ∧ W.cell? q1 = some y1) ∧ (W.cell? p2 = some x2 ∧ W.cell? q2 = some y2 ∧ W.cell? r2 = some z2 ∧ W.cell? t2 = some v2 ∧ W.cell? u2 = some y2')) :
    (w'.cell? p = some x ∧ w'.cell? q = some y ∧ w'.cell? r = some z ∧ w'.cell? t = some v ∧ w'.cell? u = some y') ∧ (w'.cell? p1 = some x1 ∧ w'.cell? q1 = some y1) ∧ (w'.cell? p2 = some x2 ∧ w'.cell? q2 = some y2 ∧ w'.cell? r2 = some z2 ∧ w'.cell? t2 = some v2 ∧ w'.cell? u2 = some y2') :=
  ⟨keep5 hb h.1, ⟨(hb.cell (block_lt_of_cell h.2.1.1)).trans h.2.1.1, (hb.cell (block_lt_of_cell h.2.1.2)).trans h.2.1.2⟩, keep5 hb h.2.2⟩
theorem pieceB_len {p : Pc} (h : PcDom p) : (pieceB p).length ≤ 1000 := by
  have hb := pcDom_in h.1
  have h1 := numB_ten (n := p.turn.toNat) (by omega)
  have h2 := numB_ten (n := p.bytes.toNat) (by omega)
  have h3 := numB_ten h.2
  have h4 := numB_ten (n := p.n.toNat) (by omega)
  have h5 := numB_ten (n := p.text.length) (by omega)
  simp only [pieceB, List.length_append]
  omega
/-- What is asked of Put. -/
def PutIs : Prop := ∀ (K : Nat → Prop) (b : Nat) (l0 : List UInt8) (p : Pc) (w : World), OutQ K b l0 w → PcDom p → l0.length ≤ 100000000 →
    Calls Try.prog 42 #[pcV p, .pointer (some ⟨b, 0, none⟩)] w fun r w' => r = .returned (.tuple #[]) ∧ OutQ K b (l0 ++ pieceB p) w' ∧ Touch (fun k => ¬ K k) w w'
set_option maxRecDepth 100000 in
set_option maxHeartbeats 4000000 in
theorem chunkTexts_walk (HPUT : Hid PutIs) (w : World) (p : Pc) (hp0 : B64 p.turn) (hp1 : B64 p.bytes) (hp2 : p.hash < 18446744073709551616) (hp3 : B64 p.n) (hp4 : (bs p.text).size ≤ maxLen) (a0 : ByteArray) (w0 : a0.size ≤ maxLen) :
    Calls Try.prog 8 #[pcV p, .string a0] w fun e w' => e = .returned (.bool true) ∧ Below w.heap.size w w' := by
  obtain ⟨p0, p1, p2, p3, p4'⟩ := p
  unfold pcV
  simp only at hp0 hp1 hp2 hp3 hp4 ⊢
  have HAW := Lib.hid (fun W => awake11_any W)
  go_enter Try.func8, Try.ntmps8
  go_wp2_with fail
  refine (cut_any a0 200 _ w0 (by decide)).mono ?_
  rintro e w' ⟨rfl, rfl⟩
  have hs := cutB_le a0 200
  generalize cutB a0 200 = s at hs ⊢
  go_wp2_with fail
  refine (cut_any (bs p4') 120 _ hp4 (by decide)).mono ?_
  rintro e w' ⟨rfl, rfl⟩
  have hs4 := cutB_le (bs p4') 120
  rw [← bs_eta (cutB (bs p4') 120)] at hs4 ⊢
  generalize (cutB (bs p4') 120).data.toList = p4 at hs4 ⊢
  rw [bs_size] at hs4
  have HPV := Lib.hid (show pcV ⟨p0, p1, p2, p3, p4⟩ = .agg #[.int .i64 p0, .int .i64 p1, .int .u64 (p2 : Int), .int .i64 p3, .string (bs p4)] from rfl)
  have HCK := Lib.hid (fun W => pcCheck_any ⟨p0, p1, p2, p3, p4⟩ W (by simp only; omega))
  have HRC := Lib.hid (fun W => refPcCheck_any ⟨p0, p1, p2, p3, p4⟩ W (by simp only; omega))
  have HTD := Lib.hid (fun W => told11_any ⟨p0, p1, p2, p3, p4⟩ W)
  have HDM := Lib.hid (show checkP ⟨p0, p1, p2, p3, p4⟩ = 0 → PcDom ⟨p0, p1, p2, p3, p4⟩ from fun h => ⟨h, hp2⟩)
  rw [HPV.out] at HCK HRC HTD
  generalize hce : checkP ⟨p0, p1, p2, p3, p4⟩ = ce at HCK HRC HDM
  clear hce
  go_upto_region 3 with (fail)
  have x0 : (w.alloc (.cells #[.int .i64 p0, .int .i64 p1, .int .u64 (p2 : Int), .int .i64 p3, .string (bs p4)] 64)).cell? ⟨w.heap.size, 0, none⟩ = some (.int .i64 p0) := by simp
  have x1 : (w.alloc (.cells #[.int .i64 p0, .int .i64 p1, .int .u64 (p2 : Int), .int .i64 p3, .string (bs p4)] 64)).cell? ⟨w.heap.size, 1, none⟩ = some (.int .i64 p1) := by simp
  have x2 : (w.alloc (.cells #[.int .i64 p0, .int .i64 p1, .int .u64 (p2 : Int), .int .i64 p3, .string (bs p4)] 64)).cell? ⟨w.heap.size, 2, none⟩ = some (.int .u64 (p2 : Int)) := by simp
  have x3 : (w.alloc (.cells #[.int .i64 p0, .int .i64 p1, .int .u64 (p2 : Int), .int .i64 p3, .string (bs p4)] 64)).cell? ⟨w.heap.size, 3, none⟩ = some (.int .i64 p3) := by simp
  have x4 : (w.alloc (.cells #[.int .i64 p0, .int .i64 p1, .int .u64 (p2 : Int), .int .i64 p3, .string (bs p4)] 64)).cell? ⟨w.heap.size, 4, none⟩ = some (.string (bs p4)) := by simp
  have HBc := Lib.hid (bel_alloc (Below.refl _ w) (.cells #[.int .i64 p0, .int .i64 p1, .int .u64 (p2 : Int), .int .i64 p3, .string (bs p4)] 64)).drew
  generalize w.alloc (.cells #[.int .i64 p0, .int .i64 p1, .int .u64 (p2 : Int), .int .i64 p3, .string (bs p4)] 64) = W1 at x0 x1 x2 x3 x4 HBc ⊢
  generalize hX : w.heap.size = X at x0 x1 x2 x3 x4 ⊢
  have HX := Lib.hid hX
  clear hX
  have hXl := block_lt_of_cell x0
  simp only at hXl
  go_region_held3 (fun w' => w'.cell? ⟨X, 0, none⟩ = some (.int .i64 p0) ∧ w'.cell? ⟨X, 1, none⟩ = some (.int .i64 p1) ∧ w'.cell? ⟨X, 2, none⟩ = some (.int .u64 (p2 : Int)) ∧ w'.cell? ⟨X, 3, none⟩ = some (.int .i64 p3) ∧ w'.cell? ⟨X, 4, none⟩ = some (.string (bs p4)))
    (first | (refine keep5 hbK ?_; assumption) | assumption | exact ⟨x0, x1, x2, x3, x4⟩)
    (first
      | (go_at_call 25; refine (HAW.out _).mono ?_; rintro e wK ⟨rfl, hbK⟩; have HBc := Lib.hid (HBc.out.trans (hbK.mono HBc.out.size)))
      | (go_at_call 40; refine (HCK.out _).mono ?_; rintro e wK ⟨rfl, hbK⟩; have HBc := Lib.hid (HBc.out.trans (hbK.mono HBc.out.size)))
      | (go_at_call 31; refine (HTD.out _).mono ?_; rintro e wK ⟨rfl, hbK⟩; have HBc := Lib.hid (HBc.out.trans (hbK.mono HBc.out.size)))
      | (go_at_call 41; refine (HRC.out _).mono ?_; rintro e wK ⟨rfl, hbK⟩; have HBc := Lib.hid (HBc.out.trans (hbK.mono HBc.out.size))))
  all_goals
    have hS : wK.cell? ⟨X, 0, none⟩ = some (.int .i64 p0) ∧ wK.cell? ⟨X, 1, none⟩ = some (.int .i64 p1) ∧ wK.cell? ⟨X, 2, none⟩ = some (.int .u64 (p2 : Int)) ∧ wK.cell? ⟨X, 3, none⟩ = some (.int .i64 p3) ∧ wK.cell? ⟨X, 4, none⟩ = some (.string (bs p4)) := by assumption
    have HB2 := Lib.hid HBc.out
    clear HAW HRC x0 x1 x2 x3 x4 hXl
    go_upto_region 5 with (fail)
    generalize wK = W2 at hS HB2 ⊢
    obtain ⟨x0, x1, x2, x3, x4⟩ := hS
    have hXl := block_lt_of_cell x0
    simp only at hXl
    go_wp2_with fail
    refine (HCK.out _).mono ?_
    rintro e w3 ⟨rfl, hb3⟩
    obtain ⟨y0, y1, y2, y3, y4⟩ := keep5 hb3 ⟨x0, x1, x2, x3, x4⟩
    have HB3 := Lib.hid (HB2.out.trans (hb3.mono HB2.out.size))
    clear hb3 HCK x0 x1 x2 x3 x4 hXl HB2
    go_upto_if 30 with (fail)
    go_cut [5] (fun s5 wx => s5 = s5 ∧ Hid (Below w.heap.size w wx))
    case first =>
      by_cases hc : ce = 0
      · subst hc
        have HDP := Lib.hid (HDM.out rfl)
        have HO := Lib.hid (OutQ.start (K := fun k => k < w3.heap.size) w3 93 (fun k hk => hk))
        have HBo := Lib.hid (bel_alloc HB3.out (.cells #[.slice none 0 0] 93))
        have hAo : Below w3.heap.size w3 (w3.alloc (.cells #[.slice none 0 0] 93)) := bel_alloc (Below.refl _ _) _
        obtain ⟨x0, x1, x2, x3, x4⟩ := keep5 hAo ⟨y0, y1, y2, y3, y4⟩
        have hXl3 := block_lt_of_cell y0
        have hXl := block_lt_of_cell x0
        simp only at hXl3 hXl
        have hPu := HPUT.out (fun k => k < w3.heap.size) w3.heap.size [] ⟨p0, p1, p2, p3, p4⟩ _ HO.out HDP.out (by simp)
        rw [HPV.out, List.nil_append] at hPu
        have HPU := Lib.hid hPu
        clear hPu y0 y1 y2 y3 y4 hAo HO
        go_wp2_with fail
        generalize w3.alloc (.cells #[.slice none 0 0] 93) = W4 at x0 x1 x2 x3 x4 hXl HPU HBo ⊢
        refine HPU.out.mono ?_
        rintro e w5 ⟨rfl, hq5, ht5⟩
        have HQ5 := Lib.hid hq5
        have HS5 := Lib.hid (keepT5 ht5 (X := X) (fun hn => hn hXl3) ⟨x0, x1, x2, x3, x4⟩)
        have HB5 := Lib.hid (HBo.out.trans (ht5.below HBo.out.size (fun k hk hn => hn (by have := HB3.out.size; omega))))
        have HBA := Lib.hid (pieceC.back ⟨p0, p1, p2, p3, p4⟩ [] HDP.out)
        rw [List.append_nil] at HBA
        have HRT := Lib.hid (fun W => refPcText_any ⟨p0, p1, p2, p3, p4⟩ W HDP.out)
        rw [HPV.out] at HRT
        clear hq5 ht5 HPU HBo x0 x1 x2 x3 x4 hXl
        generalize w3.heap.size = O at HQ5 hXl3 ⊢
        have HTX := Lib.hid (fun W (hh : OutQ (fun k => k < O) O (pieceB ⟨p0, p1, p2, p3, p4⟩) W) => outText_q hh)
        have hpl := pieceB_len HDP.out
        have HOP := Lib.hid (open_any (bs (pieceB ⟨p0, p1, p2, p3, p4⟩)) w5 (by rw [bs_size]; omega))
        rw [bs_list] at HOP
        go_wp2_with fail
        refine (HTX.out _ HQ5.out).mono ?_
        rintro e w6 ⟨rfl, rfl⟩
        go_wp2_with fail
        refine HOP.out.mono ?_
        rintro e w6 ⟨rfl, hi6, hb6⟩
        have HRD := Lib.hid (pcRead_any w5.heap.size _ w6 hi6)
        rw [HBA.out] at HRD
        rw [show pcOr ((([], 0) : St), (⟨p0, p1, p2, p3, p4⟩ : Pc)) = ⟨p0, p1, p2, p3, p4⟩ from rfl, HPV.out] at HRD
        have hb6' := hb6.size
        have HB6 := Lib.hid hb6
        clear hi6 hb6 HOP HBA
        simp only at HRD
        go_wp2_with fail
        refine HRD.out.mono ?_
        rintro e w7 ⟨rfl, hi7⟩
        have hb7 : Below w5.heap.size w5 w7 := HB6.out.trans (hi7.2.below hb6' (fun k hk e => by omega))
        have HI8 := Lib.hid (hi7.1.alloc (.cells #[.int .i64 p0, .int .i64 p1, .int .u64 (p2 : Int), .int .i64 p3, .string (bs p4)] 64))
        have hb8 : Below w5.heap.size w5 (w7.alloc (.cells #[.int .i64 p0, .int .i64 p1, .int .u64 (p2 : Int), .int .i64 p3, .string (bs p4)] 64)) := bel_alloc hb7 _
        have HQ8 := Lib.hid (HQ5.out.below hb8)
        have HB8 := Lib.hid (HB5.out.trans (hb8.mono HB5.out.size))
        obtain ⟨x0, x1, x2, x3, x4⟩ := keep5 hb8 HS5.out
        have z0 : (w7.alloc (.cells #[.int .i64 p0, .int .i64 p1, .int .u64 (p2 : Int), .int .i64 p3, .string (bs p4)] 64)).cell? ⟨w7.heap.size, 0, none⟩ = some (.int .i64 p0) := by simp
        have z1 : (w7.alloc (.cells #[.int .i64 p0, .int .i64 p1, .int .u64 (p2 : Int), .int .i64 p3, .string (bs p4)] 64)).cell? ⟨w7.heap.size, 1, none⟩ = some (.int .i64 p1) := by simp
        have z2 : (w7.alloc (.cells #[.int .i64 p0, .int .i64 p1, .int .u64 (p2 : Int), .int .i64 p3, .string (bs p4)] 64)).cell? ⟨w7.heap.size, 2, none⟩ = some (.int .u64 (p2 : Int)) := by simp
        have z3 : (w7.alloc (.cells #[.int .i64 p0, .int .i64 p1, .int .u64 (p2 : Int), .int .i64 p3, .string (bs p4)] 64)).cell? ⟨w7.heap.size, 3, none⟩ = some (.int .i64 p3) := by simp
        have z4 : (w7.alloc (.cells #[.int .i64 p0, .int .i64 p1, .int .u64 (p2 : Int), .int .i64 p3, .string (bs p4)] 64)).cell? ⟨w7.heap.size, 4, none⟩ = some (.string (bs p4)) := by simp
        have hR7 : w5.heap.size < w7.heap.size := by have := hi7.1.lt; exact this
        have hX5 : X < w5.heap.size := block_lt_of_cell HS5.out.1
        have hwR : w.heap.size ≤ w5.heap.size := HB5.out.size
        clear hi7 HRD hb7 hb8 HS5 HQ5 HB5 HB6
        go_upto_region 10 with (fail)
        generalize w7.alloc (.cells #[.int .i64 p0, .int .i64 p1, .int .u64 (p2 : Int), .int .i64 p3, .string (bs p4)] 64) = W8 at HI8 HQ8 HB8 x0 x1 x2 x3 x4 z0 z1 z2 z3 z4 ⊢
        generalize w7.heap.size = Q at z0 z1 z2 z3 z4 hR7 ⊢
        generalize w5.heap.size = R at HI8 hR7 hX5 hwR ⊢
        have hXl := block_lt_of_cell x0
        have hQl := block_lt_of_cell z0
        simp only at hXl hQl
        have hsame := fun W => pc_same p0 p1 (p2 : Int) p3 (bs p4) W
        have hXR : ¬ X = R := by omega
        have hQR : ¬ Q = R := by omega
        have HBc := Lib.hid HB8.out.drew
        have HIc := Lib.hid (HI8.out.below (w' := W8.drew) (Below.refl _ W8).drew)
        have HQc := Lib.hid (HQ8.out.below (w' := W8.drew) (Below.refl _ W8).drew)
        clear HI8 HQ8 HB8
        generalize hT : bs (pieceB ⟨p0, p1, p2, p3, p4⟩) = T at HRT HTX
        have hse := str_eq T
        have HEN := Lib.hid (fun W (hh : InSt W R ([], 0)) => end_any R [] 0 W hh)
        rw [show endS ([], 0) = ([], 0) from rfl] at HEN
        go_region_held3 (fun w' => (w'.cell? ⟨X, 0, none⟩ = some (.int .i64 p0) ∧ w'.cell? ⟨X, 1, none⟩ = some (.int .i64 p1) ∧ w'.cell? ⟨X, 2, none⟩ = some (.int .u64 (p2 : Int)) ∧ w'.cell? ⟨X, 3, none⟩ = some (.int .i64 p3) ∧ w'.cell? ⟨X, 4, none⟩ = some (.string (bs p4))) ∧ (w'.cell? ⟨Q, 0, none⟩ = some (.int .i64 p0) ∧ w'.cell? ⟨Q, 1, none⟩ = some (.int .i64 p1) ∧ w'.cell? ⟨Q, 2, none⟩ = some (.int .u64 (p2 : Int)) ∧ w'.cell? ⟨Q, 3, none⟩ = some (.int .i64 p3) ∧ w'.cell? ⟨Q, 4, none⟩ = some (.string (bs p4))))
          (first | (refine keep10 hbK ?_; assumption) | (refine keepT10 htK hXR hQR ?_; assumption) | assumption | exact ⟨⟨x0, x1, x2, x3, x4⟩, z0, z1, z2, z3, z4⟩)
          (first
            | (go_at_call 43; refine (HTX.out _ HQc.out).mono ?_; rintro e wE ⟨rfl, rfl⟩)
            | (go_at_call 31; refine (HTD.out _).mono ?_; rintro e wK ⟨rfl, hbK⟩; have HBc := Lib.hid (HBc.out.trans (hbK.mono HBc.out.size)); have HIc := Lib.hid (HIc.out.below hbK); have HQc := Lib.hid (HQc.out.below hbK))
            | (go_at_call 45; refine (HRT.out _).mono ?_; rintro e wK ⟨rfl, hbK⟩; have HBc := Lib.hid (HBc.out.trans (hbK.mono HBc.out.size)); have HIc := Lib.hid (HIc.out.below hbK); have HQc := Lib.hid (HQc.out.below hbK))
            | (go_at_call 24; refine (HEN.out _ HIc.out).mono ?_; rintro e wN ⟨rfl, hiN⟩; have htK := hiN.2; have HBc := Lib.hid (HBc.out.trans (htK.below HBc.out.size (fun k hk e => by omega)))))
        all_goals
          have HBz := Lib.hid HBc.out
          go_wp2
          go_meet
          exact ⟨trivial, HBz⟩
      · have heb : ((ce : Int) == 0) = false := by simp; omega
        go_wp2
        go_meet
        exact ⟨trivial, HB3⟩
    case rest =>
      obtain ⟨-, HBr⟩ := hcut
      have HOP := Lib.hid (open_any s wc (by omega))
      have HRR := Lib.hid (fun W => refPcRead_any (s.data.toList, 0) W ⟨fun h => absurd rfl h, by simpa using (show s.size ≤ 1000000000 by omega)⟩)
      have HTQ := Lib.hid (fun q W => told11_any q W)
      go_wp2_with fail
      refine HOP.out.mono ?_
      rintro r w2 ⟨rfl, hi2, hb2⟩
      have HRD := Lib.hid (pcRead_any wc.heap.size _ w2 hi2)
      have hRl := hi2.lt
      have hwc : w.heap.size ≤ wc.heap.size := HBr.out.size
      have HB2 := Lib.hid (HBr.out.trans (hb2.mono HBr.out.size))
      clear hi2 hb2 HOP HBr
      generalize pieceS (s.data.toList, 0) = res at HRD HRR
      obtain ⟨⟨l, e⟩, pc⟩ := res
      generalize pcOr ((l, e), pc) = qq at HRD HRR
      obtain ⟨q0, q1, q2, q3, q4⟩ := qq
      have HTQ2 := Lib.hid (HTQ.out ⟨q0, q1, q2, q3, q4⟩)
      unfold pcV at HRD HRR HTQ2
      simp only at HRD HRR HTQ2
      rw [show bs s.data.toList = s from bs_eta s] at HRR
      clear HTQ
      generalize wc.heap.size = R at HRD hRl hwc ⊢
      go_wp2_with fail
      refine HRD.out.mono ?_
      rintro r w3 ⟨rfl, hi3⟩
      have HI3 := Lib.hid (hi3.1.alloc (.cells #[.int .i64 q0, .int .i64 q1, .int .u64 (q2 : Int), .int .i64 q3, .string (bs q4)] 64))
      have HB3' := Lib.hid (bel_alloc (HB2.out.trans (hi3.2.below HB2.out.size (fun k hk e => by omega))) (.cells #[.int .i64 q0, .int .i64 q1, .int .u64 (q2 : Int), .int .i64 q3, .string (bs q4)] 64))
      have hR3 : R < w3.heap.size := hi3.1.lt
      have z0 : (w3.alloc (.cells #[.int .i64 q0, .int .i64 q1, .int .u64 (q2 : Int), .int .i64 q3, .string (bs q4)] 64)).cell? ⟨w3.heap.size, 0, none⟩ = some (.int .i64 q0) := by simp
      have z1 : (w3.alloc (.cells #[.int .i64 q0, .int .i64 q1, .int .u64 (q2 : Int), .int .i64 q3, .string (bs q4)] 64)).cell? ⟨w3.heap.size, 1, none⟩ = some (.int .i64 q1) := by simp
      have z2 : (w3.alloc (.cells #[.int .i64 q0, .int .i64 q1, .int .u64 (q2 : Int), .int .i64 q3, .string (bs q4)] 64)).cell? ⟨w3.heap.size, 2, none⟩ = some (.int .u64 (q2 : Int)) := by simp
      have z3 : (w3.alloc (.cells #[.int .i64 q0, .int .i64 q1, .int .u64 (q2 : Int), .int .i64 q3, .string (bs q4)] 64)).cell? ⟨w3.heap.size, 3, none⟩ = some (.int .i64 q3) := by simp
      have z4 : (w3.alloc (.cells #[.int .i64 q0, .int .i64 q1, .int .u64 (q2 : Int), .int .i64 q3, .string (bs q4)] 64)).cell? ⟨w3.heap.size, 4, none⟩ = some (.string (bs q4)) := by simp
      clear hi3 HRD HB2
      go_wp2_with fail
      generalize w3.alloc (.cells #[.int .i64 q0, .int .i64 q1, .int .u64 (q2 : Int), .int .i64 q3, .string (bs q4)] 64) = W3 at HI3 HB3' z0 z1 z2 z3 z4 ⊢
      generalize w3.heap.size = Q at z0 z1 z2 z3 z4 hR3 ⊢
      refine (HRR.out _).mono ?_
      rintro r w4 ⟨rfl, hb4⟩
      have hA : Below W3.heap.size W3 ((w4.alloc (.cells #[.string (bs l), .int .i64 (e : Nat)] 46)).alloc (.cells #[.int .i64 q0, .int .i64 q1, .int .u64 (q2 : Int), .int .i64 q3, .string (bs q4)] 71)) := bel_alloc (bel_alloc hb4 _) _
      have HI5 := Lib.hid (HI3.out.below hA)
      have HB5 := Lib.hid (HB3'.out.trans (hA.mono HB3'.out.size))
      have hZ := keep5 hA ⟨z0, z1, z2, z3, z4⟩
      have hz4 : (w4.alloc (.cells #[.string (bs l), .int .i64 (e : Nat)] 46)).heap.size = w4.heap.size + 1 := by simp
      have x0 : ((w4.alloc (.cells #[.string (bs l), .int .i64 (e : Nat)] 46)).alloc (.cells #[.int .i64 q0, .int .i64 q1, .int .u64 (q2 : Int), .int .i64 q3, .string (bs q4)] 71)).cell? ⟨w4.heap.size, 0, none⟩ = some (.string (bs l)) := alloc_cell (new_cell rfl rfl) _
      have x1 : ((w4.alloc (.cells #[.string (bs l), .int .i64 (e : Nat)] 46)).alloc (.cells #[.int .i64 q0, .int .i64 q1, .int .u64 (q2 : Int), .int .i64 q3, .string (bs q4)] 71)).cell? ⟨w4.heap.size, 1, none⟩ = some (.int .i64 (e : Nat)) := alloc_cell (new_cell rfl rfl) _
      have y0 : ((w4.alloc (.cells #[.string (bs l), .int .i64 (e : Nat)] 46)).alloc (.cells #[.int .i64 q0, .int .i64 q1, .int .u64 (q2 : Int), .int .i64 q3, .string (bs q4)] 71)).cell? ⟨w4.heap.size + 1, 0, none⟩ = some (.int .i64 q0) := (cell_new' _ _ hz4 _ _ _).trans rfl
      have y1 : ((w4.alloc (.cells #[.string (bs l), .int .i64 (e : Nat)] 46)).alloc (.cells #[.int .i64 q0, .int .i64 q1, .int .u64 (q2 : Int), .int .i64 q3, .string (bs q4)] 71)).cell? ⟨w4.heap.size + 1, 1, none⟩ = some (.int .i64 q1) := (cell_new' _ _ hz4 _ _ _).trans rfl
      have y2 : ((w4.alloc (.cells #[.string (bs l), .int .i64 (e : Nat)] 46)).alloc (.cells #[.int .i64 q0, .int .i64 q1, .int .u64 (q2 : Int), .int .i64 q3, .string (bs q4)] 71)).cell? ⟨w4.heap.size + 1, 2, none⟩ = some (.int .u64 (q2 : Int)) := (cell_new' _ _ hz4 _ _ _).trans rfl
      have y3 : ((w4.alloc (.cells #[.string (bs l), .int .i64 (e : Nat)] 46)).alloc (.cells #[.int .i64 q0, .int .i64 q1, .int .u64 (q2 : Int), .int .i64 q3, .string (bs q4)] 71)).cell? ⟨w4.heap.size + 1, 3, none⟩ = some (.int .i64 q3) := (cell_new' _ _ hz4 _ _ _).trans rfl
      have y4 : ((w4.alloc (.cells #[.string (bs l), .int .i64 (e : Nat)] 46)).alloc (.cells #[.int .i64 q0, .int .i64 q1, .int .u64 (q2 : Int), .int .i64 q3, .string (bs q4)] 71)).cell? ⟨w4.heap.size + 1, 4, none⟩ = some (.string (bs q4)) := (cell_new' _ _ hz4 _ _ _).trans rfl
      clear HI3 HB3' hA hb4 hz4 z0 z1 z2 z3 z4 HRR
      go_upto_region 15 with (fail)
      generalize ((w4.alloc (.cells #[.string (bs l), .int .i64 (e : Nat)] 46)).alloc (.cells #[.int .i64 q0, .int .i64 q1, .int .u64 (q2 : Int), .int .i64 q3, .string (bs q4)] 71)) = W5 at HI5 HB5 hZ x0 x1 y0 y1 y2 y3 y4 ⊢
      generalize w4.heap.size = X2 at x0 x1 y0 y1 y2 y3 y4 ⊢
      obtain ⟨z0, z1, z2, z3, z4⟩ := hZ
      have hQl := block_lt_of_cell z0
      have hXl2 := block_lt_of_cell x0
      have hYl := block_lt_of_cell y0
      simp only at hQl hXl2 hYl
      have hzl := bs_size l
      have heq := fun W => rpc_eq q0 q1 (q2 : Int) q3 (bs q4) W
      have HIc := Lib.hid (HI5.out.below (w' := W5.drew) (Below.refl _ W5).drew)
      have HBc := Lib.hid HB5.out.drew
      clear HI5 HB5
      go_region_held3 (fun w' => (w'.cell? ⟨Q, 0, none⟩ = some (.int .i64 q0) ∧ w'.cell? ⟨Q, 1, none⟩ = some (.int .i64 q1) ∧ w'.cell? ⟨Q, 2, none⟩ = some (.int .u64 (q2 : Int)) ∧ w'.cell? ⟨Q, 3, none⟩ = some (.int .i64 q3) ∧ w'.cell? ⟨Q, 4, none⟩ = some (.string (bs q4))) ∧ (w'.cell? ⟨X2, 0, none⟩ = some (.string (bs l)) ∧ w'.cell? ⟨X2, 1, none⟩ = some (.int .i64 (e : Nat))) ∧ (w'.cell? ⟨X2 + 1, 0, none⟩ = some (.int .i64 q0) ∧ w'.cell? ⟨X2 + 1, 1, none⟩ = some (.int .i64 q1) ∧ w'.cell? ⟨X2 + 1, 2, none⟩ = some (.int .u64 (q2 : Int)) ∧ w'.cell? ⟨X2 + 1, 3, none⟩ = some (.int .i64 q3) ∧ w'.cell? ⟨X2 + 1, 4, none⟩ = some (.string (bs q4))))
        (first | (refine keep12 hbK ?_; assumption) | assumption | exact ⟨⟨z0, z1, z2, z3, z4⟩, ⟨x0, x1⟩, y0, y1, y2, y3, y4⟩)
        (first
          | (go_at_call 21; refine (err_any _ l e _ HIc.out).mono ?_; rintro r wE ⟨rfl, rfl⟩)
          | (go_at_call 22; refine (len_any _ l e _ HIc.out).mono ?_; rintro r wE ⟨rfl, rfl⟩)
          | (go_at_call 31; refine (HTQ2.out _).mono ?_; rintro r wK ⟨rfl, hbK⟩; have HBc := Lib.hid (HBc.out.trans (hbK.mono HBc.out.size)); have HIc := Lib.hid (HIc.out.below hbK)))
      all_goals
        have HBz := Lib.hid HBc.out
        go_wp2
        go_ret
        exact ⟨rfl, HBz.out⟩
end Go.Proofs.Ytdkokfpbmmjfkaa
namespace Go.Proofs.Ytdkokfpbmmjfkaa
open Go.RowKit
set_option linter.unusedVariables false

theorem outStr_q {K : Nat → Prop} {b : Nat} {l : List UInt8} {wp W : World} (h : OutQ K b l wp) (ss : List ByteArray) (hl : l.length + (strsB ss).length ≤ 900000000) (hb : Below wp.heap.size wp W) (g off n cap : Nat) (hn : n = ss.length)
    (hr : StrRow W (some ⟨g, off, none⟩) ss) (hg : K g ∨ wp.heap.size ≤ g) :
    Calls Try.prog 75 #[.pointer (some ⟨b, 0, none⟩), .slice (some ⟨g, off, none⟩) n cap] W (QPost K b (l ++ strsB ss) wp W) := by
  subst hn
  obtain ⟨⟨v, h1, h2, h3⟩, hK⟩ := h
  refine (outStr_any b v l (some ⟨g, off, none⟩) cap ss W (h1.below hb) hl hr (fun x hx => by cases hx; exact OutQ.apart h1 h2 h3 hg)).mono ?_
  rintro r w' ⟨rfl, ho⟩
  exact ⟨rfl, OutQ.step h1 h2 h3 hK hb ho⟩
theorem keep5t {S : Nat → Prop} {W w' : World} (ht : Touch (fun k => ¬ S k) W w') {X : Nat} (hg : S X) {x y z u v : Value} (h : W.cell? ⟨X, 0, none⟩ = some x ∧ W.cell? ⟨X, 1, none⟩ = some y ∧ W.cell? ⟨X, 2, none⟩ = some z ∧ W.cell? ⟨X, 3, none⟩ = some u ∧ W.cell? ⟨X, 4, none⟩ = some v) :
    w'.cell? ⟨X, 0, none⟩ = some x ∧ w'.cell? ⟨X, 1, none⟩ = some y ∧ w'.cell? ⟨X, 2, none⟩ = some z ∧ w'.cell? ⟨X, 3, none⟩ = some u ∧ w'.cell? ⟨X, 4, none⟩ = some v :=
  ⟨keep_cell ht hg h.1, keep_cell ht hg h.2.1, keep_cell ht hg h.2.2.1, keep_cell ht hg h.2.2.2.1, keep_cell ht hg h.2.2.2.2⟩
theorem keep5a {W : World} {X : Nat} {x y z u v : Value} (o : Obj) (h : W.cell? ⟨X, 0, none⟩ = some x ∧ W.cell? ⟨X, 1, none⟩ = some y ∧ W.cell? ⟨X, 2, none⟩ = some z ∧ W.cell? ⟨X, 3, none⟩ = some u ∧ W.cell? ⟨X, 4, none⟩ = some v) :
    (W.alloc o).cell? ⟨X, 0, none⟩ = some x ∧ (W.alloc o).cell? ⟨X, 1, none⟩ = some y ∧ (W.alloc o).cell? ⟨X, 2, none⟩ = some z ∧ (W.alloc o).cell? ⟨X, 3, none⟩ = some u ∧ (W.alloc o).cell? ⟨X, 4, none⟩ = some v :=
  ⟨alloc_cell h.1 o, alloc_cell h.2.1 o, alloc_cell h.2.2.1 o, alloc_cell h.2.2.2.1 o, alloc_cell h.2.2.2.2 o⟩
theorem keep5d {W : World} {X : Nat} {x y z u v : Value} (o : Obj) (h : W.drew.cell? ⟨X, 0, none⟩ = some x ∧ W.drew.cell? ⟨X, 1, none⟩ = some y ∧ W.drew.cell? ⟨X, 2, none⟩ = some z ∧ W.drew.cell? ⟨X, 3, none⟩ = some u ∧ W.drew.cell? ⟨X, 4, none⟩ = some v) :
    (W.alloc o).drew.cell? ⟨X, 0, none⟩ = some x ∧ (W.alloc o).drew.cell? ⟨X, 1, none⟩ = some y ∧ (W.alloc o).drew.cell? ⟨X, 2, none⟩ = some z ∧ (W.alloc o).drew.cell? ⟨X, 3, none⟩ = some u ∧ (W.alloc o).drew.cell? ⟨X, 4, none⟩ = some v := keep5a (W := W) o h
set_option maxRecDepth 100000 in
set_option maxHeartbeats 40000000 in
theorem pcPut_any (K : Nat → Prop) (b : Nat) (l0 : List UInt8) (p : Pc) (w : World) (h : OutQ K b l0 w) (hp : PcDom p) (hl0 : l0.length ≤ 100000000) :
    Calls Try.prog 42 #[pcV p, .pointer (some ⟨b, 0, none⟩)] w fun r w' => r = .returned (.tuple #[]) ∧ OutQ K b (l0 ++ pieceB p) w' ∧ Touch (fun k => ¬ K k) w w' := by
  have hin := pcDom_in hp.1
  have hh := hp.2
  obtain ⟨p0, p1, p2, p3, p4⟩ := p
  unfold pcV
  simp only at hin hh ⊢
  have HO0 := Lib.hid (h.add (.cells #[.int .i64 p0, .int .i64 p1, .int .u64 (p2 : Int), .int .i64 p3, .string (bs p4)] 64))
  have HBW := Lib.hid ((Below.refl _ w).alloc (Nat.le_refl _) (.cells #[.int .i64 p0, .int .i64 p1, .int .u64 (p2 : Int), .int .i64 p3, .string (bs p4)] 64))
  have x0 : (w.alloc (.cells #[.int .i64 p0, .int .i64 p1, .int .u64 (p2 : Int), .int .i64 p3, .string (bs p4)] 64)).cell? ⟨w.heap.size, 0, none⟩ = some (.int .i64 p0) := by simp
  have x1 : (w.alloc (.cells #[.int .i64 p0, .int .i64 p1, .int .u64 (p2 : Int), .int .i64 p3, .string (bs p4)] 64)).cell? ⟨w.heap.size, 1, none⟩ = some (.int .i64 p1) := by simp
  have x2 : (w.alloc (.cells #[.int .i64 p0, .int .i64 p1, .int .u64 (p2 : Int), .int .i64 p3, .string (bs p4)] 64)).cell? ⟨w.heap.size, 2, none⟩ = some (.int .u64 (p2 : Int)) := by simp
  have x3 : (w.alloc (.cells #[.int .i64 p0, .int .i64 p1, .int .u64 (p2 : Int), .int .i64 p3, .string (bs p4)] 64)).cell? ⟨w.heap.size, 3, none⟩ = some (.int .i64 p3) := by simp
  have x4 : (w.alloc (.cells #[.int .i64 p0, .int .i64 p1, .int .u64 (p2 : Int), .int .i64 p3, .string (bs p4)] 64)).cell? ⟨w.heap.size, 4, none⟩ = some (.string (bs p4)) := by simp
  have l1 := countsB_len (ns := [p0, p1]) (by intro x hx; simp at hx; omega)
  have l2 := numsB_len [p2] (by intro x hx; simp at hx; omega)
  have l3 := countsB_len (ns := [p3]) (by intro x hx; simp at hx; omega)
  have l4 : (strsB [bs p4]).length ≤ 200 := by
    have := numB_ten (n := p4.length) (by omega)
    simp only [strsB, List.map_cons, List.map_nil, List.flatten_cons, List.flatten_nil, List.append_nil, strB, bs_list, List.length_append]
    omega
  simp at l1 l2 l3
  have HL1 := Lib.hid (show l0.length + 10 * [p0, p1].length ≤ 1000000000 by simp; omega)
  have HL2 := Lib.hid (show (l0 ++ countsB [p0, p1]).length + 10 * [p2].length ≤ 1000000000 by simp; omega)
  have HL3 := Lib.hid (show (l0 ++ countsB [p0, p1] ++ numsB [p2]).length + 10 * [p3].length ≤ 1000000000 by simp; omega)
  have HL4 := Lib.hid (show (l0 ++ countsB [p0, p1] ++ numsB [p2] ++ countsB [p3]).length + (strsB [bs p4]).length ≤ 900000000 by simp only [List.length_append]; omega)
  have HN1 := Lib.hid (show ∀ x ∈ [p0, p1], x ≤ 9223372036854775807 by intro x hx; simp at hx; omega)
  have HN2 := Lib.hid (show ∀ x ∈ [p2], x < 18446744073709551616 by intro x hx; simp at hx; omega)
  have HN3 := Lib.hid (show ∀ x ∈ [p3], x ≤ 9223372036854775807 by intro x hx; simp at hx; omega)
  have HZ4 := Lib.hid (show (bs p4).size ≤ maxLen by rw [bs_size]; unfold maxLen; omega)
  have HE := Lib.hid (show l0 ++ countsB [p0, p1] ++ numsB [p2] ++ countsB [p3] ++ strsB [bs p4] = l0 ++ pieceB ⟨p0, p1, p2, p3, p4⟩ by
    have e : strsB [bs p4] = numB p4.length ++ p4 := by simp only [strsB, List.map_cons, List.map_nil, List.flatten_cons, List.flatten_nil, List.append_nil, strB, bs_list]
    rw [e]
    simp only [countsB, numsB, pieceB, List.map_cons, List.map_nil, List.flatten_cons, List.flatten_nil, List.append_nil, List.append_assoc])
  clear hin hh hp l1 l2 l3 l4 h
  go_enter Try.func42, Try.ntmps42
  go_wp2_with fail
  generalize w.alloc (.cells #[.int .i64 p0, .int .i64 p1, .int .u64 (p2 : Int), .int .i64 p3, .string (bs p4)] 64) = W0 at HO0 HBW x0 x1 x2 x3 x4 ⊢
  generalize hX : w.heap.size = X at HO0 x0 x1 x2 x3 x4 ⊢
  have HX := Lib.hid hX
  clear hX
  go_region_held3 (fun w' => w'.cell? ⟨X, 0, none⟩ = some (.int .i64 p0) ∧ w'.cell? ⟨X, 1, none⟩ = some (.int .i64 p1) ∧ w'.cell? ⟨X, 2, none⟩ = some (.int .u64 (p2 : Int)) ∧ w'.cell? ⟨X, 3, none⟩ = some (.int .i64 p3) ∧ w'.cell? ⟨X, 4, none⟩ = some (.string (bs p4)))
    (first | (refine keep5t HT4.out (.inl (.inl (.inl (.inl (.inr rfl))))) ?_; assumption) | (refine keep5t HT3.out (.inl (.inl (.inl (.inr rfl)))) ?_; assumption) | (refine keep5t HT2.out (.inl (.inl (.inr rfl))) ?_; assumption) | (refine keep5t HT1.out (.inl (.inr rfl)) ?_; assumption) | (refine keep5a _ ?_; assumption) | (refine keep5d _ ?_; assumption) | exact ⟨x0, x1, x2, x3, x4⟩)
    (first
      | (go_at_call 69; refine (outCount_q HO2.out [p3] HL3.out HN3.out (by repeat' (first | exact Below.refl _ _ | refine Below.drew ?_ | refine bel_alloc ?_ _)) _ 0 1 1 rfl (intRow1 (by repeat' (first | exact new_cell (by first | rfl | (simp; done)) rfl | exact .inr ⟨by first | omega | (simp; done) | (simp; omega), by first | omega | (simp; done) | (simp; omega)⟩ | exact .inl (.inr ⟨by first | omega | (simp; done) | (simp; omega), by first | omega | (simp; done) | (simp; omega)⟩) | exact .inl (.inl (.inr ⟨by first | omega | (simp; done) | (simp; omega), by first | omega | (simp; done) | (simp; omega)⟩)) | with_reducible refine drew_cell ?_ | with_reducible refine alloc_cell ?_ _ | with_reducible refine keep_cell HT3.out ?_ ?_ | with_reducible refine keep_cell HT2.out ?_ ?_ | with_reducible refine keep_cell HT1.out ?_ ?_))) (by first | exact .inr (by first | omega | (simp; done) | (simp; omega)) | exact .inl (.inr ⟨by first | omega | (simp; done) | (simp; omega), by first | omega | (simp; done) | (simp; omega)⟩) | exact .inl (.inl (.inr ⟨by first | omega | (simp; done) | (simp; omega), by first | omega | (simp; done) | (simp; omega)⟩)) | exact .inl (.inl (.inl (.inr ⟨by first | omega | (simp; done) | (simp; omega), by first | omega | (simp; done) | (simp; omega)⟩))))).mono ?_; rintro r wC ⟨rfl, ho, ht⟩; have HO3 := Lib.hid ho; have HT3 := Lib.hid ht; clear ho ht)
      | (go_at_call 69; refine (outCount_q HO0.out [p0, p1] HL1.out HN1.out (by repeat' (first | exact Below.refl _ _ | refine Below.drew ?_ | refine bel_alloc ?_ _)) _ 0 2 2 rfl (intRow2 ⟨by repeat' (first | exact new_cell (by first | rfl | (simp; done)) rfl | exact .inr ⟨by first | omega | (simp; done) | (simp; omega), by first | omega | (simp; done) | (simp; omega)⟩ | exact .inl (.inr ⟨by first | omega | (simp; done) | (simp; omega), by first | omega | (simp; done) | (simp; omega)⟩) | exact .inl (.inl (.inr ⟨by first | omega | (simp; done) | (simp; omega), by first | omega | (simp; done) | (simp; omega)⟩)) | with_reducible refine drew_cell ?_ | with_reducible refine alloc_cell ?_ _ | with_reducible refine keep_cell HT3.out ?_ ?_ | with_reducible refine keep_cell HT2.out ?_ ?_ | with_reducible refine keep_cell HT1.out ?_ ?_), by repeat' (first | exact new_cell (by first | rfl | (simp; done)) rfl | exact .inr ⟨by first | omega | (simp; done) | (simp; omega), by first | omega | (simp; done) | (simp; omega)⟩ | exact .inl (.inr ⟨by first | omega | (simp; done) | (simp; omega), by first | omega | (simp; done) | (simp; omega)⟩) | exact .inl (.inl (.inr ⟨by first | omega | (simp; done) | (simp; omega), by first | omega | (simp; done) | (simp; omega)⟩)) | with_reducible refine drew_cell ?_ | with_reducible refine alloc_cell ?_ _ | with_reducible refine keep_cell HT3.out ?_ ?_ | with_reducible refine keep_cell HT2.out ?_ ?_ | with_reducible refine keep_cell HT1.out ?_ ?_)⟩) (.inr (by first | omega | (simp; done) | (simp; omega)))).mono ?_; rintro r wA ⟨rfl, ho, ht⟩; have HO1 := Lib.hid ho; have HT1 := Lib.hid ht; clear ho ht)
      | (go_at_call 68; refine (outNum_q HO1.out [p2] HL2.out HN2.out (by repeat' (first | exact Below.refl _ _ | refine Below.drew ?_ | refine bel_alloc ?_ _)) _ 0 1 1 rfl (intRow1 (by repeat' (first | exact new_cell (by first | rfl | (simp; done)) rfl | exact .inr ⟨by first | omega | (simp; done) | (simp; omega), by first | omega | (simp; done) | (simp; omega)⟩ | exact .inl (.inr ⟨by first | omega | (simp; done) | (simp; omega), by first | omega | (simp; done) | (simp; omega)⟩) | exact .inl (.inl (.inr ⟨by first | omega | (simp; done) | (simp; omega), by first | omega | (simp; done) | (simp; omega)⟩)) | with_reducible refine drew_cell ?_ | with_reducible refine alloc_cell ?_ _ | with_reducible refine keep_cell HT3.out ?_ ?_ | with_reducible refine keep_cell HT2.out ?_ ?_ | with_reducible refine keep_cell HT1.out ?_ ?_))) (by first | exact .inr (by first | omega | (simp; done) | (simp; omega)) | exact .inl (.inr ⟨by first | omega | (simp; done) | (simp; omega), by first | omega | (simp; done) | (simp; omega)⟩) | exact .inl (.inl (.inr ⟨by first | omega | (simp; done) | (simp; omega), by first | omega | (simp; done) | (simp; omega)⟩)) | exact .inl (.inl (.inl (.inr ⟨by first | omega | (simp; done) | (simp; omega), by first | omega | (simp; done) | (simp; omega)⟩))))).mono ?_; rintro r wB ⟨rfl, ho, ht⟩; have HO2 := Lib.hid ho; have HT2 := Lib.hid ht; clear ho ht)
      | (go_at_call 75; refine (outStr_q HO3.out [bs p4] HL4.out (by repeat' (first | exact Below.refl _ _ | refine Below.drew ?_ | refine bel_alloc ?_ _)) _ 0 1 1 rfl (row_one _ _ (bs p4) HZ4.out (by repeat' (first | exact new_cell (by first | rfl | (simp; done)) rfl | exact .inr ⟨by first | omega | (simp; done) | (simp; omega), by first | omega | (simp; done) | (simp; omega)⟩ | exact .inl (.inr ⟨by first | omega | (simp; done) | (simp; omega), by first | omega | (simp; done) | (simp; omega)⟩) | exact .inl (.inl (.inr ⟨by first | omega | (simp; done) | (simp; omega), by first | omega | (simp; done) | (simp; omega)⟩)) | with_reducible refine drew_cell ?_ | with_reducible refine alloc_cell ?_ _ | with_reducible refine keep_cell HT3.out ?_ ?_ | with_reducible refine keep_cell HT2.out ?_ ?_ | with_reducible refine keep_cell HT1.out ?_ ?_))) (by first | exact .inr (by first | omega | (simp; done) | (simp; omega)) | exact .inl (.inr ⟨by first | omega | (simp; done) | (simp; omega), by first | omega | (simp; done) | (simp; omega)⟩) | exact .inl (.inl (.inr ⟨by first | omega | (simp; done) | (simp; omega), by first | omega | (simp; done) | (simp; omega)⟩)) | exact .inl (.inl (.inl (.inr ⟨by first | omega | (simp; done) | (simp; omega), by first | omega | (simp; done) | (simp; omega)⟩))))).mono ?_; rintro r wD ⟨rfl, ho, ht⟩; have HO4 := Lib.hid ho; have HT4 := Lib.hid ht; clear ho ht))
  all_goals
    have HW := Lib.hid (show Touch (fun k => ¬ K k) W0 wD from (touchKK (K := K) (wp := W0) (by repeat' (first | exact Below.refl _ _ | refine Below.drew ?_ | refine bel_alloc ?_ _)) (HT1.out.mono fun k _ h1 h2 => h1 (h2.elim (fun h => .inl (.inl h)) .inr))).trans ((touchKK (K := K) (wp := wA) (by repeat' (first | exact Below.refl _ _ | refine Below.drew ?_ | refine bel_alloc ?_ _)) (HT2.out.mono fun k _ h1 h2 => h1 (h2.elim (fun h => .inl (.inl (.inl h))) .inr))).trans ((touchKK (K := K) (wp := wB) (by repeat' (first | exact Below.refl _ _ | refine Below.drew ?_ | refine bel_alloc ?_ _)) (HT3.out.mono fun k _ h1 h2 => h1 (h2.elim (fun h => .inl (.inl (.inl (.inl h)))) .inr))).trans (touchKK (K := K) (wp := wC) (by repeat' (first | exact Below.refl _ _ | refine Below.drew ?_ | refine bel_alloc ?_ _)) (HT4.out.mono fun k _ h1 h2 => h1 (h2.elim (fun h => .inl (.inl (.inl (.inl (.inl h))))) .inr))))))
    have HQ := Lib.hid (HO4.out.sub (K := K) (fun k hk => .inl (.inl (.inl (.inl (.inl hk))))))
    clear HO1 HO2 HO3 HO4 HT1 HT2 HT3 HT4 x0 x1 x2 x3 x4
    go_wp2
    go_end0
    exact ⟨rfl, by rw [← HE.out]; exact HQ.out, (touch_of_below HBW.out).trans HW.out⟩
end Go.Proofs.Ytdkokfpbmmjfkaa
namespace Go.Proofs.Ytdkokfpbmmjfkaa.chunkTexts
open Go.ChangeShapes Go.WideShapes Go.ChangeAt Go.RowKit
open Go.ChangeMaps (open_string shut_string)
set_option linter.unusedVariables false
theorem walk (w : World) (p : Pc) (hp0 : B64 p.turn) (hp1 : B64 p.bytes) (hp2 : p.hash < 18446744073709551616) (hp3 : B64 p.n) (hp4 : (bs p.text).size ≤ maxLen) (a0 : ByteArray) (w0 : a0.size ≤ maxLen) :
    Calls Try.prog 8 #[pcV p, .string a0] w fun e w' => e = .returned (.bool true) ∧ Below w.heap.size w w' :=
  chunkTexts_walk (Lib.hid (fun K b l0 p w h1 h2 h3 => pcPut_any K b l0 p w h1 h2 h3)) w p hp0 hp1 hp2 hp3 hp4 a0 w0

/-! ### THE ROW's STEP -/
theorem own : ownKnob Try.prog.godebug = none := by kernel_rfl
theorem laidOut : laidOutB Try.prog = true := by kernel_rfl
set_option maxRecDepth 100000 in
theorem lifted (os : Os) (started : os.Started) (H : Type) (enc : TypeId × Value → H) :
    ReturnsInHanded {} Try.checked os 8 .any (Rows.chunkTextsSpec.pre6 enc Try.prog Try.f8 Rows.chunkTextsRow.domain false) (Rows.chunkTextsSpec.post enc Try.prog Try.f8 false true false false) := by
  refine returnsInHanded_of_change (C := Try.checked) own started (by kernel_rfl) Try.func8
    (ChangeSpec.witness6 (enc := enc) (C := Try.checked) false ⟨#[], #[.agg #[.int .i64 0, .int .i64 0, .int .u64 0, .int .i64 0, .string ByteArray.empty], .string ByteArray.empty], []⟩ 8 (by kernel_rfl) (by kernel_rfl) (by kernel_rfl) (by kernel_rfl)) ?_
  intro W base args ds gs before hval0 hW hcnd _
  have hval : ∀ (j : Nat) t v, Try.f8.params[j]? = some t → args[j]? = some v → Value.okWide Try.prog W .any base t v := hval0
  have hW' := hW
  obtain ⟨p, q, hA0, hV, rfl, hfz, hnd⟩ := hW
  have hA : DataW.TrodAll enc Try.prog W 0 (fun _ => true) true Try.f8.params.toList args.toList ds p := hA0
  rw [Try.params8] at hA hval
  obtain ⟨v0, vs0, d0, ds0, p0, q0, hargs, rfl, rfl, h0, r0⟩ := trodAll_cons hA
  obtain ⟨v1, vs1, d1, ds1, p1, q1, rfl, rfl, rfl, h1, r1⟩ := trodAll_cons r0
  obtain ⟨rfl, rfl, rfl⟩ := trodAll_nil r1
  obtain rfl : args = #[v0, v1] := by cases args; simp_all
  obtain ⟨rfl, rfl⟩ := trodVars_none hV
  have k0 := h0
  have lt0 : ∀ x ∈ p0, x.block < W.heap.size := by obtain ⟨m, hm⟩ := k0; exact DataW.trod_lt m _ _ _ hm
  obtain ⟨pc0, rfl, pa0, pb0, pd0, pe0, pf0⟩ := pc_of (okWide_struct Try.underlying64 (hval 0 64 v0 rfl rfl)) h0
  have k1 := h1
  have lt1 : ∀ x ∈ p1, x.block < W.heap.size := by obtain ⟨m, hm⟩ := k1; exact DataW.trod_lt m _ _ _ hm
  obtain ⟨a1, rfl, rfl, rfl, w1⟩ := open_string Try.underlying9 (hval 1 9 v1 rfl rfl) h1
  clear hA0 hval0
  refine (walk W pc0 pa0 pb0 pd0 pe0 pf0 a1 w1).mono fun e W' ⟨he, bel⟩ => ?_
  subst he
  exact ⟨_, rfl, _, _, _, [], _, [], hW', trodAll_mk1 (shut_bool Try.underlying4 _), (trodAll_cons_mk (Below.trod laidOut (by kernel_rfl) (of_decide_eq_true (by kernel_rfl)) k0 bel lt0) (trodAll_cons_mk (Below.trod laidOut (by kernel_rfl) (of_decide_eq_true (by kernel_rfl)) k1 bel lt1) trodAll_mk0)), rfl, bel.frame _, fun h => by cases h⟩

theorem over : Rows.chunkTextsRow.holds Try.pinned (OpenSpec.ofChange Rows.chunkTextsSpec) :=
  OpenClaim.holds_of_wide 8 Try.f8 rfl rfl rfl rfl rfl rfl rfl ⟨rfl, rfl, rfl, rfl, rfl⟩ rfl rfl rfl rfl rfl (by kernel_rfl) Try.func8 (by kernel_rfl)
    (of_decide_eq_true (by kernel_rfl)) (by unfold Func.isWrapper; first | (rw [if_pos (by decide +kernel)]; kernel_rfl) | (rw [if_neg (by decide +kernel)]; exact ⟨rfl, rfl⟩))
    (fun os started H enc _ => lifted os started H enc)

end Go.Proofs.Ytdkokfpbmmjfkaa.chunkTexts
namespace Go.Proofs.Ytdkokfpbmmjfkaa
theorem chunkTexts_proved : Rows.ChunkTextsSaid := chunkTexts.over
end Go.Proofs.Ytdkokfpbmmjfkaa
