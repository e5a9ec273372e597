/-
  Instructions and images as a law's arguments: what their reading gives the walk.
-/
import Derived.Test.YtmonbjlkkhpinaaDoorCodeText
import Derived.Deep.Slices
import Derived.Deep.SlicePairs
import Derived.OpenShut
import Derived.ProofKit
namespace Go.Proofs.YtmonbjlkkhpinaaDoor
open Go.RowKit Go.WideShapes Go.ChangeShapes
set_option linter.unusedVariables false

/-- A list of instructions came in. -/
def InsArg (w : World) (a : Option Addr) (len cap : Nat) (l : List (Nat × Int)) : Prop := len = l.length ∧ len ≤ maxLen ∧ len ≤ cap ∧ InsRow w a l ∧ (a = none → l = []) ∧ ∀ x ∈ l, InsOk x
theorem three_of {α : Type} {l : List α} (h : l.length = 3) : ∃ a b c, l = [a, b, c] := by
  match l, h with
  | [a, b, c], _ => exact ⟨a, b, c, rfl⟩
theorem one_of {α : Type} {l : List α} (h : l.length = 1) : ∃ a, l = [a] := by
  match l, h with
  | [a], _ => exact ⟨a, rfl⟩
theorem cell_add {w : World} {b off j : Nat} {v : Value} (h : w.cell? ((⟨b, off, none⟩ : Addr).add j) = some v) : w.cell? ⟨b, off + j, none⟩ = some v := by
  by_cases hz : j = 0
  · subst hz; simpa [Addr.add] using h
  · simpa [Addr.add, hz] using h
theorem ins_of {H : Type} {enc : TypeId × Value → H} {w : World} {base : Nat} {sp : Nat → Bool} {held : Bool} {fuel : Nat} {a : Option Addr} {len cap : Nat} {x : DataW H × List MemPlace} (h : DataW.trod enc Tryd.prog w base sp held fuel 27 [.slice a len cap] = some x) : ∃ l, InsArg w a len cap l := by
  rcases Deep.open_slice_pairs Tryd.underlying27 Tryd.underlying47 (by kernel_rfl) rfl rfl (by kernel_rfl) (by kernel_rfl) h with ⟨hcs, _⟩ | ⟨ad, l, c, m, n, V0, V1, D0, D1, P0, P1, hcs, _, hl, hm, hmm, _, hx⟩
  · simp at hcs
    obtain ⟨rfl, rfl, rfl⟩ := hcs
    exact ⟨[], rfl, by simp [maxLen], Nat.le_refl _, fun h => by simp at h, fun _ => rfl, by simp⟩
  · simp at hcs
    obtain ⟨rfl, rfl, rfl⟩ := hcs
    have hmc : len ≤ m := by rw [hmm]; split <;> omega
    have each : ∀ i, i < len → ∃ q : Nat × Int, V0 i = .int .u8 (q.1 : Int) ∧ V1 i = .int .i64 q.2 ∧ InsOk q := by
      intro i hi
      obtain ⟨e0, e1, e2, e3⟩ := hx i (by omega)
      obtain ⟨k0, q0, _, wf0⟩ := DataW.trod_int Tryd.underlying44 e2
      obtain ⟨k1, q1, _, wf1⟩ := DataW.trod_int Tryd.underlying2 e3
      have h0 : 0 ≤ k0 ∧ k0 ≤ 255 := by simpa [Lit.wf, IntKind.min, IntKind.max, IntKind.signed, IntKind.bits] using wf0
      have h1 : -9223372036854775808 ≤ k1 ∧ k1 ≤ 9223372036854775807 := by simpa [Lit.wf, IntKind.min, IntKind.max, IntKind.signed, IntKind.bits] using wf1
      obtain ⟨o, rfl⟩ := Int.eq_ofNat_of_zero_le h0.1
      exact ⟨(o, k1), by simpa using q0, by simpa using q1, by show o < 256; omega, h1.1, h1.2⟩
    let F : Nat → Nat × Int := fun i => if hi : i < len then (each i hi).choose else (0, 0)
    have hF : ∀ i, i < len → V0 i = .int .u8 ((F i).1 : Int) ∧ V1 i = .int .i64 (F i).2 ∧ InsOk (F i) := by
      intro i hi
      have := (each i hi).choose_spec
      simp only [F, hi, dif_pos]
      exact this
    clear_value F
    refine ⟨(List.range len).map F, by simp, by omega, hl, fun h0 => ?_, (fun h => by cases h), fun x hx => ?_⟩
    · obtain ⟨b, off, spot⟩ := ad
      have hlen : 0 < len := by simpa using h0
      have h00 := (hx 0 (by omega)).1
      have hspot : spot = none := by simpa [Addr.add] using World.cell?_spot h00
      subst hspot
      refine ⟨b, off, rfl, fun i hi => ?_⟩
      have hil : i < len := by simpa using hi
      obtain ⟨e0, e1, -, -⟩ := hx i (by omega)
      obtain ⟨f0, f1, -⟩ := hF i hil
      rw [f0] at e0
      rw [f1] at e1
      simp only [List.getElem_map, List.getElem_range]
      exact ⟨cell_add e0, by rw [Nat.add_assoc]; exact cell_add e1⟩
    · simp only [List.mem_map, List.mem_range] at hx
      obtain ⟨i, hi, rfl⟩ := hx
      exact (hF i hi).2.2
/-- Numbers that fit, of a function that came in (however many instructions). -/
def FnIn (f : Fn) : Prop := -9223372036854775808 ≤ f.args ∧ f.args ≤ 9223372036854775807 ∧ -9223372036854775808 ≤ f.locals ∧ f.locals ≤ 9223372036854775807 ∧ f.code.length ≤ maxLen ∧ ∀ x ∈ f.code, InsOk x
/-- An image came in. -/
def ImgArg (w : World) (a : Option Addr) (len : Nat) (m : List Fn) : Prop := len = m.length ∧ len ≤ maxLen ∧ FnRow w a m ∧ ∀ f ∈ m, FnIn f
theorem fns_of {H : Type} {enc : TypeId × Value → H} {w : World} {base : Nat} {sp : Nat → Bool} {held : Bool} {fuel : Nat} {a : Option Addr} {len cap : Nat} {x : DataW H × List MemPlace} (h : DataW.trod enc Tryd.prog w base sp held fuel 22 [.slice a len cap] = some x) : ∃ m, ImgArg w a len m := by
  rcases Deep.open_slice Tryd.underlying22 h with ⟨hcs, _⟩ | ⟨ad, l, c, m, n, D, Pl, hcs, _, hl, hm, hmm, _, hx⟩
  · simp at hcs
    obtain ⟨rfl, rfl, rfl⟩ := hcs
    exact ⟨[], rfl, by simp [maxLen], fun h => by simp at h, by simp⟩
  · simp at hcs
    obtain ⟨rfl, rfl, rfl⟩ := hcs
    have hmc : len ≤ m := by rw [hmm]; split <;> omega
    have c29 : Tryd.prog.cellsOf 29 = 3 := by kernel_rfl
    have c3 : Tryd.prog.cellsOf 3 = 1 := by kernel_rfl
    have c27 : Tryd.prog.cellsOf 27 = 1 := by kernel_rfl
    rw [c29] at hx
    have each : ∀ i, i < len → ∃ f : Fn, w.cell? (ad.add (i * 3)) = some (.int .i64 f.args) ∧ w.cell? (ad.add (i * 3 + 1)) = some (.int .i64 f.locals) ∧ (∃ x c, w.cell? (ad.add (i * 3 + 2)) = some (.slice x f.code.length c) ∧ InsRow w x f.code) ∧ FnIn f := by
      intro i hi
      obtain ⟨cs', hc, ht⟩ := hx i (by omega)
      obtain ⟨ys, n', hn', hy, hlen, hyl, hf⟩ := DataW.trod_struct Tryd.underlying29 ht
      obtain ⟨_, hcl, hat⟩ := World.cells?_some hc
      obtain ⟨v0, v1, v2, rfl⟩ := three_of hcl
      obtain ⟨y0, y1, y2, rfl⟩ := three_of (by simpa using hyl)
      have g0 : DataW.trod enc Tryd.prog w base sp held n' 3 [v0] = some y0 := by simpa [c3] using hf 0 _ rfl
      have g1 : DataW.trod enc Tryd.prog w base sp held n' 3 [v1] = some y1 := by simpa [c3] using hf 1 _ rfl
      have g2 : DataW.trod enc Tryd.prog w base sp held n' 27 [v2] = some y2 := by simpa [c27] using hf 2 _ rfl
      obtain ⟨k0, q0, _, wf0⟩ := DataW.trod_int Tryd.underlying3 g0
      obtain ⟨k1, q1, _, wf1⟩ := DataW.trod_int Tryd.underlying3 g1
      simp only [List.cons.injEq, and_true] at q0 q1
      have h0 : -9223372036854775808 ≤ k0 ∧ k0 ≤ 9223372036854775807 := by simpa [Lit.wf, IntKind.min, IntKind.max, IntKind.signed, IntKind.bits] using wf0
      have h1 : -9223372036854775808 ≤ k1 ∧ k1 ≤ 9223372036854775807 := by simpa [Lit.wf, IntKind.min, IntKind.max, IntKind.signed, IntKind.bits] using wf1
      have h2 : ∃ x n c, v2 = .slice x n c := by
        rcases Deep.open_slice Tryd.underlying27 g2 with ⟨hcs, _⟩ | ⟨ad, l, c, m, n, D, Pl, hcs, _⟩
        · simp at hcs; exact ⟨_, _, _, hcs⟩
        · simp at hcs; exact ⟨_, _, _, hcs⟩
      obtain ⟨x2, n2, c2, rfl⟩ := h2
      obtain ⟨l, hl1, hl2, _, hl3, _, hl5⟩ := ins_of g2
      subst hl1
      have a0 := hat 0 (by decide)
      have a1 := hat 1 (by decide)
      have a2 := hat 2 (by decide)
      rw [Deep.add_add] at a0 a1 a2
      subst q0 q1
      exact ⟨⟨k0, k1, l⟩, a0, a1, ⟨x2, c2, a2, hl3⟩, h0.1, h0.2, h1.1, h1.2, hl2, hl5⟩
    let F : Nat → Fn := fun i => if hi : i < len then (each i hi).choose else ⟨0, 0, []⟩
    have hF : ∀ i, i < len → w.cell? (ad.add (i * 3)) = some (.int .i64 (F i).args) ∧ w.cell? (ad.add (i * 3 + 1)) = some (.int .i64 (F i).locals) ∧ (∃ x c, w.cell? (ad.add (i * 3 + 2)) = some (.slice x (F i).code.length c) ∧ InsRow w x (F i).code) ∧ FnIn (F i) := by
      intro i hi
      have := (each i hi).choose_spec
      simp only [F, hi, dif_pos]
      exact this
    clear_value F
    refine ⟨(List.range len).map F, by simp, by omega, fun h0 => ?_, fun x hx => ?_⟩
    · obtain ⟨b, off, spot⟩ := ad
      have hlen : 0 < len := by simpa using h0
      have h00 := (hF 0 (by omega)).1
      have hspot : spot = none := by simpa [Addr.add] using World.cell?_spot h00
      subst hspot
      refine ⟨b, off, rfl, fun i hi => ?_⟩
      have hil : i < len := by simpa using hi
      obtain ⟨e0, e1, ⟨x, c, e2, hr⟩, -⟩ := hF i hil
      simp only [List.getElem_map, List.getElem_range]
      exact ⟨cell_add e0, by rw [Nat.add_assoc]; exact cell_add e1, x, c, by rw [Nat.add_assoc]; exact cell_add e2, hr⟩
    · simp only [List.mem_map, List.mem_range] at hx
      obtain ⟨i, hi, rfl⟩ := hx
      exact (hF i hi).2.2.2
/-- An image by value: a list of functions. -/
theorem img_of {H : Type} {enc : TypeId × Value → H} {w : World} {base : Nat} {sp : Nat → Bool} {held : Bool} {v : Value} {d : DataW H} {p : List MemPlace} (hv : ∃ cs, v = .agg cs ∧ cs.size = Tryd.prog.cellsOf 24) (h : DataW.Trod enc Tryd.prog w base sp held 24 v d p) :
    ∃ a len cap m, v = .agg #[.slice a len cap] ∧ ImgArg w a len m := by
  obtain ⟨cs, rfl, hsz⟩ := hv
  have c24 : Tryd.prog.cellsOf 24 = 1 := by kernel_rfl
  have c22 : Tryd.prog.cellsOf 22 = 1 := by kernel_rfl
  rw [c24] at hsz
  obtain ⟨l⟩ := cs
  obtain ⟨c0, rfl⟩ := one_of (l := l) hsz
  obtain ⟨fuel, hf⟩ := h
  obtain ⟨ys, n', hn', hy, hlen, hyl, hg⟩ := DataW.trod_struct Tryd.underlying24 hf
  obtain ⟨y0, rfl⟩ := one_of (by simpa using hyl)
  have g0 : DataW.trod enc Tryd.prog w base sp held n' 22 [c0] = some y0 := by simpa [c22, Value.cells] using hg 0 _ rfl
  have h2 : ∃ x n c, c0 = .slice x n c := by
    rcases Deep.open_slice Tryd.underlying22 g0 with ⟨hcs, _⟩ | ⟨ad, l, c, m, n, D, Pl, hcs, _⟩
    · simp at hcs; exact ⟨_, _, _, hcs⟩
    · simp at hcs; exact ⟨_, _, _, hcs⟩
  obtain ⟨x2, n2, c2, rfl⟩ := h2
  obtain ⟨m, hm⟩ := fns_of g0
  exact ⟨x2, n2, c2, m, rfl, hm⟩
end Go.Proofs.YtmonbjlkkhpinaaDoor
