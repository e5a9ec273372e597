/-
  Layer 20: records as they lie, and as plain mathematics: what is read of bytes, and back.
-/
import Derived.Test.YtcbadcbnknmdnaaRosT7
import Derived.Test.YtcbadcbnknmdnaaOrdMath
namespace Go.Proofs.Ytcbadcbnknmdnaa
open Go.RowKit
set_option linter.unusedVariables false

/-! ### What holds while only old blocks, and one row, are written -/
def Inn (B : Nat) (a : Option Addr) (W : World) (P : World → Prop) : Prop := ∀ W', Touch (fun b => b < B ∨ a.map (·.block) = some b) W W' → P W'
theorem Inn.now {B : Nat} {a : Option Addr} {W : World} {P : World → Prop} (h : Inn B a W P) : P W := h W (Touch.refl _ _)
theorem Inn.go {B : Nat} {a : Option Addr} {W W' : World} {P : World → Prop} (h : Inn B a W P) (ht : Touch (fun b => b < B ∨ a.map (·.block) = some b) W W') : Inn B a W' P := fun W2 h2 => h W2 (ht.trans h2)
theorem Inn.low {B : Nat} {a : Option Addr} {W W' : World} {P : World → Prop} (h : Inn B a W P) (ht : Touch (fun b => b < B) W W') : Inn B a W' P := h.go (ht.mono fun k _ hk => .inl hk)
theorem Inn.new {B : Nat} {a a' : Option Addr} {W W' : World} {P : World → Prop} (h : Inn B a W P) (ht : Touch (fun b => b < B ∨ a.map (·.block) = some b) W W') (ha : ∀ b, a'.map (·.block) = some b → a.map (·.block) = some b ∨ W.heap.size ≤ b) : Inn B a' W' P :=
  fun W2 h2 => h W2 (ht.trans' h2 fun j hj e => by
    rcases e with e | e
    · exact .inl e
    · rcases ha j e with e | e
      · exact .inr e
      · omega)
theorem Inn.imp {B : Nat} {a : Option Addr} {W : World} {P Q : World → Prop} (h : Inn B a W P) (hi : ∀ W, P W → Q W) : Inn B a W Q := fun W2 h2 => hi _ (h W2 h2)
theorem Inn.and {B : Nat} {a : Option Addr} {W : World} {P Q : World → Prop} (h : Inn B a W P) (k : Inn B a W Q) : Inn B a W (fun W => P W ∧ Q W) := fun W2 h2 => ⟨h W2 h2, k W2 h2⟩
theorem Inn.sub {B B' : Nat} {a : Option Addr} {W : World} {P : World → Prop} (h : Inn B a W P) (hB : B' ≤ B) : Inn B' none W P := fun W2 h2 => h W2 (h2.mono fun k _ e => by
  rcases e with e | e
  · exact .inl (by omega)
  · simp at e)
/-- A list of a call's own, laid behind S's row. -/
theorem act_touch {S : Nat → Prop} {w w' : World} {a : Option Addr} {N c : Nat} {l : List Int} (h : ActL w (.slice a N c) l) (ht : Touch S w w') (hS : 0 < l.length → ∀ x, a = some x → ¬ S x.block) : ActL w' (.slice a N c) l := by
  obtain ⟨a', c', e1, h1, h2, h3, h4⟩ := h
  have e2 := e1
  simp only [Value.slice.injEq] at e2
  obtain ⟨rfl, -, -⟩ := e2
  refine ⟨a, c', e1, h1, h2, fun h0 => ?_, h4⟩
  obtain ⟨g, off, e, hc⟩ := h3 h0
  exact ⟨g, off, e, fun i hi => (ht.cell (p := ⟨g, off + i, none⟩) (block_lt_of_cell (hc i hi)) (hS h0 ⟨g, off, none⟩ e)).trans (hc i hi)⟩
/-! ### Plays -/
structure Pl where
  p : Int
  l : List Ord
def OrdL (w : World) (a : Option Addr) (l : List Ord) : Prop := OrdRow w a l ∧ (a = none → l = [])
def PlV (w : World) (r : List Value) (q : Pl) : Prop := ∃ a n, r = [.int .i64 q.p, .slice a q.l.length n] ∧ OrdL w a q.l
def PlIs (w : World) (ls : List (List Value)) (m : List Pl) : Prop := ls.length = m.length ∧ ∀ i (h : i < ls.length) (h' : i < m.length), PlV w ls[i] m[i]
theorem OrdL.touch {S : Nat → Prop} {w w' : World} {a : Option Addr} {l : List Ord} (h : OrdL w a l) (ht : Touch S w w') (hS : ∀ x, a = some x → ¬ S x.block) : OrdL w' a l := ⟨RecRow.touch (by decide) h.1 ht hS, h.2⟩
theorem OrdL.of {w : World} {a : Option Addr} {l : List Ord} (h : OrdRow w a l) : OrdL w a l := ⟨h, fun e => by
  cases l with
  | nil => rfl
  | cons x r =>
    obtain ⟨b, off, e2, -⟩ := h.at (show 0 < (x :: r).length by simp)
    rw [e] at e2; cases e2⟩
theorem OrdL.below {w w' : World} {a : Option Addr} {l : List Ord} (h : OrdL w a l) (hb : Below w.heap.size w w') : OrdL w' a l := ⟨h.1.below hb, h.2⟩
theorem PlV.below {w w' : World} {r : List Value} {q : Pl} (h : PlV w r q) (hb : Below w.heap.size w w') : PlV w' r q := by
  obtain ⟨a, n, e, hl⟩ := h
  exact ⟨a, n, e, hl.below hb⟩
theorem PlIs.below {w w' : World} {ls : List (List Value)} {m : List Pl} (h : PlIs w ls m) (hb : Below w.heap.size w w') : PlIs w' ls m := ⟨h.1, fun i h1 h2 => (h.2 i h1 h2).below hb⟩
theorem PlIs.nil (w : World) : PlIs w [] [] := ⟨rfl, fun i h => by simp at h⟩
theorem PlIs.snoc {w : World} {ls : List (List Value)} {m : List Pl} (h : PlIs w ls m) {r : List Value} {c : Pl} (hr : PlV w r c) : PlIs w (ls ++ [r]) (m ++ [c]) := by
  have hl := h.1
  refine ⟨by simp [hl], fun i h1 h2 => ?_⟩
  by_cases e : i < ls.length
  · rw [List.getElem_append_left e, List.getElem_append_left (by omega)]
    exact h.2 i e (by omega)
  · have : i = ls.length := by simp at h1; omega
    subst this
    simp only [List.getElem_append_right (Nat.le_refl _), Nat.sub_self, List.getElem_cons_zero]
    rw [List.getElem_append_right (by omega)]
    simpa [hl] using hr
theorem PlIs.wide {w : World} {ls : List (List Value)} {m : List Pl} (h : PlIs w ls m) : VWide 2 ls := fun x hx => by
  obtain ⟨i, hi, rfl⟩ := List.getElem_of_mem hx
  obtain ⟨a, n, e, -⟩ := h.2 i hi (by have := h.1; omega)
  rw [e]
  refine ⟨rfl, fun u hu => ?_⟩
  simp only [List.mem_cons, List.not_mem_nil, or_false] at hu
  rcases hu with rfl | rfl <;> rfl
/-- A row of plays: the cells of one. -/
theorem pl_at {w W : World} {a : Option Addr} {ls : List (List Value)} {m : List Pl} (hr : VRow 2 W a ls) (h : PlIs w ls m) {k : Nat} (hk : k < m.length) : ∃ b off x n, a = some ⟨b, off, none⟩ ∧ b < W.heap.size ∧ W.cell? ⟨b, off + k * 2, none⟩ = some (.int .i64 m[k].p) ∧ W.cell? ⟨b, off + k * 2 + 1, none⟩ = some (.slice x m[k].l.length n) ∧ OrdL w x m[k].l := by
  have hl := h.1
  obtain ⟨b, off, e, hc⟩ := hr (by omega)
  obtain ⟨x, n, hv, ha⟩ := h.2 k (by omega) hk
  have c0 := hc k (by omega) 0 (by decide)
  have c1 := hc k (by omega) 1 (by decide)
  rw [hv] at c0 c1
  exact ⟨b, off, x, n, e, block_lt_of_cell c0, c0, c1, ha⟩
/-! ### Mathematics -/
structure Rec where
  t : Int
  ch : List Chg
  tk : Int
  dl : Int
  pl : List Pl
def plyS (st : St) : St × Pl := ((batchS (countS st 31).1).1, ⟨((countS st 31).2 : Int), if (batchS (countS st 31).1).1.2 = 0 then (batchS (countS st 31).1).2 else []⟩)
def chyS (st : St) : St × Chg := ((chgS st).1, if (chgS st).1.2 = 0 then (chgS st).2 else ⟨0, 0, []⟩)
theorem chyS_eq (st : St) : chyS st = ((chgS st).1, chgT (chgS st)) := rfl
def chsS (st : St) : St × List Chg := runS chyS (countS st 8).2 (countS st 8).1
def plsS (st : St) : St × List Pl := runS plyS (countS st 32).2 (countS st 32).1
def recG3 (t : Nat) (c : List Chg) (k d : Nat) (st : St) : St × Rec := ((plsS st).1, ⟨(t : Int), c, (k : Int), (d : Int), (plsS st).2⟩)
def recG2 (t : Nat) (c : List Chg) (k : Nat) (st : St) : St × Rec := recG3 t c k (countS st 6).2 (countS st 6).1
def recG1 (t : Nat) (c : List Chg) (st : St) : St × Rec := recG2 t c (countS st 64).2 (countS st 64).1
def recG0 (t : Nat) (st : St) : St × Rec := recG1 t (chsS st).2 (chsS st).1
def recS (st : St) : St × Rec := recG0 (countS st 1099511627776).2 (countS st 1099511627776).1
def recT (t : St × Rec) : Rec := if t.1.2 = 0 then t.2 else ⟨0, [], 0, 0, []⟩
theorem Codec.clean {α : Type} {f : St → St × α} {enc : α → List UInt8} {dom : α → Prop} (h : Codec f enc dom) (d : α) : Codec (fun st => ((f st).1, if (f st).1.2 = 0 then (f st).2 else d)) enc dom where
  back x r hx := by
    show ((f (enc x ++ r, 0)).1, if (f (enc x ++ r, 0)).1.2 = 0 then (f (enc x ++ r, 0)).2 else d) = _
    rw [h.back x r hx]; rfl
  cut x p hx := h.cut x p hx
  stick e he := h.stick e he
  spell l hl := by
    have hl' : (f (l, 0)).1.2 = 0 := hl
    show l = enc (if (f (l, 0)).1.2 = 0 then (f (l, 0)).2 else d) ++ (f (l, 0)).1.1
    rw [if_pos hl']
    exact h.spell l hl'
  nil l hl := h.nil l hl
def plB (q : Pl) : List UInt8 := numB q.p.toNat ++ batchB q.l
def PlDom (q : Pl) : Prop := 0 ≤ q.p ∧ q.p ≤ 31 ∧ BatchDom q.l
def chsB (m : List Chg) : List UInt8 := numB m.length ++ (m.map chgB).flatten
def plsB (m : List Pl) : List UInt8 := numB m.length ++ (m.map plB).flatten
def recB (r : Rec) : List UInt8 := numB r.t.toNat ++ (chsB r.ch ++ (numB r.tk.toNat ++ (numB r.dl.toNat ++ plsB r.pl)))
def ChsDom (m : List Chg) : Prop := m.length ≤ 8 ∧ ∀ c ∈ m, ChgDom c
def PlsDom (m : List Pl) : Prop := m.length ≤ 32 ∧ ∀ c ∈ m, PlDom c
def RecDom (r : Rec) : Prop := 0 ≤ r.t ∧ r.t ≤ 1099511627776 ∧ ChsDom r.ch ∧ 0 ≤ r.tk ∧ r.tk ≤ 64 ∧ 0 ≤ r.dl ∧ r.dl ≤ 6 ∧ PlsDom r.pl
theorem plyC : Codec plyS plB PlDom := by
  have h : Codec plyS (fun q : Pl => numB q.p.toNat ++ batchB q.l) (fun q => q.p.toNat ≤ 31 ∧ (q = ⟨(q.p.toNat : Int), q.l⟩ ∧ BatchDom q.l)) :=
    Codec.bind (countC 31 (by decide)) (fun p => Codec.map (batchC.clean []) (fun l => (⟨(p : Int), l⟩ : Pl)) (fun q => q.l) (fun q => q = ⟨(p : Int), q.l⟩ ∧ BatchDom q.l) (fun y h => ⟨h.2, h.1.symm⟩) (fun st => rfl)) (fun q => q.p.toNat) (fun a st => rfl)
  refine h.sub fun q hq => ?_
  obtain ⟨p, l⟩ := q
  obtain ⟨h1, h2, h3⟩ := hq
  simp only at h1 h2 h3 ⊢
  exact ⟨by omega, by rw [Int.toNat_of_nonneg h1], h3⟩
theorem chyC : Codec chyS chgB ChgDom := chgC.clean ⟨0, 0, []⟩
theorem chsC : Codec chsS chsB ChsDom := by
  have h : Codec chsS (fun m : List Chg => numB m.length ++ (m.map chgB).flatten) (fun m => m.length ≤ 8 ∧ (m.length = m.length ∧ ∀ c ∈ m, ChgDom c)) := Codec.bind (countC 8 (by decide)) (fun n => chyC.run n) (fun m => m.length) (fun n st => runS_len chyS n st)
  exact h.sub fun m hm => ⟨hm.1, rfl, hm.2⟩
theorem plsC : Codec plsS plsB PlsDom := by
  have h : Codec plsS (fun m : List Pl => numB m.length ++ (m.map plB).flatten) (fun m => m.length ≤ 32 ∧ (m.length = m.length ∧ ∀ c ∈ m, PlDom c)) := Codec.bind (countC 32 (by decide)) (fun n => plyC.run n) (fun m => m.length) (fun n st => runS_len plyS n st)
  exact h.sub fun m hm => ⟨hm.1, rfl, hm.2⟩
theorem recC : Codec recS recB RecDom := by
  have g3 : ∀ t c k d, Codec (recG3 t c k d) (fun r : Rec => plsB r.pl) (fun r => r = ⟨(t : Int), c, (k : Int), (d : Int), r.pl⟩ ∧ PlsDom r.pl) := fun t c k d =>
    Codec.map plsC (fun l => (⟨(t : Int), c, (k : Int), (d : Int), l⟩ : Rec)) (fun r => r.pl) _ (fun y h => ⟨h.2, h.1.symm⟩) (fun st => rfl)
  have g2 : ∀ t c k, Codec (recG2 t c k) (fun r : Rec => numB r.dl.toNat ++ plsB r.pl) (fun r => r.dl.toNat ≤ 6 ∧ (r = ⟨(t : Int), c, (k : Int), (r.dl.toNat : Int), r.pl⟩ ∧ PlsDom r.pl)) := fun t c k =>
    Codec.bind (countC 6 (by decide)) (fun d => g3 t c k d) (fun r => r.dl.toNat) (fun a st => rfl)
  have g1 : ∀ t c, Codec (recG1 t c) (fun r : Rec => numB r.tk.toNat ++ (numB r.dl.toNat ++ plsB r.pl)) (fun r => r.tk.toNat ≤ 64 ∧ (r.dl.toNat ≤ 6 ∧ (r = ⟨(t : Int), c, (r.tk.toNat : Int), (r.dl.toNat : Int), r.pl⟩ ∧ PlsDom r.pl))) := fun t c =>
    Codec.bind (countC 64 (by decide)) (fun k => g2 t c k) (fun r => r.tk.toNat) (fun a st => rfl)
  have g0 : ∀ t, Codec (recG0 t) (fun r : Rec => chsB r.ch ++ (numB r.tk.toNat ++ (numB r.dl.toNat ++ plsB r.pl))) (fun r => ChsDom r.ch ∧ (r.tk.toNat ≤ 64 ∧ (r.dl.toNat ≤ 6 ∧ (r = ⟨(t : Int), r.ch, (r.tk.toNat : Int), (r.dl.toNat : Int), r.pl⟩ ∧ PlsDom r.pl)))) := fun t =>
    Codec.bind chsC (fun c => g1 t c) (fun r => r.ch) (fun a st => rfl)
  have g : Codec recS recB (fun r => r.t.toNat ≤ 1099511627776 ∧ (ChsDom r.ch ∧ (r.tk.toNat ≤ 64 ∧ (r.dl.toNat ≤ 6 ∧ (r = ⟨(r.t.toNat : Int), r.ch, (r.tk.toNat : Int), (r.dl.toNat : Int), r.pl⟩ ∧ PlsDom r.pl))))) :=
    Codec.bind (countC 1099511627776 (by decide)) (fun t => g0 t) (fun r => r.t.toNat) (fun a st => rfl)
  refine g.sub fun r hr => ?_
  obtain ⟨t, c, k, d, l⟩ := r
  obtain ⟨h1, h2, h3, h4, h5, h6, h7, h8⟩ := hr
  simp only at h1 h2 h3 h4 h5 h6 h7 h8 ⊢
  exact ⟨by omega, h3, by omega, by omega, by rw [Int.toNat_of_nonneg h1, Int.toNat_of_nonneg h4, Int.toNat_of_nonneg h6], h8⟩
theorem Codec.stuck {α : Type} {f : St → St × α} {enc : α → List UInt8} {dom : α → Prop} (h : Codec f enc dom) {st : St} (hs : StOk st) (he : st.2 ≠ 0) : (f st).1 = st := by
  obtain ⟨l, e⟩ := st
  obtain rfl : l = [] := hs.1 he
  exact h.stick e he
theorem run_stuckG {α : Type} {f : St → St × α} (hok : ∀ st, StOk st → StOk (f st).1) (hst : ∀ st, StOk st → st.2 ≠ 0 → (f st).1 = st) {st : St} (h : StOk st) {j n : Nat} (hj : j ≤ n) (he : (runS f j st).1.2 ≠ 0) : (runS f n st).1 = (runS f j st).1 := by
  obtain ⟨d, rfl⟩ : ∃ d, n = j + d := ⟨n - j, by omega⟩
  clear hj
  induction d with
  | zero => rfl
  | succ d ih =>
    show (f (runS f (j + d) st).1).1 = _
    rw [ih]
    exact hst _ (runS_stOk hok j h) he
theorem chyS_stOk {st : St} (h : StOk st) : StOk (chyS st).1 := by
  have hR : chgS st = ((runS votS (countS (countS (countS st 3).1 31).1 32).2 (countS (countS (countS st 3).1 31).1 32).1).1, ⟨((countS st 3).2 : Int), ((countS (countS st 3).1 31).2 : Int), (runS votS (countS (countS (countS st 3).1 31).1 32).2 (countS (countS (countS st 3).1 31).1 32).1).2⟩) := rfl
  rw [chyS_eq]
  simp only
  rw [hR]
  simp only
  exact runS_stOk (fun s hs => votS_ok hs) _ (countS_stOk (countS_stOk (countS_stOk h)))
theorem orderS_stOk {st : St} (h : StOk st) : StOk (orderS st).1 := by
  have hO : orderS st = (failS (numS (numS (countS (countS st 4).1 1099511627776).1).1).1 (checkN ⟨((countS st 4).2 : Nat), ((countS (countS st 4).1 1099511627776).2 : Nat), unzig (numS (countS (countS st 4).1 1099511627776).1).2, unzig (numS (numS (countS (countS st 4).1 1099511627776).1).1).2⟩),
    ⟨((countS st 4).2 : Nat), ((countS (countS st 4).1 1099511627776).2 : Nat), unzig (numS (countS (countS st 4).1 1099511627776).1).2, unzig (numS (numS (countS (countS st 4).1 1099511627776).1).1).2⟩) := rfl
  rw [hO]
  simp only
  exact failS_stOk (numS_stOk (numS_stOk (countS_stOk (countS_stOk h))))
theorem batchS_stOk {st : St} (h : StOk st) : StOk (batchS st).1 := by
  have hB : batchS st = runS orderS (countS st 8).2 (countS st 8).1 := rfl
  rw [hB]
  exact runS_stOk (fun s hs => orderS_stOk hs) _ (countS_stOk h)
theorem plyS_stOk {st : St} (h : StOk st) : StOk (plyS st).1 := by
  have hP : plyS st = ((batchS (countS st 31).1).1, ⟨((countS st 31).2 : Int), if (batchS (countS st 31).1).1.2 = 0 then (batchS (countS st 31).1).2 else []⟩) := rfl
  rw [hP]
  exact batchS_stOk (countS_stOk h)
end Go.Proofs.Ytcbadcbnknmdnaa
