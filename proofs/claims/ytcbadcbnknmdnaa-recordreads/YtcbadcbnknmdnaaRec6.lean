/-
  Layer 20: the document's own: a record out of bytes: its memory under way.
-/
import Derived.Test.YtcbadcbnknmdnaaRec3
import Derived.Test.YtcbadcbnknmdnaaRec5
namespace Go.Proofs.Ytcbadcbnknmdnaa
open Go.RowKit
set_option linter.unusedVariables false

/-- The same as Inn, of any blocks. -/
def InnS (S : Nat → Prop) (a : Option Addr) (W : World) (P : World → Prop) : Prop := ∀ W', Touch (fun b => S b ∨ a.map (·.block) = some b) W W' → P W'
theorem InnS.now {S : Nat → Prop} {a : Option Addr} {W : World} {P : World → Prop} (h : InnS S a W P) : P W := h W (Touch.refl _ _)
theorem InnS.low {S : Nat → Prop} {a : Option Addr} {W W' : World} {P : World → Prop} (h : InnS S a W P) (ht : Touch S W W') : InnS S a W' P := fun W2 h2 => h W2 ((ht.mono fun k _ hk => .inl hk).trans h2)
theorem InnS.imp {S : Nat → Prop} {a : Option Addr} {W : World} {P Q : World → Prop} (h : InnS S a W P) (hi : ∀ W, P W → Q W) : InnS S a W Q := fun W2 h2 => hi _ (h W2 h2)
theorem InnS.and {S : Nat → Prop} {a : Option Addr} {W : World} {P Q : World → Prop} (h : InnS S a W P) (k : InnS S a W Q) : InnS S a W (fun W => P W ∧ Q W) := fun W2 h2 => ⟨h W2 h2, k W2 h2⟩
theorem InnS.none {S S' : Nat → Prop} {a : Option Addr} {W : World} {P : World → Prop} (h : InnS S a W P) (hS : ∀ k, S' k → S k) : InnS S' Option.none W P := fun W2 h2 => h W2 (h2.mono fun k _ e => by
  rcases e with e | e
  · exact .inl (hS k e)
  · simp at e)
theorem InnS.app {S : Nat → Prop} {a a' : Option Addr} {W W' : World} {P : World → Prop} (h : InnS S a W P) (ht : Touch (fun b => a.map (·.block) = some b) W W') (hf : ∀ x, a' = some x → a.map (·.block) = some x.block ∨ W.heap.size ≤ x.block) : InnS S a' W' P :=
  fun W2 h2 => h W2 ((ht.mono fun k _ e => .inr e).trans' h2 fun j hj e => by
    rcases e with e | e
    · exact .inl e
    · cases a' with
      | none => simp at e
      | some x =>
        simp at e
        subst e
        rcases hf x rfl with e | e
        · exact .inr e
        · omega)
def SS (w : World) (C : Nat) (b : Nat) : Prop := b ≤ w.heap.size + 2 ∨ b = C
/-- The reader's box, and the two of the answer. -/
structure D3 (w : World) (st : St) (wr : World) : Prop where
  d : D1 w st wr
  t : Cs wr (w.heap.size + 2) zeroR
  ft : ∀ j, wr.frozen? ⟨w.heap.size + 2, j, none⟩ = false
  lt : w.heap.size + 2 < wr.heap.size
theorem D3.touch {S : Nat → Prop} {w : World} {st : St} {wr w' : World} (h : D3 w st wr) (ht : Touch S wr w') (hS : ∀ q, S q → w.heap.size + 2 < q) : D3 w st w' :=
  ⟨h.d.touch ht (fun q hq => by have := hS q hq; omega), h.t.touch ht (fun e => by have := hS _ e; omega), fun j => (ht.frozen (p := ⟨w.heap.size + 2, j, none⟩) h.lt (fun e => by have := hS _ e; simp only at this; omega)).trans (h.ft j), Nat.lt_of_lt_of_le h.lt ht.size⟩
theorem D3.keep {w : World} {st : St} {wr w' : World} (h : D3 w st wr) (hb : Below wr.heap.size wr w') : D3 w st w' := h.touch (touch_of_below (S := fun _ => False) hb) (fun _ h => h.elim)
theorem D3.set {w : World} {st : St} {wr : World} (h : D3 w st wr) (s2 : St) : D3 w s2 ((wr.setCell ⟨w.heap.size, 0, none⟩ (.string (bs s2.1))).setCell ⟨w.heap.size, 1, none⟩ (.int .i64 (s2.2 : Nat))) := by
  have ht := touch_in w wr (.string (bs s2.1)) (.int .i64 (s2.2 : Nat))
  exact ⟨h.d.set s2, h.t.touch ht (fun e => by omega), fun j => by rw [World.frozen?_setCell, World.frozen?_setCell]; exact h.ft j, by simpa using h.lt⟩
theorem D3.new (w : World) (st : St) : D3 w st (((w.alloc (.cells #[.string (bs st.1), .int .i64 (st.2 : Nat)] 57)).alloc (.cells #[.string ⟨#[]⟩, .int .i64 0] 57)).alloc (.cells #[.int .i64 0, .slice none 0 0, .int .i64 0, .int .i64 0, .slice none 0 0] 46)) := by
  have e2 : ((w.alloc (.cells #[.string (bs st.1), .int .i64 (st.2 : Nat)] 57)).alloc (.cells #[.string ⟨#[]⟩, .int .i64 0] 57)).heap.size = w.heap.size + 2 := by simp
  refine ⟨(D1.new w st).keep (bel_alloc (Below.refl _ _) _), Cs.new e2.symm rfl, fun j => ?_, by simp⟩
  rw [← e2]
  exact frozen_new _ _ _ _
theorem plyTy10 : VTy 109 2 (.agg #[.int .i64 0, .slice none 0 0]) 32 := ⟨by kernel_rfl, rfl, by decide, by decide⟩
theorem plNew {S : Nat → Prop} {a av : Option Addr} {wr w4 W : World} {p : Int} {L : List Ord} {cv : Nat} (hact : OrdRow w4 av L) (hfr : ∀ x, av = some x → wr.heap.size ≤ x.block) (hold : ∀ x, a = some x → x.block < wr.heap.size) (hS : ∀ k, S k → k < wr.heap.size) (ht : Touch S w4 W) : InnS S a W (fun W => PlV W [.int .i64 p, .slice av L.length cv] ⟨p, L⟩) :=
  (show InnS S a w4 (fun W => PlV W [.int .i64 p, .slice av L.length cv] ⟨p, L⟩) from fun W hW => ⟨av, cv, rfl, (OrdL.of hact).touch hW (fun x hx e => by
    have h1 := hfr x hx
    rcases e with e | e
    · have := hS _ e; omega
    · cases a with
      | none => simp at e
      | some y => simp at e; have := hold y rfl; omega)⟩).low ht
/-- The plays are read. -/
structure Ph3 (w : World) (C : Nat) (st : St) (t : Int) (a : Option Addr) (n c : Nat) (ls : List (List Value)) (m : List Chg) (tk dl : Int) (a2 : Option Addr) (c2 : Nat) (ls2 : List (List Value)) (pm : List Pl) (wr : World) : Prop where
  d : D3 w st wr
  c : Cs wr C [.int .i64 t, .slice a n c, .int .i64 tk, .int .i64 dl, .slice a2 ls2.length c2]
  fc : ∀ j, wr.frozen? ⟨C, j, none⟩ = false
  row : OwnV 109 2 (C + 1) a2 c2 ls2 wr
  inn : st.2 = 0 → InnS (SS w C) a2 wr (fun W => (VRow 3 W a ls ∧ ChIs W ls m) ∧ PlIs W ls2 pm)
  lo : w.heap.size + 2 < C
theorem Ph3.lt {w : World} {C : Nat} {st : St} {t : Int} {a : Option Addr} {n c : Nat} {ls : List (List Value)} {m : List Chg} {tk dl : Int} {a2 : Option Addr} {c2 : Nat} {ls2 : List (List Value)} {pm : List Pl} {wr : World} (h : Ph3 w C st t a n c ls m tk dl a2 c2 ls2 pm wr) : C < wr.heap.size := block_lt_of_cell (show wr.cell? ⟨C, 0, none⟩ = some (.int .i64 t) from h.c 0 (by simp))
theorem Ph3.keep {w : World} {C : Nat} {st : St} {t : Int} {a : Option Addr} {n c : Nat} {ls : List (List Value)} {m : List Chg} {tk dl : Int} {a2 : Option Addr} {c2 : Nat} {ls2 : List (List Value)} {pm : List Pl} {wr w' : World} (h : Ph3 w C st t a n c ls m tk dl a2 c2 ls2 pm wr) (hb : Below wr.heap.size wr w') : Ph3 w C st t a n c ls m tk dl a2 c2 ls2 pm w' :=
  ⟨h.d.keep hb, h.c.touch (touch_of_below (S := fun _ => False) hb) id, fun j => (hb.frozen (p := ⟨C, j, none⟩) h.lt).trans (h.fc j), h.row.touch (touch_of_below (S := fun _ => False) hb) (fun _ _ => id), fun he => (h.inn he).low (touch_of_below hb), h.lo⟩
theorem Ph3.set {w : World} {C : Nat} {l : List UInt8} {t : Int} {a : Option Addr} {n c : Nat} {ls : List (List Value)} {m : List Chg} {tk dl : Int} {a2 : Option Addr} {c2 : Nat} {ls2 : List (List Value)} {pm : List Pl} {wr : World} (h : Ph3 w C (l, 0) t a n c ls m tk dl a2 c2 ls2 pm wr) (s2 : St) : Ph3 w C s2 t a n c ls m tk dl a2 c2 ls2 pm ((wr.setCell ⟨w.heap.size, 0, none⟩ (.string (bs s2.1))).setCell ⟨w.heap.size, 1, none⟩ (.int .i64 (s2.2 : Nat))) := by
  have ht := touch_in w wr (.string (bs s2.1)) (.int .i64 (s2.2 : Nat))
  have hlo := h.lo
  exact ⟨h.d.set s2, h.c.touch ht (fun e => by omega), fun j => by rw [World.frozen?_setCell, World.frozen?_setCell]; exact h.fc j, h.row.touch ht (fun x hx e => by have := h.row.2 x hx; omega), fun _ => (h.inn rfl).low (ht.mono fun k _ e => .inl (by omega)), hlo⟩
set_option maxHeartbeats 1000000 in
theorem Ph3.step {w : World} {C : Nat} {st : St} {t : Int} {a : Option Addr} {n c : Nat} {ls : List (List Value)} {m : List Chg} {tk dl : Int} {a2 : Option Addr} {c2 : Nat} {ls2 : List (List Value)} {pm : List Pl} {W : World} (h : Ph3 w C st t a n c ls m tk dl a2 c2 ls2 pm W) (p : Int) (av : Option Addr) (nv cv : Nat) (q : Pl) (hn : st.2 = 0 → InnS (SS w C) a2 W (fun W => PlV W [.int .i64 p, .slice av nv cv] q)) (N : Nat) (hN : ls2.length = N) (hl : N ≤ 1000) :
    ∃ a' c' w', (Builtin.append_ #[44, 44] 44 #[.slice a2 N c2, .slice (some ⟨W.heap.size, 0, none⟩) 1 1]).run Try.prog (W.alloc (.cells #[.int .i64 p, .slice av nv cv] 109)) = .ok (.slice a' (N + 1) c') w' ∧ w'.cell? ⟨C, 4, none⟩ = some (.slice a2 N c2) ∧ w'.frozen? ⟨C, 4, none⟩ = false ∧
      Ph3 w C st t a n c ls m tk dl a' c' (ls2 ++ [[.int .i64 p, .slice av nv cv]]) (pm ++ [q]) (w'.setCell ⟨C, 4, none⟩ (.slice a' (N + 1) c')) := by
  subst hN
  have hlo := h.lo
  have hlt := h.lt
  have hx : ([.int .i64 p, .slice av nv cv] : List Value).length = 2 ∧ ∀ u ∈ ([.int .i64 p, .slice av nv cv] : List Value), u.oneCell' = true := ⟨rfl, fun u hu => by
    simp only [List.mem_cons, List.not_mem_nil, or_false] at hu
    rcases hu with rfl | rfl <;> rfl⟩
  obtain ⟨a', c', w', h1, h2, h3, hf⟩ := h.row.one' (ty := 44) plyTy10 Try.underlying44 (by omega) _ hx (by omega) ls2.length rfl _ rfl
  have hS : ∀ z, a2.map (·.block) = some z → C + 1 ≤ z := fun z e1 => map_none (P := fun z => C + 1 ≤ z) h.row.2 _ e1
  have c5 := h.c.touch h3 (fun e => by have := hS _ e; omega)
  have f5 : ∀ j, w'.frozen? ⟨C, j, none⟩ = false := fun j => (h3.frozen (p := ⟨C, j, none⟩) hlt (fun e => by have := hS _ e; simp only at this; omega)).trans (h.fc j)
  have c6 := c5.set (i := 4) (by simp) (.slice a' (ls2.length + 1) c')
  have d5 := h.d.touch h3 (fun q e => by have := hS q e; omega)
  have hC5 : Touch (fun k => k = C) w' (w'.setCell ⟨C, 4, none⟩ (.slice a' (ls2.length + 1) c')) := (Touch.refl (fun k => k = C) w').setCell (p := ⟨C, 4, none⟩) (fun _ => rfl) _
  refine ⟨a', c', w', h1, c5 4 (by simp), f5 4, ⟨d5.touch hC5 (fun q e => by omega), ?_, fun j => by rw [World.frozen?_setCell]; exact f5 j, h2.touch hC5 (fun y hy e => by have := h2.2 y hy; omega), fun he => ?_, hlo⟩⟩
  · rw [List.length_append]
    exact c6
  · exact ((((h.inn he).and (hn he)).app h3 hf).low (hC5.mono fun k _ e => .inr e)).imp fun W hW => ⟨hW.1.1, hW.1.2.snoc hW.2⟩
def RdPost (w : World) (T : St × Rec) (r : Ending) (w' : World) : Prop := ∃ a n c ls a2 n2 c2 ls2, r = .returned (.tuple #[.agg #[.string (bs T.1.1), .int .i64 (T.1.2 : Nat)], recV (recT T).t a n c (recT T).tk (recT T).dl a2 n2 c2]) ∧ Below w.heap.size w w' ∧ Hid (n = ls.length ∧ n2 = ls2.length ∧ Inn w.heap.size none w' (fun W => RecIs W (recT T) a ls a2 ls2))
theorem D3.res {w : World} {st : St} {wr : World} (h : D3 w st wr) (y0 y1 u v z y x : Value) : Below w.heap.size w (((((((wr.setCell ⟨w.heap.size + 1, 0, none⟩ y0).setCell ⟨w.heap.size + 1, 1, none⟩ y1).setCell ⟨w.heap.size + 2, 0, none⟩ u).setCell ⟨w.heap.size + 2, 1, none⟩ v).setCell ⟨w.heap.size + 2, 2, none⟩ z).setCell ⟨w.heap.size + 2, 3, none⟩ y).setCell ⟨w.heap.size + 2, 4, none⟩ x) := by
  have h1 := h.d.res y0 y1
  have a2 : w.heap.size ≤ w.heap.size + 2 := by omega
  exact ((((h1.setCell (p := ⟨w.heap.size + 2, 0, none⟩) a2 _).setCell (p := ⟨w.heap.size + 2, 1, none⟩) a2 _).setCell (p := ⟨w.heap.size + 2, 2, none⟩) a2 _).setCell (p := ⟨w.heap.size + 2, 3, none⟩) a2 _).setCell (p := ⟨w.heap.size + 2, 4, none⟩) a2 _
theorem touch7 (w wr : World) (y0 y1 u v z y x : Value) : Touch (fun b => b ≤ w.heap.size + 2) wr (((((((wr.setCell ⟨w.heap.size + 1, 0, none⟩ y0).setCell ⟨w.heap.size + 1, 1, none⟩ y1).setCell ⟨w.heap.size + 2, 0, none⟩ u).setCell ⟨w.heap.size + 2, 1, none⟩ v).setCell ⟨w.heap.size + 2, 2, none⟩ z).setCell ⟨w.heap.size + 2, 3, none⟩ y).setCell ⟨w.heap.size + 2, 4, none⟩ x) := by
  have h0 : Touch (fun b => b ≤ w.heap.size + 2) wr ((wr.setCell ⟨w.heap.size + 1, 0, none⟩ y0).setCell ⟨w.heap.size + 1, 1, none⟩ y1) := (touch_res w wr y0 y1).mono fun k _ e => by omega
  exact ((((h0.setCell (p := ⟨w.heap.size + 2, 0, none⟩) (fun _ => Nat.le_refl _) _).setCell (p := ⟨w.heap.size + 2, 1, none⟩) (fun _ => Nat.le_refl _) _).setCell (p := ⟨w.heap.size + 2, 2, none⟩) (fun _ => Nat.le_refl _) _).setCell (p := ⟨w.heap.size + 2, 3, none⟩) (fun _ => Nat.le_refl _) _).setCell (p := ⟨w.heap.size + 2, 4, none⟩) (fun _ => Nat.le_refl _) _
theorem Ph3.fin {w : World} {C : Nat} {l : List UInt8} {t : Int} {a : Option Addr} {n c : Nat} {ls : List (List Value)} {m : List Chg} {tk dl : Int} {a2 : Option Addr} {c2 : Nat} {ls2 : List (List Value)} {pm : List Pl} {wr : World} (h : Ph3 w C (l, 0) t a n c ls m tk dl a2 c2 ls2 pm wr) (y0 y1 u v z y x : Value) :
    Inn w.heap.size none (((((((wr.setCell ⟨w.heap.size + 1, 0, none⟩ y0).setCell ⟨w.heap.size + 1, 1, none⟩ y1).setCell ⟨w.heap.size + 2, 0, none⟩ u).setCell ⟨w.heap.size + 2, 1, none⟩ v).setCell ⟨w.heap.size + 2, 2, none⟩ z).setCell ⟨w.heap.size + 2, 3, none⟩ y).setCell ⟨w.heap.size + 2, 4, none⟩ x) (fun W => RecIs W ⟨t, m, tk, dl, pm⟩ a ls a2 ls2) := by
  have hlo := h.lo
  have hinn := h.inn rfl
  have hw := hinn.now.2.wide
  have i2 : InnS (SS w C) none wr (fun W => VRow 2 W a2 ls2) := fun W hW => VRow.touch (by decide) hw (h.row.row hw) hW (fun x hx e => by
    have := h.row.2 x hx
    rcases e with e | e
    · rcases e with e | e <;> omega
    · simp at e)
  have ht := touch7 w wr y0 y1 u v z y x
  have hall := ((((hinn.none (S' := SS w C) (fun _ h => h)).and i2).low (ht.mono fun k _ e => .inl e))).imp (Q := fun W => RecIs W ⟨t, m, tk, dl, pm⟩ a ls a2 ls2) fun W hW => ⟨hW.1.1, hW.2, hW.1.2⟩
  exact fun W hW => hall W (hW.mono fun k _ e => by
    rcases e with e | e
    · exact .inl (.inl (by omega))
    · exact .inr e)
end Go.Proofs.Ytcbadcbnknmdnaa
