/-
  Layer 14: a number that waits, or doesn't; how often; one more.
-/
import Derived.Test.YtlhcihjplolgiaaTim1
namespace Go.Proofs.Ytlhcihjplolgiaa
open Go.RowKit
set_option linter.unusedVariables false

def isN (m : Nat) (x : Tn) : Bool := x.n == m
set_option maxRecDepth 100000 in
theorem place1_any (m B : Nat) (l : List Tn) (w : World) (hB : w.cell? ⟨B, 0, none⟩ = some (.int .u32 (m : Int))) : TellsB 169 #[.pointer (some ⟨B, 0, none⟩)] l (isN m) w := by
  intro W n d g t hx hb
  show Calls Try.prog 169 #[.agg #[.int .u32 (n : Int), .int .i64 (d : Int), .int .i64 (g : Int), .int .i64 (t : Int)], .pointer (some ⟨B, 0, none⟩)] W _
  have hBl := block_lt_of_cell hB
  have c0 := (hb.cell (p := ⟨B, 0, none⟩) hBl).trans hB
  have hBW : B < W.heap.size := by have := hb.size; simp only at hBl; omega
  have HB := Lib.hid (hb.trans ((bel_alloc (Below.refl W.heap.size W) (.cells #[.int .u32 (n : Int), .int .i64 (d : Int), .int .i64 (g : Int), .int .i64 (t : Int)] 196)).mono hb.size))
  unfold isN
  clear hb hB hBl hx
  by_cases h : n = m
  · subst h
    have e : (({ n := n, due := d, long := g, times := t } : Tn).n == n) = true := by simp
    rw [e]
    clear e
    go_enter Try.func169, Try.ntmps169
    go_wp2
    go_ret
    exact ⟨rfl, HB.out⟩
  · have e : (({ n := n, due := d, long := g, times := t } : Tn).n == m) = false := by simpa using h
    have hi : ((n : Int) == (m : Int)) = false := by rw [beq_eq_false_iff_ne]; omega
    rw [e]
    clear e h
    go_enter Try.func169, Try.ntmps169
    go_wp2
    go_ret
    exact ⟨rfl, HB.out⟩
set_option maxRecDepth 100000 in
theorem place_any (b m : Nat) (f mo : Int) (a : Option Addr) (c : Nat) (l : List Tn) (w : World) (h : TAt w b f mo a c l) (hl : l.length ≤ 1000) : Calls Try.prog 149 #[.pointer (some ⟨b, 0, none⟩), .int .u32 (m : Int)] w (IdxPost w l (isN m)) := by
  have hA : Below w.heap.size w (w.alloc (.cells #[.int .u32 (m : Int)] 132)) := bel_alloc (Below.refl _ _) _
  have HI := Lib.hid ((idxF_any 169 #[.pointer (some ⟨w.heap.size, 0, none⟩)] (enters_of Try.func169 (by kernel_rfl) rfl) a c l (isN m) (w.alloc (.cells #[.int .u32 (m : Int)] 132)) hl (h.keep hA).trow (place1_any m w.heap.size l _ (by simp))).mono (R' := fun r w' => (∃ z : Int, r = .returned (.int .i64 z)) ∧ IdxPost w l (isN m) r w') fun r w' ⟨z, h1, h2, h3⟩ => ⟨⟨z, h1⟩, z, h1, h2, hA.trans (h3.mono hA.size)⟩)
  have c2 := h.c2
  have hbl := h.lt
  generalize IdxPost w l (isN m) = Post at HI ⊢
  clear h hA
  go_enter Try.func149, Try.ntmps149
  go_wp2_with fail
  refine HI.out.mono ?_
  rintro r w4 ⟨⟨z, rfl⟩, hp⟩
  have HR := Lib.hid hp
  clear hp HI
  go_wp2
  exact HR.out
/-- What stands where a number was found. -/
theorem idx_find {l : List Tn} {p : Tn → Bool} {z : Int} (h : IdxIs l p z) : (∃ k, ∃ hk : k < l.length, z = (k : Int) ∧ p l[k] = true ∧ l.find? p = some l[k]) ∨ (z = -1 ∧ l.find? p = none) := by
  rcases h with ⟨k, hk, hz, hp, hno⟩ | ⟨hz, hno⟩
  · refine .inl ⟨k, hk, hz, hp, ?_⟩
    rw [List.find?_eq_some_iff_getElem]
    exact ⟨hp, k, hk, rfl, fun j hj => by simpa using hno j hj⟩
  · exact .inr ⟨hz, List.find?_eq_none.2 (fun x hx => by simp [hno x hx])⟩
def timesV : Option Tn → Value
  | some x => .tuple #[.int .i64 (x.times : Int), .bool true]
  | none => .tuple #[.int .i64 0, .bool false]
def TimesPost (w : World) (l : List Tn) (m : Nat) (r : Ending) (w' : World) : Prop := r = .returned (timesV (l.find? (isN m))) ∧ Below w.heap.size w w'
/-- A row of its own is laid into the box. -/
theorem TAt.store {w : World} {b : Nat} {f mo : Int} {a a' : Option Addr} {c c' : Nat} {l l' : List Tn} {w1 : World} (h : TAt w b f mo a c l) (ho : OwnV 196 4 0 a' c' (l'.map tnC) w1) (ht : Touch (fun j => a.map (·.block) = some j) w w1) (hf : ∀ x, a' = some x → a.map (·.block) = some x.block ∨ w.heap.size ≤ x.block) (k : Nat) (hk : l'.length = k) :
    w1.cell? ⟨b, 2, none⟩ = some (.slice a l.length c) ∧ w1.frozen? ⟨b, 2, none⟩ = false ∧ b < w1.heap.size ∧ TAt (w1.setCell ⟨b, 2, none⟩ (.slice a' k c')) b f mo a' c' l' ∧ Touch (fun j => j = b ∨ a.map (·.block) = some j) w (w1.setCell ⟨b, 2, none⟩ (.slice a' k c')) := by
  subst hk
  have hbl := h.lt
  have hnb : ¬ a.map (·.block) = some b := fun e => map_none (P := fun k => k ≠ b) h.ne _ e rfl
  have q0 := (ht.cell (p := ⟨b, 0, none⟩) hbl hnb).trans h.c0
  have q1 := (ht.cell (p := ⟨b, 1, none⟩) hbl hnb).trans h.c1
  have q2 := (ht.cell (p := ⟨b, 2, none⟩) hbl hnb).trans h.c2
  have g2 := (ht.frozen (p := ⟨b, 2, none⟩) hbl hnb).trans h.f2
  have hne : ∀ x, a' = some x → x.block ≠ b := fun x hx => by
    rcases hf x hx with e | e
    · exact map_none (P := fun k => k ≠ b) h.ne _ e
    · omega
  have ht2 : Touch (fun j => j = b) w1 (w1.setCell ⟨b, 2, none⟩ (.slice a' l'.length c')) := (Touch.refl (fun j => j = b) w1).setCell (p := ⟨b, 2, none⟩) (fun _ => rfl) _
  refine ⟨q2, g2, by have := ht.size; omega, ⟨(World.cell?_setCell_other _ _ _ _ (by simp)).trans q0, (World.cell?_setCell_other _ _ _ _ (by simp)).trans q1, World.cell?_setCell_same _ _ _ q2, by simpa using g2, ho.touch ht2 (fun x hx => hne x hx), hne⟩, (ht.mono (fun _ _ e => .inr e)).trans' ht2 (fun _ _ e => .inl e)⟩
def StartPost (w : World) (b : Nat) (f : Nat) (mo : Int) (a : Option Addr) (c : Nat) (l : List Tn) (m now : Nat) (r : Ending) (w' : World) : Prop :=
  ((l.find? (isN m)).isSome = true ∧ r = .returned (.bool false) ∧ Below w.heap.size w w') ∨ ((l.find? (isN m)).isSome = false ∧ r = .returned (.bool true) ∧ ∃ a' c', TAt w' b f mo a' c' (l ++ [⟨m, now + f, f, 0⟩]) ∧ (∀ x, a' = some x → a.map (·.block) = some x.block ∨ w.heap.size ≤ x.block) ∧ Touch (fun j => j = b ∨ a.map (·.block) = some j) w w')
set_option maxRecDepth 100000 in
set_option maxHeartbeats 1000000 in
theorem start_any (b m now f : Nat) (mo : Int) (a : Option Addr) (c : Nat) (l : List Tn) (w : World) (h : TAt w b f mo a c l) (hl : l.length ≤ 900) (hf : f ≤ 1000000000) (hn : now ≤ 1000000000) : Calls Try.prog 124 #[.pointer (some ⟨b, 0, none⟩), .int .u32 (m : Int), .int .i64 (now : Int)] w (StartPost w b f mo a c l m now) := by
  have HP := Lib.hid (place_any b m f mo a c l w h (by omega))
  have HH := Lib.hid h
  generalize hpost : StartPost w b f mo a c l m now = Post
  have HPost := Lib.hid hpost
  clear h hpost
  go_enter Try.func124, Try.ntmps124
  go_wp2_with fail
  refine HP.out.mono ?_
  rintro r w4 ⟨z, rfl, hi, hb⟩
  have HK := Lib.hid (HH.out.keep hb)
  have HB := Lib.hid hb
  have hcs := idx_find hi
  clear hi hb HP HH
  rcases hcs with ⟨k, hk, rfl, hp, hfi⟩ | ⟨rfl, hfi⟩
  · have HF : Hid (StartPost w b f mo a c l m now (.returned (.bool false)) w4) := Lib.hid (.inl ⟨by rw [hfi]; rfl, rfl, HB.out⟩)
    rw [HPost.out] at HF
    have hk0 : (0 : Int) ≤ (k : Int) := by omega
    clear hp hfi HB HK
    go_wp2
    exact HF.out
  · obtain ⟨a', c', w1, hrun, ho, hto, hfr⟩ := own_one tnTy Try.underlying191 (HK.out.row.touch (touch_of_below (S := fun _ => False) (drewN_bel w4 1)) (fun _ _ => id)) (tnC (⟨m, now + f, f, 0⟩ : Tn)) (tn_wide [(⟨m, now + f, f, 0⟩ : Tn)]) (by rw [List.length_map]; omega) l.length (by rw [List.length_map]) #[.int .u32 (m : Int), .int .i64 ((now : Int) + (f : Int)), .int .i64 (f : Int), .int .i64 0] (by simp [tnC])
    have ho' : OwnV 196 4 0 a' c' ((l ++ [(⟨m, now + f, f, 0⟩ : Tn)]).map tnC) w1 := by simpa using ho
    obtain ⟨q2, g2, hb1, hat, htt⟩ := (HK.out.keep (drewN_bel w4 1)).store ho' hto hfr (l.length + 1) (by simp)
    have HF : Hid (StartPost w b f mo a c l m now (.returned (.bool true)) (w1.setCell ⟨b, 2, none⟩ (.slice a' (l.length + 1) c'))) := Lib.hid (.inr ⟨by rw [hfi]; rfl, rfl, a', c', hat, fun x hx => (hfr x hx).imp id fun e => by have := HB.out.size; have e : w4.heap.size ≤ x.block := e; omega, ((touch_of_below HB.out).trans (touch_of_below (drewN_bel w4 1))).trans htt⟩)
    rw [HPost.out] at HF
    have HRUN := Lib.hid hrun
    have c0 := HK.out.c0
    have c2 := HK.out.c2
    have hbl := HK.out.lt
    have hs0 : IntKind.i64.wrap ((now : Int) + (f : Int)) = (now : Int) + (f : Int) := by rw [IntKind.wrap_i64]; omega
    clear hfi HB HK hrun ho ho' hto hfr hat htt
    go_upto_region 3 with (fail)
    go_region_law (first
      | (refine step_append_run _ rfl (.tmp 15) (.tmp 30) 191 191 rfl _ _ (by rfl) (by rfl) (.slice a' (l.length + 1) c') w1 HRUN.out ?_))
    all_goals
      go_wp2
      exact HF.out
end Go.Proofs.Ytlhcihjplolgiaa
