/-
  Layer 17: Change, and Forget.
-/
import Derived.Test.YtlhcihjplolgiaaPace8
import Derived.Test.YtlhcihjplolgiaaDelRow
namespace Go.Proofs.Ytlhcihjplolgiaa
open Go.RowKit
set_option linter.unusedVariables false

theorem PlanAt.store {w : World} {b : Nat} {a a' : Option Addr} {c c' : Nat} {l l' : List Sp} {w1 : World} (h : PlanAt w b a c l) (ho : OwnV 168 3 0 a' c' (l'.map spC) w1) (ht : Touch (fun j => a.map (·.block) = some j) w w1) (hf : ∀ x, a' = some x → a.map (·.block) = some x.block ∨ w.heap.size ≤ x.block) (k : Nat) (hk : l'.length = k) (h1 : l'.length ≤ 1000) (h2 : 0 < l'.length) :
    w1.cell? ⟨b, 0, none⟩ = some (.slice a l.length c) ∧ w1.frozen? ⟨b, 0, none⟩ = false ∧ b < w1.heap.size ∧ PlanAt (w1.setCell ⟨b, 0, none⟩ (.slice a' k c')) b a' c' l' ∧ Touch (fun j => j = b ∨ a.map (·.block) = some j) w (w1.setCell ⟨b, 0, none⟩ (.slice a' k c')) := by
  subst hk
  have hbl := h.lt
  have hnb : ¬ a.map (·.block) = some b := fun e => map_none (P := fun k => k ≠ b) h.ne _ e rfl
  have q0 := (ht.cell (p := ⟨b, 0, none⟩) hbl hnb).trans h.c0
  have g0 := (ht.frozen (p := ⟨b, 0, none⟩) hbl hnb).trans h.f0
  have hne : ∀ x, a' = some x → x.block ≠ b := fun x hx => by
    rcases hf x hx with e | e
    · exact map_none (P := fun k => k ≠ b) h.ne _ e
    · omega
  have ht2 : Touch (fun j => j = b) w1 (w1.setCell ⟨b, 0, none⟩ (.slice a' l'.length c')) := (Touch.refl (fun j => j = b) w1).setCell (p := ⟨b, 0, none⟩) (fun _ => rfl) _
  exact ⟨q0, g0, by have := ht.size; omega, ⟨World.cell?_setCell_same _ _ _ q0, by simpa using g0, ho.touch ht2 (fun x hx => hne x hx), hne, h1, h2⟩, (ht.mono (fun _ _ e => .inr e)).trans' ht2 (fun _ _ e => .inl e)⟩
def lastF (l : List Sp) : Int := (l.getD (l.length - 1) ⟨0, 0, 0⟩).f
theorem lastF_eq {l : List Sp} (h : 0 < l.length) : lastF l = (l[l.length - 1]'(by omega)).f := by
  unfold lastF; rw [List.getD, List.getElem?_eq_getElem (by omega)]; rfl
def ChgPost (w : World) (b : Nat) (a : Option Addr) (c : Nat) (l : List Sp) (turn t d : Int) (r : Ending) (w' : World) : Prop :=
  (mayP t d = false ∧ r = .returned (.int .i64 4) ∧ Below w.heap.size w w') ∨ (mayP t d = true ∧ turn ≤ lastF l ∧ r = .returned (.int .i64 11) ∧ Below w.heap.size w w') ∨ (mayP t d = true ∧ lastF l < turn ∧ r = .returned (.int .i64 0) ∧ ∃ a' c', PlanAt w' b a' c' (l ++ [⟨turn, t, d⟩]) ∧ (∀ x, a' = some x → a.map (·.block) = some x.block ∨ w.heap.size ≤ x.block) ∧ Touch (fun j => j = b ∨ a.map (·.block) = some j) w w')
set_option maxRecDepth 100000 in
set_option maxHeartbeats 1000000 in
theorem change17_any (b : Nat) (a : Option Addr) (c : Nat) (l : List Sp) (turn t d : Int) (w : World) (h : PlanAt w b a c l) (hl : l.length ≤ 900) : Calls Try.prog 54 #[.pointer (some ⟨b, 0, none⟩), .int .i64 turn, .agg #[.int .i64 t, .int .i64 d]] w (ChgPost w b a c l turn t d) := by
  have HCK := Lib.hid (fun W => pcheck17_any t d W)
  have HLA := Lib.hid (fun W (h : PlanAt W b a c l) => (last17_any b a c l W h).mono (R' := fun r w' => r = .returned (.int .i64 (lastF l)) ∧ ∃ m, w' = W.drewN m) fun r w' h' => by rw [lastF_eq h.pos]; exact h')
  have HH := Lib.hid h
  have hA : Below w.heap.size w ((w.alloc (.cells #[.int .i64 t, .int .i64 d] 82)).alloc (.cells #[.int .i64 t, .int .i64 d] 82)) := bel_alloc (bel_alloc (Below.refl _ _) _) _
  have HA := Lib.hid hA
  have HX := Lib.hid (show ((w.alloc (.cells #[.int .i64 t, .int .i64 d] 82)).alloc (.cells #[.int .i64 t, .int .i64 d] 82)).cell? ⟨w.heap.size, 0, none⟩ = some (.int .i64 t) ∧ ((w.alloc (.cells #[.int .i64 t, .int .i64 d] 82)).alloc (.cells #[.int .i64 t, .int .i64 d] 82)).cell? ⟨w.heap.size, 1, none⟩ = some (.int .i64 d) from ⟨alloc_cell (new_cell rfl rfl) _, alloc_cell (new_cell rfl rfl) _⟩)
  generalize hpost : ChgPost w b a c l turn t d = Post
  have HPost := Lib.hid hpost
  clear h hpost hA
  cases hm : mayP t d with
  | false =>
    rw [hm] at HCK
    simp only [Bool.false_eq_true, if_false] at HCK
    have HMF := Lib.hid hm
    clear hm
    go_enter Try.func54, Try.ntmps54
    go_wp2_with fail
    refine (HCK.out _).mono ?_
    rintro r w2 ⟨rfl, rfl⟩
    generalize (w.alloc (.cells #[.int .i64 t, .int .i64 d] 82)).alloc (.cells #[.int .i64 t, .int .i64 d] 82) = W at HA HX ⊢
    have HF : Hid (ChgPost w b a c l turn t d (.returned (.int .i64 4)) W) := Lib.hid (.inl ⟨HMF.out, rfl, HA.out⟩)
    rw [HPost.out] at HF
    go_wp2
    first | exact HF.out | (go_ret; exact HF.out)
  | true =>
    rw [hm] at HCK
    simp only [if_true] at HCK
    have HMT := Lib.hid hm
    clear hm
    have hcs : turn ≤ lastF l ∨ lastF l < turn := by omega
    generalize hlf : lastF l = F at HLA hcs
    have HLF := Lib.hid hlf
    clear hlf
    go_enter Try.func54, Try.ntmps54
    go_wp2_with fail
    refine (HCK.out _).mono ?_
    rintro r w2 ⟨rfl, rfl⟩
    generalize (w.alloc (.cells #[.int .i64 t, .int .i64 d] 82)).alloc (.cells #[.int .i64 t, .int .i64 d] 82) = W at HA HX ⊢
    have HK0 := Lib.hid (HH.out.keep HA.out)
    go_wp2_with fail
    refine (HLA.out _ HK0.out).mono ?_
    rintro r w3 ⟨rfl, m, hm3⟩
    have HB3 := Lib.hid (show Below w.heap.size w w3 by rw [hm3]; exact bel17_drewN HA.out m)
    have HK := Lib.hid (show PlanAt w3 b a c l by rw [hm3]; exact HK0.out.keep (bel17_drewN (Below.refl _ _) m))
    obtain ⟨x0, x1⟩ := keep2p (show Below W.heap.size W w3 by rw [hm3]; exact bel17_drewN (Below.refl _ _) m) HX.out
    clear hm3 HK0 HA HX HLA HCK
    rcases hcs with hcs | hcs
    · have HF : Hid (ChgPost w b a c l turn t d (.returned (.int .i64 11)) w3) := Lib.hid (.inr (.inl ⟨HMT.out, by rw [HLF.out]; exact hcs, rfl, HB3.out⟩))
      rw [HPost.out] at HF
      go_wp2
      first | exact HF.out | (go_ret; exact HF.out)
    · obtain ⟨a', c', w1, hrun, ho, hto, hfr⟩ := own_one spTy Try.underlying169 (HK.out.row.touch (touch_of_below (S := fun _ => False) (drewN_bel w3 1)) (fun _ _ => id)) (spC (⟨turn, t, d⟩ : Sp)) (sp_wide [(⟨turn, t, d⟩ : Sp)]) (by rw [List.length_map]; omega) l.length (by rw [List.length_map]) #[.int .i64 turn, .int .i64 t, .int .i64 d] (by simp [spC])
      have ho' : OwnV 168 3 0 a' c' ((l ++ [(⟨turn, t, d⟩ : Sp)]).map spC) w1 := by simpa using ho
      obtain ⟨q0, g0, hb1, hat, htt⟩ := (HK.out.keep (drewN_bel w3 1)).store ho' hto hfr (l.length + 1) (by simp) (by simp; omega) (by simp)
      have HF : Hid (ChgPost w b a c l turn t d (.returned (.int .i64 0)) (w1.setCell ⟨b, 0, none⟩ (.slice a' (l.length + 1) c'))) := Lib.hid (.inr (.inr ⟨HMT.out, by rw [HLF.out]; exact hcs, rfl, a', c', hat, fun x hx => (hfr x hx).imp id fun e => by have := HB3.out.size; have e : w3.heap.size ≤ x.block := e; omega, ((touch_of_below HB3.out).trans (touch_of_below (drewN_bel w3 1))).trans htt⟩))
      rw [HPost.out] at HF
      have HRUN := Lib.hid hrun
      have c0 := HK.out.c0
      have hbl := HK.out.lt
      clear HB3 HK hrun ho ho' hto hfr hat htt
      go_upto_region 6 with (fail)
      go_region_law (first
        | (refine step_append_run _ rfl (.tmp 21) (.tmp 25) 169 169 rfl _ _ (by rfl) (by rfl) (.slice a' (l.length + 1) c') w1 HRUN.out ?_))
      all_goals
        go_wp2
        first | exact HF.out | (go_ret; exact HF.out)
end Go.Proofs.Ytlhcihjplolgiaa
