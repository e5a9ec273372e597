/-
  Layer 3: functions of instructions, how many there are, an image's bytes.
-/
import Derived.Test.YtmonbjlkkhpinaaDoorCodeMem
namespace Go.Proofs.YtmonbjlkkhpinaaDoor
open Go.RowKit
set_option linter.unusedVariables false

theorem own_slice {w : World} {base : Nat} {e : TypeId} {size : Nat} {v : Value} {n : Nat} {xs : List Value} (h : w.ownsRow base e size v n xs) : ∃ a c, v = .slice a n c := by
  rcases h.2 with ⟨hv, h0⟩ | ⟨g, cap, cur, hv, -⟩
  · exact ⟨none, 0, by rw [hv, h0]⟩
  · exact ⟨_, cap, hv⟩
theorem own_touch {S : Nat → Prop} {w w' : World} {base : Nat} {e : TypeId} {size : Nat} {v : Value} {n : Nat} {xs : List Value} (h : w.ownsRow base e size v n xs) (ht : Touch S w w') (hs : ∀ k, v.ownBlock = some k → ¬ S k) : w'.ownsRow base e size v n xs := by
  refine ⟨h.1, ?_⟩
  rcases h.2 with h' | ⟨g, cap, cur, hv', hg, hh, hr⟩
  · exact .inl h'
  · have hlt : g < w.heap.size := (Array.getElem?_eq_some_iff.1 hh).1
    exact .inr ⟨g, cap, cur, hv', hg, (ht.block g hlt (hs g (by rw [hv']; rfl))).trans hh, hr⟩
/-- A row of instructions of the call's own, that none had before. -/
def NewCode (w : World) (v : Value) (l : List (Nat × Int)) (w' : World) : Prop :=
  w'.ownsRow 0 47 2 v l.length (codeCells l) ∧ (∀ k, v.ownBlock = some k → w.heap.size ≤ k) ∧ Below w.heap.size w w'
def ClonePost (w : World) (l : List (Nat × Int)) (e : Ending) (w' : World) : Prop := ∃ a c, e = .returned (.slice a l.length c) ∧ NewCode w (.slice a l.length c) l w'
theorem clone_any (a : Option Addr) (cap : Nat) (l : List (Nat × Int)) (w : World) (hl : l.length ≤ 100000) (hr : InsRow w a l) (hn : a = none → l = []) :
    Calls Tryd.prog 49 #[.slice a l.length cap] w (ClonePost w l) := by
  have hq : ∀ (w : World) (a : Option Addr) (n c n' c' : Nat), (binOp .eql 27 (.slice a n c) (.slice none n' c')).run Tryd.prog w = .ok (.bool a.isNone) w := fun w a n c n' c' => Lib.run_eql_slice_nil w _ _ a n c n' c' Tryd.underlying27
  cases a with
  | none =>
    have := hn rfl
    subst this
    clear hn hr
    go_enter Tryd.func49, Tryd.ntmps49
    go_wp2
    go_ret
    exact ⟨none, 0, rfl, World.ownsRow_nil _ _ _ _, fun k hk => by simp [Value.ownBlock] at hk, Below.refl _ _⟩
  | some x =>
    have hw1 : (w.alloc (.cells #[] 47)).ownsRow 0 47 2 (.slice (some ⟨w.heap.size, 0, none⟩) 0 0) 0 (codeCells []) := World.ownsRow_made w #[] 0 (Nat.zero_le _) (by decide) rfl
    obtain ⟨v', w', hrun, hown, hg, hf⟩ := code_append hw1 (some x) cap (hr.below ((Below.refl _ w).alloc (Nat.le_refl _) _)) (fun h => by cases h) (by omega)
    obtain ⟨a', c', rfl⟩ := own_slice hown
    rw [Nat.zero_add] at hown hrun hf
    have hb : Below w.heap.size w w' := ((Below.refl _ w).alloc (Nat.le_refl _) _).trans ((touch_grown hg).below (by simp) (fun k hk h => by simp [Value.ownBlock] at h; omega))
    have HP := Lib.hid (show NewCode w (.slice a' l.length c') l w' from ⟨by simpa using hown, fun k hk => by
      rcases hf k hk with h | h
      · simp [Value.ownBlock] at h; omega
      · simp at h; omega, hb⟩)
    have HR := Lib.hid hrun
    clear hown hg hf hb hrun hw1 hn hr
    go_enter Tryd.func49, Tryd.ntmps49
    go_wp2_with (at_builtin; refine wpList_append_run _ rfl (.tmp 5) (.tmp 6) 27 27 rfl _ _ rfl rfl (.slice a' l.length c') w' HR.out ?_)
    go_ret
    exact ⟨a', c', by simp, HP.out⟩
def MakePost (args locals : Int) (w : World) (l : List (Nat × Int)) (e : Ending) (w' : World) : Prop := ∃ a c, e = .returned (.agg #[.int .i64 args, .int .i64 locals, .slice a l.length c]) ∧ NewCode w (.slice a l.length c) l w'
theorem make_any (args locals : Int) (a : Option Addr) (cap : Nat) (l : List (Nat × Int)) (w : World) (hl : l.length ≤ 100000) (hr : InsRow w a l) (hn : a = none → l = []) :
    Calls Tryd.prog 25 #[.int .i64 args, .int .i64 locals, .slice a l.length cap] w (MakePost args locals w l) := by
  have HC := Lib.hid (clone_any a cap l (w.alloc (.cells #[.int .i64 0, .int .i64 0, .slice none 0 0] 29)) hl (hr.below ((Below.refl _ w).alloc (Nat.le_refl _) _)) hn)
  clear hr hn
  go_enter Tryd.func25, Tryd.ntmps25
  go_wp2_with fail
  refine HC.out.mono ?_
  rintro e w' ⟨a', c', rfl, hown, hnew, hb⟩
  have HO := Lib.hid hown
  have HN := Lib.hid hnew
  have HB := Lib.hid hb
  have hc0 : w'.cell? ⟨w.heap.size, 0, none⟩ = some (.int .i64 0) := (hb.cell (p := ⟨w.heap.size, 0, none⟩) (by simp)).trans (by simp)
  have hc1 : w'.cell? ⟨w.heap.size, 1, none⟩ = some (.int .i64 0) := (hb.cell (p := ⟨w.heap.size, 1, none⟩) (by simp)).trans (by simp)
  have hc2 : w'.cell? ⟨w.heap.size, 2, none⟩ = some (.slice none 0 0) := (hb.cell (p := ⟨w.heap.size, 2, none⟩) (by simp)).trans (by simp)
  have hf0 : w'.frozen? ⟨w.heap.size, 0, none⟩ = false := (hb.frozen (p := ⟨w.heap.size, 0, none⟩) (by simp)).trans (frozen_new _ _ _ _)
  have hf1 : w'.frozen? ⟨w.heap.size, 1, none⟩ = false := (hb.frozen (p := ⟨w.heap.size, 1, none⟩) (by simp)).trans (frozen_new _ _ _ _)
  have hf2 : w'.frozen? ⟨w.heap.size, 2, none⟩ = false := (hb.frozen (p := ⟨w.heap.size, 2, none⟩) (by simp)).trans (frozen_new _ _ _ _)
  have hz : w.heap.size < w'.heap.size := by have := hb.size; simp at this; omega
  clear hown hnew hb HC
  have hkeep : NewCode w (.slice a' l.length c') l (((w'.setCell ⟨w.heap.size, 0, none⟩ (.int .i64 args)).setCell ⟨w.heap.size, 1, none⟩ (.int .i64 locals)).setCell ⟨w.heap.size, 2, none⟩ (.slice a' l.length c')) := by
    have ht : Touch (fun k => k = w.heap.size) w' (((w'.setCell ⟨w.heap.size, 0, none⟩ (.int .i64 args)).setCell ⟨w.heap.size, 1, none⟩ (.int .i64 locals)).setCell ⟨w.heap.size, 2, none⟩ (.slice a' l.length c')) :=
      (((Touch.refl (fun k => k = w.heap.size) w').setCell (p := ⟨w.heap.size, 0, none⟩) (fun _ => rfl) _).setCell (p := ⟨w.heap.size, 1, none⟩) (fun _ => rfl) _).setCell (p := ⟨w.heap.size, 2, none⟩) (fun _ => rfl) _
    have hne : ∀ k, (Value.slice a' l.length c').ownBlock = some k → ¬ k = w.heap.size := fun k hk => by have := HN.out k hk; simp at this; omega
    refine ⟨own_touch HO.out ht hne, fun k hk => by have := HN.out k hk; simp at this; omega, ?_⟩
    exact (((Below.refl _ w).alloc (Nat.le_refl _) _).trans (HB.out.mono (by simp))).trans (ht.below (by have := HB.out.size; simp at this; omega) (fun k hk h => by omega))
  have HK := Lib.hid hkeep
  clear hkeep
  go_wp2
  exact bodyPost_ret (v := .agg #[.int .i64 args, .int .i64 locals, .slice a' l.length c']) (by simp [results, Tryd.results25, go_sem, hc0, hc1, hc2]) rfl ⟨a', c', rfl, HK.out⟩
end Go.Proofs.YtmonbjlkkhpinaaDoor
