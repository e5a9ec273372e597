/-
  Layer 17: Forget: the first ones go.
-/
import Derived.Test.YtlhcihjplolgiaaPace11
namespace Go.Proofs.Ytlhcihjplolgiaa
open Go.RowKit
set_option linter.unusedVariables false

def Del17Post (w : World) (g c : Nat) (l : List Sp) (n : Nat) (r : Ending) (w' : World) : Prop := r = .returned (.slice (some ⟨g, 0, none⟩) (l.length - n) c) ∧ OwnV 168 3 0 (some ⟨g, 0, none⟩) c ((l.drop n).map spC) w' ∧ Touch (fun j => j = g) w w'
theorem zero17 (w : World) : (zeroValue 168).run Try.prog w = .ok (.agg #[.int .i64 0, .int .i64 0, .int .i64 0]) w := by kernel_rfl
set_option maxRecDepth 100000 in
set_option maxHeartbeats 1000000 in
theorem delete17_any (g c n : Nat) (l : List Sp) (w : World) (h : OwnV 168 3 0 (some ⟨g, 0, none⟩) c (l.map spC) w) (hn : n < l.length) (hl : l.length ≤ 1000) : Calls Try.prog 87 #[.slice (some ⟨g, 0, none⟩) l.length c, .int .i64 0, .int .i64 (n : Int)] w (Del17Post w g c l n) := by
  have hcap : l.length ≤ c ∧ c ≤ maxLen := by
    rcases h.1.2 with ⟨hv, -⟩ | ⟨g', cap, cur, hv, -, -, hnc, hcm, -⟩
    · simp at hv
    · simp only [Value.slice.injEq] at hv
      rw [List.length_map] at hnc
      exact ⟨by omega, by omega⟩
  obtain ⟨hc1, hc2⟩ := hcap
  unfold maxLen at hc2
  have i0 : (0 : Int) ≤ (n : Int) := by omega
  have i1 : (n : Int) < (l.length : Int) := by omega
  have i2 : (l.length : Int) ≤ (c : Int) := by omega
  have i3 : (l.length : Int) ≤ 1000 := by omega
  by_cases hz : n = 0
  · subst hz
    have HF : Hid (Del17Post w g c l 0 (.returned (.slice (some ⟨g, 0, none⟩) l.length c)) w) := Lib.hid ⟨rfl, by simpa using h, Touch.refl _ _⟩
    generalize Del17Post w g c l 0 = Post at HF ⊢
    have hb : ((0 : Int) == ((0 : Nat) : Int)) = true := rfl
    clear h
    go_enter Try.func87, Try.ntmps87
    go_wp2
    first | exact HF.out | (go_ret; exact HF.out)
  · have hw0 : ∀ x ∈ l.map spC, x.length = 3 := fun x hx => (sp_wide l x hx).1
    obtain ⟨m, hm⟩ : ∃ m, m = l.length - n := ⟨_, rfl⟩
    have hD : OwnV 168 3 0 (some ⟨g, 0, none⟩) c (l.map spC) w.drew := h.touch (touch_of_below (S := fun _ => False) (Below.refl _ _).drew) (fun _ _ => id)
    obtain ⟨w1, hr1, ho1, ht1⟩ := del_append (ty := 169) spTy Try.underlying169 hD (sp_wide l) n (by simp; omega) m (by simpa using hm) (c - n)
    obtain ⟨w2, hr2, ho2, ht2⟩ := clear_tailV (ty := 0) spTy zero17 (by intro u hu; simp [Value.cells] at hu; rcases hu with rfl | rfl | rfl <;> rfl) Try.underlying169 ho1 (fun x hx => by
      rcases List.mem_append.1 hx with h' | h'
      · exact hw0 x (List.mem_of_mem_drop h')
      · exact hw0 x (List.mem_of_mem_drop h')) m n (by simp; omega) (by simp; omega) (c - m)
    have htk : ((l.map spC).drop n ++ (l.map spC).drop m).take m = (l.drop n).map spC := by
      rw [List.take_append_of_le_length (by simp; omega), List.take_of_length_le (by simp; omega), List.map_drop]
    rw [htk] at ho2
    have HF : Hid (Del17Post w g c l n (.returned (.slice (some ⟨g, 0, none⟩) m c)) w2) := Lib.hid ⟨by rw [hm], ho2, ht1.drew0.trans ht2⟩
    generalize Del17Post w g c l n = Post at HF ⊢
    have HR1 := Lib.hid hr1
    have HR2 := Lib.hid hr2
    have hb : ((0 : Int) == (n : Int)) = false := by rw [beq_eq_false_iff_ne]; omega
    have m0 : (0 : Int) ≤ (m : Int) := by omega
    have m1 : (m : Int) ≤ (l.length : Int) := by omega
    have m2 : (m : Int) ≤ (c : Int) := by omega
    have n1 : ¬ n = c := by omega
    have n2 : ¬ m = c := by omega
    have n3 : ¬ c = n := by omega
    have n4 : ¬ c = m := by omega
    have s1 : l.length - n = m := hm.symm
    have s3 : n ≤ l.length := by omega
    have s4 : m ≤ l.length := by omega
    have s5 : l.length ≤ c := hc1
    have s2 : l.length - m = n := by omega
    clear h hD hr1 hr2 ho1 ho2 ht1 ht2 htk hm hw0
    go_enter Try.func87, Try.ntmps87
    have hcl : ∀ ty, (Builtin.clear_ #[169] ty #[.slice (some ⟨g, m * 3, none⟩) n (c - m)]).run Try.prog w1 = .ok (.tuple #[]) w2 := fun ty => by
      have : (Builtin.clear_ #[169] ty #[.slice (some ⟨g, m * 3, none⟩) n (c - m)]) = (Builtin.clear_ #[169] 0 #[.slice (some ⟨g, m * 3, none⟩) n (c - m)]) := rfl
      rw [this]; exact HR2.out
    clear HR2
    go_upto_region 5 with (fail)
    go_region_law (first
      | (refine step_append_run _ rfl (.tmp 22) (.tmp 25) 169 169 rfl (.slice (some ⟨g, 0, none⟩) 0 c) (.slice (some ⟨g, n * 3, none⟩) m (c - n)) (by rfl) (by rfl) (.slice (some ⟨g, 0, none⟩) m c) w1 HR1.out ?_))
    all_goals
      go_wp2
      first | exact HF.out | (go_ret; exact HF.out)
def ForgetPost (w : World) (b g c : Nat) (l : List Sp) (k : Nat) (r : Ending) (w' : World) : Prop := r = .returned (.int .i64 (k : Int)) ∧ PlanAt w' b (some ⟨g, 0, none⟩) c (l.drop k) ∧ Touch (fun j => j = b ∨ j = g) w w'
set_option maxRecDepth 100000 in
set_option maxHeartbeats 1000000 in
theorem forget17_any (b g c : Nat) (turn : Int) (l : List Sp) (k : Nat) (hk : IsPlace l turn k) (hr : Rise l) (w : World) (h : PlanAt w b (some ⟨g, 0, none⟩) c l) : Calls Try.prog 56 #[.pointer (some ⟨b, 0, none⟩), .int .i64 turn] w (ForgetPost w b g c l k) := by
  have HPL := Lib.hid (place17_at b turn (some ⟨g, 0, none⟩) c l k hk hr w h)
  have HH := Lib.hid h
  have hkl := hk.1
  have hfew := h.few
  generalize hpost : ForgetPost w b g c l k = Post
  have HPost := Lib.hid hpost
  clear h hpost hk hr
  go_enter Try.func56, Try.ntmps56
  go_wp2_with fail
  refine HPL.out.mono ?_
  rintro r w2 ⟨rfl, hb⟩
  have HK := Lib.hid (HH.out.keep hb)
  have HB := Lib.hid hb
  have c0 := HK.out.c0
  have hbl := HK.out.lt
  clear hb HPL HH
  go_wp2_with fail
  refine (delete17_any g c k l w2 HK.out.row hkl hfew).mono ?_
  rintro r w3 ⟨rfl, ho, ht⟩
  obtain ⟨q0, g0, hb1, hat, htt⟩ := HK.out.store (w1 := w3) ho (ht.mono (fun j _ e => by simp [e])) (fun x hx => by cases hx; exact .inl rfl) (l.length - k) (by simp) (by simp; omega) (by simp; omega)
  have HF : Hid (ForgetPost w b g c l k (.returned (.int .i64 (k : Int))) (w3.setCell ⟨b, 0, none⟩ (.slice (some ⟨g, 0, none⟩) (l.length - k) c))) := Lib.hid ⟨rfl, hat, ((touch_of_below HB.out).trans htt).mono (fun j _ e => by rcases e with e | e; exact .inl e; simp at e; exact .inr e.symm)⟩
  rw [HPost.out] at HF
  clear ho ht hat htt HK HB c0 hbl
  go_wp2
  first | exact HF.out | (go_ret; exact HF.out)
end Go.Proofs.Ytlhcihjplolgiaa
