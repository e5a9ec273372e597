/-
  Layer 17: the document's Change.
-/
import Derived.Test.YtlhcihjplolgiaaPace13
namespace Go.Proofs.Ytlhcihjplolgiaa
open Go.RowKit
set_option linter.unusedVariables false

theorem app17a {W0 Wc : World} {a : Option Addr} {c k : Nat} {L : List Sp} {ty : TypeId} (hmade : NewV 96 3 W0 (some ⟨k, 0, none⟩) 0 [] Wc) (hr : FRow W0 a L) (hn : a = none → L = []) (hl : L.length ≤ 1000) :
    ∃ a' c' w', (Builtin.append_ #[97, 97] ty #[.slice (some ⟨k, 0, none⟩) 0 0, .slice a L.length c]).run Try.prog Wc = .ok (.slice a' L.length c') w' ∧ (NewV 96 3 W0 a' c' (L.map spC) w' ∧ Touch (fun b => b = k) Wc w') := by
  obtain ⟨a', c', w', hrun, hnew, ht⟩ := newV_more (ty := ty) (T := 97) frTy Try.underlying97 hmade (sp_wide L) a c (hr.below hmade.2) (fun e => by rw [hn e]; rfl) (by simp; omega)
  rw [List.nil_append] at hnew
  rw [List.length_nil, Nat.zero_add, List.length_map] at hrun
  exact ⟨a', c', w', hrun, hnew, ht.mono fun b _ h => by simpa using h.symm⟩
theorem app17b {W0 Wc : World} {a1 a2 : Option Addr} {c1 c2 : Nat} {L M : List Sp} {ty : TypeId} (h : NewV 96 3 W0 a1 c1 (L.map spC) Wc) (hv : FRow Wc a2 M) (hn : a2 = none → M = []) (hl : L.length + M.length ≤ 1000) :
    ∃ a' c' w', (Builtin.append_ #[97, 97] ty #[.slice a1 L.length c1, .slice a2 M.length c2]).run Try.prog Wc = .ok (.slice a' (L.length + M.length) c') w' ∧ NewV 96 3 W0 a' c' ((L ++ M).map spC) w' := by
  obtain ⟨a', c', w', hrun, hnew, -⟩ := newV_more (ty := ty) (T := 97) frTy Try.underlying97 h (sp_wide M) a2 c2 hv (fun e => by rw [hn e]; rfl) (by simp; omega)
  rw [List.length_map, List.length_map] at hrun
  rw [← List.map_append] at hnew
  exact ⟨a', c', w', hrun, hnew⟩
theorem lit17 {X : World} {k : Nat} (x y z : Int) (ty : TypeId) (hk : k = X.heap.size) : FRow (X.alloc (.cells #[.int .i64 x, .int .i64 y, .int .i64 z] ty)) (some ⟨k, 0, none⟩) [⟨x, y, z⟩] := by
  subst hk
  intro _
  refine ⟨_, _, rfl, fun i hi j hj => ?_⟩
  obtain rfl : i = 0 := by simpa using hi
  have : j = 0 ∨ j = 1 ∨ j = 2 := by omega
  rcases this with rfl | rfl | rfl <;> simp [spC]
def RChg (w : World) (a : Option Addr) (c : Nat) (l : List Sp) (turn t d : Int) (r : Ending) (w' : World) : Prop :=
  (mayP t d = false ∧ r = .returned (.tuple #[.slice a l.length c, .int .i64 4]) ∧ Below w.heap.size w w') ∨ (mayP t d = true ∧ turn ≤ lastF l ∧ r = .returned (.tuple #[.slice a l.length c, .int .i64 11]) ∧ Below w.heap.size w w') ∨ (mayP t d = true ∧ lastF l < turn ∧ ∃ a' c', r = .returned (.tuple #[.slice a' (l.length + 1) c', .int .i64 0]) ∧ NewV 96 3 w a' c' ((l ++ [(⟨turn, t, d⟩ : Sp)]).map spC) w')
set_option maxRecDepth 100000 in
set_option maxHeartbeats 4000000 in
theorem refChange17_any (a : Option Addr) (c : Nat) (l : List Sp) (turn t d : Int) (w : World) (h : FRow w a l) (hl : l.length ≤ 900) (h0 : 0 < l.length) : Calls Try.prog 55 #[.slice a l.length c, .int .i64 turn, .agg #[.int .i64 t, .int .i64 d]] w (RChg w a c l turn t d) := by
  have HGD := Lib.hid (fun W => good17_any t d W)
  have HH := Lib.hid h
  have hA : Below w.heap.size w (w.alloc (.cells #[.int .i64 t, .int .i64 d] 86)) := bel_alloc (Below.refl _ _) _
  have HA := Lib.hid hA
  have HX := Lib.hid (show (w.alloc (.cells #[.int .i64 t, .int .i64 d] 86)).cell? ⟨w.heap.size, 0, none⟩ = some (.int .i64 t) ∧ (w.alloc (.cells #[.int .i64 t, .int .i64 d] 86)).cell? ⟨w.heap.size, 1, none⟩ = some (.int .i64 d) from ⟨new_cell rfl rfl, new_cell rfl rfl⟩)
  obtain ⟨m, hm⟩ : ∃ m, l.length = m + 1 := ⟨l.length - 1, by omega⟩
  have HM := Lib.hid hm
  have hlf := lastF_eq h0
  obtain ⟨g, off, rfl, hg, -, -, -⟩ := h.at (k := l.length - 1) (by omega)
  generalize hpost : RChg w (some ⟨g, off, none⟩) c l turn t d = Post
  have HPost := Lib.hid hpost
  have HLF := Lib.hid hlf
  have m0 : (0 : Int) ≤ (m : Int) := by omega
  have m1 : (m : Int) ≤ 900 := by omega
  clear h hpost hA hlf
  rw [hm]
  clear hm hl
  cases hmy : mayP t d with
  | false =>
    rw [hmy] at HGD
    have HMF := Lib.hid hmy
    clear hmy
    go_enter Try.func55, Try.ntmps55
    go_wp2_with fail
    generalize w.alloc (.cells #[.int .i64 t, .int .i64 d] 86) = W at HA HX ⊢
    refine (HGD.out _).mono ?_
    rintro r w2 ⟨rfl, hb2⟩
    have HF : Hid (RChg w (some ⟨g, off, none⟩) c l turn t d (.returned (.tuple #[.slice (some ⟨g, off, none⟩) (m + 1) c, .int .i64 4])) w2) := Lib.hid (.inl ⟨HMF.out, by rw [HM.out], HA.out.trans (hb2.mono HA.out.size)⟩)
    rw [HPost.out] at HF
    clear hb2
    go_wp2
    first | exact HF.out | (go_ret2; exact HF.out)
  | true =>
    rw [hmy] at HGD
    have HMT := Lib.hid hmy
    clear hmy
    have hcs : turn ≤ lastF l ∨ lastF l < turn := by omega
    go_enter Try.func55, Try.ntmps55
    go_wp2_with fail
    generalize w.alloc (.cells #[.int .i64 t, .int .i64 d] 86) = W at HA HX ⊢
    refine (HGD.out _).mono ?_
    rintro r w2 ⟨rfl, hb2⟩
    have HB2 := Lib.hid (HA.out.trans (hb2.mono HA.out.size))
    have HR2 := Lib.hid (HH.out.below HB2.out)
    obtain ⟨x0, x1⟩ := keep2p hb2 HX.out
    clear hb2 HA HX
    obtain ⟨b', off', e, hg2, d0, -, -⟩ := HR2.out.at (k := l.length - 1) (by have := HM.out; omega)
    cases e
    rw [← HLF.out] at d0
    generalize hlF : lastF l = F at hcs d0
    have HLE := Lib.hid hlF
    clear hlF
    have hd : l.length - 1 = m := by have := HM.out; omega
    rw [hd] at d0
    clear hd
    have hw1 : IntKind.i64.wrap ((m : Int) + 1 - 1) = (m : Int) := by rw [IntKind.wrap_i64]; omega
    rcases hcs with hcs | hcs
    · have HF : Hid (RChg w (some ⟨g, off, none⟩) c l turn t d (.returned (.tuple #[.slice (some ⟨g, off, none⟩) (m + 1) c, .int .i64 11])) w2) := Lib.hid (.inr (.inl ⟨HMT.out, by rw [HLE.out]; exact hcs, by rw [HM.out], HB2.out⟩))
      rw [HPost.out] at HF
      go_wp2
      first | exact HF.out | (go_ret2; exact HF.out)
    · go_upto_region 5 with (fail)
      have HFIN : Hid (∀ (a' : Option Addr) (c' : Nat) (w5 : World), NewV 96 3 w2 a' c' ((l ++ [(⟨turn, t, d⟩ : Sp)]).map spC) w5 → Post (.returned (.tuple #[.slice a' (m + 1 + 1) c', .int .i64 0])) w5) := Lib.hid (fun a' c' w5 h5 => by
        rw [← HPost.out]
        exact .inr (.inr ⟨HMT.out, by rw [HLE.out]; exact hcs, a', c', by rw [HM.out], ⟨⟨h5.1.1, fun x hx => by have := h5.1.2 x hx; have := HB2.out.size; omega⟩, HB2.out.trans (h5.2.mono HB2.out.size)⟩⟩))
      have HNL' : Hid (m + 1 = l.length) := Lib.hid HM.out.symm
      clear d0 hg2 hw1
      go_region_held3 (fun w' => w'.cell? ⟨w.heap.size, 0, none⟩ = some (.int .i64 t) ∧ w'.cell? ⟨w.heap.size, 1, none⟩ = some (.int .i64 d))
        (exact keep2p (w := w2) (by repeat' (first | exact Below.refl _ _ | exact HN5.out.2 | exact HN4.out.2 | refine Below.drew ?_ | refine bel_alloc ?_ _)) ⟨x0, x1⟩)
        (first
          | (refine step_app_ex _ rfl (.tmp 22) (.tmp 23) 97 97 rfl _ _ (by rfl) (by rfl) (m + 1) _ (by rw [HNL'.out]; exact app17a (W0 := w2) (by first | exact (NewV.made _ _ (by repeat' (first | exact Below.refl _ _ | refine Below.drew ?_ | refine bel_alloc ?_ _)) _ (by first | rfl | (simp; done))).drew | exact ((NewV.made _ _ (by repeat' (first | exact Below.refl _ _ | refine Below.drew ?_ | refine bel_alloc ?_ _)) _ (by first | rfl | (simp; done))).keep (bel_alloc (Below.refl _ _) _)).drew) HR2.out (fun e => by cases e) (by have := HM.out; omega)) ?_; rintro a4 c4 w4 ⟨hn4, ht4⟩; have HN4 := Lib.hid hn4; have HT4 := Lib.hid ht4; clear hn4 ht4)
          | (refine step_app_ex _ rfl (.tmp 24) (.tmp 28) 97 97 rfl _ _ (by rfl) (by rfl) (m + 1 + 1) _ (by rw [HNL'.out]; exact app17b (W0 := w2) (M := [(⟨turn, t, d⟩ : Sp)]) (by first | exact HN4.out | exact HN4.out.keep (bel_alloc (Below.refl _ _) _)) (by first | exact lit17 turn t d _ (by first | rfl | (simp; done)) | exact FRow.touch (FRow.drew (lit17 turn t d _ (by first | rfl | (simp; done)))) HT4.out (fun x hx => by cases hx; first | omega | (simp; done) | (simp; omega)) | exact FRow.touch (FRow.drew (FRow.below (lit17 turn t d _ (by first | rfl | (simp; done))) (bel_alloc (Below.refl _ _) _))) HT4.out (fun x hx => by cases hx; first | omega | (simp; done) | (simp; omega))) (fun h => by cases h) (by have := HM.out; simp; omega)) ?_; rintro a5 c5 w5 hn5; have HN5 := Lib.hid hn5; clear hn5))
      all_goals
        have HFF := Lib.hid (HFIN.out _ _ _ HN5.out)
        clear HN4 HT4 HN5
        go_wp2
        first | exact HFF.out | (go_ret2; exact HFF.out)
end Go.Proofs.Ytlhcihjplolgiaa
