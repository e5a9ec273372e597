/-
  The document's own lists of a call: locals, values pushed and taken; two lists held against each other.
-/
import Derived.Test.YtmghhigepjeicaaFrameMake
import Derived.Test.YtmghhigepjeicaaActs
import Derived.Deep.RegionWith
namespace Go.Proofs.Ytmghhigepjeicaa
open Go.RowKit
set_option linter.unusedVariables false

theorem own_touch1 {S : Nat → Prop} {w w' : World} {base : Nat} {e : TypeId} {size : Nat} {v : Value} {n : Nat} {xs : List Value} (h : w.ownsRow base e size v n xs) (ht : Touch S w w') (hs : ∀ k, v.ownBlock = some k → ¬ S k) : w'.ownsRow base e size v n xs := by
  refine ⟨h.1, ?_⟩
  rcases h.2 with h' | ⟨g, cap, cur, hv', hg, hh, hr⟩
  · exact .inl h'
  · have hlt : g < w.heap.size := (Array.getElem?_eq_some_iff.1 hh).1
    exact .inr ⟨g, cap, cur, hv', hg, (ht.block g hlt (hs g (by rw [hv']; rfl))).trans hh, hr⟩
/-- Numbers put behind a new row. -/
theorem newInts_more {w wr : World} {a : Option Addr} {k c : Nat} {pre : List Int} (h : NewInts w a k c pre wr) (b : Option Addr) (cb : Nat) (ys : List Int) (hr : IntRow .i64 wr b ys) (hn : b = none → ys = []) (hk : k + ys.length ≤ 1000000) :
    ∃ a' c' w', (Builtin.append_ #[23, 23] 23 #[.slice a k c, .slice b ys.length cb]).run Try.prog wr = .ok (.slice a' (k + ys.length) c') w' ∧ NewInts w a' (k + ys.length) c' (pre ++ ys) w' := by
  obtain ⟨h1, h2, h3, h4⟩ := h
  obtain ⟨v', w', hrun, hown, hg, hf⟩ := int_append h1 b cb hr hn hk
  obtain ⟨a', c', rfl⟩ := own_slice1 hown
  refine ⟨a', c', w', hrun, hown, by simp; omega, fun x hx => ?_, h4.trans ((touch_grown hg).below h4.size (fun j hj e => ?_))⟩
  · subst hx
    rcases hf x.block (by simp [Value.ownBlock]) with e | e
    · cases a with
      | none => simp [Value.ownBlock] at e
      | some y => simp [Value.ownBlock] at e; have := h3 y rfl; omega
    · have := h4.size; omega
  · cases a with
    | none => simp [Value.ownBlock] at e
    | some y => simp [Value.ownBlock] at e; have := h3 y rfl; omega
theorem newInts_keep {w wr w' : World} {a : Option Addr} {k c : Nat} {pre : List Int} (h : NewInts w a k c pre wr) (hb : Below wr.heap.size wr w') : NewInts w a k c pre w' :=
  ⟨own_touch1 h.1 (touch_of_below (S := fun _ => False) hb) (fun _ _ => id), h.2.1, h.2.2.1, h.2.2.2.trans (hb.mono h.2.2.2.size)⟩
/-- One number put behind, as the walk does it. -/
theorem newInts_one {w wr : World} {a : Option Addr} {k c : Nat} {pre : List Int} (h : NewInts w a k c pre wr) (y : Int) (hk : k ≤ 1000) :
    ∃ a' c' w', (Builtin.append_ #[23, 23] 23 #[.slice a k c, .slice (some ⟨wr.heap.size, 0, none⟩) 1 1]).run Try.prog (wr.alloc (.cells #[.int .i64 y] 2)) = .ok (.slice a' (k + 1) c') w' ∧ NewInts w a' (k + 1) c' (pre ++ [y]) w' :=
  newInts_more (newInts_keep h ((Below.refl _ _).alloc (Nat.le_refl _) _)) (some ⟨wr.heap.size, 0, none⟩) 1 [y] (fresh_ints .i64 wr [y] _ _ rfl) (fun h => by cases h) (by simp; omega)
theorem newInts_nil (w w1 : World) (h : Below w.heap.size w w1) : NewInts w (some ⟨w1.heap.size, 0, none⟩) 0 0 [] (w1.alloc (.cells #[] 2)) :=
  ⟨World.ownsRow_made w1 #[] 0 (Nat.zero_le _) (by decide) rfl, rfl, fun x hx => by cases hx; exact h.size, h.alloc h.size _⟩
def preL (args : List Int) (k : Nat) : List Int := (List.range k).map fun i => args.getD i 0
theorem preL_succ (args : List Int) (k : Nat) : preL args (k + 1) = preL args k ++ [args.getD k 0] := by simp [preL, List.range_succ]
def LocalsPost (w : World) (x : Int) (args : List Int) (e : Ending) (w' : World) : Prop := ∃ a c, e = .returned (.slice a (localsN x) c) ∧ NewInts w a (localsN x) c (localsV x args) w'
set_option maxRecDepth 100000 in
set_option maxHeartbeats 1000000 in
theorem refLocals_any (x : Int) (args : List Int) (a : Option Addr) (cap : Nat) (w : World) (ha : args.length ≤ maxLen) (hr : IntRow .i64 w a args) :
    Calls Try.prog 25 #[.int .i64 x, .slice a args.length cap] w (LocalsPost w x args) := by
  unfold maxLen at ha
  have HR := Lib.hid hr
  have hn16 := localsN_le x
  have HN := Lib.hid (show ∀ k : Nat, k < localsN x ↔ (k : Int) < (if (16 : Int) < x then 16 else x) from fun k => by unfold localsN; split <;> omega)
  have H0 := Lib.hid (newInts_nil w w (Below.refl _ _))
  clear hr
  by_cases hx : (16 : Int) < x
  all_goals
    go_enter Try.func25, Try.ntmps25
    go_wp2
    go_loopw [5, 6] (fun o i wr => ∃ (k : Nat) (a' : Option Addr) (c' : Nat), k ≤ localsN x ∧ o = .slice a' k c' ∧ i = .int .i64 k ∧ Hid (NewInts w a' k c' (preL args k) wr)) (fun _ i _ => localsN x - (intOf i).toNat)
    case atStart => exact ⟨0, _, _, by omega, rfl, rfl, H0⟩
    case round =>
      obtain ⟨k, a', c', hk, rfl, rfl, H⟩ := hrel
      by_cases hlt : k < localsN x
      · have hlt' := (HN.out k).1 hlt
        first | rw [if_pos hx] at hlt' | rw [if_neg (by omega)] at hlt'
        by_cases hka : k < args.length
        · obtain ⟨rb, off, rfl, hcell⟩ := HR.out (by omega)
          have hc : wr.cell? ⟨rb, off + k, none⟩ = some (.int .i64 args[k]) := (H.out.2.2.2.cell (p := ⟨rb, off + k, none⟩) (block_lt_of_cell (hcell k hka))).trans (hcell k hka)
          have HP := Lib.hid (preL_succ args k)
          have HG := Lib.hid (show args.getD k 0 = args[k] by simp [List.getD, List.getElem?_eq_getElem hka])
          rw [HG.out] at HP
          clear hcell
          generalize args[k] = y at hc HP
          obtain ⟨a2, c2, w2, hrun, hnew⟩ := newInts_one H.out y (by omega)
          rw [← HP.out] at hnew
          have HRUN := Lib.hid hrun
          have HNEW := Lib.hid hnew
          clear hrun hnew HG
          go_wp2_with (at_builtin; refine wpList_append_run _ rfl (.tmp 18) (.tmp 23) 23 23 rfl _ _ rfl rfl (.slice a2 (k + 1) c2) w2 HRUN.out ?_)
          go_roundw
          case rel => exact ⟨k + 1, a2, c2, by omega, rfl, by go_num, HNEW⟩
          case measure => simp [intOf]; omega
        · have HP := Lib.hid (preL_succ args k)
          have HG := Lib.hid (show args.getD k 0 = 0 by simp [List.getD, List.getElem?_eq_none (show args.length ≤ k by omega)])
          rw [HG.out] at HP
          obtain ⟨a2, c2, w2, hrun, hnew⟩ := newInts_one H.out 0 (by omega)
          rw [← HP.out] at hnew
          have HRUN := Lib.hid hrun
          have HNEW := Lib.hid hnew
          clear hrun hnew HG
          go_wp2_with (at_builtin; refine wpList_append_run _ rfl (.tmp 25) (.tmp 26) 23 23 rfl _ _ rfl rfl (.slice a2 (k + 1) c2) w2 HRUN.out ?_)
          go_roundw
          case rel => exact ⟨k + 1, a2, c2, by omega, rfl, by go_num, HNEW⟩
          case measure => simp [intOf]; omega
      · have hlt' : ¬ (k : Int) < (if (16 : Int) < x then 16 else x) := fun h => hlt ((HN.out k).2 h)
        first | rw [if_pos hx] at hlt' | rw [if_neg (by omega)] at hlt'
        have HE := Lib.hid (show k = localsN x by omega)
        go_wp2
        go_ret
        exact ⟨a', c', by rw [← HE.out]; rfl, by rw [← HE.out]; unfold localsV; rw [← HE.out]; exact H.out⟩
/-- The document's list of values, of the law's own making. -/
def LRow (B : Nat) (w : World) (a : Option Addr) (c : Nat) (l : List Int) : Prop := l.length ≤ c ∧ c ≤ maxLen ∧ IntRow .i64 w a l ∧ (∀ x, a = some x → B ≤ x.block ∧ x.block < w.heap.size) ∧ (a = none → l = [])
theorem LRow.touch {S : Nat → Prop} {B c : Nat} {w w' : World} {a : Option Addr} {l : List Int} (h : LRow B w a c l) (ht : Touch S w w') (hs : ∀ x, a = some x → ¬ S x.block) : LRow B w' a c l :=
  ⟨h.1, h.2.1, h.2.2.1.touch ht hs, fun x hx => ⟨(h.2.2.2.1 x hx).1, Nat.lt_of_lt_of_le (h.2.2.2.1 x hx).2 ht.size⟩, h.2.2.2.2⟩
theorem LRow.below {B c : Nat} {w w' : World} {a : Option Addr} {l : List Int} (h : LRow B w a c l) (hb : Below w.heap.size w w') : LRow B w' a c l :=
  h.touch (touch_of_below (S := fun _ => False) hb) (fun _ _ => id)
theorem LRow.take {B c : Nat} {w : World} {a : Option Addr} {l : List Int} (h : LRow B w a c l) (n : Nat) : LRow B w a c (l.take n) :=
  ⟨by have := h.1; simp; omega, h.2.1, h.2.2.1.take n, h.2.2.2.1, fun e => by rw [h.2.2.2.2 e]; simp⟩
theorem newInts_lt {w w' : World} {a : Option Addr} {n c : Nat} {l : List Int} (h : NewInts w a n c l w') : LRow w.heap.size w' a c l := by
  have hr := h.row
  obtain ⟨h1, rfl, h3, h4⟩ := h
  refine ⟨?_, ?_, hr, fun x hx => ⟨h3 x hx, ?_⟩, ?_⟩
  · rcases h1.2 with ⟨hv, e⟩ | ⟨g, cap, cur, hv, hg, hh, hnc, -⟩
    · omega
    · cases hv; exact hnc
  · rcases h1.2 with ⟨hv, e⟩ | ⟨g, cap, cur, hv, hg, hh, hnc, hcm, -⟩
    · have hc0 : c = 0 := by simp at hv; exact hv.2.2
      subst hc0; simp [maxLen]
    · cases hv; exact hcm
  · subst hx; exact (h1.lt x.block (by simp [Value.ownBlock])).2
  · intro e
    subst e
    rcases h1.2 with ⟨hv, e⟩ | ⟨g, cap, cur, hv, -⟩
    · exact List.eq_nil_of_length_eq_zero e
    · cases hv
def PushPost (w : World) (l m : List Int) (e : Ending) (w' : World) : Prop := ∃ a c, e = .returned (.tuple #[.slice a (l.length + m.length) c, .bool true]) ∧ NewInts w a (l.length + m.length) c (l ++ m) w'
theorem refPush_full (a : Option Addr) (c : Nat) (l : List Int) (b : Option Addr) (d : Nat) (m : List Int) (w : World) (hl : l.length ≤ 64) (hm : m.length ≤ 40) (hf : 64 < l.length + m.length) :
    Calls Try.prog 50 #[.slice a l.length c, .slice b m.length d] w fun r w' => r = .returned (.tuple #[.slice a l.length c, .bool false]) ∧ w = w' := by
  generalize l.length = n at *
  generalize m.length = k at *
  go_enter Try.func50, Try.ntmps50
  go_wp2
  go_ret2
  exact ⟨rfl, rfl⟩
set_option maxRecDepth 100000 in
theorem refPush_some (a : Option Addr) (c : Nat) (l : List Int) (b : Option Addr) (d : Nat) (m : List Int) (w : World) (hf : l.length + m.length ≤ 64) (hl : IntRow .i64 w a l) (hln : a = none → l = []) (hm : IntRow .i64 w b m) (hmn : b = none → m = []) :
    Calls Try.prog 50 #[.slice a l.length c, .slice b m.length d] w (PushPost w l m) := by
  have h0 := newInts_nil w w (Below.refl _ _)
  have hb : Below w.heap.size w (w.alloc (.cells #[] 2)) := (Below.refl _ _).alloc (Nat.le_refl _) _
  obtain ⟨a1, c1, w1, r1, n1⟩ := newInts_more h0 a c l (hl.below hb) hln (by omega)
  rw [Nat.zero_add, List.nil_append] at n1
  rw [Nat.zero_add] at r1
  obtain ⟨a2, c2, w2, r2, n2⟩ := newInts_more n1 b d m (hm.below n1.2.2.2) hmn (by omega)
  have HR1 := Lib.hid r1
  have HR2 := Lib.hid r2
  have HN2 := Lib.hid n2
  clear h0 hb n1 r1 r2 n2 hl hm hln hmn
  generalize hln : l.length = n at *
  generalize hmn : m.length = k at *
  have HLN := Lib.hid hln
  have HMN := Lib.hid hmn
  clear hln hmn
  go_enter Try.func50, Try.ntmps50
  have tok1 : True := trivial
  go_wp2_with (first | (at_builtin; have _t := tok1; refine wpList_append_run _ rfl (.tmp 13) (.tmp 14) 23 23 rfl _ _ rfl rfl (.slice a1 n c1) w1 HR1.out ?_; clear tok1) | (at_builtin; refine wpList_append_run _ rfl (.tmp 15) (.tmp 16) 23 23 rfl _ _ rfl rfl (.slice a2 (n + k) c2) w2 HR2.out ?_))
  go_ret2
  exact ⟨a2, c2, by rw [HLN.out, HMN.out]; rfl, by rw [HLN.out, HMN.out]; exact HN2.out⟩
theorem refTake_no (a : Option Addr) (c : Nat) (l : List Int) (n : Int) (w : World) (hl : l.length ≤ 64) (hn : n < 0 ∨ (l.length : Int) < n) :
    Calls Try.prog 51 #[.slice a l.length c, .int .i64 n] w fun r w' => r = .returned (.tuple #[.slice a l.length c, .slice none 0 0, .bool false]) ∧ w = w' := by
  generalize l.length = k at *
  rcases hn with hn | hn
  · go_enter Try.func51, Try.ntmps51
    go_wp2
    go_ret3
    exact ⟨rfl, rfl⟩
  · go_enter Try.func51, Try.ntmps51
    go_wp2
    go_ret3
    exact ⟨rfl, rfl⟩
/-- The document's Take: what stays, what goes. -/
def RTakePost (w : World) (a : Option Addr) (c : Nat) (l m : List Int) (e : Ending) (w' : World) : Prop := ∃ b d, e = .returned (.tuple #[.slice a l.length c, .slice b m.length d, .bool true]) ∧ IntRow .i64 w b m ∧ ∃ q, w' = w.drewN q
set_option maxRecDepth 100000 in
set_option maxHeartbeats 1000000 in
theorem refTake_some (B : Nat) (a : Option Addr) (c : Nat) (l m : List Int) (w : World) (hl : l.length + m.length ≤ 64) (h : LRow B w a c (l ++ m)) :
    Calls Try.prog 51 #[.slice a (l.length + m.length) c, .int .i64 (m.length : Nat)] w (RTakePost w a c l m) := by
  obtain ⟨h1, h2, h3, h4, h5⟩ := h
  have hc1 : l.length + m.length ≤ c := by simpa using h1
  unfold maxLen at h2
  by_cases h0 : 0 < (l ++ m).length
  · obtain ⟨b, off, rfl, hcell⟩ := h3 h0
    have HRow := Lib.hid (show IntRow .i64 w (some ⟨b, off + l.length, none⟩) m from fun hm => ⟨b, off + l.length, rfl, fun i hi => by
      have := hcell (l.length + i) (by simp; omega)
      rw [Nat.add_assoc, this]; simp⟩)
    have HSUB := Lib.hid (show IntKind.i64.wrap (((l.length + m.length : Nat) : Int) - (m.length : Int)) = (l.length : Int) by rw [IntKind.wrap_i64]; omega)
    have hdn : decide ((((l.length + m.length : Nat) : Int)) < (m.length : Int)) = false := by simp; omega
    have hge : decide ((m.length : Int) < 0) = false := by simp
    have hgt : decide (l.length + m.length < m.length) = false := by simp
    clear h3 h4 h5 hcell h0 h1
    generalize htot : l.length + m.length = tot at *
    have hi1 : (0 : Int) ≤ (l.length : Int) := by omega
    have hi2 : (l.length : Int) ≤ (tot : Int) := by omega
    have hi3 : (l.length : Int) ≤ (c : Int) := by omega
    have HTOT := Lib.hid htot
    have hmt : m.length ≤ tot := by omega
    have hkt : l.length ≤ tot := by omega
    clear htot
    by_cases hck : c = l.length
    · obtain rfl : m = [] := List.eq_nil_of_length_eq_zero (by have := HTOT.out; omega)
      obtain rfl : tot = c := by have := HTOT.out; simp at this; omega
      clear HSUB HTOT hdn hgt hge hmt hkt hi1 hi2 hi3 hc1
      generalize hk : l.length = k at *
      have HK := Lib.hid hk
      clear hk
      subst hck
      have hsub : IntKind.i64.wrap ((tot : Int) - ((([] : List Int).length : Nat) : Int)) = (tot : Int) := by rw [IntKind.wrap_i64]; simp; omega
      have hsub2 : IntKind.i64.wrap (tot : Int) = (tot : Int) := by rw [IntKind.wrap_i64]; omega
      have hi1 : (0 : Int) ≤ (tot : Int) := by omega
      have hi2 : (tot : Int) ≤ (tot : Int) := by omega
      go_enter Try.func51, Try.ntmps51
      go_wp2_with fail
      go_quiet (fail)
      go_wp2
      go_ret3
      exact ⟨some ⟨b, off, none⟩, 0, by rw [HK.out]; simp, fun h => by simp at h, _, rfl⟩
    · have hsub := HSUB.out
      go_enter Try.func51, Try.ntmps51
      go_wp2_with fail
      go_quiet (fail)
      go_wp2
      go_ret3
      exact ⟨some ⟨b, off + l.length, none⟩, c - l.length, by rw [show m.length = tot - l.length by have := HTOT.out; omega]; rfl, HRow.out, _, rfl⟩
  · have hnil : l ++ m = [] := List.eq_nil_of_length_eq_zero (by omega)
    obtain ⟨rfl, rfl⟩ := List.append_eq_nil_iff.1 hnil
    clear h3 h4 h5 h0 h1 hnil hl hc1
    simp only [List.length_nil, Nat.add_zero]
    have hsub : IntKind.i64.wrap ((0 : Int) - 0) = 0 := by decide
    have hsub2 : IntKind.i64.wrap (0 : Int) = 0 := by decide
    have hi1 : (0 : Int) ≤ (c : Int) := by omega
    cases a with
    | none =>
      go_enter Try.func51, Try.ntmps51
      go_wp2_with fail
      go_quiet (fail)
      go_wp2
      go_ret3
      exact ⟨none, c, rfl, fun h => by simp at h, _, rfl⟩
    | some x =>
      by_cases hc0 : c = 0
      · subst hc0
        go_enter Try.func51, Try.ntmps51
        go_wp2_with fail
        go_quiet (fail)
        go_wp2
        go_ret3
        exact ⟨some x, 0, rfl, fun h => by simp at h, _, rfl⟩
      · go_enter Try.func51, Try.ntmps51
        go_wp2_with fail
        go_quiet (fail)
        go_wp2
        go_ret3
        exact ⟨some x, c, rfl, fun h => by simp at h, _, rfl⟩
set_option maxRecDepth 100000 in
theorem sameInts_any (a : Option Addr) (c : Nat) (b : Option Addr) (d : Nat) (l : List Int) (w : World) (hl : l.length ≤ 64) (ha : IntRow .i64 w a l) (hb : IntRow .i64 w b l) :
    Calls Try.prog 52 #[.slice a l.length c, .slice b l.length d] w fun r w' => r = .returned (.int .i64 0) ∧ Below w.heap.size w w' := by
  have HA := Lib.hid ha
  have HB := Lib.hid hb
  clear ha hb
  have hnn : ((l.length : Int) != (l.length : Int)) = false := by simp
  go_enter Try.func52, Try.ntmps52
  go_wp2
  go_loopw [13] (fun i wr => ∃ k : Nat, k ≤ l.length ∧ i = .int .i64 k ∧ Hid (Below w.heap.size w wr)) (fun i _ => l.length - (intOf i).toNat)
  case atStart => exact ⟨0, by omega, rfl, Lib.hid (Below.refl _ _)⟩
  case round =>
    obtain ⟨k, hk, rfl, H⟩ := hrel
    by_cases hlt : k < l.length
    · obtain ⟨b1, o1, rfl, c1⟩ := HA.out (by omega)
      obtain ⟨b2, o2, rfl, c2⟩ := HB.out (by omega)
      have e1 := (H.out.cell (p := ⟨b1, o1 + k, none⟩) (block_lt_of_cell (c1 k hlt))).trans (c1 k hlt)
      have e2 := (H.out.cell (p := ⟨b2, o2 + k, none⟩) (block_lt_of_cell (c2 k hlt))).trans (c2 k hlt)
      clear c1 c2
      generalize l[k] = y at e1 e2
      have hyy : (y != y) = false := by simp
      have hk1 : (k : Int) < (l.length : Int) := by omega
      have hk0 : (0 : Int) ≤ (k : Int) := by omega
      go_upto_region 6 with (fail)
      go_quiet (fail)
      go_wp2
      go_roundw
      case rel => exact ⟨k + 1, by omega, by go_num, Lib.hid ⟨H.out.os, H.out.tape, H.out.output, H.out.size, H.out.block⟩⟩
      case measure => simp [intOf]; omega
    · go_wp2
      go_ret
      exact ⟨rfl, H.out⟩
end Go.Proofs.Ytmghhigepjeicaa
