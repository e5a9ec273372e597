/-
  Layer 12: many parts at once.
-/
import Derived.Test.YtfkhfincggligaaFrag7
namespace Go.Proofs.Ytfkhfincggligaa
open Go.RowKit
set_option linter.unusedVariables false

/-- What joins lies at b, the messages that are whole in a row of their own. -/
structure AllMem (w : World) (b : Nat) (v v' : Value) (s : Js) (a : Option Addr) (c : Nat) (ms : List (List UInt8)) (wr : World) : Prop where
  j : JAt wr b v' s
  jn : ∀ k, v'.ownBlock = some k → v.ownBlock = some k ∨ w.heap.size ≤ k
  jd : ∀ x, a = some x → v'.ownBlock ≠ some x.block
  row : OwnV 9 1 0 a c (ms.map strCells1) wr
  new : ∀ x, a = some x → w.heap.size ≤ x.block
  tch : Touch (fun k => k = b ∨ v.ownBlock = some k) w wr
theorem AllMem.keep {w : World} {b : Nat} {v v' : Value} {s : Js} {a : Option Addr} {c : Nat} {ms : List (List UInt8)} {wr w' : World} (h : AllMem w b v v' s a c ms wr) (hb : Below wr.heap.size wr w') : AllMem w b v v' s a c ms w' :=
  ⟨h.j.keep hb, h.jn, h.jd, h.row.touch (touch_of_below (S := fun _ => False) hb) (fun _ _ => id), h.new, h.tch.trans' (touch_of_below (S := fun _ => False) hb) (fun _ _ => False.elim)⟩
theorem AllMem.put {w : World} {b : Nat} {v v' : Value} {s s' : Js} {a : Option Addr} {c : Nat} {ms : List (List UInt8)} {wr w' : World} (hbw : b < w.heap.size) (h : AllMem w b v v' s a c ms wr) (hj : JoTo wr b v' s' w') : ∃ v2, AllMem w b v v2 s' a c ms w' := by
  obtain ⟨v2, g1, g2, g3⟩ := hj
  have hs := h.tch.size
  refine ⟨v2, g1, fun k hk => ?_, fun x hx e => ?_, h.row.touch g3 (fun x hx e => ?_), h.new, h.tch.trans' g3 (fun k hk e => ?_)⟩
  · rcases g2 k hk with e | e
    · exact h.jn k e
    · exact .inr (by omega)
  · rcases g2 _ e with e | e
    · exact h.jd x hx e
    · have := h.row.lt x hx; omega
  · rcases e with e | e
    · have := h.new x hx; omega
    · exact h.jd x hx e
  · rcases e with e | e
    · exact .inl e
    · rcases h.jn k e with e | e
      · exact .inr e
      · omega
theorem AllMem.app {w : World} {b : Nat} {v v' : Value} {s : Js} {a a' : Option Addr} {c c' : Nat} {ms ms' : List (List UInt8)} {wr w' : World} (hbw : b < w.heap.size) (hvw : ∀ k, v.ownBlock = some k → k < w.heap.size) (h : AllMem w b v v' s a c ms wr) (ho : OwnV 9 1 0 a' c' (ms'.map strCells1) w') (ht : Touch (fun k => a.map (·.block) = some k) wr w') (hn : ∀ x, a' = some x → a.map (·.block) = some x.block ∨ wr.heap.size ≤ x.block) : AllMem w b v v' s a' c' ms' w' := by
  have hs := h.tch.size
  have hna : ∀ k, a.map (·.block) = some k → w.heap.size ≤ k ∧ v'.ownBlock ≠ some k := fun k e => by
    cases a with
    | none => simp at e
    | some y => simp at e; subst e; exact ⟨h.new y rfl, h.jd y rfl⟩
  refine ⟨h.j.touch ht (fun e => ?_) (fun k hk e => (hna k e).2 hk), h.jn, fun x hx e => ?_, ho, fun x hx => ?_, h.tch.trans' ht (fun k hk e => ?_)⟩
  · have := (hna b e).1; omega
  · rcases hn x hx with e1 | e1
    · exact (hna _ e1).2 e
    · have := h.j.fresh _ e; omega
  · rcases hn x hx with e1 | e1
    · exact (hna _ e1).1
    · omega
  · have := (hna k e).1; omega
def AllPost (w : World) (b : Nat) (v : Value) (ms : List (List UInt8)) (s : Js) (r : Ending) (w' : World) : Prop :=
  ∃ a c v', r = .returned (.tuple #[.slice a ms.length c, .int .i64 0]) ∧ AllMem w b v v' s a c ms w'
set_option maxRecDepth 100000 in
set_option maxHeartbeats 2000000 in
theorem joAll_any (b : Nat) (v : Value) (ps : List Pt) (a : Option Addr) (c : Nat) (w : World) (h : JAt w b v ⟨0, []⟩) (hrow : VRow 2 w a (ps.map ptCells)) (hd : ∀ x, a = some x → x.block ≠ b ∧ v.ownBlock ≠ some x.block) (hlen : ps.length ≤ 10000) (ht : ∀ p ∈ ps, p.text.length ≤ 1000000) (hg : goodJ ⟨0, []⟩ ps) :
    Calls Try.prog 22 #[.pointer (some ⟨b, 0, none⟩), .slice a ps.length c] w (AllPost w b v (afterJ ⟨0, []⟩ ps).2 (afterJ ⟨0, []⟩ ps).1) := by
  have hbw := h.lt
  have HVW := Lib.hid h.fresh
  have HROW := Lib.hid hrow
  have HD := Lib.hid hd
  have HTX := Lib.hid ht
  have HTA := Lib.hid (fun k hk => take_after ⟨0, []⟩ ps k hk hg)
  have HM0 : Hid (AllMem w b v v (afterJ ⟨0, []⟩ (ps.take 0)).1 none 0 (afterJ ⟨0, []⟩ (ps.take 0)).2 w) := Lib.hid ⟨h, fun k hk => .inl hk, (fun x hx => by cases hx), ⟨World.ownsRow_nil _ _ _ _, (fun x hx => by cases hx)⟩, (fun x hx => by cases hx), Touch.refl _ _⟩
  generalize hpost : AllPost w b v (afterJ ⟨0, []⟩ ps).2 (afterJ ⟨0, []⟩ ps).1 = Post
  have HPost := Lib.hid hpost
  clear hpost h hrow hd ht hg
  go_enter Try.func22, Try.ntmps22
  go_wp2
  go_loopw [6, 14] (fun lv iv wr => ∃ (k n : Nat) (a2 : Option Addr) (c2 : Nat) (v2 : Value), k ≤ ps.length ∧ lv = .slice a2 n c2 ∧ iv = .int .i64 k ∧ n ≤ k ∧ Hid (n = (afterJ ⟨0, []⟩ (ps.take k)).2.length) ∧ Hid (AllMem w b v v2 (afterJ ⟨0, []⟩ (ps.take k)).1 a2 c2 (afterJ ⟨0, []⟩ (ps.take k)).2 wr)) (fun _ iv _ => ps.length - (intOf iv).toNat)
  case atStart => exact ⟨0, 0, none, 0, v, Nat.zero_le _, rfl, rfl, Nat.le_refl _, Lib.hid rfl, HM0⟩
  case round =>
    obtain ⟨k, n, a2, c2, v2, hk, rfl, rfl, hnk, HN, HM⟩ := hrel
    by_cases hlt : k < ps.length
    · obtain ⟨gb, off, rfl, hc⟩ := HROW.out (by simpa using Nat.lt_of_le_of_lt (Nat.zero_le _) hlt)
      have hkm : k < (ps.map ptCells).length := by simpa using hlt
      obtain ⟨hd1, hd2⟩ := HD.out _ rfl
      have c0 := hc k hkm 0 (by decide)
      have c1 := hc k hkm 1 (by decide)
      simp only [List.getElem_map] at c0 c1
      have hptl := HTX.out ps[k] (List.getElem_mem hlt)
      obtain ⟨he0, hnext⟩ := HTA.out k hlt
      have hsl := afterJ_len ⟨0, []⟩ (ps.take k) (by simp)
      have hsn := afterJ_n ⟨0, []⟩ (ps.take k)
      rw [List.length_take] at hsn
      have HNX := Lib.hid hnext
      clear hnext hc
      generalize (afterJ ⟨0, []⟩ (ps.take k)) = cu at HM HN he0 HNX hsl hsn
      obtain ⟨s, ms⟩ := cu
      simp only at HM HN he0 HNX hsl hsn
      generalize ps[k] = p at c0 c1 hptl he0 HNX
      obtain ⟨pl, pt⟩ := p
      have d0 : wr.cell? ⟨gb, off + k * 2, none⟩ = some (.bool pl) := (HM.out.tch.cell (p := ⟨gb, off + k * 2, none⟩) (block_lt_of_cell (v := .bool pl) c0) (by rintro (e | e); exact hd1 e; exact hd2 e)).trans c0
      have d1 : wr.cell? ⟨gb, off + k * 2 + 1, none⟩ = some (.string (bs pt)) := (HM.out.tch.cell (p := ⟨gb, off + k * 2 + 1, none⟩) (block_lt_of_cell (v := .string (bs pt)) c1) (by rintro (e | e); exact hd1 e; exact hd2 e)).trans c1
      have hgr : gb < wr.heap.size := block_lt_of_cell d0
      have HMa := Lib.hid (HM.out.keep (bel_alloc (Below.refl _ _) (.cells #[.bool pl, .string (bs pt)] 34)))
      have HPUT := Lib.hid (fun W hj => joPut_any b v2 s ⟨pl, pt⟩ W hj (by omega) hsl hptl)
      unfold JPost ptV at HPUT
      generalize putJ s ⟨pl, pt⟩ = t at HPUT he0 HNX
      obtain ⟨s', msg, ok, er⟩ := t
      simp only at HPUT he0 HNX
      subst he0
      have hi0 : (0 : Int) ≤ (k : Int) := by omega
      have hi1 : (k : Int) < (ps.length : Int) := by omega
      clear c0 c1 hd1 hd2 hkm
      go_wp2_with fail
      refine (HPUT.out _ HMa.out.j).mono ?_
      rintro r w5 ⟨rfl, hto⟩
      obtain ⟨v3, hm5⟩ := HMa.out.put hbw hto
      have HM5 := Lib.hid hm5
      clear hto hm5 HPUT HMa HM d0 d1 hgr
      cases ok
      · go_wp2
        go_roundw
        case rel => exact ⟨k + 1, n, a2, c2, v3, by omega, rfl, by go_num, by omega, Lib.hid (by rw [HNX.out]; simpa using HN.out), Lib.hid (by rw [HNX.out]; simpa using HM5.out)⟩
        case measure => simp [intOf] <;> omega
      · obtain ⟨a6, c6, w6, hrun, ho, hto, hnw⟩ := str_one HM5.out.row msg (by have := HN.out; omega) n HN.out.symm
        have HRUN := Lib.hid hrun
        have HM6 := Lib.hid (HM5.out.app hbw HVW.out ho hto hnw)
        clear hrun ho hto hnw HM5
        go_wp2_with (at_builtin; refine wpList_append_run _ rfl (.tmp 30) (.tmp 32) 47 47 rfl _ _ rfl rfl (.slice a6 (n + 1) c6) w6 HRUN.out ?_)
        go_roundw
        case rel => exact ⟨k + 1, n + 1, a6, c6, v3, by omega, rfl, by go_num, by omega, Lib.hid (by rw [HNX.out]; simpa using HN.out), Lib.hid (by rw [HNX.out]; simpa using HM6.out)⟩
        case measure => simp [intOf] <;> omega
    · obtain rfl : k = ps.length := by omega
      rw [List.take_length] at HN HM
      have hi1 : (ps.length : Int) ≤ (ps.length : Int) := by omega
      go_wp2
      rw [← HPost.out]
      exact ⟨a2, c2, v2, by rw [← HN.out]; rfl, HM.out⟩
end Go.Proofs.Ytfkhfincggligaa
