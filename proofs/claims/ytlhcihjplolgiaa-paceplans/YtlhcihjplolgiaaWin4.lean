/-
  Layer 13: a thing comes that is there, or that isn't.
-/
import Derived.Test.YtlhcihjplolgiaaWin3
namespace Go.Proofs.Ytlhcihjplolgiaa
open Go.RowKit
set_option linter.unusedVariables false

/-- The thing's box at X, what came at b. -/
structure PuMem (w : World) (b X : Nat) (mo : Option Nat) (s : Ws) (n : Nat) (t : List UInt8) (wx : World) : Prop where
  x0 : wx.cell? ⟨X, 0, none⟩ = some (.int .u32 (n : Int))
  x1 : wx.cell? ⟨X, 1, none⟩ = some (.string (bs t))
  wi : WI wx b mo s
  bel : Below w.heap.size w wx
theorem PuMem.keep {w : World} {b X : Nat} {mo : Option Nat} {s : Ws} {n : Nat} {t : List UInt8} {wx w' : World} (h : PuMem w b X mo s n t wx) (hb : Below wx.heap.size wx w') : PuMem w b X mo s n t w' :=
  ⟨(hb.cell (p := ⟨X, 0, none⟩) (block_lt_of_cell h.x0)).trans h.x0, (hb.cell (p := ⟨X, 1, none⟩) (block_lt_of_cell h.x1)).trans h.x1, h.wi.keep hb, h.bel.trans (hb.mono h.bel.size)⟩
theorem WI.c0 {w : World} {b : Nat} {mo : Option Nat} {s : Ws} (h : WI w b mo s) : w.cell? ⟨b, 0, none⟩ = some (.int .u32 (s.nx : Int)) := by
  rcases h with ⟨h1, h2, h3⟩ | ⟨r, h1, h2⟩
  · exact h3.c0
  · exact h2.c0
theorem WI.c1 {w : World} {b : Nat} {mo : Option Nat} {s : Ws} (h : WI w b mo s) : w.cell? ⟨b, 1, none⟩ = some (.map mo) := by
  rcases h with ⟨h1, h2, h3⟩ | ⟨r, h1, h2⟩
  · rw [h1]; exact h3.c1
  · rw [h1]; exact h2.c1
theorem map_nil (w : World) : (binOp .eql 201 (.map none) (.map none)).run Try.prog w = .ok (.bool true) w := by kernel_rfl
theorem map_some (r : Nat) (w : World) : (binOp .eql 201 (.map (some r)) (.map none)).run Try.prog w = .ok (.bool false) w := by kernel_rfl
/-- What a look-up says. -/
theorem look_WI {w : World} {b : Nat} {mo : Option Nat} {s : Ws} (h : WI w b mo s) (n : Nat) (hn : n < 4294967296) :
    (findW s.l n = none ∧ (∀ p ∈ s.l, p.1 ≠ n) ∧ (Instr.lookup 201 (.map mo) (.int .u32 (n : Int)) true).run Try.prog w = .ok (.tuple #[.agg #[.int .u32 0, .string ⟨#[]⟩], .bool false]) w) ∨ ∃ t, findW s.l n = some t ∧ (n, t) ∈ s.l ∧ (Instr.lookup 201 (.map mo) (.int .u32 (n : Int)) true).run Try.prog w = .ok (.tuple #[.agg #[.int .u32 (n : Int), .string (bs t)], .bool true]) w := by
  rcases h with ⟨rfl, h2, h3⟩ | ⟨r, rfl, h2⟩
  · refine .inl ⟨by rw [h2]; rfl, by rw [h2]; simp, ?_⟩
    simp [Instr.lookup, run_underlying Try.underlying201, (Maps.int_keyed Try.underlying132).check w _ (Maps.keyOf_int_mk Try.underlying132 (wf_u32 n hn)), Instr.findKey, run_underlying Try.underlying132, Instr.findNow, Result.andThen]
  · exact look_W h2 n hn
/-- The same, with a map. -/
structure PuIn (w : World) (b X r : Nat) (mo : Option Nat) (s : Ws) (n : Nat) (t : List UInt8) (wx : World) : Prop where
  x0 : wx.cell? ⟨X, 0, none⟩ = some (.int .u32 (n : Int))
  x1 : wx.cell? ⟨X, 1, none⟩ = some (.string (bs t))
  wa : WAt wx b r s
  fr : mo = some r ∨ w.heap.size ≤ r
  tch : Touch (fun k => k = b ∨ mo = some k) w wx
theorem PuMem.made {w : World} {b X : Nat} {s : Ws} {n : Nat} {t : List UInt8} {wx : World} (h : PuMem w b X none s n t wx) (hX : X = w.heap.size) (hbw : b < w.heap.size) : PuIn w b X wx.heap.size none s n t ((wx.setCell ⟨b, 1, none⟩ (.map (some wx.heap.size))).alloc (.map #[] 0)) := by
  have hs := h.bel.size
  obtain ⟨-, hl, h3⟩ : (none : Option Nat) = none ∧ s.l = [] ∧ W0At wx b s.nx := by
    rcases h.wi with h1 | ⟨r, h1, -⟩
    · exact h1
    · cases h1
  have ht : Touch (fun k => k = b) wx (wx.setCell ⟨b, 1, none⟩ (.map (some wx.heap.size))) := (Touch.refl (fun k => k = b) _).setCell (p := ⟨b, 1, none⟩) (fun _ => rfl) _
  have hsz : (wx.setCell ⟨b, 1, none⟩ (.map (some wx.heap.size))).heap.size = wx.heap.size := by simp
  have c0 : (wx.setCell ⟨b, 1, none⟩ (.map (some wx.heap.size))).cell? ⟨b, 0, none⟩ = some (.int .u32 (s.nx : Int)) := (World.cell?_setCell_other _ _ _ _ (by simp)).trans h3.c0
  have c1 : (wx.setCell ⟨b, 1, none⟩ (.map (some wx.heap.size))).cell? ⟨b, 1, none⟩ = some (.map (some wx.heap.size)) := World.cell?_setCell_same _ _ _ h3.c1
  have f0 : (wx.setCell ⟨b, 1, none⟩ (.map (some wx.heap.size))).frozen? ⟨b, 0, none⟩ = false := by simpa using h3.f0
  have f1 : (wx.setCell ⟨b, 1, none⟩ (.map (some wx.heap.size))).frozen? ⟨b, 1, none⟩ = false := by simpa using h3.f1
  have x0 := (ht.cell (p := ⟨X, 0, none⟩) (block_lt_of_cell h.x0) (by show ¬ X = b; omega)).trans h.x0
  have x1 := (ht.cell (p := ⟨X, 1, none⟩) (block_lt_of_cell h.x1) (by show ¬ X = b; omega)).trans h.x1
  have hT := (touch_of_below (S := fun k => k = b ∨ (none : Option Nat) = some k) h.bel).setCell (p := ⟨b, 1, none⟩) (fun _ => .inl rfl) (.map (some wx.heap.size))
  have hbl := h3.lt
  generalize hW : wx.setCell ⟨b, 1, none⟩ (.map (some wx.heap.size)) = W' at hsz c0 c1 f0 f1 x0 x1 hT
  have hb' : b < W'.heap.size := by omega
  have hm := MpAt.made .u32 W'
  rw [hsz] at hm
  exact ⟨alloc_cell x0 _, alloc_cell x1 _, ⟨alloc_cell c0 _, alloc_cell c1 _, (frozen_old _ _ _ hb').trans f0, (frozen_old _ _ _ hb').trans f1, by rw [hl]; exact hm, h3.nx, by omega⟩, .inr hs, hT.alloc _⟩
theorem PuIn.post {w : World} {b X r : Nat} {mo : Option Nat} {s : Ws} {n : Nat} {t : List UInt8} {wx w5 w6 : World} (h : PuIn w b X r mo s n t wx) (ht : Touch (fun j => j = r) wx w5) {s' : Ws} {ts : List (List UInt8)} {a : Option Addr} {c : Nat} (hg : GoMem w5 b r s' a c ts w6) : InPost w b mo (s', ts, 0) (.returned (.tuple #[.slice a ts.length c, .int .i64 0])) w6 := by
  have hs := h.tch.size
  have hs5 := ht.size
  refine ⟨a, c, some r, rfl, .inr ⟨r, rfl, hg.wa⟩, fun r' hr => by cases hr; exact h.fr, ⟨hg.row.1, fun x hx => by have := hg.row.2 x hx; omega⟩, (h.tch.trans' ht fun k hk e => ?_).trans' hg.tch fun k hk e => ?_⟩
  · rcases h.fr with e2 | e2
    · right; rw [e2]; exact congrArg some e.symm
    · omega
  · rcases e with e | e
    · exact .inl e
    · rcases h.fr with e2 | e2
      · right; rw [e2]; exact congrArg some e.symm
      · omega
set_option maxRecDepth 100000 in
set_option maxHeartbeats 2000000 in
theorem inPut_near (b : Nat) (mo : Option Nat) (s : Ws) (n : Nat) (t : List UInt8) (w : World) (h : WI w b mo s) (hn : n < 4294967296) (hf : belowB n s.nx = false) (hf2 : distW n s.nx ≤ 32) (hsl : s.l.length ≤ 900) :
    Calls Try.prog 73 #[.pointer (some ⟨b, 0, none⟩), itV n t] w (InPost w b mo (putW s n t)) := by
  have hnx := h.nx
  have hA : Below w.heap.size w (w.alloc (.cells #[.int .u32 (n : Int), .string (bs t)] 142)) := bel_alloc (Below.refl _ _) _
  have HBEL := Lib.hid (fun W => below_any n s.nx hn hnx W)
  rw [hf] at HBEL
  have HD := Lib.hid (wrap_sub n s.nx hn hnx)
  have hf3 : ((distW n s.nx : Nat) : Int) ≤ 32 := by omega
  have HPW : Hid (putW s n t = if findW s.l n ≠ none then (s, [], 10) else ((goW (s.l.length + 2) ⟨s.nx, s.l ++ [(n, t)]⟩).1, (goW (s.l.length + 2) ⟨s.nx, s.l ++ [(n, t)]⟩).2, 0)) := Lib.hid (by
    unfold putW
    rw [if_neg (by simp [hf]), if_neg (by omega)])
  have HM0 : Hid (PuMem w b w.heap.size mo s n t (w.alloc (.cells #[.int .u32 (n : Int), .string (bs t)] 142))) := Lib.hid ⟨by simp, by simp, h.keep hA, hA⟩
  have HW := Lib.hid h
  have hbw := h.lt
  unfold itV
  generalize hpost : InPost w b mo (putW s n t) = Post
  have HPost := Lib.hid hpost
  clear h hA hpost
  generalize distW n s.nx = d at HD hf2 hf3
  go_enter Try.func73, Try.ntmps73
  go_upto_region 1 with (fail)
  generalize w.alloc (.cells #[.int .u32 (n : Int), .string (bs t)] 142) = W at HM0 ⊢
  generalize hXw : w.heap.size = X at HM0 ⊢
  have HXW := Lib.hid hXw
  clear hXw
  have x0 := HM0.out.x0
  have y0 := HM0.out.wi.c0
  have hbl := block_lt_of_cell y0
  have hXl := block_lt_of_cell x0
  simp only at hbl hXl
  go_quiet ((go_at_call 107; exact Calls.quiet_of_same (HBEL.out _)))
  have HM1 := Lib.hid (HM0.out.keep (drewN_bel W nq))
  clear HM0 x0 y0 hbl hXl HBEL
  generalize W.drewN nq = W2 at HM1 ⊢
  have x0 := HM1.out.x0
  have y0 := HM1.out.wi.c0
  have hbl := block_lt_of_cell y0
  have hXl := block_lt_of_cell x0
  simp only at hbl hXl
  have hdd := HD.out
  go_upto_region 3 with (fail)
  go_quiet (fail)
  have HM2 := Lib.hid (HM1.out.keep (drewN_bel W2 nq))
  clear HM1 x0 y0 hbl hXl hdd HD
  generalize W2.drewN nq = W3 at HM2 ⊢
  have x0 := HM2.out.x0
  have y0 := HM2.out.wi.c0
  have y1 := HM2.out.wi.c1
  have hbl := block_lt_of_cell y0
  have hXl := block_lt_of_cell x0
  simp only at hbl hXl
  have HD1 := Lib.hid (HM2.out.wi.keep (w' := W3.drew) (Below.refl _ _).drew)
  have HD2 := Lib.hid (fun o => HM2.out.wi.keep (w' := (W3.alloc o).drew) (bel_alloc (Below.refl _ _) o).drew)
  rcases look_WI HM2.out.wi n hn with ⟨hfn, hno, -⟩ | ⟨t', hfs, hin, -⟩
  · have hk1 : (Instr.lookup 201 (.map mo) (.int .u32 (n : Int)) true).run Try.prog W3.drew = .ok (.tuple #[.agg #[.int .u32 0, .string ⟨#[]⟩], .bool false]) W3.drew := by
      rcases look_WI HD1.out n hn with ⟨-, -, e⟩ | ⟨t2, e, -⟩
      · exact e
      · rw [hfn] at e; cases e
    have hk2 : (Instr.lookup 201 (.map mo) (.int .u32 (n : Int)) true).run Try.prog (W3.alloc (.cells #[.int .u32 0, .string ⟨#[]⟩] 142)).drew = .ok (.tuple #[.agg #[.int .u32 0, .string ⟨#[]⟩], .bool false]) (W3.alloc (.cells #[.int .u32 0, .string ⟨#[]⟩] 142)).drew := by
      rcases look_WI (HD2.out _) n hn with ⟨-, -, e⟩ | ⟨t2, e, -⟩
      · exact e
      · rw [hfn] at e; cases e
    have HPE := Lib.hid (show putW s n t = ((goW (s.l.length + 2) ⟨s.nx, s.l ++ [(n, t)]⟩).1, (goW (s.l.length + 2) ⟨s.nx, s.l ++ [(n, t)]⟩).2, 0) by rw [HPW.out, if_neg (by rw [hfn]; simp)])
    rw [HPE.out] at HPost
    have HNO := Lib.hid hno
    have HM3 : Hid (PuMem w b X mo s n t (W3.alloc (.cells #[.int .u32 0, .string ⟨#[]⟩] 142)).drew) := Lib.hid (HM2.out.keep (bel_alloc (Below.refl _ _) _).drew)
    clear hfn hno HPW HPE
    go_upto_region 5 with (fail)
    go_cut [7] (fun s7 wx => s7 = .bool false ∧ Hid (wx = (W3.alloc (.cells #[.int .u32 0, .string ⟨#[]⟩] 142)).drew))
    case first =>
      go_region
      all_goals (go_wp2_with fail; go_meet)
      all_goals exact ⟨rfl, Lib.hid rfl⟩
    case rest =>
      obtain ⟨rfl, hwx⟩ := hcut
      rw [← hwx.out] at HM3
      clear hwx hk1 hk2 x0 y0 y1 HD1 HD2 HM2 hbl hXl
      have z1 := HM3.out.wi.c1
      have z1f : wc.frozen? ⟨b, 1, none⟩ = false := by
        rcases HM3.out.wi with ⟨-, -, h3⟩ | ⟨r, -, h2⟩
        · exact h3.f1
        · exact h2.f1
      have hbl := block_lt_of_cell z1
      simp only at hbl
      have hmm := @run_makeMap Try.prog
      have HGO := Lib.hid (fun r W hw => goOut_any b r ⟨s.nx, s.l ++ [(n, t)]⟩ W hw (by simp only [List.length_append, List.length_singleton]; omega))
      have HLL := Lib.hid (show (s.l ++ [(n, t)]).length + 1 = s.l.length + 2 by simp)
      simp only [HLL.out] at HGO
      generalize goW (s.l.length + 2) ⟨s.nx, s.l ++ [(n, t)]⟩ = G at HGO HPost
      cases mo with
      | none =>
        have HQ := Lib.hid (HM3.out.made HXW.out.symm hbw)
        have hq := map_nil
        go_upto_region 10 with (fail)
        generalize (wc.setCell ⟨b, 1, none⟩ (.map (some wc.heap.size))).alloc (.map #[] 0) = W5 at HQ ⊢
        generalize wc.heap.size = r at HQ ⊢
        clear z1 z1f hbl hmm hq HM3
        have x0 := HQ.out.x0
        have x1 := HQ.out.x1
        have z1 := HQ.out.wa.c1
        have hbl := block_lt_of_cell z1
        have hXl := block_lt_of_cell x0
        simp only at hbl hXl
        obtain ⟨w6, hup, hw6, ht6⟩ := (HQ.out.wa.keep (w' := W5.drew) (Below.refl _ _).drew).store n hn t HNO.out
        unfold itV at hup
        have HW6 := Lib.hid hw6
        have HT6 := Lib.hid ht6.drew0
        clear hw6 ht6
        go_region
        all_goals
          clear x0 x1 z1 hbl hXl hup
          go_wp2_with fail
          refine (HGO.out r _ HW6.out).mono ?_
          rintro e w7 ⟨a7, c7, rfl, hg7⟩
          have HG7 := Lib.hid hg7
          clear hg7
          go_wp2
          rw [← HPost.out]
          exact HQ.out.post HT6.out HG7.out
      | some r =>
        have HQ : Hid (PuIn w b X r (some r) s n t wc) := Lib.hid ⟨HM3.out.x0, HM3.out.x1, by
          rcases HM3.out.wi with ⟨h1, -⟩ | ⟨r', h1, h2⟩
          · cases h1
          · cases h1; exact h2, .inl rfl, touch_of_below HM3.out.bel⟩
        have hq := map_some r
        go_upto_region 10 with (fail)
        generalize wc = W5 at HQ z1 ⊢
        clear z1 z1f hbl hmm hq HM3
        have x0 := HQ.out.x0
        have x1 := HQ.out.x1
        have z1 := HQ.out.wa.c1
        have hbl := block_lt_of_cell z1
        have hXl := block_lt_of_cell x0
        simp only at hbl hXl
        obtain ⟨w6, hup, hw6, ht6⟩ := (HQ.out.wa.keep (w' := W5.drew) (Below.refl _ _).drew).store n hn t HNO.out
        unfold itV at hup
        have HW6 := Lib.hid hw6
        have HT6 := Lib.hid ht6.drew0
        clear hw6 ht6
        go_region
        all_goals
          clear x0 x1 z1 hbl hXl hup
          go_wp2_with fail
          refine (HGO.out r _ HW6.out).mono ?_
          rintro e w7 ⟨a7, c7, rfl, hg7⟩
          have HG7 := Lib.hid hg7
          clear hg7
          go_wp2
          rw [← HPost.out]
          exact HQ.out.post HT6.out HG7.out
  · have hk1 : (Instr.lookup 201 (.map mo) (.int .u32 (n : Int)) true).run Try.prog W3.drew = .ok (.tuple #[.agg #[.int .u32 (n : Int), .string (bs t')], .bool true]) W3.drew := by
      rcases look_WI HD1.out n hn with ⟨e, -, -⟩ | ⟨t2, e, -, e2⟩
      · rw [hfs] at e; cases e
      · rw [hfs] at e; cases e; exact e2
    have hk2 : (Instr.lookup 201 (.map mo) (.int .u32 (n : Int)) true).run Try.prog (W3.alloc (.cells #[.int .u32 0, .string ⟨#[]⟩] 142)).drew = .ok (.tuple #[.agg #[.int .u32 (n : Int), .string (bs t')], .bool true]) (W3.alloc (.cells #[.int .u32 0, .string ⟨#[]⟩] 142)).drew := by
      rcases look_WI (HD2.out _) n hn with ⟨e, -, -⟩ | ⟨t2, e, -, e2⟩
      · rw [hfs] at e; cases e
      · rw [hfs] at e; cases e; exact e2
    have HPE := Lib.hid (show putW s n t = (s, [], 10) by rw [HPW.out, if_pos (by rw [hfs]; simp)])
    rw [HPE.out] at HPost
    have HB : Hid (Below w.heap.size w (W3.alloc (.cells #[.int .u32 (n : Int), .string (bs t')] 142)).drew) := Lib.hid (bel_alloc HM2.out.bel _).drew
    clear hfs hin HPW HPE
    go_upto_region 5 with (fail)
    go_cut [7] (fun s7 wx => s7 = .bool true ∧ Hid (wx = (W3.alloc (.cells #[.int .u32 (n : Int), .string (bs t')] 142)).drew))
    case first =>
      go_region
      all_goals (go_wp2_with fail; go_meet)
      all_goals exact ⟨rfl, Lib.hid rfl⟩
    case rest =>
      obtain ⟨rfl, hwx⟩ := hcut
      rw [← hwx.out] at HB
      clear hwx hk1 hk2 x0 y0 y1 HD1 HD2
      go_wp2
      rw [← HPost.out]
      exact inPost_none (e := 10) HW.out HB.out
end Go.Proofs.Ytlhcihjplolgiaa
