/-
  Layer 4: one step of the walk, and all of it.
-/
import Derived.Test.YtmonbjlkkhpinaaDoorVerifyWalk
import Derived.Deep.RegionHeld3
namespace Go.Proofs.YtmonbjlkkhpinaaDoor
open Go.RowKit
set_option linter.unusedVariables false

/-- One instruction: is all well with it. -/
def stepS (M : List Fn) (f : Fn) (d : List Int) (r : List Nat) (at_ : Nat) : Bool × List Int × List Nat :=
  let x := f.code.getD at_ (0, 0)
  let e := effS M f.locals x
  let dep := d.getD at_ 0
  if e.2.2 = false ∨ dep < e.1 then (false, d, r)
  else if 64 < dep - e.1 + e.2.1 then (false, d, r)
  else if x.1 = 16 then (dep == 1, d, r)
  else if x.1 = 13 then reachS d r x.2 (dep - e.1 + e.2.1)
  else if x.1 = 14 then
    let q := reachS d r ((at_ : Int) + 1) (dep - e.1 + e.2.1)
    if q.1 then reachS q.2.1 q.2.2 x.2 (dep - e.1 + e.2.1) else q
  else reachS d r ((at_ : Int) + 1) (dep - e.1 + e.2.1)
theorem reachS_len (d : List Int) (r : List Nat) (to depth : Int) : (reachS d r to depth).2.1.length = d.length ∧ (reachS d r to depth).2.2.length ≤ r.length + 1 := by
  unfold reachS
  split
  · exact ⟨rfl, by simp⟩
  · split
    · exact ⟨by simp, by simp⟩
    · exact ⟨rfl, by simp⟩
theorem hostA_bd (n : Int) : -1 ≤ hostA n ∧ hostA n ≤ 3 := by
  by_cases h : hostA n = -1
  · omega
  · rcases hostT_cases n h with rfl | rfl | rfl | rfl | rfl | rfl | rfl <;> decide
theorem callA_bd (M : List Fn) (hM : ∀ g ∈ M, 0 ≤ g.args ∧ g.args ≤ 1000) (n : Int) : -1 ≤ callA M n ∧ callA M n ≤ 1000 := by
  unfold callA
  split
  · rename_i h
    have hn : n.toNat < M.length := by omega
    rw [List.getD_eq_getElem?_getD, List.getElem?_eq_getElem hn]
    have := hM _ (List.getElem_mem hn)
    simp only [Option.getD_some]
    omega
  · omega
theorem effS_bd (M : List Fn) (hM : ∀ g ∈ M, 0 ≤ g.args ∧ g.args ≤ 1000) (lo : Int) (x : Nat × Int) : -1 ≤ (effS M lo x).1 ∧ (effS M lo x).1 ≤ 1000 ∧ 0 ≤ (effS M lo x).2.1 ∧ (effS M lo x).2.1 ≤ 2 := by
  obtain ⟨o, ag⟩ := x
  have h1 := hostA_bd ag
  have h2 := callA_bd M hM ag
  rcases effS_cases o with h | rfl | rfl | rfl | rfl | h
  · rcases h with rfl | rfl | rfl | rfl | rfl | rfl | rfl | rfl | rfl | rfl | rfl | rfl | rfl | rfl | rfl | rfl | rfl | rfl <;> simp [effS]
  · simp [effS]; omega
  · simp [effS]
  · simp [effS]
  · simp [effS]; omega
  · have : effS M lo (o, ag) = (0, 0, false) := by
      unfold effS
      simp only
      repeat (first | rw [if_neg (by omega)] | rfl)
    rw [this]
    simp
set_option maxHeartbeats 8000000 in
set_option maxRecDepth 100000 in
theorem step_any (w0 : World) (V : Nat) (M : List Fn) (a0 : Option Addr) (c0 : Nat) (f : Fn) (af : Option Addr) (cf : Nat) (d : List Int) (ad : Option Addr) (cd : Nat) (r : List Nat) (ar : Option Addr) (cr : Nat) (w : World) (k : Nat)
    (hM : M.length ≤ 1000) (hMa : ∀ g ∈ M, 0 ≤ g.args ∧ g.args ≤ 1000) (hf : FnOk f) (hd : d.length = f.code.length) (hr : r.length ≤ 10000) (hk : k < f.code.length) (hdk : 0 ≤ d.getD k 0 ∧ d.getD k 0 ≤ 1000) (hH : HostsAt w0) (h : WkMem w0 V M a0 c0 f af cf d ad cd r ar cr w) :
    Calls Tryd.prog 63 #[.pointer (some ⟨V, 0, none⟩), .int .i64 (k : Int)] w (WkTo w0 V M a0 c0 f af cf ad cd (fun _ => True) w (stepS M f d r k)) := by
  have hkd : k < d.length := by omega
  have hcl := hf.2.2.2.2.1
  have v3 := h.v3
  have v4 := h.v4
  have hl := h.lt
  obtain ⟨g, rfl⟩ := own_some2 h.drow (by omega)
  obtain ⟨b, off, rfl, hcell⟩ := (h.ins.below h.bel) (by omega)
  obtain ⟨i0, i1⟩ := hcell k hk
  have hgd : d.getD k 0 = d[k] := by rw [List.getD_eq_getElem?_getD, List.getElem?_eq_getElem hkd]; rfl
  have hgc : f.code.getD k (0, 0) = f.code[k] := by rw [List.getD_eq_getElem?_getD, List.getElem?_eq_getElem hk]; rfl
  have hxo := hf.2.2.2.2.2 _ (List.getElem_mem hk)
  have cg : w.cell? ⟨g, k, none⟩ = some (.int .i64 d[k]) := by
    have := h.drow.cellAt k (by omega)
    rw [this, List.getElem?_map, List.getElem?_eq_getElem hkd]; rfl
  have hS : stepS M f d r k = (if (effS M f.locals f.code[k]).2.2 = false ∨ d[k] < (effS M f.locals f.code[k]).1 then (false, d, r)
    else if 64 < d[k] - (effS M f.locals f.code[k]).1 + (effS M f.locals f.code[k]).2.1 then (false, d, r)
    else if f.code[k].1 = 16 then (d[k] == 1, d, r)
    else if f.code[k].1 = 13 then reachS d r f.code[k].2 (d[k] - (effS M f.locals f.code[k]).1 + (effS M f.locals f.code[k]).2.1)
    else if f.code[k].1 = 14 then
      (if (reachS d r ((k : Int) + 1) (d[k] - (effS M f.locals f.code[k]).1 + (effS M f.locals f.code[k]).2.1)).1 then reachS (reachS d r ((k : Int) + 1) (d[k] - (effS M f.locals f.code[k]).1 + (effS M f.locals f.code[k]).2.1)).2.1 (reachS d r ((k : Int) + 1) (d[k] - (effS M f.locals f.code[k]).1 + (effS M f.locals f.code[k]).2.1)).2.2 f.code[k].2 (d[k] - (effS M f.locals f.code[k]).1 + (effS M f.locals f.code[k]).2.1) else reachS d r ((k : Int) + 1) (d[k] - (effS M f.locals f.code[k]).1 + (effS M f.locals f.code[k]).2.1))
    else reachS d r ((k : Int) + 1) (d[k] - (effS M f.locals f.code[k]).1 + (effS M f.locals f.code[k]).2.1)) := by
    unfold stepS; rw [hgd, hgc]
  have hbd := effS_bd M hMa f.locals f.code[k]
  have HE := Lib.hid (fun W (hb : Below w0.heap.size w0 W) (hw : WkEff V M a0 c0 f.locals W) => effectOf_any V M a0 c0 f.locals f.code[k].1 f.code[k].2 W hM (hH.below hb) hxo hw)
  rw [hgd] at hdk
  have HM := Lib.hid h
  have HOW0 : Hid (V < w.heap.size ∧ (∀ j, (Value.slice (some ⟨g, 0, none⟩) d.length cd).ownBlock = some j → j < w.heap.size) ∧ (∀ j, (Value.slice ar r.length cr).ownBlock = some j → j < w.heap.size)) := Lib.hid ⟨h.lt, fun j hj => (h.drow.lt j hj).2, fun j hj => (h.rrow.lt j hj).2⟩
  have hgl := block_lt_of_cell cg
  have hbl := block_lt_of_cell i0
  clear hgd hgc hcell h hf hH hMa
  generalize stepS M f d r k = Q at hS
  generalize f.code[k] = x at hS hbd HE i0 i1 hxo
  obtain ⟨o, ag⟩ := x
  simp only at hS HE i0 i1
  generalize effS M f.locals (o, ag) = e3 at hS hbd HE
  obtain ⟨tk, lv, ok⟩ := e3
  simp only at hS hbd
  have hdg : d.length ≤ 1000 := by omega
  generalize d[k] = dk at hS hdk cg
  have HS := Lib.hid hS
  obtain ⟨hb1, hb2, hb3, hb4⟩ := hbd
  obtain ⟨hk1, hk2⟩ := hdk
  have ho256 : o < 256 := hxo.1
  have HD := Lib.hid hd
  have hkk : (k : Int) < (f.code.length : Int) := by omega
  have hkd' : (k : Int) < (d.length : Int) := by omega
  clear hS hxo hd
  go_enter Tryd.func63, Tryd.ntmps63
  go_wp2_with fail
  go_region_held3 (fun w' => w'.cell? ⟨V, 3, none⟩ = some (.slice (some ⟨b, off, none⟩) f.code.length cf) ∧ w'.cell? ⟨b, off + k * 2, none⟩ = some (.int .u8 (o : Int)) ∧ w'.cell? ⟨b, off + k * 2 + 1, none⟩ = some (.int .i64 ag) ∧ w'.cell? ⟨V, 4, none⟩ = some (.slice (some ⟨g, 0, none⟩) d.length cd) ∧ w'.cell? ⟨g, k, none⟩ = some (.int .i64 dk)) (go_keep) (fail)
  go_wp2_with fail
  have HB1 : Hid (Below w.heap.size w (w.alloc (.cells #[.int .u8 (o : Int), .int .i64 ag] 47)).drew) := Lib.hid (((Below.refl _ _).alloc (Nat.le_refl _) _).drew)
  have HM1 := Lib.hid (HM.out.keep HB1.out)
  have c0x : (w.alloc (.cells #[.int .u8 (o : Int), .int .i64 ag] 47)).drew.cell? ⟨w.heap.size, 0, none⟩ = some (.int .u8 (o : Int)) := by simp
  have c1x : (w.alloc (.cells #[.int .u8 (o : Int), .int .i64 ag] 47)).drew.cell? ⟨w.heap.size, 1, none⟩ = some (.int .i64 ag) := by simp
  have hz1x : w.heap.size < (w.alloc (.cells #[.int .u8 (o : Int), .int .i64 ag] 47)).drew.heap.size := block_lt_of_cell c0x
  clear HM
  generalize (w.alloc (.cells #[.int .u8 (o : Int), .int .i64 ag] 47)).drew = w1 at HB1 HM1 c0x c1x hz1x
  refine (HE.out w1 HM1.out.bel HM1.out.eff).mono ?_
  rintro e w2 ⟨rfl, hb2⟩
  have HM2 := Lib.hid (HM1.out.keep hb2)
  have xc0 := (hb2.cell (p := ⟨w.heap.size, 0, none⟩) hz1x).trans c0x
  have xc1 := (hb2.cell (p := ⟨w.heap.size, 1, none⟩) hz1x).trans c1x
  have hz2 : w.heap.size < w2.heap.size := block_lt_of_cell xc0
  have HM3 := Lib.hid (HM2.out.keep ((Below.refl _ w2).alloc (Nat.le_refl _) (.cells #[.int .i64 tk, .int .i64 lv, .bool ok] 131)))
  have hz3 : w2.heap.size ≤ (w2.alloc (.cells #[.int .i64 tk, .int .i64 lv, .bool ok] 131)).heap.size := by simp
  have HZ3 := Lib.hid hz3
  have HT3 : Hid (Touch (fun _ => True) w (w2.alloc (.cells #[.int .i64 tk, .int .i64 lv, .bool ok] 131))) := Lib.hid (((touch_of_below HB1.out).trans (touch_of_below hb2)).alloc _)
  have HOW : Hid (V < w.heap.size ∧ (∀ j, (Value.slice (some ⟨g, 0, none⟩) d.length cd).ownBlock = some j → j < w.heap.size) ∧ (∀ j, (Value.slice ar r.length cr).ownBlock = some j → j < w.heap.size)) := HOW0
  clear hb2 HM1 HM2 HB1 c0x c1x hz1x v3 v4 cg i0 i1 hl hgl hbl HE hz3
  simp only
  by_cases hfail : ok = false ∨ dk < tk
  · have HSb := Lib.hid (HS.out.trans (if_pos hfail))
    clear HS
    cases ok
    · go_wp2
      go_ret
      exact ⟨ar, cr, by rw [HSb.out]; rfl, by rw [HSb.out]; exact HM3.out, HT3.out⟩
    · have hlt : dk < tk := by simpa using hfail
      clear hfail
      go_wp2
      go_ret
      exact ⟨ar, cr, by rw [HSb.out]; rfl, by rw [HSb.out]; exact HM3.out, HT3.out⟩
  · have hok : ok = true := by cases ok <;> simp_all
    subst hok
    have hge : tk ≤ dk := by simpa using hfail
    have HSa := Lib.hid (HS.out.trans (if_neg hfail))
    clear HS hfail
    by_cases h64 : 64 < dk - tk + lv
    · have HSb := Lib.hid (HSa.out.trans (if_pos h64))
      clear HSa
      go_wp2
      go_ret
      exact ⟨ar, cr, by rw [HSb.out]; rfl, by rw [HSb.out]; exact HM3.out, HT3.out⟩
    have HSc := Lib.hid (HSa.out.trans (if_neg h64))
    have h64' : dk - tk + lv ≤ 64 := by omega
    clear HSa h64
    have hdp : 0 ≤ dk - tk + lv := by omega
    by_cases h16 : o = 16
    · subst h16
      have HSb := Lib.hid (HSc.out.trans (if_pos rfl))
      clear HSc
      go_wp2
      go_ret
      exact ⟨ar, cr, by rw [HSb.out]; rfl, by rw [HSb.out]; exact HM3.out, HT3.out⟩
    by_cases h13 : o = 13
    · subst h13
      have HSb := Lib.hid (HSc.out.trans ((if_neg (by decide)).trans (if_pos rfl)))
      clear HSc h16
      go_wp2_with fail
      have hzz := HZ3.out
      refine (reach_any w0 V M a0 c0 f _ cf d _ cd r ar cr _ ag (dk - tk + lv) (by omega) (by omega) (by omega) HM3.out).mono ?_
      rintro e w5 ⟨ar5, cr5, rfl, hm5, hz5⟩
      have HM5 := Lib.hid hm5
      have HT5 := Lib.hid hz5
      have hz5' := Lib.hid (HT3.out.trans (hz5.mono (fun _ _ _ => trivial)))
      clear hm5 hz5
      go_wp2
      go_ret
      exact ⟨ar5, cr5, by rw [HSb.out]; rfl, by rw [HSb.out]; exact HM5.out, hz5'.out⟩
    by_cases h14 : o = 14
    · subst h14
      have HSb := Lib.hid (HSc.out.trans ((if_neg (by decide)).trans ((if_neg (by decide)).trans (if_pos rfl))))
      clear HSc h16 h13
      have hzz := HZ3.out
      have hlen := reachS_len d r ((k : Int) + 1) (dk - tk + lv)
      have HRA := Lib.hid (reach_any w0 V M a0 c0 f _ cf d _ cd r ar cr _ ((k : Int) + 1) (dk - tk + lv) (by omega) (by omega) (by omega) HM3.out)
      generalize reachS d r ((k : Int) + 1) (dk - tk + lv) = q at HSb hlen HRA
      obtain ⟨q1, d1, r1⟩ := q
      simp only at HSb hlen
      obtain ⟨hl1, hl2⟩ := hlen
      have hd1 : d1.length ≤ 100000 := by omega
      clear hl1
      go_wp2_with fail
      refine HRA.out.mono ?_
      rintro e w5 ⟨ar5, cr5, rfl, hm5, hz5⟩
      have HM5 := Lib.hid hm5
      have HT5 := Lib.hid hz5
      have hz5' := Lib.hid (HT3.out.trans (hz5.mono (fun _ _ _ => trivial)))
      have y1 : w5.cell? ⟨w.heap.size, 1, none⟩ = some (.int .i64 ag) := by
        have hne : ¬ (w.heap.size = V ∨ (Value.slice (some ⟨g, 0, none⟩) d.length cd).ownBlock = some w.heap.size ∨ (Value.slice ar r.length cr).ownBlock = some w.heap.size) := by
          rintro (e | e | e)
          · have := HOW.out.1; omega
          · have := HOW.out.2.1 _ e; omega
          · have := HOW.out.2.2 _ e; omega
        exact (HT5.out.cell (p := ⟨w.heap.size, 1, none⟩) (by simp; omega) hne).trans ((World.cell?_alloc_lt _ _ _ hz2).trans xc1)
      have hw5 : w.heap.size < w5.heap.size := block_lt_of_cell y1
      clear hm5 hz5 HRA
      simp only
      cases q1
      · go_wp2
        go_ret
        exact ⟨ar5, cr5, by rw [HSb.out]; rfl, by rw [HSb.out]; exact HM5.out, hz5'.out⟩
      · go_wp2_with fail
        refine (reach_any w0 V M a0 c0 f _ cf d1 _ cd r1 ar5 cr5 _ ag (dk - tk + lv) (by omega) (by omega) (by omega) HM5.out).mono ?_
        rintro e w6 ⟨ar6, cr6, rfl, hm6, hz6⟩
        have HM6 := Lib.hid hm6
        have hz6' := Lib.hid (hz5'.out.trans (hz6.mono (fun _ _ _ => trivial)))
        clear hm6 hz6
        go_wp2
        go_ret
        exact ⟨ar6, cr6, by rw [HSb.out]; rfl, by rw [HSb.out]; exact HM6.out, hz6'.out⟩
    · have HSb := Lib.hid (HSc.out.trans ((if_neg h16).trans ((if_neg h13).trans (if_neg h14))))
      have b1 : ((o : Int) == 16) = false := by simp; omega
      have b2 : ((o : Int) == 13) = false := by simp; omega
      have b3 : ((o : Int) == 14) = false := by simp; omega
      clear HSc h16 h13 h14
      go_wp2_with fail
      have hzz := HZ3.out
      refine (reach_any w0 V M a0 c0 f _ cf d _ cd r ar cr _ ((k : Int) + 1) (dk - tk + lv) (by omega) (by omega) (by omega) HM3.out).mono ?_
      rintro e w5 ⟨ar5, cr5, rfl, hm5, hz5⟩
      have HM5 := Lib.hid hm5
      have HT5 := Lib.hid hz5
      have hz5' := Lib.hid (HT3.out.trans (hz5.mono (fun _ _ _ => trivial)))
      clear hm5 hz5
      go_wp2
      go_ret
      exact ⟨ar5, cr5, by rw [HSb.out]; rfl, by rw [HSb.out]; exact HM5.out, hz5'.out⟩
end Go.Proofs.YtmonbjlkkhpinaaDoor
