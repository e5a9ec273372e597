/-
  Layer 14: what is due: the call.
-/
import Derived.Test.YtpilkaggiajjmaaTim5
namespace Go.Proofs.Ytpilkaggiajjmaa
open Go.RowKit
set_option linter.unusedVariables false

theorem TAt.setT {w : World} {b g : Nat} {f mo : Int} {c : Nat} {l : List Tn} (h : TAt w b f mo (some ⟨g, 0, none⟩) c l) (i : Nat) (hi : i < l.length) (y : Tn) :
    TAt ((((w.setCell ⟨g, i * 4, none⟩ (.int .u32 (y.n : Int))).setCell ⟨g, i * 4 + 1, none⟩ (.int .i64 (y.due : Int))).setCell ⟨g, i * 4 + 2, none⟩ (.int .i64 (y.long : Int))).setCell ⟨g, i * 4 + 3, none⟩ (.int .i64 (y.times : Int))) b f mo (some ⟨g, 0, none⟩) c (l.set i y) ∧ Touch (fun j => j = g) w ((((w.setCell ⟨g, i * 4, none⟩ (.int .u32 (y.n : Int))).setCell ⟨g, i * 4 + 1, none⟩ (.int .i64 (y.due : Int))).setCell ⟨g, i * 4 + 2, none⟩ (.int .i64 (y.long : Int))).setCell ⟨g, i * 4 + 3, none⟩ (.int .i64 (y.times : Int))) := by
  have ht : Touch (fun j => j = g) w ((((w.setCell ⟨g, i * 4, none⟩ (.int .u32 (y.n : Int))).setCell ⟨g, i * 4 + 1, none⟩ (.int .i64 (y.due : Int))).setCell ⟨g, i * 4 + 2, none⟩ (.int .i64 (y.long : Int))).setCell ⟨g, i * 4 + 3, none⟩ (.int .i64 (y.times : Int))) :=
    ((((Touch.refl (fun j => j = g) w).setCell (p := ⟨g, i * 4, none⟩) (fun _ => rfl) _).setCell (p := ⟨g, i * 4 + 1, none⟩) (fun _ => rfl) _).setCell (p := ⟨g, i * 4 + 2, none⟩) (fun _ => rfl) _).setCell (p := ⟨g, i * 4 + 3, none⟩) (fun _ => rfl) _
  have hr := h.row.setT i hi y
  have hbg : ¬ b = g := fun e => h.ne _ rfl e.symm
  have hb := h.lt
  exact ⟨⟨(ht.cell (p := ⟨b, 0, none⟩) hb hbg).trans h.c0, (ht.cell (p := ⟨b, 1, none⟩) hb hbg).trans h.c1, by rw [List.length_set]; exact (ht.cell (p := ⟨b, 2, none⟩) hb hbg).trans h.c2, (ht.frozen (p := ⟨b, 2, none⟩) hb hbg).trans h.f2, hr, h.ne⟩, ht⟩
/-- Behind k of them: those that wait; those that are due. -/
structure DM (w : World) (b : Nat) (f : Int) (mo now : Nat) (a : Option Addr) (c : Nat) (l : List Tn) (k : Nat) (a1 : Option Addr) (c1 : Nat) (wr : World) : Prop where
  t : TAt wr b f (mo : Int) a c (agK now mo k l)
  d : OwnV 135 4 w.heap.size a1 c1 ((dueF now (l.take k)).map tnC) wr
  tch : Touch (fun j => a.map (·.block) = some j) w wr
  hb : b < w.heap.size
  ha : ∀ x, a = some x → x.block < w.heap.size
theorem DM.keep {w : World} {b : Nat} {f : Int} {mo now : Nat} {a : Option Addr} {c : Nat} {l : List Tn} {k : Nat} {a1 : Option Addr} {c1 : Nat} {wr w' : World} (h : DM w b f mo now a c l k a1 c1 wr) (hb : Below wr.heap.size wr w') : DM w b f mo now a c l k a1 c1 w' :=
  ⟨h.t.keep hb, h.d.touch (touch_of_below (S := fun _ => False) hb) (fun _ _ => id), h.tch.trans (touch_of_below hb), h.hb, h.ha⟩
theorem DM.app {w : World} {b : Nat} {f : Int} {mo now : Nat} {a : Option Addr} {c : Nat} {l : List Tn} {k : Nat} {a1 a' : Option Addr} {c1 c' : Nat} {ls : List Tn} {wr w' : World} (h : DM w b f mo now a c l k a1 c1 wr) (ho : OwnV 135 4 0 a' c' (ls.map tnC) w') (ht : Touch (fun j => a1.map (·.block) = some j) wr w') (hf : ∀ x, a' = some x → a1.map (·.block) = some x.block ∨ wr.heap.size ≤ x.block) :
    TAt w' b f (mo : Int) a c (agK now mo k l) ∧ OwnV 135 4 w.heap.size a' c' (ls.map tnC) w' ∧ Touch (fun j => a.map (·.block) = some j) w w' := by
  have hs := h.tch.size
  have hge : ∀ j, a1.map (·.block) = some j → w.heap.size ≤ j := fun j e => map_none (P := fun j => w.heap.size ≤ j) h.d.2 j e
  refine ⟨h.t.touch ht (fun e => by have := hge _ e; have := h.hb; omega) (fun x hx e => by have := hge _ e; have := h.ha x hx; omega), ⟨ho.1, fun x hx => ?_⟩, h.tch.trans' ht (fun j hj e => by have := hge _ e; omega)⟩
  rcases hf x hx with e | e
  · exact hge _ e
  · omega
theorem DM.set {w : World} {b g : Nat} {f : Int} {mo now : Nat} {c : Nat} {l : List Tn} {k : Nat} {a1 : Option Addr} {c1 : Nat} {ls : List Tn} {wr : World} (ht : TAt wr b f (mo : Int) (some ⟨g, 0, none⟩) c (agK now mo k l)) (hd : OwnV 135 4 w.heap.size a1 c1 (ls.map tnC) wr) (htc : Touch (fun j => (some (⟨g, 0, none⟩ : Addr)).map (·.block) = some j) w wr) (hb : b < w.heap.size) (hg : g < w.heap.size) (hk : k < l.length) (hdue : isDue now l[k] = true) (hls : ls = dueF now (l.take (k + 1))) (y : Tn) (hy : y = againT now mo l[k]) :
    DM w b f mo now (some ⟨g, 0, none⟩) c l (k + 1) a1 c1 ((((wr.setCell ⟨g, k * 4, none⟩ (.int .u32 (y.n : Int))).setCell ⟨g, k * 4 + 1, none⟩ (.int .i64 (y.due : Int))).setCell ⟨g, k * 4 + 2, none⟩ (.int .i64 (y.long : Int))).setCell ⟨g, k * 4 + 3, none⟩ (.int .i64 (y.times : Int))) := by
  subst hy hls
  obtain ⟨h1, h2⟩ := ht.setT k (by rw [agK_len]; exact hk) (againT now mo l[k])
  rw [← agK_yes now mo k l hk hdue] at h1
  exact ⟨h1, hd.touch h2 (fun x hx e => by have := hd.2 x hx; have e : x.block = g := e; omega), htc.trans (h2.mono fun j _ e => by subst e; rfl), hb, fun x hx => by cases hx; exact hg⟩
def DuePost (w : World) (b : Nat) (f : Int) (mo now : Nat) (a : Option Addr) (c : Nat) (l : List Tn) (r : Ending) (w' : World) : Prop :=
  ∃ a1 c1, r = .returned (.slice a1 (dueF now l).length c1) ∧ OwnV 22 1 w.heap.size a1 c1 (((dueF now l).map (·.n)).map u32C) w' ∧ TAt w' b f (mo : Int) a c (agF now mo l) ∧ Touch (fun j => a.map (·.block) = some j) w w'
set_option maxRecDepth 100000 in
set_option maxHeartbeats 2000000 in
theorem due_any (b now mo : Nat) (f : Int) (a : Option Addr) (c : Nat) (l : List Tn) (w : World) (h : TAt w b f (mo : Int) a c l) (hl : l.length ≤ 20) (hok : ∀ x ∈ l, x.Ok) (hs : SortedD (dueF now l)) (hn : now ≤ 1000000000) (hm : mo ≤ 1000000000) :
    Calls Try.prog 36 #[.pointer (some ⟨b, 0, none⟩), .int .i64 (now : Int)] w (DuePost w b f mo now a c l) := by
  have HD0 : Hid (DM w b f mo now a c l 0 none 0 w) := Lib.hid ⟨by unfold agK agF; simpa using h, ⟨World.ownsRow_nil _ _ _ _, (fun x hx => by cases hx)⟩, Touch.refl _ _, h.lt, fun x hx => h.row.lt x hx⟩
  have HOK := Lib.hid hok
  have HSO := Lib.hid hs
  have c2 := h.c2
  have hbl := h.lt
  generalize hpost : DuePost w b f mo now a c l = Post
  have HPost := Lib.hid hpost
  clear h hok hs hpost
  go_enter Try.func36, Try.ntmps36
  go_wp2
  clear c2 hbl
  go_loopw [5, 13] (fun v5 v13 wr => ∃ (k n1 : Nat) (a1 : Option Addr) (c1 : Nat), k ≤ l.length ∧ n1 ≤ k ∧ v5 = .slice a1 n1 c1 ∧ v13 = .int .i64 k ∧ Hid ((dueF now (l.take k)).length = n1 ∧ DM w b f mo now a c l k a1 c1 wr)) (fun _ v13 _ => l.length - (intOf v13).toNat)
  case atStart => exact ⟨0, 0, none, 0, by omega, by omega, rfl, rfl, Lib.hid ⟨rfl, HD0.out⟩⟩
  case round =>
    obtain ⟨k, n1, a1, c1, hk, hn1, rfl, rfl, HM⟩ := hrel
    by_cases hlt : k < l.length
    · obtain ⟨hdl, hdm⟩ := HM.out
      obtain ⟨g, rfl⟩ := hdm.t.row.isg (by rw [List.length_map, agK_len]; omega)
      obtain ⟨g', off, e1, hg, d0, d1, d2, d3⟩ := hdm.t.trow.at (k := k) (by rw [agK_len]; exact hlt)
      simp only [Option.some.injEq, Addr.mk.injEq] at e1
      obtain ⟨rfl, rfl, -⟩ := e1
      rw [agK_at now mo k l hlt] at d0 d1 d2 d3
      simp only [Nat.zero_add] at d0 d1 d2 d3
      have hxo := HOK.out l[k] (List.getElem_mem hlt)
      have HDS := Lib.hid (show dueF now (l.take (k + 1)) = dueF now (l.take k) ++ (if isDue now l[k] = true then [l[k]] else []) by rw [List.take_succ_eq_append_getElem hlt]; exact dueF_snoc _ _ _)
      have HDM := Lib.hid hdm
      have HDL := Lib.hid hdl
      have hgw : g < w.heap.size := hdm.ha _ rfl
      have hi0 : (0 : Int) ≤ (k : Int) := by omega
      have hi1 : (k : Int) < (l.length : Int) := by omega
      have hA := bel_alloc (Below.refl wr.heap.size wr) (.cells #[.int .u32 (l[k].n : Int), .int .i64 (l[k].due : Int), .int .i64 (l[k].long : Int), .int .i64 (l[k].times : Int)] 135)
      have HD2 := Lib.hid (hdm.keep hA)
      clear hdm hdl HM hA
      by_cases hdue : isDue now l[k] = true
      · have HDS2 := Lib.hid (show dueF now (l.take (k + 1)) = dueF now (l.take k) ++ [l[k]] by rw [HDS.out, if_pos hdue])
        obtain ⟨a5, c5, w5, hrun, ho, hto, hnw⟩ := own_one tnTy Try.underlying130 HD2.out.d (tnC l[k]) (tn_wide [l[k]]) (by rw [List.length_map, HDL.out]; omega) n1 (by rw [List.length_map, HDL.out]) #[.int .u32 (l[k].n : Int), .int .i64 (l[k].due : Int), .int .i64 (l[k].long : Int), .int .i64 (l[k].times : Int)] rfl
        have ho' : OwnV 135 4 0 a5 c5 ((dueF now (l.take (k + 1))).map tnC) w5 := by rw [HDS2.out, List.map_append]; exact ho
        obtain ⟨ht5, hd5, htc5⟩ := HD2.out.app ho' hto hnw
        have HSET := Lib.hid (fun W hb => DM.set (w := w) (wr := W) (ht5.keep hb) (hd5.touch (touch_of_below (S := fun _ => False) hb) (fun _ _ => id)) (htc5.trans (touch_of_below hb)) HDM.out.hb hgw hlt hdue rfl (againT now mo l[k]) rfl)
        have HT5 := Lib.hid ht5
        have hdn : l[k].due ≤ now := by unfold isDue at hdue; simpa using hdue
        have HNL : Hid ((dueF now (l.take (k + 1))).length = n1 + 1) := Lib.hid (by rw [HDS2.out, List.length_append, HDL.out]; rfl)
        have hyg : wr.heap.size ≠ 0 ∨ True := .inr trivial
        have hq : ∀ j v, (wr.alloc (.cells #[.int .u32 (l[k].n : Int), .int .i64 (l[k].due : Int), .int .i64 (l[k].long : Int), .int .i64 (l[k].times : Int)] 135)).cell? ⟨wr.heap.size, j, none⟩ = some v → w5.cell? ⟨wr.heap.size, j, none⟩ = some v := fun j v hv => (hto.cell (p := ⟨wr.heap.size, j, none⟩) (by simp) (fun e => by have h0 : wr.heap.size < wr.heap.size := map_none (P := fun j => j < wr.heap.size) (fun x hx => HDM.out.d.lt x hx) _ e; omega)).trans hv
        have HQ := Lib.hid hq
        have HRUN := Lib.hid hrun
        have hrow5 : ∀ j v, wr.cell? ⟨g, j, none⟩ = some v → w5.cell? ⟨g, j, none⟩ = some v := fun j v hv => (hto.cell (p := ⟨g, j, none⟩) (show g < (wr.alloc (.cells #[.int .u32 (l[k].n : Int), .int .i64 (l[k].due : Int), .int .i64 (l[k].long : Int), .int .i64 (l[k].times : Int)] 135)).heap.size from by have := HD2.out.tch.size; omega) (fun e => by have h0 : w.heap.size ≤ g := map_none (P := fun j => w.heap.size ≤ j) HDM.out.d.2 _ e; omega)).trans (((bel_alloc (Below.refl wr.heap.size wr) _).cell (p := ⟨g, j, none⟩) (block_lt_of_cell hv)).trans hv)
        have r0 := hrow5 _ _ d0
        have r1 := hrow5 _ _ d1
        have r2 := hrow5 _ _ d2
        have r3 := hrow5 _ _ d3
        have HAG := Lib.hid (fun W => again_any l[k].n l[k].due l[k].long l[k].times now mo W hxo.long hxo.times hn hm)
        unfold AgPost at HAG
        have hwf : ∀ o, w5.frozen? ⟨g, o, none⟩ = false := fun o => ht5.row.frozen o
        have HWF := Lib.hid hwf
        clear hrun ho hto hnw ho' ht5 hd5 htc5 hq hrow5 hwf hyg HDS HDS2 HDL hdue
        generalize hxx : l[k] = x at d0 d1 d2 d3 r0 r1 r2 r3 HD2 HQ HRUN HSET HAG hdn hxo
        obtain ⟨un, ud, ug, ut⟩ := x
        simp only at d0 d1 d2 d3 r0 r1 r2 r3 HD2 HQ HRUN HSET HAG hdn hxo
        generalize againT now mo ⟨un, ud, ug, ut⟩ = y at HAG HSET
        have hdi : (ud : Int) ≤ (now : Int) := by omega
        have q0 : (wr.alloc (.cells #[.int .u32 (un : Int), .int .i64 (ud : Int), .int .i64 (ug : Int), .int .i64 (ut : Int)] 135)).cell? ⟨wr.heap.size, 0, none⟩ = some (.int .u32 (un : Int)) := by simp
        have q1 : (wr.alloc (.cells #[.int .u32 (un : Int), .int .i64 (ud : Int), .int .i64 (ug : Int), .int .i64 (ut : Int)] 135)).cell? ⟨wr.heap.size, 1, none⟩ = some (.int .i64 (ud : Int)) := by simp
        have q2 : (wr.alloc (.cells #[.int .u32 (un : Int), .int .i64 (ud : Int), .int .i64 (ug : Int), .int .i64 (ut : Int)] 135)).cell? ⟨wr.heap.size, 2, none⟩ = some (.int .i64 (ug : Int)) := by simp
        have q3 : (wr.alloc (.cells #[.int .u32 (un : Int), .int .i64 (ud : Int), .int .i64 (ug : Int), .int .i64 (ut : Int)] 135)).cell? ⟨wr.heap.size, 3, none⟩ = some (.int .i64 (ut : Int)) := by simp
        have p0 := HQ.out _ _ q0
        have p1 := HQ.out _ _ q1
        have p2 := HQ.out _ _ q2
        have p3 := HQ.out _ _ q3
        have HPQ := Lib.hid (show (w5.cell? ⟨wr.heap.size, 0, none⟩ = some (.int .u32 (un : Int)) ∧ w5.cell? ⟨wr.heap.size, 1, none⟩ = some (.int .i64 (ud : Int))) ∧ (w5.cell? ⟨wr.heap.size, 2, none⟩ = some (.int .i64 (ug : Int)) ∧ w5.cell? ⟨wr.heap.size, 3, none⟩ = some (.int .i64 (ut : Int))) from ⟨⟨p0, p1⟩, p2, p3⟩)
        have HRR := Lib.hid (show (w5.cell? ⟨g, k * 4, none⟩ = some (.int .u32 (un : Int)) ∧ w5.cell? ⟨g, k * 4 + 1, none⟩ = some (.int .i64 (ud : Int))) ∧ (w5.cell? ⟨g, k * 4 + 2, none⟩ = some (.int .i64 (ug : Int)) ∧ w5.cell? ⟨g, k * 4 + 3, none⟩ = some (.int .i64 (ut : Int))) from ⟨⟨r0, r1⟩, r2, r3⟩)
        have HQQ := Lib.hid (show (((wr.alloc (.cells #[.int .u32 (un : Int), .int .i64 (ud : Int), .int .i64 (ug : Int), .int .i64 (ut : Int)] 135)).cell? ⟨wr.heap.size, 0, none⟩ = some (.int .u32 (un : Int)) ∧ (wr.alloc (.cells #[.int .u32 (un : Int), .int .i64 (ud : Int), .int .i64 (ug : Int), .int .i64 (ut : Int)] 135)).cell? ⟨wr.heap.size, 1, none⟩ = some (.int .i64 (ud : Int))) ∧ ((wr.alloc (.cells #[.int .u32 (un : Int), .int .i64 (ud : Int), .int .i64 (ug : Int), .int .i64 (ut : Int)] 135)).cell? ⟨wr.heap.size, 2, none⟩ = some (.int .i64 (ug : Int)) ∧ (wr.alloc (.cells #[.int .u32 (un : Int), .int .i64 (ud : Int), .int .i64 (ug : Int), .int .i64 (ut : Int)] 135)).cell? ⟨wr.heap.size, 3, none⟩ = some (.int .i64 (ut : Int)))) from ⟨⟨q0, q1⟩, q2, q3⟩)
        clear q0 q1 q2 q3 p0 p1 p2 p3 r0 r1 r2 r3 HQ
        go_upto_region 5 with (fail)
        clear d0 d1 d2 d3 hg
        generalize wr.alloc (.cells #[.int .u32 (un : Int), .int .i64 (ud : Int), .int .i64 (ug : Int), .int .i64 (ut : Int)] 135) = W2 at HQQ HRUN HD2 ⊢
        generalize wr.heap.size = Y at HQQ HPQ ⊢
        obtain ⟨⟨q0, q1⟩, q2, q3⟩ := HQQ.out
        have hql := block_lt_of_cell q0
        simp only at hql
        go_upto_region 7 with (at_builtin; refine wpList_append_run _ rfl (.tmp 22) (.tmp 24) 130 130 rfl _ _ rfl rfl (.slice a5 (n1 + 1) c5) w5 HRUN.out ?_)
        clear q0 q1 q2 q3 hql HRUN
        obtain ⟨⟨p0, p1⟩, p2, p3⟩ := HPQ.out
        obtain ⟨⟨r0, r1⟩, r2, r3⟩ := HRR.out
        have c1' := HT5.out.c1
        have c2' := HT5.out.c2
        rw [agK_len] at c2'
        have hbl := HT5.out.lt
        have hpl := block_lt_of_cell p0
        have hgl := block_lt_of_cell r0
        simp only at hpl hgl
        go_region_law (first
          | (go_simp; go_at_call 65; (with_reducible refine (HAG.out _).mono ?_); rintro r wO ⟨rfl, hbO⟩; have HBO := Lib.hid hbO; have c2o := (hbO.cell (p := ⟨b, 2, none⟩) hbl).trans c2'; have r0o := (hbO.cell (p := ⟨g, k * 4, none⟩) hgl).trans r0; have r1o := (hbO.cell (p := ⟨g, k * 4 + 1, none⟩) hgl).trans r1; have r2o := (hbO.cell (p := ⟨g, k * 4 + 2, none⟩) hgl).trans r2; have r3o := (hbO.cell (p := ⟨g, k * 4 + 3, none⟩) hgl).trans r3; have z0o := (hbO.frozen (p := ⟨g, k * 4, none⟩) hgl).trans (HWF.out _); have z1o := (hbO.frozen (p := ⟨g, k * 4 + 1, none⟩) hgl).trans (HWF.out _); have z2o := (hbO.frozen (p := ⟨g, k * 4 + 2, none⟩) hgl).trans (HWF.out _); have z3o := (hbO.frozen (p := ⟨g, k * 4 + 3, none⟩) hgl).trans (HWF.out _); have hblo := Nat.lt_of_lt_of_le hbl hbO.size; have hglo := Nat.lt_of_lt_of_le hgl hbO.size; clear hbO))
        all_goals
          have HFS := Lib.hid (HSET.out wO ((Below.refl w5.heap.size w5).drew.trans HBO.out))
          go_wp2
          go_roundw
          case rel => exact ⟨k + 1, n1 + 1, a5, c5, by omega, by omega, rfl, by go_num, Lib.hid ⟨HNL.out, HFS.out⟩⟩
          case measure => simp [intOf] <;> omega
      · have hd0 : isDue now l[k] = false := by simpa using hdue
        have HD3 : Hid (DM w b f mo now (some ⟨g, 0, none⟩) c l (k + 1) a1 c1 (wr.alloc (.cells #[.int .u32 (l[k].n : Int), .int .i64 (l[k].due : Int), .int .i64 (l[k].long : Int), .int .i64 (l[k].times : Int)] 135))) := Lib.hid ⟨by rw [agK_no now mo k l hlt hd0]; exact HD2.out.t, by rw [HDS.out, if_neg (by simp [hd0]), List.append_nil]; exact HD2.out.d, HD2.out.tch, HD2.out.hb, HD2.out.ha⟩
        have HNL : Hid ((dueF now (l.take (k + 1))).length = n1) := Lib.hid (by rw [HDS.out, if_neg (by simp [hd0]), List.append_nil]; exact HDL.out)
        have hdn : now < l[k].due := by unfold isDue at hd0; simpa using hd0
        clear hdue hd0 HD2 HDS HDM HDL
        generalize l[k] = x at d0 d1 d2 d3 HD3 hdn hxo
        obtain ⟨un, ud, ug, ut⟩ := x
        simp only at d0 d1 d2 d3 HD3 hdn hxo
        have hdi : (now : Int) < (ud : Int) := by omega
        go_wp2
        go_roundw
        case rel => exact ⟨k + 1, n1, a1, c1, by omega, by omega, rfl, by go_num, Lib.hid ⟨HNL.out, HD3.out⟩⟩
        case measure => simp [intOf] <;> omega
    · obtain rfl : k = l.length := by omega
      obtain ⟨hdl, hdm⟩ := HM.out
      rw [List.take_length] at hdl
      have hd := hdm.d
      have ht := hdm.t
      rw [List.take_length] at hd
      rw [agK_all] at ht
      have hdlen : (dueF now l).length ≤ 20 := by omega
      have HSRT := Lib.hid (tsort_any a1 c1 (dueF now l) wr hdlen HSO.out (hd.row (tn_wide _)))
      have HNUM := Lib.hid (fun W hr => numbers_any a1 c1 (dueF now l) W (by omega) hr)
      have HROW : Hid (TRow wr a1 (dueF now l)) := Lib.hid (hd.row (tn_wide _))
      have HT := Lib.hid ht
      have HTC := Lib.hid hdm.tch
      rw [hdl] at HSRT HNUM
      unfold NumsPost at HNUM
      have HDL := Lib.hid hdl
      have hi1 : (l.length : Int) ≤ (l.length : Int) := by omega
      clear hdl hdm hd ht HM HD0
      go_wp2_with fail
      refine HSRT.out.mono ?_
      rintro r w6 ⟨rfl, hb6⟩
      have HB6 := Lib.hid hb6
      have HROW6 := Lib.hid (HROW.out.below hb6)
      clear hb6 HSRT
      go_wp2_with fail
      refine (HNUM.out _ HROW6.out).mono ?_
      rintro r w7 ⟨a7, c7, rfl, ho7, hb7⟩
      have hb67 := HB6.out.trans (hb7.mono HB6.out.size)
      have HF : Hid (DuePost w b f mo now a c l (.returned (.slice a7 (dueF now l).length c7)) w7) := Lib.hid ⟨a7, c7, rfl, ⟨ho7.1, fun x hx => by have := ho7.2 x hx; have := HTC.out.size; have := HB6.out.size; omega⟩, HT.out.keep hb67, HTC.out.trans (touch_of_below hb67)⟩
      rw [HPost.out] at HF
      clear ho7 hb7 hb67
      go_wp2
      exact HF.out
end Go.Proofs.Ytpilkaggiajjmaa
