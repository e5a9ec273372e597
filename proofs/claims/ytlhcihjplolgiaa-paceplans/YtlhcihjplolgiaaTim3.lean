/-
  Layer 14: rows of what waits: one is another one; their numbers; a row that is in its order stays as it is, sorted.
-/
import Derived.Test.YtlhcihjplolgiaaTim2
import Derived.Deep.RegionLaw
namespace Go.Proofs.Ytlhcihjplolgiaa
open Go.RowKit
set_option linter.unusedVariables false

theorem flatten_setV {α : Type} {k : Nat} {ls : List (List α)} (hw : ∀ x ∈ ls, x.length = k) : ∀ i (h : i < ls.length) j, j < k → ∀ v : α, ls.flatten.set (i * k + j) v = (ls.set i (ls[i].set j v)).flatten := by
  induction ls with
  | nil => intro i h; simp at h
  | cons x l ih =>
    intro i h j hj v
    have hx := hw x (by simp)
    cases i with
    | zero =>
      rw [List.flatten_cons, Nat.zero_mul, Nat.zero_add, List.set_append_left _ _ (by omega)]
      simp
    | succ i =>
      have e : (i + 1) * k + j = x.length + (i * k + j) := by rw [hx, Nat.add_mul]; omega
      rw [List.flatten_cons, e, List.set_append_right _ _ (by omega), Nat.add_sub_cancel_left, ih (fun y hy => hw y (by simp [hy])) i (by simpa using h) j hj v]
      simp
theorem OwnV.set1 {e : TypeId} {k B g c : Nat} {w : World} {ls : List (List Value)} (h : OwnV e k B (some ⟨g, 0, none⟩) c ls w) (hw : ∀ x ∈ ls, x.length = k) (i : Nat) (hi : i < ls.length) (j : Nat) (hj : j < k) (v : Value) :
    OwnV e k B (some ⟨g, 0, none⟩) c (ls.set i (ls[i].set j v)) (w.setCell ⟨g, i * k + j, none⟩ v) := by
  have h1 := (h.1.stored (i * k + j) v).1
  rw [flatten_setV hw i hi j hj] at h1
  exact ⟨by rw [List.length_set]; exact h1, h.2⟩
theorem OwnV.isg {e : TypeId} {k B c : Nat} {a : Option Addr} {w : World} {ls : List (List Value)} (h : OwnV e k B a c ls w) (h0 : 0 < ls.length) : ∃ g, a = some ⟨g, 0, none⟩ := by
  rcases h.1.2 with ⟨_, h0'⟩ | ⟨g, cap, cur, hv, -⟩
  · omega
  · cases hv; exact ⟨g, rfl⟩
theorem OwnV.frozen {e : TypeId} {k B g c : Nat} {w : World} {ls : List (List Value)} (h : OwnV e k B (some ⟨g, 0, none⟩) c ls w) (o : Nat) : w.frozen? ⟨g, o, none⟩ = false := by
  rcases h.1.2 with ⟨h', _⟩ | ⟨g', cap, cur, hv, -, hg, -⟩
  · simp at h'
  · simp only [Value.slice.injEq, Option.some.injEq, Addr.mk.injEq, and_true, true_and] at hv
    obtain ⟨rfl, -⟩ := hv
    unfold World.frozen?
    simp [hg]
/-- One of those that wait is another one. -/
theorem OwnV.setT {B g c : Nat} {w : World} {l : List Tn} (h : OwnV 196 4 B (some ⟨g, 0, none⟩) c (l.map tnC) w) (i : Nat) (hi : i < l.length) (y : Tn) :
    OwnV 196 4 B (some ⟨g, 0, none⟩) c ((l.set i y).map tnC) ((((w.setCell ⟨g, i * 4, none⟩ (.int .u32 (y.n : Int))).setCell ⟨g, i * 4 + 1, none⟩ (.int .i64 (y.due : Int))).setCell ⟨g, i * 4 + 2, none⟩ (.int .i64 (y.long : Int))).setCell ⟨g, i * 4 + 3, none⟩ (.int .i64 (y.times : Int))) := by
  have hlen : ∀ ls : List (List Value), (∀ x ∈ ls, x.length = 4) → ∀ x : List Value, x.length = 4 → ∀ x' ∈ ls.set i x, x'.length = 4 := fun ls hw x hx x' hx' => by
    rcases List.mem_or_eq_of_mem_set hx' with h | h
    · exact hw x' h
    · rw [h]; exact hx
  have hw0 : ∀ x ∈ l.map tnC, x.length = 4 := fun x hx => (tn_wide l x hx).1
  have hi0 : i < (l.map tnC).length := by simpa using hi
  have h1 := h.set1 hw0 i hi0 0 (by decide) (.int .u32 (y.n : Int))
  have hw1 := hlen _ hw0 ((l.map tnC)[i].set 0 (.int .u32 (y.n : Int))) (by simp [tnC])
  have h2 := h1.set1 hw1 i (by simpa using hi) 1 (by decide) (.int .i64 (y.due : Int))
  have hw2 := hlen _ hw1 (((l.map tnC).set i ((l.map tnC)[i].set 0 (.int .u32 (y.n : Int))))[i]'(by simpa using hi) |>.set 1 (.int .i64 (y.due : Int))) (by simp [tnC])
  have h3 := h2.set1 hw2 i (by simpa using hi) 2 (by decide) (.int .i64 (y.long : Int))
  have hw3 := hlen _ hw2 (((((l.map tnC).set i ((l.map tnC)[i].set 0 (.int .u32 (y.n : Int))))).set i (((l.map tnC).set i ((l.map tnC)[i].set 0 (.int .u32 (y.n : Int))))[i]'(by simpa using hi) |>.set 1 (.int .i64 (y.due : Int))))[i]'(by simpa using hi) |>.set 2 (.int .i64 (y.long : Int))) (by simp [tnC])
  have h4 := h3.set1 hw3 i (by simpa using hi) 3 (by decide) (.int .i64 (y.times : Int))
  rw [List.map_set]
  simpa [tnC] using h4
def againT (now mo : Nat) (x : Tn) : Tn := ⟨x.n, now + min (2 * x.long) mo, min (2 * x.long) mo, x.times + 1⟩
def AgPost (w : World) (now mo : Nat) (x : Tn) (r : Ending) (w' : World) : Prop := r = .returned (.agg #[.int .u32 ((againT now mo x).n : Int), .int .i64 ((againT now mo x).due : Int), .int .i64 ((againT now mo x).long : Int), .int .i64 ((againT now mo x).times : Int)]) ∧ Below w.heap.size w w'
set_option maxRecDepth 100000 in
theorem again_any (n d g t now mo : Nat) (w : World) (hg : g ≤ 1000000000) (ht : t ≤ 1000000000) (hn : now ≤ 1000000000) (hm : mo ≤ 1000000000) :
    Calls Try.prog 143 #[.agg #[.int .u32 (n : Int), .int .i64 (d : Int), .int .i64 (g : Int), .int .i64 (t : Int)], .int .i64 (now : Int), .int .i64 (mo : Int)] w (AgPost w now mo ⟨n, d, g, t⟩) := by
  have HF : Hid (∀ q : Nat, q = min (2 * g) mo → ∀ o1 o2, AgPost w now mo ⟨n, d, g, t⟩ (.returned (.agg #[.int .u32 (n : Int), .int .i64 ((now : Int) + (q : Int)), .int .i64 (q : Int), .int .i64 ((t : Int) + 1)])) ((w.alloc o1).alloc o2)) := Lib.hid (fun q hq o1 o2 => by
    subst hq
    refine ⟨?_, bel_alloc (bel_alloc (Below.refl _ _) _) _⟩
    simp only [againT]
    congr)
  by_cases hc : mo < 2 * g
  · have HE := Lib.hid (HF.out mo (by omega))
    have i1 : (if (mo : Int) < 2 * (g : Int) then (mo : Int) else 2 * (g : Int)) = (mo : Int) := if_pos (by omega)
    have i2 : (mo : Int) < 2 * (g : Int) := by omega
    have i3 : min (2 * (g : Int)) (mo : Int) = (mo : Int) := by omega
    generalize AgPost w now mo ⟨n, d, g, t⟩ = Post at HE ⊢
    clear hc HF
    go_enter Try.func143, Try.ntmps143
    go_wp2
    exact bodyPost_ret (v := .agg #[.int .u32 (n : Int), .int .i64 ((now : Int) + (mo : Int)), .int .i64 (mo : Int), .int .i64 ((t : Int) + 1)]) (by simp [results, Try.results143, go_sem]) rfl (HE.out _ _)
  · have HE := Lib.hid (HF.out (2 * g) (by omega))
    have i1 : (if (mo : Int) < 2 * (g : Int) then (mo : Int) else 2 * (g : Int)) = 2 * (g : Int) := if_neg (by omega)
    have i2 : 2 * (g : Int) ≤ (mo : Int) := by omega
    have i3 : min (2 * (g : Int)) (mo : Int) = 2 * (g : Int) := by omega
    rw [show ((2 * g : Nat) : Int) = 2 * (g : Int) by omega] at HE
    generalize AgPost w now mo ⟨n, d, g, t⟩ = Post at HE ⊢
    clear hc HF
    go_enter Try.func143, Try.ntmps143
    go_wp2
    exact bodyPost_ret (v := .agg #[.int .u32 (n : Int), .int .i64 ((now : Int) + 2 * (g : Int)), .int .i64 (2 * (g : Int)), .int .i64 ((t : Int) + 1)]) (by simp [results, Try.results143, go_sem]) rfl (HE.out _ _)
def NumsPost (w : World) (l : List Tn) (r : Ending) (w' : World) : Prop := ∃ a c, r = .returned (.slice a l.length c) ∧ OwnV 132 1 w.heap.size a c ((l.map (·.n)).map u32C) w' ∧ Below w.heap.size w w'
set_option maxRecDepth 100000 in
set_option maxHeartbeats 1000000 in
theorem numbers_any (a : Option Addr) (c : Nat) (l : List Tn) (w : World) (hl : l.length ≤ 1000) (hr : TRow w a l) : Calls Try.prog 147 #[.slice a l.length c] w (NumsPost w l) := by
  have HR := Lib.hid hr
  generalize hpost : NumsPost w l = Post
  have HPost := Lib.hid hpost
  clear hr hpost
  go_enter Try.func147, Try.ntmps147
  go_wp2
  go_loopw [3, 8] (fun v3 i wr => ∃ (k : Nat) (a1 : Option Addr) (c1 : Nat), k ≤ l.length ∧ v3 = .slice a1 k c1 ∧ i = .int .i64 k ∧ Hid (OwnV 132 1 w.heap.size a1 c1 (((l.take k).map (·.n)).map u32C) wr ∧ Below w.heap.size w wr)) (fun _ i _ => l.length - (intOf i).toNat)
  case atStart => exact ⟨0, none, 0, by omega, rfl, rfl, Lib.hid ⟨⟨World.ownsRow_nil _ _ _ _, (fun x hx => by cases hx)⟩, Below.refl _ _⟩⟩
  case round =>
    obtain ⟨k, a1, c1, hk, rfl, rfl, HM⟩ := hrel
    by_cases hlt : k < l.length
    · obtain ⟨b, off, rfl, hb, c0, d1, d2, d3⟩ := (HR.out.below HM.out.2).at hlt
      have hA := bel_alloc (Below.refl wr.heap.size wr) (.cells #[.int .u32 (l[k].n : Int), .int .i64 (l[k].due : Int), .int .i64 (l[k].long : Int), .int .i64 (l[k].times : Int)] 196)
      obtain ⟨a5, c5, w5, hrun, ho, hto, hnw⟩ := own_one u32Ty Try.underlying139 (HM.out.1.touch (touch_of_below (S := fun _ => False) hA) (fun _ _ => id)) (u32C l[k].n) (num_wide [l[k].n]) (by rw [List.length_map, List.length_map, List.length_take]; omega) k (by rw [List.length_map, List.length_map, List.length_take]; omega) #[.int .u32 (l[k].n : Int)] rfl
      have HRUN := Lib.hid hrun
      have ho' : OwnV 132 1 0 a5 c5 (((l.take (k + 1)).map (·.n)).map u32C) w5 := by
        rw [List.take_succ_eq_append_getElem hlt, List.map_append, List.map_append]
        exact ho
      have HM5 : Hid (OwnV 132 1 w.heap.size a5 c5 (((l.take (k + 1)).map (·.n)).map u32C) w5 ∧ Below w.heap.size w w5) := Lib.hid ⟨⟨ho'.1, fun x hx => by
        rcases hnw x hx with e | e
        · exact map_none (P := fun b => w.heap.size ≤ b) HM.out.1.2 _ e
        · have := HM.out.2.size; have := hA.size; omega⟩, (HM.out.2.trans (hA.mono HM.out.2.size)).trans (hto.below (by have := HM.out.2.size; have := hA.size; omega) (fun b hb e => by have := map_none (P := fun b => w.heap.size ≤ b) HM.out.1.2 _ e; omega))⟩
      generalize l[k] = u at c0 d1 d2 d3 HRUN
      obtain ⟨un, ud, ug, ut⟩ := u
      simp only at c0 d1 d2 d3 HRUN
      have hi0 : (0 : Int) ≤ (k : Int) := by omega
      have hi1 : (k : Int) < (l.length : Int) := by omega
      have q0 : (wr.alloc (.cells #[.int .u32 (un : Int), .int .i64 (ud : Int), .int .i64 (ug : Int), .int .i64 (ut : Int)] 196)).cell? ⟨wr.heap.size, 0, none⟩ = some (.int .u32 (un : Int)) := by simp
      have HQ := Lib.hid q0
      clear hA hrun ho hto hnw ho' HM q0
      go_upto_region 5 with (fail)
      generalize wr.alloc (.cells #[.int .u32 (un : Int), .int .i64 (ud : Int), .int .i64 (ug : Int), .int .i64 (ut : Int)] 196) = W2 at HRUN HQ ⊢
      generalize wr.heap.size = Y at HQ ⊢
      have q0 := HQ.out
      have hql := block_lt_of_cell q0
      simp only at hql
      go_wp2_with (at_builtin; refine wpList_append_run _ rfl (.tmp 12) (.tmp 15) 139 139 rfl _ _ rfl rfl (.slice a5 (k + 1) c5) w5 HRUN.out ?_)
      go_roundw
      case rel => exact ⟨k + 1, a5, c5, by omega, rfl, by go_num, HM5⟩
      case measure => simp [intOf] <;> omega
    · obtain rfl : k = l.length := by omega
      have HF : Hid (NumsPost w l (.returned (.slice a1 l.length c1)) wr) := Lib.hid ⟨a1, c1, rfl, by have := HM.out.1; rw [List.take_length] at this; exact this, HM.out.2⟩
      rw [HPost.out] at HF
      have hi1 : (l.length : Int) ≤ (l.length : Int) := by omega
      go_wp2
      exact HF.out
def cmpT (a b : Nat) : Int := if a < b then -1 else if b < a then 1 else 0
set_option maxRecDepth 100000 in
theorem isNaNi_any (a : Int) (w : World) : Calls Try.prog 168 #[.int .i64 a] w fun r w' => r = .returned (.bool false) ∧ w = w' := by
  go_enter Try.func168, Try.ntmps168
  go_wp2
  go_ret
  exact ⟨rfl, rfl⟩
set_option maxRecDepth 100000 in
theorem cmp_any (a b : Nat) (w : World) : Calls Try.prog 146 #[.int .i64 (a : Int), .int .i64 (b : Int)] w fun r w' => r = .returned (.int .i64 (cmpT a b)) ∧ w = w' := by
  have HN := Lib.hid (fun x W => isNaNi_any x W)
  unfold cmpT
  rcases Nat.lt_trichotomy a b with h | h | h
  · rw [if_pos h]
    have hi : (a : Int) < (b : Int) := by omega
    go_enter Try.func146, Try.ntmps146
    go_wp2_with (go_at_call 168; refine (HN.out _ _).mono ?_; rintro r w' ⟨rfl, rfl⟩)
    go_ret
    exact ⟨rfl, rfl⟩
  · subst h
    rw [if_neg (by omega), if_neg (by omega)]
    have hi : (a : Int) ≤ (a : Int) := by omega
    go_enter Try.func146, Try.ntmps146
    go_wp2_with (go_at_call 168; refine (HN.out _ _).mono ?_; rintro r w' ⟨rfl, rfl⟩)
    go_ret
    exact ⟨rfl, rfl⟩
  · rw [if_neg (by omega), if_pos h]
    have hi : (b : Int) < (a : Int) := by omega
    have hi2 : (b : Int) ≤ (a : Int) := by omega
    go_enter Try.func146, Try.ntmps146
    go_wp2_with (go_at_call 168; refine (HN.out _ _).mono ?_; rintro r w' ⟨rfl, rfl⟩)
    go_ret
    exact ⟨rfl, rfl⟩
set_option maxRecDepth 100000 in
theorem due1_any (n d g t n2 d2 g2 t2 : Nat) (w : World) : Calls Try.prog 145 #[.agg #[.int .u32 (n : Int), .int .i64 (d : Int), .int .i64 (g : Int), .int .i64 (t : Int)], .agg #[.int .u32 (n2 : Int), .int .i64 (d2 : Int), .int .i64 (g2 : Int), .int .i64 (t2 : Int)]] w fun r w' => r = .returned (.int .i64 (cmpT d d2)) ∧ Below w.heap.size w w' := by
  have HC := Lib.hid (fun W => cmp_any d d2 W)
  have HB : Hid (∀ o1 o2, Below w.heap.size w ((w.alloc o1).alloc o2)) := Lib.hid (fun o1 o2 => bel_alloc (bel_alloc (Below.refl _ _) _) _)
  generalize cmpT d d2 = z at HC ⊢
  go_enter Try.func145, Try.ntmps145
  go_wp2_with (go_at_call 146; refine (HC.out _).mono ?_; rintro r w' ⟨rfl, rfl⟩)
  go_ret
  exact ⟨rfl, HB.out _ _⟩
end Go.Proofs.Ytlhcihjplolgiaa
