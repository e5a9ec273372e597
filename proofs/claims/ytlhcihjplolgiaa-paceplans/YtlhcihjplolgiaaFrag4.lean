/-
  Layer 12: a message's parts; the document's; what stands at the head of the laws.
-/
import Derived.Test.YtlhcihjplolgiaaFrag3
namespace Go.Proofs.Ytlhcihjplolgiaa
open Go.RowKit
set_option linter.unusedVariables false

/-- How many parts are ahead of the last one. -/
def moreN (n : Nat) : Nat := (n - 1) / 200
def ptAt (l : List UInt8) (i : Nat) : Pt := ⟨false, (l.drop (200 * i)).take 200⟩
def cutK (l : List UInt8) (k : Nat) : List Pt := (List.range k).map (ptAt l)
def lastP (l : List UInt8) : Pt := ⟨true, l.drop (200 * moreN l.length)⟩
def cutL (l : List UInt8) : List Pt := cutK l (moreN l.length) ++ [lastP l]
theorem cutK_succ (l : List UInt8) (k : Nat) : cutK l (k + 1) = cutK l k ++ [ptAt l k] := by simp [cutK, List.range_succ]
theorem cutK_len (l : List UInt8) (k : Nat) : (cutK l k).length = k := by simp [cutK]
theorem cutL_len (l : List UInt8) : (cutL l).length = moreN l.length + 1 := by simp [cutL, cutK]
theorem cutL_at (l : List UInt8) (i : Nat) (h : i < (cutL l).length) : (cutL l)[i] = if i < moreN l.length then ptAt l i else lastP l := by
  have h' := h
  rw [cutL_len] at h'
  have e : (cutL l)[i]? = some (if i < moreN l.length then ptAt l i else lastP l) := by
    show (cutK l (moreN l.length) ++ [lastP l])[i]? = _
    rw [List.getElem?_append, cutK_len]
    split
    · rename_i h1
      simp [cutK, h1]
    · rename_i h1
      have : i - moreN l.length = 0 := by omega
      rw [this]; rfl
  rw [List.getElem?_eq_getElem h] at e
  exact Option.some.inj e
theorem cutL_text (l : List UInt8) (i : Nat) (h : i < (cutL l).length) : ((cutL l)[i]).text.length ≤ 200 := by
  rw [cutL_at]
  split
  · simp only [ptAt, List.length_take]; omega
  · simp only [lastP, List.length_drop, moreN]; omega
theorem pt_wide (l : List Pt) : VWide 2 (l.map ptCells) := by
  intro x hx
  obtain ⟨p, -, rfl⟩ := List.mem_map.1 hx
  refine ⟨rfl, fun u hu => ?_⟩
  simp only [ptCells, List.mem_cons, List.not_mem_nil, or_false] at hu
  rcases hu with rfl | rfl <;> rfl
theorem ptTy : VTy 151 2 (.agg #[.bool false, .string ⟨#[]⟩]) 24 := ⟨by kernel_rfl, rfl, by decide, by decide⟩
/-- A row of parts of the call's own. -/
structure PMem (e : TypeId) (w : World) (ls : List Pt) (a : Option Addr) (c : Nat) (wr : World) : Prop where
  row : OwnV e 2 w.heap.size a c (ls.map ptCells) wr
  bel : Below w.heap.size w wr
theorem PMem.step {e T : TypeId} {z : Value} {by' : Nat} (H : VTy e 2 z by') (hT : Try.prog.underlying T = some (.slice e)) {w : World} {ls : List Pt} {a : Option Addr} {c : Nat} {wr : World} (h : PMem e w ls a c wr) (pl : Bool) (pt : List UInt8) (hl : ls.length ≤ 1000) (k : Nat) (hk : ls.length = k) :
    ∃ a' c' w', (Builtin.append_ #[T, T] T #[.slice a k c, .slice (some ⟨wr.heap.size, 0, none⟩) 1 1]).run Try.prog (wr.alloc (.cells #[.bool pl, .string (bs pt)] e)) = .ok (.slice a' (k + 1) c') w' ∧ PMem e w (ls ++ [⟨pl, pt⟩]) a' c' w' := by
  subst hk
  obtain ⟨a', c', w', hrun, hnew, htch⟩ := h.row.one (t := T) (ty := T) H hT h.bel.size (ptCells ⟨pl, pt⟩) (by have := pt_wide [⟨pl, pt⟩] (ptCells ⟨pl, pt⟩) (by simp); exact this) (by simp; omega) _ rfl
  simp only [List.length_map] at hrun
  have nlo : ∀ j, j < w.heap.size → ¬ a.map (·.block) = some j := fun j hj e => by
    cases a with
    | none => simp at e
    | some x => simp at e; have := h.row.2 x rfl; omega
  exact ⟨a', c', w', hrun, by rw [List.map_append]; exact hnew, h.bel.trans (htch.below h.bel.size nlo)⟩
theorem own_part {e : TypeId} {B : Nat} {a : Option Addr} {c : Nat} {ls : List Pt} {w : World} (h : OwnV e 2 B a c (ls.map ptCells) w) (h0 : 0 < ls.length) : ∃ gb, a = some ⟨gb, 0, none⟩ ∧ gb < w.heap.size ∧ B ≤ gb ∧ ∀ i (hi : i < ls.length), w.cell? ⟨gb, i * 2, none⟩ = some (.bool ls[i].last) ∧ w.cell? ⟨gb, i * 2 + 1, none⟩ = some (.string (bs ls[i].text)) := by
  have hlen : (ls.map ptCells).length = ls.length := by simp
  rcases h.1.2 with ⟨-, h00⟩ | ⟨g, cap, cur, hv, -, hg, hnc, -, hsz, htk⟩
  · omega
  · have hr := h.row (pt_wide _) (by rw [hlen]; exact h0)
    obtain ⟨b, off, e1, hc⟩ := hr
    simp only [Value.slice.injEq] at hv
    rw [hv.1] at e1
    simp only [Option.some.injEq, Addr.mk.injEq] at e1
    obtain ⟨rfl, rfl, -⟩ := e1
    refine ⟨g, hv.1, (Array.getElem?_eq_some_iff.1 hg).1, h.2 _ hv.1, fun i hi => ?_⟩
    have hx : ∀ j, j < 2 → w.cell? ⟨g, i * 2 + j, none⟩ = (ptCells ls[i])[j]? := fun j hj => by
      have h1 := hc i (by rw [hlen]; exact hi) j hj
      rw [Nat.zero_add] at h1
      rw [h1]
      simp
    exact ⟨hx 0 (by decide), hx 1 (by decide)⟩
def CutPost (w : World) (l : List UInt8) (r : Ending) (w' : World) : Prop := ∃ a c, r = .returned (.tuple #[.slice a (moreN l.length + 1) c, .int .i64 0]) ∧ PMem 151 w (cutL l) a c w'
set_option maxRecDepth 100000 in
set_option maxHeartbeats 2000000 in
theorem fragCut_any (l : List UInt8) (w : World) (hl : l.length ≤ 65536) : Calls Try.prog 78 #[.string (bs l)] w (CutPost w l) := by
  have hz := bs_size l
  have hd : (l.length : Int) ≤ 65536 := by omega
  have hmn : moreN l.length ≤ 328 := by unfold moreN; omega
  generalize hpost : CutPost w l = Post
  have HPost := Lib.hid hpost
  clear hpost
  have HM : Hid (PMem 151 w (cutK l 0) none 0 w) := Lib.hid ⟨⟨World.ownsRow_nil _ _ _ _, fun x hx => by cases hx⟩, Below.refl _ _⟩
  go_enter Try.func78, Try.ntmps78
  go_wp2
  go_loopw [0, 4] (fun sv lv wr => ∃ (k : Nat) (a : Option Addr) (c : Nat), k ≤ moreN l.length ∧ sv = .string (bs (l.drop (200 * k))) ∧ lv = .slice a k c ∧ Hid (PMem 151 w (cutK l k) a c wr)) (fun _ lv _ => match lv with | .slice _ k _ => 1000 - k | _ => 0)
  case atStart => exact ⟨0, _, _, Nat.zero_le _, by simp, rfl, HM⟩
  case round =>
    obtain ⟨k, a, c, hk, rfl, rfl, HR⟩ := hrel
    have hzd := bs_size (l.drop (200 * k))
    have hdl : (l.drop (200 * k)).length = l.length - 200 * k := by simp
    have HLN := Lib.hid (cutK_len l k)
    by_cases hlt : k < moreN l.length
    · have h200 : 200 < (l.drop (200 * k)).length := by rw [hdl]; unfold moreN at hlt; omega
      have HN := Lib.hid (cutK_succ l k)
      have HPA := Lib.hid (show ptAt l k = ⟨false, (l.drop (200 * k)).take 200⟩ from rfl)
      have HDD := Lib.hid (show (l.drop (200 * k)).drop 200 = l.drop (200 * (k + 1)) by rw [List.drop_drop]; congr 1)
      generalize cutK l k = ls at HR HN HLN
      have hDl : (l.drop (200 * k)).length ≤ 65536 := by omega
      clear hdl
      generalize l.drop (200 * k) = D at hzd h200 hDl HPA HDD ⊢
      have s1 : (bs D).extract 0 200 = bs (D.take 200) := by rw [extract_take, bs_list]
      have s2 : (bs D).extract 200 D.length = bs (l.drop (200 * (k + 1))) := by rw [← hzd, extract_drop, bs_list, HDD.out]
      have hi1 : (200 : Int) < (D.length : Int) := by omega
      obtain ⟨a', c', w', hrun, hmem⟩ := HR.out.step (T := 147) ptTy Try.underlying147 false (D.take 200) (by rw [HLN.out]; omega) k HLN.out
      have HRUN := Lib.hid hrun
      have HMEM := Lib.hid hmem
      clear hrun hmem HR HM
      go_wp2_with (at_builtin; refine wpList_append_run _ rfl (.tmp 11) (.tmp 15) 147 147 rfl _ _ rfl rfl (.slice a' (k + 1) c') w' HRUN.out ?_)
      go_roundw
      case rel => exact ⟨k + 1, a', c', hlt, rfl, rfl, Lib.hid (by rw [HN.out, HPA.out]; exact HMEM.out)⟩
      case measure => simp; omega
    · obtain rfl : k = moreN l.length := by omega
      have h200 : (l.drop (200 * moreN l.length)).length ≤ 200 := by rw [hdl]; unfold moreN; omega
      have HCL := Lib.hid (show cutL l = cutK l (moreN l.length) ++ [⟨true, l.drop (200 * moreN l.length)⟩] from rfl)
      generalize cutK l (moreN l.length) = ls at HR HLN HCL
      clear hdl
      generalize l.drop (200 * moreN l.length) = D at hzd h200 HCL ⊢
      have hi1 : (D.length : Int) ≤ 200 := by omega
      obtain ⟨a', c', w', hrun, hmem⟩ := HR.out.step (T := 147) ptTy Try.underlying147 true D (by rw [HLN.out]; omega) _ HLN.out
      have HRUN := Lib.hid hrun
      have HMEM := Lib.hid hmem
      clear hrun hmem HR HM
      generalize hmm : moreN l.length = m at HRUN hmn ⊢
      have HMM := Lib.hid hmm
      clear hmm
      go_wp2_with (at_builtin; refine wpList_append_run _ rfl (.tmp 19) (.tmp 22) 147 147 rfl _ _ rfl rfl (.slice a' (m + 1) c') w' HRUN.out ?_)
      rw [← HPost.out]
      exact ⟨a', c', by rw [HMM.out]; rfl, by rw [HCL.out]; exact HMEM.out⟩
end Go.Proofs.Ytlhcihjplolgiaa
