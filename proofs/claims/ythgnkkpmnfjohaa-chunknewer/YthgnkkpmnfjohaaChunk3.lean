/-
  Layer 11: a snapshot's pieces.
-/
import Derived.Test.YthgnkkpmnfjohaaChunk2
namespace Go.Proofs.Ythgnkkpmnfjohaa
open Go.RowKit
set_option linter.unusedVariables false

def sumOf (l : List UInt8) : Nat := fnvS 14695981039346656037 l
def cntN (n : Nat) : Nat := (n + 99) / 100
def pcAt (turn : Int) (l : List UInt8) (k : Nat) : Pc := ⟨turn, (l.length : Int), sumOf l, (k : Int), (l.drop (100 * k)).take 100⟩
def splitK (turn : Int) (l : List UInt8) (k : Nat) : List Pc := (List.range k).map (pcAt turn l)
def splitL (turn : Int) (l : List UInt8) : List Pc := splitK turn l (cntN l.length)
theorem splitK_succ (turn : Int) (l : List UInt8) (k : Nat) : splitK turn l (k + 1) = splitK turn l k ++ [pcAt turn l k] := by
  simp [splitK, List.range_succ]
theorem splitK_len (turn : Int) (l : List UInt8) (k : Nat) : (splitK turn l k).length = k := by simp [splitK]
theorem countP_nat (n : Nat) : countP (n : Int) = (cntN n : Nat) := by unfold countP cntN; split <;> omega
theorem pcTy : VTy 32 5 (.agg #[.int .i64 0, .int .i64 0, .int .u64 0, .int .i64 0, .string ⟨#[]⟩]) 48 := ⟨by kernel_rfl, rfl, by decide, by decide⟩
theorem rpcTy : VTy 40 5 (.agg #[.int .i64 0, .int .i64 0, .int .u64 0, .int .i64 0, .string ⟨#[]⟩]) 48 := ⟨by kernel_rfl, rfl, by decide, by decide⟩
theorem pc_wide (l : List Pc) : VWide 5 (l.map pcCells) := by
  intro x hx
  obtain ⟨p, -, rfl⟩ := List.mem_map.1 hx
  refine ⟨rfl, fun u hu => ?_⟩
  simp only [pcCells, List.mem_cons, List.not_mem_nil, or_false] at hu
  rcases hu with rfl | rfl | rfl | rfl | rfl <;> rfl
theorem made_pc (u : World) (n : Nat) (hn : n ≤ 1000) : (Instr.makeSlice 55 (.int .i64 0) (.int .i64 (n : Int))).run Try.prog u = .ok (.slice (some ⟨u.heap.size, 0, none⟩) 0 n) (u.alloc (.cells (madeCells #[.int .i64 0, .int .i64 0, .int .u64 0, .int .i64 0, .string ⟨#[]⟩] (n * 5)) 32)) := by
  obtain ⟨i0, hi, hz0, hz1, hz2⟩ := info_is pcTy.info
  have := run_make (P := Try.prog) u 55 32 i0 _ Try.underlying55 hi hz0 .i64 .i64 0 (n : Int) (by omega) (by omega) (by rw [hz2]; omega) (by omega)
  rw [hz1] at this
  exact this
theorem cell_new' (W : World) (n : Nat) (h : W.heap.size = n) (cs : Array Value) (t : TypeId) (j : Nat) : (W.alloc (.cells cs t)).cell? ⟨n, j, none⟩ = cs[j]? := by subst h; simp
/-- What a call that makes pieces leaves. -/
def SplitPost (e : TypeId) (w : World) (l : List Pc) (r : Ending) (w' : World) : Prop :=
  ∃ a c, r = .returned (.slice a l.length c) ∧ OwnV e 5 w.heap.size a c (l.map pcCells) w' ∧ Below w.heap.size w w'
/-- The piece that is written over and over, at P; the row behind it. -/
structure SpMem (w : World) (P : Nat) (turn len : Int) (sm : Nat) (ls : List Pc) (a : Option Addr) (c : Nat) (wr : World) : Prop where
  c0 : wr.cell? ⟨P, 0, none⟩ = some (.int .i64 turn)
  c1 : wr.cell? ⟨P, 1, none⟩ = some (.int .i64 len)
  c2 : wr.cell? ⟨P, 2, none⟩ = some (.int .u64 (sm : Int))
  c3 : ∃ v, wr.cell? ⟨P, 3, none⟩ = some v
  c4 : ∃ v, wr.cell? ⟨P, 4, none⟩ = some v
  f3 : wr.frozen? ⟨P, 3, none⟩ = false
  f4 : wr.frozen? ⟨P, 4, none⟩ = false
  row : OwnV 32 5 (P + 1) a c (ls.map pcCells) wr
  bel : Below w.heap.size w wr
  lt : w.heap.size ≤ P
theorem SpMem.set {w : World} {P : Nat} {turn len : Int} {sm : Nat} {ls : List Pc} {a : Option Addr} {c : Nat} {wr : World} (h : SpMem w P turn len sm ls a c wr) (x : Int) (y : ByteArray) :
    SpMem w P turn len sm ls a c ((wr.setCell ⟨P, 3, none⟩ (.int .i64 x)).setCell ⟨P, 4, none⟩ (.string y)) ∧ ((wr.setCell ⟨P, 3, none⟩ (.int .i64 x)).setCell ⟨P, 4, none⟩ (.string y)).cell? ⟨P, 3, none⟩ = some (.int .i64 x) ∧ ((wr.setCell ⟨P, 3, none⟩ (.int .i64 x)).setCell ⟨P, 4, none⟩ (.string y)).cell? ⟨P, 4, none⟩ = some (.string y) := by
  obtain ⟨v3, h3⟩ := h.c3
  obtain ⟨v4, h4⟩ := h.c4
  have e3 : ((wr.setCell ⟨P, 3, none⟩ (.int .i64 x)).setCell ⟨P, 4, none⟩ (.string y)).cell? ⟨P, 3, none⟩ = some (.int .i64 x) := (World.cell?_setCell_other _ _ _ _ (by simp)).trans (World.cell?_setCell_same _ _ _ h3)
  have e4 : ((wr.setCell ⟨P, 3, none⟩ (.int .i64 x)).setCell ⟨P, 4, none⟩ (.string y)).cell? ⟨P, 4, none⟩ = some (.string y) := World.cell?_setCell_same _ _ _ ((World.cell?_setCell_other _ _ _ _ (by simp)).trans h4)
  have ht : Touch (fun k => k = P) wr ((wr.setCell ⟨P, 3, none⟩ (.int .i64 x)).setCell ⟨P, 4, none⟩ (.string y)) := ((Touch.refl (fun k => k = P) wr).setCell (p := ⟨P, 3, none⟩) (fun _ => rfl) _).setCell (p := ⟨P, 4, none⟩) (fun _ => rfl) _
  refine ⟨⟨?_, ?_, ?_, ⟨_, e3⟩, ⟨_, e4⟩, by simpa using h.f3, by simpa using h.f4, h.row.touch ht (fun z hz e => by have := h.row.2 z hz; omega), (h.bel.setCell h.lt _).setCell h.lt _, h.lt⟩, e3, e4⟩
  · rw [World.cell?_setCell_other _ _ _ _ (by simp), World.cell?_setCell_other _ _ _ _ (by simp)]; exact h.c0
  · rw [World.cell?_setCell_other _ _ _ _ (by simp), World.cell?_setCell_other _ _ _ _ (by simp)]; exact h.c1
  · rw [World.cell?_setCell_other _ _ _ _ (by simp), World.cell?_setCell_other _ _ _ _ (by simp)]; exact h.c2
theorem SpMem.step {w : World} {P : Nat} {turn len : Int} {sm : Nat} {ls : List Pc} {a : Option Addr} {c : Nat} {wr : World} (h : SpMem w P turn len sm ls a c wr) (n : Int) (t : List UInt8) (hl : ls.length ≤ 1000) (k : Nat) (hk : ls.length = k) :
    ∃ a' c' w', (Builtin.append_ #[55, 55] 55 #[.slice a k c, .slice (some ⟨wr.heap.size, 0, none⟩) 1 1]).run Try.prog (wr.alloc (.cells #[.int .i64 turn, .int .i64 len, .int .u64 (sm : Int), .int .i64 n, .string (bs t)] 32)) = .ok (.slice a' (k + 1) c') w' ∧ SpMem w P turn len sm (ls ++ [⟨turn, len, sm, n, t⟩]) a' c' w' := by
  subst hk
  have hP := block_lt_of_cell h.c0
  have hlt := h.lt
  simp only at hP
  obtain ⟨a', c', w', hrun, hnew, htch⟩ := h.row.one (t := 55) (ty := 55) pcTy Try.underlying55 (by omega) (pcCells ⟨turn, len, sm, n, t⟩) (by have := pc_wide [⟨turn, len, sm, n, t⟩] (pcCells ⟨turn, len, sm, n, t⟩) (by simp); exact this) (by simp; omega) _ rfl
  simp only [List.length_map] at hrun
  have nP : ¬ a.map (·.block) = some P := fun e => by
    cases a with
    | none => simp at e
    | some x => simp at e; have := h.row.2 x rfl; omega
  have nlo : ∀ j, j < w.heap.size → ¬ a.map (·.block) = some j := fun j hj e => by
    cases a with
    | none => simp at e
    | some x => simp at e; have := h.row.2 x rfl; omega
  obtain ⟨v3, h3⟩ := h.c3
  obtain ⟨v4, h4⟩ := h.c4
  refine ⟨a', c', w', hrun, (htch.cell (p := ⟨P, 0, none⟩) hP nP).trans h.c0, (htch.cell (p := ⟨P, 1, none⟩) hP nP).trans h.c1, (htch.cell (p := ⟨P, 2, none⟩) hP nP).trans h.c2, ⟨_, (htch.cell (p := ⟨P, 3, none⟩) hP nP).trans h3⟩, ⟨_, (htch.cell (p := ⟨P, 4, none⟩) hP nP).trans h4⟩, (htch.frozen (p := ⟨P, 3, none⟩) hP nP).trans h.f3, (htch.frozen (p := ⟨P, 4, none⟩) hP nP).trans h.f4, ?_, h.bel.trans (htch.below h.bel.size nlo), h.lt⟩
  rw [List.map_append]; exact hnew
theorem SpMem.drew {w : World} {P : Nat} {turn len : Int} {sm : Nat} {ls : List Pc} {a : Option Addr} {c : Nat} {wr : World} (h : SpMem w P turn len sm ls a c wr) : SpMem w P turn len sm ls a c wr.drew :=
  ⟨h.c0, h.c1, h.c2, h.c3, h.c4, h.f3, h.f4, h.row, h.bel.drew, h.lt⟩
set_option maxRecDepth 100000 in
set_option maxHeartbeats 2000000 in
theorem split_any (turn : Int) (l : List UInt8) (w : World) (hl : l.length ≤ 65536) : Calls Try.prog 20 #[.int .i64 turn, .string (bs l)] w (SplitPost 32 w (splitL turn l)) := by
  have hz := bs_size l
  have hd : decide (65536 < (l.length : Int)) = false := by simp; omega
  have HOF := Lib.hid (fun b W hc => of_one b 1 (bs l) W (by rw [bs_size]; unfold maxLen; omega) hc)
  have HH : Hid (fnvS 14695981039346656037 (bs l).data.toList = sumOf l) := Lib.hid (by rw [bs_list]; rfl)
  rw [HH.out] at HOF
  have HC := Lib.hid (fun W => chCount_any (l.length : Int) (by unfold B64; omega) W)
  rw [countP_nat] at HC
  have hcn : cntN l.length ≤ 656 := by unfold cntN; omega
  have hmk := fun u => made_pc u (cntN l.length) (by omega)
  generalize hpost : SplitPost 32 w (splitL turn l) = Post
  have HPost := Lib.hid hpost
  clear hpost HH
  generalize hsm : sumOf l = sm at HOF
  have HSM := Lib.hid hsm
  clear hsm
  go_enter Try.func20, Try.ntmps20
  go_wp2_with fail
  refine (HOF.out _ _ (by simp)).mono ?_
  rintro r w1 ⟨rfl, rfl⟩
  go_wp2_with fail
  refine (HC.out _).mono ?_
  rintro r w2 ⟨rfl, rfl⟩
  have HM : Hid (SpMem w (w.heap.size + 1) turn (l.length : Int) sm (splitK turn l 0) (some ⟨w.heap.size + 1 + 1, 0, none⟩) (cntN l.length) (((w.alloc (.cells #[.string (bs l)] 9)).alloc (.cells #[.int .i64 turn, .int .i64 (l.length : Int), .int .u64 (sm : Int), .int .i64 0, .string ⟨#[]⟩] 32)).alloc (.cells (madeCells #[.int .i64 0, .int .i64 0, .int .u64 0, .int .i64 0, .string ⟨#[]⟩] (cntN l.length * 5)) 32))) := by
    have hz1 : (w.alloc (.cells #[.string (bs l)] 9)).heap.size = w.heap.size + 1 := by simp
    have hb1 : Below w.heap.size w (w.alloc (.cells #[.string (bs l)] 9)) := bel_alloc (Below.refl _ _) _
    generalize w.alloc (.cells #[.string (bs l)] 9) = W1 at hz1 hb1 ⊢
    have hz2 : (W1.alloc (.cells #[.int .i64 turn, .int .i64 (l.length : Int), .int .u64 (sm : Int), .int .i64 0, .string ⟨#[]⟩] 32)).heap.size = w.heap.size + 1 + 1 := by simp [hz1]
    have hb2 : Below w.heap.size w (W1.alloc (.cells #[.int .i64 turn, .int .i64 (l.length : Int), .int .u64 (sm : Int), .int .i64 0, .string ⟨#[]⟩] 32)) := bel_alloc hb1 _
    have hc : ∀ j v, (#[.int .i64 turn, .int .i64 (l.length : Int), .int .u64 (sm : Int), .int .i64 0, .string ⟨#[]⟩] : Array Value)[j]? = some v → (W1.alloc (.cells #[.int .i64 turn, .int .i64 (l.length : Int), .int .u64 (sm : Int), .int .i64 0, .string ⟨#[]⟩] 32)).cell? ⟨w.heap.size + 1, j, none⟩ = some v := fun j v hv => by rw [cell_new' _ _ hz1]; exact hv
    have hf : ∀ j, (W1.alloc (.cells #[.int .i64 turn, .int .i64 (l.length : Int), .int .u64 (sm : Int), .int .i64 0, .string ⟨#[]⟩] 32)).frozen? ⟨w.heap.size + 1, j, none⟩ = false := fun j => by rw [← hz1]; exact frozen_new _ _ _ _
    generalize W1.alloc (.cells #[.int .i64 turn, .int .i64 (l.length : Int), .int .u64 (sm : Int), .int .i64 0, .string ⟨#[]⟩] 32) = W2 at hz2 hb2 hc hf ⊢
    have hlt : w.heap.size + 1 < W2.heap.size := by omega
    refine Lib.hid ⟨alloc_cell (hc 0 _ rfl) _, alloc_cell (hc 1 _ rfl) _, alloc_cell (hc 2 _ rfl) _, ⟨_, alloc_cell (hc 3 _ rfl) _⟩, ⟨_, alloc_cell (hc 4 _ rfl) _⟩, (frozen_old _ _ _ hlt).trans (hf 3), (frozen_old _ _ _ hlt).trans (hf 4), ⟨?_, fun x hx => by cases hx; simp⟩, bel_alloc hb2 _, by omega⟩
    rw [← hz2]
    exact World.ownsRow_made W2 _ _ (Nat.zero_le _) (by unfold maxLen; omega) (size_madeCells _ _)
  go_wp2
  generalize w.heap.size + 1 + 1 = R at HM ⊢
  generalize w.heap.size + 1 = P at HM ⊢
  generalize madeCells #[.int .i64 0, .int .i64 0, .int .u64 0, .int .i64 0, .string ⟨#[]⟩] (cntN l.length * 5) = Z at HM hmk ⊢
  go_loopw [1, 6] (fun sv lv wr => ∃ (k : Nat) (a : Option Addr) (c : Nat), k ≤ cntN l.length ∧ sv = .string (bs (l.drop (100 * k))) ∧ lv = .slice a k c ∧ Hid (SpMem w P turn (l.length : Int) sm (splitK turn l k) a c wr)) (fun _ lv _ => match lv with | .slice _ k _ => 1000 - k | _ => 0)
  case atStart => exact ⟨0, _, _, Nat.zero_le _, by simp, rfl, HM⟩
  case round =>
    obtain ⟨k, a, c, hk, rfl, rfl, HR⟩ := hrel
    have hzd := bs_size (l.drop (100 * k))
    have hdl : (l.drop (100 * k)).length = l.length - 100 * k := by simp
    by_cases hlt : 100 * k < l.length
    · have hk2 : k + 1 ≤ cntN l.length := by unfold cntN; omega
      have HK2 := Lib.hid hk2
      have HN := Lib.hid (splitK_succ turn l k)
      have HLN := Lib.hid (splitK_len turn l k)
      generalize splitK turn l k = ls at HR HN HLN
      have HPA := Lib.hid (show pcAt turn l k = ⟨turn, (l.length : Int), sumOf l, (k : Int), (l.drop (100 * k)).take 100⟩ from rfl)
      have HDD := Lib.hid (show (l.drop (100 * k)).drop 100 = l.drop (100 * (k + 1)) by rw [List.drop_drop]; congr 1)
      generalize l.drop (100 * k) = D at hzd hdl HPA HDD ⊢
      have HDL := Lib.hid hdl
      have hDl : D.length ≤ 65536 := by omega
      have hD0 : 0 < D.length := by omega
      clear hdl
      by_cases h100 : 100 < D.length
      · have hd1 : decide ((0 : Int) < (D.length : Int)) = true := by simp; omega
        have hi1 : (100 : Int) < (D.length : Int) := by omega
        have HTT := Lib.hid (show D.take 100 = D.take 100 from rfl)
        have s1 : (bs D).extract 0 100 = bs (D.take 100) := by rw [extract_take, bs_list]
        have s2 : (bs D).extract 100 D.length = bs (l.drop (100 * (k + 1))) := by rw [← hzd, extract_drop, bs_list, HDD.out]
        go_upto_region 7 with (fail)
        obtain ⟨v3, c3⟩ := HR.out.c3
        obtain ⟨v4, c4⟩ := HR.out.c4
        have f3 := HR.out.f3
        have f4 := HR.out.f4
        have hPl := block_lt_of_cell c3
        simp only at hPl
        have HS3 := Lib.hid (HR.out.set (k : Int) (bs (D.take 100)))
        clear HR HM
        go_region
        all_goals
          have HS4 : Hid (SpMem w P turn (l.length : Int) sm ls a c ((wr.setCell ⟨P, 3, none⟩ (.int .i64 (k : Int))).setCell ⟨P, 4, none⟩ (.string (bs (D.take 100)))).drew ∧ ((wr.setCell ⟨P, 3, none⟩ (.int .i64 (k : Int))).setCell ⟨P, 4, none⟩ (.string (bs (D.take 100)))).drew.cell? ⟨P, 3, none⟩ = some (.int .i64 (k : Int)) ∧ ((wr.setCell ⟨P, 3, none⟩ (.int .i64 (k : Int))).setCell ⟨P, 4, none⟩ (.string (bs (D.take 100)))).drew.cell? ⟨P, 4, none⟩ = some (.string (bs (D.take 100)))) := Lib.hid ⟨HS3.out.1.drew, HS3.out.2⟩
          clear c3 c4 f3 f4 hPl HS3
          go_upto_region 8 with (fail)
          generalize ((wr.setCell ⟨P, 3, none⟩ (.int .i64 (k : Int))).setCell ⟨P, 4, none⟩ (.string (bs (D.take 100)))).drew = W4 at HS4 ⊢
          have c0 := HS4.out.1.c0
          have c1 := HS4.out.1.c1
          have c2 := HS4.out.1.c2
          have c3 := HS4.out.2.1
          have c4 := HS4.out.2.2
          have hPl := block_lt_of_cell c0
          simp only at hPl
          obtain ⟨a', c', w', hrun, hmem⟩ := HS4.out.1.step (k : Int) (D.take 100) (by rw [HLN.out]; omega) k HLN.out
          have HRUN := Lib.hid hrun
          have HMEM := Lib.hid hmem
          clear hrun hmem HS4
          go_wp2_with (at_builtin; refine wpList_append_run _ rfl (.tmp 35) (.tmp 37) 55 55 rfl _ _ rfl rfl (.slice a' (k + 1) c') w' HRUN.out ?_)
          go_roundw
          case rel => exact ⟨k + 1, a', c', HK2.out, rfl, rfl, Lib.hid (by rw [HN.out, HPA.out, HSM.out, HTT.out]; exact HMEM.out)⟩
          case measure => show 1000 - (k + 1) < 1000 - k; have := HK2.out; omega
      · have hd1 : decide ((0 : Int) < (D.length : Int)) = true := by simp; omega
        have hi1 : ¬ (100 : Int) < (D.length : Int) := by omega
        have hi2 : decide ((100 : Int) < (D.length : Int)) = false := by simp; omega
        have HS5 := Lib.hid (show bs (l.drop (100 * (k + 1))) = ByteArray.empty by rw [← HDD.out, List.drop_of_length_le (by omega)]; rfl)
        have HTT := Lib.hid (show D.take 100 = D from List.take_of_length_le (by omega))
        have s1 : (bs D).extract 0 D.length = bs D := by rw [extract_take, bs_list, List.take_length]
        have s2 : (bs D).extract D.length D.length = bs (l.drop (100 * (k + 1))) := by rw [← HDD.out, ← hzd, extract_drop, bs_list, hzd, List.drop_length, List.drop_of_length_le (by omega)]
        go_upto_region 7 with (fail)
        obtain ⟨v3, c3⟩ := HR.out.c3
        obtain ⟨v4, c4⟩ := HR.out.c4
        have f3 := HR.out.f3
        have f4 := HR.out.f4
        have hPl := block_lt_of_cell c3
        simp only at hPl
        have HS3 := Lib.hid (HR.out.set (k : Int) (bs D))
        clear HR HM
        go_region
        all_goals
          have HS4 : Hid (SpMem w P turn (l.length : Int) sm ls a c ((wr.setCell ⟨P, 3, none⟩ (.int .i64 (k : Int))).setCell ⟨P, 4, none⟩ (.string (bs D))).drew ∧ ((wr.setCell ⟨P, 3, none⟩ (.int .i64 (k : Int))).setCell ⟨P, 4, none⟩ (.string (bs D))).drew.cell? ⟨P, 3, none⟩ = some (.int .i64 (k : Int)) ∧ ((wr.setCell ⟨P, 3, none⟩ (.int .i64 (k : Int))).setCell ⟨P, 4, none⟩ (.string (bs D))).drew.cell? ⟨P, 4, none⟩ = some (.string (bs D))) := Lib.hid ⟨HS3.out.1.drew, HS3.out.2⟩
          clear c3 c4 f3 f4 hPl HS3
          go_upto_region 8 with (fail)
          generalize ((wr.setCell ⟨P, 3, none⟩ (.int .i64 (k : Int))).setCell ⟨P, 4, none⟩ (.string (bs D))).drew = W4 at HS4 ⊢
          have c0 := HS4.out.1.c0
          have c1 := HS4.out.1.c1
          have c2 := HS4.out.1.c2
          have c3 := HS4.out.2.1
          have c4 := HS4.out.2.2
          have hPl := block_lt_of_cell c0
          simp only at hPl
          obtain ⟨a', c', w', hrun, hmem⟩ := HS4.out.1.step (k : Int) D (by rw [HLN.out]; omega) k HLN.out
          have HRUN := Lib.hid hrun
          have HMEM := Lib.hid hmem
          clear hrun hmem HS4
          go_wp2_with (at_builtin; refine wpList_append_run _ rfl (.tmp 35) (.tmp 37) 55 55 rfl _ _ rfl rfl (.slice a' (k + 1) c') w' HRUN.out ?_)
          go_roundw
          case rel => exact ⟨k + 1, a', c', HK2.out, by rw [HS5.out], rfl, Lib.hid (by rw [HN.out, HPA.out, HSM.out, HTT.out]; exact HMEM.out)⟩
          case measure => show 1000 - (k + 1) < 1000 - k; have := HK2.out; omega
    · have hd0 : decide ((0 : Int) < ((l.drop (100 * k)).length : Int)) = false := by simp; omega
      obtain rfl : k = cntN l.length := by unfold cntN at hk ⊢; omega
      have hE : (l.drop (100 * cntN l.length)).length = 0 := by omega
      have HLN := Lib.hid (splitK_len turn l (cntN l.length))
      clear hdl
      generalize l.drop (100 * cntN l.length) = D at hzd hd0 hE
      go_wp2
      rw [← HPost.out]
      refine ⟨a, c, by rw [show (splitL turn l).length = cntN l.length from HLN.out]; rfl, ⟨HR.out.row.1, fun x hx => ?_⟩, HR.out.bel⟩
      have := HR.out.row.2 x hx
      have := HR.out.lt
      omega
end Go.Proofs.Ythgnkkpmnfjohaa
