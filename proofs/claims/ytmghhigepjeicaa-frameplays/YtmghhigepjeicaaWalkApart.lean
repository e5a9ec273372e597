/-
  The walk of FrameApart.
-/
import Derived.Test.YtmghhigepjeicaaAwake6
import Derived.Test.YtmghhigepjeicaaNums
namespace Go.Proofs.Ytmghhigepjeicaa
open Go.RowKit
set_option linter.unusedVariables false

/-- A list of the law's own, of which the first k may have been turned. -/
def ArgRow (w : World) (a : Option Addr) (k : Nat) (ns : List Int) : Prop :=
  0 < ns.length → ∃ R, a = some ⟨R, 0, none⟩ ∧ (∀ j (h : j < ns.length), k ≤ j → w.cell? ⟨R, j, none⟩ = some (.int .i64 ns[j])) ∧ (∀ j, w.frozen? ⟨R, j, none⟩ = false) ∧ R < w.heap.size
theorem ArgRow.touch {S : Nat → Prop} {w w' : World} {a : Option Addr} {k : Nat} {ns : List Int} (h : ArgRow w a k ns) (ht : Touch S w w') (hs : ∀ x, a = some x → ¬ S x.block) : ArgRow w' a k ns := by
  intro h0
  obtain ⟨R, rfl, h1, h2, h3⟩ := h h0
  have hR : ¬ S R := hs ⟨R, 0, none⟩ rfl
  exact ⟨R, rfl, fun j hj hk => (ht.cell (p := ⟨R, j, none⟩) h3 hR).trans (h1 j hj hk), fun j => (ht.frozen (p := ⟨R, j, none⟩) h3 hR).trans (h2 j), Nat.lt_of_lt_of_le h3 ht.size⟩
theorem ArgRow.next {w : World} {R k : Nat} {ns : List Int} (h : ArgRow w (some ⟨R, 0, none⟩) k ns) (u : Value) : ArgRow (w.setCell ⟨R, k, none⟩ u) (some ⟨R, 0, none⟩) (k + 1) ns := by
  intro h0
  obtain ⟨R', e, h1, h2, h3⟩ := h h0
  cases e
  exact ⟨R, rfl, fun j hj hk => (World.cell?_setCell_other _ _ _ _ (by simp)).trans (h1 j hj (by omega)), fun j => by simpa using h2 j, by simpa using h3⟩
theorem arg_new {w w' : World} {a : Option Addr} {n c : Nat} {l : List Int} (h : NewInts w a n c l w') : ArgRow w' a 0 l := by
  obtain ⟨h1, rfl, -, -⟩ := h
  intro h0
  have hr := own_ints h1 h0
  rcases h1.2 with ⟨hv, e⟩ | ⟨g, cap, cur, hv, -, hg, -⟩
  · omega
  · cases hv
    obtain ⟨b, off, e, hc⟩ := hr
    cases e
    exact ⟨g, rfl, fun j hj _ => by have := hc j hj; rwa [Nat.zero_add] at this, fun j => by simp [World.frozen?, hg], (Array.getElem?_eq_some_iff.1 hg).1⟩
/-- The law's list, and two frames that have nothing to do with each other. -/
def ApartAt (w : World) (a : Option Addr) (bf sf cf bg sg cg : Nat) (k : Nat) (ns l : List Int) (wr : World) : Prop :=
  ArgRow wr a k ns ∧ (∃ v, FrameAt wr bf sf cf 1 l v ∧ v.length = 16 ∧ ∀ j, k ≤ j → v.getD j 0 = (localsV 16 ns).getD j 0) ∧ FrameAt wr bg sg cg 2 [] (localsV 16 ns) ∧ Below w.heap.size w wr ∧
    (∀ x, a = some x → w.heap.size ≤ x.block ∧ x.block ≠ bf ∧ x.block ≠ sf ∧ x.block ≠ cf ∧ x.block ≠ bg ∧ x.block ≠ sg ∧ x.block ≠ cg) ∧
    (w.heap.size ≤ bf ∧ w.heap.size ≤ sf ∧ w.heap.size ≤ cf) ∧ (bg ≠ sf ∧ bg ≠ cf ∧ sg ≠ sf ∧ sg ≠ cf ∧ cg ≠ sf ∧ cg ≠ cf)
theorem ApartAt.keep {w wr w' : World} {a : Option Addr} {bf sf cf bg sg cg k : Nat} {ns l : List Int} (h : ApartAt w a bf sf cf bg sg cg k ns l wr) (hb : Below wr.heap.size wr w') : ApartAt w a bf sf cf bg sg cg k ns l w' := by
  obtain ⟨h1, ⟨v, h2, h2'⟩, h3, h4, h5⟩ := h
  exact ⟨h1.touch (touch_of_below (S := fun _ => False) hb) (fun _ _ => id), ⟨v, h2.below hb, h2'⟩, h3.below hb, h4.trans (hb.mono h4.size), h5⟩
/-- f's stack was called. -/
theorem ApartAt.stack {w wr w' : World} {a : Option Addr} {bf sf cf bg sg cg k : Nat} {ns l l' : List Int} (h : ApartAt w a bf sf cf bg sg cg k ns l wr) (ht : StackTo wr sf l' w') : ApartAt w a bf sf cf bg sg cg k ns l' w' := by
  obtain ⟨h1, ⟨v, h2, h2'⟩, h3, h4, h5, h6, h7⟩ := h
  refine ⟨h1.touch ht.2 (fun x hx e => (h5 x hx).2.2.1 e), ⟨v, h2.stack ht, h2'⟩, h3.touch ht.2 h7.1 h7.2.2.1 h7.2.2.2.2.1, h4.trans (ht.2.below h4.size (by rintro j hj rfl; omega)), h5, h6, h7⟩
/-- The list was turned at k. -/
theorem ApartAt.turn {w wr : World} {R bf sf cf bg sg cg k : Nat} {ns l : List Int} (h : ApartAt w (some ⟨R, 0, none⟩) bf sf cf bg sg cg k ns l wr) (u : Value) : ApartAt w (some ⟨R, 0, none⟩) bf sf cf bg sg cg (k + 1) ns l (wr.setCell ⟨R, k, none⟩ u) ∧ ∃ v, FrameAt (wr.setCell ⟨R, k, none⟩ u) bf sf cf 1 l v ∧ v.length = 16 ∧ ∀ j, k ≤ j → v.getD j 0 = (localsV 16 ns).getD j 0 := by
  obtain ⟨h1, ⟨v, h2, h2', h2''⟩, h3, h4, h5, h6, h7⟩ := h
  have hx := h5 ⟨R, 0, none⟩ rfl
  simp only at hx
  have ht : Touch (fun j => j = R) wr (wr.setCell ⟨R, k, none⟩ u) := (Touch.refl (fun j => j = R) wr).setCell (p := ⟨R, k, none⟩) (fun _ => rfl) _
  have hf : FrameAt (wr.setCell ⟨R, k, none⟩ u) bf sf cf 1 l v := h2.touch ht (fun e => hx.2.1 e.symm) (fun e => hx.2.2.1 e.symm) (fun e => hx.2.2.2.1 e.symm)
  exact ⟨⟨h1.next u, ⟨v, hf, h2', fun j hj => h2'' j (by omega)⟩, h3.touch ht (fun e => hx.2.2.2.2.1 e.symm) (fun e => hx.2.2.2.2.2.1 e.symm) (fun e => hx.2.2.2.2.2.2 e.symm), h4.setCell hx.1 _, h5, h6, h7⟩, v, hf, h2', h2''⟩
/-- f's locals were turned at k. -/
theorem ApartAt.local {w wr w' : World} {a : Option Addr} {bf sf cf bg sg cg k : Nat} {ns l v : List Int} {x : Int} (h : ApartAt w a bf sf cf bg sg cg (k + 1) ns l wr) (hv : v.length = 16) (hv' : ∀ j, k ≤ j → v.getD j 0 = (localsV 16 ns).getD j 0) (ht : FrameTo wr bf sf cf 1 l (v.set k x) w') : ApartAt w a bf sf cf bg sg cg (k + 1) ns l w' := by
  obtain ⟨h1, -, h3, h4, h5, h6, h7⟩ := h
  refine ⟨h1.touch ht.2 (fun y hy e => by rcases e with e | e; exact (h5 y hy).2.2.1 e; exact (h5 y hy).2.2.2.1 e), ⟨_, ht.1, by simpa using hv, fun j hj => ?_⟩, h3.touch ht.2 (by rintro (e | e); exact h7.1 e; exact h7.2.1 e) (by rintro (e | e); exact h7.2.2.1 e; exact h7.2.2.2.1 e) (by rintro (e | e); exact h7.2.2.2.2.1 e; exact h7.2.2.2.2.2 e), h4.trans (ht.2.below h4.size (by rintro j hj (rfl | rfl) <;> omega)), h5, h6, h7⟩
  rw [← hv' j (by omega)]
  simp only [List.getD, List.getElem?_set_ne (show k ≠ j by omega)]
theorem local16 (ns : List Int) (k : Nat) (h1 : k < ns.length) (h2 : k < 16) : (localsV 16 ns).getD k 0 = ns[k] := by
  rw [localsV_get 16 ns k h2]
  simp [List.getD, List.getElem?_eq_getElem h1]
theorem apart_new {w w1 w2 w3 : World} {a : Option Addr} {c : Nat} {ns : List Int} {bf sf cf bg sg cg : Nat} (hN : NewInts w a ns.length c ns w1) (hb : Below w.heap.size w w1)
    (hf : FrameAt w2 bf sf cf 1 [] (localsV 16 ns)) (hf' : w1.heap.size ≤ bf ∧ w1.heap.size ≤ sf ∧ w1.heap.size ≤ cf) (hb2 : Below w1.heap.size w1 w2) (hg : FrameAt w3 bg sg cg 2 [] (localsV 16 ns)) (hg' : w2.heap.size ≤ bg ∧ w2.heap.size ≤ sg ∧ w2.heap.size ≤ cg) (hb3 : Below w2.heap.size w2 w3)
    (hR : ∀ x, a = some x → x.block < w1.heap.size) : ApartAt w a bf sf cf bg sg cg 0 ns [] w3 := by
  have hlt := hf.lt
  have hz2 := hb2.size
  have hz := hb.size
  refine ⟨((arg_new hN).touch (touch_of_below (S := fun _ => False) hb2) (fun _ _ => id)).touch (touch_of_below (S := fun _ => False) hb3) (fun _ _ => id), ⟨_, hf.below hb3, by rw [localsV_len]; rfl, fun j _ => rfl⟩, hg, (hb.trans (hb2.mono hz)).trans (hb3.mono (by omega)), fun x hx => ?_, by omega, by omega⟩
  have h1 := hN.2.2.1 x hx
  have h2 := hR x hx
  omega
theorem new_lt {w w1 : World} {a : Option Addr} {n c : Nat} {l : List Int} (h : NewInts w a n c l w1) : ∀ x, a = some x → x.block < w1.heap.size := by
  intro x hx
  subst hx
  exact (h.1.lt x.block (by simp [Value.ownBlock])).2
theorem push_two (b : Nat) (w w0 : World) (hw : w0 = w.alloc (.cells #[.int .i64 1, .int .i64 2] 2)) (h : StackAt w b []) :
    Calls Try.prog 42 #[.pointer (some ⟨b, 0, none⟩), .slice (some ⟨w.heap.size, 0, none⟩) 2 2] w0 fun r w' => r = .returned (.bool true) ∧ StackTo w0 b [1, 2] w' := by
  subst hw
  exact push_some b [] [1, 2] _ 2 _ (h.below ((Below.refl _ _).alloc (Nat.le_refl _) _)) (by decide) (by decide) (fresh_ints .i64 w [1, 2] _ _ rfl) (by intro x hx; simp at hx; unfold bound64; omega)
theorem push_nine (b : Nat) (w w0 : World) (hw : w0 = w.alloc (.cells #[.int .i64 9] 2)) (h : StackAt w b [1]) :
    Calls Try.prog 42 #[.pointer (some ⟨b, 0, none⟩), .slice (some ⟨w.heap.size, 0, none⟩) 1 1] w0 fun r w' => r = .returned (.bool true) ∧ StackTo w0 b [1, 9] w' := by
  subst hw
  exact push_some b [1] [9] _ 1 _ (h.below ((Below.refl _ _).alloc (Nat.le_refl _) _)) (by decide) (by decide) (fresh_ints .i64 w [9] _ _ rfl) (by intro x hx; simp at hx; unfold bound64; omega)
theorem take_one (b : Nat) (w : World) (h : StackAt w b [1, 2]) : Calls Try.prog 43 #[.pointer (some ⟨b, 0, none⟩), .int .i64 1] w (TakePost w b [1] [2]) := take_some b [1] [2] w h
theorem pop_nine (b : Nat) (w : World) (h : StackAt w b [1, 9]) : Calls Try.prog 44 #[.pointer (some ⟨b, 0, none⟩)] w fun r w' => r = .returned (.int .i64 9) ∧ StackTo w b [1] w' := pop_some b [1] 9 w h
set_option maxRecDepth 100000 in
set_option maxHeartbeats 8000000 in
theorem frameApart_walk (w : World) (a : Option Addr) (len cap : Nat) (ns : List Int) (h : NumArg .i64 w a len cap ns) (x : Int) :
    Calls Try.prog 10 #[.slice a len cap, .int .i64 x] w fun e w' => e = .returned (.bool true) ∧ Below w.heap.size w w' := by
  obtain ⟨rfl, hl, hlc, hcm, hr, hn0, hwf⟩ := h
  unfold maxLen at hl hcm
  have HR := Lib.hid hr
  have HF := Lib.hid (show ∀ n ∈ ns, -9223372036854775808 ≤ n ∧ n ≤ 9223372036854775807 from fun n hn => wf_i64 (hwf n hn))
  have HN0 := Lib.hid hn0
  clear hr hwf hn0
  go_enter Try.func10, Try.ntmps10
  go_wp2_with fail
  refine (awake6_any w).mono ?_
  rintro r w1 ⟨rfl, hb1⟩
  have HB1 := Lib.hid hb1
  clear hb1
  have hw1 : (w1.alloc (.cells #[] 2)).ownsRow 0 2 1 (.slice (some ⟨w1.heap.size, 0, none⟩) 0 0) 0 (intCells []) := World.ownsRow_made w1 #[] 0 (Nat.zero_le _) (by decide) rfl
  have HAP := Lib.hid (show ∀ (m : List Int) (N : Nat), N = m.length → m.length ≤ 10 → IntRow .i64 w a m → (a = none → m = []) → ∃ a' c' w2, (Builtin.append_ #[23, 23] 23 #[.slice (some ⟨w1.heap.size, 0, none⟩) 0 0, .slice a m.length cap]).run Try.prog (w1.alloc (.cells #[] 2)) = .ok (.slice a' N c') w2 ∧ NewInts w a' N c' m w2 from fun m N hNm hm hr hn => by
    subst hNm
    have hb : Below w.heap.size w (w1.alloc (.cells #[] 2)) := HB1.out.alloc HB1.out.size _
    obtain ⟨v', w', hrun, hown, hg, hf⟩ := int_append hw1 a cap (hr.below hb) hn (by omega)
    obtain ⟨a', c', rfl⟩ := own_slice1 hown
    rw [Nat.zero_add] at hown hrun hf
    refine ⟨a', c', w', hrun, by simpa using hown, rfl, fun y hy => ?_, hb.trans ((touch_grown hg).below hb.size (fun k hk h => ?_))⟩
    · subst hy
      have := HB1.out.size
      rcases hf y.block (by simp [Value.ownBlock]) with h | h
      · simp [Value.ownBlock] at h; omega
      · simp at h; omega
    · simp [Value.ownBlock] at h; have := HB1.out.size; omega)
  clear hw1
  by_cases h10 : ns.length ≤ 10
  case' pos =>
    obtain ⟨N, hN⟩ : ∃ N, N = ns.length := ⟨_, rfl⟩
    obtain ⟨a', c', w2, hrun, hnew⟩ := HAP.out ns N hN h10 HR.out HN0.out
    have HRUN := Lib.hid hrun
    have HNEW := Lib.hid hnew
    have HLN := Lib.hid hN
    have HFm := Lib.hid HF.out
    have hN10 : N ≤ 10 := by omega
    clear hrun hnew HAP hN
    go_wp2_with (at_builtin; refine wpList_append_run _ rfl (.tmp 18) (.tmp 19) 23 23 rfl _ _ rfl rfl (.slice a' N c') w2 HRUN.out ?_)
    clear HRUN HR HN0 HF h10
    obtain ⟨m, hm⟩ : ∃ m, m = ns := ⟨_, rfl⟩
    rw [← hm] at HNEW HLN HFm
    clear hm
  case' neg =>
    obtain ⟨N, hN⟩ : ∃ N, N = (ns.take 10).length := ⟨_, rfl⟩
    have hl10 : (ns.take 10).length = 10 := by simp; omega
    obtain ⟨b, off, rfl, -⟩ := HR.out.lt (by omega)
    obtain ⟨a', c', w2, hrun, hnew⟩ := HAP.out (ns.take 10) N hN (by omega) (HR.out.take 10) (fun h => by cases h)
    rw [hl10] at hrun
    have HRUN := Lib.hid hrun
    have HNEW := Lib.hid hnew
    have HLN := Lib.hid hN
    have HFm := Lib.hid (show ∀ n ∈ ns.take 10, -9223372036854775808 ≤ n ∧ n ≤ 9223372036854775807 from fun n hn => HF.out n (List.mem_of_mem_take hn))
    have hN10 : N ≤ 10 := by omega
    clear hrun hnew HAP hN hl10
    go_wp2_with (at_builtin; refine wpList_append_run _ rfl (.tmp 18) (.tmp 19) 23 23 rfl _ _ rfl rfl (.slice a' N c') w2 HRUN.out ?_)
    clear HRUN HR HN0 HF h10
    generalize ns.take 10 = m at HNEW HLN HFm
  all_goals
    have hrow := HNEW.out.row
    have HMK1 := Lib.hid (show Calls Try.prog 24 #[.int .i64 1, .int .i64 16, .slice a' N c'] w2 (MakeFr w2 1 16 m) from by rw [HLN.out]; exact make_fr 1 16 m a' c' w2 (by have := HLN.out; unfold maxLen; omega) hrow)
    clear hrow
    refine HMK1.out.mono ?_
    rintro r w3 ⟨bf, sf, cf, rfl, hf, hf1, hf2, hf3, hb3⟩
    have HMK2 := Lib.hid (show Calls Try.prog 24 #[.int .i64 2, .int .i64 16, .slice a' N c'] w3 (MakeFr w3 2 16 m) from by rw [HLN.out]; exact make_fr 2 16 m a' c' w3 (by have := HLN.out; unfold maxLen; omega) (HNEW.out.row.below hb3))
    have HF3 := Lib.hid (And.intro hf (And.intro (And.intro hf1 (And.intro hf2 hf3)) hb3))
    clear hf hf1 hf2 hf3 hb3 HMK1
    go_wp2_with fail
    refine HMK2.out.mono ?_
    rintro r w4 ⟨bg, sg, cg, rfl, hg, hg1, hg2, hg3, hb4⟩
    have HA0 := Lib.hid (show ApartAt w a' bf sf cf bg sg cg 0 m [] w4 from apart_new (c := c') (by have := HNEW.out; rwa [HLN.out] at this) HNEW.out.2.2.2 HF3.out.1 HF3.out.2.1 HF3.out.2.2 hg ⟨hg1, hg2, hg3⟩ hb4 (new_lt HNEW.out))
    clear hg hg1 hg2 hg3 hb4 HMK2 HF3 HNEW
    obtain ⟨v0, hv0, -⟩ := HA0.out.2.1
    have hp0 := hv0.2.1
    have HST := Lib.hid hv0.1
    clear hv0
    go_wp2_with fail
    refine (push_two sf w4 _ rfl HST.out).mono ?_
    rintro r w5 ⟨rfl, hto⟩
    have HA1 := Lib.hid ((HA0.out.keep ((Below.refl _ _).alloc (Nat.le_refl _) _)).stack hto)
    clear hto HA0 HST hp0
    go_wp2
    go_loopw [33] (fun i wr => ∃ k : Nat, k ≤ N ∧ i = .int .i64 k ∧ Hid (ApartAt w a' bf sf cf bg sg cg k m [1, 2] wr)) (fun i _ => N - (intOf i).toNat)
    case atStart => exact ⟨0, by omega, rfl, HA1⟩
    case round =>
      obtain ⟨k, hk, rfl, HA⟩ := hrel
      by_cases hlt : k < N
      · have hkm : k < m.length := by have := HLN.out; omega
        obtain ⟨R, hR, hcell, hfz, hRl⟩ := HA.out.1 (by omega)
        have HC := Lib.hid (hcell k hkm (Nat.le_refl _))
        have hfk := hfz k
        have HM := Lib.hid (HFm.out m[k] (List.getElem_mem hkm))
        have HLO := Lib.hid (local16 m k hkm (by omega))
        clear hcell hfz
        subst hR
        have HTN := Lib.hid (fun u => HA.out.turn u)
        generalize m[k] = y at HC HM HLO
        have hc := HC.out
        have hc' : wr.cell? ⟨R, 0 + k, none⟩ = some (.int .i64 y) := by rw [Nat.zero_add]; exact hc
        go_wp2_with fail
        generalize hU : (wr.setCell ⟨R, k, none⟩ _) = W2
        obtain ⟨hA2, v, hv, hv1, hv2⟩ := (show ApartAt w (some ⟨R, 0, none⟩) bf sf cf bg sg cg (k + 1) m [1, 2] W2 ∧ ∃ v, FrameAt W2 bf sf cf 1 [1, 2] v ∧ v.length = 16 ∧ ∀ j, k ≤ j → v.getD j 0 = (localsV 16 m).getD j 0 from hU ▸ HTN.out _)
        clear hU hc hc' hfk hRl
        have HL1 := Lib.hid (local_yes bf sf cf 1 [1, 2] v k W2 hv (by omega))
        rw [hv2 k (Nat.le_refl _), HLO.out] at HL1
        have HA2 := Lib.hid hA2
        have HV := Lib.hid (And.intro hv (And.intro hv1 hv2))
        clear hA2 hv hv1 hv2
        refine HL1.out.mono ?_
        rintro r w6 ⟨rfl, rfl⟩
        go_wp2_with fail
        refine (setLocal_yes bf sf cf 1 [1, 2] v k x W2 HV.out.1 (by have := HV.out.2.1; omega)).mono ?_
        rintro r w6 ⟨rfl, hto⟩
        have HA3 := Lib.hid (HA2.out.local HV.out.2.1 HV.out.2.2 hto)
        clear hto HA2 HV
        have HL2 := Lib.hid (local_yes bg sg cg 2 [] (localsV 16 m) k w6 HA3.out.2.2.1 (by rw [localsV_len]; show k < 16; omega))
        rw [HLO.out] at HL2
        go_wp2_with fail
        refine HL2.out.mono ?_
        rintro r w7 ⟨rfl, rfl⟩
        go_wp2
        go_roundw
        case rel => exact ⟨k + 1, by omega, by go_num, HA3⟩
        case measure => simp [intOf]; omega
      · obtain ⟨v, hv, -⟩ := HA.out.2.1
        have hp0 := hv.2.1
        have HV := Lib.hid hv
        clear hv
        go_wp2_with fail
        refine (take_one sf wr HV.out.1).mono ?_
        rintro r w6 ⟨at1, ct1, rfl, hr1, ha1, hto⟩
        have HA6 := Lib.hid (HA.out.stack hto)
        obtain ⟨rb, off, rfl, hcell⟩ := hr1 (by decide)
        have HC6 := Lib.hid (hcell 0 (by decide))
        have HN6 := Lib.hid (ha1 _ rfl)
        have hsl := Lib.hid HV.out.1.lt
        clear hto hr1 ha1 hcell hp0
        obtain ⟨v6, hv6, -⟩ := HA6.out.2.1
        have hp6 := hv6.2.1
        have HV6 := Lib.hid hv6
        clear hv6
        go_wp2_with fail
        refine (push_nine sf w6 _ rfl HV6.out.1).mono ?_
        rintro r w7 ⟨rfl, hto⟩
        have HA7 := Lib.hid ((HA6.out.keep ((Below.refl _ _).alloc (Nat.le_refl _) _)).stack hto)
        have hc7 : w7.cell? ⟨rb, off, none⟩ = some (.int .i64 2) := (hto.2.cell (p := ⟨rb, off, none⟩) (by have h6 : rb < w6.heap.size := block_lt_of_cell HC6.out; show rb < _; simp; omega) (by show ¬ rb = sf; have h1 : wr.heap.size ≤ rb := HN6.out; have h2 := hsl.out; omega)).trans ((((Below.refl _ w6).alloc (Nat.le_refl _) _).cell (p := ⟨rb, off, none⟩) (block_lt_of_cell HC6.out)).trans HC6.out)
        clear hto hp6
        have hg0 := HA7.out.2.2.1.2.1
        go_wp2_with fail
        refine (len_stack sg [] w7 HA7.out.2.2.1.1).mono ?_
        rintro r w8 ⟨rfl, rfl⟩
        obtain ⟨v7, hv7, -⟩ := HA7.out.2.1
        have hp7 := hv7.2.1
        have HV7 := Lib.hid hv7
        clear hv7
        go_wp2_with fail
        refine (pop_nine sf w7 HV7.out.1).mono ?_
        rintro r w8 ⟨rfl, hto⟩
        have HA8 := Lib.hid (HA7.out.stack hto)
        clear hto hp7 hg0 hc7
        obtain ⟨v8, hv8, -⟩ := HA8.out.2.1
        have q1 := hv8.2.2.1
        have q2 := HA8.out.2.2.1.2.2.1
        clear hv8
        go_wp2
        go_ret
        exact ⟨rfl, HA8.out.2.2.2.1⟩
end Go.Proofs.Ytmghhigepjeicaa
