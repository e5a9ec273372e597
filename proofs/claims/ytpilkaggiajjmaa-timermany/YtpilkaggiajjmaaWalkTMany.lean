/-
  The walk of the law TimerMany.
-/
import Derived.Test.YtpilkaggiajjmaaTim9
import Derived.Test.YtpilkaggiajjmaaOrdTidy
import Derived.Test.YtpilkaggiajjmaaNums
namespace Go.Proofs.Ytpilkaggiajjmaa
open Go.RowKit
set_option linter.unusedVariables false

set_option maxRecDepth 100000 in
set_option maxHeartbeats 2000000 in
theorem timerMany_walk (w : World) (a0 : Option Addr) (cap : Nat) (ns : List Int) (hlm : ns.length ≤ 9223372036854775807) (hrow : IntRow .i64 w a0 ns) (first : Int) :
    Calls Try.prog 8 #[.slice a0 ns.length cap, .int .i64 first] w fun e w' => e = .returned (.bool true) ∧ Below w.heap.size w w' := by
  have HAW := Lib.hid (fun W => awake14_any W)
  have HROW := Lib.hid hrow
  obtain ⟨d, hd, ed⟩ := andM first 7 7 rfl (by decide)
  obtain ⟨F, hF, hF1, hF8⟩ : ∃ F : Nat, (1 : Int) + (d : Int) = (F : Int) ∧ 1 ≤ F ∧ F ≤ 8 := ⟨1 + d, by omega, by omega, by omega⟩
  have HNW := Lib.hid (fun W => (tnew_any (F : Int) 1000 W).mono (R' := fun r w' => ∃ b, r = .returned (.tuple #[.pointer (some ⟨b, 0, none⟩), .int .i64 0]) ∧ W.heap.size ≤ b ∧ TAt w' b (F : Int) 1000 none 0 [] ∧ Below W.heap.size W w') fun r w' h => by
    rcases h with ⟨-, h⟩ | ⟨h1, -⟩
    · exact h
    · unfold mayT at h1
      simp only [Bool.and_eq_false_iff, decide_eq_false_iff_not] at h1
      omega)
  clear hrow
  go_enter Try.func8, Try.ntmps8
  go_wp2_with fail
  refine (HNW.out _).mono ?_
  rintro r w1 ⟨b, rfl, hb0, hta, hb1⟩
  have HA1 : Hid (Aw14 w b (F : Int) 1000 none 0 [] w1) := Lib.hid ⟨hta, hb0, (fun x hx => by cases hx), hb1⟩
  clear hb0 hta hb1 HNW hF ed hd
  go_wp2_with fail
  refine (HAW.out _).mono ?_
  rintro r w2 ⟨rfl, hb2⟩
  have HM2 : Hid (Mn w b F none 0 (manyL F []) [] (some ⟨w2.heap.size, 0, none⟩) 0 (w2.alloc (.cells #[] 3))) := Lib.hid (by
    have h1 := HA1.out.keep hb2
    have hbl := h1.t.lt
    have hs := h1.bel.size
    refine ⟨h1.keep (bel_alloc (Below.refl _ _) _), ?_, (fun x hx => by cases hx; simp only; exact ⟨by omega, by omega⟩), (fun x y hx => by cases hx)⟩
    exact ⟨(NewV.made 3 1 (Below.refl w2.heap.size w2) w2.heap.size rfl).1.1, fun _ _ => Nat.zero_le _⟩)
  clear hb2 HA1 HAW
  go_wp2
  generalize w2.alloc (.cells #[] 3) = W3 at HM2 ⊢
  generalize w2.heap.size = g0 at HM2 ⊢
  go_loopw [7, 8, 9] (fun v7 v8 v9 wr => ∃ (k now : Nat) (ts : List Nat) (a1 : Option Addr) (c1 : Nat) (a : Option Addr) (c : Nat), k ≤ 20 ∧ now ≤ 3 * k ∧ v7 = .int .i64 now ∧ v8 = .slice a1 k c1 ∧ v9 = .int .i64 k ∧ Hid (ts.length = k ∧ (∀ t ∈ ts, t ≤ now) ∧ ts.Pairwise (· ≤ ·) ∧ Mn w b F a c (manyL F ts) ts a1 c1 wr)) (fun _ _ v9 _ => 20 - (intOf v9).toNat)
  case atStart => exact ⟨0, 0, [], some ⟨g0, 0, none⟩, 0, none, 0, by omega, by omega, rfl, rfl, rfl, Lib.hid ⟨rfl, (fun t ht => by simp at ht), List.Pairwise.nil, HM2.out⟩⟩
  case round =>
    obtain ⟨k, now, ts, a1, c1, a, c, hk, hnow, rfl, rfl, rfl, HS⟩ := hrel
    by_cases hgo : k < ns.length ∧ k < 20
    · obtain ⟨hlt, h20⟩ := hgo
      obtain ⟨gb, off, rfl, hc⟩ := HROW.out (by omega)
      have c0 := hc k hlt
      have hgl : gb < w.heap.size := block_lt_of_cell c0
      obtain ⟨htl, htm, htp, hmn⟩ := HS.out
      have d0 : wr.cell? ⟨gb, off + k, none⟩ = some (.int .i64 ns[k]) := (hmn.aw.bel.cell (p := ⟨gb, off + k, none⟩) hgl).trans c0
      have hgr : gb < wr.heap.size := block_lt_of_cell d0
      obtain ⟨e, he, ee⟩ := andM ns[k] 3 3 rfl (by decide)
      obtain ⟨now2, hn2, hn3⟩ : ∃ now2 : Nat, (now : Int) + (e : Int) = (now2 : Int) ∧ now ≤ now2 ∧ now2 ≤ now + 3 := ⟨now + e, by omega, by omega, by omega⟩
      obtain ⟨a5, c5, w5, hrun, ho, hto, hnw⟩ := own_one i64Ty Try.underlying44 hmn.r (i64C now2) (i64_wide [now2]) (by rw [List.length_map]; omega) k (by rw [List.length_map]; exact htl) #[.int .i64 (now2 : Int)] rfl
      have ho' : OwnV 3 1 0 a5 c5 ((ts ++ [now2]).map i64C) w5 := by rw [List.map_append]; exact ho
      have HM5 := Lib.hid (hmn.app ho' hto hnw)
      have HRUN := Lib.hid hrun
      have HST := Lib.hid (start_any b k now2 F 1000 a c (manyL F ts) w5 HM5.out.aw.t (by rw [manyL_len]; omega) (by omega) (by omega))
      have HNO : Hid ((manyL F ts).find? (isN k) = none) := Lib.hid (by rw [← htl]; exact many_new F ts)
      have HTHERE : Hid (((manyL F (ts ++ [now2])).find? (isN k)).isSome = true) := Lib.hid (by rw [← htl]; exact many_there F ts now2)
      have HSN : Hid (manyL F ts ++ [⟨k, now2 + F, F, 0⟩] = manyL F (ts ++ [now2])) := Lib.hid (by rw [manyL_snoc, htl])
      have HFIN : Hid ((ts ++ [now2]).length = k + 1 ∧ (∀ t ∈ ts ++ [now2], t ≤ now2) ∧ (ts ++ [now2]).Pairwise (· ≤ ·)) := Lib.hid ⟨by simp [htl], fun t ht => by
        rcases List.mem_append.1 ht with h | h
        · have := htm t h; omega
        · simp at h; omega, by
        rw [List.pairwise_append]
        refine ⟨htp, by simp, fun x hx y hy => ?_⟩
        have := htm x hx
        simp at hy; omega⟩
      clear hmn hrun ho hto hnw ho' hc c0 htl htm htp HS
      generalize ns[k] = z at d0 ee
      have hi0 : (0 : Int) ≤ (k : Int) := by omega
      have hi1 : (k : Int) < (ns.length : Int) := by omega
      have hi2 : (k : Int) < 20 := by omega
      have hcv : (k : Int) % 4294967296 = (k : Int) := by omega
      have hcv2 : IntKind.u32.wrap (k : Int) = (k : Int) := by rw [IntKind.wrap_u32]; omega
      go_upto_region 12 with (at_builtin; refine wpList_append_run _ rfl (.tmp 48) (.tmp 50) 44 44 rfl _ _ rfl rfl (.slice a5 (k + 1) c5) w5 HRUN.out ?_)
      clear d0 ee hn2 hgr HRUN
      go_wp2_with fail
      refine HST.out.mono ?_
      intro r w6 hr
      obtain ⟨rfl, a6, c6, ht6, hf6, htc6⟩ := start_none k now2 F HNO.out hr
      rw [HSN.out] at ht6
      have HM6 := Lib.hid (HM5.out.step ht6 hf6 htc6)
      have HST2 := Lib.hid ((start_any b k now2 F 1000 a6 c6 (manyL F (ts ++ [now2])) w6 ht6 (by rw [manyL_len]; have := HFIN.out.1; omega) (by omega) (by omega)).mono (R' := fun r w' => r = .returned (.bool false) ∧ Below w6.heap.size w6 w') fun r w' h => by
        rcases h with ⟨-, h1, h2⟩ | ⟨h1, -⟩
        · exact ⟨h1, h2⟩
        · rw [HTHERE.out] at h1; cases h1)
      clear hr ht6 hf6 htc6 HST HM5
      go_wp2_with fail
      refine HST2.out.mono ?_
      rintro r w7 ⟨rfl, hb7⟩
      have HM7 := Lib.hid (HM6.out.keep hb7)
      clear hb7 HST2 HM6
      go_wp2
      go_roundw
      case rel => exact ⟨k + 1, now2, ts ++ [now2], a5, c5, a6, c6, by omega, by omega, rfl, rfl, by go_num, Lib.hid ⟨HFIN.out.1, HFIN.out.2.1, HFIN.out.2.2, HM7.out⟩⟩
      case measure => simp [intOf] <;> omega
    · have hend : ((ns.length : Int) ≤ (k : Int)) ∨ ((k : Int) < (ns.length : Int) ∧ (20 : Int) ≤ (k : Int)) := by omega
      obtain ⟨htl, htm, htp, hmn⟩ := HS.out
      have HM := Lib.hid hmn
      have hle : ∀ x ∈ manyL F ts, x.due ≤ now + F := fun x hx => by
        obtain ⟨i, hi, rfl⟩ := manyL_mem hx
        have := htm ts[i] (List.getElem_mem hi)
        simp only; omega
      have hok : ∀ x ∈ manyL F ts, x.Ok := fun x hx => by
        obtain ⟨i, hi, rfl⟩ := manyL_mem hx
        have := htm ts[i] (List.getElem_mem hi)
        exact ⟨by simp only; omega, by simp only; omega, by simp only; omega, by simp⟩
      have hok1 : ∀ x ∈ many1 F (now + F) ts, x.Ok := fun x hx => by
        obtain ⟨i, hi, rfl⟩ := many1_mem hF8 hx
        exact ⟨by simp only; omega, by simp only; omega, by simp only; omega, by simp⟩
      have hgt1 : ∀ x ∈ many1 F (now + F) ts, now + F < x.due := fun x hx => by
        obtain ⟨i, hi, rfl⟩ := many1_mem hF8 hx
        simp only; omega
      have hle1 : ∀ x ∈ many1 F (now + F) ts, x.due ≤ now + 3 * F := fun x hx => by
        obtain ⟨i, hi, rfl⟩ := many1_mem hF8 hx
        simp only; omega
      have hl1 : (many1 F (now + F) ts).length = k := by unfold many1; rw [List.length_map, manyL_len, htl]
      have hlm0 : (manyL F ts).length = k := by rw [manyL_len, htl]
      have HD1 := Lib.hid (fun W h => due_any b (now + F) 1000 F a c (manyL F ts) W h (by omega) hok (by rw [dueF_all hle]; exact sortedD_of (many_sorted F ts htp)) (by omega) (by omega))
      have HD2 := Lib.hid (fun W h => due_any b (now + F) 1000 F a c (many1 F (now + F) ts) W h (by omega) hok1 (by rw [dueF_no hgt1]; exact fun i hi => by simp at hi) (by omega) (by omega))
      have HD3 := Lib.hid (fun W h => due_any b (now + 3 * F) 1000 F a c (many1 F (now + F) ts) W h (by omega) hok1 (by rw [dueF_all hle1]; exact sortedD_of (pairwise_same (d := now + F + 2 * F) (fun x hx => by obtain ⟨i, hi, rfl⟩ := many1_mem hF8 hx; rfl))) (by omega) (by omega))
      unfold DuePost at HD1 HD2 HD3
      rw [dueF_all hle, agF_all hle] at HD1
      rw [dueF_no hgt1, agF_no hgt1] at HD2
      rw [dueF_all hle1] at HD3
      change Hid (∀ W h, Calls _ _ _ _ fun r w' => ∃ a1 c1, r = .returned (.slice a1 (manyL F ts).length c1) ∧ _ ∧ TAt w' b (F : Int) (1000 : Nat) a c (many1 F (now + F) ts) ∧ _) at HD1
      rw [hlm0] at HD1
      rw [hl1] at HD3
      have HTI := Lib.hid (fun (i : Nat) (hi : i < k) W (h : TAt W b (F : Int) 1000 a c (many1 F (now + F) ts)) => times_any b i F 1000 a c (many1 F (now + F) ts) W h (by omega))
      have HTV := Lib.hid (fun (i : Nat) (hi : i < k) => many1_times (F := F) (T := now + F) hF8 (show i < ts.length by omega))
      have HNU := Lib.hid (fun (i : Nat) (hi : i < ts.length) => many1_nums F (now + F) ts i hi)
      have HTL := Lib.hid htl
      have hs1 : ((now + F : Nat) : Int) = (now : Int) + (F : Int) := by omega
      have hs3 : ((now + 3 * F : Nat) : Int) = (now : Int) + 3 * (F : Int) := by omega
      rw [hs1] at HD1 HD2
      rw [hs3] at HD3
      have hnb : (now : Int) ≤ 60 := by omega
      have hF0 : (F : Int) ≤ 8 := by omega
      have hk20 : (k : Int) ≤ 20 := by omega
      clear HS htl htm htp hmn hle hok hok1 hgt1 hle1 hl1 hlm0 hs1 hs3 hgo
      rcases hend with hend | ⟨hend, hend2⟩
      all_goals
        go_wp2_with fail
        refine (HD1.out _ HM.out.aw.t).mono ?_
        rintro r w5 ⟨a5, c5, rfl, ho5, ht5, htc5⟩
        have HM5 := Lib.hid (HM.out.step ht5 (fun x hx => .inl (by rw [hx]; rfl)) (htc5.mono (fun _ _ e => .inr e)))
        have HR5 : Hid (VRow 1 w5 a5 (((manyL F ts).map (·.n)).map u32C)) := Lib.hid (ho5.row (num_wide _))
        clear ho5 ht5 htc5 HD1 HM
        go_wp2_with fail
        go_loopw [77] (fun v77 wx => ∃ j : Nat, j ≤ k ∧ v77 = .int .i64 j ∧ Hid (Mn w b F a c (many1 F (now + F) ts) ts a1 c1 wx ∧ VRow 1 wx a5 (((manyL F ts).map (·.n)).map u32C))) (fun v77 _ => k - (intOf v77).toNat)
        case atStart => exact ⟨0, Nat.zero_le _, rfl, Lib.hid ⟨HM5.out, HR5.out⟩⟩
        case round =>
          obtain ⟨j, hj, rfl, HJ⟩ := hrel
          by_cases hjl : j < k
          · obtain ⟨g1, o1, rfl, hg1, q1⟩ := VRow.at1 (f := u32C) (g := fun n => .int .u32 (n : Int)) (fun _ => rfl) HJ.out.2 (j := j) (by rw [List.length_map, manyL_len, HTL.out]; exact hjl)
            rw [HNU.out j (by rw [HTL.out]; exact hjl)] at q1
            have q1' : wr.cell? ⟨g1, o1 + j, none⟩ = some (.int .u32 (j : Int)) := q1
            have HTJ := Lib.hid (HTI.out j hjl wr HJ.out.1.aw.t)
            unfold TimesPost at HTJ
            rw [HTV.out j hjl] at HTJ
            have hj0 : (0 : Int) ≤ (j : Int) := by omega
            have hj1 : (j : Int) < (k : Int) := by omega
            have hcv : (j : Int) % 4294967296 = (j : Int) := by omega
            have hcv2 : IntKind.u32.wrap (j : Int) = (j : Int) := by rw [IntKind.wrap_u32]; omega
            clear q1
            go_wp2_with fail
            refine HTJ.out.mono ?_
            rintro r w6 ⟨rfl, hb6⟩
            have HJ6 := Lib.hid (show Mn w b F a c (many1 F (now + F) ts) ts a1 c1 w6 ∧ VRow 1 w6 (some ⟨g1, o1, none⟩) (((manyL F ts).map (·.n)).map u32C) from ⟨HJ.out.1.keep hb6, HJ.out.2.touch (by decide) (num_wide _) (touch_of_below (S := fun _ => False) hb6) (fun _ _ => id)⟩)
            clear hb6 HTJ HJ q1' hcv hcv2
            go_wp2
            go_roundw
            case rel => exact ⟨j + 1, by omega, by go_num, HJ6⟩
            case measure => simp [intOf] <;> omega
          · obtain rfl : j = k := by omega
            have HMJ := Lib.hid HJ.out.1
            simp only [List.length_nil] at HD2
            have hj1 : (j : Int) ≤ (j : Int) := by omega
            clear HJ HM5 HR5
            go_wp2_with fail
            refine (HD2.out _ HMJ.out.aw.t).mono ?_
            rintro r w7 ⟨a7, c7, rfl, -, ht7, htc7⟩
            have HM7 := Lib.hid (HMJ.out.step ht7 (fun x hx => .inl (by rw [hx]; rfl)) (htc7.mono (fun _ _ e => .inr e)))
            clear ht7 htc7 HD2 HMJ
            go_wp2_with fail
            refine (HD3.out _ HM7.out.aw.t).mono ?_
            rintro r w8 ⟨a8, c8, rfl, -, ht8, htc8⟩
            have HM8 := Lib.hid (HM7.out.step ht8 (fun x hx => .inl (by rw [hx]; rfl)) (htc8.mono (fun _ _ e => .inr e)))
            clear ht8 htc8 HD3 HM7
            go_wp2
            go_ret
            exact ⟨rfl, HM8.out.aw.bel⟩
end Go.Proofs.Ytpilkaggiajjmaa
