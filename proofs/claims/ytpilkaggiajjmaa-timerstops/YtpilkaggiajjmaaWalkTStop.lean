/-
  The walk of the law TimerStops.
-/
import Derived.Test.YtpilkaggiajjmaaTim13
import Derived.Test.YtpilkaggiajjmaaWinM
namespace Go.Proofs.Ytpilkaggiajjmaa
open Go.RowKit
set_option linter.unusedVariables false

theorem GoneL.skip {n c x : Nat} {ns : List Nat} {L : List (Nat × Value)} (h : GoneL n ns c L) (hx : n ≤ x) : GoneL n (ns ++ [x]) (c + 1) L :=
  ⟨h.nd, fun y => by rw [h.mem y, List.mem_append, List.mem_singleton]; constructor
                     · rintro ⟨h1, h2⟩; exact ⟨.inl h1, h2⟩
                     · rintro ⟨h1 | h1, h2⟩
                       · exact ⟨h1, h2⟩
                       · omega, fun p hp => by obtain ⟨z, h1, h2, h3⟩ := h.val p hp; exact ⟨z, h1, h2, by omega⟩⟩
theorem GoneL.new {n c x : Nat} {ns : List Nat} {L : List (Nat × Value)} (h : GoneL n ns c L) (hx : x < n) (hno : ∀ p ∈ L, p.1 ≠ x) : GoneL n (ns ++ [x]) (c + 1) (L ++ [(x, .int .i64 1)]) := by
  have hnm : x ∉ L.map (·.1) := fun hm => by obtain ⟨p, hp, e⟩ := List.mem_map.1 hm; exact hno p hp e
  refine ⟨?_, fun y => ?_, fun p hp => ?_⟩
  · rw [List.map_append, List.nodup_append]
    refine ⟨h.nd, by simp, fun a ha b hb e => ?_⟩
    have hb : b = x := by simpa using hb
    exact hnm (by rw [← hb, ← e]; exact ha)
  · rw [List.map_append, List.mem_append, h.mem y, List.mem_append, List.map_cons, List.map_nil, List.mem_singleton]
    show (y ∈ ns ∧ y < n ∨ y = x) ↔ (y ∈ ns ∨ y = x) ∧ y < n
    constructor
    · rintro (⟨h1, h2⟩ | h1)
      · exact ⟨.inl h1, h2⟩
      · exact ⟨.inr h1, by rw [h1]; exact hx⟩
    · rintro ⟨h1 | h1, h2⟩
      · exact .inl ⟨h1, h2⟩
      · exact .inr h1
  · rcases List.mem_append.1 hp with hp | hp
    · obtain ⟨z, h1, h2, h3⟩ := h.val p hp; exact ⟨z, h1, h2, by omega⟩
    · have hp : p = (x, .int .i64 1) := by simpa using hp
      exact ⟨1, by rw [hp]; rfl, by omega, by omega⟩
theorem GoneL.more {n c x z : Nat} {ns : List Nat} {L : List (Nat × Value)} (h : GoneL n ns c L) (hx : x ∈ L.map (·.1)) (hz : z ≤ c) : GoneL n (ns ++ [x]) (c + 1) (setL L x (.int .i64 ((z : Int) + 1))) := by
  have h0 := (h.mem x).1 hx
  refine ⟨by rw [setL_keys]; exact h.nd, fun y => ?_, fun p hp => ?_⟩
  · rw [setL_keys, h.mem y, List.mem_append, List.mem_singleton]
    constructor
    · rintro ⟨h1, h2⟩; exact ⟨.inl h1, h2⟩
    · rintro ⟨h1 | h1, h2⟩
      · exact ⟨h1, h2⟩
      · rw [h1]; exact h0
  · unfold setL at hp
    obtain ⟨q, hq, e⟩ := List.mem_map.1 hp
    by_cases hqx : q.1 = x
    · refine ⟨z + 1, ?_, by omega, by omega⟩
      rw [← e]; simp [hqx]
    · obtain ⟨z', h1, h2, h3⟩ := h.val q hq
      refine ⟨z', ?_, h2, by omega⟩
      rw [← e]; simp [hqx, h1]
/-- The timers, and the law's map. -/
structure Sq (w : World) (b r : Nat) (a : Option Addr) (c : Nat) (l : List Tn) (L : List (Nat × Value)) (wr : World) : Prop where
  aw : Aw14 w b 3 9 a c l wr
  g : MpAt .u32 wr r L
  hr : w.heap.size ≤ r
  rb : r ≠ b
  ra : ∀ x, a = some x → x.block ≠ r
theorem Sq.keep {w : World} {b r : Nat} {a : Option Addr} {c : Nat} {l : List Tn} {L : List (Nat × Value)} {wr w' : World} (h : Sq w b r a c l L wr) (hb : Below wr.heap.size wr w') : Sq w b r a c l L w' :=
  ⟨h.aw.keep hb, h.g.touch (touch_of_below (S := fun _ => False) hb) id, h.hr, h.rb, h.ra⟩
theorem Sq.made {w : World} {b : Nat} {a : Option Addr} {c : Nat} {l : List Tn} {wr : World} (h : Aw14 w b 3 9 a c l wr) : Sq w b wr.heap.size a c l [] (wr.alloc (.map #[] 0)) := by
  have hs := h.bel.size
  have hbl := h.t.lt
  exact ⟨h.keep (bel_alloc (Below.refl _ _) _), MpAt.made .u32 wr, hs, by omega, fun x hx e => by have := h.t.row.lt x hx; omega⟩
theorem Sq.upd {w : World} {b r : Nat} {a : Option Addr} {c : Nat} {l : List Tn} {L L' : List (Nat × Value)} {wr w' : World} (h : Sq w b r a c l L wr) (hg : MpAt .u32 w' r L') (ht : Touch (fun k => k = r) wr w') : Sq w b r a c l L' w' :=
  ⟨⟨h.aw.t.touch ht (fun e => h.rb e.symm) (fun x hx => h.ra x hx), h.aw.hb, h.aw.ha, h.aw.bel.trans (ht.below h.aw.bel.size fun k hk (e : k = r) => by have := h.hr; omega)⟩, hg, h.hr, h.rb, h.ra⟩
theorem Sq.step {w : World} {b r : Nat} {a a' : Option Addr} {c c' : Nat} {l l' : List Tn} {L : List (Nat × Value)} {wr w' : World} (h : Sq w b r a c l L wr) (ht : TAt w' b 3 9 a' c' l') (hf : ∀ x, a' = some x → a.map (·.block) = some x.block ∨ wr.heap.size ≤ x.block) (htc : Touch (fun j => j = b ∨ a.map (·.block) = some j) wr w') : Sq w b r a' c' l' L w' := by
  have hrl := h.g.lt
  refine ⟨h.aw.next ht hf htc, h.g.touch htc ?_, h.hr, h.rb, fun x hx => ?_⟩
  · rintro (e | e)
    · exact h.rb e
    · exact map_none (P := fun j => j ≠ r) h.ra _ e rfl
  · rcases hf x hx with e | e
    · exact map_none (P := fun j => j ≠ r) h.ra _ e
    · omega
theorem row_u32 {w : World} {a : Option Addr} {ns : List Int} (h : IntRow .u32 w a ns) (hw : ∀ n ∈ ns, (Lit.int .u32 n).wf = true) : VRow 1 w a ((ns.map Int.toNat).map u32C) ∧ ∀ x ∈ ns.map Int.toNat, x < 4294967296 := by
  refine ⟨fun h0 => ?_, fun x hx => ?_⟩
  · obtain ⟨b, off, e, hc⟩ := h (by simpa using h0)
    refine ⟨b, off, e, fun i hi j hj => ?_⟩
    have hj : j = 0 := by omega
    subst hj
    have hi2 : i < ns.length := by simpa using hi
    have h2 : 0 ≤ ns[i] ∧ ns[i] ≤ 4294967295 := by simpa [Lit.wf, IntKind.min, IntKind.max, IntKind.signed, IntKind.bits] using hw ns[i] (List.getElem_mem hi2)
    have e3 : ((ns[i].toNat : Nat) : Int) = ns[i] := by omega
    rw [Nat.mul_one, Nat.add_zero, hc i hi2]
    simp [u32C, e3]
  · obtain ⟨n, hn, rfl⟩ := List.mem_map.1 hx
    have h2 : 0 ≤ n ∧ n ≤ 4294967295 := by simpa [Lit.wf, IntKind.min, IntKind.max, IntKind.signed, IntKind.bits] using hw n hn
    omega
theorem VRow.pre {w : World} {a : Option Addr} {ms : List Nat} (h : VRow 1 w a (ms.map u32C)) (k : Nat) : VRow 1 w a ((ms.take k).map u32C) := by
  intro h0
  have hk : 0 < ms.length := by rw [List.length_map, List.length_take] at h0; omega
  obtain ⟨b, off, e, hc⟩ := h (by simpa using hk)
  refine ⟨b, off, e, fun i hi j hj => ?_⟩
  have hi2 : i < ms.length := by rw [List.length_map, List.length_take] at hi; omega
  rw [hc i (by rw [List.length_map]; exact hi2) j hj]
  simp
set_option maxRecDepth 100000 in
set_option maxHeartbeats 2000000 in
theorem timerStops_walk (w : World) (n0 : Int) (a0 : Option Addr) (cap : Nat) (ms : List Nat) (hlm : ms.length ≤ 9223372036854775807) (hlc : ms.length ≤ cap) (hcm : cap ≤ 9223372036854775807) (hrow : VRow 1 w a0 (ms.map u32C)) (hlt : ∀ x ∈ ms, x < 4294967296) :
    Calls Try.prog 9 #[.int .i64 n0, .slice a0 ms.length cap] w fun e w' => e = .returned (.bool true) ∧ Below w.heap.size w w' := by
  have HAW := Lib.hid (fun W => awake14_any W)
  have HROW := Lib.hid hrow
  have HLT := Lib.hid hlt
  obtain ⟨N, hN, eN⟩ := andM n0 15 15 rfl (by decide)
  have HNW := Lib.hid (fun W => (tnew_any 3 9 W).mono (R' := fun r w' => ∃ b, r = .returned (.tuple #[.pointer (some ⟨b, 0, none⟩), .int .i64 0]) ∧ W.heap.size ≤ b ∧ TAt w' b 3 9 none 0 [] ∧ Below W.heap.size W w') fun r w' h => by
    rcases h with ⟨-, h⟩ | ⟨h1, -⟩
    · exact h
    · exact absurd h1 (by decide))
  clear hrow hlt
  go_enter Try.func9, Try.ntmps9
  go_wp2_with fail
  refine (HNW.out _).mono ?_
  rintro r w1 ⟨b, rfl, hb0, hta, hb1⟩
  have HA1 : Hid (Aw14 w b 3 9 none 0 [] w1) := Lib.hid ⟨hta, hb0, (fun x hx => by cases hx), hb1⟩
  clear hb0 hta hb1 HNW
  go_wp2_with fail
  refine (HAW.out _).mono ?_
  rintro r w2 ⟨rfl, hb2⟩
  have HA2 := Lib.hid (HA1.out.keep hb2)
  clear hb2 HA1 HAW
  go_wp2_with fail
  clear eN
  go_loopw [29] (fun v29 wr => ∃ (k : Nat) (a : Option Addr) (c : Nat), k ≤ N ∧ v29 = .int .i64 k ∧ Hid (Aw14 w b 3 9 a c (manyL 3 (zeros k)) wr)) (fun v29 _ => N - (intOf v29).toNat)
  case atStart => exact ⟨0, none, 0, by omega, rfl, HA2⟩
  case round =>
    obtain ⟨k, a, c, hk, rfl, HK⟩ := hrel
    by_cases hkn : k < N
    · have HST := Lib.hid (start_any b k 0 3 9 a c (manyL 3 (zeros k)) wr HK.out.t (by rw [manyL_len, zeros_len]; omega) (by omega) (by omega))
      have HNO : Hid ((manyL 3 (zeros k)).find? (isN k) = none) := Lib.hid (by have := many_new 3 (zeros k); rw [zeros_len] at this; exact this)
      have HSN : Hid (manyL 3 (zeros k) ++ [⟨k, 0 + 3, 3, 0⟩] = manyL 3 (zeros (k + 1))) := Lib.hid (by rw [zeros_succ, manyL_snoc, zeros_len])
      have hi1 : (k : Int) < (N : Int) := by omega
      have hi0 : (0 : Int) ≤ (k : Int) := by omega
      have hcv : (k : Int) % 4294967296 = (k : Int) := by omega
      have hcv2 : IntKind.u32.wrap (k : Int) = (k : Int) := by rw [IntKind.wrap_u32]; omega
      go_wp2_with fail
      refine HST.out.mono ?_
      intro r w3 hr
      obtain ⟨rfl, a3, c3, ht3, hf3, htc3⟩ := start_none k 0 3 HNO.out hr
      rw [HSN.out] at ht3
      have HK3 := Lib.hid (HK.out.next ht3 hf3 htc3)
      clear hr ht3 hf3 htc3 HST HK HSN HNO
      go_wp2
      go_roundw
      case rel => exact ⟨k + 1, a3, c3, by omega, by go_num, HK3⟩
      case measure => simp [intOf] <;> omega
    · obtain rfl : k = N := by omega
      have hi1 : (k : Int) ≤ (k : Int) := by omega
      clear hkn HA2
      have HMS : Hid (∃ m : Nat, m ≤ 12 ∧ m ≤ ms.length ∧ (ms.length ≤ 12 → m = ms.length) ∧ (12 < ms.length → m = 12)) := Lib.hid ⟨min 12 ms.length, by omega, by omega, by omega, by omega⟩
      obtain ⟨m, hm1, hm2, hm3, hm4⟩ := HMS.out
      go_upto_if 39 with (fail)
      go_cut [1] (fun v1 wx => v1 = .slice a0 m cap ∧ wx = wr)
      case first =>
        by_cases h12 : ms.length ≤ 12
        · have hmm := hm3 h12
          subst hmm
          have hi2 : (ms.length : Int) ≤ 12 := by omega
          go_wp2_with fail
          go_meet
          exact ⟨rfl, rfl⟩
        · have hmm := hm4 (by omega)
          subst hmm
          have hi2 : (12 : Int) < (ms.length : Int) := by omega
          have hi3 : (12 : Int) ≤ (cap : Int) := by omega
          have hd : decide ((12 : Int) < (ms.length : Int)) = true := decide_eq_true hi2
          go_wp2_with fail
          go_meet
          exact ⟨rfl, rfl⟩
      case rest =>
        obtain ⟨rfl, rfl⟩ := hcut
        have HPR := Lib.hid (HROW.out.pre m)
        have HPL : Hid ((ms.take m).length = m) := Lib.hid (by rw [List.length_take]; omega)
        have HPT : Hid (∀ x ∈ ms.take m, x < 4294967296) := Lib.hid (fun x hx => HLT.out x (List.mem_of_mem_take hx))
        generalize ms.take m = ns at HPR HPL HPT
        have HSQ := Lib.hid (Sq.made HK.out)
        have hmm := @run_makeMap Try.prog
        clear HK
        go_wp2_with fail
        generalize wc.alloc (.map #[] 0) = W3 at HSQ ⊢
        generalize wc.heap.size = r at HSQ ⊢
        clear hmm
        have hkb : k ≤ 15 := hN
        have hcv : (k : Int) % 4294967296 = (k : Int) := by omega
        have hcv2 : IntKind.u32.wrap (k : Int) = (k : Int) := by rw [IntKind.wrap_u32]; omega
        go_loopw [45] (fun v45 wr => ∃ (j : Nat) (L : List (Nat × Value)), j ≤ m ∧ v45 = .int .i64 j ∧ Hid (GoneL k (ns.take j) j L ∧ Sq w b r a c (manyL 3 (zeros k)) L wr)) (fun v45 _ => m - (intOf v45).toNat)
        case atStart => exact ⟨0, [], by omega, rfl, Lib.hid ⟨GoneL.none k, HSQ.out⟩⟩
        case round =>
          obtain ⟨j, L, hj, rfl, HJ⟩ := hrel
          by_cases hjm : j < m
          · have hjn : j < ns.length := by rw [HPL.out]; exact hjm
            obtain ⟨g1, o1, rfl, hg1, q1⟩ := VRow.at1 (f := u32C) (g := fun n => .int .u32 (n : Int)) (fun _ => rfl) (HPR.out.touch (by decide) (num_wide _) (touch_of_below (S := fun _ => False) HJ.out.2.aw.bel) (fun _ _ => id)) hjn
            have hxl := HPT.out ns[j] (List.getElem_mem hjn)
            have HSK := Lib.hid (fun (hx : k ≤ ns[j]) => show GoneL k (ns.take (j + 1)) (j + 1) L by rw [List.take_succ_eq_append_getElem hjn]; exact HJ.out.1.skip hx)
            have HNW := Lib.hid (fun (hx : ns[j] < k) (hno : ∀ p ∈ L, p.1 ≠ ns[j]) => show GoneL k (ns.take (j + 1)) (j + 1) (L ++ [(ns[j], .int .i64 1)]) by rw [List.take_succ_eq_append_getElem hjn]; exact HJ.out.1.new hx hno)
            have HMR := Lib.hid (fun (z : Nat) (hx : ns[j] ∈ L.map (fun (p : Nat × Value) => p.1)) (hz : z ≤ j) => show GoneL k (ns.take (j + 1)) (j + 1) (setL L ns[j] (.int .i64 ((z : Int) + 1))) by rw [List.take_succ_eq_append_getElem hjn]; exact HJ.out.1.more hx hz)
            have HVL := Lib.hid HJ.out.1.val
            have HSJ := Lib.hid HJ.out.2
            generalize ns[j] = x at q1 hxl HSK HNW HMR
            have q1' : wr.cell? ⟨g1, o1 + j, none⟩ = some (.int .u32 (x : Int)) := q1
            have hj0 : (0 : Int) ≤ (j : Int) := by omega
            have hj1 : (j : Int) < (m : Int) := by omega
            clear q1 HJ
            by_cases hxk : x < k
            · have hx1 : (x : Int) < (k : Int) := by omega
              rcases mp_look (k := 22) (t := 90) (e := 3) Try.underlying22 Try.underlying90 HSJ.out.g (zero_int wr) x (wf_u32 x hxl) false with ⟨hno, hlk⟩ | ⟨v, hin, hlk⟩
              · obtain ⟨w7, hup, hg7, ht7⟩ := mp_store (k := 22) (t := 90) (e := 3) Try.underlying22 Try.underlying90 HSJ.out.g x (wf_u32 x hxl) hno (.int .i64 1)
                have HS7 := Lib.hid (And.intro (HNW.out hxk hno) (HSJ.out.upd hg7 ht7))
                simp only [Bool.false_eq_true, if_false] at hlk
                clear hno hg7 ht7 HSK HNW HMR HVL HSJ
                go_wp2
                go_roundw
                case rel => exact ⟨j + 1, _, by omega, by go_num, HS7⟩
                case measure => simp [intOf] <;> omega
              · obtain ⟨z, hz0, hz1, hz2⟩ := HVL.out (x, v) hin
                simp only at hz0
                subst hz0
                obtain ⟨w7, hup, hg7, ht7⟩ := mp_put (k := 22) (t := 90) (e := 3) Try.underlying22 Try.underlying90 HSJ.out.g x (wf_u32 x hxl) _ (.int .i64 ((z : Int) + 1)) hin
                have HS7 := Lib.hid (And.intro (HMR.out z (List.mem_map.2 ⟨_, hin, rfl⟩) hz2) (HSJ.out.upd hg7 ht7))
                simp only [Bool.false_eq_true, if_false] at hlk
                clear hin hg7 ht7 HSK HNW HMR HVL HSJ
                go_wp2
                go_roundw
                case rel => exact ⟨j + 1, _, by omega, by go_num, HS7⟩
                case measure => simp [intOf] <;> omega
            · have hx1 : (k : Int) ≤ (x : Int) := by omega
              have HS7 := Lib.hid (And.intro (HSK.out (by omega)) HSJ.out)
              clear HSK HNW HMR HVL HSJ
              go_wp2
              go_roundw
              case rel => exact ⟨j + 1, L, by omega, by go_num, HS7⟩
              case measure => simp [intOf] <;> omega
          · obtain rfl : j = m := by omega
            obtain ⟨hgl, hsq⟩ := HJ.out
            have e0 : ns.take j = ns := List.take_of_length_le (by rw [HPL.out]; exact Nat.le_refl _)
            rw [e0] at hgl
            have HGL := Lib.hid hgl
            have hsum := gone_len14 hgl
            have hl0 : (manyL 3 (zeros k)).length = k := by rw [manyL_len, zeros_len]
            have HSP := Lib.hid (tstop_any b 3 9 a c (manyL 3 (zeros k)) a0 cap ns wr hsq.aw.t (by omega) (by rw [HPL.out]; omega) (HPR.out.touch (by decide) (num_wide _) (touch_of_below (S := fun _ => False) hsq.aw.bel) (fun _ _ => id)) (by
              rcases Nat.eq_zero_or_pos ns.length with h0 | h0
              · exact .inl (List.eq_nil_of_length_eq_zero h0)
              · right
                intro x y hx hy e
                obtain ⟨g1, o1, e1, hg1, -⟩ := VRow.at1 (f := u32C) (g := fun n => .int .u32 (n : Int)) (fun _ => rfl) HPR.out h0
                rw [e1] at hx; cases hx
                have := hsq.aw.ha y hy
                simp only at e; omega))
            unfold StopPost at HSP
            rw [hl0, HPL.out] at HSP
            have hle : ∀ x ∈ goneT ns (manyL 3 (zeros k)), x.due = 3 ∧ x.Ok ∧ x.n ∉ ns := fun x hx => by
              obtain ⟨h1, h2⟩ := goneT_mem hx
              obtain ⟨i, hi, rfl⟩ := many0_mem h1
              exact ⟨rfl, ⟨by simp only; omega, by simp, by simp, by simp⟩, h2⟩
            have hq1 : dueF 3 (goneT ns (manyL 3 (zeros k))) = goneT ns (manyL 3 (zeros k)) := dueF_all (fun x hx => by rw [(hle x hx).1]; exact Nat.le_refl _)
            have hq2 : agF 3 9 (goneT ns (manyL 3 (zeros k))) = (goneT ns (manyL 3 (zeros k))).map (againT 3 9) := agF_all (fun x hx => by rw [(hle x hx).1]; exact Nat.le_refl _)
            have hglen : (goneT ns (manyL 3 (zeros k))).length ≤ 20 := by omega
            have HDU := Lib.hid (fun W h => due_any b 3 9 3 a c (goneT ns (manyL 3 (zeros k))) W h hglen (fun x hx => (hle x hx).2.1) (by rw [hq1]; exact sortedD_of (pairwise_same (d := 3) (fun x hx => (hle x hx).1))) (by omega) (by omega))
            unfold DuePost at HDU
            rw [hq1, hq2] at HDU
            have hl2 : ∀ x ∈ (goneT ns (manyL 3 (zeros k))).map (againT 3 9), x.n ∉ ns := fun x hx => by
              obtain ⟨y, hy, rfl⟩ := List.mem_map.1 hx
              exact (hle y hy).2.2
            have hnum : ∀ x ∈ (goneT ns (manyL 3 (zeros k))).map (·.n), x ∉ ns ∧ x < 4294967296 := fun x hx => by
              obtain ⟨y, hy, rfl⟩ := List.mem_map.1 hx
              exact ⟨(hle y hy).2.2, (hle y hy).2.1.n⟩
            have hsame : goneT ns ((goneT ns (manyL 3 (zeros k))).map (againT 3 9)) = (goneT ns (manyL 3 (zeros k))).map (againT 3 9) := goneT_same hl2
            have hmaplen : ((goneT ns (manyL 3 (zeros k))).map (againT 3 9)).length = (goneT ns (manyL 3 (zeros k))).length := by rw [List.length_map]
            have hnumlen : ((goneT ns (manyL 3 (zeros k))).map (·.n)).length = (goneT ns (manyL 3 (zeros k))).length := by rw [List.length_map]
            generalize (goneT ns (manyL 3 (zeros k))).map (againT 3 9) = l2 at HDU hsame hmaplen
            generalize (goneT ns (manyL 3 (zeros k))).map (·.n) = num at HDU hnum hnumlen
            generalize goneT ns (manyL 3 (zeros k)) = l1 at HSP HDU hsum hglen hmaplen hnumlen
            have HSP2 := Lib.hid (fun W (h : Sq w b r a c l2 L W) => tstop_any b 3 9 a c l2 a0 cap ns W h.aw.t (by omega) (by rw [HPL.out]; omega) (HPR.out.touch (by decide) (num_wide _) (touch_of_below (S := fun _ => False) h.aw.bel) (fun _ _ => id)) (by
              rcases Nat.eq_zero_or_pos ns.length with h0 | h0
              · exact .inl (List.eq_nil_of_length_eq_zero h0)
              · right
                intro x y hx hy e
                obtain ⟨g1, o1, e1, hg1, -⟩ := VRow.at1 (f := u32C) (g := fun n => .int .u32 (n : Int)) (fun _ => rfl) HPR.out h0
                rw [e1] at hx; cases hx
                have := h.aw.ha y hy
                simp only at e; omega))
            unfold StopPost at HSP2
            rw [hsame, hmaplen, HPL.out] at HSP2
            have HNX := Lib.hid (fun W (h : Sq w b r a c l2 L W) => next14_any b 3 9 a c l2 W h.aw.t (by omega))
            unfold NextPost at HNX
            have HSQ2 := Lib.hid hsq
            have HNUM := Lib.hid hnum
            generalize hp : L.length = p at hsum
            have HP := Lib.hid hp
            generalize hq : l1.length = q at HSP HDU HSP2 hsum hglen hmaplen hnumlen
            have HQ := Lib.hid hq
            have HML := Lib.hid hmaplen
            have HNL := Lib.hid hnumlen
            have hx1 : ((k : Int) - (q : Int) != (p : Int)) = false := by rw [bne_eq_false_iff_eq]; omega
            have hx2 : ((q : Int) != (k : Int) - (p : Int)) = false := by rw [bne_eq_false_iff_eq]; omega
            have hqk : (q : Int) ≤ (k : Int) := by omega
            have hpk : (p : Int) ≤ (k : Int) := by omega
            have hkI : (k : Int) ≤ 15 := by omega
            have HSUM := Lib.hid hsum
            have hjj : (j : Int) ≤ (j : Int) := by omega
            clear hgl hsq e0 hl0 hle hq1 hq2 hl2 hnum hsame hmaplen hnumlen hp hq hsum HJ hjm
            go_wp2_with fail
            refine HSP.out.mono ?_
            rintro r5 w5 ⟨rfl, ht5, htc5⟩
            have HS5 := Lib.hid (HSQ2.out.step ht5 (fun x hx => .inl (by rw [hx]; rfl)) htc5)
            have hlm := fun ty => len_map HS5.out.g 90 ty Try.underlying90
            rw [HP.out] at hlm
            have HLEN := Lib.hid (tlen_any b 3 9 a c l1 w5 HS5.out.aw.t)
            rw [HQ.out] at HLEN
            clear ht5 htc5 HSP HSQ2
            go_wp2_with fail
            refine HLEN.out.mono ?_
            rintro r6 w6 ⟨rfl, rfl⟩
            go_wp2_with fail
            refine (HDU.out _ HS5.out.aw.t).mono ?_
            rintro r7 w7 ⟨a7, c7, rfl, ho7, ht7, htc7⟩
            have HS7 := Lib.hid (HS5.out.step ht7 (fun x hx => .inl (by rw [hx]; rfl)) (htc7.mono (fun _ _ e => .inr e)))
            have HR7 : Hid (VRow 1 w7 a7 (num.map u32C)) := Lib.hid (ho7.row (num_wide _))
            clear ho7 ht7 htc7 HDU HS5 HLEN hlm hx1 hx2
            go_wp2_with fail
            go_loopw [76] (fun v76 wx => ∃ i : Nat, i ≤ q ∧ v76 = .int .i64 i ∧ Hid (Sq w b r a c l2 L wx ∧ VRow 1 wx a7 (num.map u32C))) (fun v76 _ => q - (intOf v76).toNat)
            case atStart => exact ⟨0, Nat.zero_le _, rfl, Lib.hid ⟨HS7.out, HR7.out⟩⟩
            case round =>
              obtain ⟨i, hi, rfl, HI⟩ := hrel
              by_cases hiq : i < q
              · have hin : i < num.length := by rw [HNL.out]; exact hiq
                obtain ⟨g1, o1, rfl, hg1, q1⟩ := VRow.at1 (f := u32C) (g := fun n => .int .u32 (n : Int)) (fun _ => rfl) HI.out.2 hin
                obtain ⟨hnn, hnl⟩ := HNUM.out num[i] (List.getElem_mem hin)
                generalize num[i] = x at q1 hnn hnl
                have q1' : wr.cell? ⟨g1, o1 + i, none⟩ = some (.int .u32 (x : Int)) := q1
                have hlk : (Instr.lookup 90 (.map (some r)) (.int .u32 (x : Int)) false).run Try.prog wr = .ok (.int .i64 0) wr := by
                  rcases mp_look (k := 22) (t := 90) (e := 3) Try.underlying22 Try.underlying90 HI.out.1.g (zero_int wr) x (wf_u32 x hnl) false with ⟨-, hlk⟩ | ⟨v, hin2, -⟩
                  · simpa using hlk
                  · exact absurd ((HGL.out.mem x).1 (List.mem_map.2 ⟨_, hin2, rfl⟩)).1 hnn
                have hj0 : (0 : Int) ≤ (i : Int) := by omega
                have hj1 : (i : Int) < (q : Int) := by omega
                clear q1 hnn
                go_wp2
                go_roundw
                case rel => exact ⟨i + 1, by omega, by go_num, HI⟩
                case measure => simp [intOf] <;> omega
              · obtain rfl : i = q := by omega
                have HSI := Lib.hid HI.out.1
                have hii : (i : Int) ≤ (i : Int) := by omega
                clear HI HS7 HR7 hiq
                go_wp2_with fail
                refine (HNX.out _ HSI.out).mono ?_
                rintro r8 w8 ⟨hcs, hb8⟩
                have HS8 := Lib.hid (HSI.out.keep hb8)
                have hlm := fun ty => len_map HS8.out.g 90 ty Try.underlying90
                rw [HP.out] at hlm
                have HSP3 := Lib.hid (HSP2.out w8 HS8.out)
                have hsum := HSUM.out
                clear hb8 HNX HSI HSP2
                rcases hcs with ⟨hl2e, rfl⟩ | ⟨hl2p, rfl⟩
                · have hi0 : i = 0 := by rw [← HML.out, hl2e]; rfl
                  have hd : decide ((p : Int) < (k : Int)) = false := decide_eq_false (by omega)
                  have hd2 : (k : Int) ≤ (p : Int) := by omega
                  have hd3 : decide (p < k) = false := decide_eq_false (by omega)
                  have HI0 := Lib.hid hi0
                  clear hi0 hl2e hsum
                  go_wp2_with fail
                  refine HSP3.out.mono ?_
                  rintro r9 w9 ⟨rfl, ht9, htc9⟩
                  have HS9 := Lib.hid (HS8.out.step ht9 (fun x hx => .inl (by rw [hx]; rfl)) htc9)
                  clear ht9 htc9
                  go_wp2
                  go_ret
                  exact ⟨rfl, HS9.out.aw.bel⟩
                · have hd : decide ((p : Int) < (k : Int)) = true := decide_eq_true (by have := HML.out; omega)
                  have hd2 : (p : Int) < (k : Int) := by have := HML.out; omega
                  have hd3 : decide (p < k) = true := decide_eq_true (by omega)
                  generalize nextK _ l2 = zz
                  clear hl2p hsum
                  go_wp2_with fail
                  refine HSP3.out.mono ?_
                  rintro r9 w9 ⟨rfl, ht9, htc9⟩
                  have HS9 := Lib.hid (HS8.out.step ht9 (fun x hx => .inl (by rw [hx]; rfl)) htc9)
                  clear ht9 htc9
                  go_wp2
                  go_ret
                  exact ⟨rfl, HS9.out.aw.bel⟩
end Go.Proofs.Ytpilkaggiajjmaa
