/-
  Layer 9: the law's own helper that makes batches that may be.
-/
import Derived.Test.YtapiaogmmoofkaaAwake9
import Derived.Test.YtapiaogmmoofkaaRecArgs
namespace Go.Proofs.Ytapiaogmmoofkaa
open Go.RowKit
set_option linter.unusedVariables false

theorem andM (a : Int) (m : Nat) (mi : Int) (hm : mi = (m : Int)) (h : m ≤ 9223372036854775807) : ∃ k : Nat, k ≤ m ∧ bits .and .i64 a mi = (k : Int) := by
  subst hm
  have e : (BitVec.ofInt 64 (m : Int)).toNat = m := by simp; omega
  have hle : (BitVec.ofInt 64 a &&& BitVec.ofInt 64 (m : Int)).toNat ≤ m := by
    rw [BitVec.toNat_and, e]; exact Nat.and_le_right
  refine ⟨(BitVec.ofInt 64 a &&& BitVec.ofInt 64 (m : Int)).toNat, hle, ?_⟩
  show IntKind.i64.wrap ((BitVec.ofInt 64 a &&& BitVec.ofInt 64 (m : Int)).toNat : Int) = _
  rw [IntKind.wrap_i64]
  omega
/-- Records as orders. -/
def toOrd (r : List Int) : Ord := ⟨r.getD 0 0, r.getD 1 0, r.getD 2 0, r.getD 3 0⟩
theorem toOrd_ints (r : List Int) (h : r.length = 4) : (toOrd r).ints = r := by
  obtain ⟨a, b, c, d, rfl⟩ := list_4 h
  rfl
theorem toOrds {ls : List (List Int)} (h : Wide 4 ls) : ordsI (ls.map toOrd) = ls := by
  unfold ordsI
  rw [List.map_map]
  have : ∀ x ∈ ls, (Ord.ints ∘ toOrd) x = x := fun x hx => toOrd_ints x (h x hx)
  conv => rhs; rw [← List.map_id ls]
  exact List.map_congr_left this
def OrdArg (w : World) (a : Option Addr) (len cap : Nat) (l : List Ord) : Prop :=
  len = l.length ∧ len ≤ cap ∧ cap ≤ maxLen ∧ OrdRow w a l ∧ (a = none → l = []) ∧ ∀ o ∈ l, OrdOk o
theorem RecArg.ords {w : World} {a : Option Addr} {len cap : Nat} {ls : List (List Int)} (h : RecArg 4 w a len cap ls) : OrdArg w a len cap (ls.map toOrd) := by
  obtain ⟨h1, h2, h3, h4, h5, h6, h7⟩ := h
  refine ⟨by rw [h1]; simp, h2, h3, by unfold OrdRow; rw [toOrds h4]; exact h5, fun e => by rw [h6 e]; rfl, fun o ho => ?_⟩
  simp only [List.mem_map] at ho
  obtain ⟨r, hr, rfl⟩ := ho
  obtain ⟨a, b, c, d, rfl⟩ := list_4 (h4 r hr)
  have := h7 _ hr
  exact ⟨this a (by simp), this b (by simp), this c (by simp), this d (by simp)⟩
theorem OrdArg.below {w w' : World} {a : Option Addr} {len cap : Nat} {l : List Ord} (h : OrdArg w a len cap l) (hb : Below w.heap.size w w') : OrdArg w' a len cap l := ⟨h.1, h.2.1, h.2.2.1, h.2.2.2.1.below hb, h.2.2.2.2⟩
theorem dom_move (u a b : Nat) (hu : u ≤ 63) (ha : a ≤ 127) (hb : b ≤ 127) : OrdDom ⟨1, 1 + u, 1 + a, b⟩ := by
  have h1 : numQ (1 + u) = true := by simp [numQ]; omega
  have h2 : placeQ (1 + a) = true := by simp [placeQ]; omega
  have h3 : placeQ b = true := by simp [placeQ]; omega
  simp [OrdDom, checkN, h1, h2, h3, okN]
theorem dom_hit (u a : Nat) (hu : u ≤ 63) (ha : a ≤ 127) : OrdDom ⟨2, 1 + u, 1 + a, 0⟩ := by
  have h1 : numQ (1 + u) = true := by simp [numQ]; omega
  have h2 : numQ (1 + a) = true := by simp [numQ]; omega
  simp [OrdDom, checkN, h1, h2, okN]
theorem dom_build (a b : Nat) (ha : a ≤ 127) (hb : b ≤ 127) : OrdDom ⟨3, 0, 1 + a, b⟩ := by
  have h2 : kindQ (1 + a) = true := by simp [kindQ]; omega
  have h3 : placeQ b = true := by simp [placeQ]; omega
  simp [OrdDom, checkN, h2, h3, okN]
theorem dom_halt (u : Nat) (hu : u ≤ 63) : OrdDom ⟨4, 1 + u, 0, 0⟩ := by
  have h1 : numQ (1 + u) = true := by simp [numQ]; omega
  simp [OrdDom, checkN, h1, okN]
def TidyOPost (w : World) (r : Ending) (w' : World) : Prop := ∃ m a c, r = .returned (.slice a m.length c) ∧ BatchDom m ∧ NewOrd 61 w a c m w'
set_option maxRecDepth 100000 in
set_option maxHeartbeats 4000000 in
theorem ordTidy_any (a : Option Addr) (cap : Nat) (l : List Ord) (w : World) (hl : l.length ≤ 9223372036854775807) (hr : OrdRow w a l) :
    Calls Try.prog 36 #[.slice a l.length cap] w (TidyOPost w) := by
  have HR := Lib.hid hr
  have H0 : Hid (NewOrd 61 w none 0 [] w) := Lib.hid (newRec_nil _ _ w w (Below.refl _ _))
  have hpost : TidyOPost w = fun r w' => ∃ m a c, r = .returned (.slice a m.length c) ∧ BatchDom m ∧ NewOrd 61 w a c m w' := rfl
  generalize TidyOPost w = Post at hpost
  have HPost := Lib.hid hpost
  clear hr hpost
  go_enter Try.func36, Try.ntmps36
  go_wp2
  go_loopw [3, 4] (fun v i wr => ∃ (k : Nat) (m : List Ord) (a' : Option Addr) (c' : Nat), k ≤ l.length ∧ k ≤ 8 ∧ v = .slice a' k c' ∧ i = .int .i64 k ∧ Hid (m.length = k ∧ (∀ o ∈ m, OrdDom o) ∧ NewOrd 61 w a' c' m wr)) (fun _ i _ => 8 - (intOf i).toNat)
  case atStart => exact ⟨0, [], none, 0, by omega, by omega, rfl, rfl, Lib.hid ⟨rfl, by simp, H0.out⟩⟩
  case round =>
    obtain ⟨k, m, a', c', hk, hk8, rfl, rfl, HM⟩ := hrel
    by_cases hlt : k < l.length
    · by_cases hlt8 : k < 8
      · obtain ⟨b, off, rfl, hb, c0, c1, c2, c3⟩ := (HR.out.below HM.out.2.2.bel).at hlt
        generalize l[k] = o at c0 c1 c2 c3
        obtain ⟨ok, ou, oa, ob⟩ := o
        simp only at c0 c1 c2 c3
        obtain ⟨q, hq, eq⟩ := andM ok 255 255 rfl (by decide)
        obtain ⟨u, hu, eu⟩ := andM ou 63 63 rfl (by decide)
        obtain ⟨x, hx, ex⟩ := andM oa 127 127 rfl (by decide)
        obtain ⟨y, hy, ey⟩ := andM ob 127 127 rfl (by decide)
        have hmod : q % 4 = 0 ∨ q % 4 = 1 ∨ q % 4 = 2 ∨ q % 4 = 3 := by omega
        have hqm : (q : Int) % 4 = ((q % 4 : Nat) : Int) := (Int.natCast_emod _ _).symm
        have HSTEP := Lib.hid (show ∀ (o : Ord), OrdDom o → ∀ X : Array Value, ∃ a2 c2 w2, (Builtin.append_ #[68, 68] 68 #[.slice a' k c', .slice (some ⟨wr.heap.size + 1, 0, none⟩) 1 1]).run Try.prog ((wr.alloc (.cells X 61)).alloc (.cells #[.int .i64 o.kind, .int .i64 o.unit, .int .i64 o.a, .int .i64 o.b] 61)) = .ok (.slice a2 (k + 1) c2) w2 ∧ ((m ++ [o]).length = k + 1 ∧ (∀ o' ∈ m ++ [o], OrdDom o') ∧ NewOrd 61 w a2 c2 (m ++ [o]) w2) from fun o hd X => by
          obtain ⟨hml, hmd, hnew⟩ := HM.out
          obtain ⟨a2, c2', w2, hrun, hn2, -⟩ := newOrd_one (t := 68) (u := 68) (ty := 68) ordTy Try.underlying68 Try.underlying68 (hnew.keep ((Below.refl _ wr).alloc (Nat.le_refl _) (.cells X 61))) o (by omega)
          rw [hml, show (wr.alloc (.cells X 61)).heap.size = wr.heap.size + 1 by simp] at hrun
          refine ⟨a2, c2', w2, hrun, by simp; omega, fun o' ho => ?_, hn2⟩
          rcases List.mem_append.1 ho with h | h
          · exact hmd o' h
          · simp at h; rw [h]; exact hd)
        have hw1 : IntKind.i64.wrap (1 + (u : Int)) = 1 + u := by rw [IntKind.wrap_i64]; omega
        have hw2 : IntKind.i64.wrap (1 + (x : Int)) = 1 + x := by rw [IntKind.wrap_i64]; omega
        rcases hmod with h | h | h | h
        · rw [h] at hqm
          obtain ⟨a2, c2', w2, hrun, hmem⟩ := HSTEP.out ⟨1, 1 + u, 1 + x, y⟩ (dom_move u x y hu hx hy) #[.int .i64 1, .int .i64 (1 + u), .int .i64 (1 + x), .int .i64 y]
          have HRUN := Lib.hid hrun
          have HMEM := Lib.hid hmem
          clear hrun hmem HSTEP h
          simp only at HRUN
          go_wp2_with (at_builtin; refine wpList_append_run _ rfl (.tmp 52) (.tmp 54) 68 68 rfl _ _ rfl rfl (.slice a2 (k + 1) c2') w2 HRUN.out ?_)
          go_roundw
          case rel => exact ⟨k + 1, _, a2, c2', by omega, by omega, rfl, by go_num, HMEM⟩
          case measure => simp [intOf]; omega
        · rw [h] at hqm
          obtain ⟨a2, c2', w2, hrun, hmem⟩ := HSTEP.out ⟨2, 1 + u, 1 + x, 0⟩ (dom_hit u x hu hx) #[.int .i64 2, .int .i64 (1 + u), .int .i64 (1 + x), .int .i64 0]
          have HRUN := Lib.hid hrun
          have HMEM := Lib.hid hmem
          clear hrun hmem HSTEP h
          simp only at HRUN
          go_wp2_with (at_builtin; refine wpList_append_run _ rfl (.tmp 52) (.tmp 54) 68 68 rfl _ _ rfl rfl (.slice a2 (k + 1) c2') w2 HRUN.out ?_)
          go_roundw
          case rel => exact ⟨k + 1, _, a2, c2', by omega, by omega, rfl, by go_num, HMEM⟩
          case measure => simp [intOf]; omega
        · rw [h] at hqm
          obtain ⟨a2, c2', w2, hrun, hmem⟩ := HSTEP.out ⟨3, 0, 1 + x, y⟩ (dom_build x y hx hy) #[.int .i64 3, .int .i64 0, .int .i64 (1 + x), .int .i64 y]
          have HRUN := Lib.hid hrun
          have HMEM := Lib.hid hmem
          clear hrun hmem HSTEP h
          simp only at HRUN
          go_wp2_with (at_builtin; refine wpList_append_run _ rfl (.tmp 52) (.tmp 54) 68 68 rfl _ _ rfl rfl (.slice a2 (k + 1) c2') w2 HRUN.out ?_)
          go_roundw
          case rel => exact ⟨k + 1, _, a2, c2', by omega, by omega, rfl, by go_num, HMEM⟩
          case measure => simp [intOf]; omega
        · rw [h] at hqm
          obtain ⟨a2, c2', w2, hrun, hmem⟩ := HSTEP.out ⟨4, 1 + u, 0, 0⟩ (dom_halt u hu) #[.int .i64 4, .int .i64 (1 + u), .int .i64 0, .int .i64 0]
          have HRUN := Lib.hid hrun
          have HMEM := Lib.hid hmem
          clear hrun hmem HSTEP h
          simp only at HRUN
          go_wp2_with (at_builtin; refine wpList_append_run _ rfl (.tmp 52) (.tmp 54) 68 68 rfl _ _ rfl rfl (.slice a2 (k + 1) c2') w2 HRUN.out ?_)
          go_roundw
          case rel => exact ⟨k + 1, _, a2, c2', by omega, by omega, rfl, by go_num, HMEM⟩
          case measure => simp [intOf]; omega
      · have hd8 : decide ((k : Int) < 8) = false := by simp; omega
        go_wp2
        rw [HPost.out]
        obtain ⟨hml, hmd, hnew⟩ := HM.out
        exact ⟨m, a', c', by rw [hml]; rfl, ⟨by omega, hmd⟩, hnew⟩
    · go_wp2
      rw [HPost.out]
      obtain ⟨hml, hmd, hnew⟩ := HM.out
      exact ⟨m, a', c', by rw [hml]; rfl, ⟨by omega, hmd⟩, hnew⟩
end Go.Proofs.Ytapiaogmmoofkaa
