/-
  The document's own reader, a thing by value: what each of its calls comes to.
-/
import Derived.Test.YtpilkaggiajjmaaWireTake
import Derived.Test.YtpilkaggiajjmaaWireRef
import Derived.RegionTactic
namespace Go.Proofs.Ytpilkaggiajjmaa
open Go.RowKit
set_option linter.unusedVariables false

/-- A reader as a value. -/
def inV (st : List UInt8 × Nat) : Value := .agg #[.string (bs st.1), .int .i64 (st.2 : Nat)]
def InOk (st : List UInt8 × Nat) : Prop := (st.2 ≠ 0 → st.1 = []) ∧ st.1.length ≤ 1000000000 ∧ st.2 ≤ 1000
theorem refFail_any (l : List UInt8) (e x : Nat) (w : World) :
    Calls Try.prog 93 #[.agg #[.string (bs l), .int .i64 e], .int .i64 x] w fun r w' => r = .returned (inV (failS (l, e) x)) ∧ Below w.heap.size w w' := by
  by_cases he : e = 0
  · subst he
    by_cases hx0 : x = 0
    · subst hx0
      go_enter Try.func93, Try.ntmps93
      go_wp2
      exact bodyPost_ret (v := .agg #[.string (bs l), .int .i64 0]) (by simp [results, Try.results93, go_sem]) rfl ⟨rfl, ((Below.refl _ _).alloc (Nat.le_refl _) _).alloc (by simp) _⟩
    · have hxb : ((x : Int) != 0) = true := by simp; omega
      have HE := Lib.hid (show failS (l, 0) x = ([], x) from if_pos ⟨rfl, hx0⟩)
      clear hx0
      go_enter Try.func93, Try.ntmps93
      go_wp2
      exact bodyPost_ret (v := .agg #[.string ⟨#[]⟩, .int .i64 x]) (by simp [results, Try.results93, go_sem]) rfl ⟨by rw [HE.out]; rfl, ((Below.refl _ _).alloc (Nat.le_refl _) _).alloc (by simp) _⟩
  · have heb : ((e : Int) == 0) = false := by simp; omega
    have HE := Lib.hid (show failS (l, e) x = (l, e) from if_neg (fun h => he h.1))
    clear he
    go_enter Try.func93, Try.ntmps93
    go_wp2
    exact bodyPost_ret (v := .agg #[.string (bs l), .int .i64 e]) (by simp [results, Try.results93, go_sem]) rfl ⟨by rw [HE.out]; rfl, ((Below.refl _ _).alloc (Nat.le_refl _) _).alloc (by simp) _⟩
theorem rawS_err {l : List UInt8} {e : Nat} (n : Int) (he : e ≠ 0) (h : e ≠ 0 → l = []) : rawS (l, e) n = ((l, e), []) := by
  have hl := h he
  subst hl
  unfold rawS failS
  split
  · rw [if_neg (fun h => he h.1)]
  · simp
theorem rawS_none (l : List UInt8) (e : Nat) (n : Int) (hn : n ≤ 0) : rawS (l, e) n = ((l, e), []) := by
  have : n.toNat = 0 := by omega
  unfold rawS
  rw [this, if_neg (by simp)]
  simp
theorem rawS_end (l : List UInt8) (n : Int) (hn : (l.length : Int) < n) : rawS (l, 0) n = (([], 1), []) := by
  unfold rawS failS
  rw [if_pos (by show l.length < n.toNat; omega), if_pos ⟨rfl, by decide⟩]
theorem rawS_yes (l : List UInt8) (m : Nat) (hn : m ≤ l.length) : rawS (l, 0) (m : Int) = ((l.drop m, 0), l.take m) := by
  unfold rawS
  rw [if_neg (by simp; omega)]
  simp
theorem refRaw_any (l : List UInt8) (e : Nat) (n : Int) (w : World) (hl : l.length ≤ 1000000000) (h : e ≠ 0 → l = []) :
    Calls Try.prog 94 #[.agg #[.string (bs l), .int .i64 e], .int .i64 n] w fun r w' => r = .returned (.tuple #[inV (rawS (l, e) n).1, .string (bs (rawS (l, e) n).2)]) ∧ Below w.heap.size w w' := by
  have hz := bs_size l
  by_cases he : e = 0
  · subst he
    clear h
    by_cases hn : n ≤ 0
    · have HE := Lib.hid (rawS_none l 0 n hn)
      go_enter Try.func94, Try.ntmps94
      go_wp2
      exact bodyPost_ret (v := .tuple #[.agg #[.string (bs l), .int .i64 0], .string ⟨#[]⟩]) (by simp [results, Try.results94, go_sem]) rfl ⟨by rw [HE.out]; rfl, ((Below.refl _ _).alloc (Nat.le_refl _) _).alloc (by simp) _⟩
    · by_cases hl2 : (l.length : Int) < n
      · have HE := Lib.hid (rawS_end l n hl2)
        go_enter Try.func94, Try.ntmps94
        go_wp2
        exact bodyPost_ret (v := .tuple #[.agg #[.string ⟨#[]⟩, .int .i64 1], .string ⟨#[]⟩]) (by simp [results, Try.results94, go_sem]) rfl ⟨by rw [HE.out]; rfl, ((Below.refl _ _).alloc (Nat.le_refl _) _).alloc (by simp) _⟩
      · obtain ⟨m, rfl⟩ := Int.eq_ofNat_of_zero_le (show 0 ≤ n by omega)
        have hm : m ≤ l.length := by omega
        have HE := Lib.hid (rawS_yes l m hm)
        have HX := Lib.hid (extract_take (bs l) m)
        have HY := Lib.hid (extract_drop (bs l) m)
        rw [bs_list] at HX HY
        rw [hz] at HY
        go_enter Try.func94, Try.ntmps94
        go_wp2
        go_region
        all_goals go_wp2
        all_goals exact bodyPost_ret (v := .tuple #[.agg #[.string ((bs l).extract m l.length), .int .i64 0], .string ((bs l).extract 0 m)]) (by simp [results, Try.results94, go_sem]) rfl ⟨by rw [HE.out]; show _ = Ending.returned (.tuple #[.agg #[.string (bs (l.drop m)), .int .i64 0], .string (bs (l.take m))]); rw [← HX.out, ← HY.out], (((Below.refl _ _).alloc (Nat.le_refl _) _).alloc (by simp) _).drew⟩
  · have heb : ((e : Int) != 0) = true := by simp; omega
    have HE := Lib.hid (rawS_err n he h)
    clear he h
    go_enter Try.func94, Try.ntmps94
    go_wp2
    exact bodyPost_ret (v := .tuple #[.agg #[.string (bs l), .int .i64 e], .string ⟨#[]⟩]) (by simp [results, Try.results94, go_sem]) rfl ⟨by rw [HE.out]; rfl, ((Below.refl _ _).alloc (Nat.le_refl _) _).alloc (by simp) _⟩
theorem pow_le {i : Nat} (h : i ≤ 8) : (128 : Nat) ^ i ≤ 72057594037927936 := by
  have h1 : (128 : Nat) ^ i ≤ 128 ^ 8 := Nat.pow_le_pow_right (by decide) h
  have h2 : (128 : Nat) ^ 8 = 72057594037927936 := by decide
  omega
set_option maxRecDepth 100000 in
theorem pow_any (k q : Nat) (w : World) (hk : k ≤ 9) (hq : q = 128 ^ k) : Calls Try.prog 111 #[.int .i64 k] w fun e w' => e = .returned (.int .u64 (q : Int)) ∧ w' = w := by
  have HQ := Lib.hid hq
  clear hq
  go_enter Try.func111, Try.ntmps111
  go_wp2
  go_loop [3, 4] (fun x i => ∃ j p : Nat, j ≤ k ∧ i = .int .i64 j ∧ x = .int .u64 p ∧ Hid (p = 128 ^ j)) (fun _ i => k - (intOf i).toNat)
  case atStart => exact ⟨0, 1, by omega, rfl, rfl, Lib.hid rfl⟩
  case round =>
    obtain ⟨j, p, hj, rfl, rfl, HP⟩ := hrel
    by_cases hlt : j < k
    · have hp : p ≤ 72057594037927936 := by rw [HP.out]; exact pow_le (by omega)
      go_wp2
      go_round
      case rel => exact ⟨j + 1, p * 128, by omega, by go_num, by go_num, Lib.hid (by rw [HP.out, Nat.pow_succ])⟩
      case measure => simp [intOf]; omega
    · have HJ := Lib.hid (show p = q by rw [HP.out, HQ.out]; congr 1; omega)
      go_wp2
      go_ret
      exact ⟨ret_int (by rw [HJ.out]), rfl⟩
end Go.Proofs.Ytpilkaggiajjmaa
