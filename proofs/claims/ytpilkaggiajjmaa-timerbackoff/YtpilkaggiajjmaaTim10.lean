/-
  Layer 14: some wait no more.
-/
import Derived.Test.YtpilkaggiajjmaaTim8
import Derived.Test.YtpilkaggiajjmaaWinP
namespace Go.Proofs.Ytpilkaggiajjmaa
open Go.RowKit
set_option linter.unusedVariables false

/-- Does a number stand in a list? -/
def inN (ns : List Nat) (m : Nat) : Bool := ns.any (fun x => x == m)
def InPostN (ns : List Nat) (m : Nat) (w : World) (r : Ending) (w' : World) : Prop := (∃ z : Int, r = .returned (.int .i64 z) ∧ decide (0 ≤ z) = inN ns m) ∧ w = w'
set_option maxRecDepth 100000 in
set_option maxHeartbeats 1000000 in
theorem indexN_any (a : Option Addr) (c m : Nat) (ns : List Nat) (w : World) (hl : ns.length ≤ 9223372036854775807) (hr : VRow 1 w a (ns.map u32C)) :
    Calls Try.prog 86 #[.slice a ns.length c, .int .u32 (m : Int)] w (InPostN ns m w) := by
  have HR := Lib.hid hr
  generalize hpost : InPostN ns m w = Post
  have HPost := Lib.hid hpost
  clear hr hpost
  go_enter Try.func86, Try.ntmps86
  go_wp2
  go_loopw [8] (fun i wr => ∃ k : Nat, k ≤ ns.length ∧ i = .int .i64 k ∧ Hid ((∀ j (hj : j < ns.length), j < k → (ns[j] == m) = false) ∧ w = wr)) (fun i _ => ns.length - (intOf i).toNat)
  case atStart => exact ⟨0, by omega, rfl, Lib.hid ⟨fun j hj h => by omega, rfl⟩⟩
  case round =>
    obtain ⟨k, hk, rfl, HM⟩ := hrel
    obtain ⟨hno, rfl⟩ := HM.out
    by_cases hlt : k < ns.length
    · obtain ⟨b, off, rfl, hb, c0⟩ := VRow.at1 (f := u32C) (g := fun n => .int .u32 (n : Int)) (fun _ => rfl) HR.out hlt
      have HX := Lib.hid (show ns[k] = m → inN ns m = true from fun h => by unfold inN; rw [List.any_eq_true]; exact ⟨ns[k], List.getElem_mem hlt, by simpa using h⟩)
      have HNX := Lib.hid (show ns[k] ≠ m → ∀ j (hj : j < ns.length), j < k + 1 → (ns[j] == m) = false from fun h j hj hjk => by
        by_cases e : j = k
        · subst e; simpa using h
        · exact hno j hj (by omega))
      generalize ns[k] = u at c0 HX HNX
      have hi0 : (0 : Int) ≤ (k : Int) := by omega
      have hi1 : (k : Int) < (ns.length : Int) := by omega
      clear hno HM
      by_cases he : u = m
      · have HF : Hid (InPostN ns m w (.returned (.int .i64 (k : Int))) w) := Lib.hid ⟨⟨_, rfl, by rw [HX.out he]; exact decide_eq_true (by omega)⟩, rfl⟩
        rw [HPost.out] at HF
        subst he
        go_wp2
        exact HF.out
      · have HN := Lib.hid (HNX.out he)
        have hib : ((m : Int) == (u : Int)) = false := by rw [beq_eq_false_iff_ne]; omega
        clear he HX HNX
        go_wp2
        go_roundw
        case rel => exact ⟨k + 1, by omega, by go_num, Lib.hid ⟨HN.out, trivial⟩⟩
        case measure => simp [intOf] <;> omega
    · have HF : Hid (InPostN ns m w (.returned (.int .i64 (-1))) w) := Lib.hid ⟨⟨_, rfl, by
        have : inN ns m = false := by
          unfold inN
          rw [List.any_eq_false]
          intro x hx
          obtain ⟨j, hj, rfl⟩ := List.getElem_of_mem hx
          simpa using hno j hj (by omega)
        rw [this]; rfl⟩, rfl⟩
      rw [HPost.out] at HF
      have hi1 : (ns.length : Int) ≤ (k : Int) := by omega
      clear hno HM
      go_wp2
      exact HF.out
set_option maxRecDepth 100000 in
theorem containsN_any (a : Option Addr) (c m : Nat) (ns : List Nat) (w : World) (hl : ns.length ≤ 9223372036854775807) (hr : VRow 1 w a (ns.map u32C)) :
    Calls Try.prog 64 #[.slice a ns.length c, .int .u32 (m : Int)] w fun r w' => r = .returned (.bool (inN ns m)) ∧ w = w' := by
  have HI := Lib.hid (indexN_any a c m ns w hl hr)
  clear hr
  go_enter Try.func64, Try.ntmps64
  go_wp2_with fail
  refine HI.out.mono ?_
  rintro r w1 ⟨⟨z, rfl, hz⟩, rfl⟩
  have HZ := Lib.hid hz
  clear hz
  go_wp2
  go_ret
  exact ⟨by rw [← HZ.out]; rfl, rfl⟩
/-- What is asked of a closure that tells of one while the row is written. -/
def TellsT (g : Nat) (lb : Array Value) (l : List Tn) (p : Tn → Bool) (S : Nat → Prop) (w : World) : Prop := ∀ (W : World) (n d g' t : Nat), (⟨n, d, g', t⟩ : Tn) ∈ l → Touch S w W → Calls Try.prog g (#[.agg #[.int .u32 (n : Int), .int .i64 (d : Int), .int .i64 (g' : Int), .int .i64 (t : Int)]] ++ lb) W fun r w' => r = .returned (.bool (p ⟨n, d, g', t⟩)) ∧ Below W.heap.size W w'
theorem TellsT.tells {g : Nat} {lb : Array Value} {l : List Tn} {p : Tn → Bool} {S : Nat → Prop} {w : World} (h : TellsT g lb l p S w) : TellsB g lb l p w := fun W n d g' t hx hb => (h W n d g' t hx (touch_of_below hb)).mono fun _ _ ⟨h1, h2⟩ => ⟨h1, hb.trans (h2.mono hb.size)⟩
set_option maxRecDepth 100000 in
theorem stop1_any (B c : Nat) (a : Option Addr) (ns : List Nat) (l : List Tn) (S : Nat → Prop) (w : World) (hB : w.cell? ⟨B, 0, none⟩ = some (.slice a ns.length c)) (hS : ¬ S B) (hrT : ∀ W, Touch S w W → VRow 1 W a (ns.map u32C)) (hl : ns.length ≤ 9223372036854775807) : TellsT 63 #[.pointer (some ⟨B, 0, none⟩)] l (fun x => inN ns x.n) S w := by
  intro W n d g t hx ht
  show Calls Try.prog 63 #[.agg #[.int .u32 (n : Int), .int .i64 (d : Int), .int .i64 (g : Int), .int .i64 (t : Int)], .pointer (some ⟨B, 0, none⟩)] W fun r w' => r = .returned (.bool (inN ns n)) ∧ Below W.heap.size W w'
  have hBl := block_lt_of_cell hB
  have c0 := (ht.cell (p := ⟨B, 0, none⟩) hBl hS).trans hB
  have hBW : B < W.heap.size := block_lt_of_cell c0
  have hrW := hrT W ht
  have hA := bel_alloc (Below.refl W.heap.size W) (.cells #[.int .u32 (n : Int), .int .i64 (d : Int), .int .i64 (g : Int), .int .i64 (t : Int)] 135)
  have HC := Lib.hid (containsN_any a c n ns _ hl (hrW.touch (by decide) (num_wide _) (touch_of_below (S := fun _ => False) hA) (fun _ _ => id)))
  have HA := Lib.hid hA
  clear hB hBl hrT hrW hA ht hx
  generalize inN ns n = q at HC ⊢
  go_enter Try.func63, Try.ntmps63
  go_wp2_with fail
  refine HC.out.mono ?_
  rintro r w1 ⟨rfl, rfl⟩
  go_wp2
  go_ret
  exact ⟨rfl, HA.out⟩
end Go.Proofs.Ytpilkaggiajjmaa
