/-
  Layer 9: may a player order it, of these units: the same answer on both sides.
-/
import Derived.Test.YtapiaogmmoofkaaValid9
namespace Go.Proofs.Ytapiaogmmoofkaa
open Go.RowKit
set_option linter.unusedVariables false

theorem found_lt {us : List Un} {id : Int} {n : Nat} (h : foundQ us id n = true) : ∃ hlt : n < us.length, us[n].id = id := by
  by_cases hlt : n < us.length
  · rw [foundQ_lt hlt] at h; exact ⟨hlt, by simpa using h⟩
  · rw [foundQ_ge (by omega)] at h; simp at h
theorem valid_both {K : Nat → Prop} (b : Nat) (us : List Un) (g : Int) (k u p q pl : Int) (hok : TabOk us g) : ∃ v : Nat,
    (∀ W, TabQ K b us g W → Calls Try.prog 34 #[.agg #[.int .i64 k, .int .i64 u, .int .i64 p, .int .i64 q], .pointer (some ⟨b, 0, none⟩), .int .i64 pl] W fun r w' => r = .returned (.int .i64 (v : Nat)) ∧ Below W.heap.size W w') ∧
    (∀ W a c nx, RT W a c us → Calls Try.prog 35 #[.agg #[.int .i64 k, .int .i64 u, .int .i64 p, .int .i64 q], .agg #[.slice a us.length c, .int .i64 nx], .int .i64 pl] W fun r w' => r = .returned (.int .i64 (v : Nat)) ∧ Below W.heap.size W w') := by
  by_cases hc : checkN ⟨k, u, p, q⟩ = 0
  case neg => exact ⟨_, fun W h => pv1 b us g k u p q pl W h _ rfl hc, fun W a c nx h => rv1 a c us nx k u p q pl W hok.1 hok.2.1 h _ rfl hc⟩
  by_cases hk : k = 3
  · subst hk
    exact ⟨0, fun W h => pv2 b us g u p q pl W h hc, fun W a c nx h => rv2 a c us nx u p q pl W hok.1 hok.2.1 h hc⟩
  have hkb : (k == 3) = false := by simp [hk]
  obtain ⟨n, hn⟩ := find_is us u hok.2.1
  cases hq : foundQ us u n with
  | false => exact ⟨9, fun W h => pv3 b us g k u p q pl W h hc hkb n hn hq, fun W a c nx h => rv3 a c us nx k u p q pl W hok.1 hok.2.1 h hc hkb n hn hq⟩
  | true =>
    obtain ⟨hlt, he⟩ := found_lt hq
    cases hp : (us[n].owner != pl) with
    | true => exact ⟨13, fun W h => pv4 b us g k u p q pl W h hc hkb n hn hlt he hp, fun W a c nx h => rv4 a c us nx k u p q pl W hok.1 hok.2.1 h hc hkb n hn hlt he hp⟩
    | false =>
      by_cases hk2 : k = 2
      case neg => exact ⟨0, fun W h => pv5 b us g k u p q pl W h hc hkb (by simp [hk2]) n hn hlt he hp, fun W a c nx h => rv5 a c us nx k u p q pl W hok.1 hok.2.1 h hc hkb (by simp [hk2]) n hn hlt he hp⟩
      subst hk2
      obtain ⟨n2, hn2⟩ := find_is us p hok.2.1
      cases hq2 : foundQ us p n2 with
      | false => exact ⟨9, fun W h => pv6 b us g u p q pl W h hc n hn hlt he hp 9 (fun W h => hit_none b us g p pl n2 W h hn2 hq2), fun W a c nx h => rv6 a c us nx u p q pl W hok.1 hok.2.1 h hc n hn hlt he hp n2 hn2 hq2⟩
      | true =>
        obtain ⟨hlt2, he2⟩ := found_lt hq2
        cases hp2 : (us[n2].owner == pl) with
        | true => exact ⟨13, fun W h => pv6 b us g u p q pl W h hc n hn hlt he hp 13 (fun W h => hit_own b us g p pl n2 W h hn2 hlt2 he2 hp2), fun W a c nx h => rv7 a c us nx u p q pl W hok.1 hok.2.1 h hc n hn hlt he hp n2 hn2 hlt2 he2 hp2⟩
        | false => exact ⟨0, fun W h => pv6 b us g u p q pl W h hc n hn hlt he hp 0 (fun W h => hit_ok b us g p pl n2 W h hn2 hlt2 he2 hp2), fun W a c nx h => rv8 a c us nx u p q pl W hok.1 hok.2.1 h hc n hn hlt he hp n2 hn2 hlt2 he2 hp2⟩
end Go.Proofs.Ytapiaogmmoofkaa
