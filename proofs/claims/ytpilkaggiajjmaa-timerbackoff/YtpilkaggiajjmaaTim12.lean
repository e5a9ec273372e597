/-
  Layer 14: some wait no more: the timers' call.
-/
import Derived.Test.YtpilkaggiajjmaaTim11
namespace Go.Proofs.Ytpilkaggiajjmaa
open Go.RowKit
set_option linter.unusedVariables false

def goneT (ns : List Nat) (l : List Tn) : List Tn := leftT (fun x => inN ns x.n) l
def StopPost (w : World) (b : Nat) (f mo : Int) (a : Option Addr) (c : Nat) (l : List Tn) (ns : List Nat) (r : Ending) (w' : World) : Prop :=
  r = .returned (.int .i64 ((l.length : Int) - ((goneT ns l).length : Int))) ∧ TAt w' b f mo a c (goneT ns l) ∧ Touch (fun j => j = b ∨ a.map (·.block) = some j) w w'
set_option maxRecDepth 100000 in
set_option maxHeartbeats 1000000 in
theorem tstop_any (b : Nat) (f mo : Int) (a : Option Addr) (c : Nat) (l : List Tn) (la : Option Addr) (lc : Nat) (ns : List Nat) (w : World) (h : TAt w b f mo a c l) (hl : l.length ≤ 1000) (hns : ns.length ≤ 1000) (hr : VRow 1 w la (ns.map u32C)) (hd : ns = [] ∨ ∀ x y, la = some x → a = some y → x.block ≠ y.block) :
    Calls Try.prog 35 #[.pointer (some ⟨b, 0, none⟩), .slice la ns.length lc] w (StopPost w b f mo a c l ns) := by
  have hA : Below w.heap.size w (w.alloc (.cells #[.slice la ns.length lc] 40)) := bel_alloc (Below.refl _ _) _
  have h1 := h.keep hA
  have hS : ¬ (a.map (·.block) = some w.heap.size) := fun e => by
    have h0 : w.heap.size < w.heap.size := map_none (P := fun j => j < w.heap.size) (fun x hx => h.row.lt x hx) _ e
    omega
  have HD := Lib.hid (delF_any 63 #[.pointer (some ⟨w.heap.size, 0, none⟩)] (enters_of Try.func63 (by kernel_rfl) rfl) a c l (fun x => inN ns x.n) (w.alloc (.cells #[.slice la ns.length lc] 40)) hl h1.row (stop1_any w.heap.size lc la ns l _ _ (by simp) hS (fun W ht => by
    rcases hd with rfl | hd
    · intro h0; simp at h0
    · exact (hr.touch (by decide) (num_wide _) (touch_of_below (S := fun _ => False) hA) (fun _ _ => id)).touch (by decide) (num_wide _) ht (fun x hx e => map_none (P := fun j => x.block = j → False) (fun y hy e => hd x y hx hy e) _ e rfl)) (by omega)))
  have H1 := Lib.hid h1
  have HA := Lib.hid hA
  have c2 := h1.c2
  have hbl := h1.lt
  have hgl : (leftT (fun x => inN ns x.n) l).length ≤ l.length := List.length_filter_le _ _
  generalize hpost : StopPost w b f mo a c l ns = Post
  have HPost := Lib.hid hpost
  clear h hr hd hS h1 hpost hA
  have hlb : (l.length : Int) ≤ 1000 := by omega
  go_enter Try.func35, Try.ntmps35
  go_wp2_with fail
  refine HD.out.mono ?_
  rintro r w2 ⟨rfl, ho, ht⟩
  obtain ⟨q2, g2, hb2, hat, htt⟩ := H1.out.store ho ht (fun x hx => .inl (by rw [hx]; rfl)) (leftT (fun x => inN ns x.n) l).length rfl
  have HF : Hid (StopPost w b f mo a c l ns (.returned (.int .i64 ((l.length : Int) - ((leftT (fun x => inN ns x.n) l).length : Int)))) (w2.setCell ⟨b, 2, none⟩ (.slice a (leftT (fun x => inN ns x.n) l).length c))) := Lib.hid ⟨rfl, hat, (touch_of_below HA.out).trans htt⟩
  rw [HPost.out] at HF
  clear ho ht hat htt HD H1 HA
  generalize (leftT (fun x => inN ns x.n) l).length = q at hgl HF ⊢
  have hq : (q : Int) ≤ (l.length : Int) := by omega
  go_wp2
  exact HF.out
end Go.Proofs.Ytpilkaggiajjmaa
