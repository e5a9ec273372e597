/-
  Layer 13: what came: how many wait, and what is told, with a map or without one.
-/
import Derived.Test.YtlhcihjplolgiaaWinG
namespace Go.Proofs.Ytlhcihjplolgiaa
open Go.RowKit Go.ChangeMaps
set_option linter.unusedVariables false

theorem bits_zero {P : Nat → Prop} (h : ∀ k, ¬ P k) : ∀ k, Nat.testBit 0 k = true ↔ P k := fun k => by simp [h k]
set_option maxRecDepth 100000 in
set_option maxHeartbeats 2000000 in
theorem inAck_none (b nx : Nat) (w : World) (h : W0At w b nx) : Calls Try.prog 93 #[.pointer (some ⟨b, 0, none⟩)] w (AckPost w ⟨nx, []⟩) := by
  have c0 := h.c0
  have c1 := h.c1
  have hbl := h.lt
  have hrg := run_range_nilMap (P := Try.prog) ((w.alloc (.cells #[.int .u32 0, .int .u32 0] 134)).alloc (.cells #[.int .u32 (nx : Int), .int .u32 0] 134)) 201 132 142 Try.underlying201
  have hnn := fun ty => run_next_nilMap (P := Try.prog) ((w.alloc (.cells #[.int .u32 0, .int .u32 0] 134)).alloc (.cells #[.int .u32 (nx : Int), .int .u32 0] 134)) ty 0 0 #[]
  have e2 : ((w.alloc (.cells #[.int .u32 0, .int .u32 0] 134)).alloc (.cells #[.int .u32 (nx : Int), .int .u32 0] 134)).heap.size = w.heap.size + 1 + 1 := by simp
  simp only [e2] at hrg hnn
  clear e2
  generalize hpost : AckPost w ⟨nx, []⟩ = Post
  have HPost := Lib.hid hpost
  clear h hpost
  go_enter Try.func93, Try.ntmps93
  go_wp2
  refine wp_loop_rounds 1 ?_
  rw [rounds_succ]
  go_wp2
  exact bodyPost_ret (v := .agg #[.int .u32 (nx : Int), .int .u32 0]) (by simp [results, Try.results93, go_sem]) rfl (by rw [← HPost.out]; exact ⟨⟨0, rfl, by decide, fun k => by simp⟩, bel_alloc (bel_alloc (bel_alloc (Below.refl _ _) _) _) _⟩)
theorem inAck_any (b : Nat) (mo : Option Nat) (s : Ws) (w : World) (h : WI w b mo s) (hok : OkW s) : Calls Try.prog 93 #[.pointer (some ⟨b, 0, none⟩)] w (AckPost w s) := by
  rcases h with ⟨h1, h2, h3⟩ | ⟨r, h1, h2⟩
  · obtain ⟨nx, l⟩ := s
    simp only at h2 h3
    subst h2
    exact inAck_none b nx w h3
  · exact inAck_some b r s w h2 hok
theorem len_map {w : World} {r : Nat} {L : List (Nat × Value)} {q : IntKind} (h : MpAt q w r L) (t ty : TypeId) {k e : TypeId} (ht : Try.prog.underlying t = some (.map k e)) : (Builtin.len_ #[t] ty #[.map (some r)]).run Try.prog w = .ok (.int .i64 (L.length : Int)) w := by
  obtain ⟨es, clock, hb, he, -⟩ := h.ex
  have hl := ents_len he
  simp [Builtin.len_, run_underlying ht, MapKept.run_getObj_map hb, Result.andThen, hl]
  rfl
end Go.Proofs.Ytlhcihjplolgiaa
