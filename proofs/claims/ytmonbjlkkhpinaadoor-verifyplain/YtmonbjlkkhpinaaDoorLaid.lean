/-
  What the rows' condition on the listed variables gives: the words of the ops; how many arguments the calls of the host take.
-/
import Derived.Test.YtmonbjlkkhpinaaDoorCode
import Derived.LaidMore
import Derived.ProofKit
import Derived.OpenShut
import Derived.Lib.LaidTab
namespace Go.Proofs.YtmonbjlkkhpinaaDoor
open Go.RowKit
set_option linter.unusedVariables false

theorem names_laid {W : World} (h : laidMetH Tryd.prog [("cotillion/code.names", Rows.laid_cotillion_code_names)] W) : NamesAt W := by
  have gN : Tryd.prog.globalNamed "cotillion/code.names" = some 0 := by kernel_rfl
  have tN : (Tryd.prog.globals[0]?).map (·.type) = some 95 := by kernel_rfl
  rw [MakeChecks.laidMetH_plain _ _ _ (by kernel_rfl)] at h
  obtain ⟨ps, ⟨g0, t0, cs0, f0, p0, q0, hg0, ht0, hv0, hd0, _⟩, _, _⟩ := h
  obtain rfl := Option.some.inj (gN.symm.trans hg0)
  obtain rfl := Option.some.inj (tN.symm.trans ht0)
  obtain ⟨xs, m1, rfl, hx1, hlen, hn3, hel⟩ := DataW.trod_array Tryd.underlying95 hd0
  have c9 : Tryd.prog.cellsOf 9 = 1 := by kernel_rfl
  have hx : (opWords.map fun x => (DataW.lit (.string x) : DataW Unit)) = xs.map (·.1) := by
    simp only [Prod.mk.injEq, Rows.laid_cotillion_code_names, DataW.agg.injEq] at hx1
    exact hx1.1
  intro o ho
  have h0 := hel o (by omega)
  rw [c9, Nat.mul_one] at h0
  have hox : o < xs.length := by omega
  rw [List.getElem?_eq_getElem hox] at h0
  obtain ⟨s, e1, e2, _⟩ := DataW.trod_string Tryd.underlying9 h0
  have hol : o < opWords.length := by have : opWords.length = 23 := rfl; omega
  have h3 : (opWords.map fun x => (DataW.lit (.string x) : DataW Unit))[o]? = (xs.map (·.1))[o]? := by rw [hx]
  rw [List.getElem?_map, List.getElem?_map, List.getElem?_eq_getElem hol, List.getElem?_eq_getElem hox, e2] at h3
  simp only [Option.map_some, Option.some.injEq, DataW.lit.injEq, Lit.string.injEq] at h3
  have hs : bs (opWords.getD o []) = s := by
    rw [List.getD_eq_getElem?_getD, List.getElem?_eq_getElem hol, Option.getD_some, h3, bs_eta]
  have hc := World.var?_cell hg0 hv0 o
  rw [hs, hc]
  have h4 : cs0.toList[o]? = some (.string s) := by
    have := congrArg (·[0]?) e1
    simpa using this
  simpa using h4
/-- How many arguments the calls of the host take. -/
def hostT : List Int := [3, 1, 2, 3, 0, 1, 0]
def HostsAt (w : World) : Prop := ∀ o, o < 7 → w.cell? ⟨1, o, none⟩ = some (.int .i64 (hostT.getD o 0))
theorem HostsAt.below {w w' : World} (h : HostsAt w) (hb : Below w.heap.size w w') : HostsAt w' :=
  fun o ho => (hb.cell (p := ⟨1, o, none⟩) (block_lt_of_cell (h o ho))).trans (h o ho)
theorem hosts_laid {W : World} (h : laidMetH Tryd.prog [("cotillion/verify.hostArgs", Rows.laid_cotillion_verify_hostArgs)] W) : HostsAt W := by
  have gN : Tryd.prog.globalNamed "cotillion/verify.hostArgs" = some 1 := by kernel_rfl
  have tN : (Tryd.prog.globals[1]?).map (·.type) = some 107 := by kernel_rfl
  rw [MakeChecks.laidMetH_plain _ _ _ (by kernel_rfl)] at h
  obtain ⟨ps, ⟨g0, t0, cs0, f0, p0, q0, hg0, ht0, hv0, hd0, _⟩, _, _⟩ := h
  obtain rfl := Option.some.inj (gN.symm.trans hg0)
  obtain rfl := Option.some.inj (tN.symm.trans ht0)
  have hcs := Lib.cells_of_tab (zs := hostT) Tryd.underlying107 Tryd.underlying3 (by kernel_rfl) (by kernel_rfl) hd0
  intro o ho
  rw [World.var?_cell hg0 hv0 o]
  have : cs0.toList[o]? = some (.int .i64 (hostT.getD o 0)) := by
    rw [hcs, List.getElem?_map, List.getD_eq_getElem?_getD, List.getElem?_eq_getElem (by simpa [hostT] using ho)]
    rfl
  simpa using this
end Go.Proofs.YtmonbjlkkhpinaaDoor
