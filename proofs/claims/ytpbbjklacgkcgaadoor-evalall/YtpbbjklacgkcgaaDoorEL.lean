/- From the row's condition on the package's tables to what the walks ask; the heap that the door's own run leaves meets it. -/
import Derived.Test.YtpbbjklacgkcgaaDoorEJ
import Derived.Test.YtpbbjklacgkcgaaDoorTie
import Derived.Test.YtpbbjklacgkcgaaDoorCards
import Derived.ProofKit
import Derived.LaidMore
import Derived.OpenShut
import Derived.Lib.LaidTab
import Derived.Stop.Joined
import Derived.SevenTiedAt
namespace Go.Proofs.YtpbbjklacgkcgaaDoor
open Go.ChangeShapes Go.WideShapes Go.ChangeAt Go.RowKit

def laid2 : List (String × DataW Unit) := [("parterre/eval.gates", Rows.laid_parterre_eval_gates), ("parterre/eval.negations", Rows.laid_parterre_eval_negations)]
theorem gGates : Tryd.prog.globalNamed "parterre/eval.gates" = some 0 := by kernel_rfl
theorem gNeg : Tryd.prog.globalNamed "parterre/eval.negations" = some 1 := by kernel_rfl
theorem tGates : (Tryd.prog.globals[0]?).map (·.type) = some 59 := by kernel_rfl
theorem tNeg : (Tryd.prog.globals[1]?).map (·.type) = some 58 := by kernel_rfl
theorem cInt : Tryd.prog.cellsOf 3 = 1 := by kernel_rfl
theorem cRow : Tryd.prog.cellsOf 58 = 3 := by kernel_rfl
theorem door_met (os : Os) (args : Array Value) : laidMetH Tryd.prog laid2 ((World.doorLaid Tryd.prog 400 os).forCall (fun _ _ => 0) ⟨#[], args, []⟩).memory :=
  laidMetH_of_parts3 (fuel := 8) (laidMet_of_run' 8 (by kernel_rfl) (by kernel_rfl)) (by kernel_rfl) (by kernel_rfl)

theorem row_cell {cs : List Value} {i j : Nat} {r : List Value} (hj : j < 3) (h : (cs.drop (i * 3)).take 3 = r) : cs[i * 3 + j]? = r[j]? := by
  rw [← h, List.getElem?_take_of_lt hj, List.getElem?_drop]

theorem of_laid {W : World} (h : laidMetH Tryd.prog laid2 W) : Tabs W := by
  rw [MakeChecks.laidMetH_plain _ _ _ (by kernel_rfl)] at h
  obtain ⟨ps, ⟨g0, t0, cs0, f0, p0, q0, hg0, ht0, hv0, hd0, ⟨g1, t1, cs1, f1, p1, q1, hg1, ht1, hv1, hd1, _, _⟩, _⟩, _, _⟩ := h
  obtain rfl := Option.some.inj (gGates.symm.trans hg0)
  obtain rfl := Option.some.inj (gNeg.symm.trans hg1)
  obtain rfl := Option.some.inj (tGates.symm.trans ht0)
  obtain rfl := Option.some.inj (tNeg.symm.trans ht1)
  have hN : cs1.toList = ([1, 0, 2] : List Int).map (Value.int .i64) := Lib.cells_of_tab Tryd.underlying58 Tryd.underlying3 cInt cRow hd1
  have hcell1 : ∀ i, W.cell? ⟨1, i, none⟩ = cs1.toList[i]? := fun i => by
    have := World.var?_cell hg1 hv1 i
    rw [Array.getElem?_toList]
    simpa using this
  have hcell0 : ∀ i, W.cell? ⟨0, i, none⟩ = cs0.toList[i]? := fun i => by
    have := World.var?_cell hg0 hv0 i
    rw [Array.getElem?_toList]
    simpa using this
  obtain ⟨xs, m1, rfl, hx1, hlen, hn3, hel⟩ := DataW.trod_array Tryd.underlying59 hd0
  rw [cRow] at hel
  simp only [Prod.mk.injEq, Rows.laid_parterre_eval_gates, DataW.agg.injEq] at hx1
  match xs, hn3, hx1, hel with
  | [x0, x1, x2], _, hx1, hel =>
    simp only [List.map_cons, List.map_nil, List.cons.injEq] at hx1
    obtain ⟨⟨e0, e1, e2, _⟩, _⟩ := hx1
    have r0 := Lib.cells_of_tab (k := .i64) (zs := [0, 0, 0]) (p := x0.2) Tryd.underlying58 Tryd.underlying3 cInt cRow ((hel 0 (by omega)).trans (by rw [show Lib.tabData .i64 [0, 0, 0] = x0.1 from e0]; rfl))
    have r1 := Lib.cells_of_tab (k := .i64) (zs := [0, 1, 2]) (p := x1.2) Tryd.underlying58 Tryd.underlying3 cInt cRow ((hel 1 (by omega)).trans (by rw [show Lib.tabData .i64 [0, 1, 2] = x1.1 from e1]; rfl))
    have r2 := Lib.cells_of_tab (k := .i64) (zs := [0, 2, 2]) (p := x2.2) Tryd.underlying58 Tryd.underlying3 cInt cRow ((hel 2 (by omega)).trans (by rw [show Lib.tabData .i64 [0, 2, 2] = x2.1 from e2]; rfl))
    have hneg : ∀ i : Nat, i < 3 → W.cell? ⟨1, i, none⟩ = some (.int .i64 (Em.turnT i)) := by
      intro i hi
      rw [hcell1, hN]
      have : i = 0 ∨ i = 1 ∨ i = 2 := by omega
      rcases this with rfl | rfl | rfl <;> rfl
    refine ⟨fun i j hi hj => ?_, hneg, World.block_lt_of_cell? W ⟨1, 0, none⟩ (hneg 0 (by omega))⟩
    rw [hcell0]
    have hi' : i = 0 ∨ i = 1 ∨ i = 2 := by omega
    have hj' : j = 0 ∨ j = 1 ∨ j = 2 := by omega
    rcases hi' with rfl | rfl | rfl
    · rw [row_cell hj r0]; rcases hj' with rfl | rfl | rfl <;> rfl
    · rw [row_cell hj r1]; rcases hj' with rfl | rfl | rfl <;> rfl
    · rw [row_cell hj r2]; rcases hj' with rfl | rfl | rfl <;> rfl
end Go.Proofs.YtpbbjklacgkcgaaDoor
