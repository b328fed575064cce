/- slices.Grow, slices.Concat of two slices of gates; extended. -/
import Derived.Test.YteabffdddlihnaaH
import Derived.Lib.AppendZeros
namespace Go.Proofs.Yteabffdddlihnaa
open Go.RowKit

/-- An empty row of the call's own is handed back. -/
def EmptyPost (w : World) (e : Ending) (w' : World) : Prop := ∃ v, e = .returned v ∧ Own w' w.heap.size v [] ∧ Below w.heap.size w w'

theorem zeroCells_size (z : Array Value) (n : Nat) : (Builtin.zeroCells z n).size = n * z.size := by
  simp [Builtin.zeroCells]

theorem Own.block {w : World} {base : Nat} {v : Value} {gs : List (Int × Int)} (h : Own w base v gs) : ∀ k, v.ownBlock = some k → base ≤ k := by
  intro k e
  rcases h.2 with ⟨rfl, _⟩ | ⟨g, cap, cur, rfl, hb, _⟩
  · cases e
  · simp [Value.ownBlock] at e
    omega

/-- What the second loop keeps. -/
def CRel (w : World) (gs hs : List (Int × Int)) (v i : Value) (wr : World) : Prop :=
  Below w.heap.size w wr ∧ ((i = .int .i64 0 ∧ Own wr w.heap.size v []) ∨ (i = .int .i64 1 ∧ Own wr w.heap.size v gs) ∨ (i = .int .i64 2 ∧ Own wr w.heap.size v (gs ++ hs)))

end Go.Proofs.Yteabffdddlihnaa
