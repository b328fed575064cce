/- graph.And. -/
import Derived.Test.YteabffdddlihnaaK
namespace Go.Proofs.Yteabffdddlihnaa
open Go.RowKit

/-- A graph, a literal and an error are handed back. -/
def AndPost (r : Gm.Res) (B : Nat) (w : World) (e : Ending) (w' : World) : Prop :=
  ∃ A' c', e = .returned (.tuple #[.agg #[.int .i64 r.1.1, .slice A' r.1.2.length c'], .int .i64 r.2.1, .int .i64 r.2.2]) ∧ Gr w' w'.heap.size A' r.1.2 ∧ Sep B w.heap.size A' ∧ Below w.heap.size w w'

/-- The boxes of a call: the graph at block k, the result behind it. -/
structure Boxes (w W : World) (n : Int) (s : Value) : Prop where
  low : Below w.heap.size w W
  d0 : W.cell? ⟨w.heap.size, 0, none⟩ = some (.int .i64 n)
  d1 : W.cell? ⟨w.heap.size, 1, none⟩ = some s
  e0 : W.cell? ⟨w.heap.size + 1, 0, none⟩ = some (.int .i64 0)
  e1 : W.cell? ⟨w.heap.size + 1, 1, none⟩ = some (.slice none 0 0)
  f0 : W.frozen? ⟨w.heap.size + 1, 0, none⟩ = false
  f1 : W.frozen? ⟨w.heap.size + 1, 1, none⟩ = false
  sz : w.heap.size + 1 < W.heap.size
theorem Boxes.grown {w W W' : World} {n : Int} {s : Value} {k : Nat} (h : Boxes w W n s) (hg : W.grownBy W' (some k)) (hk : w.heap.size + 1 < k) : Boxes w W' n s := by
  have hc : ∀ b i, b < w.heap.size + 2 → W'.cell? ⟨b, i, none⟩ = W.cell? ⟨b, i, none⟩ := fun b i hb => World.cell?_of_block (hg.block b (by have := h.sz; omega) (fun e => by injection e with e; omega))
  have hf : ∀ b i, b < w.heap.size + 2 → W'.frozen? ⟨b, i, none⟩ = W.frozen? ⟨b, i, none⟩ := fun b i hb => World.frozen?_of_block (hg.block b (by have := h.sz; omega) (fun e => by injection e with e; omega))
  exact ⟨h.low.grown hg h.low.size (fun j e => by injection e with e; omega), (hc _ _ (by omega)).trans h.d0, (hc _ _ (by omega)).trans h.d1, (hc _ _ (by omega)).trans h.e0, (hc _ _ (by omega)).trans h.e1, (hf _ _ (by omega)).trans h.f0, (hf _ _ (by omega)).trans h.f1, Nat.lt_of_lt_of_le h.sz hg.size⟩
theorem Boxes.below {w W W' : World} {n : Int} {s : Value} (h : Boxes w W n s) (hb : Below W.heap.size W W') : Boxes w W' n s :=
  h.grown (k := w.heap.size + 2) (grown_of_below hb _) (by omega)

theorem and_close {w w2 : World} {n : Int} {s : Value} {r : Gm.Res} {B : Nat} {A' : Option Addr} {c' : Nat} (h : Boxes w w2 n s) (hB : B ≤ w.heap.size) (hG : Gr w2 w2.heap.size A' r.1.2) (hsep : Sep B (w.heap.size + 2) A') :
    AndPost r B w (.returned (.tuple #[.agg #[.int .i64 r.1.1, .slice A' r.1.2.length c'], .int .i64 r.2.1, .int .i64 r.2.2]))
      ((w2.setCell ⟨w.heap.size + 1, 0, none⟩ (.int .i64 r.1.1)).setCell ⟨w.heap.size + 1, 1, none⟩ (.slice A' r.1.2.length c')) := by
  have hne : ∀ ad, A' = some ad → ad.block ≠ w.heap.size + 1 := hsep.ne (by omega) (by omega)
  refine ⟨A', c', rfl, ?_, hsep.mono (Nat.le_refl _) (by omega), (h.low.setCell (by simp) _).setCell (by simp) _⟩
  have := (hG.set (p := ⟨w.heap.size + 1, 0, none⟩) hne (.int .i64 r.1.1)).set (p := ⟨w.heap.size + 1, 1, none⟩) hne (.slice A' r.1.2.length c')
  simpa using this
theorem and_cells {w w2 : World} {n : Int} {s u v : Value} (h : Boxes w w2 n s) :
    ((w2.setCell ⟨w.heap.size + 1, 0, none⟩ u).setCell ⟨w.heap.size + 1, 1, none⟩ v).cell? ⟨w.heap.size + 1, 0, none⟩ = some u ∧ ((w2.setCell ⟨w.heap.size + 1, 0, none⟩ u).setCell ⟨w.heap.size + 1, 1, none⟩ v).cell? ⟨w.heap.size + 1, 1, none⟩ = some v :=
  ⟨(World.cell?_setCell_other _ _ _ _ (by simp)).trans (World.cell?_setCell_same _ _ _ h.e0), World.cell?_setCell_same _ _ _ ((World.cell?_setCell_other _ _ _ _ (by simp)).trans h.e1)⟩
theorem and_bad {w w2 : World} {n : Int} {s : Value} {B : Nat} {r : Gm.Res} {e : Int} (h : Boxes w w2 n s) (hB : B ≤ w.heap.size) (hr : r = Gm.bad e) :
    AndPost r B w (.returned (.tuple #[.agg #[.int .i64 0, .slice none 0 0], .int .i64 0, .int .i64 e])) ((w2.setCell ⟨w.heap.size + 1, 0, none⟩ (.int .i64 0)).setCell ⟨w.heap.size + 1, 1, none⟩ (.slice none 0 0)) := by
  subst hr
  exact and_close (r := Gm.bad e) (A' := none) (c' := 0) h hB (fun k hk => by simp [Gm.bad] at hk) Sep.none_

end Go.Proofs.Yteabffdddlihnaa
