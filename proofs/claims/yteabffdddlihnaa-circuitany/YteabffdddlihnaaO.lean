/- graph.And of a right graph and its literals. -/
import Derived.Test.YteabffdddlihnaaN
namespace Go.Proofs.Yteabffdddlihnaa
open Go.RowKit

theorem right_facts {n : Int} {gs : List (Int × Int)} (h : Gm.rightB n gs = true) : 0 ≤ n ∧ n ≤ 2000 ∧ 1 + n + gs.length ≤ 2000 ∧ gs.Nodup := by
  simp [Gm.rightB, Gm.fitB, Gm.nodB] at h
  exact ⟨h.1.1.1.1, h.1.1.1.2, h.1.1.2, h.2⟩
theorem lit_facts {n : Int} {l : Nat} {x : Int} (h : Gm.litB n l x = true) : 0 ≤ x ∧ x < 2 * (1 + n + l) := by
  simp [Gm.litB] at h
  exact ⟨h.1.2, h.2⟩

theorem andS_some {n : Int} {gs : List (Int × Int)} {a b l : Int} (h : Gm.rightB n gs = true ∧ Gm.litB n gs.length a = true ∧ Gm.litB n gs.length b = true) (hs : Gm.simpleS a b = some l) : Gm.andS n gs a b = ((n, gs), l, 0) := by
  unfold Gm.andS; rw [if_pos h, hs]
theorem andS_none {n : Int} {gs : List (Int × Int)} {a b : Int} (h : Gm.rightB n gs = true ∧ Gm.litB n gs.length a = true ∧ Gm.litB n gs.length b = true) (hs : Gm.simpleS a b = none) : Gm.andS n gs a b =
    if gs.idxOf (max a b, min a b) < gs.length then ((n, gs), 2 * (1 + n + gs.idxOf (max a b, min a b)), 0)
      else if 1 + n + gs.length = 2000 then Gm.bad 2
      else ((n, gs ++ [(max a b, min a b)]), 2 * (1 + n + gs.length), 0) := by
  unfold Gm.andS; rw [if_pos h, hs]

theorem keep_res {w : World} {g i k : Nat} {u v1 v2 : Value} (h : w.cell? ⟨g, i, none⟩ = some u) (hne : k ≠ g) : ((w.setCell ⟨k, 0, none⟩ v1).setCell ⟨k, 1, none⟩ v2).cell? ⟨g, i, none⟩ = some u := keep2 h hne
theorem Boxes.drew {w W : World} {n : Int} {s : Value} (h : Boxes w W n s) : Boxes w W.drew n s := ⟨h.low.drew, h.d0, h.d1, h.e0, h.e1, h.f0, h.f1, h.sz⟩
theorem simple_none_ne {a b : Int} (h : Gm.simpleS a b = none) : a ≠ b := by
  intro e
  subst e
  unfold Gm.simpleS at h
  split at h
  · cases h
  · split at h
    · cases h
    · rw [if_pos (Or.inr rfl)] at h
      cases h

end Go.Proofs.Yteabffdddlihnaa
