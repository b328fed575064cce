/- What andS gives: bounds. -/
import Derived.Test.YteabffdddlihnaaO
namespace Go.Proofs.Yteabffdddlihnaa
open Go.RowKit

theorem andS_cases (n : Int) (gs : List (Int × Int)) (a b : Int) :
    Gm.andS n gs a b = Gm.bad 1 ∨ ((Gm.rightB n gs = true ∧ Gm.litB n gs.length a = true ∧ Gm.litB n gs.length b = true) ∧
      ((∃ l, Gm.simpleS a b = some l ∧ Gm.andS n gs a b = ((n, gs), l, 0)) ∨
       (Gm.simpleS a b = none ∧ gs.idxOf (max a b, min a b) < gs.length ∧ Gm.andS n gs a b = ((n, gs), 2 * (1 + n + gs.idxOf (max a b, min a b)), 0)) ∨
       (Gm.simpleS a b = none ∧ gs.length ≤ gs.idxOf (max a b, min a b) ∧ 1 + n + gs.length = 2000 ∧ Gm.andS n gs a b = Gm.bad 2) ∨
       (Gm.simpleS a b = none ∧ gs.length ≤ gs.idxOf (max a b, min a b) ∧ 1 + n + gs.length ≠ 2000 ∧ Gm.andS n gs a b = ((n, gs ++ [(max a b, min a b)]), 2 * (1 + n + gs.length), 0)))) := by
  by_cases h : Gm.rightB n gs = true ∧ Gm.litB n gs.length a = true ∧ Gm.litB n gs.length b = true
  · refine Or.inr ⟨h, ?_⟩
    cases hs : Gm.simpleS a b with
    | some l => exact Or.inl ⟨l, rfl, andS_some h hs⟩
    | none =>
      have e := andS_none h hs
      by_cases hi : gs.idxOf (max a b, min a b) < gs.length
      · rw [if_pos hi] at e
        exact Or.inr (Or.inl ⟨rfl, hi, e⟩)
      · rw [if_neg hi] at e
        by_cases h2 : 1 + n + (gs.length : Int) = 2000
        · rw [if_pos h2] at e
          exact Or.inr (Or.inr (Or.inl ⟨rfl, by omega, h2, e⟩))
        · rw [if_neg h2] at e
          exact Or.inr (Or.inr (Or.inr ⟨rfl, by omega, h2, e⟩))
  · exact Or.inl (by unfold Gm.andS; rw [if_neg h])

theorem simple_lit {n : Int} {len : Nat} {a b l : Int} (ha : Gm.litB n len a = true) (hb : Gm.litB n len b = true) (h : Gm.simpleS a b = some l) : Gm.litB n len l = true := by
  have h1 : 0 ≤ n ∧ n ≤ 2000 := by simp [Gm.litB] at ha; omega
  unfold Gm.simpleS at h
  split at h
  · injection h with h; subst h; simp [Gm.litB]; omega
  · split at h
    · injection h with h; subst h; exact hb
    · split at h
      · injection h with h; subst h; exact ha
      · cases h

structure AndFacts (n : Int) (gs : List (Int × Int)) (r : Gm.Res) : Prop where
  lit0 : 0 ≤ r.2.1
  lit1 : r.2.1 ≤ 4000
  len : r.1.2.length ≤ gs.length + 1
  wf : Wf r.1.2
  lit : r.2.2 = 0 → Gm.litB r.1.1 r.1.2.length r.2.1 = true
theorem and_facts (n : Int) (gs : List (Int × Int)) (a b : Int) (hw : Wf gs) : AndFacts n gs (Gm.andS n gs a b) := by
  rcases andS_cases n gs a b with e | ⟨⟨hr, ha, hb⟩, ⟨l, hs, e⟩ | ⟨hs, hi, e⟩ | ⟨hs, hi, h2, e⟩ | ⟨hs, hi, h2, e⟩⟩
  · rw [e]; exact ⟨by simp [Gm.bad], by simp [Gm.bad], by simp [Gm.bad], fun g hg => by simp [Gm.bad] at hg, fun h => by simp [Gm.bad] at h⟩
  · have hl := simple_lit ha hb hs
    have h3 := right_facts hr
    have h4 := lit_facts hl
    rw [e]; exact ⟨h4.1, by simp only; omega, by simp, hw, fun _ => hl⟩
  · have h3 := right_facts hr
    rw [e]; exact ⟨by simp only; omega, by simp only; omega, by simp, hw, fun _ => by simp [Gm.litB]; omega⟩
  · rw [e]; exact ⟨by simp [Gm.bad], by simp [Gm.bad], by simp [Gm.bad], fun g hg => by simp [Gm.bad] at hg, fun h => by simp [Gm.bad] at h⟩
  · have h3 := right_facts hr
    have h4 := lit_facts ha
    have h5 := lit_facts hb
    rw [e]
    refine ⟨by simp only; omega, by simp only; omega, by simp, fun g hg => ?_, fun _ => by simp [Gm.litB]; omega⟩
    simp only [List.mem_append, List.mem_singleton] at hg
    rcases hg with hg | rfl
    · exact hw g hg
    · simp only
      omega
end Go.Proofs.Yteabffdddlihnaa
