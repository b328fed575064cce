/- The reference's And. -/
import Derived.Test.YteabffdddlihnaaS
namespace Go.Proofs.Yteabffdddlihnaa
open Go.RowKit

/-- What the reference hands back: the slice that it was given, or a new one. -/
def RefPost (r : Gm.Res) (A : Option Addr) (gs : List (Int × Int)) (w : World) (e : Ending) (w' : World) : Prop :=
  ∃ A' c', e = .returned (.tuple #[.agg #[.int .i64 r.1.1, .slice A' r.1.2.length c'], .int .i64 r.2.1, .int .i64 r.2.2]) ∧ Gr w' w'.heap.size A' r.1.2 ∧ ((A' = A ∧ r.1.2 = gs) ∨ Sep 0 w.heap.size A') ∧ Below w.heap.size w w'
theorem RefPost.drew {r : Gm.Res} {A : Option Addr} {gs : List (Int × Int)} {w V : World} {e : Ending} (h : RefPost r A gs w e V) : RefPost r A gs w e V.drew := by
  obtain ⟨A', c', he, hG, hs, hb⟩ := h
  exact ⟨A', c', he, hG, hs, hb.drew⟩
theorem Gr.set0 {w : World} {C : Nat} {A : Option Addr} {gs : List (Int × Int)} (h : Gr w C A gs) {p : Addr} (hp : 0 < gs.length → ∀ ad, A = some ad → ad.block ≠ p.block) (u : Value) : Gr (w.setCell p u) C A gs := by
  by_cases h0 : 0 < gs.length
  · exact h.set (hp h0) u
  · exact fun k hk => by omega
theorem ref_close {w w2 : World} {n : Int} {s : Value} {r : Gm.Res} {A A' : Option Addr} {gs : List (Int × Int)} {c' : Nat} (h : Boxes w w2 n s) (hG : Gr w2 w2.heap.size A' r.1.2) (hs : (A' = A ∧ r.1.2 = gs) ∨ Sep 0 w.heap.size A') (hne : 0 < r.1.2.length → ∀ ad, A' = some ad → ad.block ≠ w.heap.size + 1) :
    RefPost r A gs w (.returned (.tuple #[.agg #[.int .i64 r.1.1, .slice A' r.1.2.length c'], .int .i64 r.2.1, .int .i64 r.2.2]))
      ((w2.setCell ⟨w.heap.size + 1, 0, none⟩ (.int .i64 r.1.1)).setCell ⟨w.heap.size + 1, 1, none⟩ (.slice A' r.1.2.length c')) := by
  refine ⟨A', c', rfl, ?_, hs, (h.low.setCell (by simp) _).setCell (by simp) _⟩
  have := (hG.set0 (p := ⟨w.heap.size + 1, 0, none⟩) hne (.int .i64 r.1.1)).set0 (p := ⟨w.heap.size + 1, 1, none⟩) hne (.slice A' r.1.2.length c')
  simpa using this
theorem ref_bad {w w2 : World} {n : Int} {s : Value} {r : Gm.Res} {e : Int} {A : Option Addr} {gs : List (Int × Int)} (h : Boxes w w2 n s) (hr : r = Gm.bad e) :
    RefPost r A gs w (.returned (.tuple #[.agg #[.int .i64 0, .slice none 0 0], .int .i64 0, .int .i64 e])) ((w2.setCell ⟨w.heap.size + 1, 0, none⟩ (.int .i64 0)).setCell ⟨w.heap.size + 1, 1, none⟩ (.slice none 0 0)) := by
  subst hr
  exact ref_close (r := Gm.bad e) (A' := none) (c' := 0) h (fun k hk => by simp [Gm.bad] at hk) (Or.inr Sep.none_) (fun _ _ e => by cases e)

theorem simple_max {a b x y : Int} (ha : 0 ≤ a) (hb : 0 ≤ b) (h : (max a b, min a b) = (x, y)) :
    Gm.simpleS a b = (if y = 0 ∨ (x / 2 = y / 2 ∧ x ≠ y) then some 0 else if y = 1 ∨ x = y then some x else none) := by
  simp only [Prod.mk.injEq] at h
  obtain ⟨hx, hy⟩ := h
  unfold Gm.simpleS Gm.negB
  rcases Int.lt_trichotomy a b with hlt | rfl | hlt
  · rw [Int.max_eq_right (Int.le_of_lt hlt)] at hx
    rw [Int.min_eq_left (Int.le_of_lt hlt)] at hy
    subst hx hy
    by_cases h1 : a = 0 ∨ (b / 2 = a / 2 ∧ b ≠ a)
    · rw [if_pos h1, if_pos (by split <;> omega)]
    · rw [if_neg h1, if_neg (by intro h2; split at h2 <;> omega)]
      by_cases h3 : a = 1
      · simp [h3]
      · rw [if_neg h3]
        simp [h3, show ¬ b = 1 by omega, show ¬ a = b by omega, show ¬ b = a by omega]
  · rw [Int.max_self] at hx
    rw [Int.min_self] at hy
    subst hx hy
    by_cases h1 : a = 0
    · simp [h1]
    · have h2 : ¬ (a = if a % 2 = 0 then a + 1 else a - 1) := by split <;> omega
      simp [h1, h2]
  · rw [Int.max_eq_left (Int.le_of_lt hlt)] at hx
    rw [Int.min_eq_right (Int.le_of_lt hlt)] at hy
    subst hx hy
    by_cases h1 : b = 0 ∨ (a / 2 = b / 2 ∧ a ≠ b)
    · rw [if_pos h1, if_pos (by split <;> omega)]
    · rw [if_neg h1, if_neg (by intro h2; split at h2 <;> omega)]
      have h3 : ¬ a = 1 := by omega
      rw [if_neg h3]
theorem idx_none {gs : List (Int × Int)} {g : Int × Int} (h : NoneOf gs g gs.length) : gs.length ≤ gs.idxOf g := by
  have : g ∉ gs := fun hm => by
    obtain ⟨p, hp, e⟩ := List.mem_iff_getElem.1 hm
    exact h p hp (by simp [List.getElem?_eq_getElem hp, e])
  rw [List.idxOf_eq_length this]
  exact Nat.le_refl _
theorem idx_at {gs : List (Int × Int)} {g : Int × Int} {k : Nat} (hk : k < gs.length) (hn : NoneOf gs g k) (e : gs[k] = g) : gs.idxOf g = k := by
  have hm : g ∈ gs := by rw [← e]; exact List.getElem_mem hk
  have hlt := List.idxOf_lt_length_of_mem hm
  have hg := List.getElem_idxOf hlt
  rcases Nat.lt_trichotomy (gs.idxOf g) k with h | h | h
  · exact absurd (by simp [List.getElem?_eq_getElem hlt, hg]) (hn _ h)
  · exact h
  · have := List.not_of_lt_findIdx (p := (· == g)) (xs := gs) (i := k) h
    simp [e] at this
end Go.Proofs.Yteabffdddlihnaa
