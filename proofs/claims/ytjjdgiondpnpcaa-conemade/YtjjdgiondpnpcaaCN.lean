/- Plain mathematics of package cone: copies. -/
import Derived.Test.YtjjdgiondpnpcaaCM
namespace Go.Proofs.Ytjjdgiondpnpcaa
open Go.RowKit
namespace Cm

/-- The literal that corresponds to a literal. -/
def isL (is : List Int) (l : Int) : Int := if l % 2 = 1 then Gm.negB (is.getD (vr l) 0) else is.getD (vr l) 0
/-- One gate of the cone is copied. -/
def stepC (nt : Int) (nf : Nat) (inn : List Bool) (fg : List (Int × Int)) (k : Nat) (t : List (Int × Int)) (is : List Int) : Except Int (List (Int × Int) × List Int) :=
  if inn.getD (nf + 1 + k) false then
    if (Gm.andS nt t (isL is (fg.getD k (0, 0)).1) (isL is (fg.getD k (0, 0)).2)).2.2 = 0 then
      .ok ((Gm.andS nt t (isL is (fg.getD k (0, 0)).1) (isL is (fg.getD k (0, 0)).2)).1.2, is ++ [(Gm.andS nt t (isL is (fg.getD k (0, 0)).1) (isL is (fg.getD k (0, 0)).2)).2.1])
    else .error (Gm.andS nt t (isL is (fg.getD k (0, 0)).1) (isL is (fg.getD k (0, 0)).2)).2.2
  else .ok (t, is ++ [0])
def copyAt (nt : Int) (tg : List (Int × Int)) (nf : Nat) (fg : List (Int × Int)) (inn : List Bool) (by_ : List Int) : Nat → Except Int (List (Int × Int) × List Int)
  | 0 => .ok (tg, 0 :: by_)
  | k + 1 => match copyAt nt tg nf fg inn by_ k with
    | .error e => .error e
    | .ok (t, is) => stepC nt nf inn fg k t is
def copyS (nt : Int) (tg : List (Int × Int)) (nf : Int) (fg : List (Int × Int)) (l : Int) (by_ : List Int) : Gm.Res :=
  if Gm.rightB nt tg = true ∧ Gm.rightB nf fg = true ∧ Gm.litB nf fg.length l = true ∧ (by_.length : Int) = nf ∧ (by_.all (Gm.litB nt tg.length)) = true then
    match copyAt nt tg nf.toNat fg (below nf.toNat fg l) by_ fg.length with
    | .error e => Gm.bad e
    | .ok (t, is) => ((nt, t), isL is l, 0)
  else Gm.bad 1

theorem isL_bit {V W : List Bool} {is : List Int} {l : Int} (h0 : 0 ≤ is.getD (vr l) 0) (h : Em.bitB V (is.getD (vr l) 0) = W.getD (vr l) false) : Em.bitB V (isL is l) = Em.bitB W l := by
  unfold isL
  by_cases hl : l % 2 = 1
  · rw [if_pos hl, Em.bit_neg _ h0, h]
    unfold Em.bitB Em.negL
    rw [decide_eq_true hl]
    cases W.getD (vr l) false <;> rfl
  · rw [if_neg hl, h]
    unfold Em.bitB Em.negL
    rw [decide_eq_false hl]
    cases W.getD (vr l) false <;> rfl
theorem isL_lit {n : Int} {len : Nat} {is : List Int} {l : Int} (h : Gm.litB n len (is.getD (vr l) 0) = true) : Gm.litB n len (isL is l) = true := by
  unfold isL; split
  · exact neg_lit h
  · exact h
theorem isL_vr {is : List Int} {l : Int} (h : 0 ≤ is.getD (vr l) 0) : vr (isL is l) = vr (is.getD (vr l) 0) := by
  unfold isL
  by_cases hl : l % 2 = 1
  · rw [if_pos hl]; unfold vr Gm.negB; split <;> omega
  · rw [if_neg hl]

section
variable {n : Nat} {gs : List (Int × Int)}
/-- A cone is not turned by gates behind. -/
theorem InC.grow {s : List (Int × Int)} (hL : Low n gs) {x u : Nat} (h : InC n (gs ++ s) x u) : u < n + 1 + gs.length → InC n gs x u := by
  induction h with
  | self => intro _; exact InC.self
  | left k hk _ ih =>
    intro hu
    have hk' : k < gs.length := by omega
    have e : (gs ++ s)[k] = gs[k] := List.getElem_append_left hk'
    have hl := hL k hk'
    rw [e] at ih
    exact InC.left k hk' (ih (by omega))
  | right k hk _ ih =>
    intro hu
    have hk' : k < gs.length := by omega
    have e : (gs ++ s)[k] = gs[k] := List.getElem_append_left hk'
    have hl := hL k hk'
    rw [e] at ih
    exact InC.right k hk' (ih (by omega))
theorem InC.more {s : List (Int × Int)} {x u : Nat} (h : InC n gs x u) : InC n (gs ++ s) x u := by
  induction h with
  | self => exact InC.self
  | left k hk _ ih =>
    have e : (gs ++ s)[k]'(by simp; omega) = gs[k] := List.getElem_append_left hk
    exact InC.left k (by simp; omega) (by rw [e]; exact ih)
  | right k hk _ ih =>
    have e : (gs ++ s)[k]'(by simp; omega) = gs[k] := List.getElem_append_left hk
    exact InC.right k (by simp; omega) (by rw [e]; exact ih)
/-- The inputs below what And makes stand below one of the two. -/
theorem and_cone {a b : Int} (hr : Gm.rightB n gs = true) (ha : Gm.litB n gs.length a = true) (hb : Gm.litB n gs.length b = true) (hroom : 1 + (n : Int) + gs.length < 2000) {x : Nat} (hx0 : 1 ≤ x) (hx : x ≤ n)
    (h : InC n (Gm.andS n gs a b).1.2 x (vr (Gm.andS n gs a b).2.1)) : InC n gs x (vr a) ∨ InC n gs x (vr b) := by
  obtain ⟨ha0, ha1⟩ := lit_facts ha
  obtain ⟨hb0, hb1⟩ := lit_facts hb
  have hL := Low.of_right hr
  have hg := and_good hr ha hb hroom
  have mm : InC n gs x (vr (max a b)) ∨ InC n gs x (vr (min a b)) → InC n gs x (vr a) ∨ InC n gs x (vr b) := by
    rcases Int.le_total a b with h | h
    · rw [Int.max_eq_right h, Int.min_eq_left h]; exact Or.symm
    · rw [Int.max_eq_left h, Int.min_eq_right h]; exact id
  rcases andS_cases n gs a b with e | ⟨_, ⟨l, hs, e⟩ | ⟨hs, hi, e⟩ | ⟨hs, hi, h2, e⟩ | ⟨hs, hi, h2, e⟩⟩
  · have := hg.err; rw [e] at this; simp [Gm.bad] at this
  · rw [e] at h
    simp only at h
    unfold Gm.simpleS at hs
    split at hs
    · injection hs with hs
      subst hs
      have := h.le hL
      simp [vr] at this
      omega
    · split at hs
      · injection hs with hs
        subst hs
        exact Or.inr h
      · split at hs
        · injection hs with hs
          subst hs
          exact Or.inl h
        · cases hs
  · rw [e] at h
    simp only at h
    have hk := List.getElem_idxOf hi
    have ev : vr (2 * (1 + (n : Int) + (gs.idxOf (max a b, min a b) : Nat))) = n + 1 + gs.idxOf (max a b, min a b) := by unfold vr; omega
    rw [ev] at h
    generalize hu : n + 1 + gs.idxOf (max a b, min a b) = u at h
    cases h with
    | self => omega
    | left k hk' h =>
      obtain rfl : k = gs.idxOf (max a b, min a b) := by omega
      rw [hk] at h
      exact mm (Or.inl h)
    | right k hk' h =>
      obtain rfl : k = gs.idxOf (max a b, min a b) := by omega
      rw [hk] at h
      exact mm (Or.inr h)
  · omega
  · rw [e] at h
    simp only at h
    have hsn := simple_none_facts ha0 hb0 hs
    have ev : vr (2 * (1 + (n : Int) + (gs.length : Nat))) = n + 1 + gs.length := by unfold vr; omega
    rw [ev] at h
    have el : (gs ++ [(max a b, min a b)])[gs.length]'(by simp) = (max a b, min a b) := by simp
    generalize hu : n + 1 + gs.length = u at h
    cases h with
    | self => omega
    | left k hk' h =>
      obtain rfl : k = gs.length := by omega
      rw [el] at h
      exact mm (Or.inl (h.grow hL (by unfold vr; omega)))
    | right k hk' h =>
      obtain rfl : k = gs.length := by omega
      rw [el] at h
      exact mm (Or.inr (h.grow hL (by unfold vr; omega)))
end
end Cm
end Go.Proofs.Ytjjdgiondpnpcaa
