/- Plain mathematics of package cone: the cone of a literal, and its copy. -/
import Derived.Test.YtjjdgiondpnpcaaEW
namespace Go.Proofs.Ytjjdgiondpnpcaa
open Go.RowKit
namespace Cm

/-- The variable of a literal. -/
abbrev vr (l : Int) : Nat := (l / 2).toNat
/-- Variable v stands in the cone of variable u. -/
inductive InC (n : Nat) (gs : List (Int × Int)) (v : Nat) : Nat → Prop
  | self : InC n gs v v
  | left (k : Nat) (hk : k < gs.length) (h : InC n gs v (vr (gs[k]).1)) : InC n gs v (n + 1 + k)
  | right (k : Nat) (hk : k < gs.length) (h : InC n gs v (vr (gs[k]).2)) : InC n gs v (n + 1 + k)
/-- The list with two places set. -/
def mark2 (m : List Bool) (g : Int × Int) : List Bool := (m.set (vr g.1) true).set (vr g.2) true
/-- Gate k is looked at. -/
def look (n : Nat) (gs : List (Int × Int)) (m : List Bool) (k : Nat) : List Bool :=
  if m.getD (n + 1 + k) false then mark2 m (gs.getD k (0, 0)) else m
/-- The marks, when the gates from k on have been looked at, from the last one to the first. -/
def marks (n : Nat) (gs : List (Int × Int)) (m : List Bool) : Nat → List Bool
  | 0 => m
  | j + 1 => look n gs (marks n gs m j) (gs.length - (j + 1))
def below (n : Nat) (gs : List (Int × Int)) (l : Int) : List Bool := marks n gs ((List.replicate (n + 1 + gs.length) false).set (vr l) true) gs.length

theorem mark2_length (m : List Bool) (g : Int × Int) : (mark2 m g).length = m.length := by simp [mark2]
theorem look_length (n : Nat) (gs : List (Int × Int)) (m : List Bool) (k : Nat) : (look n gs m k).length = m.length := by
  unfold look; split
  · exact mark2_length _ _
  · rfl
theorem marks_length (n : Nat) (gs : List (Int × Int)) (m : List Bool) (j : Nat) : (marks n gs m j).length = m.length := by
  induction j with
  | zero => rfl
  | succ j ih => rw [marks, look_length, ih]
theorem getD_set (m : List Bool) (i j : Nat) (hi : i < m.length) : (m.set i true).getD j false = (decide (i = j) || m.getD j false) := by
  rw [List.getD_eq_getElem?_getD, List.getElem?_set]
  by_cases h : i = j
  · subst h; simp [hi]
  · simp [h, List.getD_eq_getElem?_getD]
theorem mark2_get (m : List Bool) (g : Int × Int) (h1 : vr g.1 < m.length) (h2 : vr g.2 < m.length) (j : Nat) : (mark2 m g).getD j false = (decide (vr g.2 = j) || (decide (vr g.1 = j) || m.getD j false)) := by
  unfold mark2
  rw [getD_set _ _ _ (by simpa using h2), getD_set _ _ _ h1]

section
variable {n : Nat} {gs : List (Int × Int)}
/-- The gates' literals stand on smaller variables. -/
def Low (n : Nat) (gs : List (Int × Int)) : Prop := ∀ k (hk : k < gs.length), vr (gs[k]).1 < n + 1 + k ∧ vr (gs[k]).2 < n + 1 + k
theorem Low.of_right (h : Gm.rightB n gs = true) : Low n gs := fun k hk => by
  have := Em.gate_low (Em.right_ord h) hk
  simp only [vr]
  omega
theorem gate_at {k : Nat} (hk : k < gs.length) : gs.getD k (0, 0) = gs[k] := by simp [List.getD_eq_getElem?_getD, List.getElem?_eq_getElem hk]
theorem InC.trans {v w u : Nat} (h1 : InC n gs v w) (h2 : InC n gs w u) : InC n gs v u := by
  induction h2 with
  | self => exact h1
  | left k hk _ ih => exact InC.left k hk ih
  | right k hk _ ih => exact InC.right k hk ih
/-- What looking at a gate does. -/
theorem look_get (hL : Low n gs) (m : List Bool) (hm : m.length = n + 1 + gs.length) {k : Nat} (hk : k < gs.length) (v : Nat) :
    (look n gs m k).getD v false = ((m.getD (n + 1 + k) false && (decide (vr (gs[k]).2 = v) || decide (vr (gs[k]).1 = v))) || m.getD v false) := by
  unfold look
  have hl := hL _ hk
  cases h : m.getD (n + 1 + k) false with
  | false => simp
  | true =>
    rw [if_pos rfl, gate_at hk, mark2_get _ _ (by omega) (by omega), Bool.true_and, Bool.or_assoc]
theorem step_get (hL : Low n gs) (m : List Bool) (hm : m.length = n + 1 + gs.length) {j : Nat} (hj : j < gs.length) (v : Nat) :
    (marks n gs m (j + 1)).getD v false = (((marks n gs m j).getD (n + 1 + (gs.length - (j + 1))) false && (decide (vr (gs[gs.length - (j + 1)]).2 = v) || decide (vr (gs[gs.length - (j + 1)]).1 = v))) || (marks n gs m j).getD v false) := by
  rw [marks]
  exact look_get hL _ (by rw [marks_length, hm]) (by omega) v
theorem marks_mono (hL : Low n gs) (m : List Bool) (hm : m.length = n + 1 + gs.length) {i : Nat} (v : Nat) (h : (marks n gs m i).getD v false = true) : ∀ j, i ≤ j → j ≤ gs.length → (marks n gs m j).getD v false = true := by
  intro j
  induction j with
  | zero => intro h1 _; obtain rfl : i = 0 := (by omega); exact h
  | succ j ih =>
    intro h1 h2
    by_cases e : i = j + 1
    · subst e; exact h
    · rw [step_get hL m hm (by omega), ih (by omega) (by omega), Bool.or_true]
/-- What is marked stands in the cone. -/
theorem marks_sound (hL : Low n gs) (u : Nat) (m : List Bool) (hm : m.length = n + 1 + gs.length) (h0 : ∀ v, m.getD v false = true → InC n gs v u) (j : Nat) (hj : j ≤ gs.length) :
    ∀ v, (marks n gs m j).getD v false = true → InC n gs v u := by
  induction j with
  | zero => exact h0
  | succ j ih =>
    intro v hv
    rw [step_get hL m hm (by omega)] at hv
    simp only [Bool.or_eq_true, Bool.and_eq_true, decide_eq_true_eq] at hv
    rcases hv with ⟨h1, h2 | h2⟩ | h1
    · subst h2; exact (InC.right _ (by omega) InC.self).trans (ih (by omega) _ h1)
    · subst h2; exact (InC.left _ (by omega) InC.self).trans (ih (by omega) _ h1)
    · exact ih (by omega) v h1
/-- Gates that come before turn nothing behind them. -/
theorem marks_keep (hL : Low n gs) (m : List Bool) (hm : m.length = n + 1 + gs.length) {i v : Nat} (hv : n + gs.length ≤ v + i) : ∀ j, i ≤ j → j ≤ gs.length → (marks n gs m j).getD v false = (marks n gs m i).getD v false := by
  intro j
  induction j with
  | zero => intro h1 _; obtain rfl : i = 0 := (by omega); rfl
  | succ j ih =>
    intro h1 h2
    by_cases e : i = j + 1
    · subst e; rfl
    · have hl := hL (gs.length - (j + 1)) (by omega)
      rw [step_get hL m hm (by omega), ih (by omega) (by omega)]
      rw [decide_eq_false (by omega), decide_eq_false (by omega)]
      simp
/-- The marks are closed. -/
theorem marks_closed (hL : Low n gs) (m : List Bool) (hm : m.length = n + 1 + gs.length) {k : Nat} (hk : k < gs.length) (h : (marks n gs m gs.length).getD (n + 1 + k) false = true) :
    (marks n gs m gs.length).getD (vr (gs[k]).1) false = true ∧ (marks n gs m gs.length).getD (vr (gs[k]).2) false = true := by
  have e : gs.length - (gs.length - (k + 1) + 1) = k := by omega
  rw [marks_keep hL m hm (i := gs.length - (k + 1)) (by omega) gs.length (by omega) (Nat.le_refl _)] at h
  have hs := fun v => step_get hL m hm (j := gs.length - (k + 1)) (by omega) v
  simp only [e] at hs
  constructor
  · refine marks_mono hL m hm (i := gs.length - (k + 1) + 1) _ ?_ gs.length (by omega) (Nat.le_refl _)
    rw [hs, h]; simp
  · refine marks_mono hL m hm (i := gs.length - (k + 1) + 1) _ ?_ gs.length (by omega) (Nat.le_refl _)
    rw [hs, h]; simp
theorem below_length (l : Int) : (below n gs l).length = n + 1 + gs.length := by unfold below; rw [marks_length]; simp
theorem first_length (l : Int) : ((List.replicate (n + 1 + gs.length) false).set (vr l) true).length = n + 1 + gs.length := by simp
theorem first_get (l : Int) (hl : vr l < n + 1 + gs.length) (v : Nat) : ((List.replicate (n + 1 + gs.length) false).set (vr l) true).getD v false = decide (vr l = v) := by
  rw [getD_set _ _ _ (by simpa using hl)]
  have : (List.replicate (n + 1 + gs.length) false).getD v false = false := by
    rw [List.getD_eq_getElem?_getD, List.getElem?_replicate]; split <;> rfl
  rw [this, Bool.or_false]
/-- The marks are the cone. -/
theorem below_iff (hL : Low n gs) {l : Int} (hl : vr l < n + 1 + gs.length) (v : Nat) : (below n gs l).getD v false = true ↔ InC n gs v (vr l) := by
  constructor
  · intro h
    refine marks_sound hL (vr l) _ (first_length l) (fun v hv => ?_) gs.length (Nat.le_refl _) v h
    rw [first_get l hl, decide_eq_true_eq] at hv
    exact hv ▸ InC.self
  · intro h
    have top : (below n gs l).getD (vr l) false = true := by
      refine marks_mono hL _ (first_length l) (i := 0) _ ?_ gs.length (Nat.zero_le _) (Nat.le_refl _)
      show ((List.replicate (n + 1 + gs.length) false).set (vr l) true).getD (vr l) false = true
      rw [first_get l hl]; simp
    have key : ∀ u, InC n gs v u → (below n gs l).getD u false = true → (below n gs l).getD v false = true := by
      intro u hu
      induction hu with
      | self => exact id
      | left k hk _ ih => exact fun h => ih (marks_closed hL _ (first_length l) hk h).1
      | right k hk _ ih => exact fun h => ih (marks_closed hL _ (first_length l) hk h).2
    exact key _ h top
/-- A cone's variables are not greater. -/
theorem InC.le (hL : Low n gs) {v u : Nat} (h : InC n gs v u) : v ≤ u := by
  induction h with
  | self => exact Nat.le_refl _
  | left k hk _ ih => have := hL k hk; omega
  | right k hk _ ih => have := hL k hk; omega
/-- A literal hangs on its support alone. -/
theorem cone_eval {ins ins' : List Bool} (hr : Gm.rightB n gs = true) (h1 : ins.length = n) (h2 : ins'.length = n) (u : Nat) :
    u < n + 1 + gs.length → (∀ i, 1 ≤ i → i ≤ n → InC n gs i u → ins.getD (i - 1) false = ins'.getD (i - 1) false) → (Em.all ins gs).getD u false = (Em.all ins' gs).getD u false := by
  induction u using Nat.strongRecOn with
  | ind u ih =>
    intro hu h
    by_cases h0 : u = 0
    · subst h0; rw [Em.all_head, Em.all_head]
    · by_cases hn : u ≤ n
      · rw [Em.all_input _ _ (by omega) (by omega), Em.all_input _ _ (by omega) (by omega)]
        exact h u (by omega) hn InC.self
      · obtain ⟨k, rfl⟩ : ∃ k, u = n + 1 + k := ⟨u - n - 1, by omega⟩
        have hk : k < gs.length := by omega
        have hl := Low.of_right hr k hk
        have hlow := Em.gate_low (Em.right_ord hr) hk
        have e1 := Em.all_gate (n := n) (ins := ins) (Em.right_ord hr) (by omega) hk
        have e2 := Em.all_gate (n := n) (ins := ins') (Em.right_ord hr) (by omega) hk
        rw [h1, Nat.add_comm 1 n] at e1
        rw [h2, Nat.add_comm 1 n] at e2
        have i1 := ih _ hl.1 (by omega) (fun i a b c => h i a b (InC.left k hk c))
        have i2 := ih _ hl.2 (by omega) (fun i a b c => h i a b (InC.right k hk c))
        rw [e1, e2]
        unfold Em.bitB
        rw [i1, i2]
theorem cone_bit {ins ins' : List Bool} (hr : Gm.rightB n gs = true) (h1 : ins.length = n) (h2 : ins'.length = n) {l : Int} (hl : vr l < n + 1 + gs.length) (h : ∀ i, 1 ≤ i → i ≤ n → InC n gs i (vr l) → ins.getD (i - 1) false = ins'.getD (i - 1) false) :
    Em.bitB (Em.all ins gs) l = Em.bitB (Em.all ins' gs) l := by
  unfold Em.bitB
  rw [cone_eval hr h1 h2 (vr l) hl h]
end
end Cm
end Go.Proofs.Ytjjdgiondpnpcaa
