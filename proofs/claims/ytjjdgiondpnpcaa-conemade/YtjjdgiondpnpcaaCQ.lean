/- Plain mathematics of package cone: supports, fixed inputs, copies of a graph into itself. -/
import Derived.Test.YtjjdgiondpnpcaaCP
namespace Go.Proofs.Ytjjdgiondpnpcaa
open Go.RowKit
namespace Cm

section
variable {n : Nat} {gs : List (Int × Int)}
/-- The inputs of the cone, ascending. -/
def supS (n : Nat) (gs : List (Int × Int)) (l : Int) : List Nat := ((List.range n).map (· + 1)).filter fun i => (below n gs l).getD i false
/-- How many gates the cone has. -/
def cntS (n : Nat) (gs : List (Int × Int)) (l : Int) : Nat := ((List.range gs.length).filter fun k => (below n gs l).getD (n + 1 + k) false).length
def supportS (n : Int) (gs : List (Int × Int)) (l : Int) : List Int := if Gm.rightB n gs = true ∧ Gm.litB n gs.length l = true then (supS n.toNat gs l).map (fun i : Nat => (i : Int)) else []
def gatesS (n : Int) (gs : List (Int × Int)) (l : Int) : Int := if Gm.rightB n gs = true ∧ Gm.litB n gs.length l = true then (cntS n.toNat gs l : Int) else 0
theorem mem_sup (hr : Gm.rightB n gs = true) {l : Int} (hl : Gm.litB n gs.length l = true) (i : Nat) : i ∈ supS n gs l ↔ 1 ≤ i ∧ i ≤ n ∧ InC n gs i (vr l) := by
  have hlf := lit_facts hl
  have hvl : vr l < n + 1 + gs.length := by unfold vr; omega
  unfold supS
  rw [List.mem_filter, below_iff (Low.of_right hr) hvl]
  constructor
  · rintro ⟨h1, h2⟩
    obtain ⟨j, hj, rfl⟩ := List.mem_map.1 h1
    have := List.mem_range.1 hj
    exact ⟨by omega, by omega, h2⟩
  · rintro ⟨h1, h2, h3⟩
    exact ⟨List.mem_map.2 ⟨i - 1, List.mem_range.2 (by omega), by omega⟩, h3⟩
theorem cnt_le (l : Int) : cntS n gs l ≤ gs.length := by
  unfold cntS
  exact Nat.le_trans (List.length_filter_le _ _) (by simp)
/-- The cone of an input is itself. -/
theorem InC.input {x u : Nat} (h : InC n gs x u) (hu : u ≤ n) : x = u := by
  cases h with
  | self => rfl
  | left k hk _ => omega
  | right k hk _ => omega
theorem two_le_countP {p : Nat → Bool} {l : List Nat} {x y : Nat} (hne : x ≠ y) (hx : x ∈ l) (hy : y ∈ l) (px : p x = true) (py : p y = true) : 2 ≤ l.countP p := by
  induction l with
  | nil => cases hx
  | cons a r ih =>
    rw [List.countP_cons]
    by_cases ea : x = a
    · subst ea
      have hy' : y ∈ r := by rcases List.mem_cons.1 hy with h | h; exact absurd h.symm hne; exact h
      have : 0 < r.countP p := List.countP_pos_iff.2 ⟨y, hy', py⟩
      rw [px, if_pos rfl]; omega
    · have hx' : x ∈ r := by rcases List.mem_cons.1 hx with h | h; exact absurd h ea; exact h
      by_cases eb : y = a
      · subst eb
        have : 0 < r.countP p := List.countP_pos_iff.2 ⟨x, hx', px⟩
        rw [py, if_pos rfl]; omega
      · have hy' : y ∈ r := by rcases List.mem_cons.1 hy with h | h; exact absurd h eb; exact h
        have := ih hx' hy'
        omega
/-- Two inputs that are not below a literal. -/
theorem sup_two (hr : Gm.rightB n gs = true) {l : Int} (hl : Gm.litB n gs.length l = true) {x y : Nat} (hne : x ≠ y) (hx0 : 1 ≤ x) (hx : x ≤ n) (hy0 : 1 ≤ y) (hy : y ≤ n) (nx : ¬ InC n gs x (vr l)) (ny : ¬ InC n gs y (vr l)) : (supS n gs l).length + 2 ≤ n := by
  have hlf := lit_facts hl
  have hvl : vr l < n + 1 + gs.length := by unfold vr; omega
  have h1 : ∀ z, ¬ InC n gs z (vr l) → (below n gs l).getD z false = false := fun z hz => by
    cases h : (below n gs l).getD z false with
    | false => rfl
    | true => exact absurd ((below_iff (Low.of_right hr) hvl z).1 h) hz
  have hm : ∀ z, 1 ≤ z → z ≤ n → z ∈ (List.range n).map (· + 1) := fun z h1 h2 => List.mem_map.2 ⟨z - 1, List.mem_range.2 (by omega), by omega⟩
  have h2 := two_le_countP (p := fun i => !(below n gs l).getD i false) hne (hm x hx0 hx) (hm y hy0 hy) (by simp only [h1 x nx]; rfl) (by simp only [h1 y ny]; rfl)
  have h3 := List.length_eq_countP_add_countP (p := fun i => (below n gs l).getD i false) (l := (List.range n).map (· + 1))
  unfold supS
  rw [← List.countP_eq_length_filter]
  have h4 : ((List.range n).map (· + 1)).countP (fun i => !(below n gs l).getD i false) = ((List.range n).map (· + 1)).countP (fun a => decide ¬(below n gs l).getD a false = true) := by
    congr 1
    funext i
    cases (below n gs l).getD i false <;> rfl
  rw [h4] at h2
  simp only [List.length_map, List.length_range] at h3
  omega

/-- What the inputs correspond to, where one is fixed. -/
def fixBy (n : Nat) (x : Nat) (b : Bool) : List Int := (List.range n).map fun i => if i + 1 = x then (if b then 1 else 0) else 2 * ((i : Int) + 1)
theorem fixBy_len (x : Nat) (b : Bool) : (fixBy n x b).length = n := by simp [fixBy]
theorem fixBy_get (x : Nat) (b : Bool) {j : Nat} (hj : j < n) : (fixBy n x b).getD j 0 = if j + 1 = x then (if b then 1 else 0) else 2 * ((j : Int) + 1) := by
  simp [fixBy, List.getD_eq_getElem?_getD, List.getElem?_map, List.getElem?_range hj]
def fixS (n : Int) (gs : List (Int × Int)) (l x : Int) (b : Bool) : Gm.Res :=
  if x < 1 ∨ n < x ∨ 2000 < n then Gm.bad 1 else copyS n gs n gs l (fixBy n.toNat x.toNat b)
theorem fix_lits (hr : Gm.rightB n gs = true) (x : Nat) (b : Bool) (j : Nat) (hj : j < n) : Gm.litB n gs.length ((fixBy n x b).getD j 0) = true := by
  have hrf := right_facts hr
  rw [fixBy_get x b hj]
  split
  · cases b
    · exact lit_mk (by omega) (by omega) (by simp) (by simp; omega)
    · exact lit_mk (by omega) (by omega) (by simp) (by simp; omega)
  · exact lit_mk (by omega) (by omega) (by omega) (by omega)
theorem fix_good (hr : Gm.rightB n gs = true) {l : Int} (hl : Gm.litB n gs.length l = true) (hroom : 1 + (n : Int) + gs.length + gs.length < 2000) {x : Nat} (b : Bool) : CopyGood n n gs gs l (fixBy n x b) (copyS n gs n gs l (fixBy n x b)) :=
  copy_good hr hr hl (fixBy_len x b) (fix_lits hr x b) hroom
/-- What stands below a fixed literal is an input of the literal, and not that one. -/
theorem fix_sub {l : Int} {x : Nat} {b : Bool} {r : Gm.Res} (h : CopyGood n n gs gs l (fixBy n x b) r) (hr : Gm.rightB n gs = true) {z : Nat} (hz0 : 1 ≤ z) (hz : z ≤ n) (hi : InC n r.1.2 z (vr r.2.1)) : z ≠ x ∧ InC n gs z (vr l) := by
  obtain ⟨j, j0, jn, hj, hc⟩ := h.sub z hz0 hz hi
  rw [fixBy_get x b (by omega), show j - 1 + 1 = j by omega] at hc
  by_cases e : j = x
  · rw [if_pos e] at hc
    have := hc.le (Low.of_right hr)
    cases b <;> simp [vr] at this <;> omega
  · rw [if_neg e] at hc
    have ev : vr (2 * (((j - 1 : Nat) : Int) + 1)) = j := by unfold vr; omega
    rw [ev] at hc
    have := hc.input (by omega)
    subst this
    exact ⟨e, hj⟩
theorem fix_val {l : Int} {x : Nat} {b : Bool} {r : Gm.Res} (h : CopyGood n n gs gs l (fixBy n x b) r) (v : List Bool) (hv : v.length = n) : Em.bitB (Em.all v r.1.2) r.2.1 = Em.bitB (Em.all (v.set (x - 1) b) gs) l ∨ x = 0 := by
  by_cases hx : x = 0
  · exact Or.inr hx
  left
  refine h.val v _ hv (by simp [hv]) fun j hj => ?_
  rw [fixBy_get x b hj]
  by_cases e : j + 1 = x
  · rw [if_pos e, List.getD_eq_getElem?_getD, List.getElem?_set, if_pos (by omega)]
    cases b
    · simp [hv, Em.bit_zero, show x - 1 < n by omega]
    · simp [hv, Em.bit_one, show x - 1 < n by omega]
  · rw [if_neg e, List.getD_eq_getElem?_getD, List.getElem?_set, if_neg (by omega), ← List.getD_eq_getElem?_getD]
    have := Em.even_bit (Em.all v gs) (j + 1)
    rw [show 2 * ((j + 1 : Nat) : Int) = 2 * ((j : Int) + 1) by omega] at this
    rw [this, Em.all_input v gs (by omega) (by omega), Nat.add_sub_cancel]

/-- A gate that is there is found. -/
theorem and_self (hr : Gm.rightB n gs = true) {k : Nat} (hk : k < gs.length) : Gm.andS n gs (gs[k]).1 (gs[k]).2 = (((n : Int), gs), 2 * ((n : Int) + 1 + k), 0) := by
  have hlow := Em.gate_low (Em.right_ord hr) hk
  obtain ⟨_, hn1, hn2, hnod⟩ := right_facts hr
  have l1 : Gm.litB n gs.length (gs[k]).1 = true := lit_mk (by omega) (by omega) (by omega) (by omega)
  have l2 : Gm.litB n gs.length (gs[k]).2 = true := lit_mk (by omega) (by omega) (by omega) (by omega)
  have hs : Gm.simpleS (gs[k]).1 (gs[k]).2 = none := by
    unfold Gm.simpleS Gm.negB
    rw [if_neg, if_neg (by omega), if_neg (by omega)]
    rintro (h | h | h)
    · omega
    · omega
    · split at h <;> omega
  have em : (max (gs[k]).1 (gs[k]).2, min (gs[k]).1 (gs[k]).2) = gs[k] := by
    rw [Int.max_eq_left (by omega), Int.min_eq_right (by omega)]
  have ei : gs.idxOf gs[k] = k := List.Nodup.idxOf_getElem hnod k hk
  rw [andS_none ⟨hr, l1, l2⟩ hs, em, ei, if_pos hk]
  congr 2
  omega
def selfBy (n : Nat) : List Int := (List.range n).map fun i : Nat => 2 * ((i : Int) + 1)
theorem selfBy_len : (selfBy n).length = n := by simp [selfBy]
theorem selfBy_get {j : Nat} (hj : j < n) : (selfBy n).getD j 0 = 2 * ((j : Int) + 1) := by
  simp [selfBy, List.getD_eq_getElem?_getD, List.getElem?_map, List.getElem?_range hj]
/-- What corresponds to a variable is itself. -/
def Own0 (n : Nat) (inn : List Bool) (k : Nat) (is : List Int) : Prop := is.length = n + 1 + k ∧ ∀ u, u < n + 1 + k → (u ≤ n ∨ inn.getD u false = true) → is.getD u 0 = 2 * (u : Int)
theorem isL_own {is : List Int} {l : Int} (h0 : 0 ≤ l) (h : is.getD (vr l) 0 = 2 * ((vr l : Nat) : Int)) : isL is l = l := by
  unfold isL
  rw [h]
  unfold vr Gm.negB
  by_cases hl : l % 2 = 1
  · rw [if_pos hl, if_pos (by omega)]; omega
  · rw [if_neg hl]; omega
theorem self_at (hr : Gm.rightB n gs = true) {inn : List Bool} (hc : ∀ k (hk : k < gs.length), inn.getD (n + 1 + k) false = true → inn.getD (vr (gs[k]).1) false = true ∧ inn.getD (vr (gs[k]).2) false = true) (k : Nat) (hk : k ≤ gs.length) :
    ∃ is, copyAt n gs n gs inn (selfBy n) k = .ok (gs, is) ∧ Own0 n inn k is := by
  induction k with
  | zero =>
    refine ⟨0 :: selfBy n, rfl, by simp [selfBy_len], fun u hu _ => ?_⟩
    cases u with
    | zero => rfl
    | succ u => rw [List.getD_cons_succ, selfBy_get (by omega)]; omega
  | succ k ih =>
    obtain ⟨is, e, hl, ho⟩ := ih (by omega)
    have hk' : k < gs.length := by omega
    have hlow := Low.of_right hr k hk'
    have hgl := Em.gate_low (Em.right_ord hr) hk'
    cases hi : inn.getD (n + 1 + k) false with
    | false =>
      refine ⟨is ++ [0], by rw [copyAt, e]; simp only [stepC]; rw [hi]; rfl, by simp [hl]; omega, fun u hu hcu => ?_⟩
      have hlt : u < n + 1 + k := by
        rcases Nat.lt_or_ge u (n + 1 + k) with h | h
        · exact h
        · obtain rfl : u = n + 1 + k := by omega
          rcases hcu with hcu | hcu
          · omega
          · rw [hi] at hcu; cases hcu
      rw [Em.getD_pre _ _ _ (by omega)]
      exact ho u hlt hcu
    | true =>
      obtain ⟨c1, c2⟩ := hc k hk' hi
      have e1 := isL_own (l := (gs[k]).1) (by omega) (ho _ hlow.1 (Or.inr c1))
      have e2 := isL_own (l := (gs[k]).2) (by omega) (ho _ hlow.2 (Or.inr c2))
      refine ⟨is ++ [2 * ((n : Int) + 1 + k)], ?_, by simp [hl]; omega, fun u hu hcu => ?_⟩
      · rw [copyAt, e]
        simp only [stepC]
        rw [hi, if_pos rfl, gate_at hk', e1, e2, and_self hr hk']
        rfl
      · by_cases eu : u = n + 1 + k
        · rw [getD_last _ _ (by omega), eu]; omega
        · rw [Em.getD_pre _ _ _ (by omega)]
          exact ho u (by omega) hcu
/-- A copy into the same graph, each input being itself, is the literal. -/
theorem copy_self (hr : Gm.rightB n gs = true) {l : Int} (hl : Gm.litB n gs.length l = true) : copyS n gs n gs l (selfBy n) = (((n : Int), gs), l, 0) := by
  have hlf := lit_facts hl
  have hrf := right_facts hr
  have hL := Low.of_right hr
  have hvl : vr l < n + 1 + gs.length := by unfold vr; omega
  obtain ⟨is, e, _, ho⟩ := self_at hr (inn := below n gs l) (fun k hk hm => marks_closed hL _ (first_length l) hk hm) gs.length (Nat.le_refl _)
  have hall : (selfBy n).all (Gm.litB n gs.length) = true := by
    rw [List.all_eq_true]
    intro x hx
    obtain ⟨i, hi, rfl⟩ := List.mem_map.1 hx
    have := List.mem_range.1 hi
    exact lit_mk (by omega) (by omega) (by omega) (by omega)
  unfold copyS
  rw [if_pos ⟨hr, hr, hl, by rw [selfBy_len], hall⟩, Int.toNat_natCast, e]
  simp only
  rw [isL_own hlf.1 (ho _ hvl (Or.inr ((below_iff hL hvl _).2 InC.self)))]
end
end Cm
end Go.Proofs.Ytjjdgiondpnpcaa
