/- Plain mathematics of package eval: the values of variables and literals, in two and in three values, as functions on lists. -/
import Derived.Test.YteabffdddlihnaaBC
namespace Go.Proofs.Yteabffdddlihnaa.Em

section
variable {α β : Type} {f : List α → Int × Int → α}
/-- The values of the gates, one behind the other. -/
def vals (f : List α → Int × Int → α) : List α → List (Int × Int) → List α
  | v, [] => v
  | v, g :: r => vals f (v ++ [f v g]) r
theorem vals_append (v : List α) (gs hs : List (Int × Int)) : vals f v (gs ++ hs) = vals f (vals f v gs) hs := by
  induction gs generalizing v with
  | nil => rfl
  | cons g r ih => simp only [List.cons_append, vals]; exact ih _
theorem vals_snoc (v : List α) (gs : List (Int × Int)) (g : Int × Int) : vals f v (gs ++ [g]) = vals f v gs ++ [f (vals f v gs) g] := by
  rw [vals_append]; rfl
theorem vals_length (v : List α) (gs : List (Int × Int)) : (vals f v gs).length = v.length + gs.length := by
  induction gs generalizing v with
  | nil => rfl
  | cons g r ih => simp only [vals, ih, List.length_append, List.length_cons, List.length_nil]; omega
theorem vals_take (v : List α) (gs : List (Int × Int)) (k : Nat) (hk : k < gs.length) : vals f v (gs.take (k + 1)) = vals f v (gs.take k) ++ [f (vals f v (gs.take k)) gs[k]] := by
  rw [List.take_succ_eq_append_getElem hk, vals_snoc]
theorem vals_pre (v : List α) (gs : List (Int × Int)) : ∃ t, vals f v gs = v ++ t := by
  induction gs generalizing v with
  | nil => exact ⟨[], by simp [vals]⟩
  | cons g r ih =>
    obtain ⟨t, h⟩ := ih (v ++ [f v g])
    exact ⟨f v g :: t, by simp [vals, h]⟩
theorem getD_pre (v t : List α) (d : α) {i : Nat} (h : i < v.length) : (v ++ t).getD i d = v.getD i d := by
  simp [List.getD_eq_getElem?_getD, List.getElem?_append_left h]
theorem vals_getD (v : List α) (gs : List (Int × Int)) (d : α) {i : Nat} (h : i < v.length) : (vals f v gs).getD i d = v.getD i d := by
  obtain ⟨t, e⟩ := vals_pre (f := f) v gs
  rw [e, getD_pre _ _ _ h]
/-- The value of the k-th gate. -/
theorem vals_gate (v : List α) (gs : List (Int × Int)) (d : α) (k : Nat) (hk : k < gs.length) : (vals f v gs).getD (v.length + k) d = f (vals f v (gs.take k)) gs[k] := by
  have e : vals f v gs = vals f (vals f v (gs.take (k + 1))) (gs.drop (k + 1)) := by rw [← vals_append, List.take_append_drop]
  have hl : (vals f v (gs.take k)).length = v.length + k := by rw [vals_length, List.length_take, Nat.min_eq_left (by omega)]
  rw [e, vals_getD _ _ _ (by rw [vals_length, List.length_take]; omega), vals_take v gs k hk]
  simp [List.getD_eq_getElem?_getD, ← hl]
/-- What is so of each of two lists stays so. -/
theorem vals_rel {g : List β → Int × Int → β} (R : α → β → Prop) (d : α) (e : β)
    (hf : ∀ u v x, u.length = v.length → (∀ i, R (u.getD i d) (v.getD i e)) → R (f u x) (g v x)) (hd : R d e) (gs : List (Int × Int)) :
    ∀ (u : List α) (v : List β), u.length = v.length → (∀ i, R (u.getD i d) (v.getD i e)) → ∀ i, R ((vals f u gs).getD i d) ((vals g v gs).getD i e) := by
  induction gs with
  | nil => intro u v _ h i; exact h i
  | cons x r ih =>
    intro u v hl h
    refine ih _ _ (by simp [hl]) fun i => ?_
    rcases Nat.lt_trichotomy i u.length with hi | hi | hi
    · rw [getD_pre _ _ _ hi, getD_pre _ _ _ (hl ▸ hi)]; exact h i
    · have e1 : (u ++ [f u x]).getD i d = f u x := by simp [List.getD_eq_getElem?_getD, hi]
      have e2 : (v ++ [g v x]).getD i e = g v x := by simp [List.getD_eq_getElem?_getD, hi, hl]
      rw [e1, e2]; exact hf u v x hl h
    · rw [List.getD_eq_getElem?_getD, List.getD_eq_getElem?_getD, List.getElem?_eq_none (by simp; omega), List.getElem?_eq_none (by simp; omega)]
      exact hd
end

def negL (l : Int) : Bool := decide (l % 2 = 1)
def bitB (v : List Bool) (l : Int) : Bool := v.getD (l / 2).toNat false != negL l
def gateB (v : List Bool) (g : Int × Int) : Bool := bitB v g.1 && bitB v g.2
def allB (n : Int) (gs : List (Int × Int)) (ins : List Bool) : List Bool :=
  if Gm.rightB n gs = true ∧ (ins.length : Int) = n then vals gateB (false :: ins) gs else []
def evalB (n : Int) (gs : List (Int × Int)) (l : Int) (ins : List Bool) : Bool :=
  decide (0 < (allB n gs ins).length) && Gm.litB n gs.length l && bitB (allB n gs ins) l

def turnT (x : Int) : Int := if x = 2 then 2 else 1 - x
def triT (v : List Int) (l : Int) : Int := if l % 2 = 1 then turnT (v.getD (l / 2).toNat 0) else v.getD (l / 2).toNat 0
def andT (a b : Int) : Int := if a = 0 ∨ b = 0 then 0 else if a = 1 ∧ b = 1 then 1 else 2
def gateT (v : List Int) (g : Int × Int) : Int := andT (triT v g.1) (triT v g.2)
def normT (x : Int) : Int := if x = 0 ∨ x = 1 then x else 2
def threeS (n : Int) (gs : List (Int × Int)) (l : Int) (ins : List Int) : Int :=
  if Gm.litB n gs.length l = true ∧ Gm.rightB n gs = true ∧ (ins.length : Int) = n then triT (vals gateT (0 :: ins.map normT) gs) l else 2

/-- One of three values. -/
def T3 (x : Int) : Prop := x = 0 ∨ x = 1 ∨ x = 2
theorem T3.norm (x : Int) : T3 (normT x) := by unfold T3 normT; split <;> omega
theorem T3.turn {x : Int} (h : T3 x) : T3 (turnT x) := by unfold T3 turnT at *; split <;> omega
theorem T3.and (a b : Int) : T3 (andT a b) := by unfold T3 andT; split <;> (try split) <;> omega
def All3 (v : List Int) : Prop := ∀ i, T3 (v.getD i 0)
theorem All3.tri {v : List Int} (h : All3 v) (l : Int) : T3 (triT v l) := by
  unfold triT; split
  · exact (h _).turn
  · exact h _
theorem All3.start (ins : List Int) : All3 (0 :: ins.map normT) := by
  intro i
  cases i with
  | zero => exact Or.inl rfl
  | succ i =>
    rw [List.getD_cons_succ, List.getD_eq_getElem?_getD, List.getElem?_map]
    cases ins[i]? with
    | none => exact Or.inl rfl
    | some x => exact T3.norm x
theorem All3.vals {v : List Int} (h : All3 v) (gs : List (Int × Int)) : All3 (vals gateT v gs) := by
  intro i
  exact vals_rel (f := gateT) (g := gateT) (fun a _ => T3 a) 0 0 (fun u v x _ _ => T3.and _ _) (Or.inl rfl) gs v v rfl h i

/-- In order: the literals of gate k stand on variables that come before it. -/
theorem gate_low {n : Int} {gs : List (Int × Int)} (h : Gm.ordB n 0 gs = true) {k : Nat} (hk : k < gs.length) : 2 ≤ (gs[k]).2 ∧ (gs[k]).2 / 2 < (gs[k]).1 / 2 ∧ (gs[k]).1 / 2 < n + 1 + k := by
  have h1 := Gm.ordB_false n gs 0 k hk
  rw [Nat.zero_add] at h1
  cases hg : Gm.gateB n k gs[k] with
  | false => rw [h1 hg] at h; cases h
  | true => simp only [Gm.gateB, Bool.and_eq_true, decide_eq_true_eq] at hg; omega
theorem right_ord {n : Int} {gs : List (Int × Int)} (h : Gm.rightB n gs = true) : Gm.ordB n 0 gs = true := by
  simp [Gm.rightB] at h; exact h.1.2
theorem bitB_pre (v t : List Bool) {l : Int} (h : (l / 2).toNat < v.length) : bitB (v ++ t) l = bitB v l := by
  unfold bitB; rw [getD_pre _ _ _ h]
theorem triT_pre (v t : List Int) {l : Int} (h : (l / 2).toNat < v.length) : triT (v ++ t) l = triT v l := by
  unfold triT; rw [getD_pre _ _ _ h]

/-- A value in three tells nothing, or the value in two. -/
def Ag (t : Int) (b : Bool) : Prop := t = 2 ∨ t = if b then 1 else 0
theorem Ag.and {s t : Int} {a b : Bool} (h : Ag s a) (k : Ag t b) : Ag (andT s t) (a && b) := by
  unfold Ag at *
  rcases h with rfl | rfl <;> rcases k with rfl | rfl <;> cases a <;> cases b <;> decide
theorem Ag.turn {s : Int} {a : Bool} (h : Ag s a) : Ag (turnT s) (!a) := by
  unfold Ag at *
  rcases h with rfl | rfl <;> cases a <;> decide
theorem Ag.tri {u : List Int} {v : List Bool} (h : ∀ i, Ag (u.getD i 0) (v.getD i false)) (l : Int) : Ag (triT u l) (bitB v l) := by
  unfold triT bitB negL
  have := h (l / 2).toNat
  by_cases hl : l % 2 = 1
  · simpa [hl] using this.turn
  · simpa [hl] using this
/-- A value in three is the value in two. -/
def Eq3 (t : Int) (b : Bool) : Prop := t = if b then 1 else 0
theorem Eq3.and {s t : Int} {a b : Bool} (h : Eq3 s a) (k : Eq3 t b) : Eq3 (andT s t) (a && b) := by
  unfold Eq3 at *
  subst h k
  cases a <;> cases b <;> decide
theorem Eq3.turn {s : Int} {a : Bool} (h : Eq3 s a) : Eq3 (turnT s) (!a) := by
  unfold Eq3 at *
  subst h
  cases a <;> decide
theorem Eq3.tri {u : List Int} {v : List Bool} (h : ∀ i, Eq3 (u.getD i 0) (v.getD i false)) (l : Int) : Eq3 (triT u l) (bitB v l) := by
  unfold triT bitB negL
  have := h (l / 2).toNat
  by_cases hl : l % 2 = 1
  · simpa [hl] using this.turn
  · simpa [hl] using this
/-- The same, or Either. -/
def Le3 (a b : Int) : Prop := b = 2 ∨ a = b
theorem Le3.and {a b c d : Int} (h : Le3 a b) (k : Le3 c d) (ta : T3 a) (tc : T3 c) : Le3 (andT a c) (andT b d) := by
  unfold Le3 T3 at *
  rcases h with rfl | rfl <;> rcases k with rfl | rfl <;> rcases ta with rfl | rfl | rfl <;> rcases tc with rfl | rfl | rfl <;> decide
theorem Le3.turn {a b : Int} (h : Le3 a b) : Le3 (turnT a) (turnT b) := by
  unfold Le3 at *
  rcases h with rfl | rfl
  · exact Or.inl rfl
  · exact Or.inr rfl
theorem Le3.tri {u v : List Int} (h : ∀ i, Le3 (u.getD i 0) (v.getD i 0)) (l : Int) : Le3 (triT u l) (triT v l) := by
  unfold triT
  split
  · exact (h _).turn
  · exact h _
end Go.Proofs.Yteabffdddlihnaa.Em
