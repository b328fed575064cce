/- The rows over numbers: how their slice is opened. -/
import Derived.Test.YtdbmepndebdbpaaQad
import Derived.Deep.Slices
import Derived.Lib.SmallJoins
namespace Go.Proofs.Ytdbmepndebdbpaa
open Go.ChangeShapes Go.WideShapes Go.ChangeAt Go.RowKit Go.Deep Go.Joins Go.WideElems

theorem Try.laid2 : laidOutB Try.prog = true := by kernel_rfl
theorem Try.cellsU16 : Try.prog.cellsOf 45 = 1 := by kernel_rfl
section
variable {H : Type} {enc : TypeId × Value → H} {W : World} {base : Nat} {spare : Nat → Bool} {held : Bool}
theorem open_us {fuel : Nat} {v1 : Value} {x : DataW H × List MemPlace} (h : DataW.trod enc Try.prog W base spare held fuel 22 [v1] = some x) :
    ∃ (A : Option Addr) (c : Nat) (zs : List Int), v1 = .slice A zs.length c ∧ Us W W.heap.size A zs ∧ zs.length ≤ maxLen := by
  rcases open_slice Try.underlying22 h with ⟨hcs, _⟩ | ⟨a, len, cap, m, n, D, Pl, hcs, hb, hl, hm, hmm, _, hx⟩
  · refine ⟨none, 0, [], ?_, fun k hk => by simp at hk, Nat.zero_le _⟩
    simpa using hcs
  · have hlm : len ≤ m := by rw [hmm]; split <;> omega
    have each : ∀ i, i < len → ∃ q : Int, W.cell? (a.add (i * 1)) = some (.int .u16 q) ∧ (Lit.int .u16 q).wf = true := by
      intro i hi
      obtain ⟨cs', h1, h2⟩ := hx i (by omega)
      rw [Try.cellsU16] at h1
      obtain ⟨_, hlen, hcell⟩ := World.cells?_some h1
      obtain ⟨u, hu, _, wu⟩ := DataW.trod_int Try.underlying45 h2
      subst hu
      have e0 := hcell 0 (by omega)
      exact ⟨u, by simpa [Addr.add] using e0, wu⟩
    obtain ⟨q, hq⟩ := choose_lt each
    refine ⟨some a, cap, (List.range len).map q, ?_, fun k hk => ?_, by simp; omega⟩
    · simpa using hcs
    · have hk' : k < len := by simpa using hk
      obtain ⟨e1, w1⟩ := hq k hk'
      obtain ⟨b, off, spot⟩ := a
      have hspot : spot = none := by
        have := World.cell?_spot (hq 0 (by omega)).1
        simpa [Addr.add] using this
      subst hspot
      rw [add_plain, Nat.mul_one] at e1
      have bd := bounds_u16 w1
      refine ⟨b, off, rfl, ?_, ?_, ?_⟩
      · exact World.block_lt_of_cell? W ⟨b, off + k, none⟩ e1
      · simpa using e1
      · simpa using bd
end

end Go.Proofs.Ytdbmepndebdbpaa
/- Plain mathematics of package eval: the values of variables and literals, in two and in three values, as functions on lists. -/
namespace Go.Proofs.Ytdbmepndebdbpaa.Em

section
variable {α β : Type} {f : List α → Int × Int → α}
/-- The values of the gates, one behind the other. -/
def vals (f : List α → Int × Int → α) : List α → List (Int × Int) → List α
  | v, [] => v
  | v, g :: r => vals f (v ++ [f v g]) r
theorem vals_append (v : List α) (gs hs : List (Int × Int)) : vals f v (gs ++ hs) = vals f (vals f v gs) hs := by
  induction gs generalizing v with
  | nil => rfl
  | cons g r ih => simp only [List.cons_append, vals]; exact ih _
theorem vals_snoc (v : List α) (gs : List (Int × Int)) (g : Int × Int) : vals f v (gs ++ [g]) = vals f v gs ++ [f (vals f v gs) g] := by
  rw [vals_append]; rfl
theorem vals_length (v : List α) (gs : List (Int × Int)) : (vals f v gs).length = v.length + gs.length := by
  induction gs generalizing v with
  | nil => rfl
  | cons g r ih => simp only [vals, ih, List.length_append, List.length_cons, List.length_nil]; omega
theorem vals_take (v : List α) (gs : List (Int × Int)) (k : Nat) (hk : k < gs.length) : vals f v (gs.take (k + 1)) = vals f v (gs.take k) ++ [f (vals f v (gs.take k)) gs[k]] := by
  rw [List.take_succ_eq_append_getElem hk, vals_snoc]
theorem vals_pre (v : List α) (gs : List (Int × Int)) : ∃ t, vals f v gs = v ++ t := by
  induction gs generalizing v with
  | nil => exact ⟨[], by simp [vals]⟩
  | cons g r ih =>
    obtain ⟨t, h⟩ := ih (v ++ [f v g])
    exact ⟨f v g :: t, by simp [vals, h]⟩
theorem getD_pre (v t : List α) (d : α) {i : Nat} (h : i < v.length) : (v ++ t).getD i d = v.getD i d := by
  simp [List.getD_eq_getElem?_getD, List.getElem?_append_left h]
theorem vals_getD (v : List α) (gs : List (Int × Int)) (d : α) {i : Nat} (h : i < v.length) : (vals f v gs).getD i d = v.getD i d := by
  obtain ⟨t, e⟩ := vals_pre (f := f) v gs
  rw [e, getD_pre _ _ _ h]
/-- The value of the k-th gate. -/
theorem vals_gate (v : List α) (gs : List (Int × Int)) (d : α) (k : Nat) (hk : k < gs.length) : (vals f v gs).getD (v.length + k) d = f (vals f v (gs.take k)) gs[k] := by
  have e : vals f v gs = vals f (vals f v (gs.take (k + 1))) (gs.drop (k + 1)) := by rw [← vals_append, List.take_append_drop]
  have hl : (vals f v (gs.take k)).length = v.length + k := by rw [vals_length, List.length_take, Nat.min_eq_left (by omega)]
  rw [e, vals_getD _ _ _ (by rw [vals_length, List.length_take]; omega), vals_take v gs k hk]
  simp [List.getD_eq_getElem?_getD, ← hl]
/-- What is so of each of two lists stays so. -/
theorem vals_rel {g : List β → Int × Int → β} (R : α → β → Prop) (d : α) (e : β)
    (hf : ∀ u v x, u.length = v.length → (∀ i, R (u.getD i d) (v.getD i e)) → R (f u x) (g v x)) (hd : R d e) (gs : List (Int × Int)) :
    ∀ (u : List α) (v : List β), u.length = v.length → (∀ i, R (u.getD i d) (v.getD i e)) → ∀ i, R ((vals f u gs).getD i d) ((vals g v gs).getD i e) := by
  induction gs with
  | nil => intro u v _ h i; exact h i
  | cons x r ih =>
    intro u v hl h
    refine ih _ _ (by simp [hl]) fun i => ?_
    rcases Nat.lt_trichotomy i u.length with hi | hi | hi
    · rw [getD_pre _ _ _ hi, getD_pre _ _ _ (hl ▸ hi)]; exact h i
    · have e1 : (u ++ [f u x]).getD i d = f u x := by simp [List.getD_eq_getElem?_getD, hi]
      have e2 : (v ++ [g v x]).getD i e = g v x := by simp [List.getD_eq_getElem?_getD, hi, hl]
      rw [e1, e2]; exact hf u v x hl h
    · rw [List.getD_eq_getElem?_getD, List.getD_eq_getElem?_getD, List.getElem?_eq_none (by simp; omega), List.getElem?_eq_none (by simp; omega)]
      exact hd
end

def negL (l : Int) : Bool := decide (l % 2 = 1)
def bitB (v : List Bool) (l : Int) : Bool := v.getD (l / 2).toNat false != negL l
def gateB (v : List Bool) (g : Int × Int) : Bool := bitB v g.1 && bitB v g.2
def allB (n : Int) (gs : List (Int × Int)) (ins : List Bool) : List Bool :=
  if Gm.rightB n gs = true ∧ (ins.length : Int) = n then vals gateB (false :: ins) gs else []
def evalB (n : Int) (gs : List (Int × Int)) (l : Int) (ins : List Bool) : Bool :=
  decide (0 < (allB n gs ins).length) && Gm.litB n gs.length l && bitB (allB n gs ins) l

def turnT (x : Int) : Int := if x = 2 then 2 else 1 - x
def triT (v : List Int) (l : Int) : Int := if l % 2 = 1 then turnT (v.getD (l / 2).toNat 0) else v.getD (l / 2).toNat 0
def andT (a b : Int) : Int := if a = 0 ∨ b = 0 then 0 else if a = 1 ∧ b = 1 then 1 else 2
def gateT (v : List Int) (g : Int × Int) : Int := andT (triT v g.1) (triT v g.2)
def normT (x : Int) : Int := if x = 0 ∨ x = 1 then x else 2
def threeS (n : Int) (gs : List (Int × Int)) (l : Int) (ins : List Int) : Int :=
  if Gm.litB n gs.length l = true ∧ Gm.rightB n gs = true ∧ (ins.length : Int) = n then triT (vals gateT (0 :: ins.map normT) gs) l else 2

/-- One of three values. -/
def T3 (x : Int) : Prop := x = 0 ∨ x = 1 ∨ x = 2
theorem T3.norm (x : Int) : T3 (normT x) := by unfold T3 normT; split <;> omega
theorem T3.turn {x : Int} (h : T3 x) : T3 (turnT x) := by unfold T3 turnT at *; split <;> omega
theorem T3.and (a b : Int) : T3 (andT a b) := by unfold T3 andT; split <;> (try split) <;> omega
def All3 (v : List Int) : Prop := ∀ i, T3 (v.getD i 0)
theorem All3.tri {v : List Int} (h : All3 v) (l : Int) : T3 (triT v l) := by
  unfold triT; split
  · exact (h _).turn
  · exact h _
theorem All3.start (ins : List Int) : All3 (0 :: ins.map normT) := by
  intro i
  cases i with
  | zero => exact Or.inl rfl
  | succ i =>
    rw [List.getD_cons_succ, List.getD_eq_getElem?_getD, List.getElem?_map]
    cases ins[i]? with
    | none => exact Or.inl rfl
    | some x => exact T3.norm x
theorem All3.vals {v : List Int} (h : All3 v) (gs : List (Int × Int)) : All3 (vals gateT v gs) := by
  intro i
  exact vals_rel (f := gateT) (g := gateT) (fun a _ => T3 a) 0 0 (fun u v x _ _ => T3.and _ _) (Or.inl rfl) gs v v rfl h i

/-- In order: the literals of gate k stand on variables that come before it. -/
theorem gate_low {n : Int} {gs : List (Int × Int)} (h : Gm.ordB n 0 gs = true) {k : Nat} (hk : k < gs.length) : 2 ≤ (gs[k]).2 ∧ (gs[k]).2 / 2 < (gs[k]).1 / 2 ∧ (gs[k]).1 / 2 < n + 1 + k := by
  have h1 := Gm.ordB_false n gs 0 k hk
  rw [Nat.zero_add] at h1
  cases hg : Gm.gateB n k gs[k] with
  | false => rw [h1 hg] at h; cases h
  | true => simp only [Gm.gateB, Bool.and_eq_true, decide_eq_true_eq] at hg; omega
theorem right_ord {n : Int} {gs : List (Int × Int)} (h : Gm.rightB n gs = true) : Gm.ordB n 0 gs = true := by
  simp [Gm.rightB] at h; exact h.1.2
theorem bitB_pre (v t : List Bool) {l : Int} (h : (l / 2).toNat < v.length) : bitB (v ++ t) l = bitB v l := by
  unfold bitB; rw [getD_pre _ _ _ h]
theorem triT_pre (v t : List Int) {l : Int} (h : (l / 2).toNat < v.length) : triT (v ++ t) l = triT v l := by
  unfold triT; rw [getD_pre _ _ _ h]

/-- A value in three tells nothing, or the value in two. -/
def Ag (t : Int) (b : Bool) : Prop := t = 2 ∨ t = if b then 1 else 0
theorem Ag.and {s t : Int} {a b : Bool} (h : Ag s a) (k : Ag t b) : Ag (andT s t) (a && b) := by
  unfold Ag at *
  rcases h with rfl | rfl <;> rcases k with rfl | rfl <;> cases a <;> cases b <;> decide
theorem Ag.turn {s : Int} {a : Bool} (h : Ag s a) : Ag (turnT s) (!a) := by
  unfold Ag at *
  rcases h with rfl | rfl <;> cases a <;> decide
theorem Ag.tri {u : List Int} {v : List Bool} (h : ∀ i, Ag (u.getD i 0) (v.getD i false)) (l : Int) : Ag (triT u l) (bitB v l) := by
  unfold triT bitB negL
  have := h (l / 2).toNat
  by_cases hl : l % 2 = 1
  · simpa [hl] using this.turn
  · simpa [hl] using this
/-- A value in three is the value in two. -/
def Eq3 (t : Int) (b : Bool) : Prop := t = if b then 1 else 0
theorem Eq3.and {s t : Int} {a b : Bool} (h : Eq3 s a) (k : Eq3 t b) : Eq3 (andT s t) (a && b) := by
  unfold Eq3 at *
  subst h k
  cases a <;> cases b <;> decide
theorem Eq3.turn {s : Int} {a : Bool} (h : Eq3 s a) : Eq3 (turnT s) (!a) := by
  unfold Eq3 at *
  subst h
  cases a <;> decide
theorem Eq3.tri {u : List Int} {v : List Bool} (h : ∀ i, Eq3 (u.getD i 0) (v.getD i false)) (l : Int) : Eq3 (triT u l) (bitB v l) := by
  unfold triT bitB negL
  have := h (l / 2).toNat
  by_cases hl : l % 2 = 1
  · simpa [hl] using this.turn
  · simpa [hl] using this
/-- The same, or Either. -/
def Le3 (a b : Int) : Prop := b = 2 ∨ a = b
theorem Le3.and {a b c d : Int} (h : Le3 a b) (k : Le3 c d) (ta : T3 a) (tc : T3 c) : Le3 (andT a c) (andT b d) := by
  unfold Le3 T3 at *
  rcases h with rfl | rfl <;> rcases k with rfl | rfl <;> rcases ta with rfl | rfl | rfl <;> rcases tc with rfl | rfl | rfl <;> decide
theorem Le3.turn {a b : Int} (h : Le3 a b) : Le3 (turnT a) (turnT b) := by
  unfold Le3 at *
  rcases h with rfl | rfl
  · exact Or.inl rfl
  · exact Or.inr rfl
theorem Le3.tri {u v : List Int} (h : ∀ i, Le3 (u.getD i 0) (v.getD i 0)) (l : Int) : Le3 (triT u l) (triT v l) := by
  unfold triT
  split
  · exact (h _).turn
  · exact h _
end Go.Proofs.Ytdbmepndebdbpaa.Em
/- Slices of values of one cell, rows that the call itself makes, the Bits, All and Eval of the reference; how arguments are opened; two rows that grow side by side. -/
namespace Go.Proofs.Ytdbmepndebdbpaa
open Go.RowKit

/-- The slice at A, which lies below block B, holds the values vs. -/
def Vs (w : World) (B : Nat) (A : Option Addr) (vs : List Value) : Prop :=
  ∀ k (hk : k < vs.length), ∃ b off, A = some ⟨b, off, none⟩ ∧ b < B ∧ w.cell? ⟨b, off + k, none⟩ = some vs[k]
theorem Vs.keep {w w' : World} {B : Nat} {A : Option Addr} {vs : List Value} (h : Vs w B A vs) (hk : ∀ p : Addr, p.block < B → w'.cell? p = w.cell? p) : Vs w' B A vs := by
  intro k hlt
  obtain ⟨b, off, rfl, hb, h1⟩ := h k hlt
  exact ⟨b, off, rfl, hb, (hk ⟨b, _, none⟩ hb).trans h1⟩
theorem Vs.below {w w' : World} {B C : Nat} {A : Option Addr} {vs : List Value} (h : Vs w B A vs) (hb : Below C w w') (hB : B ≤ C) : Vs w' B A vs :=
  h.keep fun _ hp => hb.cell (Nat.lt_of_lt_of_le hp hB)
theorem Vs.more {w : World} {B C : Nat} {A : Option Addr} {vs : List Value} (h : Vs w B A vs) (hB : B ≤ C) : Vs w C A vs := by
  intro k hlt
  obtain ⟨b, off, rfl, hb, h1⟩ := h k hlt
  exact ⟨b, off, rfl, Nat.lt_of_lt_of_le hb hB, h1⟩
theorem Vs.far {w : World} {B : Nat} {A : Option Addr} {vs : List Value} (h : Vs w B A vs) {p : Addr} (hp : B ≤ p.block) (u : Value) : Vs (w.setCell p u) B A vs :=
  h.keep fun q hq => World.cell?_setCell_other w p q u (fun e => by subst e; omega)
theorem Vs.drewN {w : World} {B : Nat} {A : Option Addr} {vs : List Value} (h : Vs w B A vs) (n : Nat) : Vs (w.drewN n) B A vs := h
theorem Vs.drew {w : World} {B : Nat} {A : Option Addr} {vs : List Value} (h : Vs w B A vs) : Vs w.drew B A vs := h
abbrev bv (bs : List Bool) : List Value := bs.map .bool
abbrev iv (zs : List Int) : List Value := zs.map (.int .i64)
theorem Vs.bool {w : World} {B : Nat} {A : Option Addr} {bs : List Bool} (h : Vs w B A (bv bs)) (k : Nat) (hk : k < bs.length) : ∃ b off, A = some ⟨b, off, none⟩ ∧ b < B ∧ w.cell? ⟨b, off + k, none⟩ = some (.bool (bs.getD k false)) := by
  obtain ⟨b, off, e, hb, h1⟩ := h k (by simpa using hk)
  refine ⟨b, off, e, hb, h1.trans ?_⟩
  simp [List.getD_eq_getElem?_getD, List.getElem?_eq_getElem hk]
theorem Vs.int {w : World} {B : Nat} {A : Option Addr} {zs : List Int} (h : Vs w B A (iv zs)) (k : Nat) (hk : k < zs.length) : ∃ b off, A = some ⟨b, off, none⟩ ∧ b < B ∧ w.cell? ⟨b, off + k, none⟩ = some (.int .i64 (zs.getD k 0)) := by
  obtain ⟨b, off, e, hb, h1⟩ := h k (by simpa using hk)
  refine ⟨b, off, e, hb, h1.trans ?_⟩
  simp [List.getD_eq_getElem?_getD, List.getElem?_eq_getElem hk]
theorem ixB (sb off N c r : Nat) (hm : N ≤ 1000000) (hr : r < N) (w : World) : (Instr.indexAt 54 (.slice (some ⟨sb, off, none⟩) N c) (.int .i64 (r : Int))).run Try.prog w = .ok (.pointer (some ⟨sb, off + r, none⟩)) w := by go_simp
theorem ixI (sb off N c r : Nat) (hm : N ≤ 1000000) (hr : r < N) (w : World) : (Instr.indexAt 26 (.slice (some ⟨sb, off, none⟩) N c) (.int .i64 (r : Int))).run Try.prog w = .ok (.pointer (some ⟨sb, off + r, none⟩)) w := by go_simp

theorem mod_two {l : Int} (h : 0 ≤ l) : decide (l % 2 = 1) = Em.negL l := rfl
theorem Vs.src {w : World} {B : Nat} {A : Option Addr} {vs : List Value} (h : Vs w B A vs) (h0 : 0 < vs.length) : ∃ ad, A = some ad ∧ ∀ j v, vs[j]? = some v → w.cell? (ad.add j) = some v := by
  obtain ⟨b, off, rfl, _⟩ := h 0 h0
  refine ⟨_, rfl, fun j v hj => ?_⟩
  obtain ⟨hlt, e⟩ := List.getElem?_eq_some_iff.1 hj
  obtain ⟨b', off', e', _, h1⟩ := h j hlt
  injection e' with e'
  injection e' with e1 e2
  subst e1 e2 e
  have ha : (⟨b, off, none⟩ : Addr).add j = ⟨b, off + j, none⟩ := by simp [Addr.add]
  rw [ha]
  exact h1
theorem bv_one (bs : List Bool) : ∀ v ∈ bv bs, v.oneCell' = true := by
  intro v hv
  obtain ⟨b, _, rfl⟩ := List.mem_map.1 hv
  rfl
theorem iv_one (zs : List Int) : ∀ v ∈ iv zs, v.oneCell' = true := by
  intro v hv
  obtain ⟨b, _, rfl⟩ := List.mem_map.1 hv
  rfl
theorem Blk.vs {w : World} {g : Nat} {t : TypeId} {vs : List Value} (h : Blk w g t vs.toArray) : Vs w w.heap.size (some ⟨g, 0, none⟩) vs := by
  intro k hk
  refine ⟨g, 0, rfl, h.lt, ?_⟩
  rw [Nat.zero_add, h.cell k, List.getElem?_toArray, List.getElem?_eq_getElem hk]
/-- A list of bools, as a call answers it. -/
def BList (bs : List Bool) (w : World) (e : Ending) (w' : World) : Prop :=
  ∃ A c, e = .returned (.slice A bs.length c) ∧ Vs w' w'.heap.size A (bv bs) ∧ Below w.heap.size w w'
theorem vs_nil {w : World} {B : Nat} {A : Option Addr} : Vs w B A [] := fun k hk => by simp at hk
/-- A row of values of one cell, of the call's own. -/
def OwnV (w : World) (base : Nat) (e : TypeId) (v : Value) (vs : List Value) : Prop := w.ownsRow base e 1 v vs.length vs
theorem OwnV.nil (w : World) (base : Nat) (e : TypeId) : OwnV w base e (.slice none 0 0) [] := World.ownsRow_nil w base e 1
theorem OwnV.one (w : World) (base : Nat) (e : TypeId) (x : Value) (hb : base ≤ w.heap.size) : OwnV (w.alloc (.cells #[x] e)) base e (.slice (some ⟨w.heap.size, 0, none⟩) 1 1) [x] :=
  ⟨by simp, .inr ⟨w.heap.size, 1, #[x], rfl, hb, heap_alloc_new w _, by simp, by unfold maxLen; omega, by simp, by simp⟩⟩
theorem OwnV.alloc {w : World} {base : Nat} {e : TypeId} {v : Value} {vs : List Value} (h : OwnV w base e v vs) (o : Obj) : OwnV (w.alloc o) base e v vs := World.ownsRow.alloc h o
theorem OwnV.vs {w : World} {base : Nat} {e : TypeId} {v : Value} {vs : List Value} (h : OwnV w base e v vs) : ∃ A c, v = .slice A vs.length c ∧ Vs w w.heap.size A vs := by
  obtain ⟨_, h2⟩ := h
  rcases h2 with ⟨rfl, h0⟩ | ⟨g, cap, cur, rfl, _, hh, hn, _, hs, ht⟩
  · exact ⟨none, 0, by rw [h0], fun k hk => by omega⟩
  · refine ⟨_, cap, rfl, fun k hk => ⟨g, 0, rfl, Blk.lt (t := e) hh, ?_⟩⟩
    rw [Nat.zero_add, Blk.cell (t := e) hh, ← Array.getElem?_toList, ← List.getElem?_take_of_lt (show k < vs.length * 1 by omega), ht, List.getElem?_eq_getElem hk]
theorem OwnV.below {w w' : World} {base : Nat} {e : TypeId} {v : Value} {vs : List Value} (h : OwnV w base e v vs) (hb : Below w.heap.size w w') : OwnV w' base e v vs := by
  obtain ⟨h1, h2⟩ := h
  refine ⟨h1, h2.imp id ?_⟩
  rintro ⟨g, cap, cur, e1, e2, hh, e3⟩
  exact ⟨g, cap, cur, e1, e2, (hb.block g (Blk.lt (t := e) hh)).trans hh, e3⟩
theorem OwnV.base {w : World} {base : Nat} {e : TypeId} {v : Value} {vs : List Value} (h : OwnV w base e v vs) : ∀ k, v.ownBlock = some k → base ≤ k := by
  obtain ⟨_, h2⟩ := h
  rcases h2 with ⟨rfl, _⟩ | ⟨g, cap, cur, rfl, hb, _⟩
  · intro k hk; cases hk
  · intro k hk; injection hk with hk; subst hk; exact hb
theorem grown_low2 {w w' : World} {B : Nat} {row : Option Nat} (h : w.grownBy w' row) (hg : ∀ k, row = some k → B ≤ k) (hB : B ≤ w.heap.size) : Below B w w' :=
  ⟨h.os, h.tape, h.output, h.size, fun k hk => h.block k (by omega) (fun e => by have := hg k e.symm; omega)⟩

theorem run_append_vals (w : World) (base B : Nat) (t ty e : TypeId) (i : TypeInfo) (z : Value) (bytes : Nat) (ht : Try.prog.underlying t = some (.slice e)) (hi : Try.prog.info? e = some i) (hz : i.zero = some z)
    (hsize : i.size = 1) (hby : i.bytes = bytes) (hb8 : bytes ≤ 8) (hzs : z.cells.size = 1) (v : Value) (vs us : List Value) (hown : OwnV w base e v vs) (A : Option Addr) (c : Nat) (hg : Vs w B A us) (h1 : ∀ u ∈ us, u.oneCell' = true)
    (hl : vs.length + us.length ≤ 2000000) (hbase : base ≤ w.heap.size) :
    ∃ v' w', (Builtin.append_ #[t, t] ty #[v, .slice A us.length c]).run Try.prog w = .ok v' w' ∧ OwnV w' base e v' (vs ++ us) ∧ w.grownBy w' v.ownBlock ∧ (v'.ownBlock = v.ownBlock ∨ v'.ownBlock = some w.heap.size) := by
  have hm : vs.length + us.length ≤ maxLen := by unfold maxLen; omega
  cases A with
  | none =>
    have h0 : us = [] := by
      cases us with
      | nil => rfl
      | cons g r =>
        obtain ⟨_, _, e, _⟩ := hg 0 (by simp)
        cases e
    subst h0
    refine ⟨v, w, ?_, by simpa using hown, World.grownBy.refl w _, Or.inl rfl⟩
    rcases hown.2 with ⟨rfl, _⟩ | ⟨g, cap, cur, rfl, _, _, hnc, _⟩
    · simp [Builtin.append_, run_underlying ht, sizeOf, typeInfo, hi, Builtin.lenOf, Builtin.firstCells]
    · simp [Builtin.append_, run_underlying ht, sizeOf, typeInfo, hi, Builtin.lenOf, Builtin.firstCells, hnc, storeCells]
  | some ad =>
    have hsrc : ∀ j u, us[j]? = some u → w.cell? (ad.add j) = some u := fun j u hj => by
      have h0 : 0 < us.length := by have := (List.getElem?_eq_some_iff.1 hj).1; omega
      obtain ⟨ad', e', h⟩ := hg.src h0
      rw [Option.some.inj e']
      exact h j u hj
    have hbb : (vs.length + us.length) * bytes ≤ 140737488355328 := by
      have h := Nat.mul_le_mul hl hb8
      have e : 2000000 * 8 = 16000000 := by simp
      rw [e] at h
      exact Nat.le_trans h (by simp)
    obtain ⟨v', w', h1, h2, h3, _, h5⟩ := run_append_own_at (P := Try.prog) w base t ty e i z 1 bytes ht hi hz hsize hby hzs (by omega) v vs.length vs hown ad us.length c us (by simp) hsrc h1 hm hbb hbase
    exact ⟨v', w', h1, by unfold OwnV; rw [List.length_append]; exact h2, h3, h5⟩

theorem wpList_bools {ops : Array Oper} {rest : List Oper} {o : Oper} {a : Act} {Q : Exit → Act → World → Prop} {w : World} (hgd : o.guard = none) (s x : Operand)
    (ho : o.op = .call { callee := .builtin .append, args := #[s, x], argTypes := #[54, 54] })
    (base B : Nat) (v : Value) (vs us : List Value) (hs1 : a.eval s = v) (hown : OwnV w base 4 v vs) (A : Option Addr) (n c : Nat) (hx : a.eval x = .slice A n c) (hn : n = us.length) (hg : Vs w B A us) (h1 : ∀ u ∈ us, u.oneCell' = true)
    (hl : vs.length + us.length ≤ 2000000) (hbase : base ≤ w.heap.size)
    (h : ∀ v' w', OwnV w' base 4 v' (vs ++ us) → w.grownBy w' v.ownBlock → (v'.ownBlock = v.ownBlock ∨ v'.ownBlock = some w.heap.size) → wpList Try.prog ops Q rest (a.put o.dst v') w') : wpList Try.prog ops Q (o :: rest) a w := by
  refine wpList_plain hgd fun K hK => ?_
  subst hn
  obtain ⟨v', w', hrun, h2, h3, h4⟩ := run_append_vals w base B 54 o.type 4 Try.t4 (.bool false) 1 Try.underlying54 (by kernel_rfl) (by kernel_rfl) (by kernel_rfl) (by kernel_rfl) (by omega) (by kernel_rfl) v vs us hown A c hg h1 hl hbase
  unfold Oper.wp execOp
  simp only [ho, resolve, invoke, builtin, Sem.run_bind, Sem.run_pure, Result.andThen_ok, List.map_toArray, List.map_cons, List.map_nil, hs1, hx, hrun]
  exact hK _ _ (h v' w' h2 h3 h4)
theorem wpList_ints {ops : Array Oper} {rest : List Oper} {o : Oper} {a : Act} {Q : Exit → Act → World → Prop} {w : World} (hgd : o.guard = none) (s x : Operand)
    (ho : o.op = .call { callee := .builtin .append, args := #[s, x], argTypes := #[26, 26] })
    (base B : Nat) (v : Value) (vs us : List Value) (hs1 : a.eval s = v) (hown : OwnV w base 3 v vs) (A : Option Addr) (n c : Nat) (hx : a.eval x = .slice A n c) (hn : n = us.length) (hg : Vs w B A us) (h1 : ∀ u ∈ us, u.oneCell' = true)
    (hl : vs.length + us.length ≤ 2000000) (hbase : base ≤ w.heap.size)
    (h : ∀ v' w', OwnV w' base 3 v' (vs ++ us) → w.grownBy w' v.ownBlock → (v'.ownBlock = v.ownBlock ∨ v'.ownBlock = some w.heap.size) → wpList Try.prog ops Q rest (a.put o.dst v') w') : wpList Try.prog ops Q (o :: rest) a w := by
  refine wpList_plain hgd fun K hK => ?_
  subst hn
  obtain ⟨v', w', hrun, h2, h3, h4⟩ := run_append_vals w base B 26 o.type 3 Try.t3 (.int .i64 0) 8 Try.underlying26 (by kernel_rfl) (by kernel_rfl) (by kernel_rfl) (by kernel_rfl) (by omega) (by kernel_rfl) v vs us hown A c hg h1 hl hbase
  unfold Oper.wp execOp
  simp only [ho, resolve, invoke, builtin, Sem.run_bind, Sem.run_pure, Result.andThen_ok, List.map_toArray, List.map_cons, List.map_nil, hs1, hx, hrun]
  exact hK _ _ (h v' w' h2 h3 h4)
/-- One value in a new block. -/
theorem vs_one (w : World) (e : TypeId) (x : Value) : Vs (w.alloc (.cells #[x] e)) (w.alloc (.cells #[x] e)).heap.size (some ⟨w.heap.size, 0, none⟩) [x] := (show Blk _ _ e [x].toArray from Blk.new w e #[x]).vs

theorem and_one (x : Int) (h0 : 0 ≤ x) (h1 : x ≤ 1000000) : bits .and .i64 x 1 = x % 2 := by
  obtain ⟨m, rfl⟩ := Int.eq_ofNat_of_zero_le h0
  have := and_last m 1 (by omega) (by omega)
  simpa using this
/-- The lowest bits of a number. -/
def bitsB (n : Int) (m : Nat) : List Bool := (List.range m).map fun i => (n / 2 ^ i % 2 == 1)
theorem bitsB_length (n : Int) (m : Nat) : (bitsB n m).length = m := by simp [bitsB]
theorem bitsB_succ (n : Int) (m : Nat) : bitsB n (m + 1) = bitsB n m ++ [(n / 2 ^ m % 2 == 1)] := by simp [bitsB, List.range_succ]
/-- A row that grows, beside which nothing turns. -/
structure RowInv (w wr : World) (e : TypeId) (v : Value) (vs : List Value) : Prop where
  low : Below w.heap.size w wr
  own : OwnV wr w.heap.size e v vs
theorem RowInv.size {w wr : World} {e : TypeId} {v : Value} {vs : List Value} (h : RowInv w wr e v vs) : w.heap.size ≤ wr.heap.size := h.low.size
theorem RowInv.next {w wr w2 : World} {e : TypeId} {v v' : Value} {vs us : List Value} {o : Obj} (h : RowInv w wr e v vs) (ho : OwnV w2 w.heap.size e v' us) (hg : (wr.alloc o).grownBy w2 v.ownBlock) : RowInv w w2 e v' us :=
  ⟨(h.low.alloc h.low.size o).trans (grown_low2 hg h.own.base (Nat.le_trans h.low.size (by simp))), ho⟩

theorem one_bool (b : Bool) : ∀ u ∈ [Value.bool b], u.oneCell' = true := fun u hu => by simp at hu; subst hu; rfl
theorem one_int (b : Int) : ∀ u ∈ [Value.int .i64 b], u.oneCell' = true := fun u hu => by simp at hu; subst hu; rfl
/-- A graph in its box, and a row that grows. -/
structure RG (w wr : World) (n : Int) (s : Value) (e : TypeId) (v : Value) (vs : List Value) : Prop where
  low : Below w.heap.size w wr
  d0 : wr.cell? ⟨w.heap.size, 0, none⟩ = some (.int .i64 n)
  d1 : wr.cell? ⟨w.heap.size, 1, none⟩ = some s
  sz : w.heap.size < wr.heap.size
  own : OwnV wr (w.heap.size + 1) e v vs
section
variable {w wr w2 : World} {n : Int} {s : Value} {e : TypeId} {v v' : Value} {vs us : List Value}
theorem RG.below (h : RG w wr n s e v vs) (hb : Below wr.heap.size wr w2) : RG w w2 n s e v vs :=
  ⟨h.low.trans (hb.mono h.low.size), (hb.cell (p := ⟨w.heap.size, 0, none⟩) h.sz).trans h.d0, (hb.cell (p := ⟨w.heap.size, 1, none⟩) h.sz).trans h.d1, Nat.lt_of_lt_of_le h.sz hb.size, h.own.below hb⟩
theorem RG.alloc (h : RG w wr n s e v vs) (o : Obj) : RG w (wr.alloc o) n s e v vs := h.below ((Below.refl _ _).alloc (Nat.le_refl _) o)
theorem RG.drewN (h : RG w wr n s e v vs) (m : Nat) : RG w (wr.drewN m) n s e v vs := h.below (below_drewN (Below.refl _ _) _)
theorem RG.step (h : RG w wr n s e v vs) (ho : OwnV w2 (w.heap.size + 1) e v' us) (hg : wr.grownBy w2 v.ownBlock) : RG w w2 n s e v' us := by
  have hb : Below (w.heap.size + 1) wr w2 := grown_low2 hg h.own.base h.sz
  exact ⟨h.low.trans (hb.mono (Nat.le_succ _)), (hb.cell (p := ⟨w.heap.size, 0, none⟩) (Nat.lt_succ_self _)).trans h.d0, (hb.cell (p := ⟨w.heap.size, 1, none⟩) (Nat.lt_succ_self _)).trans h.d1, Nat.lt_of_lt_of_le h.sz hb.size, ho⟩
theorem RG.base (h : RG w wr n s e v vs) : w.heap.size + 1 ≤ wr.heap.size := h.sz
theorem RG.swap (h : RG w wr n s e v vs) (ho : OwnV wr (w.heap.size + 1) e v' us) : RG w wr n s e v' us := ⟨h.low, h.d0, h.d1, h.sz, ho⟩
end
theorem allB_no1 {n : Int} {gs : List (Int × Int)} {ins : List Bool} (h : Gm.rightB n gs = false) : Em.allB n gs ins = [] := by
  unfold Em.allB; rw [if_neg]; rintro ⟨h1, _⟩; rw [h] at h1; cases h1
theorem allB_no2 {n : Int} {gs : List (Int × Int)} {ins : List Bool} (h : ¬ (ins.length : Int) = n) : Em.allB n gs ins = [] := by
  unfold Em.allB; rw [if_neg]; rintro ⟨_, h2⟩; exact h h2

theorem Us.more {w : World} {B C : Nat} {A : Option Addr} {zs : List Int} (h : Us w B A zs) (hB : B ≤ C) : Us w C A zs := by
  intro k hk
  obtain ⟨b, off, rfl, hlt, h1, h2⟩ := h k hk
  exact ⟨b, off, rfl, Nat.lt_of_lt_of_le hlt hB, h1, h2⟩

end Go.Proofs.Ytdbmepndebdbpaa
