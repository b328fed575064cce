/- Plain mathematics of package eval: the values of variables and literals, in two and in three values, as functions on lists. -/
import Derived.Test.YtdnbndknfifmgaaGreatDoorUac
import Derived.Deep.Slices
import Derived.Lib.SmallJoins
import Derived.Laws.CopyOwn
namespace Go.Proofs.YtdnbndknfifmgaaGreatDoor.Em

section
variable {α β : Type} {f : List α → Int × Int → α}
/-- The values of the gates, one behind the other. -/
def vals (f : List α → Int × Int → α) : List α → List (Int × Int) → List α
  | v, [] => v
  | v, g :: r => vals f (v ++ [f v g]) r
theorem getD_pre (v t : List α) (d : α) {i : Nat} (h : i < v.length) : (v ++ t).getD i d = v.getD i d := by
  simp [List.getD_eq_getElem?_getD, List.getElem?_append_left h]
/-- What is so of each of two lists stays so. -/
theorem vals_rel {g : List β → Int × Int → β} (R : α → β → Prop) (d : α) (e : β)
    (hf : ∀ u v x, u.length = v.length → (∀ i, R (u.getD i d) (v.getD i e)) → R (f u x) (g v x)) (hd : R d e) (gs : List (Int × Int)) :
    ∀ (u : List α) (v : List β), u.length = v.length → (∀ i, R (u.getD i d) (v.getD i e)) → ∀ i, R ((vals f u gs).getD i d) ((vals g v gs).getD i e) := by
  induction gs with
  | nil => intro u v _ h i; exact h i
  | cons x r ih =>
    intro u v hl h
    refine ih _ _ (by simp [hl]) fun i => ?_
    rcases Nat.lt_trichotomy i u.length with hi | hi | hi
    · rw [getD_pre _ _ _ hi, getD_pre _ _ _ (hl ▸ hi)]; exact h i
    · have e1 : (u ++ [f u x]).getD i d = f u x := by simp [List.getD_eq_getElem?_getD, hi]
      have e2 : (v ++ [g v x]).getD i e = g v x := by simp [List.getD_eq_getElem?_getD, hi, hl]
      rw [e1, e2]; exact hf u v x hl h
    · rw [List.getD_eq_getElem?_getD, List.getD_eq_getElem?_getD, List.getElem?_eq_none (by simp; omega), List.getElem?_eq_none (by simp; omega)]
      exact hd
end

def negL (l : Int) : Bool := decide (l % 2 = 1)
def bitB (v : List Bool) (l : Int) : Bool := v.getD (l / 2).toNat false != negL l
def gateB (v : List Bool) (g : Int × Int) : Bool := bitB v g.1 && bitB v g.2
def turnT (x : Int) : Int := if x = 2 then 2 else 1 - x
def triT (v : List Int) (l : Int) : Int := if l % 2 = 1 then turnT (v.getD (l / 2).toNat 0) else v.getD (l / 2).toNat 0
def andT (a b : Int) : Int := if a = 0 ∨ b = 0 then 0 else if a = 1 ∧ b = 1 then 1 else 2
def gateT (v : List Int) (g : Int × Int) : Int := andT (triT v g.1) (triT v g.2)
def normT (x : Int) : Int := if x = 0 ∨ x = 1 then x else 2
/-- One of three values. -/
def T3 (x : Int) : Prop := x = 0 ∨ x = 1 ∨ x = 2
theorem T3.norm (x : Int) : T3 (normT x) := by unfold T3 normT; split <;> omega
theorem T3.and (a b : Int) : T3 (andT a b) := by unfold T3 andT; split <;> (try split) <;> omega
def All3 (v : List Int) : Prop := ∀ i, T3 (v.getD i 0)
theorem All3.start (ins : List Int) : All3 (0 :: ins.map normT) := by
  intro i
  cases i with
  | zero => exact Or.inl rfl
  | succ i =>
    rw [List.getD_cons_succ, List.getD_eq_getElem?_getD, List.getElem?_map]
    cases ins[i]? with
    | none => exact Or.inl rfl
    | some x => exact T3.norm x
theorem All3.vals {v : List Int} (h : All3 v) (gs : List (Int × Int)) : All3 (vals gateT v gs) := by
  intro i
  exact vals_rel (f := gateT) (g := gateT) (fun a _ => T3 a) 0 0 (fun u v x _ _ => T3.and _ _) (Or.inl rfl) gs v v rfl h i

/-- A value in three tells nothing, or the value in two. -/
def Ag (t : Int) (b : Bool) : Prop := t = 2 ∨ t = if b then 1 else 0
theorem Ag.and {s t : Int} {a b : Bool} (h : Ag s a) (k : Ag t b) : Ag (andT s t) (a && b) := by
  unfold Ag at *
  rcases h with rfl | rfl <;> rcases k with rfl | rfl <;> cases a <;> cases b <;> decide
/-- A value in three is the value in two. -/
def Eq3 (t : Int) (b : Bool) : Prop := t = if b then 1 else 0
theorem Eq3.and {s t : Int} {a b : Bool} (h : Eq3 s a) (k : Eq3 t b) : Eq3 (andT s t) (a && b) := by
  unfold Eq3 at *
  subst h k
  cases a <;> cases b <;> decide
/-- The same, or Either. -/
def Le3 (a b : Int) : Prop := b = 2 ∨ a = b
theorem Le3.and {a b c d : Int} (h : Le3 a b) (k : Le3 c d) (ta : T3 a) (tc : T3 c) : Le3 (andT a c) (andT b d) := by
  unfold Le3 T3 at *
  rcases h with rfl | rfl <;> rcases k with rfl | rfl <;> rcases ta with rfl | rfl | rfl <;> rcases tc with rfl | rfl | rfl <;> decide
end Go.Proofs.YtdnbndknfifmgaaGreatDoor.Em
/- Slices of values of one cell, rows that the call itself makes, the Bits, All and Eval of the reference; how arguments are opened; two rows that grow side by side. -/
namespace Go.Proofs.YtdnbndknfifmgaaGreatDoor
open Go.RowKit

/-- The slice at A, which lies below block B, holds the values vs. -/
def Vs (w : World) (B : Nat) (A : Option Addr) (vs : List Value) : Prop :=
  ∀ k (hk : k < vs.length), ∃ b off, A = some ⟨b, off, none⟩ ∧ b < B ∧ w.cell? ⟨b, off + k, none⟩ = some vs[k]
theorem Vs.keep {w w' : World} {B : Nat} {A : Option Addr} {vs : List Value} (h : Vs w B A vs) (hk : ∀ p : Addr, p.block < B → w'.cell? p = w.cell? p) : Vs w' B A vs := by
  intro k hlt
  obtain ⟨b, off, rfl, hb, h1⟩ := h k hlt
  exact ⟨b, off, rfl, hb, (hk ⟨b, _, none⟩ hb).trans h1⟩
theorem Vs.below {w w' : World} {B C : Nat} {A : Option Addr} {vs : List Value} (h : Vs w B A vs) (hb : Below C w w') (hB : B ≤ C) : Vs w' B A vs :=
  h.keep fun _ hp => hb.cell (Nat.lt_of_lt_of_le hp hB)
theorem Vs.more {w : World} {B C : Nat} {A : Option Addr} {vs : List Value} (h : Vs w B A vs) (hB : B ≤ C) : Vs w C A vs := by
  intro k hlt
  obtain ⟨b, off, rfl, hb, h1⟩ := h k hlt
  exact ⟨b, off, rfl, Nat.lt_of_lt_of_le hb hB, h1⟩
theorem Vs.far {w : World} {B : Nat} {A : Option Addr} {vs : List Value} (h : Vs w B A vs) {p : Addr} (hp : B ≤ p.block) (u : Value) : Vs (w.setCell p u) B A vs :=
  h.keep fun q hq => World.cell?_setCell_other w p q u (fun e => by subst e; omega)
theorem Vs.drewN {w : World} {B : Nat} {A : Option Addr} {vs : List Value} (h : Vs w B A vs) (n : Nat) : Vs (w.drewN n) B A vs := h
theorem Vs.drew {w : World} {B : Nat} {A : Option Addr} {vs : List Value} (h : Vs w B A vs) : Vs w.drew B A vs := h
abbrev bv (bs : List Bool) : List Value := bs.map .bool
abbrev iv (zs : List Int) : List Value := zs.map (.int .i64)
theorem Vs.bool {w : World} {B : Nat} {A : Option Addr} {bs : List Bool} (h : Vs w B A (bv bs)) (k : Nat) (hk : k < bs.length) : ∃ b off, A = some ⟨b, off, none⟩ ∧ b < B ∧ w.cell? ⟨b, off + k, none⟩ = some (.bool (bs.getD k false)) := by
  obtain ⟨b, off, e, hb, h1⟩ := h k (by simpa using hk)
  refine ⟨b, off, e, hb, h1.trans ?_⟩
  simp [List.getD_eq_getElem?_getD, List.getElem?_eq_getElem hk]
theorem Vs.int {w : World} {B : Nat} {A : Option Addr} {zs : List Int} (h : Vs w B A (iv zs)) (k : Nat) (hk : k < zs.length) : ∃ b off, A = some ⟨b, off, none⟩ ∧ b < B ∧ w.cell? ⟨b, off + k, none⟩ = some (.int .i64 (zs.getD k 0)) := by
  obtain ⟨b, off, e, hb, h1⟩ := h k (by simpa using hk)
  refine ⟨b, off, e, hb, h1.trans ?_⟩
  simp [List.getD_eq_getElem?_getD, List.getElem?_eq_getElem hk]
theorem ixI (sb off N c r : Nat) (_hm : N ≤ 1000000) (hr : r < N) (w : World) : (Instr.indexAt 26 (.slice (some ⟨sb, off, none⟩) N c) (.int .i64 (r : Int))).run Tryz.prog w = .ok (.pointer (some ⟨sb, off + r, none⟩)) w := by go_simp

theorem Vs.src {w : World} {B : Nat} {A : Option Addr} {vs : List Value} (h : Vs w B A vs) (h0 : 0 < vs.length) : ∃ ad, A = some ad ∧ ∀ j v, vs[j]? = some v → w.cell? (ad.add j) = some v := by
  obtain ⟨b, off, rfl, _⟩ := h 0 h0
  refine ⟨_, rfl, fun j v hj => ?_⟩
  obtain ⟨hlt, e⟩ := List.getElem?_eq_some_iff.1 hj
  obtain ⟨b', off', e', _, h1⟩ := h j hlt
  injection e' with e'
  injection e' with e1 e2
  subst e1 e2 e
  have ha : (⟨b, off, none⟩ : Addr).add j = ⟨b, off + j, none⟩ := by simp [Addr.add]
  rw [ha]
  exact h1
theorem Blk.vs {w : World} {g : Nat} {t : TypeId} {vs : List Value} (h : Blk w g t vs.toArray) : Vs w w.heap.size (some ⟨g, 0, none⟩) vs := by
  intro k hk
  refine ⟨g, 0, rfl, h.lt, ?_⟩
  rw [Nat.zero_add, h.cell k, List.getElem?_toArray, List.getElem?_eq_getElem hk]
theorem vs_nil {w : World} {B : Nat} {A : Option Addr} : Vs w B A [] := fun k hk => by simp at hk
/-- A row of values of one cell, of the call's own. -/
def OwnV (w : World) (base : Nat) (e : TypeId) (v : Value) (vs : List Value) : Prop := w.ownsRow base e 1 v vs.length vs
theorem OwnV.nil (w : World) (base : Nat) (e : TypeId) : OwnV w base e (.slice none 0 0) [] := World.ownsRow_nil w base e 1
theorem OwnV.one (w : World) (base : Nat) (e : TypeId) (x : Value) (hb : base ≤ w.heap.size) : OwnV (w.alloc (.cells #[x] e)) base e (.slice (some ⟨w.heap.size, 0, none⟩) 1 1) [x] :=
  ⟨by simp, .inr ⟨w.heap.size, 1, #[x], rfl, hb, heap_alloc_new w _, by simp, by unfold maxLen; omega, by simp, by simp⟩⟩
theorem OwnV.alloc {w : World} {base : Nat} {e : TypeId} {v : Value} {vs : List Value} (h : OwnV w base e v vs) (o : Obj) : OwnV (w.alloc o) base e v vs := World.ownsRow.alloc h o
theorem OwnV.vs {w : World} {base : Nat} {e : TypeId} {v : Value} {vs : List Value} (h : OwnV w base e v vs) : ∃ A c, v = .slice A vs.length c ∧ Vs w w.heap.size A vs := by
  obtain ⟨_, h2⟩ := h
  rcases h2 with ⟨rfl, h0⟩ | ⟨g, cap, cur, rfl, _, hh, hn, _, hs, ht⟩
  · exact ⟨none, 0, by rw [h0], fun k hk => by omega⟩
  · refine ⟨_, cap, rfl, fun k hk => ⟨g, 0, rfl, Blk.lt (t := e) hh, ?_⟩⟩
    rw [Nat.zero_add, Blk.cell (t := e) hh, ← Array.getElem?_toList, ← List.getElem?_take_of_lt (show k < vs.length * 1 by omega), ht, List.getElem?_eq_getElem hk]
theorem OwnV.below {w w' : World} {base : Nat} {e : TypeId} {v : Value} {vs : List Value} (h : OwnV w base e v vs) (hb : Below w.heap.size w w') : OwnV w' base e v vs := by
  obtain ⟨h1, h2⟩ := h
  refine ⟨h1, h2.imp id ?_⟩
  rintro ⟨g, cap, cur, e1, e2, hh, e3⟩
  exact ⟨g, cap, cur, e1, e2, (hb.block g (Blk.lt (t := e) hh)).trans hh, e3⟩
theorem OwnV.base {w : World} {base : Nat} {e : TypeId} {v : Value} {vs : List Value} (h : OwnV w base e v vs) : ∀ k, v.ownBlock = some k → base ≤ k := by
  obtain ⟨_, h2⟩ := h
  rcases h2 with ⟨rfl, _⟩ | ⟨g, cap, cur, rfl, hb, _⟩
  · intro k hk; cases hk
  · intro k hk; injection hk with hk; subst hk; exact hb
theorem grown_low2 {w w' : World} {B : Nat} {row : Option Nat} (h : w.grownBy w' row) (hg : ∀ k, row = some k → B ≤ k) (hB : B ≤ w.heap.size) : Below B w w' :=
  ⟨h.os, h.tape, h.output, h.size, fun k hk => h.block k (by omega) (fun e => by have := hg k e.symm; omega)⟩

/-- A row that grows, beside which nothing turns. -/
structure RowInv (w wr : World) (e : TypeId) (v : Value) (vs : List Value) : Prop where
  low : Below w.heap.size w wr
  own : OwnV wr w.heap.size e v vs
theorem RowInv.size {w wr : World} {e : TypeId} {v : Value} {vs : List Value} (h : RowInv w wr e v vs) : w.heap.size ≤ wr.heap.size := h.low.size
theorem RowInv.next {w wr w2 : World} {e : TypeId} {v v' : Value} {vs us : List Value} {o : Obj} (h : RowInv w wr e v vs) (ho : OwnV w2 w.heap.size e v' us) (hg : (wr.alloc o).grownBy w2 v.ownBlock) : RowInv w w2 e v' us :=
  ⟨(h.low.alloc h.low.size o).trans (grown_low2 hg h.own.base (Nat.le_trans h.low.size (by simp))), ho⟩

/-- A graph in its box, and a row that grows. -/
structure RG (w wr : World) (n : Int) (s : Value) (e : TypeId) (v : Value) (vs : List Value) : Prop where
  low : Below w.heap.size w wr
  d0 : wr.cell? ⟨w.heap.size, 0, none⟩ = some (.int .i64 n)
  d1 : wr.cell? ⟨w.heap.size, 1, none⟩ = some s
  sz : w.heap.size < wr.heap.size
  own : OwnV wr (w.heap.size + 1) e v vs
section
variable {w wr w2 : World} {n : Int} {s : Value} {e : TypeId} {v v' : Value} {vs us : List Value}
theorem RG.below (h : RG w wr n s e v vs) (hb : Below wr.heap.size wr w2) : RG w w2 n s e v vs :=
  ⟨h.low.trans (hb.mono h.low.size), (hb.cell (p := ⟨w.heap.size, 0, none⟩) h.sz).trans h.d0, (hb.cell (p := ⟨w.heap.size, 1, none⟩) h.sz).trans h.d1, Nat.lt_of_lt_of_le h.sz hb.size, h.own.below hb⟩
theorem RG.alloc (h : RG w wr n s e v vs) (o : Obj) : RG w (wr.alloc o) n s e v vs := h.below ((Below.refl _ _).alloc (Nat.le_refl _) o)
theorem RG.drewN (h : RG w wr n s e v vs) (m : Nat) : RG w (wr.drewN m) n s e v vs := h.below (below_drewN (Below.refl _ _) _)
theorem RG.step (h : RG w wr n s e v vs) (ho : OwnV w2 (w.heap.size + 1) e v' us) (hg : wr.grownBy w2 v.ownBlock) : RG w w2 n s e v' us := by
  have hb : Below (w.heap.size + 1) wr w2 := grown_low2 hg h.own.base h.sz
  exact ⟨h.low.trans (hb.mono (Nat.le_succ _)), (hb.cell (p := ⟨w.heap.size, 0, none⟩) (Nat.lt_succ_self _)).trans h.d0, (hb.cell (p := ⟨w.heap.size, 1, none⟩) (Nat.lt_succ_self _)).trans h.d1, Nat.lt_of_lt_of_le h.sz hb.size, ho⟩
theorem RG.base (h : RG w wr n s e v vs) : w.heap.size + 1 ≤ wr.heap.size := h.sz
end
theorem Us.more {w : World} {B C : Nat} {A : Option Addr} {zs : List Int} (h : Us w B A zs) (hB : B ≤ C) : Us w C A zs := by
  intro k hk
  obtain ⟨b, off, rfl, hlt, h1, h2⟩ := h k hk
  exact ⟨b, off, rfl, Nat.lt_of_lt_of_le hlt hB, h1, h2⟩

end Go.Proofs.YtdnbndknfifmgaaGreatDoor
/- How the laws' arguments are opened: graphs, lists of ints. Two rows that grow side by side; the mathematics of values. -/
namespace Go.Proofs.YtdnbndknfifmgaaGreatDoor
section
open Go.ChangeShapes Go.WideShapes Go.ChangeAt Go.RowKit Go.Deep Go.Joins Go.WideElems

section
variable {H : Type} {enc : TypeId × Value → H} {W : World} {base : Nat} {spare : Nat → Bool} {held : Bool}
end
end
open Go.RowKit
namespace Em
end Em

/-- Two rows that grow side by side, beside which nothing turns. -/
structure T2 (W wr : World) (e : TypeId) (vx vy : Value) (xs ys : List Value) : Prop where
  low : Below W.heap.size W wr
  ox : OwnV wr W.heap.size e vx xs
  oy : OwnV wr W.heap.size e vy ys
  sep : vx.ownBlock = none ∨ vy.ownBlock = none ∨ vx.ownBlock ≠ vy.ownBlock
section
variable {W wr w2 : World} {e : TypeId} {vx vy v' : Value} {xs ys us : List Value}
theorem T2.start (W : World) (e : TypeId) : T2 W W e (.slice none 0 0) (.slice none 0 0) [] [] := ⟨Below.refl _ _, OwnV.nil _ _ _, OwnV.nil _ _ _, Or.inl rfl⟩
theorem T2.alloc (h : T2 W wr e vx vy xs ys) (o : Obj) : T2 W (wr.alloc o) e vx vy xs ys := ⟨h.low.alloc h.low.size o, h.ox.alloc o, h.oy.alloc o, h.sep⟩
theorem T2.base (h : T2 W wr e vx vy xs ys) : W.heap.size ≤ wr.heap.size := h.low.size
theorem T2.step (h : T2 W wr e vx vy xs ys) (ho : OwnV w2 W.heap.size e v' us) (hg : wr.grownBy w2 vx.ownBlock) (hv : v'.ownBlock = vx.ownBlock ∨ v'.ownBlock = some wr.heap.size) : T2 W w2 e v' vy us ys := by
  have hne : vy.ownBlock = none ∨ vy.ownBlock ≠ vx.ownBlock := by
    rcases h.sep with h | h | h
    · rw [h]; cases hy : vy.ownBlock with
      | none => exact Or.inl rfl
      | some k => exact Or.inr (by simp)
    · exact Or.inl h
    · exact Or.inr (Ne.symm h)
  refine ⟨h.low.trans (grown_low2 hg h.ox.base h.low.size), ho, World.ownsRow.kept h.oy hg hne, ?_⟩
  rcases hv with hv | hv
  · rw [hv]; exact h.sep
  · rw [hv]
    cases hy : vy.ownBlock with
    | none => exact Or.inr (Or.inl rfl)
    | some k =>
      have := (World.ownsRow.lt h.oy k hy).2
      exact Or.inr (Or.inr (by simp; omega))
end
namespace Em

/-- The values of all variables. -/
abbrev all (ins : List Bool) (gs : List (Int × Int)) : List Bool := vals gateB (false :: ins) gs
end Em
end Go.Proofs.YtdnbndknfifmgaaGreatDoor
/- Of package eval: two, start, fill, suits, All and Eval, of bools. -/
namespace Go.Proofs.YtdnbndknfifmgaaGreatDoor
open Go.RowKit

/-- The package's tables lie where they were laid. -/
structure Tabs (w : World) : Prop where
  gate : ∀ i j : Nat, i < 3 → j < 3 → w.cell? ⟨0, i * 3 + j, none⟩ = some (.int .i64 (Em.andT i j))
  neg : ∀ i : Nat, i < 3 → w.cell? ⟨1, i, none⟩ = some (.int .i64 (Em.turnT i))
  sz : 2 ≤ w.heap.size
theorem Tabs.below {w w' : World} {B : Nat} (h : Tabs w) (hb : Below B w w') (hB : 2 ≤ B) : Tabs w' :=
  ⟨fun i j hi hj => (hb.cell (p := ⟨0, _, none⟩) (by simp; omega)).trans (h.gate i j hi hj), fun i hi => (hb.cell (p := ⟨1, _, none⟩) (by simp; omega)).trans (h.neg i hi), Nat.le_trans h.sz hb.size⟩
theorem Tabs.drewN {w : World} (h : Tabs w) (n : Nat) : Tabs (w.drewN n) := ⟨h.gate, h.neg, h.sz⟩
theorem Tabs.drew {w : World} (h : Tabs w) : Tabs w.drew := ⟨h.gate, h.neg, h.sz⟩
theorem Tabs.set {w : World} (h : Tabs w) {p : Addr} (hp : 2 ≤ p.block) (u : Value) : Tabs (w.setCell p u) :=
  ⟨fun i j hi hj => (World.cell?_setCell_other w p ⟨0, _, none⟩ u (fun e => by subst e; simp at hp)).trans (h.gate i j hi hj), fun i hi => (World.cell?_setCell_other w p ⟨1, _, none⟩ u (fun e => by subst e; simp at hp)).trans (h.neg i hi), by simpa [World.setCell] using h.sz⟩
section
variable {α : Type} {f : List α → Int × Int → α}
end
theorem Tabs.grown {w w' : World} {g : Nat} (h : Tabs w) (hg : w.grownBy w' (some g)) (h2 : 2 ≤ g) : Tabs w' := by
  have hs := h.sz
  have hc : ∀ b i, b < 2 → w'.cell? ⟨b, i, none⟩ = w.cell? ⟨b, i, none⟩ := fun b i hb => World.cell?_of_block (a := ⟨b, i, none⟩) (hg.block b (by omega) (fun e => by injection e with e; omega))
  exact ⟨fun i j hi hj => (hc _ _ (by omega)).trans (h.gate i j hi hj), fun i hi => (hc _ _ (by omega)).trans (h.neg i hi), Nat.le_trans hs hg.size⟩
theorem All3.append {u v : List Int} (h : Em.All3 u) (k : Em.All3 v) : Em.All3 (u ++ v) := by
  intro i
  rw [List.getD_eq_getElem?_getD]
  by_cases hi : i < u.length
  · rw [List.getElem?_append_left hi, ← List.getD_eq_getElem?_getD]; exact h i
  · rw [List.getElem?_append_right (by omega), ← List.getD_eq_getElem?_getD]; exact k _
theorem All3.zeros (n : Nat) : Em.All3 (List.replicate n 0) := by
  intro i
  rw [List.getD_eq_getElem?_getD, List.getElem?_replicate]
  split <;> exact Or.inl rfl
end Go.Proofs.YtdnbndknfifmgaaGreatDoor
