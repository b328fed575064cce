/- What stays beside the boxes of Made. -/
import Derived.Test.YtpejilhdhkmcjaaGreatDoorJbAl
import Derived.Test.YtpejilhdhkmcjaaGreatDoorJbas
namespace Go.Proofs.YtpejilhdhkmcjaaGreatDoor
open Go.RowKit

/-- From W to W' the blocks below B are kept, but for the four boxes from lo on. -/
structure Out (B lo : Nat) (W W' : World) : Prop where
 le : B ≤ W'.heap.size
 blk : ∀ b, b < B → (b < lo ∨ lo + 4 ≤ b) → W'.heap[b]? = W.heap[b]?
theorem Out.drew {B lo : Nat} {W W' : World} (h : Out B lo W W') : Out B lo W W'.drew := ⟨h.le, h.blk⟩
theorem Out.alloc {B lo : Nat} {W W' : World} (h : Out B lo W W') (o : Obj) : Out B lo W (W'.alloc o) :=
 ⟨by simp; have := h.le; omega, fun b hb hl => (Below.heap_alloc W' o b (Nat.lt_of_lt_of_le hb h.le)).trans (h.blk b hb hl)⟩
theorem Out.set {B lo : Nat} {W W' : World} (h : Out B lo W W') {p : Addr} (h1 : lo ≤ p.block) (h2 : p.block < lo + 4) (u : Value) : Out B lo W (W'.setCell p u) :=
 ⟨by simp; exact h.le, fun b hb hl => (Below.heap_setCell W' p u b (by omega)).trans (h.blk b hb hl)⟩
theorem Out.grown {B lo : Nat} {W W' V : World} (h : Out B lo W W') {row : Option Nat} (hg : W'.grownBy V row) (hr : ∀ k, row = some k → B ≤ k) : Out B lo W V :=
 ⟨Nat.le_trans h.le hg.size, fun b hb hl => (hg.block b (Nat.lt_of_lt_of_le hb h.le) (fun e => by have := hr _ e.symm; omega)).trans (h.blk b hb hl)⟩
/-- The slice lies beside the boxes. -/
def Off (lo : Nat) (A : Option Addr) : Prop := ∀ ad, A = some ad → ad.block < lo ∨ lo + 4 ≤ ad.block
theorem Gr.out {B lo : Nat} {W W' : World} {A : Option Addr} {gs : List (Int × Int)} (h : Gr W B A gs) (ho : Off lo A) (k : Out B lo W W') : Gr W' B A gs := by
 intro i hi
 obtain ⟨b, off, rfl, hb, h1, h2⟩ := h i hi
 have hk := k.blk b hb (ho _ rfl)
 exact ⟨b, off, rfl, hb, (World.cell?_of_block (w := W) (a := ⟨b, _, none⟩) hk).trans h1, (World.cell?_of_block (w := W) (a := ⟨b, _, none⟩) hk).trans h2⟩
theorem int_vs {w : World} {base : Nat} {v : Value} {zs : List Int} (h : w.ownsRow base 3 1 v zs.length (iv zs)) : ∃ A c, v = .slice A zs.length c ∧ Vs w w.heap.size A (iv zs) := by
 obtain ⟨_, h2⟩ := h
 rcases h2 with ⟨rfl, h0⟩ | ⟨g, cap, cur, rfl, _, hh, hn, _, hs, ht⟩
 ·
  refine ⟨none, 0, by rw [h0], fun k hk => ?_⟩
  have : zs.length = 0 := h0
  simp [iv] at hk
  omega
 refine ⟨_, cap, rfl, fun k hk => ⟨g, 0, rfl, Blk.lt (t := 3) hh, ?_⟩⟩
 have hk' : k < zs.length := by simpa [iv] using hk
 have f1 : (iv zs)[k]? = some (iv zs)[k] := List.getElem?_eq_getElem hk
 generalize (iv zs)[k] = y at *
 rw [← ht, List.getElem?_take_of_lt (by omega)] at f1
 rw [Nat.zero_add, Blk.cell (t := 3) hh, ← Array.getElem?_toList]
 exact f1
end Go.Proofs.YtpejilhdhkmcjaaGreatDoor
/- Lists that are finished, while Made goes on. -/
namespace Go.Proofs.YtpejilhdhkmcjaaGreatDoor
open Go.RowKit

theorem Out.self {B lo : Nat} {W : World} (h : B ≤ W.heap.size) : Out B lo W W := ⟨h, fun _ _ _ => rfl⟩
theorem Out.less {B C lo : Nat} {W W' : World} (h : Out C lo W W') (hB : B ≤ C) : Out B lo W W' := ⟨Nat.le_trans hB h.le, fun b hb => h.blk b (Nat.lt_of_lt_of_le hb hB)⟩
/-- A row of the call's own that is finished: it lies from base on, below hi. -/
structure RowIn (V : World) (base hi : Nat) (e : TypeId) (size : Nat) (A : Option Addr) (n c : Nat) (xs : List Value) : Prop where
 row : V.ownsRow base e size (.slice A n c) n xs
 top : ∀ ad, A = some ad → ad.block < hi
theorem RowIn.out {V V' : World} {base hi lo B : Nat} {e : TypeId} {size : Nat} {A : Option Addr} {n c : Nat} {xs : List Value} (h : RowIn V base hi e size A n c xs) (hl : lo + 4 ≤ base) (hB : hi ≤ B) (k : Out B lo V V') : RowIn V' base hi e size A n c xs := by
 refine ⟨?_, h.top⟩
 obtain ⟨h1, h2⟩ := h.row
 refine ⟨h1, ?_⟩
 rcases h2 with h2 | ⟨g, cap, cur, he, hb, hh, r⟩
 ·
  exact Or.inl h2
 refine Or.inr ⟨g, cap, cur, he, hb, (k.blk g ?_ (by omega)).trans hh, r⟩
 injection he with hA
 have := h.top _ hA
 simp at this
 omega
theorem row_top {W : World} {base : Nat} {e : TypeId} {size : Nat} {A : Option Addr} {n c : Nat} {xs : List Value} (h : W.ownsRow base e size (.slice A n c) n xs) : ∀ ad, A = some ad → ad.block < W.heap.size := by
 intro ad had
 rcases h.2 with ⟨he, _⟩ | ⟨g, cap, cur, he, _, hh, _⟩
 ·
  injection he with hA
  rw [had] at hA
  cases hA
 injection he with hA
 rw [had] at hA
 injection hA with hA
 subst hA
 exact Blk.lt (t := e) hh
theorem fin_start {W : World} {lo B : Nat} {e : TypeId} {size n : Nat} {v : Value} {xs : List Value} {A : Option Addr} {gs : List (Int × Int)} (hrow : W.ownsRow B e size v n xs) (hG : Gr W B A gs) (ho : Off lo A) (hl : lo + 4 ≤ B) (hB : B ≤ W.heap.size) :
  ∃ C AL cL, ∃ P : World → Prop, B ≤ C ∧ C ≤ W.heap.size ∧ v = .slice AL n cL ∧ P W ∧ (∀ V V', Out C lo V V' → P V → P V') ∧ (∀ V, P V → Gr V B A gs ∧ RowIn V B C e size AL n cL xs) := by
 obtain ⟨AL, cL, rfl⟩ := row_slice hrow
 refine ⟨W.heap.size, AL, cL, fun V => Gr V B A gs ∧ RowIn V B W.heap.size e size AL n cL xs, hB, Nat.le_refl _, rfl, ⟨hG, hrow, row_top hrow⟩, fun V V' k h => ⟨h.1.out ho (k.less hB), h.2.out hl (Nat.le_refl _) k⟩, fun V h => h⟩
theorem fin_next {W : World} {lo B : Nat} {P : World → Prop} {e : TypeId} {size n : Nat} {v : Value} {xs : List Value} (hP : P W) (hc : ∀ V V', Out B lo V V' → P V → P V') (hrow : W.ownsRow B e size v n xs) (hl : lo + 4 ≤ B) (hB : B ≤ W.heap.size) :
  ∃ C A c, ∃ P' : World → Prop, B ≤ C ∧ C ≤ W.heap.size ∧ v = .slice A n c ∧ P' W ∧ (∀ V V', Out C lo V V' → P' V → P' V') ∧ (∀ V, P' V → P V ∧ RowIn V B C e size A n c xs) := by
 obtain ⟨A, c, rfl⟩ := row_slice hrow
 exact ⟨W.heap.size, A, c, fun V => P V ∧ RowIn V B W.heap.size e size A n c xs, hB, Nat.le_refl _, rfl, ⟨hP, hrow, row_top hrow⟩, fun V V' k h => ⟨hc _ _ (k.less hB) h.1, h.2.out hl (Nat.le_refl _) k⟩, fun V h => h⟩
/-- What is finished stays behind a pick. -/
theorem pick_keep {P : World → Prop} {B lo p : Nat} {W W' : World} {u : Value} (hP : P W) (hc : ∀ V V', Out B lo V V' → P V → P V') (hB : B ≤ W.heap.size) (h1 : lo ≤ p) (h2 : p < lo + 4) (hse : W.setCell ⟨p, 0, none⟩ u = W') : P W' ∧ B ≤ W'.heap.size := by
 subst hse
 exact ⟨hc _ _ ((Out.self hB).set (p := ⟨p, 0, none⟩) h1 h2 u) hP, by simp; exact hB⟩
theorem drew_keep {P : World → Prop} {B lo : Nat} {W : World} (hP : P W) (hc : ∀ V V', Out B lo V V' → P V → P V') (hB : B ≤ W.heap.size) : P W.drew := hc _ _ (Out.self hB).drew hP
theorem alloc_keep {P : World → Prop} {B lo : Nat} {W : World} (hP : P W) (hc : ∀ V V', Out B lo V V' → P V → P V') (hB : B ≤ W.heap.size) (o : Obj) : P (W.alloc o) ∧ B ≤ (W.alloc o).heap.size := ⟨hc _ _ ((Out.self hB).alloc o) hP, by simp; omega⟩
/-- What is so while the list at field 3 grows: j elements may follow. -/
def OutsRel (w : World) (hL hR hA hC : Nat) (A0 : Option Addr) (c0 : Nat) (zs : List Int) (N L lim : Nat) (P : World → Prop) (B : Nat) (x0 x1 x2 x4 x5 x6 x7 : Value) (i : Value) (wr : World) : Prop :=
 ∃ (j a : Nat) (os : List Int) (v : Value), i = .int .i64 (j : Int) ∧ a + j ≤ lim ∧ os.length + j ≤ 3 ∧ wr.ownsRow B 3 1 v os.length (iv os) ∧ (∀ z ∈ os, Gm.litB (N : Int) L z = true) ∧ P wr ∧ B ≤ wr.heap.size ∧ MB w wr hL hR hA hC A0 c0 zs a x0 x1 x2 v x4 x5 x6 x7
theorem OutsRel.next {w w9 w10 : World} {hL hR hA hC : Nat} {A0 : Option Addr} {c0 : Nat} {zs : List Int} {N L lim : Nat} {P : World → Prop} {B : Nat} {x0 x1 x2 x4 x5 x6 x7 v v' : Value} {j a : Nat} {os : List Int} {y : Int}
  (h10 : MB w w10 hL hR hA hC A0 c0 zs (a + 1) x0 x1 x2 v x4 x5 x6 x7) (hrow : w10.ownsRow B 3 1 v' (os.length + 1) (iv os ++ [.int .i64 y])) (hP : P w9) (hc : ∀ V V', Out B w.heap.size V V' → P V → P V') (hgr : w9.grownBy w10 v.ownBlock)
  (hrow9 : w9.ownsRow B 3 1 v os.length (iv os)) (hbs : w.heap.size + 4 ≤ B) (hB9 : B ≤ w9.heap.size) (hlit : ∀ z ∈ os, Gm.litB (N : Int) L z = true) (hy : Gm.litB (N : Int) L y = true) (hj : os.length + (j + 1) ≤ 3) (ha : a + (j + 1) ≤ lim) :
  OutsRel w hL hR hA hC A0 c0 zs N L lim P B x0 x1 x2 x4 x5 x6 x7 (.int .i64 (j : Int)) (w10.setCell ⟨hC, 3, none⟩ v') := by
 have e4 := h10.eC
 have hs10 := hgr.size
 refine ⟨j, a + 1, os ++ [y], v', rfl, by omega, by simp; omega, ?_, ?_, ?_, by simp; omega, h10.put 3 v' (by rfl)⟩
 ·
  have := row_set hrow (p := ⟨hC, 3, none⟩) (by simp; omega) v'
  rw [List.length_append, List.length_singleton]
  simpa [iv] using this
 ·
  intro z hz
  rcases List.mem_append.1 hz with h | h
  ·
   exact hlit z h
  simp at h
  subst h
  exact hy
 exact hc _ _ (((Out.self hB9).grown hgr (row_base hrow9)).set (p := ⟨hC, 3, none⟩) (by simp; omega) (by simp; omega) v') hP
/-- What is so while the list at field 4 grows: j elements may follow. -/
def BadsRel (w : World) (hL hR hA hC : Nat) (A0 : Option Addr) (c0 : Nat) (zs : List Int) (N L lim : Nat) (P : World → Prop) (B : Nat) (x0 x1 x2 x3 x5 x6 x7 : Value) (i : Value) (wr : World) : Prop :=
 ∃ (j a : Nat) (os : List Int) (v : Value), i = .int .i64 (j : Int) ∧ a + j ≤ lim ∧ os.length + j ≤ 3 ∧ wr.ownsRow B 3 1 v os.length (iv os) ∧ (∀ z ∈ os, Gm.litB (N : Int) L z = true) ∧ P wr ∧ B ≤ wr.heap.size ∧ MB w wr hL hR hA hC A0 c0 zs a x0 x1 x2 x3 v x5 x6 x7
theorem BadsRel.next {w w9 w10 : World} {hL hR hA hC : Nat} {A0 : Option Addr} {c0 : Nat} {zs : List Int} {N L lim : Nat} {P : World → Prop} {B : Nat} {x0 x1 x2 x3 x5 x6 x7 v v' : Value} {j a : Nat} {os : List Int} {y : Int}
  (h10 : MB w w10 hL hR hA hC A0 c0 zs (a + 1) x0 x1 x2 x3 v x5 x6 x7) (hrow : w10.ownsRow B 3 1 v' (os.length + 1) (iv os ++ [.int .i64 y])) (hP : P w9) (hc : ∀ V V', Out B w.heap.size V V' → P V → P V') (hgr : w9.grownBy w10 v.ownBlock)
  (hrow9 : w9.ownsRow B 3 1 v os.length (iv os)) (hbs : w.heap.size + 4 ≤ B) (hB9 : B ≤ w9.heap.size) (hlit : ∀ z ∈ os, Gm.litB (N : Int) L z = true) (hy : Gm.litB (N : Int) L y = true) (hj : os.length + (j + 1) ≤ 3) (ha : a + (j + 1) ≤ lim) :
  BadsRel w hL hR hA hC A0 c0 zs N L lim P B x0 x1 x2 x3 x5 x6 x7 (.int .i64 (j : Int)) (w10.setCell ⟨hC, 4, none⟩ v') := by
 have e4 := h10.eC
 have hs10 := hgr.size
 refine ⟨j, a + 1, os ++ [y], v', rfl, by omega, by simp; omega, ?_, ?_, ?_, by simp; omega, h10.put 4 v' (by rfl)⟩
 ·
  have := row_set hrow (p := ⟨hC, 4, none⟩) (by simp; omega) v'
  rw [List.length_append, List.length_singleton]
  simpa [iv] using this
 ·
  intro z hz
  rcases List.mem_append.1 hz with h | h
  ·
   exact hlit z h
  simp at h
  subst h
  exact hy
 exact hc _ _ (((Out.self hB9).grown hgr (row_base hrow9)).set (p := ⟨hC, 4, none⟩) (by simp; omega) (by simp; omega) v') hP
/-- What is so while the list at field 5 grows: j elements may follow. -/
def ConsRel (w : World) (hL hR hA hC : Nat) (A0 : Option Addr) (c0 : Nat) (zs : List Int) (N L lim : Nat) (P : World → Prop) (B : Nat) (x0 x1 x2 x3 x4 x6 x7 : Value) (i : Value) (wr : World) : Prop :=
 ∃ (j a : Nat) (os : List Int) (v : Value), i = .int .i64 (j : Int) ∧ a + j ≤ lim ∧ os.length + j ≤ 3 ∧ wr.ownsRow B 3 1 v os.length (iv os) ∧ (∀ z ∈ os, Gm.litB (N : Int) L z = true) ∧ P wr ∧ B ≤ wr.heap.size ∧ MB w wr hL hR hA hC A0 c0 zs a x0 x1 x2 x3 x4 v x6 x7
theorem ConsRel.next {w w9 w10 : World} {hL hR hA hC : Nat} {A0 : Option Addr} {c0 : Nat} {zs : List Int} {N L lim : Nat} {P : World → Prop} {B : Nat} {x0 x1 x2 x3 x4 x6 x7 v v' : Value} {j a : Nat} {os : List Int} {y : Int}
  (h10 : MB w w10 hL hR hA hC A0 c0 zs (a + 1) x0 x1 x2 x3 x4 v x6 x7) (hrow : w10.ownsRow B 3 1 v' (os.length + 1) (iv os ++ [.int .i64 y])) (hP : P w9) (hc : ∀ V V', Out B w.heap.size V V' → P V → P V') (hgr : w9.grownBy w10 v.ownBlock)
  (hrow9 : w9.ownsRow B 3 1 v os.length (iv os)) (hbs : w.heap.size + 4 ≤ B) (hB9 : B ≤ w9.heap.size) (hlit : ∀ z ∈ os, Gm.litB (N : Int) L z = true) (hy : Gm.litB (N : Int) L y = true) (hj : os.length + (j + 1) ≤ 3) (ha : a + (j + 1) ≤ lim) :
  ConsRel w hL hR hA hC A0 c0 zs N L lim P B x0 x1 x2 x3 x4 x6 x7 (.int .i64 (j : Int)) (w10.setCell ⟨hC, 5, none⟩ v') := by
 have e4 := h10.eC
 have hs10 := hgr.size
 refine ⟨j, a + 1, os ++ [y], v', rfl, by omega, by simp; omega, ?_, ?_, ?_, by simp; omega, h10.put 5 v' (by rfl)⟩
 ·
  have := row_set hrow (p := ⟨hC, 5, none⟩) (by simp; omega) v'
  rw [List.length_append, List.length_singleton]
  simpa [iv] using this
 ·
  intro z hz
  rcases List.mem_append.1 hz with h | h
  ·
   exact hlit z h
  simp at h
  subst h
  exact hy
 exact hc _ _ (((Out.self hB9).grown hgr (row_base hrow9)).set (p := ⟨hC, 5, none⟩) (by simp; omega) (by simp; omega) v') hP
/-- What is so while the list at field 6 grows: j elements may follow. -/
def FairRel (w : World) (hL hR hA hC : Nat) (A0 : Option Addr) (c0 : Nat) (zs : List Int) (N L lim : Nat) (P : World → Prop) (B : Nat) (x0 x1 x2 x3 x4 x5 x7 : Value) (i : Value) (wr : World) : Prop :=
 ∃ (j a : Nat) (os : List Int) (v : Value), i = .int .i64 (j : Int) ∧ a + j ≤ lim ∧ os.length + j ≤ 3 ∧ wr.ownsRow B 3 1 v os.length (iv os) ∧ (∀ z ∈ os, Gm.litB (N : Int) L z = true) ∧ P wr ∧ B ≤ wr.heap.size ∧ MB w wr hL hR hA hC A0 c0 zs a x0 x1 x2 x3 x4 x5 v x7
theorem FairRel.next {w w9 w10 : World} {hL hR hA hC : Nat} {A0 : Option Addr} {c0 : Nat} {zs : List Int} {N L lim : Nat} {P : World → Prop} {B : Nat} {x0 x1 x2 x3 x4 x5 x7 v v' : Value} {j a : Nat} {os : List Int} {y : Int}
  (h10 : MB w w10 hL hR hA hC A0 c0 zs (a + 1) x0 x1 x2 x3 x4 x5 v x7) (hrow : w10.ownsRow B 3 1 v' (os.length + 1) (iv os ++ [.int .i64 y])) (hP : P w9) (hc : ∀ V V', Out B w.heap.size V V' → P V → P V') (hgr : w9.grownBy w10 v.ownBlock)
  (hrow9 : w9.ownsRow B 3 1 v os.length (iv os)) (hbs : w.heap.size + 4 ≤ B) (hB9 : B ≤ w9.heap.size) (hlit : ∀ z ∈ os, Gm.litB (N : Int) L z = true) (hy : Gm.litB (N : Int) L y = true) (hj : os.length + (j + 1) ≤ 3) (ha : a + (j + 1) ≤ lim) :
  FairRel w hL hR hA hC A0 c0 zs N L lim P B x0 x1 x2 x3 x4 x5 x7 (.int .i64 (j : Int)) (w10.setCell ⟨hC, 6, none⟩ v') := by
 have e4 := h10.eC
 have hs10 := hgr.size
 refine ⟨j, a + 1, os ++ [y], v', rfl, by omega, by simp; omega, ?_, ?_, ?_, by simp; omega, h10.put 6 v' (by rfl)⟩
 ·
  have := row_set hrow (p := ⟨hC, 6, none⟩) (by simp; omega) v'
  rw [List.length_append, List.length_singleton]
  simpa [iv] using this
 ·
  intro z hz
  rcases List.mem_append.1 hz with h | h
  ·
   exact hlit z h
  simp at h
  subst h
  exact hy
 exact hc _ _ (((Out.self hB9).grown hgr (row_base hrow9)).set (p := ⟨hC, 6, none⟩) (by simp; omega) (by simp; omega) v') hP
def qName : Nm := (108, 0, ⟨#[113]⟩)
/-- The names that Made gives, after the first one. -/
def NamesRel (w : World) (hL hR hA hC : Nat) (A0 : Option Addr) (c0 : Nat) (zs : List Int) (P : World → Prop) (B : Nat) (x0 x1 x2 x3 x4 x5 x6 : Value) (wr : World) : Prop :=
 ∃ (a : Nat) (ns : List Nm) (v : Value), a ≤ 60 ∧ (ns = [] ∨ ns = [qName]) ∧ wr.ownsRow B 69 3 v ns.length (flatN ns) ∧ P wr ∧ B ≤ wr.heap.size ∧ MB w wr hL hR hA hC A0 c0 zs a x0 x1 x2 x3 x4 x5 x6 v
def txt3 (k : Nat) : ByteArray := if k = 0 then ⟨#[111, 117, 116]⟩ else if k = 1 then ⟨#[108, 49]⟩ else ⟨#[97, 45, 98]⟩
def NamesOk (L : Nat) (ns : List Nm) : Prop := ∃ ns0 : List Nm, (ns0 = [] ∨ ns0 = [qName]) ∧ (ns = ns0 ∨ (0 < L ∧ ∃ k, k < 3 ∧ ns = ns0 ++ [(111, (L : Int) - 1, txt3 k)]))
def EndRel (w : World) (hL hR hA hC : Nat) (A0 : Option Addr) (c0 : Nat) (zs : List Int) (L : Nat) (P : World → Prop) (B : Nat) (x0 x1 x2 x3 x4 x5 x6 : Value) (wr : World) : Prop :=
 ∃ (a : Nat) (ns : List Nm) (v : Value), a ≤ 70 ∧ NamesOk L ns ∧ wr.ownsRow B 69 3 v ns.length (flatN ns) ∧ P wr ∧ B ≤ wr.heap.size ∧ MB w wr hL hR hA hC A0 c0 zs a x0 x1 x2 x3 x4 x5 x6 v
theorem name_next {w w9 w10 : World} {hL hR hA hC : Nat} {A0 : Option Addr} {c0 : Nat} {zs : List Int} {P : World → Prop} {B a : Nat} {x0 x1 x2 x3 x4 x5 x6 v v' : Value} {ns : List Nm} {k i : Int} {t : ByteArray}
  (h10 : MB w w10 hL hR hA hC A0 c0 zs a x0 x1 x2 x3 x4 x5 x6 v) (hrow : w10.ownsRow B 69 3 v' (ns.length + 1) (flatN ns ++ [.int .u8 k, .int .i64 i, .string t])) (hP : P w9) (hc : ∀ V V', Out B w.heap.size V V' → P V → P V') (hgr : w9.grownBy w10 v.ownBlock)
  (hrow9 : w9.ownsRow B 69 3 v ns.length (flatN ns)) (hbs : w.heap.size + 4 ≤ B) (hB9 : B ≤ w9.heap.size) :
  (w10.setCell ⟨hC, 7, none⟩ v').ownsRow B 69 3 v' (ns ++ [(k, i, t)]).length (flatN (ns ++ [(k, i, t)])) ∧ P (w10.setCell ⟨hC, 7, none⟩ v') ∧ B ≤ (w10.setCell ⟨hC, 7, none⟩ v').heap.size ∧ MB w (w10.setCell ⟨hC, 7, none⟩ v') hL hR hA hC A0 c0 zs a x0 x1 x2 x3 x4 x5 x6 v' := by
 have e4 := h10.eC
 have hs10 := hgr.size
 refine ⟨?_, ?_, by simp; omega, h10.put 7 v' (by rfl)⟩
 ·
  have := row_set hrow (p := ⟨hC, 7, none⟩) (by simp; omega) v'
  rw [List.length_append, List.length_singleton, flatN_append]
  exact this
 exact hc _ _ (((Out.self hB9).grown hgr (row_base hrow9)).set (p := ⟨hC, 7, none⟩) (by simp; omega) (by simp; omega) v') hP
theorem ixS3 (sb r : Nat) (hr : r < 3) (w : World) : (Instr.indexAt 70 (.slice (some ⟨sb, 0, none⟩) 3 3) (.int .i64 (r : Int))).run Tryz.prog w = .ok (.pointer (some ⟨sb, r, none⟩)) w := by
 match r, hr with
 | 0, _ => go_simp
 | 1, _ => go_simp
 | 2, _ => go_simp
theorem txt_cell {w : World} {g : Nat} (h : Blk w g 9 #[.string ⟨#[111, 117, 116]⟩, .string ⟨#[108, 49]⟩, .string ⟨#[97, 45, 98]⟩]) (r : Nat) (hr : r < 3) : w.cell? ⟨g, r, none⟩ = some (.string (txt3 r)) := by
 rw [h.cell r]
 match r, hr with
 | 0, _ => rfl
 | 1, _ => rfl
 | 2, _ => rfl
end Go.Proofs.YtpejilhdhkmcjaaGreatDoor
