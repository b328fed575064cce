/- What the stage's theorems rest on: three values against two; two rows that grow side by side. -/
import Derived.Test.YtpbbjklacgkcgaaDoorEN
namespace Go.Proofs.YtpbbjklacgkcgaaDoor
open Go.RowKit

theorem Us.more {w : World} {B C : Nat} {A : Option Addr} {zs : List Int} (h : Us w B A zs) (hB : B ≤ C) : Us w C A zs := by
  intro k hk
  obtain ⟨b, off, rfl, hlt, h1, h2⟩ := h k hk
  exact ⟨b, off, rfl, Nat.lt_of_lt_of_le hlt hB, h1, h2⟩

namespace Em
theorem getD_cons_map {α β : Type} (f : α → β) (d : β) (xs : List α) (i : Nat) : (d :: xs.map f).getD i d = if i = 0 then d else ((xs[i - 1]?).map f).getD d := by
  cases i with
  | zero => rfl
  | succ i => rw [List.getD_cons_succ, List.getD_eq_getElem?_getD, List.getElem?_map, if_neg (by omega), Nat.add_sub_cancel]
theorem getD_cons {α : Type} (d : α) (xs : List α) (i : Nat) : (d :: xs).getD i d = if i = 0 then d else (xs[i - 1]?).getD d := by
  cases i with
  | zero => rfl
  | succ i => rw [List.getD_cons_succ, List.getD_eq_getElem?_getD, if_neg (by omega), Nat.add_sub_cancel]

/-- With more that may be either, the same is told, or Either. -/
theorem three_less (n : Int) (gs : List (Int × Int)) (l : Int) (xs ys : List Int) (hlen : xs.length = ys.length) (h : ∀ i (h1 : i < xs.length) (h2 : i < ys.length), Le3 (normT xs[i]) (normT ys[i])) : Le3 (threeS n gs l xs) (threeS n gs l ys) := by
  unfold threeS
  rw [hlen]
  split
  · have h0 : ∀ i, Le3 ((0 :: xs.map normT).getD i 0) ((0 :: ys.map normT).getD i 0) ∧ T3 ((0 :: xs.map normT).getD i 0) := by
      intro i
      refine ⟨?_, All3.start xs i⟩
      rw [getD_cons_map, getD_cons_map]
      split
      · exact Or.inr rfl
      · by_cases hi : i - 1 < xs.length
        · rw [List.getElem?_eq_getElem hi, List.getElem?_eq_getElem (hlen ▸ hi)]
          exact h (i - 1) hi (hlen ▸ hi)
        · rw [List.getElem?_eq_none (by omega), List.getElem?_eq_none (by omega)]
          exact Or.inr rfl
    have h1 := vals_rel (f := gateT) (g := gateT) (fun a b => Le3 a b ∧ T3 a) 0 0
      (fun u v x _ hr => ⟨Le3.and (Le3.tri (fun i => (hr i).1) _) (Le3.tri (fun i => (hr i).1) _) (All3.tri (fun i => (hr i).2) _) (All3.tri (fun i => (hr i).2) _), T3.and _ _⟩) ⟨Or.inr rfl, Or.inl rfl⟩ gs (0 :: xs.map normT) (0 :: ys.map normT) (by simp [hlen]) h0
    exact Le3.tri (fun i => (h1 i).1) l
  · exact Or.inr rfl

theorem evalB_in {n : Int} {gs : List (Int × Int)} {l : Int} {ins : List Bool} (hr : Gm.rightB n gs = true) (hl : Gm.litB n gs.length l = true) (hn : (ins.length : Int) = n) : evalB n gs l ins = bitB (vals gateB (false :: ins) gs) l := by
  have e : allB n gs ins = vals gateB (false :: ins) gs := by unfold allB; rw [if_pos ⟨hr, hn⟩]
  unfold evalB
  rw [e, hl, vals_length, decide_eq_true (by simp; omega)]
  rfl
theorem threeS_in {n : Int} {gs : List (Int × Int)} {l : Int} {ins : List Int} (hr : Gm.rightB n gs = true) (hl : Gm.litB n gs.length l = true) (hn : (ins.length : Int) = n) : threeS n gs l ins = triT (vals gateT (0 :: ins.map normT) gs) l := by
  unfold threeS; rw [if_pos ⟨hl, hr, hn⟩]
/-- What three values tell is so, however the rest is. -/
theorem three_ag {n : Int} {gs : List (Int × Int)} {l : Int} {ys : List Int} {ins : List Bool} (hr : Gm.rightB n gs = true) (hl : Gm.litB n gs.length l = true) (hy : (ys.length : Int) = n) (hn : (ins.length : Int) = n)
    (h : ∀ i (h1 : i < ys.length) (h2 : i < ins.length), Ag (normT ys[i]) ins[i]) : Ag (threeS n gs l ys) (evalB n gs l ins) := by
  rw [threeS_in hr hl hy, evalB_in hr hl hn]
  have hlen : ys.length = ins.length := by omega
  refine Ag.tri (vals_rel (f := gateT) (g := gateB) Ag 0 false (fun u v x _ hh => Ag.and (Ag.tri hh _) (Ag.tri hh _)) (Or.inr rfl) gs _ _ (by simp [hlen]) fun i => ?_) l
  rw [getD_cons_map, getD_cons]
  split
  · exact Or.inr rfl
  · by_cases hi : i - 1 < ys.length
    · rw [List.getElem?_eq_getElem hi, List.getElem?_eq_getElem (hlen ▸ hi)]
      exact h (i - 1) hi (hlen ▸ hi)
    · rw [List.getElem?_eq_none (by omega), List.getElem?_eq_none (by omega)]
      exact Or.inr rfl
theorem three_eq {n : Int} {gs : List (Int × Int)} {l : Int} {ys : List Int} {ins : List Bool} (hr : Gm.rightB n gs = true) (hl : Gm.litB n gs.length l = true) (hy : (ys.length : Int) = n) (hn : (ins.length : Int) = n)
    (h : ∀ i (h1 : i < ys.length) (h2 : i < ins.length), Eq3 (normT ys[i]) ins[i]) : Eq3 (threeS n gs l ys) (evalB n gs l ins) := by
  rw [threeS_in hr hl hy, evalB_in hr hl hn]
  have hlen : ys.length = ins.length := by omega
  refine Eq3.tri (vals_rel (f := gateT) (g := gateB) Eq3 0 false (fun u v x _ hh => Eq3.and (Eq3.tri hh _) (Eq3.tri hh _)) rfl gs _ _ (by simp [hlen]) fun i => ?_) l
  rw [getD_cons_map, getD_cons]
  split
  · exact rfl
  · by_cases hi : i - 1 < ys.length
    · rw [List.getElem?_eq_getElem hi, List.getElem?_eq_getElem (hlen ▸ hi)]
      exact h (i - 1) hi (hlen ▸ hi)
    · rw [List.getElem?_eq_none (by omega), List.getElem?_eq_none (by omega)]
      exact rfl
end Em

/-- Two rows that grow side by side, beside which nothing turns. -/
structure T2 (W wr : World) (e : TypeId) (vx vy : Value) (xs ys : List Value) : Prop where
  low : Below W.heap.size W wr
  ox : OwnV wr W.heap.size e vx xs
  oy : OwnV wr W.heap.size e vy ys
  sep : vx.ownBlock = none ∨ vy.ownBlock = none ∨ vx.ownBlock ≠ vy.ownBlock
section
variable {W wr w2 : World} {e : TypeId} {vx vy v' : Value} {xs ys us : List Value}
theorem T2.start (W : World) (e : TypeId) : T2 W W e (.slice none 0 0) (.slice none 0 0) [] [] := ⟨Below.refl _ _, OwnV.nil _ _ _, OwnV.nil _ _ _, Or.inl rfl⟩
theorem T2.alloc (h : T2 W wr e vx vy xs ys) (o : Obj) : T2 W (wr.alloc o) e vx vy xs ys := ⟨h.low.alloc h.low.size o, h.ox.alloc o, h.oy.alloc o, h.sep⟩
theorem T2.swap (h : T2 W wr e vx vy xs ys) : T2 W wr e vy vx ys xs := ⟨h.low, h.oy, h.ox, by rcases h.sep with h | h | h; exact Or.inr (Or.inl h); exact Or.inl h; exact Or.inr (Or.inr (Ne.symm h))⟩
theorem T2.base (h : T2 W wr e vx vy xs ys) : W.heap.size ≤ wr.heap.size := h.low.size
theorem T2.step (h : T2 W wr e vx vy xs ys) (ho : OwnV w2 W.heap.size e v' us) (hg : wr.grownBy w2 vx.ownBlock) (hv : v'.ownBlock = vx.ownBlock ∨ v'.ownBlock = some wr.heap.size) : T2 W w2 e v' vy us ys := by
  have hne : vy.ownBlock = none ∨ vy.ownBlock ≠ vx.ownBlock := by
    rcases h.sep with h | h | h
    · rw [h]; cases hy : vy.ownBlock with
      | none => exact Or.inl rfl
      | some k => exact Or.inr (by simp)
    · exact Or.inl h
    · exact Or.inr (Ne.symm h)
  refine ⟨h.low.trans (grown_low2 hg h.ox.base h.low.size), ho, World.ownsRow.kept h.oy hg hne, ?_⟩
  rcases hv with hv | hv
  · rw [hv]; exact h.sep
  · rw [hv]
    cases hy : vy.ownBlock with
    | none => exact Or.inr (Or.inl rfl)
    | some k =>
      have := (World.ownsRow.lt h.oy k hy).2
      exact Or.inr (Or.inr (by simp; omega))
end
end Go.Proofs.YtpbbjklacgkcgaaDoor
