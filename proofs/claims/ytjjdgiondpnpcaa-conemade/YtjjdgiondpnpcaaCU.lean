/- Slices of uint8; two rows of unlike elements that grow side by side. -/
import Derived.Test.YtjjdgiondpnpcaaCL
namespace Go.Proofs.Ytjjdgiondpnpcaa
section
open Go.RowKit
/-- The slice at A holds the numbers zs. -/
def Ub (w : World) (B : Nat) (A : Option Addr) (zs : List Int) : Prop :=
  ∀ k (hk : k < zs.length), ∃ b off, A = some ⟨b, off, none⟩ ∧ b < B ∧ w.cell? ⟨b, off + k, none⟩ = some (.int .u8 zs[k]) ∧ 0 ≤ zs[k] ∧ zs[k] ≤ 255
theorem Ub.below {w w' : World} {B C : Nat} {A : Option Addr} {zs : List Int} (h : Ub w B A zs) (hb : Below C w w') (hB : B ≤ C) : Ub w' B A zs := by
  intro k hk
  obtain ⟨b, off, rfl, hlt, h1, h2⟩ := h k hk
  exact ⟨b, off, rfl, hlt, (hb.cell (p := ⟨b, _, none⟩) (Nat.lt_of_lt_of_le hlt hB)).trans h1, h2⟩
theorem Ub.more {w : World} {B C : Nat} {A : Option Addr} {zs : List Int} (h : Ub w B A zs) (hB : B ≤ C) : Ub w C A zs := by
  intro k hk
  obtain ⟨b, off, rfl, hlt, h1, h2⟩ := h k hk
  exact ⟨b, off, rfl, Nat.lt_of_lt_of_le hlt hB, h1, h2⟩
theorem ixU8 (sb off N c r : Nat) (hm : N ≤ 9223372036854775807) (hr : r < N) (w : World) : (Instr.indexAt 23 (.slice (some ⟨sb, off, none⟩) N c) (.int .i64 (r : Int))).run Try.prog w = .ok (.pointer (some ⟨sb, off + r, none⟩)) w := by go_simp
/-- Two rows that grow side by side, beside which nothing turns. -/
structure TX (W wr : World) (ex ey : TypeId) (vx vy : Value) (xs ys : List Value) : Prop where
  low : Below W.heap.size W wr
  ox : OwnV wr W.heap.size ex vx xs
  oy : OwnV wr W.heap.size ey vy ys
  sep : vx.ownBlock = none ∨ vy.ownBlock = none ∨ vx.ownBlock ≠ vy.ownBlock
section
variable {W wr w2 : World} {ex ey : TypeId} {vx vy v' : Value} {xs ys us : List Value}
theorem TX.start (W : World) (ex ey : TypeId) : TX W W ex ey (.slice none 0 0) (.slice none 0 0) [] [] := ⟨Below.refl _ _, OwnV.nil _ _ _, OwnV.nil _ _ _, Or.inl rfl⟩
theorem TX.below (h : TX W wr ex ey vx vy xs ys) (hb : Below wr.heap.size wr w2) : TX W w2 ex ey vx vy xs ys := ⟨h.low.trans (hb.mono h.low.size), h.ox.below hb, h.oy.below hb, h.sep⟩
theorem TX.alloc (h : TX W wr ex ey vx vy xs ys) (o : Obj) : TX W (wr.alloc o) ex ey vx vy xs ys := h.below ((Below.refl _ _).alloc (Nat.le_refl _) o)
theorem TX.swap (h : TX W wr ex ey vx vy xs ys) : TX W wr ey ex vy vx ys xs := ⟨h.low, h.oy, h.ox, by rcases h.sep with h | h | h; exact Or.inr (Or.inl h); exact Or.inl h; exact Or.inr (Or.inr (Ne.symm h))⟩
theorem TX.base (h : TX W wr ex ey vx vy xs ys) : W.heap.size ≤ wr.heap.size := h.low.size
theorem TX.step (h : TX W wr ex ey vx vy xs ys) (ho : OwnV w2 W.heap.size ex v' us) (hg : wr.grownBy w2 vx.ownBlock) (hv : v'.ownBlock = vx.ownBlock ∨ v'.ownBlock = some wr.heap.size) : TX W w2 ex ey v' vy us ys := by
  have hne : vy.ownBlock = none ∨ vy.ownBlock ≠ vx.ownBlock := by
    rcases h.sep with h | h | h
    · rw [h]; cases hy : vy.ownBlock with
      | none => exact Or.inl rfl
      | some k => exact Or.inr (by simp)
    · exact Or.inl h
    · exact Or.inr (Ne.symm h)
  refine ⟨h.low.trans (grown_low2 hg h.ox.base h.low.size), ho, World.ownsRow.kept h.oy hg hne, ?_⟩
  rcases hv with hv | hv
  · rw [hv]; exact h.sep
  · rw [hv]
    cases hy : vy.ownBlock with
    | none => exact Or.inr (Or.inl rfl)
    | some k =>
      have := (World.ownsRow.lt h.oy k hy).2
      exact Or.inr (Or.inr (by simp; omega))
end
end
open Go.ChangeShapes Go.WideShapes Go.ChangeAt Go.RowKit Go.Deep Go.Joins Go.WideElems
theorem Try.cellsU8 : Try.prog.cellsOf 5 = 1 := by kernel_rfl
section
variable {H : Type} {enc : TypeId × Value → H} {W : World} {base : Nat} {spare : Nat → Bool} {held : Bool}
theorem open_u8s {fuel : Nat} {v1 : Value} {x : DataW H × List MemPlace} (h : DataW.trod enc Try.prog W base spare held fuel 23 [v1] = some x) :
    ∃ (A : Option Addr) (c : Nat) (zs : List Int), v1 = .slice A zs.length c ∧ Ub W W.heap.size A zs ∧ zs.length ≤ maxLen := by
  rcases open_slice Try.underlying23 h with ⟨hcs, _⟩ | ⟨a, len, cap, m, n, D, Pl, hcs, hb, hl, hm, hmm, _, hx⟩
  · refine ⟨none, 0, [], ?_, fun k hk => by simp at hk, Nat.zero_le _⟩
    simpa using hcs
  · have hlm : len ≤ m := by rw [hmm]; split <;> omega
    have each : ∀ i, i < len → ∃ q : Int, W.cell? (a.add (i * 1)) = some (.int .u8 q) ∧ (Lit.int .u8 q).wf = true := by
      intro i hi
      obtain ⟨cs', h1, h2⟩ := hx i (by omega)
      rw [Try.cellsU8] at h1
      obtain ⟨_, hlen, hcell⟩ := World.cells?_some h1
      obtain ⟨u, hu, _, wu⟩ := DataW.trod_int Try.underlying5 h2
      subst hu
      have e0 := hcell 0 (by omega)
      exact ⟨u, by simpa [Addr.add] using e0, wu⟩
    obtain ⟨q, hq⟩ := choose_lt each
    refine ⟨some a, cap, (List.range len).map q, ?_, fun k hk => ?_, by simp; omega⟩
    · simpa using hcs
    · have hk' : k < len := by simpa using hk
      obtain ⟨e1, w1⟩ := hq k hk'
      obtain ⟨b, off, spot⟩ := a
      have hspot : spot = none := by
        have := World.cell?_spot (hq 0 (by omega)).1
        simpa [Addr.add] using this
      subst hspot
      rw [add_plain, Nat.mul_one] at e1
      have bd := bounds_u8 w1
      refine ⟨b, off, rfl, ?_, ?_, ?_⟩
      · exact World.block_lt_of_cell? W ⟨b, off + k, none⟩ e1
      · simpa using e1
      · simpa using bd
end

end Go.Proofs.Ytjjdgiondpnpcaa
