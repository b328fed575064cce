/- The rows over numbers: how their slice is opened. -/
import Derived.Test.YteabffdddlihnaaBB
import Derived.Deep.Slices
import Derived.Lib.SmallJoins
namespace Go.Proofs.Yteabffdddlihnaa
open Go.ChangeShapes Go.WideShapes Go.ChangeAt Go.RowKit Go.Deep Go.Joins Go.WideElems

theorem Try.laid2 : laidOutB Try.prog = true := by kernel_rfl
theorem Try.cellsU16 : Try.prog.cellsOf 48 = 1 := by kernel_rfl
section
variable {H : Type} {enc : TypeId × Value → H} {W : World} {base : Nat} {spare : Nat → Bool} {held : Bool}
theorem open_us {fuel : Nat} {v1 : Value} {x : DataW H × List MemPlace} (h : DataW.trod enc Try.prog W base spare held fuel 31 [v1] = some x) :
    ∃ (A : Option Addr) (c : Nat) (zs : List Int), v1 = .slice A zs.length c ∧ Us W W.heap.size A zs ∧ zs.length ≤ maxLen := by
  rcases open_slice Try.underlying31 h with ⟨hcs, _⟩ | ⟨a, len, cap, m, n, D, Pl, hcs, hb, hl, hm, hmm, _, hx⟩
  · refine ⟨none, 0, [], ?_, fun k hk => by simp at hk, Nat.zero_le _⟩
    simpa using hcs
  · have hlm : len ≤ m := by rw [hmm]; split <;> omega
    have each : ∀ i, i < len → ∃ q : Int, W.cell? (a.add (i * 1)) = some (.int .u16 q) ∧ (Lit.int .u16 q).wf = true := by
      intro i hi
      obtain ⟨cs', h1, h2⟩ := hx i (by omega)
      rw [Try.cellsU16] at h1
      obtain ⟨_, hlen, hcell⟩ := World.cells?_some h1
      obtain ⟨u, hu, _, wu⟩ := DataW.trod_int Try.underlying48 h2
      subst hu
      have e0 := hcell 0 (by omega)
      exact ⟨u, by simpa [Addr.add] using e0, wu⟩
    obtain ⟨q, hq⟩ := choose_lt each
    refine ⟨some a, cap, (List.range len).map q, ?_, fun k hk => ?_, by simp; omega⟩
    · simpa using hcs
    · have hk' : k < len := by simpa using hk
      obtain ⟨e1, w1⟩ := hq k hk'
      obtain ⟨b, off, spot⟩ := a
      have hspot : spot = none := by
        have := World.cell?_spot (hq 0 (by omega)).1
        simpa [Addr.add] using this
      subst hspot
      rw [add_plain, Nat.mul_one] at e1
      have bd := bounds_u16 w1
      refine ⟨b, off, rfl, ?_, ?_, ?_⟩
      · exact World.block_lt_of_cell? W ⟨b, off + k, none⟩ e1
      · simpa using e1
      · simpa using bd
end

end Go.Proofs.Yteabffdddlihnaa
