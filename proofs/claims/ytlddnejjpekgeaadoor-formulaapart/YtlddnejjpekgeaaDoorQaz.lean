/- Formulas by numbers: make. -/
import Derived.Test.YtlddnejjpekgeaaDoorQay
set_option linter.unusedSimpArgs false
set_option linter.unusedVariables false
namespace Go.Proofs.YtlddnejjpekgeaaDoor
open Go.RowKit

theorem row_rk {w w' : World} {R base : Nat} {e : TypeId} {size : Nat} {v : Value} {n : Nat} {xs : List Value} (h : w.ownsRow base e size v n xs) (hk : RKeep R w w') (hR : R < base) : w'.ownsRow base e size v n xs := by
  refine ⟨h.1, ?_⟩
  rcases h.2 with hn | ⟨g, cap, cur, hv, hb, hg, rest⟩
  · exact .inl hn
  · exact .inr ⟨g, cap, cur, hv, hb, (hk.blk g (Array.getElem?_eq_some_iff.1 hg).1 (by omega)).trans hg, rest⟩
theorem ixS7 (sb r : Nat) (hr : r < 7) (w : World) : (Instr.indexAt 48 (.slice (some ⟨sb, 0, none⟩) 7 7) (.int .i64 (r : Int))).run Tryd.prog w = .ok (.pointer (some ⟨sb, r, none⟩)) w := by
  have h1 : (r : Int) < 7 := by omega
  go_simp
theorem names_cell (p : Nat) (h : p < 7) : (#[.string ⟨#[113]⟩, .string ⟨#[108, 48]⟩, .string ⟨#[111, 117, 116]⟩, .string ⟨#[108, 49]⟩, .string ⟨#[105, 48]⟩, .string ⟨#[111, 48]⟩, .string ⟨#[97, 45, 98]⟩] : Array Value)[p]? = some (.string (bsv (Fm.namesL.getD p []))) := by
  have : p = 0 ∨ p = 1 ∨ p = 2 ∨ p = 3 ∨ p = 4 ∨ p = 5 ∨ p = 6 := by omega
  rcases this with rfl | rfl | rfl | rfl | rfl | rfl | rfl <;> rfl
/-- What the loop over the subformulas keeps. -/
structure MR (W wr : World) (B bl ba bp bm : Nat) (A : Option Addr) (c : Nat) (zs : List Int) (k : Int) (g : Nat → Fm.F × Nat) (a2 hb i : Nat) (v : Value) (cs : List Value) : Prop where
  hh : Blk wr hb 24 #[.int .i64 k, .string ⟨#[]⟩, .int .i64 0, v]
  row : wr.ownsRow (hb + 1) 24 4 v i cs
  ks : KCs wr (fun b => hb < b ∧ b < wr.heap.size ∧ v.ownBlock ≠ some b ∧ Reg wr b) (Fm.kidsM g i a2).1 cs
  mq : MK wr B bl ba bp bm A c zs (Fm.kidsM g i a2).2
  rk : RKeep ba W wr
  rb : Blk wr W.heap.size 24 #[.int .i64 0, .string ⟨#[]⟩, .int .i64 0, .slice none 0 0]
  lt : W.heap.size < hb
  lm : bm < W.heap.size
section
variable {W wr : World} {B bl ba bp bm : Nat} {A : Option Addr} {c : Nat} {zs : List Int} {k : Int} {g : Nat → Fm.F × Nat} {a2 hb i : Nat} {v : Value} {cs : List Value}
theorem MR.drew (h : MR W wr B bl ba bp bm A c zs k g a2 hb i v cs) : MR W wr.drew B bl ba bp bm A c zs k g a2 hb i v cs :=
  ⟨h.hh.dr, h.row, KCs.keep (w := wr) (w' := wr.drew) (fun _ _ => rfl) (fun _ h => h) _ _ h.ks, h.mq.drew, h.rk.drew, h.rb.dr, h.lt, h.lm⟩
theorem MR.ltm (h : MR W wr B bl ba bp bm A c zs k g a2 hb i v cs) : bm < hb := by have := h.lm; have := h.lt; omega
theorem MR.neb (h : MR W wr B bl ba bp bm A c zs k g a2 hb i v cs) : hb ≠ ba := by have := h.ltm; have := h.mq.b2; have := h.mq.b3; omega
theorem MR.ltb (h : MR W wr B bl ba bp bm A c zs k g a2 hb i v cs) : ba < hb + 1 := by have := h.ltm; have := h.mq.b2; have := h.mq.b3; omega
set_option maxHeartbeats 1000000 in
theorem MR.next (h : MR W wr B bl ba bp bm A c zs k g a2 hb i v cs) {w3 W4 w5 : World} {k2 : Int} {s2 : ByteArray} {l2 : Int} {A2 : Option Addr} {n2 c2 : Nat} {v' : Value} (hk3 : RKeep ba wr w3)
    (hG3 : FV w3 (fun b => Fr wr.heap.size w3.heap.size b ∧ Reg w3 b) (g (Fm.kidsM g i a2).2).1 (.agg #[.int .i64 k2, .string s2, .int .i64 l2, .slice A2 n2 c2])) (hM3 : MK w3 B bl ba bp bm A c zs (g (Fm.kidsM g i a2).2).2)
    (hW4 : w3.alloc (Obj.cells #[.int .i64 k2, .string s2, .int .i64 l2, .slice A2 n2 c2] 24) = W4)
    (hrow : w5.ownsRow (hb + 1) 24 4 v' (i + 1) (cs ++ [.int .i64 k2, .string s2, .int .i64 l2, .slice A2 n2 c2])) (hg : W4.grownBy w5 v.ownBlock) (ho : v'.ownBlock = v.ownBlock ∨ v'.ownBlock = some W4.heap.size) :
    MR W (w5.setCell ⟨hb, 3, none⟩ v') B bl ba bp bm A c zs k g a2 hb (i + 1) v' (cs ++ [.int .i64 k2, .string s2, .int .i64 l2, .slice A2 n2 c2]) := by
  obtain ⟨e1, e2⟩ := kidsM_snoc g i a2
  have hlm := h.lm
  have hlt := h.lt
  have hltm := h.ltm
  have hneb := h.neb
  have hb2 := h.mq.b2
  have hb3 := h.mq.b3
  have hbase := row_base h.row
  have lo4 : Below w3.heap.size w3 W4 := hW4 ▸ lowAlloc w3 _
  have hs34 : W4.heap.size = w3.heap.size + 1 := by rw [← hW4]; simp
  have hsz3 := hk3.size
  have hsz5 := hg.size
  have hhl := h.hh.lt
  have hne : some hb ≠ v.ownBlock := fun e => by have := hbase _ e.symm; omega
  have hhh4 := (hk3.blkOf h.hh hneb).below lo4 (by omega)
  have hM4 := hM3.below lo4
  have hM5 := hM4.grown hg (fun q e => by have := hbase q e; omega)
  have hcell : ∀ p : Addr, hb < p.block → p.block < W4.heap.size → v.ownBlock ≠ some p.block → (w5.setCell ⟨hb, 3, none⟩ v').cell? p = W4.cell? p := fun p h1 h2 h3 => by
    rw [cell_far _ _ _ _ (by simp only; omega)]
    exact World.cell?_of_block (hg.block _ h2 (fun e => h3 e.symm))
  refine ⟨?_, row_set hrow (by simp) _, ?_, ?_, ?_, ?_, hlt, hlm⟩
  · have := (hhh4.grown hg hne).put 3 v'
    simpa using this
  · rw [e1]
    have hK : ∀ b, (hb < b ∧ b < W4.heap.size ∧ v.ownBlock ≠ some b ∧ Reg W4 b) → (hb < b ∧ b < (w5.setCell ⟨hb, 3, none⟩ v').heap.size ∧ v'.ownBlock ≠ some b ∧ Reg (w5.setCell ⟨hb, 3, none⟩ v') b) := fun b hq => ⟨hq.1, by have := hq.2.1; simp; omega, by
      rcases ho with ho | ho
      · rw [ho]
        exact hq.2.2.1
      · rw [ho]
        intro e
        injection e with e
        have := hq.2.1
        omega, (hq.2.2.2.grown hg hq.2.2.1).far (by have := hq.1; simp only; omega) _⟩
    have k3 : KCs W4 (fun b => hb < b ∧ b < W4.heap.size ∧ v.ownBlock ≠ some b ∧ Reg W4 b) (Fm.kidsM g i a2).1 cs := h.ks.keep (fun p hp => by
      rw [lo4.cell (by have := hp.2.1; omega)]
      exact hk3.cell hp.2.1 (by have := hp.1; omega)) (fun b hq => ⟨hq.1, by have := hq.2.1; omega, hq.2.2.1, (hq.2.2.2.rk hk3 (by have := hq.1; omega)).below lo4 (by have := hq.2.1; omega)⟩)
    have f3 : FV W4 (fun b => hb < b ∧ b < W4.heap.size ∧ v.ownBlock ≠ some b ∧ Reg W4 b) (g (Fm.kidsM g i a2).2).1 (.agg #[.int .i64 k2, .string s2, .int .i64 l2, .slice A2 n2 c2]) := FV.keep (fun p hp => lo4.cell hp.1.2) (fun b hq => ⟨by have := hq.1.1; omega, by have := hq.1.2; omega, fun e => by
      have h1 := hq.1.1
      rcases h.row.2 with ⟨hv, _⟩ | ⟨q, cap, cur, hv, _, hq2, _⟩
      · rw [hv] at e
        cases e
      · rw [hv] at e
        injection e with e
        have := (Array.getElem?_eq_some_iff.1 hq2).1
        simp only at e
        omega, hq.2.below lo4 hq.1.2⟩) _ _ hG3
    exact (KCs.snoc f3 _ _ k3).keep (fun p hp => hcell p hp.1 hp.2.1 hp.2.2.1) hK
  · rw [e2]
    exact hM5.far (by simpa using hltm) _
  · have hr4 := (h.rk.trans hk3).below lo4
    have hW := h.rk.size
    have hr5 : RKeep ba W w5 := ⟨hg.os.trans hr4.os, hg.tape.trans hr4.tape, hg.output.trans hr4.output, Nat.le_trans hr4.size hg.size, fun b hbl hn => (hg.block b (by omega) (fun e => by have := hbase _ e.symm; omega)).trans (hr4.blk b hbl hn)⟩
    exact hr5.far (by simp only; omega) _
  · have hrl := h.rb.lt
    have r4 := (hk3.blkOf h.rb (by omega)).below lo4 (by omega)
    exact (r4.grown hg (fun e => by have := hbase _ e.symm; omega)).far (by simp only; omega) _
end
end Go.Proofs.YtlddnejjpekgeaaDoor
