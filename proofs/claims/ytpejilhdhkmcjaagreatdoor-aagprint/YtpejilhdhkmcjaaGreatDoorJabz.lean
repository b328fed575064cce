/- A circuit that came in, and what it holds. -/
import Derived.Test.YtpejilhdhkmcjaaGreatDoorJaAl
import Derived.Test.YtpejilhdhkmcjaaGreatDoorJaap
import Derived.Test.YtpejilhdhkmcjaaGreatDoorRows
namespace Go.Proofs.YtpejilhdhkmcjaaGreatDoor
open Go.ChangeShapes Go.WideShapes Go.ChangeAt Go.RowKit Go.Deep Go.Joins Go.WideElems
section
variable {H : Type} {enc : TypeId × Value → H} {W : World} {base : Nat} {spare : Nat → Bool} {held : Bool}
theorem bulk_part {H : Type} {d : DataW H} {l : List (DataW H)} (h : d ∈ l) : Rows.uptoBulk d ≤ Rows.uptoBulkAll l := by
 induction l with
 | nil => cases h
 | cons x r ih =>
  simp only [Rows.uptoBulkAll]
  cases List.mem_cons.1 h with
  | inl e => subst e; omega
  | inr e => have := ih e; omega
set_option maxRecDepth 100000 in
theorem open_names2 {fuel : Nat} {v1 : Value} {x : DataW H × List MemPlace} (h : DataW.trod enc Tryz.prog W base spare held fuel 27 [v1] = some x) :
  ∃ (A : Option Addr) (c : Nat) (ns : List Nm), v1 = .slice A ns.length c ∧ Ns W W.heap.size A ns ∧ (∀ x ∈ ns, (0 ≤ x.1 ∧ x.1 ≤ 255) ∧ I64 x.2.1 ∧ x.2.2.size ≤ maxLen) ∧ ns.length ≤ maxLen ∧ ns.length ≤ c ∧ ∀ y ∈ ns, y.2.2.size ≤ Rows.uptoBulk x.1 := by
 rcases open_slice Tryz.underlying27 h with ⟨hcs, _⟩ | ⟨a, len, cap, m, n, D, Pl, hcs, hb, hl, hm, hmm, hxe, hx⟩
 ·
  refine ⟨none, 0, [], ?_, ns_nil, fun x hx => by simp at hx, Nat.zero_le _, Nat.zero_le _, fun x hx => by simp at hx⟩
  simpa using hcs
 have hlm : len ≤ m := by rw [hmm]; split <;> omega
 have each : ∀ i, i < len → ∃ q : Nm, W.cell? (a.add (i * 3)) = some (.int .u8 q.1) ∧ W.cell? ((a.add (i * 3)).add 1) = some (.int .i64 q.2.1) ∧ W.cell? ((a.add (i * 3)).add 2) = some (.string q.2.2) ∧ (Lit.int .u8 q.1).wf = true ∧ (Lit.int .i64 q.2.1).wf = true ∧ q.2.2.size ≤ maxLen ∧ q.2.2.size ≤ Rows.uptoBulk (D i) := by
  intro i hi
  obtain ⟨cs', h1, h2⟩ := hx i (by omega)
  rw [Tryz.cellsName] at h1
  obtain ⟨_, hlen, hcell⟩ := World.cells?_some h1
  obtain ⟨y0, y1, y2, n', hye, _, g0, g1, g2⟩ := trod_struct3 Tryz.underlying69 h2
  have c8 : Tryz.prog.cellsOf 5 = 1 := by kernel_rfl
  have cst : Tryz.prog.cellsOf 9 = 1 := by kernel_rfl
  match cs', hlen with
  | [v0, v1, v2], _ =>
   simp [Tryz.cellsInt, c8, cst] at g0 g1 g2
   obtain ⟨u, hu, _, wu⟩ := DataW.trod_int Tryz.underlying5 g0
   obtain ⟨v, hv, _, wv⟩ := DataW.trod_int Tryz.underlying3 g1
   obtain ⟨s, hs, hsx, ws⟩ := DataW.trod_string Tryz.underlying9 g2
   have e0 := hcell 0 (by omega)
   have e1 := hcell 1 (by omega)
   have e2 := hcell 2 (by omega)
   simp at hu hv hs
   subst hu hv hs
   have hD : D i = .agg [y0.1, y1.1, y2.1] := congrArg Prod.fst hye
   refine ⟨(u, v, s), by simpa [Addr.add] using e0, by simpa using e1, by simpa using e2, wu, wv, ws, ?_⟩
   rw [hD, hsx]
   simp only [Rows.uptoBulk, Rows.uptoBulkAll, Array.length_toList]
   show s.data.size ≤ _
   omega
 obtain ⟨q, hq⟩ := choose_lt each
 refine ⟨some a, cap, (List.range len).map q, ?_, fun k hk => ?_, fun g hg => ?_, by simp; omega, by simpa using hl, fun g hg => ?_⟩
 ·
  simpa using hcs
 ·
  have hk' : k < len := by simpa using hk
  obtain ⟨e1, e2, e3, _, _, _, _⟩ := hq k hk'
  obtain ⟨b, off, spot⟩ := a
  have hspot : spot = none := by
   have := World.cell?_spot (hq 0 (by omega)).1
   simpa [Addr.add] using this
  subst hspot
  rw [add_add] at e2 e3
  rw [add_plain] at e1 e2 e3
  refine ⟨b, off, rfl, ?_, ?_, ?_, ?_⟩
  ·
   exact World.block_lt_of_cell? W ⟨b, off + k * 3, none⟩ e1
  ·
   simpa using e1
  ·
   simpa [Nat.add_assoc] using e2
  simpa [Nat.add_assoc] using e3
 ·
  obtain ⟨i, hi, rfl⟩ := List.mem_map.1 hg
  obtain ⟨_, _, _, w1, w2, w3, _⟩ := hq i (List.mem_range.1 hi)
  exact ⟨bounds_u8 w1, bounds_i64 w2, w3⟩
 obtain ⟨i, hi, rfl⟩ := List.mem_map.1 hg
 obtain ⟨_, _, _, _, _, _, w4⟩ := hq i (List.mem_range.1 hi)
 refine Nat.le_trans w4 ?_
 rw [hxe]
 refine Nat.le_trans (bulk_part (l := (List.range len).map D) (List.mem_map.2 ⟨i, hi, rfl⟩)) ?_
 simp only [Rows.uptoBulk]
 omega
set_option maxRecDepth 100000 in
theorem open_circuit2 {r : Reach} {b0 : Nat} {v : Value} {d : DataW H} {p : List MemPlace} (hv : Value.okWide Tryz.prog W r b0 29 v) (h : DataW.Trod enc Tryz.prog W base spare held 29 v d p) :
  ∃ c : Cir, v = .agg #[.int .i64 c.n, .slice c.aL c.ls.length c.cL, .slice c.aG c.gs.length c.cG, .slice c.aO c.os.length c.cO, .slice c.aB c.bs.length c.cB, .slice c.aC c.cs.length c.cC, .slice c.aF c.fs.length c.cF, .slice c.aN c.ns.length c.cN] ∧ CirM W W.heap.size c ∧ CirO c ∧ ∀ y ∈ c.ns, y.2.2.size ≤ Rows.uptoBulk d := by
 obtain ⟨cs, rfl, hsz⟩ := okWide_struct Tryz.underlying29 hv
 obtain ⟨u0, u1, u2, u3, u4, u5, u6, u7, rfl⟩ := array8 (hsz.trans Tryz.cellsCircuit)
 obtain ⟨fuel, hf⟩ := h
 obtain ⟨xs, n, _, hde, hl, hlen, hfl⟩ := DataW.trod_struct Tryz.underlying29 hf
 have cL : Tryz.prog.cellsOf 24 = 1 := by kernel_rfl
 have cG : Tryz.prog.cellsOf 25 = 1 := by kernel_rfl
 have cI : Tryz.prog.cellsOf 26 = 1 := by kernel_rfl
 have cN : Tryz.prog.cellsOf 27 = 1 := by kernel_rfl
 match xs, hlen with
 | [y0, y1, y2, y3, y4, y5, y6, y7], _ =>
  have g0 := hfl 0 _ rfl
  have g1 := hfl 1 _ rfl
  have g2 := hfl 2 _ rfl
  have g3 := hfl 3 _ rfl
  have g4 := hfl 4 _ rfl
  have g5 := hfl 5 _ rfl
  have g6 := hfl 6 _ rfl
  have g7 := hfl 7 _ rfl
  simp [Value.cells, Tryz.cellsInt, cL, cG, cI, cN] at g0 g1 g2 g3 g4 g5 g6 g7
  obtain ⟨nn, e0, _, wn⟩ := DataW.trod_int Tryz.underlying3 g0
  obtain ⟨aL, kL, ls, e1, mL, wL, lL⟩ := open_latches g1
  obtain ⟨aG, kG, gs, e2, mG, wG, lG⟩ := open_gates g2
  obtain ⟨aO, kO, os, e3, mO, wO, lO⟩ := open_ints4 g3
  obtain ⟨aB, kB, bs, e4, mB, wB, lB⟩ := open_ints4 g4
  obtain ⟨aC, kC, cs', e5, mC, wC, lC⟩ := open_ints4 g5
  obtain ⟨aF, kF, fs, e6, mF, wF, lF⟩ := open_ints4 g6
  obtain ⟨aN, kN, ns, e7, mN, wN, lN, capN, bN⟩ := open_names2 g7
  simp at e0
  subst e0 e1 e2 e3 e4 e5 e6 e7
  refine ⟨⟨nn, aL, kL, ls, aG, kG, gs, aO, kO, os, aB, kB, bs, aC, kC, cs', aF, kF, fs, aN, kN, ns⟩, rfl, ⟨mL, mG, mO, mB, mC, mF, mN⟩, ⟨bounds_i64 wn, wL, wG, wO, wB, wC, wF, wN, lL, lG, lO, lB, lC, lF, lN, capN⟩, fun y hy => ?_⟩
  refine Nat.le_trans (bN y hy) ?_
  have hd : d = .agg ([y0, y1, y2, y3, y4, y5, y6, y7].map (·.1)) := congrArg Prod.fst hde
  rw [hd]
  refine Nat.le_trans (bulk_part (d := y7.1) (l := [y0, y1, y2, y3, y4, y5, y6, y7].map (·.1)) (by simp)) ?_
  simp only [Rows.uptoBulk]
  omega
end
end Go.Proofs.YtpejilhdhkmcjaaGreatDoor
