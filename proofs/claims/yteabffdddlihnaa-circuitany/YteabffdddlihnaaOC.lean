/- How a circuit that came in is opened. -/
import Derived.Test.YteabffdddlihnaaD20
import Derived.ChangeMaps5
import Derived.Deep.Fields
namespace Go.Proofs.Yteabffdddlihnaa
open Go.ChangeShapes Go.WideShapes Go.ChangeAt Go.RowKit Go.Deep Go.Joins Go.WideElems

theorem Try.cellsLatch : Try.prog.cellsOf 41 = 2 := by kernel_rfl
theorem Try.cellsName : Try.prog.cellsOf 34 = 3 := by kernel_rfl
theorem Try.cellsCircuit : Try.prog.cellsOf 27 = 8 := by kernel_rfl
/-- What is known of a circuit that came in. -/
structure CirO (c : Cir) : Prop where
  hn : I64 c.n
  hl : Wf c.ls
  hg : Wf c.gs
  ho : IWf c.os
  hb : IWf c.bs
  hc : IWf c.cs
  hf : IWf c.fs
  hk : ∀ x ∈ c.ns, (0 ≤ x.1 ∧ x.1 ≤ 255) ∧ I64 x.2.1 ∧ x.2.2.size ≤ maxLen
  ml : c.ls.length ≤ maxLen
  mg : c.gs.length ≤ maxLen
  lo : c.os.length ≤ maxLen
  lb : c.bs.length ≤ maxLen
  lc : c.cs.length ≤ maxLen
  lf : c.fs.length ≤ maxLen
  mn : c.ns.length ≤ maxLen
  cap : c.ns.length ≤ c.cN
theorem array8 {α : Type} {cs : Array α} (h : cs.size = 8) : ∃ c0 c1 c2 c3 c4 c5 c6 c7, cs = #[c0, c1, c2, c3, c4, c5, c6, c7] := by
  obtain ⟨l⟩ := cs
  match l, h with
  | [c0, c1, c2, c3, c4, c5, c6, c7], _ => exact ⟨c0, c1, c2, c3, c4, c5, c6, c7, rfl⟩
section
variable {H : Type} {enc : TypeId × Value → H} {W : World} {base : Nat} {spare : Nat → Bool} {held : Bool}
set_option maxRecDepth 100000 in
theorem open_latches {fuel : Nat} {v1 : Value} {x : DataW H × List MemPlace} (h : DataW.trod enc Try.prog W base spare held fuel 22 [v1] = some x) :
    ∃ (A : Option Addr) (c : Nat) (gs : List (Int × Int)), v1 = .slice A gs.length c ∧ Gr W W.heap.size A gs ∧ Wf gs ∧ gs.length ≤ maxLen := by
  rcases open_slice Try.underlying22 h with ⟨hcs, _⟩ | ⟨a, len, cap, m, n, D, Pl, hcs, hb, hl, hm, hmm, _, hx⟩
  · refine ⟨none, 0, [], ?_, gr_nil, wf_nil, Nat.zero_le _⟩
    simpa using hcs
  · have hlm : len ≤ m := by rw [hmm]; split <;> omega
    have each : ∀ i, i < len → ∃ q : Int × Int, W.cell? (a.add (i * 2)) = some (.int .i64 q.1) ∧ W.cell? ((a.add (i * 2)).add 1) = some (.int .i64 q.2) ∧ (Lit.int .i64 q.1).wf = true ∧ (Lit.int .i64 q.2).wf = true := by
      intro i hi
      obtain ⟨cs', h1, h2⟩ := hx i (by omega)
      rw [Try.cellsLatch] at h1
      obtain ⟨_, hlen, hcell⟩ := World.cells?_some h1
      obtain ⟨y0, y1, n', _, _, g0, g1⟩ := trod_struct2 Try.underlying41 h2
      match cs', hlen with
      | [v0, v1], _ =>
        simp [Try.cellsInt] at g0 g1
        obtain ⟨u, hu, _, wu⟩ := DataW.trod_int Try.underlying3 g0
        obtain ⟨v, hv, _, wv⟩ := DataW.trod_int Try.underlying3 g1
        have e0 := hcell 0 (by omega)
        have e1 := hcell 1 (by omega)
        simp at hu hv
        subst hu hv
        exact ⟨(u, v), by simpa [Addr.add] using e0, by simpa using e1, wu, wv⟩
    obtain ⟨q, hq⟩ := choose_lt each
    refine ⟨some a, cap, (List.range len).map q, ?_, fun k hk => ?_, fun g hg => ?_, by simp; omega⟩
    · simpa using hcs
    · have hk' : k < len := by simpa using hk
      obtain ⟨e1, e2, _, _⟩ := hq k hk'
      obtain ⟨b, off, spot⟩ := a
      have hspot : spot = none := by
        have := World.cell?_spot (hq 0 (by omega)).1
        simpa [Addr.add] using this
      subst hspot
      rw [add_add] at e2
      rw [add_plain] at e1 e2
      refine ⟨b, off, rfl, ?_, ?_, ?_⟩
      · exact World.block_lt_of_cell? W ⟨b, off + k * 2, none⟩ e1
      · simpa using e1
      · simpa [Nat.add_assoc] using e2
    · obtain ⟨i, hi, rfl⟩ := List.mem_map.1 hg
      obtain ⟨_, _, w1, w2⟩ := hq i (List.mem_range.1 hi)
      exact ⟨bounds_i64 w1, bounds_i64 w2⟩
set_option maxRecDepth 100000 in
theorem open_names {fuel : Nat} {v1 : Value} {x : DataW H × List MemPlace} (h : DataW.trod enc Try.prog W base spare held fuel 25 [v1] = some x) :
    ∃ (A : Option Addr) (c : Nat) (ns : List Nm), v1 = .slice A ns.length c ∧ Ns W W.heap.size A ns ∧ (∀ x ∈ ns, (0 ≤ x.1 ∧ x.1 ≤ 255) ∧ I64 x.2.1 ∧ x.2.2.size ≤ maxLen) ∧ ns.length ≤ maxLen ∧ ns.length ≤ c := by
  rcases open_slice Try.underlying25 h with ⟨hcs, _⟩ | ⟨a, len, cap, m, n, D, Pl, hcs, hb, hl, hm, hmm, _, hx⟩
  · refine ⟨none, 0, [], ?_, ns_nil, fun x hx => by simp at hx, Nat.zero_le _, Nat.zero_le _⟩
    simpa using hcs
  · have hlm : len ≤ m := by rw [hmm]; split <;> omega
    have each : ∀ i, i < len → ∃ q : Nm, W.cell? (a.add (i * 3)) = some (.int .u8 q.1) ∧ W.cell? ((a.add (i * 3)).add 1) = some (.int .i64 q.2.1) ∧ W.cell? ((a.add (i * 3)).add 2) = some (.string q.2.2) ∧ (Lit.int .u8 q.1).wf = true ∧ (Lit.int .i64 q.2.1).wf = true ∧ q.2.2.size ≤ maxLen := by
      intro i hi
      obtain ⟨cs', h1, h2⟩ := hx i (by omega)
      rw [Try.cellsName] at h1
      obtain ⟨_, hlen, hcell⟩ := World.cells?_some h1
      obtain ⟨y0, y1, y2, n', _, _, g0, g1, g2⟩ := trod_struct3 Try.underlying34 h2
      have c8 : Try.prog.cellsOf 5 = 1 := by kernel_rfl
      have cst : Try.prog.cellsOf 9 = 1 := by kernel_rfl
      match cs', hlen with
      | [v0, v1, v2], _ =>
        simp [Try.cellsInt, c8, cst] at g0 g1 g2
        obtain ⟨u, hu, _, wu⟩ := DataW.trod_int Try.underlying5 g0
        obtain ⟨v, hv, _, wv⟩ := DataW.trod_int Try.underlying3 g1
        obtain ⟨s, hs, _, ws⟩ := DataW.trod_string Try.underlying9 g2
        have e0 := hcell 0 (by omega)
        have e1 := hcell 1 (by omega)
        have e2 := hcell 2 (by omega)
        simp at hu hv hs
        subst hu hv hs
        exact ⟨(u, v, s), by simpa [Addr.add] using e0, by simpa using e1, by simpa using e2, wu, wv, ws⟩
    obtain ⟨q, hq⟩ := choose_lt each
    refine ⟨some a, cap, (List.range len).map q, ?_, fun k hk => ?_, fun g hg => ?_, by simp; omega, by simpa using hl⟩
    · simpa using hcs
    · have hk' : k < len := by simpa using hk
      obtain ⟨e1, e2, e3, _, _, _⟩ := hq k hk'
      obtain ⟨b, off, spot⟩ := a
      have hspot : spot = none := by
        have := World.cell?_spot (hq 0 (by omega)).1
        simpa [Addr.add] using this
      subst hspot
      rw [add_add] at e2 e3
      rw [add_plain] at e1 e2 e3
      refine ⟨b, off, rfl, ?_, ?_, ?_, ?_⟩
      · exact World.block_lt_of_cell? W ⟨b, off + k * 3, none⟩ e1
      · simpa using e1
      · simpa [Nat.add_assoc] using e2
      · simpa [Nat.add_assoc] using e3
    · obtain ⟨i, hi, rfl⟩ := List.mem_map.1 hg
      obtain ⟨_, _, _, w1, w2, w3⟩ := hq i (List.mem_range.1 hi)
      exact ⟨bounds_u8 w1, bounds_i64 w2, w3⟩
theorem open_ints4 {fuel : Nat} {v1 : Value} {x : DataW H × List MemPlace} (h : DataW.trod enc Try.prog W base spare held fuel 24 [v1] = some x) :
    ∃ (A : Option Addr) (c : Nat) (zs : List Int), v1 = .slice A zs.length c ∧ Vs W W.heap.size A (iv zs) ∧ IWf zs ∧ zs.length ≤ maxLen := by
  rcases open_slice Try.underlying24 h with ⟨hcs, _⟩ | ⟨a, len, cap, m, n, D, Pl, hcs, hb, hl, hm, hmm, _, hx⟩
  · refine ⟨none, 0, [], ?_, vs_nil, fun x hx => by simp at hx, Nat.zero_le _⟩
    simpa using hcs
  · have hlm : len ≤ m := by rw [hmm]; split <;> omega
    have each : ∀ i, i < len → ∃ q : Int, W.cell? (a.add (i * 1)) = some (.int .i64 q) ∧ (Lit.int .i64 q).wf = true := by
      intro i hi
      obtain ⟨cs', h1, h2⟩ := hx i (by omega)
      rw [Try.cellsInt] at h1
      obtain ⟨_, hlen, hcell⟩ := World.cells?_some h1
      obtain ⟨u, hu, _, wu⟩ := DataW.trod_int Try.underlying3 h2
      subst hu
      have e0 := hcell 0 (by omega)
      exact ⟨u, by simpa [Addr.add] using e0, wu⟩
    obtain ⟨q, hq⟩ := choose_lt each
    refine ⟨some a, cap, (List.range len).map q, ?_, fun k hk => ?_, fun x hx => ?_, by simp; omega⟩
    · simpa using hcs
    · have hk' : k < len := by simpa [iv] using hk
      obtain ⟨e1, w1⟩ := hq k hk'
      obtain ⟨b, off, spot⟩ := a
      have hspot : spot = none := by
        have := World.cell?_spot (hq 0 (by omega)).1
        simpa [Addr.add] using this
      subst hspot
      rw [add_plain, Nat.mul_one] at e1
      refine ⟨b, off, rfl, World.block_lt_of_cell? W ⟨b, off + k, none⟩ e1, ?_⟩
      simpa [iv] using e1
    · obtain ⟨i, hi, rfl⟩ := List.mem_map.1 hx
      exact bounds_i64 (hq i (List.mem_range.1 hi)).2
set_option maxRecDepth 100000 in
theorem open_circuit {r : Reach} {b0 : Nat} {v : Value} {d : DataW H} {p : List MemPlace} (hv : Value.okWide Try.prog W r b0 27 v) (h : DataW.Trod enc Try.prog W base spare held 27 v d p) :
    ∃ c : Cir, v = .agg #[.int .i64 c.n, .slice c.aL c.ls.length c.cL, .slice c.aG c.gs.length c.cG, .slice c.aO c.os.length c.cO, .slice c.aB c.bs.length c.cB, .slice c.aC c.cs.length c.cC, .slice c.aF c.fs.length c.cF, .slice c.aN c.ns.length c.cN] ∧ CirM W W.heap.size c ∧ CirO c := by
  obtain ⟨cs, rfl, hsz⟩ := okWide_struct Try.underlying27 hv
  obtain ⟨u0, u1, u2, u3, u4, u5, u6, u7, rfl⟩ := array8 (hsz.trans Try.cellsCircuit)
  obtain ⟨fuel, hf⟩ := h
  obtain ⟨xs, n, _, _, hl, hlen, hfl⟩ := DataW.trod_struct Try.underlying27 hf
  have cL : Try.prog.cellsOf 22 = 1 := by kernel_rfl
  have cG : Try.prog.cellsOf 23 = 1 := by kernel_rfl
  have cI : Try.prog.cellsOf 24 = 1 := by kernel_rfl
  have cN : Try.prog.cellsOf 25 = 1 := by kernel_rfl
  match xs, hlen with
  | [y0, y1, y2, y3, y4, y5, y6, y7], _ =>
    have g0 := hfl 0 _ rfl
    have g1 := hfl 1 _ rfl
    have g2 := hfl 2 _ rfl
    have g3 := hfl 3 _ rfl
    have g4 := hfl 4 _ rfl
    have g5 := hfl 5 _ rfl
    have g6 := hfl 6 _ rfl
    have g7 := hfl 7 _ rfl
    simp [Value.cells, Try.cellsInt, cL, cG, cI, cN] at g0 g1 g2 g3 g4 g5 g6 g7
    obtain ⟨nn, e0, _, wn⟩ := DataW.trod_int Try.underlying3 g0
    obtain ⟨aL, kL, ls, e1, mL, wL, lL⟩ := open_latches g1
    obtain ⟨aG, kG, gs, e2, mG, wG, lG⟩ := open_gates g2
    obtain ⟨aO, kO, os, e3, mO, wO, lO⟩ := open_ints4 g3
    obtain ⟨aB, kB, bs, e4, mB, wB, lB⟩ := open_ints4 g4
    obtain ⟨aC, kC, cs', e5, mC, wC, lC⟩ := open_ints4 g5
    obtain ⟨aF, kF, fs, e6, mF, wF, lF⟩ := open_ints4 g6
    obtain ⟨aN, kN, ns, e7, mN, wN, lN, capN⟩ := open_names g7
    simp at e0
    subst e0 e1 e2 e3 e4 e5 e6 e7
    exact ⟨⟨nn, aL, kL, ls, aG, kG, gs, aO, kO, os, aB, kB, bs, aC, kC, cs', aF, kF, fs, aN, kN, ns⟩, rfl, ⟨mL, mG, mO, mB, mC, mF, mN⟩, ⟨bounds_i64 wn, wL, wG, wO, wB, wC, wF, wN, lL, lG, lO, lB, lC, lF, lN, capN⟩⟩
end

namespace Cm
def bigB (c : Cir) : Bool := decide (60 < c.gs.length) || (decide (60 < c.ls.length) || decide (60 < c.ns.length))
end Cm
set_option maxHeartbeats 2000000 in
theorem big_any (c : Cir) (w : World) (hO : CirO c) : Calls Try.prog 8 #[.agg #[.int .i64 c.n, .slice c.aL c.ls.length c.cL, .slice c.aG c.gs.length c.cG, .slice c.aO c.os.length c.cO, .slice c.aB c.bs.length c.cB, .slice c.aC c.cs.length c.cC, .slice c.aF c.fs.length c.cF, .slice c.aN c.ns.length c.cN]] w fun e w' => e = .returned (.bool (Cm.bigB c)) ∧ Below w.heap.size w w' := by
  have hbx := boxed w c
  have lo := lowAlloc w (Obj.cells #[.int .i64 c.n, .slice c.aL c.ls.length c.cL, .slice c.aG c.gs.length c.cG, .slice c.aO c.os.length c.cO, .slice c.aB c.bs.length c.cB, .slice c.aC c.cs.length c.cC, .slice c.aF c.fs.length c.cF, .slice c.aN c.ns.length c.cN] 27)
  have m1 := hO.ml
  have m2 := hO.mg
  have m3 := hO.mn
  unfold maxLen at m1 m2 m3
  have HB : Hid (Cm.bigB c = (decide (60 < c.gs.length) || (decide (60 < c.ls.length) || decide (60 < c.ns.length)))) := rfl
  generalize Cm.bigB c = z at *
  have c0 := hbx.cell 0; have c1 := hbx.cell 1; have c2 := hbx.cell 2; have c3 := hbx.cell 3; have c4 := hbx.cell 4; have c5 := hbx.cell 5; have c6 := hbx.cell 6; have c7 := hbx.cell 7; simp only [List.getElem?_toArray, List.getElem?_cons_zero, List.getElem?_cons_succ] at c0 c1 c2 c3 c4 c5 c6 c7
  by_cases h1 : 60 < c.gs.length
  · have HZ : Hid (z = true) := by unfold Hid; rw [HB.out, decide_eq_true h1]; rfl
    have d1 : decide ((60 : Int) < (c.gs.length : Int)) = true := decide_eq_true (by omega)
    go_enter Try.func8, Try.ntmps8
    go_wp2
    go_ret
    exact ⟨by rw [HZ.out]; rfl, lo⟩
  · have d1 : decide ((60 : Int) < (c.gs.length : Int)) = false := decide_eq_false (by omega)
    by_cases h2 : 60 < c.ls.length
    · have HZ : Hid (z = true) := by unfold Hid; rw [HB.out, decide_eq_true h2]; simp
      have d2 : decide ((60 : Int) < (c.ls.length : Int)) = true := decide_eq_true (by omega)
      go_enter Try.func8, Try.ntmps8
      go_wp2
      go_ret
      exact ⟨by rw [HZ.out]; rfl, lo⟩
    · have d2 : decide ((60 : Int) < (c.ls.length : Int)) = false := decide_eq_false (by omega)
      by_cases h3 : 60 < c.ns.length
      · have HZ : Hid (z = true) := by unfold Hid; rw [HB.out, decide_eq_true h3]; simp
        have d3 : decide ((60 : Int) < (c.ns.length : Int)) = true := decide_eq_true (by omega)
        go_enter Try.func8, Try.ntmps8
        go_wp2
        go_ret
        exact ⟨by rw [HZ.out]; rfl, lo⟩
      · have HZ : Hid (z = false) := by unfold Hid; rw [HB.out, decide_eq_false h1, decide_eq_false h2, decide_eq_false h3]; rfl
        have d3 : decide ((60 : Int) < (c.ns.length : Int)) = false := decide_eq_false (by omega)
        go_enter Try.func8, Try.ntmps8
        go_wp2
        go_ret
        exact ⟨by rw [HZ.out]; rfl, lo⟩

set_option maxRecDepth 100000 in
set_option maxHeartbeats 8000000 in
theorem circuitAny_walk (c : Cir) (k at_ : Int) (s : ByteArray) (st l : Int) (w : World) (hM : CirM w w.heap.size c) (hO : CirO c) (hk0 : 0 ≤ k) (hk1 : k ≤ 255) (hs : s.size ≤ maxLen) (hst : I64 st) (hl : I64 l) :
    Calls Try.prog 3 #[.agg #[.int .i64 c.n, .slice c.aL c.ls.length c.cL, .slice c.aG c.gs.length c.cG, .slice c.aO c.os.length c.cO, .slice c.aB c.bs.length c.cB, .slice c.aC c.cs.length c.cC, .slice c.aF c.fs.length c.cF, .slice c.aN c.ns.length c.cN], .int .u8 k, .int .i64 at_, .string s, .int .i64 st, .int .i64 l] w fun e w' => e = .returned (.bool true) ∧ Below w.heap.size w w' := by
  have hbx := boxed w c
  have lo := lowAlloc w (Obj.cells #[.int .i64 c.n, .slice c.aL c.ls.length c.cL, .slice c.aG c.gs.length c.cG, .slice c.aO c.os.length c.cO, .slice c.aB c.bs.length c.cB, .slice c.aC c.cs.length c.cC, .slice c.aF c.fs.length c.cF, .slice c.aN c.ns.length c.cN] 27)
  have HSM : Hid (Cm.bigB c = false → ∀ V, Below w.heap.size w V → Calls Try.prog 9 #[.agg #[.int .i64 c.n, .slice c.aL c.ls.length c.cL, .slice c.aG c.gs.length c.cG, .slice c.aO c.os.length c.cO, .slice c.aB c.bs.length c.cB, .slice c.aC c.cs.length c.cC, .slice c.aF c.fs.length c.cF, .slice c.aN c.ns.length c.cN], .int .u8 k, .int .i64 at_, .string s, .int .i64 st, .int .i64 l] V fun e w' => e = .returned (.bool true) ∧ Below V.heap.size V w') := by
    intro h V hb
    simp only [Cm.bigB, Bool.or_eq_false_iff, decide_eq_false_iff_not] at h
    exact same4_any c k at_ s st l V ((hM.below hb (Nat.le_refl _)).more hb.size) ⟨hO.hn, hO.hl, hO.hg, hO.ho, hO.hb, hO.hc, hO.hf, hO.hk, by omega, by omega, hO.lo, hO.lb, hO.lc, hO.lf, by omega⟩ hO.cap hk0 hk1 hs hst hl (by omega)
  have HBG := Lib.hid (fun V => big_any c V hO)
  generalize Cm.bigB c = t at *
  go_enter Try.func3, Try.ntmps3
  go_wp2_with fail
  refine (awake4_any _).mono ?_
  rintro e w1 ⟨rfl, hb1⟩
  replace hbx := hbx.below hb1 hbx.lt
  replace lo := lo.trans (hb1.mono lo.size)
  have c0 := hbx.cell 0; have c1 := hbx.cell 1; have c2 := hbx.cell 2; have c3 := hbx.cell 3; have c4 := hbx.cell 4; have c5 := hbx.cell 5; have c6 := hbx.cell 6; have c7 := hbx.cell 7; simp only [List.getElem?_toArray, List.getElem?_cons_zero, List.getElem?_cons_succ] at c0 c1 c2 c3 c4 c5 c6 c7
  go_wp2_with fail
  refine (HBG.out _).mono ?_
  rintro e w2 ⟨rfl, hb2⟩
  replace hbx := hbx.below hb2 hbx.lt
  replace lo := lo.trans (hb2.mono lo.size)
  clear c0 c1 c2 c3 c4 c5 c6 c7
  have c0 := hbx.cell 0; have c1 := hbx.cell 1; have c2 := hbx.cell 2; have c3 := hbx.cell 3; have c4 := hbx.cell 4; have c5 := hbx.cell 5; have c6 := hbx.cell 6; have c7 := hbx.cell 7; simp only [List.getElem?_toArray, List.getElem?_cons_zero, List.getElem?_cons_succ] at c0 c1 c2 c3 c4 c5 c6 c7
  cases t with
  | true =>
    go_wp2
    go_ret
    exact ⟨rfl, lo⟩
  | false =>
    go_wp2_with fail
    refine (HSM.out (by trivial) _ lo).mono ?_
    rintro e w3 ⟨rfl, hb3⟩
    go_wp2
    go_ret
    exact ⟨rfl, lo.trans (hb3.mono lo.size)⟩
end Go.Proofs.Yteabffdddlihnaa
