/- How the laws' arguments are opened: graphs, lists of ints. Two rows that grow side by side; the mathematics of values. -/
import Derived.Test.YtdbmepndebdbpaaGreatQaf
namespace Go.Proofs.YtdbmepndebdbpaaGreat
section
open Go.ChangeShapes Go.WideShapes Go.ChangeAt Go.RowKit Go.Deep Go.Joins Go.WideElems

theorem Tryz.cellsGate : Tryz.prog.cellsOf 58 = 2 := by kernel_rfl
theorem Tryz.cellsInt : Tryz.prog.cellsOf 3 = 1 := by kernel_rfl
theorem Tryz.cellsBool : Tryz.prog.cellsOf 4 = 1 := by kernel_rfl
theorem Tryz.cellsGraph : Tryz.prog.cellsOf 41 = 2 := by kernel_rfl

section
variable {H : Type} {enc : TypeId × Value → H} {W : World} {base : Nat} {spare : Nat → Bool} {held : Bool}
set_option maxRecDepth 100000 in
theorem open_gate {fuel : Nat} {a : Addr} {cs : List Value} {x : DataW H × List MemPlace} (h1 : W.cells? base a 2 = some cs) (h2 : DataW.trod enc Tryz.prog W base spare held fuel 58 cs = some x) :
    ∃ u v : Int, W.cell? a = some (.int .i64 u) ∧ W.cell? (a.add 1) = some (.int .i64 v) ∧ (Lit.int .i64 u).wf = true ∧ (Lit.int .i64 v).wf = true := by
  obtain ⟨_, hlen, hcell⟩ := World.cells?_some h1
  obtain ⟨xs, m, _, _, _, hxl, hf⟩ := DataW.trod_array Tryz.underlying58 h2
  match xs, hxl, cs, hlen with
  | [y0, y1], _, [v0, v1], _ =>
    have g0 := hf 0 (by omega)
    have g1 := hf 1 (by omega)
    simp [Tryz.cellsInt] at g0 g1
    obtain ⟨u, hu, _, wu⟩ := DataW.trod_int Tryz.underlying3 g0
    obtain ⟨v, hv, _, wv⟩ := DataW.trod_int Tryz.underlying3 g1
    have e0 := hcell 0 (by omega)
    have e1 := hcell 1 (by omega)
    simp at hu hv
    subst hu hv
    exact ⟨u, v, by simpa [Addr.add] using e0, by simpa using e1, wu, wv⟩
theorem open_gates {fuel : Nat} {v1 : Value} {x : DataW H × List MemPlace} (h : DataW.trod enc Tryz.prog W base spare held fuel 24 [v1] = some x) :
    ∃ (A : Option Addr) (c : Nat) (gs : List (Int × Int)), v1 = .slice A gs.length c ∧ Gr W W.heap.size A gs ∧ Wf gs ∧ gs.length ≤ maxLen := by
  rcases open_slice Tryz.underlying24 h with ⟨hcs, _⟩ | ⟨a, len, cap, m, n, D, Pl, hcs, hb, hl, hm, hmm, _, hx⟩
  · refine ⟨none, 0, [], ?_, gr_nil, wf_nil, Nat.zero_le _⟩
    simpa using hcs
  · have hlm : len ≤ m := by rw [hmm]; split <;> omega
    have each : ∀ i, i < len → ∃ q : Int × Int, W.cell? (a.add (i * 2)) = some (.int .i64 q.1) ∧ W.cell? ((a.add (i * 2)).add 1) = some (.int .i64 q.2) ∧ (Lit.int .i64 q.1).wf = true ∧ (Lit.int .i64 q.2).wf = true := by
      intro i hi
      obtain ⟨cs', h1, h2⟩ := hx i (by omega)
      rw [Tryz.cellsGate] at h1
      obtain ⟨u, v, e1, e2, w1, w2⟩ := open_gate h1 h2
      exact ⟨(u, v), e1, e2, w1, w2⟩
    obtain ⟨q, hq⟩ := choose_lt each
    refine ⟨some a, cap, (List.range len).map q, ?_, fun k hk => ?_, fun g hg => ?_, by simp; omega⟩
    · simpa using hcs
    · have hk' : k < len := by simpa using hk
      obtain ⟨e1, e2, _, _⟩ := hq k hk'
      obtain ⟨b, off, spot⟩ := a
      have hspot : spot = none := by
        have := World.cell?_spot (hq 0 (by omega)).1
        simpa [Addr.add] using this
      subst hspot
      rw [add_add] at e2
      rw [add_plain] at e1 e2
      refine ⟨b, off, rfl, ?_, ?_, ?_⟩
      · exact World.block_lt_of_cell? W ⟨b, off + k * 2, none⟩ e1
      · simpa using e1
      · simpa [Nat.add_assoc] using e2
    · obtain ⟨i, hi, rfl⟩ := List.mem_map.1 hg
      obtain ⟨_, _, w1, w2⟩ := hq i (List.mem_range.1 hi)
      exact ⟨bounds_i64 w1, bounds_i64 w2⟩
theorem open_bools {fuel : Nat} {v1 : Value} {x : DataW H × List MemPlace} (h : DataW.trod enc Tryz.prog W base spare held fuel 66 [v1] = some x) :
    ∃ (A : Option Addr) (c : Nat) (zs : List Bool), v1 = .slice A zs.length c ∧ Vs W W.heap.size A (bv zs) ∧ zs.length ≤ maxLen := by
  rcases open_slice Tryz.underlying66 h with ⟨hcs, _⟩ | ⟨a, len, cap, m, n, D, Pl, hcs, hb, hl, hm, hmm, _, hx⟩
  · refine ⟨none, 0, [], ?_, vs_nil, Nat.zero_le _⟩
    simpa using hcs
  · have hlm : len ≤ m := by rw [hmm]; split <;> omega
    have each : ∀ i, i < len → ∃ q : Bool, W.cell? (a.add (i * 1)) = some (.bool q) := by
      intro i hi
      obtain ⟨cs', h1, h2⟩ := hx i (by omega)
      rw [Tryz.cellsBool] at h1
      obtain ⟨_, hlen, hcell⟩ := World.cells?_some h1
      obtain ⟨u, hu, _⟩ := DataW.trod_bool Tryz.underlying4 h2
      subst hu
      have e0 := hcell 0 (by omega)
      exact ⟨u, by simpa [Addr.add] using e0⟩
    obtain ⟨q, hq⟩ := choose_lt each
    refine ⟨some a, cap, (List.range len).map q, ?_, fun k hk => ?_, by simp; omega⟩
    · simpa using hcs
    · have hk' : k < len := by simpa using hk
      have e1 := hq k hk'
      obtain ⟨b, off, spot⟩ := a
      have hspot : spot = none := by
        have := World.cell?_spot (hq 0 (by omega))
        simpa [Addr.add] using this
      subst hspot
      rw [add_plain, Nat.mul_one] at e1
      refine ⟨b, off, rfl, ?_, ?_⟩
      · exact World.block_lt_of_cell? W ⟨b, off + k, none⟩ e1
      · simpa using e1
theorem open_ints {fuel : Nat} {v1 : Value} {x : DataW H × List MemPlace} (h : DataW.trod enc Tryz.prog W base spare held fuel 25 [v1] = some x) :
    ∃ (A : Option Addr) (c : Nat) (zs : List Int), v1 = .slice A zs.length c ∧ Vs W W.heap.size A (iv zs) ∧ zs.length ≤ maxLen := by
  rcases open_slice Tryz.underlying25 h with ⟨hcs, _⟩ | ⟨a, len, cap, m, n, D, Pl, hcs, hb, hl, hm, hmm, _, hx⟩
  · refine ⟨none, 0, [], ?_, vs_nil, Nat.zero_le _⟩
    simpa using hcs
  · have hlm : len ≤ m := by rw [hmm]; split <;> omega
    have each : ∀ i, i < len → ∃ q : Int, W.cell? (a.add (i * 1)) = some (.int .i64 q) := by
      intro i hi
      obtain ⟨cs', h1, h2⟩ := hx i (by omega)
      rw [Tryz.cellsInt] at h1
      obtain ⟨_, hlen, hcell⟩ := World.cells?_some h1
      obtain ⟨u, hu, _, _⟩ := DataW.trod_int Tryz.underlying3 h2
      subst hu
      have e0 := hcell 0 (by omega)
      exact ⟨u, by simpa [Addr.add] using e0⟩
    obtain ⟨q, hq⟩ := choose_lt each
    refine ⟨some a, cap, (List.range len).map q, ?_, fun k hk => ?_, by simp; omega⟩
    · simpa using hcs
    · have hk' : k < len := by simpa using hk
      have e1 := hq k hk'
      obtain ⟨b, off, spot⟩ := a
      have hspot : spot = none := by
        have := World.cell?_spot (hq 0 (by omega))
        simpa [Addr.add] using this
      subst hspot
      rw [add_plain, Nat.mul_one] at e1
      refine ⟨b, off, rfl, ?_, ?_⟩
      · exact World.block_lt_of_cell? W ⟨b, off + k, none⟩ e1
      · simpa using e1
end
end
open Go.RowKit
namespace Em
theorem getD_cons_map {α β : Type} (f : α → β) (d : β) (xs : List α) (i : Nat) : (d :: xs.map f).getD i d = if i = 0 then d else ((xs[i - 1]?).map f).getD d := by
  cases i with
  | zero => rfl
  | succ i => rw [List.getD_cons_succ, List.getD_eq_getElem?_getD, List.getElem?_map, if_neg (by omega), Nat.add_sub_cancel]
theorem getD_cons {α : Type} (d : α) (xs : List α) (i : Nat) : (d :: xs).getD i d = if i = 0 then d else (xs[i - 1]?).getD d := by
  cases i with
  | zero => rfl
  | succ i => rw [List.getD_cons_succ, List.getD_eq_getElem?_getD, if_neg (by omega), Nat.add_sub_cancel]

/-- With more that may be either, the same is told, or Either. -/
theorem three_less (n : Int) (gs : List (Int × Int)) (l : Int) (xs ys : List Int) (hlen : xs.length = ys.length) (h : ∀ i (h1 : i < xs.length) (h2 : i < ys.length), Le3 (normT xs[i]) (normT ys[i])) : Le3 (threeS n gs l xs) (threeS n gs l ys) := by
  unfold threeS
  rw [hlen]
  split
  · have h0 : ∀ i, Le3 ((0 :: xs.map normT).getD i 0) ((0 :: ys.map normT).getD i 0) ∧ T3 ((0 :: xs.map normT).getD i 0) := by
      intro i
      refine ⟨?_, All3.start xs i⟩
      rw [getD_cons_map, getD_cons_map]
      split
      · exact Or.inr rfl
      · by_cases hi : i - 1 < xs.length
        · rw [List.getElem?_eq_getElem hi, List.getElem?_eq_getElem (hlen ▸ hi)]
          exact h (i - 1) hi (hlen ▸ hi)
        · rw [List.getElem?_eq_none (by omega), List.getElem?_eq_none (by omega)]
          exact Or.inr rfl
    have h1 := vals_rel (f := gateT) (g := gateT) (fun a b => Le3 a b ∧ T3 a) 0 0
      (fun u v x _ hr => ⟨Le3.and (Le3.tri (fun i => (hr i).1) _) (Le3.tri (fun i => (hr i).1) _) (All3.tri (fun i => (hr i).2) _) (All3.tri (fun i => (hr i).2) _), T3.and _ _⟩) ⟨Or.inr rfl, Or.inl rfl⟩ gs (0 :: xs.map normT) (0 :: ys.map normT) (by simp [hlen]) h0
    exact Le3.tri (fun i => (h1 i).1) l
  · exact Or.inr rfl

theorem evalB_in {n : Int} {gs : List (Int × Int)} {l : Int} {ins : List Bool} (hr : Gm.rightB n gs = true) (hl : Gm.litB n gs.length l = true) (hn : (ins.length : Int) = n) : evalB n gs l ins = bitB (vals gateB (false :: ins) gs) l := by
  have e : allB n gs ins = vals gateB (false :: ins) gs := by unfold allB; rw [if_pos ⟨hr, hn⟩]
  unfold evalB
  rw [e, hl, vals_length, decide_eq_true (by simp; omega)]
  rfl
theorem threeS_in {n : Int} {gs : List (Int × Int)} {l : Int} {ins : List Int} (hr : Gm.rightB n gs = true) (hl : Gm.litB n gs.length l = true) (hn : (ins.length : Int) = n) : threeS n gs l ins = triT (vals gateT (0 :: ins.map normT) gs) l := by
  unfold threeS; rw [if_pos ⟨hl, hr, hn⟩]
/-- What three values tell is so, however the rest is. -/
theorem three_ag {n : Int} {gs : List (Int × Int)} {l : Int} {ys : List Int} {ins : List Bool} (hr : Gm.rightB n gs = true) (hl : Gm.litB n gs.length l = true) (hy : (ys.length : Int) = n) (hn : (ins.length : Int) = n)
    (h : ∀ i (h1 : i < ys.length) (h2 : i < ins.length), Ag (normT ys[i]) ins[i]) : Ag (threeS n gs l ys) (evalB n gs l ins) := by
  rw [threeS_in hr hl hy, evalB_in hr hl hn]
  have hlen : ys.length = ins.length := by omega
  refine Ag.tri (vals_rel (f := gateT) (g := gateB) Ag 0 false (fun u v x _ hh => Ag.and (Ag.tri hh _) (Ag.tri hh _)) (Or.inr rfl) gs _ _ (by simp [hlen]) fun i => ?_) l
  rw [getD_cons_map, getD_cons]
  split
  · exact Or.inr rfl
  · by_cases hi : i - 1 < ys.length
    · rw [List.getElem?_eq_getElem hi, List.getElem?_eq_getElem (hlen ▸ hi)]
      exact h (i - 1) hi (hlen ▸ hi)
    · rw [List.getElem?_eq_none (by omega), List.getElem?_eq_none (by omega)]
      exact Or.inr rfl
theorem three_eq {n : Int} {gs : List (Int × Int)} {l : Int} {ys : List Int} {ins : List Bool} (hr : Gm.rightB n gs = true) (hl : Gm.litB n gs.length l = true) (hy : (ys.length : Int) = n) (hn : (ins.length : Int) = n)
    (h : ∀ i (h1 : i < ys.length) (h2 : i < ins.length), Eq3 (normT ys[i]) ins[i]) : Eq3 (threeS n gs l ys) (evalB n gs l ins) := by
  rw [threeS_in hr hl hy, evalB_in hr hl hn]
  have hlen : ys.length = ins.length := by omega
  refine Eq3.tri (vals_rel (f := gateT) (g := gateB) Eq3 0 false (fun u v x _ hh => Eq3.and (Eq3.tri hh _) (Eq3.tri hh _)) rfl gs _ _ (by simp [hlen]) fun i => ?_) l
  rw [getD_cons_map, getD_cons]
  split
  · exact rfl
  · by_cases hi : i - 1 < ys.length
    · rw [List.getElem?_eq_getElem hi, List.getElem?_eq_getElem (hlen ▸ hi)]
      exact h (i - 1) hi (hlen ▸ hi)
    · rw [List.getElem?_eq_none (by omega), List.getElem?_eq_none (by omega)]
      exact rfl
end Em

/-- Two rows that grow side by side, beside which nothing turns. -/
structure T2 (W wr : World) (e : TypeId) (vx vy : Value) (xs ys : List Value) : Prop where
  low : Below W.heap.size W wr
  ox : OwnV wr W.heap.size e vx xs
  oy : OwnV wr W.heap.size e vy ys
  sep : vx.ownBlock = none ∨ vy.ownBlock = none ∨ vx.ownBlock ≠ vy.ownBlock
section
variable {W wr w2 : World} {e : TypeId} {vx vy v' : Value} {xs ys us : List Value}
theorem T2.start (W : World) (e : TypeId) : T2 W W e (.slice none 0 0) (.slice none 0 0) [] [] := ⟨Below.refl _ _, OwnV.nil _ _ _, OwnV.nil _ _ _, Or.inl rfl⟩
theorem T2.alloc (h : T2 W wr e vx vy xs ys) (o : Obj) : T2 W (wr.alloc o) e vx vy xs ys := ⟨h.low.alloc h.low.size o, h.ox.alloc o, h.oy.alloc o, h.sep⟩
theorem T2.swap (h : T2 W wr e vx vy xs ys) : T2 W wr e vy vx ys xs := ⟨h.low, h.oy, h.ox, by rcases h.sep with h | h | h; exact Or.inr (Or.inl h); exact Or.inl h; exact Or.inr (Or.inr (Ne.symm h))⟩
theorem T2.base (h : T2 W wr e vx vy xs ys) : W.heap.size ≤ wr.heap.size := h.low.size
theorem T2.step (h : T2 W wr e vx vy xs ys) (ho : OwnV w2 W.heap.size e v' us) (hg : wr.grownBy w2 vx.ownBlock) (hv : v'.ownBlock = vx.ownBlock ∨ v'.ownBlock = some wr.heap.size) : T2 W w2 e v' vy us ys := by
  have hne : vy.ownBlock = none ∨ vy.ownBlock ≠ vx.ownBlock := by
    rcases h.sep with h | h | h
    · rw [h]; cases hy : vy.ownBlock with
      | none => exact Or.inl rfl
      | some k => exact Or.inr (by simp)
    · exact Or.inl h
    · exact Or.inr (Ne.symm h)
  refine ⟨h.low.trans (grown_low2 hg h.ox.base h.low.size), ho, World.ownsRow.kept h.oy hg hne, ?_⟩
  rcases hv with hv | hv
  · rw [hv]; exact h.sep
  · rw [hv]
    cases hy : vy.ownBlock with
    | none => exact Or.inr (Or.inl rfl)
    | some k =>
      have := (World.ownsRow.lt h.oy k hy).2
      exact Or.inr (Or.inr (by simp; omega))
end
namespace Em

/-- The values of all variables. -/
abbrev all (ins : List Bool) (gs : List (Int × Int)) : List Bool := vals gateB (false :: ins) gs
theorem all_length (ins : List Bool) (gs : List (Int × Int)) : (all ins gs).length = 1 + ins.length + gs.length := by
  rw [vals_length, List.length_cons]; omega
theorem bit_neg (v : List Bool) {l : Int} (_h : 0 ≤ l) : bitB v (Gm.negB l) = !bitB v l := by
  unfold bitB negL Gm.negB
  by_cases hl : l % 2 = 0
  · rw [if_pos hl, show (l + 1) / 2 = l / 2 by omega]
    have h1 : (l + 1) % 2 = 1 := by omega
    have h2 : ¬ l % 2 = 1 := by omega
    rw [decide_eq_true h1, decide_eq_false h2]
    cases v.getD (l / 2).toNat false <;> rfl
  · rw [if_neg hl, show (l - 1) / 2 = l / 2 by omega]
    have h1 : ¬ (l - 1) % 2 = 1 := by omega
    have h2 : l % 2 = 1 := by omega
    rw [decide_eq_false h1, decide_eq_true h2]
    cases v.getD (l / 2).toNat false <;> rfl
theorem all_head (ins : List Bool) (gs : List (Int × Int)) : (all ins gs).getD 0 false = false := by
  rw [vals_getD _ _ _ (by simp)]; rfl
theorem bit_zero (ins : List Bool) (gs : List (Int × Int)) : bitB (all ins gs) 0 = false := by
  show ((all ins gs).getD 0 false != negL 0) = false
  rw [all_head]; rfl
theorem bit_one (ins : List Bool) (gs : List (Int × Int)) : bitB (all ins gs) 1 = true := by
  show ((all ins gs).getD 0 false != negL 1) = true
  rw [all_head]; rfl
/-- A literal keeps its meaning as the graph grows. -/
theorem bit_more (ins : List Bool) (gs t : List (Int × Int)) {l : Int} (h0 : 0 ≤ l) (h : l / 2 < 1 + ins.length + gs.length) : bitB (all ins (gs ++ t)) l = bitB (all ins gs) l := by
  unfold bitB
  rw [show all ins (gs ++ t) = vals gateB (all ins gs) t from vals_append _ _ _, vals_getD _ _ _ (by rw [all_length]; omega)]
theorem gate_bits (ins : List Bool) (gs t : List (Int × Int)) {g : Int × Int} (h1 : 0 ≤ g.1) (h2 : 0 ≤ g.2) (h3 : g.1 / 2 < 1 + ins.length + gs.length) (h4 : g.2 / 2 < 1 + ins.length + gs.length) : gateB (all ins gs) g = (bitB (all ins (gs ++ t)) g.1 && bitB (all ins (gs ++ t)) g.2) := by
  rw [bit_more ins gs t h1 h3, bit_more ins gs t h2 h4]; rfl
theorem even_bit (v : List Bool) (i : Nat) : bitB v (2 * (i : Int)) = v.getD i false := by
  unfold bitB negL
  rw [show 2 * (i : Int) / 2 = (i : Int) by omega, Int.toNat_natCast, decide_eq_false (by omega)]
  cases v.getD i false <;> rfl
theorem odd_bit (v : List Bool) (i : Nat) : bitB v (2 * (i : Int) + 1) = !v.getD i false := by
  unfold bitB negL
  rw [show (2 * (i : Int) + 1) / 2 = (i : Int) by omega, Int.toNat_natCast, decide_eq_true (by omega)]
  cases v.getD i false <;> rfl
/-- The value of gate i. -/
theorem all_gate {n : Int} {ins : List Bool} {gs : List (Int × Int)} (ho : Gm.ordB n 0 gs = true) (hn : (ins.length : Int) = n) {k : Nat} (hk : k < gs.length) : (all ins gs).getD (1 + ins.length + k) false = (bitB (all ins gs) (gs[k]).1 && bitB (all ins gs) (gs[k]).2) := by
  obtain ⟨h1, h2, h3⟩ := gate_low ho hk
  have e := vals_gate (f := gateB) (false :: ins) gs false k hk
  rw [List.length_cons, Nat.add_comm ins.length 1] at e
  rw [e]
  have hl : (gs.take k).length = k := by rw [List.length_take, Nat.min_eq_left (by omega)]
  have := gate_bits ins (gs.take k) (gs.drop k) (g := gs[k]) (by omega) (by omega) (by rw [hl]; omega) (by rw [hl]; omega)
  rw [List.take_append_drop] at this
  exact this
theorem all_input (ins : List Bool) (gs : List (Int × Int)) {i : Nat} (h0 : 0 < i) (h : i ≤ ins.length) : (all ins gs).getD i false = ins.getD (i - 1) false := by
  rw [vals_getD _ _ _ (by rw [List.length_cons]; omega)]
  cases i with
  | zero => omega
  | succ i => rfl

theorem mx (v : List Bool) (a b : Int) : (bitB v (max a b) && bitB v (min a b)) = (bitB v a && bitB v b) := by
  rcases Int.le_total a b with h | h
  · rw [Int.max_eq_right h, Int.min_eq_left h, Bool.and_comm]
  · rw [Int.max_eq_left h, Int.min_eq_right h]

/-- What And makes is so just if both are. -/
theorem and_val {n : Int} {gs : List (Int × Int)} {a b : Int} {ins : List Bool} (hn : (ins.length : Int) = n) (hr : Gm.rightB n gs = true) (ha : Gm.litB n gs.length a = true) (hb : Gm.litB n gs.length b = true) (hroom : 1 + n + gs.length < 2000) :
    bitB (all ins (Gm.andS n gs a b).1.2) (Gm.andS n gs a b).2.1 = (bitB (all ins gs) a && bitB (all ins gs) b) := by
  obtain ⟨ha0, ha1⟩ := lit_facts ha
  obtain ⟨hb0, hb1⟩ := lit_facts hb
  have hg := and_good hr ha hb hroom
  rcases andS_cases n gs a b with e | ⟨_, ⟨l, hs, e⟩ | ⟨hs, hi, e⟩ | ⟨hs, hi, h2, e⟩ | ⟨hs, hi, h2, e⟩⟩
  · have := hg.err; rw [e] at this; simp [Gm.bad] at this
  · rw [e]
    simp only
    unfold Gm.simpleS at hs
    split at hs
    · rename_i h
      injection hs with hs
      subst hs
      rw [bit_zero]
      rcases h with rfl | rfl | rfl
      · rw [bit_zero]; rfl
      · rw [bit_zero, Bool.and_false]
      · rw [bit_neg _ hb0]; cases bitB (all ins gs) b <;> rfl
    · split at hs
      · rename_i h
        injection hs with hs
        subst hs h
        rw [bit_one]; rfl
      · split at hs
        · rename_i h
          injection hs with hs
          subst hs
          rcases h with rfl | rfl
          · rw [bit_one, Bool.and_true]
          · rw [Bool.and_self]
        · cases hs
  · rw [e]
    simp only
    have hk := List.getElem_idxOf hi
    have hgate := all_gate (ins := ins) (right_ord hr) hn hi
    rw [hk] at hgate
    rw [← mx (all ins gs) a b, ← hgate, ← even_bit]
    congr 1
    omega
  · omega
  · rw [e]
    simp only
    have e1 : all ins (gs ++ [(max a b, min a b)]) = all ins gs ++ [gateB (all ins gs) (max a b, min a b)] := vals_snoc _ _ _
    have e2 : bitB (all ins (gs ++ [(max a b, min a b)])) (2 * ((1 + ins.length + gs.length : Nat) : Int)) = gateB (all ins gs) (max a b, min a b) := by
      rw [even_bit, e1, List.getD_eq_getElem?_getD, List.getElem?_append_right (by rw [all_length]; omega), all_length, Nat.sub_self]
      rfl
    rw [show 2 * (1 + n + (gs.length : Int)) = 2 * ((1 + ins.length + gs.length : Nat) : Int) by omega, e2, ← mx (all ins gs) a b]
    rfl
theorem or_val {n : Int} {gs : List (Int × Int)} {a b : Int} {ins : List Bool} (hn : (ins.length : Int) = n) (hr : Gm.rightB n gs = true) (ha : Gm.litB n gs.length a = true) (hb : Gm.litB n gs.length b = true) (hroom : 1 + n + gs.length < 2000) :
    bitB (all ins (Gm.orS n gs a b).1.2) (Gm.orS n gs a b).2.1 = (bitB (all ins gs) a || bitB (all ins gs) b) := by
  obtain ⟨_, e⟩ := or_good hr ha hb hroom
  rw [e]
  simp only
  have hg := and_good hr (neg_lit ha) (neg_lit hb) hroom
  rw [bit_neg _ (lit_facts hg.lit).1, and_val hn hr (neg_lit ha) (neg_lit hb) hroom, bit_neg _ (lit_facts ha).1, bit_neg _ (lit_facts hb).1]
  cases bitB (all ins gs) a <;> cases bitB (all ins gs) b <;> rfl
theorem pre_bit {n : Int} {gs gs' : List (Int × Int)} {l : Int} {ins : List Bool} (hn : (ins.length : Int) = n) (hp : ∃ t, gs' = gs ++ t) (hl : Gm.litB n gs.length l = true) : bitB (all ins gs') l = bitB (all ins gs) l := by
  obtain ⟨t, rfl⟩ := hp
  have := lit_facts hl
  exact bit_more ins gs t this.1 (by omega)
theorem ite_val {n : Int} {gs : List (Int × Int)} {c a b : Int} {ins : List Bool} (hn : (ins.length : Int) = n) (hr : Gm.rightB n gs = true) (hc : Gm.litB n gs.length c = true) (ha : Gm.litB n gs.length a = true) (hb : Gm.litB n gs.length b = true) (hroom : 1 + n + gs.length + 2 < 2000) :
    bitB (all ins (Gm.iteS n gs c a b).1.2) (Gm.iteS n gs c a b).2.1 = if bitB (all ins gs) c then bitB (all ins gs) a else bitB (all ins gs) b := by
  have hc0 := (lit_facts hc).1
  have h1 := and_good hr hc ha (by omega)
  have v1 := and_val hn hr hc ha (by omega)
  have e := iteS_ok (n := n) (gs := gs) (a := a) (b := b) (c := c) (by omega)
  generalize Gm.andS n gs c a = r1 at *
  obtain ⟨⟨n1, gs1⟩, l1, e1⟩ := r1
  obtain ⟨he, hi, hr1, hl1, hg1, hp1⟩ := h1
  simp only at he hi hr1 hl1 hg1 hp1 v1
  subst he hi
  have hle1 := pre_len hp1
  have h2 := and_good hr1 (neg_lit (lit_more hc hle1)) (lit_more hb hle1) (by omega)
  have v2 := and_val hn hr1 (neg_lit (lit_more hc hle1)) (lit_more hb hle1) (by omega)
  simp only [↓reduceIte] at e
  generalize Gm.andS n1 gs1 (Gm.negB c) b = r2 at *
  obtain ⟨⟨n2, gs2⟩, l2, e2⟩ := r2
  obtain ⟨he, hi, hr2, hl2, hg2, hp2⟩ := h2
  simp only at he hi hr2 hl2 hg2 hp2 v2
  subst he hi
  have hle2 := pre_len hp2
  simp only [↓reduceIte] at e
  have v3 := or_val hn hr2 (lit_more hl1 hle2) hl2 (by omega)
  rw [e, v3, pre_bit hn hp2 hl1, v1, v2, bit_neg _ hc0, pre_bit hn hp1 hc, pre_bit hn hp1 hb]
  cases bitB (all ins gs) c <;> cases bitB (all ins gs) a <;> cases bitB (all ins gs) b <;> rfl
end Em
end Go.Proofs.YtdbmepndebdbpaaGreat
