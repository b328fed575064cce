/- Rows of values of one cell that the call itself makes: append; the reference's Bits. -/
import Derived.Test.YtpbbjklacgkcgaaDoorEF
namespace Go.Proofs.YtpbbjklacgkcgaaDoor
open Go.RowKit

/-- A row of values of one cell, of the call's own. -/
def OwnV (w : World) (base : Nat) (e : TypeId) (v : Value) (vs : List Value) : Prop := w.ownsRow base e 1 v vs.length vs
theorem OwnV.nil (w : World) (base : Nat) (e : TypeId) : OwnV w base e (.slice none 0 0) [] := World.ownsRow_nil w base e 1
theorem OwnV.one (w : World) (base : Nat) (e : TypeId) (x : Value) (hb : base ≤ w.heap.size) : OwnV (w.alloc (.cells #[x] e)) base e (.slice (some ⟨w.heap.size, 0, none⟩) 1 1) [x] :=
  ⟨by simp, .inr ⟨w.heap.size, 1, #[x], rfl, hb, heap_alloc_new w _, by simp, by unfold maxLen; omega, by simp, by simp⟩⟩
theorem OwnV.alloc {w : World} {base : Nat} {e : TypeId} {v : Value} {vs : List Value} (h : OwnV w base e v vs) (o : Obj) : OwnV (w.alloc o) base e v vs := World.ownsRow.alloc h o
theorem OwnV.vs {w : World} {base : Nat} {e : TypeId} {v : Value} {vs : List Value} (h : OwnV w base e v vs) : ∃ A c, v = .slice A vs.length c ∧ Vs w w.heap.size A vs := by
  obtain ⟨_, h2⟩ := h
  rcases h2 with ⟨rfl, h0⟩ | ⟨g, cap, cur, rfl, _, hh, hn, _, hs, ht⟩
  · exact ⟨none, 0, by rw [h0], fun k hk => by omega⟩
  · refine ⟨_, cap, rfl, fun k hk => ⟨g, 0, rfl, Blk.lt (t := e) hh, ?_⟩⟩
    rw [Nat.zero_add, Blk.cell (t := e) hh, ← Array.getElem?_toList, ← List.getElem?_take_of_lt (show k < vs.length * 1 by omega), ht, List.getElem?_eq_getElem hk]
theorem OwnV.below {w w' : World} {base : Nat} {e : TypeId} {v : Value} {vs : List Value} (h : OwnV w base e v vs) (hb : Below w.heap.size w w') : OwnV w' base e v vs := by
  obtain ⟨h1, h2⟩ := h
  refine ⟨h1, h2.imp id ?_⟩
  rintro ⟨g, cap, cur, e1, e2, hh, e3⟩
  exact ⟨g, cap, cur, e1, e2, (hb.block g (Blk.lt (t := e) hh)).trans hh, e3⟩
theorem OwnV.base {w : World} {base : Nat} {e : TypeId} {v : Value} {vs : List Value} (h : OwnV w base e v vs) : ∀ k, v.ownBlock = some k → base ≤ k := by
  obtain ⟨_, h2⟩ := h
  rcases h2 with ⟨rfl, _⟩ | ⟨g, cap, cur, rfl, hb, _⟩
  · intro k hk; cases hk
  · intro k hk; injection hk with hk; subst hk; exact hb
theorem grown_low2 {w w' : World} {B : Nat} {row : Option Nat} (h : w.grownBy w' row) (hg : ∀ k, row = some k → B ≤ k) (hB : B ≤ w.heap.size) : Below B w w' :=
  ⟨h.os, h.tape, h.output, h.size, fun k hk => h.block k (by omega) (fun e => by have := hg k e.symm; omega)⟩

theorem run_append_vals (w : World) (base B : Nat) (t ty e : TypeId) (i : TypeInfo) (z : Value) (bytes : Nat) (ht : Tryd.prog.underlying t = some (.slice e)) (hi : Tryd.prog.info? e = some i) (hz : i.zero = some z)
    (hsize : i.size = 1) (hby : i.bytes = bytes) (hb8 : bytes ≤ 8) (hzs : z.cells.size = 1) (v : Value) (vs us : List Value) (hown : OwnV w base e v vs) (A : Option Addr) (c : Nat) (hg : Vs w B A us) (h1 : ∀ u ∈ us, u.oneCell' = true)
    (hl : vs.length + us.length ≤ 2000000) (hbase : base ≤ w.heap.size) :
    ∃ v' w', (Builtin.append_ #[t, t] ty #[v, .slice A us.length c]).run Tryd.prog w = .ok v' w' ∧ OwnV w' base e v' (vs ++ us) ∧ w.grownBy w' v.ownBlock ∧ (v'.ownBlock = v.ownBlock ∨ v'.ownBlock = some w.heap.size) := by
  have hm : vs.length + us.length ≤ maxLen := by unfold maxLen; omega
  cases A with
  | none =>
    have h0 : us = [] := by
      cases us with
      | nil => rfl
      | cons g r =>
        obtain ⟨_, _, e, _⟩ := hg 0 (by simp)
        cases e
    subst h0
    refine ⟨v, w, ?_, by simpa using hown, World.grownBy.refl w _, Or.inl rfl⟩
    rcases hown.2 with ⟨rfl, _⟩ | ⟨g, cap, cur, rfl, _, _, hnc, _⟩
    · simp [Builtin.append_, run_underlying ht, sizeOf, typeInfo, hi, Builtin.lenOf, Builtin.firstCells]
    · simp [Builtin.append_, run_underlying ht, sizeOf, typeInfo, hi, Builtin.lenOf, Builtin.firstCells, hnc, storeCells]
  | some ad =>
    have hsrc : ∀ j u, us[j]? = some u → w.cell? (ad.add j) = some u := fun j u hj => by
      have h0 : 0 < us.length := by have := (List.getElem?_eq_some_iff.1 hj).1; omega
      obtain ⟨ad', e', h⟩ := hg.src h0
      rw [Option.some.inj e']
      exact h j u hj
    have hbb : (vs.length + us.length) * bytes ≤ 140737488355328 := by
      have h := Nat.mul_le_mul hl hb8
      have e : 2000000 * 8 = 16000000 := by simp
      rw [e] at h
      exact Nat.le_trans h (by simp)
    obtain ⟨v', w', h1, h2, h3, _, h5⟩ := run_append_own_at (P := Tryd.prog) w base t ty e i z 1 bytes ht hi hz hsize hby hzs (by omega) v vs.length vs hown ad us.length c us (by simp) hsrc h1 hm hbb hbase
    exact ⟨v', w', h1, by unfold OwnV; rw [List.length_append]; exact h2, h3, h5⟩

theorem wpList_bools {ops : Array Oper} {rest : List Oper} {o : Oper} {a : Act} {Q : Exit → Act → World → Prop} {w : World} (hgd : o.guard = none) (s x : Operand)
    (ho : o.op = .call { callee := .builtin .append, args := #[s, x], argTypes := #[25, 25] })
    (base B : Nat) (v : Value) (vs us : List Value) (hs1 : a.eval s = v) (hown : OwnV w base 4 v vs) (A : Option Addr) (n c : Nat) (hx : a.eval x = .slice A n c) (hn : n = us.length) (hg : Vs w B A us) (h1 : ∀ u ∈ us, u.oneCell' = true)
    (hl : vs.length + us.length ≤ 2000000) (hbase : base ≤ w.heap.size)
    (h : ∀ v' w', OwnV w' base 4 v' (vs ++ us) → w.grownBy w' v.ownBlock → (v'.ownBlock = v.ownBlock ∨ v'.ownBlock = some w.heap.size) → wpList Tryd.prog ops Q rest (a.put o.dst v') w') : wpList Tryd.prog ops Q (o :: rest) a w := by
  refine wpList_plain hgd fun K hK => ?_
  subst hn
  obtain ⟨v', w', hrun, h2, h3, h4⟩ := run_append_vals w base B 25 o.type 4 Tryd.t4 (.bool false) 1 Tryd.underlying25 (by kernel_rfl) (by kernel_rfl) (by kernel_rfl) (by kernel_rfl) (by omega) (by kernel_rfl) v vs us hown A c hg h1 hl hbase
  unfold Oper.wp execOp
  simp only [ho, resolve, invoke, builtin, Sem.run_bind, Sem.run_pure, Result.andThen_ok, List.map_toArray, List.map_cons, List.map_nil, hs1, hx, hrun]
  exact hK _ _ (h v' w' h2 h3 h4)
theorem wpList_ints {ops : Array Oper} {rest : List Oper} {o : Oper} {a : Act} {Q : Exit → Act → World → Prop} {w : World} (hgd : o.guard = none) (s x : Operand)
    (ho : o.op = .call { callee := .builtin .append, args := #[s, x], argTypes := #[26, 26] })
    (base B : Nat) (v : Value) (vs us : List Value) (hs1 : a.eval s = v) (hown : OwnV w base 3 v vs) (A : Option Addr) (n c : Nat) (hx : a.eval x = .slice A n c) (hn : n = us.length) (hg : Vs w B A us) (h1 : ∀ u ∈ us, u.oneCell' = true)
    (hl : vs.length + us.length ≤ 2000000) (hbase : base ≤ w.heap.size)
    (h : ∀ v' w', OwnV w' base 3 v' (vs ++ us) → w.grownBy w' v.ownBlock → (v'.ownBlock = v.ownBlock ∨ v'.ownBlock = some w.heap.size) → wpList Tryd.prog ops Q rest (a.put o.dst v') w') : wpList Tryd.prog ops Q (o :: rest) a w := by
  refine wpList_plain hgd fun K hK => ?_
  subst hn
  obtain ⟨v', w', hrun, h2, h3, h4⟩ := run_append_vals w base B 26 o.type 3 Tryd.t3 (.int .i64 0) 8 Tryd.underlying26 (by kernel_rfl) (by kernel_rfl) (by kernel_rfl) (by kernel_rfl) (by omega) (by kernel_rfl) v vs us hown A c hg h1 hl hbase
  unfold Oper.wp execOp
  simp only [ho, resolve, invoke, builtin, Sem.run_bind, Sem.run_pure, Result.andThen_ok, List.map_toArray, List.map_cons, List.map_nil, hs1, hx, hrun]
  exact hK _ _ (h v' w' h2 h3 h4)
/-- One value in a new block. -/
theorem vs_one (w : World) (e : TypeId) (x : Value) : Vs (w.alloc (.cells #[x] e)) (w.alloc (.cells #[x] e)).heap.size (some ⟨w.heap.size, 0, none⟩) [x] := (show Blk _ _ e [x].toArray from Blk.new w e #[x]).vs

theorem and_one (x : Int) (h0 : 0 ≤ x) (h1 : x ≤ 1000000) : bits .and .i64 x 1 = x % 2 := by
  obtain ⟨m, rfl⟩ := Int.eq_ofNat_of_zero_le h0
  have := and_last m 1 (by omega) (by omega)
  simpa using this
/-- The lowest bits of a number. -/
def bitsB (n : Int) (m : Nat) : List Bool := (List.range m).map fun i => (n / 2 ^ i % 2 == 1)
theorem bitsB_length (n : Int) (m : Nat) : (bitsB n m).length = m := by simp [bitsB]
theorem bitsB_succ (n : Int) (m : Nat) : bitsB n (m + 1) = bitsB n m ++ [(n / 2 ^ m % 2 == 1)] := by simp [bitsB, List.range_succ]
/-- A row that grows, beside which nothing turns. -/
structure RowInv (w wr : World) (e : TypeId) (v : Value) (vs : List Value) : Prop where
  low : Below w.heap.size w wr
  own : OwnV wr w.heap.size e v vs
theorem RowInv.size {w wr : World} {e : TypeId} {v : Value} {vs : List Value} (h : RowInv w wr e v vs) : w.heap.size ≤ wr.heap.size := h.low.size
theorem RowInv.next {w wr w2 : World} {e : TypeId} {v v' : Value} {vs us : List Value} {o : Obj} (h : RowInv w wr e v vs) (ho : OwnV w2 w.heap.size e v' us) (hg : (wr.alloc o).grownBy w2 v.ownBlock) : RowInv w w2 e v' us :=
  ⟨(h.low.alloc h.low.size o).trans (grown_low2 hg h.own.base (Nat.le_trans h.low.size (by simp))), ho⟩

set_option maxRecDepth 100000 in
set_option maxHeartbeats 4000000 in
theorem bits_any (n : Int) (m : Nat) (w : World) (hn : 0 ≤ n) (hn1 : n ≤ 1000000) (hm : m ≤ 40) :
    Calls Tryd.prog 18 #[.int .i64 n, .int .i64 m] w (BList (bitsB n m) w) := by
  go_enter Tryd.func18, Tryd.ntmps18
  go_wp2_with fail
  go_loopw [5, 6] (fun v i wr => ∃ k : Nat, k ≤ m ∧ i = .int .i64 k ∧ RowInv w wr 4 v (bv (bitsB n k))) (fun _ i _ => m - (intOf i).toNat)
  case atStart => exact ⟨0, Nat.zero_le _, rfl, Below.refl _ _, OwnV.nil _ _ _⟩
  case round =>
    obtain ⟨k, hkl, rfl, hinv⟩ := hrel
    by_cases hlt : k < m
    · have hsz := hinv.size
      have hown := hinv.own
      have hlen : (bv (bitsB n k)).length = k := by simp [bitsB_length]
      have hband := and_one (n / 2 ^ k) (Int.ediv_nonneg hn (Int.pow_nonneg (by omega))) (Int.le_trans (Int.ediv_le_self _ hn) (by omega))
      have HN := Lib.hid hlen
      have HL := Lib.hid (show (bv (bitsB n k)).length + [Value.bool (n / 2 ^ k % 2 == 1)].length ≤ 2000000 by rw [hlen]; simp; omega)
      clear hlen
      go_wp2_with (at_builtin; go_loud (refine wpList_bools rfl (.tmp 12) (.tmp 18) rfl w.heap.size _ _ (bv (bitsB n k)) [.bool (n / 2 ^ k % 2 == 1)] rfl (hown.alloc _) _ _ _ rfl rfl (vs_one _ _ _) (fun u hu => by simp at hu; subst hu; rfl) HL.out (by simp; omega) ?_); intro v' w' hown' hgr' _)
      go_roundw
      case rel => exact ⟨k + 1, by omega, by go_num, hinv.next (by rw [bitsB_succ, bv, List.map_append]; exact hown') hgr'⟩
      case measure => simp [intOf]; omega
    · have hkk : k = m := by omega
      subst hkk
      obtain ⟨A, c, rfl, hV⟩ := hinv.own.vs
      have lo := hinv.low
      go_wp2_with fail
      go_ret
      exact ⟨A, c, by simp, hV, lo⟩
theorem one_bool (b : Bool) : ∀ u ∈ [Value.bool b], u.oneCell' = true := fun u hu => by simp at hu; subst hu; rfl
theorem one_int (b : Int) : ∀ u ∈ [Value.int .i64 b], u.oneCell' = true := fun u hu => by simp at hu; subst hu; rfl
end Go.Proofs.YtpbbjklacgkcgaaDoor
