/- Slices of values of one cell, rows that the call itself makes, the Bits, All and Eval of the reference; how arguments are opened; two rows that grow side by side. -/
import Derived.Test.YtdbmepndebdbpaaGreatQae
import Derived.Deep.Slices
import Derived.Lib.SmallJoins
namespace Go.Proofs.YtdbmepndebdbpaaGreat
open Go.RowKit

/-- The slice at A, which lies below block B, holds the values vs. -/
def Vs (w : World) (B : Nat) (A : Option Addr) (vs : List Value) : Prop :=
  ∀ k (hk : k < vs.length), ∃ b off, A = some ⟨b, off, none⟩ ∧ b < B ∧ w.cell? ⟨b, off + k, none⟩ = some vs[k]
theorem Vs.keep {w w' : World} {B : Nat} {A : Option Addr} {vs : List Value} (h : Vs w B A vs) (hk : ∀ p : Addr, p.block < B → w'.cell? p = w.cell? p) : Vs w' B A vs := by
  intro k hlt
  obtain ⟨b, off, rfl, hb, h1⟩ := h k hlt
  exact ⟨b, off, rfl, hb, (hk ⟨b, _, none⟩ hb).trans h1⟩
theorem Vs.below {w w' : World} {B C : Nat} {A : Option Addr} {vs : List Value} (h : Vs w B A vs) (hb : Below C w w') (hB : B ≤ C) : Vs w' B A vs :=
  h.keep fun _ hp => hb.cell (Nat.lt_of_lt_of_le hp hB)
theorem Vs.more {w : World} {B C : Nat} {A : Option Addr} {vs : List Value} (h : Vs w B A vs) (hB : B ≤ C) : Vs w C A vs := by
  intro k hlt
  obtain ⟨b, off, rfl, hb, h1⟩ := h k hlt
  exact ⟨b, off, rfl, Nat.lt_of_lt_of_le hb hB, h1⟩
theorem Vs.far {w : World} {B : Nat} {A : Option Addr} {vs : List Value} (h : Vs w B A vs) {p : Addr} (hp : B ≤ p.block) (u : Value) : Vs (w.setCell p u) B A vs :=
  h.keep fun q hq => World.cell?_setCell_other w p q u (fun e => by subst e; omega)
theorem Vs.drewN {w : World} {B : Nat} {A : Option Addr} {vs : List Value} (h : Vs w B A vs) (n : Nat) : Vs (w.drewN n) B A vs := h
theorem Vs.drew {w : World} {B : Nat} {A : Option Addr} {vs : List Value} (h : Vs w B A vs) : Vs w.drew B A vs := h
abbrev bv (bs : List Bool) : List Value := bs.map .bool
abbrev iv (zs : List Int) : List Value := zs.map (.int .i64)
theorem Vs.bool {w : World} {B : Nat} {A : Option Addr} {bs : List Bool} (h : Vs w B A (bv bs)) (k : Nat) (hk : k < bs.length) : ∃ b off, A = some ⟨b, off, none⟩ ∧ b < B ∧ w.cell? ⟨b, off + k, none⟩ = some (.bool (bs.getD k false)) := by
  obtain ⟨b, off, e, hb, h1⟩ := h k (by simpa using hk)
  refine ⟨b, off, e, hb, h1.trans ?_⟩
  simp [List.getD_eq_getElem?_getD, List.getElem?_eq_getElem hk]
theorem Vs.int {w : World} {B : Nat} {A : Option Addr} {zs : List Int} (h : Vs w B A (iv zs)) (k : Nat) (hk : k < zs.length) : ∃ b off, A = some ⟨b, off, none⟩ ∧ b < B ∧ w.cell? ⟨b, off + k, none⟩ = some (.int .i64 (zs.getD k 0)) := by
  obtain ⟨b, off, e, hb, h1⟩ := h k (by simpa using hk)
  refine ⟨b, off, e, hb, h1.trans ?_⟩
  simp [List.getD_eq_getElem?_getD, List.getElem?_eq_getElem hk]
theorem ixB (sb off N c r : Nat) (_hm : N ≤ 1000000) (hr : r < N) (w : World) : (Instr.indexAt 66 (.slice (some ⟨sb, off, none⟩) N c) (.int .i64 (r : Int))).run Tryz.prog w = .ok (.pointer (some ⟨sb, off + r, none⟩)) w := by go_simp
theorem ixI (sb off N c r : Nat) (_hm : N ≤ 1000000) (hr : r < N) (w : World) : (Instr.indexAt 25 (.slice (some ⟨sb, off, none⟩) N c) (.int .i64 (r : Int))).run Tryz.prog w = .ok (.pointer (some ⟨sb, off + r, none⟩)) w := by go_simp

theorem mod_two {l : Int} (_h : 0 ≤ l) : decide (l % 2 = 1) = Em.negL l := rfl
theorem Vs.src {w : World} {B : Nat} {A : Option Addr} {vs : List Value} (h : Vs w B A vs) (h0 : 0 < vs.length) : ∃ ad, A = some ad ∧ ∀ j v, vs[j]? = some v → w.cell? (ad.add j) = some v := by
  obtain ⟨b, off, rfl, _⟩ := h 0 h0
  refine ⟨_, rfl, fun j v hj => ?_⟩
  obtain ⟨hlt, e⟩ := List.getElem?_eq_some_iff.1 hj
  obtain ⟨b', off', e', _, h1⟩ := h j hlt
  injection e' with e'
  injection e' with e1 e2
  subst e1 e2 e
  have ha : (⟨b, off, none⟩ : Addr).add j = ⟨b, off + j, none⟩ := by simp [Addr.add]
  rw [ha]
  exact h1
theorem bv_one (bs : List Bool) : ∀ v ∈ bv bs, v.oneCell' = true := by
  intro v hv
  obtain ⟨b, _, rfl⟩ := List.mem_map.1 hv
  rfl
theorem iv_one (zs : List Int) : ∀ v ∈ iv zs, v.oneCell' = true := by
  intro v hv
  obtain ⟨b, _, rfl⟩ := List.mem_map.1 hv
  rfl
theorem Blk.vs {w : World} {g : Nat} {t : TypeId} {vs : List Value} (h : Blk w g t vs.toArray) : Vs w w.heap.size (some ⟨g, 0, none⟩) vs := by
  intro k hk
  refine ⟨g, 0, rfl, h.lt, ?_⟩
  rw [Nat.zero_add, h.cell k, List.getElem?_toArray, List.getElem?_eq_getElem hk]
/-- A list of bools, as a call answers it. -/
def BList (bs : List Bool) (w : World) (e : Ending) (w' : World) : Prop :=
  ∃ A c, e = .returned (.slice A bs.length c) ∧ Vs w' w'.heap.size A (bv bs) ∧ Below w.heap.size w w'
theorem vs_nil {w : World} {B : Nat} {A : Option Addr} : Vs w B A [] := fun k hk => by simp at hk
/-- A row of values of one cell, of the call's own. -/
def OwnV (w : World) (base : Nat) (e : TypeId) (v : Value) (vs : List Value) : Prop := w.ownsRow base e 1 v vs.length vs
theorem OwnV.nil (w : World) (base : Nat) (e : TypeId) : OwnV w base e (.slice none 0 0) [] := World.ownsRow_nil w base e 1
theorem OwnV.one (w : World) (base : Nat) (e : TypeId) (x : Value) (hb : base ≤ w.heap.size) : OwnV (w.alloc (.cells #[x] e)) base e (.slice (some ⟨w.heap.size, 0, none⟩) 1 1) [x] :=
  ⟨by simp, .inr ⟨w.heap.size, 1, #[x], rfl, hb, heap_alloc_new w _, by simp, by unfold maxLen; omega, by simp, by simp⟩⟩
theorem OwnV.alloc {w : World} {base : Nat} {e : TypeId} {v : Value} {vs : List Value} (h : OwnV w base e v vs) (o : Obj) : OwnV (w.alloc o) base e v vs := World.ownsRow.alloc h o
theorem OwnV.vs {w : World} {base : Nat} {e : TypeId} {v : Value} {vs : List Value} (h : OwnV w base e v vs) : ∃ A c, v = .slice A vs.length c ∧ Vs w w.heap.size A vs := by
  obtain ⟨_, h2⟩ := h
  rcases h2 with ⟨rfl, h0⟩ | ⟨g, cap, cur, rfl, _, hh, hn, _, hs, ht⟩
  · exact ⟨none, 0, by rw [h0], fun k hk => by omega⟩
  · refine ⟨_, cap, rfl, fun k hk => ⟨g, 0, rfl, Blk.lt (t := e) hh, ?_⟩⟩
    rw [Nat.zero_add, Blk.cell (t := e) hh, ← Array.getElem?_toList, ← List.getElem?_take_of_lt (show k < vs.length * 1 by omega), ht, List.getElem?_eq_getElem hk]
theorem OwnV.below {w w' : World} {base : Nat} {e : TypeId} {v : Value} {vs : List Value} (h : OwnV w base e v vs) (hb : Below w.heap.size w w') : OwnV w' base e v vs := by
  obtain ⟨h1, h2⟩ := h
  refine ⟨h1, h2.imp id ?_⟩
  rintro ⟨g, cap, cur, e1, e2, hh, e3⟩
  exact ⟨g, cap, cur, e1, e2, (hb.block g (Blk.lt (t := e) hh)).trans hh, e3⟩
theorem OwnV.base {w : World} {base : Nat} {e : TypeId} {v : Value} {vs : List Value} (h : OwnV w base e v vs) : ∀ k, v.ownBlock = some k → base ≤ k := by
  obtain ⟨_, h2⟩ := h
  rcases h2 with ⟨rfl, _⟩ | ⟨g, cap, cur, rfl, hb, _⟩
  · intro k hk; cases hk
  · intro k hk; injection hk with hk; subst hk; exact hb
theorem grown_low2 {w w' : World} {B : Nat} {row : Option Nat} (h : w.grownBy w' row) (hg : ∀ k, row = some k → B ≤ k) (hB : B ≤ w.heap.size) : Below B w w' :=
  ⟨h.os, h.tape, h.output, h.size, fun k hk => h.block k (by omega) (fun e => by have := hg k e.symm; omega)⟩

theorem run_append_vals (w : World) (base B : Nat) (t ty e : TypeId) (i : TypeInfo) (z : Value) (bytes : Nat) (ht : Tryz.prog.underlying t = some (.slice e)) (hi : Tryz.prog.info? e = some i) (hz : i.zero = some z)
    (hsize : i.size = 1) (hby : i.bytes = bytes) (hb8 : bytes ≤ 8) (hzs : z.cells.size = 1) (v : Value) (vs us : List Value) (hown : OwnV w base e v vs) (A : Option Addr) (c : Nat) (hg : Vs w B A us) (h1 : ∀ u ∈ us, u.oneCell' = true)
    (hl : vs.length + us.length ≤ 2000000) (hbase : base ≤ w.heap.size) :
    ∃ v' w', (Builtin.append_ #[t, t] ty #[v, .slice A us.length c]).run Tryz.prog w = .ok v' w' ∧ OwnV w' base e v' (vs ++ us) ∧ w.grownBy w' v.ownBlock ∧ (v'.ownBlock = v.ownBlock ∨ v'.ownBlock = some w.heap.size) := by
  have hm : vs.length + us.length ≤ maxLen := by unfold maxLen; omega
  cases A with
  | none =>
    have h0 : us = [] := by
      cases us with
      | nil => rfl
      | cons g r =>
        obtain ⟨_, _, e, _⟩ := hg 0 (by simp)
        cases e
    subst h0
    refine ⟨v, w, ?_, by simpa using hown, World.grownBy.refl w _, Or.inl rfl⟩
    rcases hown.2 with ⟨rfl, _⟩ | ⟨g, cap, cur, rfl, _, _, hnc, _⟩
    · simp [Builtin.append_, run_underlying ht, sizeOf, typeInfo, hi, Builtin.lenOf, Builtin.firstCells]
    · simp [Builtin.append_, run_underlying ht, sizeOf, typeInfo, hi, Builtin.lenOf, Builtin.firstCells, hnc, storeCells]
  | some ad =>
    have hsrc : ∀ j u, us[j]? = some u → w.cell? (ad.add j) = some u := fun j u hj => by
      have h0 : 0 < us.length := by have := (List.getElem?_eq_some_iff.1 hj).1; omega
      obtain ⟨ad', e', h⟩ := hg.src h0
      rw [Option.some.inj e']
      exact h j u hj
    have hbb : (vs.length + us.length) * bytes ≤ 140737488355328 := by
      have h := Nat.mul_le_mul hl hb8
      have e : 2000000 * 8 = 16000000 := by simp
      rw [e] at h
      exact Nat.le_trans h (by simp)
    obtain ⟨v', w', h1, h2, h3, _, h5⟩ := run_append_own_at (P := Tryz.prog) w base t ty e i z 1 bytes ht hi hz hsize hby hzs (by omega) v vs.length vs hown ad us.length c us (by simp) hsrc h1 hm hbb hbase
    exact ⟨v', w', h1, by unfold OwnV; rw [List.length_append]; exact h2, h3, h5⟩

theorem wpList_bools {ops : Array Oper} {rest : List Oper} {o : Oper} {a : Act} {Q : Exit → Act → World → Prop} {w : World} (hgd : o.guard = none) (s x : Operand)
    (ho : o.op = .call { callee := .builtin .append, args := #[s, x], argTypes := #[66, 66] })
    (base B : Nat) (v : Value) (vs us : List Value) (hs1 : a.eval s = v) (hown : OwnV w base 4 v vs) (A : Option Addr) (n c : Nat) (hx : a.eval x = .slice A n c) (hn : n = us.length) (hg : Vs w B A us) (h1 : ∀ u ∈ us, u.oneCell' = true)
    (hl : vs.length + us.length ≤ 2000000) (hbase : base ≤ w.heap.size)
    (h : ∀ v' w', OwnV w' base 4 v' (vs ++ us) → w.grownBy w' v.ownBlock → (v'.ownBlock = v.ownBlock ∨ v'.ownBlock = some w.heap.size) → wpList Tryz.prog ops Q rest (a.put o.dst v') w') : wpList Tryz.prog ops Q (o :: rest) a w := by
  refine wpList_plain hgd fun K hK => ?_
  subst hn
  obtain ⟨v', w', hrun, h2, h3, h4⟩ := run_append_vals w base B 66 o.type 4 Tryz.t4 (.bool false) 1 Tryz.underlying66 (by kernel_rfl) (by kernel_rfl) (by kernel_rfl) (by kernel_rfl) (by omega) (by kernel_rfl) v vs us hown A c hg h1 hl hbase
  unfold Oper.wp execOp
  simp only [ho, resolve, invoke, builtin, Sem.run_bind, Sem.run_pure, Result.andThen_ok, List.map_toArray, List.map_cons, List.map_nil, hs1, hx, hrun]
  exact hK _ _ (h v' w' h2 h3 h4)
theorem wpList_ints {ops : Array Oper} {rest : List Oper} {o : Oper} {a : Act} {Q : Exit → Act → World → Prop} {w : World} (hgd : o.guard = none) (s x : Operand)
    (ho : o.op = .call { callee := .builtin .append, args := #[s, x], argTypes := #[25, 25] })
    (base B : Nat) (v : Value) (vs us : List Value) (hs1 : a.eval s = v) (hown : OwnV w base 3 v vs) (A : Option Addr) (n c : Nat) (hx : a.eval x = .slice A n c) (hn : n = us.length) (hg : Vs w B A us) (h1 : ∀ u ∈ us, u.oneCell' = true)
    (hl : vs.length + us.length ≤ 2000000) (hbase : base ≤ w.heap.size)
    (h : ∀ v' w', OwnV w' base 3 v' (vs ++ us) → w.grownBy w' v.ownBlock → (v'.ownBlock = v.ownBlock ∨ v'.ownBlock = some w.heap.size) → wpList Tryz.prog ops Q rest (a.put o.dst v') w') : wpList Tryz.prog ops Q (o :: rest) a w := by
  refine wpList_plain hgd fun K hK => ?_
  subst hn
  obtain ⟨v', w', hrun, h2, h3, h4⟩ := run_append_vals w base B 25 o.type 3 Tryz.t3 (.int .i64 0) 8 Tryz.underlying25 (by kernel_rfl) (by kernel_rfl) (by kernel_rfl) (by kernel_rfl) (by omega) (by kernel_rfl) v vs us hown A c hg h1 hl hbase
  unfold Oper.wp execOp
  simp only [ho, resolve, invoke, builtin, Sem.run_bind, Sem.run_pure, Result.andThen_ok, List.map_toArray, List.map_cons, List.map_nil, hs1, hx, hrun]
  exact hK _ _ (h v' w' h2 h3 h4)
/-- One value in a new block. -/
theorem vs_one (w : World) (e : TypeId) (x : Value) : Vs (w.alloc (.cells #[x] e)) (w.alloc (.cells #[x] e)).heap.size (some ⟨w.heap.size, 0, none⟩) [x] := (show Blk _ _ e [x].toArray from Blk.new w e #[x]).vs

theorem and_one (x : Int) (h0 : 0 ≤ x) (h1 : x ≤ 1000000) : bits .and .i64 x 1 = x % 2 := by
  obtain ⟨m, rfl⟩ := Int.eq_ofNat_of_zero_le h0
  have := and_last m 1 (by omega) (by omega)
  simpa using this
/-- The lowest bits of a number. -/
def bitsB (n : Int) (m : Nat) : List Bool := (List.range m).map fun i => (n / 2 ^ i % 2 == 1)
theorem bitsB_length (n : Int) (m : Nat) : (bitsB n m).length = m := by simp [bitsB]
theorem bitsB_succ (n : Int) (m : Nat) : bitsB n (m + 1) = bitsB n m ++ [(n / 2 ^ m % 2 == 1)] := by simp [bitsB, List.range_succ]
/-- A row that grows, beside which nothing turns. -/
structure RowInv (w wr : World) (e : TypeId) (v : Value) (vs : List Value) : Prop where
  low : Below w.heap.size w wr
  own : OwnV wr w.heap.size e v vs
theorem RowInv.size {w wr : World} {e : TypeId} {v : Value} {vs : List Value} (h : RowInv w wr e v vs) : w.heap.size ≤ wr.heap.size := h.low.size
theorem RowInv.next {w wr w2 : World} {e : TypeId} {v v' : Value} {vs us : List Value} {o : Obj} (h : RowInv w wr e v vs) (ho : OwnV w2 w.heap.size e v' us) (hg : (wr.alloc o).grownBy w2 v.ownBlock) : RowInv w w2 e v' us :=
  ⟨(h.low.alloc h.low.size o).trans (grown_low2 hg h.own.base (Nat.le_trans h.low.size (by simp))), ho⟩

set_option maxRecDepth 100000 in
set_option maxHeartbeats 4000000 in
theorem bits_any (n : Int) (m : Nat) (w : World) (hn : 0 ≤ n) (hn1 : n ≤ 1000000) (hm : m ≤ 40) :
    Calls Tryz.prog 42 #[.int .i64 n, .int .i64 m] w (BList (bitsB n m) w) := by
  go_enter Tryz.func42, Tryz.ntmps42
  go_wp2_with fail
  go_loopw [5, 6] (fun v i wr => ∃ k : Nat, k ≤ m ∧ i = .int .i64 k ∧ RowInv w wr 4 v (bv (bitsB n k))) (fun _ i _ => m - (intOf i).toNat)
  case atStart => exact ⟨0, Nat.zero_le _, rfl, Below.refl _ _, OwnV.nil _ _ _⟩
  case round =>
    obtain ⟨k, hkl, rfl, hinv⟩ := hrel
    by_cases hlt : k < m
    · have hsz := hinv.size
      have hown := hinv.own
      have hlen : (bv (bitsB n k)).length = k := by simp [bitsB_length]
      have hband := and_one (n / 2 ^ k) (Int.ediv_nonneg hn (Int.pow_nonneg (by omega))) (Int.le_trans (Int.ediv_le_self _ hn) (by omega))
      have HN := Lib.hid hlen
      have HL := Lib.hid (show (bv (bitsB n k)).length + [Value.bool (n / 2 ^ k % 2 == 1)].length ≤ 2000000 by rw [hlen]; simp; omega)
      clear hlen
      go_wp2_with (at_builtin; go_loud (refine wpList_bools rfl (.tmp 12) (.tmp 18) rfl w.heap.size _ _ (bv (bitsB n k)) [.bool (n / 2 ^ k % 2 == 1)] rfl (hown.alloc _) _ _ _ rfl rfl (vs_one _ _ _) (fun u hu => by simp at hu; subst hu; rfl) HL.out (by simp; omega) ?_); intro v' w' hown' hgr' _)
      go_roundw
      case rel => exact ⟨k + 1, by omega, by go_num, hinv.next (by rw [bitsB_succ, bv, List.map_append]; exact hown') hgr'⟩
      case measure => simp [intOf]; omega
    · have hkk : k = m := by omega
      subst hkk
      obtain ⟨A, c, rfl, hV⟩ := hinv.own.vs
      have lo := hinv.low
      go_wp2_with fail
      go_ret
      exact ⟨A, c, by simp, hV, lo⟩
theorem one_bool (b : Bool) : ∀ u ∈ [Value.bool b], u.oneCell' = true := fun u hu => by simp at hu; subst hu; rfl
theorem one_int (b : Int) : ∀ u ∈ [Value.int .i64 b], u.oneCell' = true := fun u hu => by simp at hu; subst hu; rfl
set_option maxHeartbeats 2000000 in
theorem bit_any (A : Option Addr) (c : Nat) (bs : List Bool) (l : Int) (w : World) (B : Nat) (hV : Vs w B A (bv bs)) (h0 : 0 ≤ l) (h1 : (l / 2).toNat < bs.length) (hm : bs.length ≤ 1000000) :
    Calls Tryz.prog 61 #[.slice A bs.length c, .int .i64 l] w fun e w' => e = .returned (.bool (Em.bitB bs l)) ∧ w' = w := by
  obtain ⟨b, off, rfl, _, hc⟩ := hV.bool _ h1
  have hq : l / 2 = ((l / 2).toNat : Int) := by omega
  unfold Em.bitB
  generalize bs.getD (l / 2).toNat false = x at *
  generalize (l / 2).toNat = r at *
  have hix := ixB b off bs.length c r hm h1
  go_enter Tryz.func61, Tryz.ntmps61
  go_wp2
  go_ret
  exact ⟨rfl, rfl⟩

/-- A graph in its box, and a row that grows. -/
structure RG (w wr : World) (n : Int) (s : Value) (e : TypeId) (v : Value) (vs : List Value) : Prop where
  low : Below w.heap.size w wr
  d0 : wr.cell? ⟨w.heap.size, 0, none⟩ = some (.int .i64 n)
  d1 : wr.cell? ⟨w.heap.size, 1, none⟩ = some s
  sz : w.heap.size < wr.heap.size
  own : OwnV wr (w.heap.size + 1) e v vs
section
variable {w wr w2 : World} {n : Int} {s : Value} {e : TypeId} {v v' : Value} {vs us : List Value}
theorem RG.below (h : RG w wr n s e v vs) (hb : Below wr.heap.size wr w2) : RG w w2 n s e v vs :=
  ⟨h.low.trans (hb.mono h.low.size), (hb.cell (p := ⟨w.heap.size, 0, none⟩) h.sz).trans h.d0, (hb.cell (p := ⟨w.heap.size, 1, none⟩) h.sz).trans h.d1, Nat.lt_of_lt_of_le h.sz hb.size, h.own.below hb⟩
theorem RG.alloc (h : RG w wr n s e v vs) (o : Obj) : RG w (wr.alloc o) n s e v vs := h.below ((Below.refl _ _).alloc (Nat.le_refl _) o)
theorem RG.drewN (h : RG w wr n s e v vs) (m : Nat) : RG w (wr.drewN m) n s e v vs := h.below (below_drewN (Below.refl _ _) _)
theorem RG.step (h : RG w wr n s e v vs) (ho : OwnV w2 (w.heap.size + 1) e v' us) (hg : wr.grownBy w2 v.ownBlock) : RG w w2 n s e v' us := by
  have hb : Below (w.heap.size + 1) wr w2 := grown_low2 hg h.own.base h.sz
  exact ⟨h.low.trans (hb.mono (Nat.le_succ _)), (hb.cell (p := ⟨w.heap.size, 0, none⟩) (Nat.lt_succ_self _)).trans h.d0, (hb.cell (p := ⟨w.heap.size, 1, none⟩) (Nat.lt_succ_self _)).trans h.d1, Nat.lt_of_lt_of_le h.sz hb.size, ho⟩
theorem RG.base (h : RG w wr n s e v vs) : w.heap.size + 1 ≤ wr.heap.size := h.sz
theorem RG.swap (h : RG w wr n s e v vs) (ho : OwnV wr (w.heap.size + 1) e v' us) : RG w wr n s e v' us := ⟨h.low, h.d0, h.d1, h.sz, ho⟩
end
theorem allB_no1 {n : Int} {gs : List (Int × Int)} {ins : List Bool} (h : Gm.rightB n gs = false) : Em.allB n gs ins = [] := by
  unfold Em.allB; rw [if_neg]; rintro ⟨h1, _⟩; rw [h] at h1; cases h1
theorem allB_no2 {n : Int} {gs : List (Int × Int)} {ins : List Bool} (h : ¬ (ins.length : Int) = n) : Em.allB n gs ins = [] := by
  unfold Em.allB; rw [if_neg]; rintro ⟨_, h2⟩; exact h h2

set_option maxRecDepth 100000 in
set_option maxHeartbeats 8000000 in
theorem refAll_any (n : Int) (A : Option Addr) (c : Nat) (gs : List (Int × Int)) (A2 : Option Addr) (c2 : Nat) (ins : List Bool) (w : World) (hl : gs.length ≤ 100000) (hi : ins.length ≤ 100000) (hg : Gr w w.heap.size A gs) (hw : Wf gs) (hV : Vs w w.heap.size A2 (bv ins)) :
    Calls Tryz.prog 60 #[.agg #[.int .i64 n, .slice A gs.length c], .slice A2 ins.length c2] w (BList (Em.allB n gs ins) w) := by
  have g0 := GX.new (n := n) (c := c) (l := gs.length) hg 41
  have lo : Below w.heap.size w (w.alloc (Obj.cells #[.int .i64 n, .slice A gs.length c] 41)) := (Below.refl _ _).alloc (Nat.le_refl _) _
  have HR := Lib.hid (refRight_any n A c gs _ _ (by omega) g0.gr (Nat.le_refl _) hw)
  have hnot : ∀ (x : Bool) (w : World), (Op.unary .not (.bool x)).run Tryz.prog w = .ok (.bool (!x)) w := fun _ _ => rfl
  cases hrb : Gm.rightB n gs with
  | false =>
    rw [allB_no1 hrb]
    rw [hrb] at HR
    clear hrb g0
    go_enter Tryz.func60, Tryz.ntmps60
    go_wp2_with (go_at_call 29; refine HR.out.mono ?_; rintro e w1 ⟨rfl, hb1⟩)
    go_ret
    exact ⟨none, 0, rfl, vs_nil, lo.trans (hb1.mono lo.size)⟩
  | true =>
    by_cases hn : (ins.length : Int) = n
    · have he : Em.allB n gs ins = Em.vals Em.gateB (false :: ins) gs := by unfold Em.allB; rw [if_pos ⟨hrb, hn⟩]
      rw [he]
      rw [hrb] at HR
      have HO := Lib.hid (Em.right_ord hrb)
      have hrf := right_facts hrb
      have hgl : gs.length ≤ 2000 := by omega
      have hil : ins.length ≤ 2000 := by omega
      have hn0 := hrf.1
      have HQ := Lib.hid hn
      clear hrb he hrf
      go_enter Tryz.func60, Tryz.ntmps60
      go_wp2_with fail
      refine HR.out.mono ?_
      rintro e w1 ⟨rfl, hb1⟩
      replace g0 := g0.below hb1
      replace lo := lo.trans (hb1.mono lo.size)
      have k0 := g0.c0
      have k1 := g0.c1
      have hV1 := hV.below lo (Nat.le_refl _)
      clear HR hb1
      go_upto_region 3 with fail
      have R0 : RG w w1 n (.slice A gs.length c) 4 (.slice none 0 0) [] := ⟨lo, k0, k1, g0.lt, OwnV.nil _ _ _⟩
      have R1 := (R0.alloc (Obj.cells #[.bool false] 4)).swap (OwnV.one w1 _ 4 (.bool false) g0.lt)
      have hV2 : Vs (w1.alloc (Obj.cells #[.bool false] 4)) w.heap.size A2 (bv ins) := hV1.below ((Below.refl w.heap.size w1).alloc (Nat.le_trans lo.size (Nat.le_refl _)) _) (Nat.le_refl _)
      have hL : [Value.bool false].length + (bv ins).length ≤ 2000000 := by simp; omega
      have HL := Lib.hid hL
      have HI := Lib.hid (show ins.length = (bv ins).length by simp)
      clear R0 hV1 hL k0 k1
      go_wp2_with (at_builtin; go_loud (refine wpList_bools rfl (.tmp 17) (.tmp 18) rfl (w.heap.size + 1) _ _ _ (bv ins) rfl R1.own _ _ _ rfl HI.out hV2 (bv_one ins) HL.out R1.base ?_); intro v' w' hown' hgr' _)
      have R2 := R1.step hown' hgr'
      clear R1 hown' hgr' hV2 HL
      go_loopw [5, 6] (fun v i wr => ∃ k : Nat, k ≤ gs.length ∧ i = .int .i64 k ∧ RG w wr n (.slice A gs.length c) 4 v (bv (Em.vals Em.gateB (false :: ins) (gs.take k)))) (fun _ i _ => gs.length - (intOf i).toNat)
      case atStart => exact ⟨0, Nat.zero_le _, rfl, R2⟩
      case round =>
        obtain ⟨k, hkl, rfl, R⟩ := hrel
        obtain ⟨A', c', hv, hV'⟩ := R.own.vs
        have k0 := R.d0
        have k1 := R.d1
        by_cases hlt : k < gs.length
        · obtain ⟨b, off, hA, hbw, g1, g2⟩ := (hg.below R.low (Nat.le_refl _)) k hlt
          subst hA
          have hlow := Em.gate_low HO.out hlt
          have hstep := Lib.hid (Em.vals_take (f := Em.gateB) (false :: ins) gs k hlt)
          have hvl : (Em.vals Em.gateB (false :: ins) (gs.take k)).length = 1 + ins.length + k := by rw [Em.vals_length, List.length_take, Nat.min_eq_left (by omega), List.length_cons]; omega
          generalize Em.vals Em.gateB (false :: ins) (gs.take k) = bs at *
          generalize gs[k] = g at *
          obtain ⟨x, y⟩ := g
          simp only at g1 g2 hlow
          rw [List.length_map] at hv
          subst hv
          have h1 := Lib.hid (bit_any A' c' bs x wr _ hV' (by omega) (by omega) (by omega))
          have h2 := Lib.hid (bit_any A' c' bs y wr _ hV' (by omega) (by omega) (by omega))
          have HG := Lib.hid (show Em.gateB bs (x, y) = (Em.bitB bs x && Em.bitB bs y) from rfl)
          generalize Em.gateB bs (x, y) = r at *
          generalize Em.bitB bs x = p at *
          generalize Em.bitB bs y = q at *
          have hL : (bv bs).length + [Value.bool r].length ≤ 2000000 := by simp; omega
          have HL := Lib.hid hL
          clear hL hvl
          cases p with
          | false =>
            rw [Bool.false_and] at HG
            obtain rfl := HG.out
            go_wp2_with (first | (go_at_call 61; refine h1.out.mono ?_; rintro e w3 ⟨rfl, rfl⟩) | (at_builtin; go_loud (refine wpList_bools rfl (.tmp 27) (.tmp 46) rfl (w.heap.size + 1) _ _ (bv bs) [.bool false] rfl (R.own.alloc _) _ _ _ rfl rfl (vs_one _ _ _) (one_bool _) HL.out (R.alloc _).base ?_); intro v' w' hown' hgr' _))
            go_roundw
            case rel => exact ⟨k + 1, by omega, by go_num, by rw [hstep.out, bv, List.map_append]; exact (R.alloc _).step hown' hgr'⟩
            case measure => simp [intOf]; omega
          | true =>
            rw [Bool.true_and] at HG
            obtain rfl := HG.out
            go_wp2_with (first | (go_at_call_of 61 x; refine h1.out.mono ?_; rintro e w3 ⟨rfl, rfl⟩) | (go_at_call_of 61 y; refine h2.out.mono ?_; rintro e w4 ⟨rfl, rfl⟩) | (at_builtin; go_loud (refine wpList_bools rfl (.tmp 27) (.tmp 46) rfl (w.heap.size + 1) _ _ (bv bs) [.bool r] rfl (R.own.alloc _) _ _ _ rfl rfl (vs_one _ _ _) (one_bool _) HL.out (R.alloc _).base ?_); intro v' w' hown' hgr' _))
            go_roundw
            case rel => exact ⟨k + 1, by omega, by go_num, by rw [hstep.out, bv, List.map_append]; exact (R.alloc _).step hown' hgr'⟩
            case measure => simp [intOf]; omega
        · have hkk : k = gs.length := by omega
          subst hkk
          rw [List.take_length] at *
          subst hv
          have lo3 := R.low
          go_wp2_with fail
          go_ret
          exact ⟨A', c', by simp, hV', lo3⟩
    · rw [allB_no2 hn]
      rw [hrb] at HR
      have hne : ((ins.length : Int) != n) = true := by simpa using hn
      clear hrb
      go_enter Tryz.func60, Tryz.ntmps60
      go_wp2_with fail
      refine HR.out.mono ?_
      rintro e w1 ⟨rfl, hb1⟩
      replace g0 := g0.below hb1
      have k0 := g0.c0
      have k1 := g0.c1
      go_wp2_with fail
      go_ret
      exact ⟨none, 0, rfl, vs_nil, lo.trans (hb1.mono lo.size)⟩

set_option maxRecDepth 100000 in
set_option maxHeartbeats 4000000 in
theorem refEval_any (n : Int) (A : Option Addr) (c : Nat) (gs : List (Int × Int)) (l : Int) (A2 : Option Addr) (c2 : Nat) (ins : List Bool) (w : World) (hl : gs.length ≤ 100000) (hi : ins.length ≤ 100000) (hg : Gr w w.heap.size A gs) (hw : Wf gs) (hV : Vs w w.heap.size A2 (bv ins)) (hx : l ≤ 9223372036854775807) :
    Calls Tryz.prog 41 #[.agg #[.int .i64 n, .slice A gs.length c], .int .i64 l, .slice A2 ins.length c2] w fun e w' => e = .returned (.bool (Em.evalB n gs l ins)) ∧ Below w.heap.size w w' := by
  have g0 := GX.new (n := n) (c := c) (l := gs.length) hg 41
  have lo : Below w.heap.size w (w.alloc (Obj.cells #[.int .i64 n, .slice A gs.length c] 41)) := (Below.refl _ _).alloc (Nat.le_refl _) _
  have HV := (hV.below lo (Nat.le_refl _)).more lo.size
  have HA := Lib.hid (refAll_any n A c gs A2 c2 ins _ hl hi g0.gr hw HV)
  have HL := Lib.hid (fun w => refLit_any n A gs.length c l w (by omega) hx)
  have HLF := Lib.hid (fun h => lit_facts (n := n) (l := gs.length) (x := l) h)
  have HN : Hid ((Em.allB n gs ins) = [] ∨ 0 ≤ n ∧ ((Em.allB n gs ins).length : Int) = 1 + n + gs.length ∧ (Em.allB n gs ins).length ≤ 1000000) := by
    unfold Hid Em.allB
    split
    · rename_i h
      right
      have := right_facts h.1
      rw [Em.vals_length, List.length_cons]
      omega
    · exact Or.inl rfl
  unfold Em.evalB
  generalize Em.allB n gs ins = v at *
  generalize Gm.litB n gs.length l = b at *
  clear HV hx
  obtain ⟨z, hz⟩ : ∃ z, z = (decide (0 < v.length) && b && Em.bitB v l) := ⟨_, rfl⟩
  rw [← hz]
  have HZ := Lib.hid hz
  clear hz
  go_enter Tryz.func41, Tryz.ntmps41
  go_wp2_with fail
  refine HA.out.mono ?_
  rintro e w1 ⟨A', c', rfl, hV1, hb1⟩
  replace g0 := g0.below hb1
  replace lo := lo.trans (hb1.mono lo.size)
  have k0 := g0.c0
  have k1 := g0.c1
  clear HA hb1
  go_upto_region 2 with fail
  rcases HN.out with rfl | ⟨hn0, hvl, hvm⟩
  · go_wp2_with fail
    go_ret
    exact ⟨ret_bool (by rw [HZ.out]; rfl), lo⟩
  · have hpos : 0 < v.length := by omega
    have hpi : (0 : Int) < (v.length : Int) := by omega
    rw [decide_eq_true hpos, Bool.true_and] at HZ
    have HP := Lib.hid hvl
    clear hvl
    cases b with
    | false =>
      go_wp2_with (go_at_call 30; refine (HL.out _).mono ?_; rintro e w2 ⟨rfl, hb2⟩)
      go_ret
      exact ⟨ret_bool HZ.out.symm, lo.trans (hb2.mono lo.size)⟩
    | true =>
      have hlf := HLF.out rfl
      have HT := Lib.hid (fun w hb => bit_any A' c' v l w w1.heap.size hb hlf.1 (by have := HP.out; omega) hvm)
      rw [Bool.true_and] at HZ
      generalize Em.bitB v l = r at *
      clear hlf
      go_wp2_with (first | (go_at_call 30; refine (HL.out _).mono ?_; rintro e w2 ⟨rfl, hb2⟩) | (go_at_call 61; refine (HT.out _ (hV1.below hb2 (Nat.le_refl _))).mono ?_; rintro e w3 ⟨rfl, rfl⟩))
      go_ret
      exact ⟨ret_bool HZ.out.symm, lo.trans (hb2.mono lo.size)⟩

theorem Us.more {w : World} {B C : Nat} {A : Option Addr} {zs : List Int} (h : Us w B A zs) (hB : B ≤ C) : Us w C A zs := by
  intro k hk
  obtain ⟨b, off, rfl, hlt, h1, h2⟩ := h k hk
  exact ⟨b, off, rfl, Nat.lt_of_lt_of_le hlt hB, h1, h2⟩

end Go.Proofs.YtdbmepndebdbpaaGreat
