/- The reference's Signal, Find, Is, After. -/
import Derived.Test.YtdnbndknfifmgaaGreatDoorUah
import Derived.Test.YtdnbndknfifmgaaGreatDoorUac
import Derived.ChangeMaps5
import Derived.Deep.Fields
import Derived.Test.YtdnbndknfifmgaaGreatDoorUaf
import Derived.Lib.ItoaNum
namespace Go.Proofs.YtdnbndknfifmgaaGreatDoor
open Go.RowKit

end Go.Proofs.YtdnbndknfifmgaaGreatDoor
/- The reference's Find. -/
namespace Go.Proofs.YtdnbndknfifmgaaGreatDoor
open Go.RowKit

end Go.Proofs.YtdnbndknfifmgaaGreatDoor
/- same of layer 4: what the program tells of a circuit is what the document says. -/
namespace Go.Proofs.YtdnbndknfifmgaaGreatDoor
open Go.RowKit

end Go.Proofs.YtdnbndknfifmgaaGreatDoor
/- How a circuit that came in is opened. -/
namespace Go.Proofs.YtdnbndknfifmgaaGreatDoor
open Go.ChangeShapes Go.WideShapes Go.ChangeAt Go.RowKit Go.Deep Go.Joins Go.WideElems

/-- What is known of a circuit that came in. -/
structure CirO (c : Cir) : Prop where
  hn : I64 c.n
  hl : Wf c.ls
  hg : Wf c.gs
  ho : IWf c.os
  hb : IWf c.bs
  hc : IWf c.cs
  hf : IWf c.fs
  hk : ∀ x ∈ c.ns, (0 ≤ x.1 ∧ x.1 ≤ 255) ∧ I64 x.2.1 ∧ x.2.2.size ≤ maxLen
  ml : c.ls.length ≤ maxLen
  mg : c.gs.length ≤ maxLen
  lo : c.os.length ≤ maxLen
  lb : c.bs.length ≤ maxLen
  lc : c.cs.length ≤ maxLen
  lf : c.fs.length ≤ maxLen
  mn : c.ns.length ≤ maxLen
  cap : c.ns.length ≤ c.cN
section
variable {H : Type} {enc : TypeId × Value → H} {W : World} {base : Nat} {spare : Nat → Bool} {held : Bool}
end

namespace Cm
end Cm
end Go.Proofs.YtdnbndknfifmgaaGreatDoor
/- Made of layer 1, once more: its gates lie in new memory. -/
namespace Go.Proofs.YtdnbndknfifmgaaGreatDoor
open Go.RowKit

end Go.Proofs.YtdnbndknfifmgaaGreatDoor
/- pick, of Made of layer 4. -/
namespace Go.Proofs.YtdnbndknfifmgaaGreatDoor
open Go.RowKit

namespace Cm
/-- The number at a place, below n; 0 where there is none. -/
def pickS (zs : List Int) (a : Nat) (n : Int) : Int := if a < zs.length then zs.getD a 0 % n else 0
end Cm
theorem Us.set {w : World} {B : Nat} {A : Option Addr} {zs : List Int} (h : Us w B A zs) {p : Addr} (hp : B ≤ p.block) (u : Value) : Us (w.setCell p u) B A zs := by
  intro k hk
  obtain ⟨b, off, rfl, hlt, h1, h2⟩ := h k hk
  exact ⟨b, off, rfl, hlt, (World.cell?_setCell_other _ _ _ _ (fun e => by have := congrArg Addr.block e; simp at this; omega)).trans h1, h2⟩

set_option maxRecDepth 100000 in
set_option maxHeartbeats 2000000 in
theorem pick_any (ab lb : Nat) (A : Option Addr) (c : Nat) (zs : List Int) (a : Nat) (n : Int) (w : World) (B : Nat) (hB : B ≤ ab) (hU : Us w B A zs) (hlen : zs.length ≤ maxLen) (ha : a ≤ 100000) (hn : 0 < n) (hn1 : n ≤ 65536) (hne : lb ≠ ab)
    (h0 : w.cell? ⟨ab, 0, none⟩ = some (.int .i64 (a : Int))) (hf : w.frozen? ⟨ab, 0, none⟩ = false) (h1 : w.cell? ⟨lb, 0, none⟩ = some (.slice A zs.length c)) :
    Calls Tryz.prog 34 #[.int .i64 n, .pointer (some ⟨ab, 0, none⟩), .pointer (some ⟨lb, 0, none⟩)] w fun e w' => e = .returned (.int .i64 (Cm.pickS zs a n)) ∧ w.setCell ⟨ab, 0, none⟩ (.int .i64 ((a : Int) + 1)) = w' := by
  unfold maxLen at hlen
  have hset : (w.setCell ⟨ab, 0, none⟩ (.int .i64 ((a : Int) + 1))).cell? ⟨ab, 0, none⟩ = some (.int .i64 ((a : Int) + 1)) := World.cell?_setCell_same _ _ _ h0
  have hset1 : (w.setCell ⟨ab, 0, none⟩ (.int .i64 ((a : Int) + 1))).cell? ⟨lb, 0, none⟩ = some (.slice A zs.length c) := (World.cell?_setCell_other _ _ _ _ (fun e => hne (by have := congrArg Addr.block e; simpa using this.symm))).trans h1
  have hU2 := hU.set (p := ⟨ab, 0, none⟩) hB (.int .i64 ((a : Int) + 1))
  by_cases hlt : a < zs.length
  · obtain ⟨b, off, hA, hbB, z1, z2, z3⟩ := hU2 a hlt
    have HP : Hid (Cm.pickS zs a n = zs[a] % n) := by
      unfold Hid Cm.pickS
      rw [if_pos hlt]
      simp [List.getD_eq_getElem?_getD, List.getElem?_eq_getElem hlt]
    generalize Cm.pickS zs a n = y at *
    generalize zs[a] = z at *
    subst hA
    have hix := ixU b off zs.length c a (by omega) hlt
    have hd : decide ((zs.length : Int) < (a : Int) + 1) = false := decide_eq_false (by omega)
    go_enter Tryz.func34, Tryz.ntmps34
    go_upto_region 2 with fail
    generalize hVe : w.setCell ⟨ab, 0, none⟩ (.int .i64 ((a : Int) + 1)) = V at *
    have HV := Lib.hid hVe
    clear h0 h1 hf hVe
    go_wp2
    go_ret
    exact ⟨by rw [HP.out]; rfl, HV.out⟩
  · have HP : Hid (Cm.pickS zs a n = 0) := by
      unfold Hid Cm.pickS
      rw [if_neg hlt]
    generalize Cm.pickS zs a n = y at *
    have hd : decide ((zs.length : Int) < (a : Int) + 1) = true := decide_eq_true (by omega)
    go_enter Tryz.func34, Tryz.ntmps34
    go_upto_region 2 with fail
    generalize hVe : w.setCell ⟨ab, 0, none⟩ (.int .i64 ((a : Int) + 1)) = V at *
    have HV := Lib.hid hVe
    clear h0 h1 hf hVe
    go_wp2
    go_ret
    exact ⟨by rw [HP.out]; rfl, HV.out⟩
end Go.Proofs.YtdnbndknfifmgaaGreatDoor
/- Rows of one list's elements that the call itself makes, one element more at a time: numbers, latches, names. -/
namespace Go.Proofs.YtdnbndknfifmgaaGreatDoor
open Go.RowKit

theorem app_own (w : World) (base : Nat) (t ty e : TypeId) (i : TypeInfo) (z : Value) (size bytes : Nat) (ht : Tryz.prog.underlying t = some (.slice e)) (hi : Tryz.prog.info? e = some i) (hz : i.zero = some z)
    (hsize : i.size = size) (hby : i.bytes = bytes) (hb : bytes ≤ 64) (hzs : z.cells.size = size) (hsz : 0 < size) (v : Value) (n : Nat) (xs : List Value) (hown : w.ownsRow base e size v n xs)
    (b c : Nat) (cs : List Value) (hbk : Blk w b e cs.toArray) (hl : cs.length = size) (h1 : ∀ u ∈ cs, u.oneCell' = true) (hn : n ≤ 100000) (hbase : base ≤ w.heap.size) :
    ∃ v' w', (Builtin.append_ #[t, t] ty #[v, .slice (some ⟨b, 0, none⟩) 1 c]).run Tryz.prog w = .ok v' w' ∧ w'.ownsRow base e size v' (n + 1) (xs ++ cs) ∧ w.grownBy w' v.ownBlock ∧ (v'.ownBlock = v.ownBlock ∨ v'.ownBlock = some w.heap.size) := by
  have hcell : ∀ j u, cs[j]? = some u → w.cell? ((⟨b, 0, none⟩ : Addr).add j) = some u := by
    intro j u hj
    have ha : (⟨b, 0, none⟩ : Addr).add j = ⟨b, j, none⟩ := by
      simp [Addr.add]
      exact fun h => h.symm
    rw [ha, hbk.cell j]
    simpa using hj
  have hbb : (n + 1) * bytes ≤ 140737488355328 := by
    have h := Nat.mul_le_mul (show n + 1 ≤ 100001 by omega) hb
    omega
  obtain ⟨v', w', r1, r2, r3, _, r5⟩ := run_append_own_at (P := Tryz.prog) w base t ty e i z size bytes ht hi hz hsize hby hzs hsz v n xs hown ⟨b, 0, none⟩ 1 c cs (by rw [hl, Nat.one_mul]) hcell h1 (by unfold maxLen; omega) hbb hbase
  exact ⟨v', w', r1, r2, r3, r5⟩
theorem app_int (w : World) (base : Nat) (ty : TypeId) (v : Value) (n : Nat) (xs : List Value) (hown : w.ownsRow base 3 1 v n xs) (b c : Nat) (x : Int) (hbk : Blk w b 3 #[.int .i64 x]) (hn : n ≤ 100000) (hbase : base ≤ w.heap.size) :
    ∃ v' w', (Builtin.append_ #[26, 26] ty #[v, .slice (some ⟨b, 0, none⟩) 1 c]).run Tryz.prog w = .ok v' w' ∧ w'.ownsRow base 3 1 v' (n + 1) (xs ++ [.int .i64 x]) ∧ w.grownBy w' v.ownBlock ∧ (v'.ownBlock = v.ownBlock ∨ v'.ownBlock = some w.heap.size) :=
  app_own w base 26 ty 3 Tryz.t3 (.int .i64 0) 1 8 Tryz.underlying26 (by kernel_rfl) (by kernel_rfl) (by kernel_rfl) (by kernel_rfl) (by omega) (by kernel_rfl) (by omega) v n xs hown b c [.int .i64 x] hbk rfl (fun u hu => by simp at hu; subst hu; rfl) hn hbase
theorem app_latch (w : World) (base : Nat) (ty : TypeId) (v : Value) (n : Nat) (xs : List Value) (hown : w.ownsRow base 49 2 v n xs) (b c : Nat) (x y : Int) (hbk : Blk w b 49 #[.int .i64 x, .int .i64 y]) (hn : n ≤ 100000) (hbase : base ≤ w.heap.size) :
    ∃ v' w', (Builtin.append_ #[24, 24] ty #[v, .slice (some ⟨b, 0, none⟩) 1 c]).run Tryz.prog w = .ok v' w' ∧ w'.ownsRow base 49 2 v' (n + 1) (xs ++ [.int .i64 x, .int .i64 y]) ∧ w.grownBy w' v.ownBlock ∧ (v'.ownBlock = v.ownBlock ∨ v'.ownBlock = some w.heap.size) :=
  app_own w base 24 ty 49 Tryz.t49 (.agg #[.int .i64 0, .int .i64 0]) 2 16 Tryz.underlying24 (by kernel_rfl) (by kernel_rfl) (by kernel_rfl) (by kernel_rfl) (by omega) (by kernel_rfl) (by omega) v n xs hown b c [.int .i64 x, .int .i64 y] hbk rfl (fun u hu => by simp at hu; rcases hu with rfl | rfl <;> rfl) hn hbase
theorem app_name (w : World) (base : Nat) (ty : TypeId) (v : Value) (n : Nat) (xs : List Value) (hown : w.ownsRow base 69 3 v n xs) (b c : Nat) (k x : Int) (s : ByteArray) (hbk : Blk w b 69 #[.int .u8 k, .int .i64 x, .string s]) (hn : n ≤ 100000) (hbase : base ≤ w.heap.size) :
    ∃ v' w', (Builtin.append_ #[27, 27] ty #[v, .slice (some ⟨b, 0, none⟩) 1 c]).run Tryz.prog w = .ok v' w' ∧ w'.ownsRow base 69 3 v' (n + 1) (xs ++ [.int .u8 k, .int .i64 x, .string s]) ∧ w.grownBy w' v.ownBlock ∧ (v'.ownBlock = v.ownBlock ∨ v'.ownBlock = some w.heap.size) :=
  app_own w base 27 ty 69 Tryz.t69 (.agg #[.int .u8 0, .int .i64 0, .string ⟨#[]⟩]) 3 32 Tryz.underlying27 (by kernel_rfl) (by kernel_rfl) (by kernel_rfl) (by kernel_rfl) (by omega) (by kernel_rfl) (by omega) v n xs hown b c [.int .u8 k, .int .i64 x, .string s] hbk rfl (fun u hu => by simp at hu; rcases hu with rfl | rfl | rfl <;> rfl) hn hbase

/-- The cells of names. -/
def flatN : List Nm → List Value
  | [] => []
  | x :: r => .int .u8 x.1 :: .int .i64 x.2.1 :: .string x.2.2 :: flatN r
theorem flatN_append (ns ms : List Nm) : flatN (ns ++ ms) = flatN ns ++ flatN ms := by
  induction ns with
  | nil => rfl
  | cons g r ih => simp [flatN, ih]
theorem flatN_get (ns : List Nm) (k : Nat) (h : k < ns.length) : (flatN ns)[k * 3]? = some (.int .u8 (ns[k]).1) ∧ (flatN ns)[k * 3 + 1]? = some (.int .i64 (ns[k]).2.1) ∧ (flatN ns)[k * 3 + 2]? = some (.string (ns[k]).2.2) := by
  induction ns generalizing k with
  | nil => simp at h
  | cons g r ih =>
    cases k with
    | zero => simp [flatN]
    | succ k =>
      have := ih k (by simpa using h)
      rw [show (k + 1) * 3 = k * 3 + 1 + 1 + 1 by omega]
      simpa [flatN] using this
/-- A row of the call's own, as its list. -/
theorem latch_gr {w : World} {base : Nat} {v : Value} {ls : List (Int × Int)} (h : w.ownsRow base 49 2 v ls.length (flat ls)) : ∃ A c, v = .slice A ls.length c ∧ Gr w w.heap.size A ls := by
  obtain ⟨_, h2⟩ := h
  rcases h2 with ⟨rfl, h0⟩ | ⟨g, cap, cur, rfl, _, hh, hn, _, hs, ht⟩
  · exact ⟨none, 0, by rw [h0], fun k hk => by omega⟩
  · refine ⟨_, cap, rfl, fun k hk => ⟨g, 0, rfl, Blk.lt (t := 49) hh, ?_, ?_⟩⟩
    · obtain ⟨f1, _⟩ := flat_get ls k hk
      rw [← ht, List.getElem?_take_of_lt (by omega)] at f1
      rw [Nat.zero_add, Blk.cell (t := 49) hh, ← Array.getElem?_toList]
      exact f1
    · obtain ⟨_, f2⟩ := flat_get ls k hk
      rw [← ht, List.getElem?_take_of_lt (by omega)] at f2
      rw [Nat.zero_add, Blk.cell (t := 49) hh, ← Array.getElem?_toList]
      exact f2
theorem name_ns {w : World} {base : Nat} {v : Value} {ns : List Nm} (h : w.ownsRow base 69 3 v ns.length (flatN ns)) : ∃ A c, v = .slice A ns.length c ∧ Ns w w.heap.size A ns ∧ ns.length ≤ c := by
  obtain ⟨_, h2⟩ := h
  rcases h2 with ⟨rfl, h0⟩ | ⟨g, cap, cur, rfl, _, hh, hn, _, hs, ht⟩
  · exact ⟨none, 0, by rw [h0], fun k hk => by omega, by omega⟩
  · refine ⟨_, cap, rfl, fun k hk => ⟨g, 0, rfl, Blk.lt (t := 69) hh, ?_, ?_, ?_⟩, hn⟩
    · obtain ⟨f1, _⟩ := flatN_get ns k hk
      rw [← ht, List.getElem?_take_of_lt (by omega)] at f1
      rw [Nat.zero_add, Blk.cell (t := 69) hh, ← Array.getElem?_toList]
      exact f1
    · obtain ⟨_, f2, _⟩ := flatN_get ns k hk
      rw [← ht, List.getElem?_take_of_lt (by omega)] at f2
      rw [Nat.zero_add, Blk.cell (t := 69) hh, ← Array.getElem?_toList]
      exact f2
    · obtain ⟨_, _, f3⟩ := flatN_get ns k hk
      rw [← ht, List.getElem?_take_of_lt (by omega)] at f3
      rw [Nat.zero_add, Blk.cell (t := 69) hh, ← Array.getElem?_toList]
      exact f3
end Go.Proofs.YtdnbndknfifmgaaGreatDoor
/- What Made of layer 4 keeps in its boxes; append as a step. -/
namespace Go.Proofs.YtdnbndknfifmgaaGreatDoor
open Go.RowKit

theorem wpList_app {ops : Array Oper} {rest : List Oper} {o : Oper} {a : Act} {Q : Exit → Act → World → Prop} {w : World} (hgd : o.guard = none) (s x : Operand) (t : TypeId)
    (ho : o.op = .call { callee := .builtin .append, args := #[s, x], argTypes := #[t, t] }) (v arg : Value) (hs1 : a.eval s = v) (hx : a.eval x = arg) (R : Value → World → Prop)
    (hrun : ∀ ty, ∃ v' w', (Builtin.append_ #[t, t] ty #[v, arg]).run Tryz.prog w = .ok v' w' ∧ R v' w')
    (h : ∀ v' w', R v' w' → wpList Tryz.prog ops Q rest (a.put o.dst v') w') : wpList Tryz.prog ops Q (o :: rest) a w := by
  refine wpList_plain hgd fun K hK => ?_
  obtain ⟨v', w', hr, hR⟩ := hrun o.type
  unfold Oper.wp execOp
  simp only [ho, resolve, invoke, builtin, Sem.run_bind, Sem.run_pure, Result.andThen_ok, List.map_toArray, List.map_cons, List.map_nil, hs1, hx, hr]
  exact hK _ _ (h v' w' hR)
theorem oper_app {o : Oper} {a : Act} {K : Act → World → Prop} {Q : Exit → Act → World → Prop} {w : World} (s x : Operand) (t : TypeId)
    (ho : o.op = .call { callee := .builtin .append, args := #[s, x], argTypes := #[t, t] }) (v arg : Value) (hs1 : a.eval s = v) (hx : a.eval x = arg) (R : Value → World → Prop)
    (hrun : ∀ ty, ∃ v' w', (Builtin.append_ #[t, t] ty #[v, arg]).run Tryz.prog w = .ok v' w' ∧ R v' w')
    (h : ∀ v' w', R v' w' → K (a.put o.dst v') w') : Oper.wp Tryz.prog o a w K Q := by
  obtain ⟨v', w', hr, hR⟩ := hrun o.type
  unfold Oper.wp execOp
  simp only [ho, resolve, invoke, builtin, Sem.run_bind, Sem.run_pure, Result.andThen_ok, List.map_toArray, List.map_cons, List.map_nil, hs1, hx, hr]
  exact h v' w' hR

/-- The boxes of Made: its argument (block hL), the result's (hR), the place (hA), the circuit's (hC). -/
structure MB (w wr : World) (hL hR hA hC : Nat) (A0 : Option Addr) (c0 : Nat) (zs : List Int) (a : Nat) (x0 x1 x2 x3 x4 x5 x6 x7 : Value) : Prop where
  eL : hL = w.heap.size
  eR : hR = w.heap.size + 1
  eA : hA = w.heap.size + 2
  eC : hC = w.heap.size + 3
  low : Below w.heap.size w wr
  lb : Blk wr hL 34 #[.slice A0 zs.length c0]
  rb : Blk wr hR 29 #[.int .i64 0, .slice none 0 0, .slice none 0 0, .slice none 0 0, .slice none 0 0, .slice none 0 0, .slice none 0 0, .slice none 0 0]
  ab : Blk wr hA 3 #[.int .i64 (a : Int)]
  cb : Blk wr hC 29 #[x0, x1, x2, x3, x4, x5, x6, x7]
section
variable {w wr wn : World} {hL hR hA hC : Nat} {A0 : Option Addr} {c0 : Nat} {zs : List Int} {a : Nat} {x0 x1 x2 x3 x4 x5 x6 x7 : Value}
theorem MB.size (h : MB w wr hL hR hA hC A0 c0 zs a x0 x1 x2 x3 x4 x5 x6 x7) : w.heap.size + 4 ≤ wr.heap.size := by have := h.cb.lt; have := h.eC; omega
theorem MB.grown (h : MB w wr hL hR hA hC A0 c0 zs a x0 x1 x2 x3 x4 x5 x6 x7) {row : Option Nat} (hg : wr.grownBy wn row) (hr : ∀ k, row = some k → w.heap.size + 4 ≤ k) : MB w wn hL hR hA hC A0 c0 zs a x0 x1 x2 x3 x4 x5 x6 x7 := by
  have e1 := h.eL
  have e2 := h.eR
  have e3 := h.eA
  have e4 := h.eC
  exact ⟨e1, e2, e3, e4, h.low.grown hg h.low.size (fun k e => by have := hr k e; omega), h.lb.grown hg (fun e => by have := hr _ e.symm; omega), h.rb.grown hg (fun e => by have := hr _ e.symm; omega), h.ab.grown hg (fun e => by have := hr _ e.symm; omega), h.cb.grown hg (fun e => by have := hr _ e.symm; omega)⟩
theorem MB.below (h : MB w wr hL hR hA hC A0 c0 zs a x0 x1 x2 x3 x4 x5 x6 x7) (hb : Below wr.heap.size wr wn) : MB w wn hL hR hA hC A0 c0 zs a x0 x1 x2 x3 x4 x5 x6 x7 :=
  ⟨h.eL, h.eR, h.eA, h.eC, h.low.trans (hb.mono h.low.size), h.lb.below hb h.lb.lt, h.rb.below hb h.rb.lt, h.ab.below hb h.ab.lt, h.cb.below hb h.cb.lt⟩
theorem MB.alloc (h : MB w wr hL hR hA hC A0 c0 zs a x0 x1 x2 x3 x4 x5 x6 x7) (o : Obj) : MB w (wr.alloc o) hL hR hA hC A0 c0 zs a x0 x1 x2 x3 x4 x5 x6 x7 := h.below (lowAlloc wr o)
theorem MB.drew (h : MB w wr hL hR hA hC A0 c0 zs a x0 x1 x2 x3 x4 x5 x6 x7) : MB w wr.drew hL hR hA hC A0 c0 zs a x0 x1 x2 x3 x4 x5 x6 x7 := ⟨h.eL, h.eR, h.eA, h.eC, h.low.drew, h.lb, h.rb, h.ab, h.cb⟩
theorem MB.pick (h : MB w wr hL hR hA hC A0 c0 zs a x0 x1 x2 x3 x4 x5 x6 x7) : MB w (wr.setCell ⟨hA, 0, none⟩ (.int .i64 ((a : Int) + 1))) hL hR hA hC A0 c0 zs (a + 1) x0 x1 x2 x3 x4 x5 x6 x7 := by
  have e1 := h.eL
  have e2 := h.eR
  have e3 := h.eA
  have e4 := h.eC
  refine ⟨e1, e2, e3, e4, h.low.setCell (by simp; omega) _, h.lb.far (by simp; omega) _, h.rb.far (by simp; omega) _, ?_, h.cb.far (by simp; omega) _⟩
  have := h.ab.put 0 (.int .i64 ((a : Int) + 1))
  simpa using this
/-- The field at a place of the circuit's box is written. -/
theorem MB.put (h : MB w wr hL hR hA hC A0 c0 zs a x0 x1 x2 x3 x4 x5 x6 x7) (i : Nat) (u : Value) {y0 y1 y2 y3 y4 y5 y6 y7 : Value} (he : (#[x0, x1, x2, x3, x4, x5, x6, x7] : Array Value).setIfInBounds i u = #[y0, y1, y2, y3, y4, y5, y6, y7]) :
    MB w (wr.setCell ⟨hC, i, none⟩ u) hL hR hA hC A0 c0 zs a y0 y1 y2 y3 y4 y5 y6 y7 := by
  have e1 := h.eL
  have e2 := h.eR
  have e3 := h.eA
  have e4 := h.eC
  refine ⟨e1, e2, e3, e4, h.low.setCell (by simp; omega) _, h.lb.far (by simp; omega) _, h.rb.far (by simp; omega) _, h.ab.far (by simp; omega) _, ?_⟩
  have := h.cb.put i u
  rwa [he] at this
/-- pick: what it answers, and that only the place has turned. -/
theorem MB.call (h : MB w wr hL hR hA hC A0 c0 zs a x0 x1 x2 x3 x4 x5 x6 x7) (hU : Us w w.heap.size A0 zs) (hlen : zs.length ≤ maxLen) (ha : a ≤ 100000) (n : Int) (hn : 0 < n) (hn1 : n ≤ 65536) :
    Calls Tryz.prog 34 #[.int .i64 n, .pointer (some ⟨hA, 0, none⟩), .pointer (some ⟨hL, 0, none⟩)] wr fun e w' => e = .returned (.int .i64 (Cm.pickS zs a n)) ∧ MB w w' hL hR hA hC A0 c0 zs (a + 1) x0 x1 x2 x3 x4 x5 x6 x7 ∧ wr.setCell ⟨hA, 0, none⟩ (.int .i64 ((a : Int) + 1)) = w' := by
  have e1 := h.eL
  have e2 := h.eR
  have e3 := h.eA
  have e4 := h.eC
  refine (pick_any hA hL A0 c0 zs a n wr w.heap.size (by omega) (hU.below h.low (Nat.le_refl _)) hlen ha hn hn1 (by omega) (by simpa using h.ab.cell 0) (h.ab.frozen 0) (by simpa using h.lb.cell 0)).mono ?_
  rintro e w' ⟨r1, r2⟩
  exact ⟨r1, r2 ▸ h.pick, r2⟩
end
/-- A row of the call's own stays, whatever is written elsewhere below it. -/
theorem row_set {w : World} {base : Nat} {e : TypeId} {size : Nat} {v : Value} {n : Nat} {xs : List Value} (h : w.ownsRow base e size v n xs) {p : Addr} (hp : p.block < base) (u : Value) : (w.setCell p u).ownsRow base e size v n xs := by
  obtain ⟨h1, h2⟩ := h
  refine ⟨h1, ?_⟩
  rcases h2 with h2 | ⟨g, cap, cur, rfl, hb, hh, r⟩
  · exact Or.inl h2
  · exact Or.inr ⟨g, cap, cur, rfl, hb, (Below.heap_setCell w p u g (by omega)).trans hh, r⟩
theorem row_slice {w : World} {base : Nat} {e : TypeId} {size : Nat} {v : Value} {n : Nat} {xs : List Value} (h : w.ownsRow base e size v n xs) : ∃ A c, v = .slice A n c := by
  rcases h.2 with ⟨rfl, h0⟩ | ⟨g, cap, cur, rfl, _⟩
  · exact ⟨none, 0, by rw [h0]⟩
  · exact ⟨_, _, rfl⟩
theorem row_base {w : World} {base : Nat} {e : TypeId} {size : Nat} {v : Value} {n : Nat} {xs : List Value} (h : w.ownsRow base e size v n xs) : ∀ k, v.ownBlock = some k → base ≤ k := by
  intro k hk
  rcases h.2 with ⟨rfl, _⟩ | ⟨g, cap, cur, rfl, hb, _⟩
  · cases hk
  · simp [Value.ownBlock] at hk
    omega
end Go.Proofs.YtdnbndknfifmgaaGreatDoor
/- What stays beside the boxes of Made. -/
namespace Go.Proofs.YtdnbndknfifmgaaGreatDoor
open Go.RowKit

/-- From W to W' the blocks below B are kept, but for the four boxes from lo on. -/
structure Out (B lo : Nat) (W W' : World) : Prop where
  le : B ≤ W'.heap.size
  blk : ∀ b, b < B → (b < lo ∨ lo + 4 ≤ b) → W'.heap[b]? = W.heap[b]?
theorem Out.refl (W : World) (lo : Nat) : Out W.heap.size lo W W := ⟨Nat.le_refl _, fun _ _ _ => rfl⟩
theorem Out.drew {B lo : Nat} {W W' : World} (h : Out B lo W W') : Out B lo W W'.drew := ⟨h.le, h.blk⟩
theorem Out.drewN {B lo : Nat} {W W' : World} (h : Out B lo W W') (n : Nat) : Out B lo W (W'.drewN n) := ⟨h.le, h.blk⟩
theorem Out.alloc {B lo : Nat} {W W' : World} (h : Out B lo W W') (o : Obj) : Out B lo W (W'.alloc o) :=
  ⟨by simp; have := h.le; omega, fun b hb hl => (Below.heap_alloc W' o b (Nat.lt_of_lt_of_le hb h.le)).trans (h.blk b hb hl)⟩
theorem Out.set {B lo : Nat} {W W' : World} (h : Out B lo W W') {p : Addr} (h1 : lo ≤ p.block) (h2 : p.block < lo + 4) (u : Value) : Out B lo W (W'.setCell p u) :=
  ⟨by simp; exact h.le, fun b hb hl => (Below.heap_setCell W' p u b (by omega)).trans (h.blk b hb hl)⟩
theorem Out.grown {B lo : Nat} {W W' V : World} (h : Out B lo W W') {row : Option Nat} (hg : W'.grownBy V row) (hr : ∀ k, row = some k → B ≤ k) : Out B lo W V :=
  ⟨Nat.le_trans h.le hg.size, fun b hb hl => (hg.block b (Nat.lt_of_lt_of_le hb h.le) (fun e => by have := hr _ e.symm; omega)).trans (h.blk b hb hl)⟩
theorem Out.below {B lo : Nat} {W W' V : World} (h : Out B lo W W') (hb : Below W'.heap.size W' V) : Out B lo W V :=
  ⟨Nat.le_trans h.le hb.size, fun b h1 hl => (hb.block b (Nat.lt_of_lt_of_le h1 h.le)).trans (h.blk b h1 hl)⟩
theorem Out.trans {B C lo : Nat} {W W' V : World} (h : Out B lo W W') (k : Out C lo W' V) (hB : B ≤ C) : Out B lo W V :=
  ⟨Nat.le_trans hB k.le, fun b h1 hl => (k.blk b (Nat.lt_of_lt_of_le h1 hB) hl).trans (h.blk b h1 hl)⟩
/-- The slice lies beside the boxes. -/
def Off (lo : Nat) (A : Option Addr) : Prop := ∀ ad, A = some ad → ad.block < lo ∨ lo + 4 ≤ ad.block
theorem Gr.out {B lo : Nat} {W W' : World} {A : Option Addr} {gs : List (Int × Int)} (h : Gr W B A gs) (ho : Off lo A) (k : Out B lo W W') : Gr W' B A gs := by
  intro i hi
  obtain ⟨b, off, rfl, hb, h1, h2⟩ := h i hi
  have hk := k.blk b hb (ho _ rfl)
  exact ⟨b, off, rfl, hb, (World.cell?_of_block (w := W) (a := ⟨b, _, none⟩) hk).trans h1, (World.cell?_of_block (w := W) (a := ⟨b, _, none⟩) hk).trans h2⟩
theorem Vs.out {B lo : Nat} {W W' : World} {A : Option Addr} {vs : List Value} (h : Vs W B A vs) (ho : Off lo A) (k : Out B lo W W') : Vs W' B A vs := by
  intro i hi
  obtain ⟨b, off, rfl, hb, h1⟩ := h i hi
  have hk := k.blk b hb (ho _ rfl)
  exact ⟨b, off, rfl, hb, (World.cell?_of_block (w := W) (a := ⟨b, _, none⟩) hk).trans h1⟩
theorem Ns.out {B lo : Nat} {W W' : World} {A : Option Addr} {ns : List Nm} (h : Ns W B A ns) (ho : Off lo A) (k : Out B lo W W') : Ns W' B A ns := by
  intro i hi
  obtain ⟨b, off, rfl, hb, h1, h2, h3⟩ := h i hi
  have hk := k.blk b hb (ho _ rfl)
  exact ⟨b, off, rfl, hb, (World.cell?_of_block (w := W) (a := ⟨b, _, none⟩) hk).trans h1, (World.cell?_of_block (w := W) (a := ⟨b, _, none⟩) hk).trans h2, (World.cell?_of_block (w := W) (a := ⟨b, _, none⟩) hk).trans h3⟩
theorem int_vs {w : World} {base : Nat} {v : Value} {zs : List Int} (h : w.ownsRow base 3 1 v zs.length (iv zs)) : ∃ A c, v = .slice A zs.length c ∧ Vs w w.heap.size A (iv zs) := by
  obtain ⟨_, h2⟩ := h
  rcases h2 with ⟨rfl, h0⟩ | ⟨g, cap, cur, rfl, _, hh, hn, _, hs, ht⟩
  · refine ⟨none, 0, by rw [h0], fun k hk => ?_⟩
    have : zs.length = 0 := h0
    simp [iv] at hk
    omega
  · refine ⟨_, cap, rfl, fun k hk => ⟨g, 0, rfl, Blk.lt (t := 3) hh, ?_⟩⟩
    have hk' : k < zs.length := by simpa [iv] using hk
    have f1 : (iv zs)[k]? = some (iv zs)[k] := List.getElem?_eq_getElem hk
    generalize (iv zs)[k] = y at *
    rw [← ht, List.getElem?_take_of_lt (by omega)] at f1
    rw [Nat.zero_add, Blk.cell (t := 3) hh, ← Array.getElem?_toList]
    exact f1
end Go.Proofs.YtdnbndknfifmgaaGreatDoor
/- Texts of circuits: the mathematics. Numerals, lines, words. -/
namespace Go.Proofs.YtdnbndknfifmgaaGreatDoor
open Go.RowKit

namespace Ag
abbrev Bs := List UInt8
/-- A number of one to six digits without noughts ahead; else none. -/
def digL (l : Bs) : Option Nat := if 1 ≤ l.length ∧ l.length ≤ 6 ∧ ¬ (1 < l.length ∧ (l.headD 0).toNat = 48) ∧ l.all Cm.isDig = true then some (Cm.valS l) else none
def num (n : Nat) : Bs := Lib.decDigits n
theorem num_small {n : Nat} (h : n < 10) : num n = [UInt8.ofNat (48 + n)] := Lib.decDigits_one h
theorem num_big {n : Nat} (h : ¬ n < 10) : num n = num (n / 10) ++ [UInt8.ofNat (48 + n % 10)] := by
  unfold num
  rw [Lib.decDigits, dif_neg h]
theorem ofNat_dig {d : Nat} (h : d < 10) : (UInt8.ofNat (48 + d)).toNat = 48 + d := by
  exact UInt8.toNat_ofNat_of_lt' (show 48 + d < 256 by omega)
theorem isDig_ofNat {d : Nat} (h : d < 10) : Cm.isDig (UInt8.ofNat (48 + d)) = true := by
  unfold Cm.isDig
  rw [ofNat_dig h]
  simp
  omega
theorem num_all (n : Nat) : (num n).all Cm.isDig = true := by
  induction n using Nat.strongRecOn with
  | _ n ih =>
    by_cases h : n < 10
    · rw [num_small h]
      rw [List.all_cons, isDig_ofNat h]
      rfl
    · rw [num_big h, List.all_append, ih (n / 10) (by omega)]
      rw [List.all_cons, isDig_ofNat (show n % 10 < 10 by omega)]
      rfl
theorem num_val (n : Nat) : Cm.valS (num n) = n := by
  induction n using Nat.strongRecOn with
  | _ n ih =>
    by_cases h : n < 10
    · rw [num_small h]
      show 10 * 0 + ((UInt8.ofNat (48 + n)).toNat - 48) = n
      rw [ofNat_dig h]
      omega
    · rw [num_big h, Cm.valS_snoc, ih (n / 10) (by omega), ofNat_dig (by omega)]
      omega
theorem num_pos (n : Nat) : 1 ≤ (num n).length := by
  by_cases h : n < 10
  · rw [num_small h]
    simp
  · rw [num_big h]
    simp
theorem num_len (k : Nat) : ∀ n, n < 10 ^ (k + 1) → (num n).length ≤ k + 1 := by
  induction k with
  | zero =>
    intro n h
    rw [num_small (by simpa using h)]
    simp
  | succ k ih =>
    intro n h
    by_cases h1 : n < 10
    · rw [num_small h1]
      simp
    · rw [num_big h1]
      have := ih (n / 10) (by rw [Nat.pow_succ] at h; omega)
      simp
      omega
theorem num_head (n : Nat) : 1 ≤ n → ((num n).headD 0).toNat ≠ 48 := by
  induction n using Nat.strongRecOn with
  | _ n ih =>
    intro h1
    by_cases h : n < 10
    · rw [num_small h]
      show (UInt8.ofNat (48 + n)).toNat ≠ 48
      rw [ofNat_dig h]
      omega
    · rw [num_big h]
      have hp := num_pos (n / 10)
      have := ih (n / 10) (by omega) (by omega)
      cases hq : num (n / 10) with
      | nil =>
        rw [hq] at hp
        simp at hp
      | cons a t =>
        rw [hq] at this
        simpa using this
theorem dig_num {n : Nat} (h : n ≤ 999999) : digL (num n) = some n := by
  have hz : ¬ (1 < (num n).length ∧ ((num n).headD 0).toNat = 48) := by
    rintro ⟨h1, h2⟩
    by_cases h0 : n = 0
    · subst h0
      rw [num_small (by omega)] at h1
      simp at h1
    · exact num_head n (by omega) h2
  unfold digL
  rw [if_pos ⟨num_pos n, num_len 5 n (by omega), hz, num_all n⟩, num_val]
theorem snoc_val {l : Bs} (h : l.all Cm.isDig = true) (hl : l ≠ []) (h0 : l.length = 1 ∨ (l.headD 0).toNat ≠ 48) : num (Cm.valS l) = l := by
  induction hk : l.length generalizing l with
  | zero => simp_all
  | succ k ih =>
    have hsp := List.dropLast_concat_getLast hl
    have hb : Cm.isDig (l.getLast hl) = true := List.all_eq_true.1 h _ (List.getLast_mem hl)
    obtain ⟨b, hbe⟩ : ∃ b, b = l.getLast hl := ⟨_, rfl⟩
    obtain ⟨m, hme⟩ : ∃ m, m = l.dropLast := ⟨_, rfl⟩
    rw [← hbe] at hb hsp
    rw [← hme] at hsp
    have hml : m.length = k := by rw [hme, List.length_dropLast]; omega
    have hd : 48 ≤ b.toNat ∧ b.toNat ≤ 57 := by simpa [Cm.isDig] using hb
    have hbb : UInt8.ofNat (48 + (b.toNat - 48)) = b := by
      rw [show 48 + (b.toNat - 48) = b.toNat by omega]
      exact UInt8.ofNat_toNat
    by_cases hm : m = []
    · rw [← hsp, hm]
      show num (10 * 0 + (b.toNat - 48)) = [b]
      rw [Nat.mul_zero, Nat.zero_add, num_small (by omega), hbb]
    · have hma : m.all Cm.isDig = true := by
        rw [← hsp, List.all_append] at h
        simp only [Bool.and_eq_true] at h
        exact h.1
      have hmh : (m.headD 0).toNat ≠ 48 := by
        have e : (l.headD 0) = m.headD 0 := by
          rw [← hsp]
          cases m with
          | nil => exact absurd rfl hm
          | cons a t => rfl
        rcases h0 with h0 | h0
        · have : m.length = 0 := by omega
          exact absurd (List.length_eq_zero_iff.1 this) hm
        · rwa [e] at h0
      have hi := ih hma hm (Or.inr hmh) hml
      have hv : 1 ≤ Cm.valS m := by
        rcases Nat.lt_or_ge (Cm.valS m) 1 with hz | hz
        · have hz0 : Cm.valS m = 0 := by omega
          rw [hz0, num_small (by omega)] at hi
          rw [← hi] at hmh
          exact absurd rfl hmh
        · exact hz
      rw [← hsp, Cm.valS_snoc, num_big (by omega)]
      rw [show (10 * Cm.valS m + (b.toNat - 48)) / 10 = Cm.valS m by omega, show (10 * Cm.valS m + (b.toNat - 48)) % 10 = b.toNat - 48 by omega, hi, hbb]
theorem num_dig {l : Bs} {n : Nat} (h : digL l = some n) : l = num n ∧ n ≤ 999999 := by
  unfold digL at h
  split at h
  · rename_i hc
    injection h with h
    subst h
    have hv := Cm.valS_le l hc.2.2.2
    have hp : 10 ^ l.length ≤ 10 ^ 6 := Nat.pow_le_pow_right (by omega) hc.2.1
    refine ⟨(snoc_val hc.2.2.2 ?_ ?_).symm, by omega⟩
    · intro e
      have := hc.1
      rw [e] at this
      simp at this
    · by_cases h1 : l.length = 1
      · exact Or.inl h1
      · refine Or.inr fun e => hc.2.2.1 ⟨by omega, e⟩
  · cases h
/-- The bytes of a numeral are digits: no blank, no end of a line. -/
theorem num_plain (n : Nat) : ∀ b ∈ num n, b ≠ 32 ∧ b ≠ 10 := by
  intro b hb
  have := List.all_eq_true.1 (num_all n) b hb
  simp [Cm.isDig] at this
  constructor <;> (intro e; subst e; simp at this)

/-- A line, and what is behind it. -/
def lineS : Bs → Option (Bs × Bs)
  | [] => none
  | b :: t => if b = 10 then some ([], t) else match lineS t with | some (l, r) => some (b :: l, r) | none => none
theorem line_of {l : Bs} (h : ∀ b ∈ l, b ≠ 10) (r : Bs) : lineS (l ++ 10 :: r) = some (l, r) := by
  induction l with
  | nil => simp [lineS]
  | cons a t ih =>
    have ha : a ≠ 10 := h a (by simp)
    rw [List.cons_append, lineS, if_neg ha, ih (fun b hb => h b (by simp [hb]))]
theorem line_some {s l r : Bs} (h : lineS s = some (l, r)) : s = l ++ 10 :: r ∧ ∀ b ∈ l, b ≠ 10 := by
  induction s generalizing l r with
  | nil => cases h
  | cons a t ih =>
    rw [lineS] at h
    split at h
    · rename_i e
      subst e
      cases h
      exact ⟨rfl, by simp⟩
    · rename_i e
      split at h
      · rename_i l' r' hl
        cases h
        obtain ⟨e1, e2⟩ := ih hl
        exact ⟨by rw [e1]; rfl, by simpa using ⟨e, e2⟩⟩
      · cases h
/-- The words of a line, parted at blanks. -/
def wordsS : Bs → List Bs
  | [] => [[]]
  | b :: t => if b = 32 then [] :: wordsS t else match wordsS t with | w :: ws => (b :: w) :: ws | [] => [[b]]
theorem words_ne (l : Bs) : wordsS l ≠ [] := by
  cases l with
  | nil => simp [wordsS]
  | cons b t =>
    rw [wordsS]
    split
    · simp
    · split <;> simp
theorem words_one {l : Bs} (h : ∀ b ∈ l, b ≠ 32) : wordsS l = [l] := by
  induction l with
  | nil => rfl
  | cons a t ih =>
    have ha : a ≠ 32 := h a (by simp)
    rw [wordsS, if_neg ha, ih (fun b hb => h b (by simp [hb]))]
theorem words_cons {l : Bs} (h : ∀ b ∈ l, b ≠ 32) (r : Bs) : wordsS (l ++ 32 :: r) = l :: wordsS r := by
  induction l with
  | nil => simp [wordsS]
  | cons a t ih =>
    have ha : a ≠ 32 := h a (by simp)
    rw [List.cons_append, wordsS, if_neg ha, ih (fun b hb => h b (by simp [hb]))]
/-- The numbers of a line. -/
def numsS (l : Bs) : Option (List Nat) := (wordsS l).mapM digL
/-- Numbers, with blanks between. -/
def spell : List Nat → Bs
  | [] => []
  | [n] => num n
  | n :: ns => num n ++ 32 :: spell ns
theorem spell_plain (ns : List Nat) : ∀ b ∈ spell ns, b ≠ 10 := by
  induction ns with
  | nil => simp [spell]
  | cons n t ih =>
    cases t with
    | nil =>
      intro b hb
      exact (num_plain n b hb).2
    | cons m t =>
      intro b hb
      rw [spell] at hb
      rcases List.mem_append.1 hb with hb | hb
      · exact (num_plain n b hb).2
      · rcases List.mem_cons.1 hb with hb | hb
        · subst hb
          decide
        · exact ih b hb
      · simp
theorem nums_spell {ns : List Nat} (h : ns ≠ []) (hm : ∀ n ∈ ns, n ≤ 999999) : numsS (spell ns) = some ns := by
  induction ns with
  | nil => exact absurd rfl h
  | cons n t ih =>
    have hn := dig_num (hm n (by simp))
    cases t with
    | nil =>
      unfold numsS
      rw [spell, words_one (fun b hb => (num_plain n b hb).1)]
      simp [hn]
    | cons m t =>
      have := ih (by simp) (fun x hx => hm x (by simp [hx]))
      unfold numsS at this ⊢
      rw [spell, words_cons (fun b hb => (num_plain n b hb).1), List.mapM_cons, hn, this]
      · rfl
      · simp
theorem nums_some {l : Bs} {ns : List Nat} (h : numsS l = some ns) : ns ≠ [] ∧ ∀ n ∈ ns, n ≤ 999999 := by
  have key : ∀ (ws : List Bs) (ns : List Nat), ws.mapM digL = some ns → ns.length = ws.length ∧ ∀ n ∈ ns, n ≤ 999999 := by
    intro ws
    induction ws with
    | nil =>
      intro ns h
      simp at h
      subst h
      simp
    | cons w ws ih =>
      intro ns h
      rw [List.mapM_cons] at h
      cases hd : digL w with
      | none =>
        rw [hd] at h
        cases h
      | some n =>
        rw [hd] at h
        cases hr : ws.mapM digL with
        | none =>
          rw [hr] at h
          cases h
        | some ms =>
          rw [hr] at h
          injection h with h
          subst h
          have := ih ms hr
          have hn := (num_dig hd).2
          refine ⟨by simp [this.1], fun x hx => ?_⟩
          rcases List.mem_cons.1 hx with rfl | hx
          · exact hn
          · exact this.2 x hx
  obtain ⟨h1, h2⟩ := key _ _ h
  refine ⟨fun e => ?_, h2⟩
  rw [e] at h1
  exact words_ne l (List.length_eq_zero_iff.1 h1.symm)
end Ag
end Go.Proofs.YtdnbndknfifmgaaGreatDoor
