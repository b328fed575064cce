/- The reference's Signal, Find, Is, After. -/
import Derived.Test.YtpejilhdhkmcjaaGreatDoorJaAl
import Derived.Test.YtpejilhdhkmcjaaGreatDoorJaao
import Derived.Test.YtpejilhdhkmcjaaGreatDoorJaaf
import Derived.ChangeMaps5
import Derived.Deep.Fields
namespace Go.Proofs.YtpejilhdhkmcjaaGreatDoor
open Go.RowKit

end Go.Proofs.YtpejilhdhkmcjaaGreatDoor
/- The reference's Find. -/
namespace Go.Proofs.YtpejilhdhkmcjaaGreatDoor
open Go.RowKit

end Go.Proofs.YtpejilhdhkmcjaaGreatDoor
/- The reference's Same, of equal graphs. -/
namespace Go.Proofs.YtpejilhdhkmcjaaGreatDoor
open Go.RowKit

set_option maxRecDepth 100000 in
set_option maxHeartbeats 4000000 in
theorem same_true (n : Int) (A A2 : Option Addr) (c c2 : Nat) (gs : List (Int × Int)) (w : World) (hl : gs.length ≤ 1000000) (hg : Gr w w.heap.size A gs) (hg2 : Gr w w.heap.size A2 gs) :
  Calls Tryz.prog 39 #[.agg #[.int .i64 n, .slice A gs.length c], .agg #[.int .i64 n, .slice A2 gs.length c2]] w fun e w' => e = .returned (.bool true) ∧ Below w.heap.size w w' := by
 have b1 : (n != n) = false := by simp
 have b2 : ((gs.length : Int) != (gs.length : Int)) = false := by simp
 have HL := Lib.hid hl
 obtain ⟨W, hW⟩ : ∃ W, W = ((w.alloc (Obj.cells #[Value.int .i64 n, .slice A gs.length c] 64)).alloc (Obj.cells #[.int .i64 n, .slice A2 gs.length c2] 64)) := ⟨_, rfl⟩
 have hbw : Below w.heap.size w W := by rw [hW]; exact ((Below.refl w.heap.size w).alloc (Nat.le_refl _) _).alloc (by simp) _
 have d1 : W.cell? ⟨w.heap.size, 1, none⟩ = some (.slice A gs.length c) := by rw [hW]; go_simp
 have d2 : W.cell? ⟨w.heap.size + 1, 1, none⟩ = some (.slice A2 gs.length c2) := by rw [hW]; go_simp
 go_enter Tryz.func39, Tryz.ntmps39
 go_wp2
 rw [← hW]
 clear hW b1 b2
 go_loopw [5] (fun j wr => ∃ k : Nat, k ≤ gs.length ∧ j = .int .i64 (k : Int) ∧ ∃ q, wr = W.drewN q) (fun j _ => gs.length - (intOf j).toNat)
 case atStart => exact ⟨0, Nat.zero_le _, rfl, 0, rfl⟩
 obtain ⟨k, hk, rfl, q, rfl⟩ := hrel
 by_cases hlt : k < gs.length
 ·
  obtain ⟨b, off, hA, _, g1, g2⟩ := (hg.below hbw (Nat.le_refl _)) k hlt
  obtain ⟨b2, off2, hA2, _, g3, g4⟩ := (hg2.below hbw (Nat.le_refl _)) k hlt
  subst hA hA2
  have hix := ix2 b off gs.length c k HL.out hlt
  have hix2 := ix2 b2 off2 gs.length c2 k HL.out hlt
  have hgu := eqGuard2
  generalize gs[k] = g at *
  obtain ⟨x, y⟩ := g
  simp only at g1 g2 g3 g4
  have hel := neq_arr2 x y x y
  rw [show (!(x == x && y == y)) = false by simp] at hel
  go_wp2
  go_quiet (fail)
  go_wp2
  go_roundw
  case rel => exact ⟨k + 1, by omega, by go_num, q + nq, rfl⟩
  case measure => simp [intOf]; omega
 go_wp2
 go_ret
 exact ⟨rfl, below_drewN hbw _⟩
end Go.Proofs.YtpejilhdhkmcjaaGreatDoor
/- same of layer 4: what the program tells of a circuit is what the document says. -/
namespace Go.Proofs.YtpejilhdhkmcjaaGreatDoor
open Go.RowKit

end Go.Proofs.YtpejilhdhkmcjaaGreatDoor
/- How a circuit that came in is opened. -/
namespace Go.Proofs.YtpejilhdhkmcjaaGreatDoor
open Go.ChangeShapes Go.WideShapes Go.ChangeAt Go.RowKit Go.Deep Go.Joins Go.WideElems

theorem Tryz.cellsLatch : Tryz.prog.cellsOf 49 = 2 := by kernel_rfl
theorem Tryz.cellsName : Tryz.prog.cellsOf 69 = 3 := by kernel_rfl
theorem Tryz.cellsCircuit : Tryz.prog.cellsOf 29 = 8 := by kernel_rfl
/-- What is known of a circuit that came in. -/
structure CirO (c : Cir) : Prop where
 hn : I64 c.n
 hl : Wf c.ls
 hg : Wf c.gs
 ho : IWf c.os
 hb : IWf c.bs
 hc : IWf c.cs
 hf : IWf c.fs
 hk : ∀ x ∈ c.ns, (0 ≤ x.1 ∧ x.1 ≤ 255) ∧ I64 x.2.1 ∧ x.2.2.size ≤ maxLen
 ml : c.ls.length ≤ maxLen
 mg : c.gs.length ≤ maxLen
 lo : c.os.length ≤ maxLen
 lb : c.bs.length ≤ maxLen
 lc : c.cs.length ≤ maxLen
 lf : c.fs.length ≤ maxLen
 mn : c.ns.length ≤ maxLen
 cap : c.ns.length ≤ c.cN
theorem array8 {α : Type} {cs : Array α} (h : cs.size = 8) : ∃ c0 c1 c2 c3 c4 c5 c6 c7, cs = #[c0, c1, c2, c3, c4, c5, c6, c7] := by
 obtain ⟨l⟩ := cs
 match l, h with
 | [c0, c1, c2, c3, c4, c5, c6, c7], _ => exact ⟨c0, c1, c2, c3, c4, c5, c6, c7, rfl⟩
section
variable {H : Type} {enc : TypeId × Value → H} {W : World} {base : Nat} {spare : Nat → Bool} {held : Bool}
set_option maxRecDepth 100000 in
theorem open_latches {fuel : Nat} {v1 : Value} {x : DataW H × List MemPlace} (h : DataW.trod enc Tryz.prog W base spare held fuel 24 [v1] = some x) :
  ∃ (A : Option Addr) (c : Nat) (gs : List (Int × Int)), v1 = .slice A gs.length c ∧ Gr W W.heap.size A gs ∧ Wf gs ∧ gs.length ≤ maxLen := by
 rcases open_slice Tryz.underlying24 h with ⟨hcs, _⟩ | ⟨a, len, cap, m, n, D, Pl, hcs, hb, hl, hm, hmm, _, hx⟩
 ·
  refine ⟨none, 0, [], ?_, gr_nil, wf_nil, Nat.zero_le _⟩
  simpa using hcs
 have hlm : len ≤ m := by rw [hmm]; split <;> omega
 have each : ∀ i, i < len → ∃ q : Int × Int, W.cell? (a.add (i * 2)) = some (.int .i64 q.1) ∧ W.cell? ((a.add (i * 2)).add 1) = some (.int .i64 q.2) ∧ (Lit.int .i64 q.1).wf = true ∧ (Lit.int .i64 q.2).wf = true := by
  intro i hi
  obtain ⟨cs', h1, h2⟩ := hx i (by omega)
  rw [Tryz.cellsLatch] at h1
  obtain ⟨_, hlen, hcell⟩ := World.cells?_some h1
  obtain ⟨y0, y1, n', _, _, g0, g1⟩ := trod_struct2 Tryz.underlying49 h2
  match cs', hlen with
  | [v0, v1], _ =>
   simp [Tryz.cellsInt] at g0 g1
   obtain ⟨u, hu, _, wu⟩ := DataW.trod_int Tryz.underlying3 g0
   obtain ⟨v, hv, _, wv⟩ := DataW.trod_int Tryz.underlying3 g1
   have e0 := hcell 0 (by omega)
   have e1 := hcell 1 (by omega)
   simp at hu hv
   subst hu hv
   exact ⟨(u, v), by simpa [Addr.add] using e0, by simpa using e1, wu, wv⟩
 obtain ⟨q, hq⟩ := choose_lt each
 refine ⟨some a, cap, (List.range len).map q, ?_, fun k hk => ?_, fun g hg => ?_, by simp; omega⟩
 ·
  simpa using hcs
 ·
  have hk' : k < len := by simpa using hk
  obtain ⟨e1, e2, _, _⟩ := hq k hk'
  obtain ⟨b, off, spot⟩ := a
  have hspot : spot = none := by
   have := World.cell?_spot (hq 0 (by omega)).1
   simpa [Addr.add] using this
  subst hspot
  rw [add_add] at e2
  rw [add_plain] at e1 e2
  refine ⟨b, off, rfl, ?_, ?_, ?_⟩
  ·
   exact World.block_lt_of_cell? W ⟨b, off + k * 2, none⟩ e1
  ·
   simpa using e1
  simpa [Nat.add_assoc] using e2
 obtain ⟨i, hi, rfl⟩ := List.mem_map.1 hg
 obtain ⟨_, _, w1, w2⟩ := hq i (List.mem_range.1 hi)
 exact ⟨bounds_i64 w1, bounds_i64 w2⟩
theorem open_ints4 {fuel : Nat} {v1 : Value} {x : DataW H × List MemPlace} (h : DataW.trod enc Tryz.prog W base spare held fuel 26 [v1] = some x) :
  ∃ (A : Option Addr) (c : Nat) (zs : List Int), v1 = .slice A zs.length c ∧ Vs W W.heap.size A (iv zs) ∧ IWf zs ∧ zs.length ≤ maxLen := by
 rcases open_slice Tryz.underlying26 h with ⟨hcs, _⟩ | ⟨a, len, cap, m, n, D, Pl, hcs, hb, hl, hm, hmm, _, hx⟩
 ·
  refine ⟨none, 0, [], ?_, vs_nil, fun x hx => by simp at hx, Nat.zero_le _⟩
  simpa using hcs
 have hlm : len ≤ m := by rw [hmm]; split <;> omega
 have each : ∀ i, i < len → ∃ q : Int, W.cell? (a.add (i * 1)) = some (.int .i64 q) ∧ (Lit.int .i64 q).wf = true := by
  intro i hi
  obtain ⟨cs', h1, h2⟩ := hx i (by omega)
  rw [Tryz.cellsInt] at h1
  obtain ⟨_, hlen, hcell⟩ := World.cells?_some h1
  obtain ⟨u, hu, _, wu⟩ := DataW.trod_int Tryz.underlying3 h2
  subst hu
  have e0 := hcell 0 (by omega)
  exact ⟨u, by simpa [Addr.add] using e0, wu⟩
 obtain ⟨q, hq⟩ := choose_lt each
 refine ⟨some a, cap, (List.range len).map q, ?_, fun k hk => ?_, fun x hx => ?_, by simp; omega⟩
 ·
  simpa using hcs
 ·
  have hk' : k < len := by simpa [iv] using hk
  obtain ⟨e1, w1⟩ := hq k hk'
  obtain ⟨b, off, spot⟩ := a
  have hspot : spot = none := by
   have := World.cell?_spot (hq 0 (by omega)).1
   simpa [Addr.add] using this
  subst hspot
  rw [add_plain, Nat.mul_one] at e1
  refine ⟨b, off, rfl, World.block_lt_of_cell? W ⟨b, off + k, none⟩ e1, ?_⟩
  simpa [iv] using e1
 obtain ⟨i, hi, rfl⟩ := List.mem_map.1 hx
 exact bounds_i64 (hq i (List.mem_range.1 hi)).2
end

namespace Cm
end Cm
end Go.Proofs.YtpejilhdhkmcjaaGreatDoor
/- Made of layer 1, once more: its gates lie in new memory. -/
namespace Go.Proofs.YtpejilhdhkmcjaaGreatDoor
open Go.RowKit

end Go.Proofs.YtpejilhdhkmcjaaGreatDoor
/- pick, of Made of layer 4. -/
namespace Go.Proofs.YtpejilhdhkmcjaaGreatDoor
open Go.RowKit

namespace Cm
end Cm
end Go.Proofs.YtpejilhdhkmcjaaGreatDoor
/- Rows of one list's elements that the call itself makes, one element more at a time: numbers, latches, names. -/
namespace Go.Proofs.YtpejilhdhkmcjaaGreatDoor
open Go.RowKit

theorem app_own (w : World) (base : Nat) (t ty e : TypeId) (i : TypeInfo) (z : Value) (size bytes : Nat) (ht : Tryz.prog.underlying t = some (.slice e)) (hi : Tryz.prog.info? e = some i) (hz : i.zero = some z)
  (hsize : i.size = size) (hby : i.bytes = bytes) (hb : bytes ≤ 64) (hzs : z.cells.size = size) (hsz : 0 < size) (v : Value) (n : Nat) (xs : List Value) (hown : w.ownsRow base e size v n xs)
  (b c : Nat) (cs : List Value) (hbk : Blk w b e cs.toArray) (hl : cs.length = size) (h1 : ∀ u ∈ cs, u.oneCell' = true) (hn : n ≤ 100000) (hbase : base ≤ w.heap.size) :
  ∃ v' w', (Builtin.append_ #[t, t] ty #[v, .slice (some ⟨b, 0, none⟩) 1 c]).run Tryz.prog w = .ok v' w' ∧ w'.ownsRow base e size v' (n + 1) (xs ++ cs) ∧ w.grownBy w' v.ownBlock ∧ (v'.ownBlock = v.ownBlock ∨ v'.ownBlock = some w.heap.size) := by
 have hcell : ∀ j u, cs[j]? = some u → w.cell? ((⟨b, 0, none⟩ : Addr).add j) = some u := by
  intro j u hj
  have ha : (⟨b, 0, none⟩ : Addr).add j = ⟨b, j, none⟩ := by
   simp [Addr.add]
   exact fun h => h.symm
  rw [ha, hbk.cell j]
  simpa using hj
 have hbb : (n + 1) * bytes ≤ 140737488355328 := by
  have h := Nat.mul_le_mul (show n + 1 ≤ 100001 by omega) hb
  omega
 obtain ⟨v', w', r1, r2, r3, _, r5⟩ := run_append_own_at (P := Tryz.prog) w base t ty e i z size bytes ht hi hz hsize hby hzs hsz v n xs hown ⟨b, 0, none⟩ 1 c cs (by rw [hl, Nat.one_mul]) hcell h1 (by unfold maxLen; omega) hbb hbase
 exact ⟨v', w', r1, r2, r3, r5⟩
theorem app_u16 (w : World) (base : Nat) (ty : TypeId) (v : Value) (n : Nat) (xs : List Value) (hown : w.ownsRow base 40 1 v n xs) (b c : Nat) (x : Int) (hbk : Blk w b 40 #[.int .u16 x]) (hn : n ≤ 100000) (hbase : base ≤ w.heap.size) :
  ∃ v' w', (Builtin.append_ #[34, 34] ty #[v, .slice (some ⟨b, 0, none⟩) 1 c]).run Tryz.prog w = .ok v' w' ∧ w'.ownsRow base 40 1 v' (n + 1) (xs ++ [.int .u16 x]) ∧ w.grownBy w' v.ownBlock ∧ (v'.ownBlock = v.ownBlock ∨ v'.ownBlock = some w.heap.size) :=
 app_own w base 34 ty 40 Tryz.t40 (.int .u16 0) 1 2 Tryz.underlying34 (by kernel_rfl) (by kernel_rfl) (by kernel_rfl) (by kernel_rfl) (by omega) (by kernel_rfl) (by omega) v n xs hown b c [.int .u16 x] hbk rfl (fun u hu => by simp at hu; subst hu; rfl) hn hbase
theorem app_int (w : World) (base : Nat) (ty : TypeId) (v : Value) (n : Nat) (xs : List Value) (hown : w.ownsRow base 3 1 v n xs) (b c : Nat) (x : Int) (hbk : Blk w b 3 #[.int .i64 x]) (hn : n ≤ 100000) (hbase : base ≤ w.heap.size) :
  ∃ v' w', (Builtin.append_ #[26, 26] ty #[v, .slice (some ⟨b, 0, none⟩) 1 c]).run Tryz.prog w = .ok v' w' ∧ w'.ownsRow base 3 1 v' (n + 1) (xs ++ [.int .i64 x]) ∧ w.grownBy w' v.ownBlock ∧ (v'.ownBlock = v.ownBlock ∨ v'.ownBlock = some w.heap.size) :=
 app_own w base 26 ty 3 Tryz.t3 (.int .i64 0) 1 8 Tryz.underlying26 (by kernel_rfl) (by kernel_rfl) (by kernel_rfl) (by kernel_rfl) (by omega) (by kernel_rfl) (by omega) v n xs hown b c [.int .i64 x] hbk rfl (fun u hu => by simp at hu; subst hu; rfl) hn hbase
theorem app_latch (w : World) (base : Nat) (ty : TypeId) (v : Value) (n : Nat) (xs : List Value) (hown : w.ownsRow base 49 2 v n xs) (b c : Nat) (x y : Int) (hbk : Blk w b 49 #[.int .i64 x, .int .i64 y]) (hn : n ≤ 100000) (hbase : base ≤ w.heap.size) :
  ∃ v' w', (Builtin.append_ #[24, 24] ty #[v, .slice (some ⟨b, 0, none⟩) 1 c]).run Tryz.prog w = .ok v' w' ∧ w'.ownsRow base 49 2 v' (n + 1) (xs ++ [.int .i64 x, .int .i64 y]) ∧ w.grownBy w' v.ownBlock ∧ (v'.ownBlock = v.ownBlock ∨ v'.ownBlock = some w.heap.size) :=
 app_own w base 24 ty 49 Tryz.t49 (.agg #[.int .i64 0, .int .i64 0]) 2 16 Tryz.underlying24 (by kernel_rfl) (by kernel_rfl) (by kernel_rfl) (by kernel_rfl) (by omega) (by kernel_rfl) (by omega) v n xs hown b c [.int .i64 x, .int .i64 y] hbk rfl (fun u hu => by simp at hu; rcases hu with rfl | rfl <;> rfl) hn hbase
theorem app_name (w : World) (base : Nat) (ty : TypeId) (v : Value) (n : Nat) (xs : List Value) (hown : w.ownsRow base 69 3 v n xs) (b c : Nat) (k x : Int) (s : ByteArray) (hbk : Blk w b 69 #[.int .u8 k, .int .i64 x, .string s]) (hn : n ≤ 100000) (hbase : base ≤ w.heap.size) :
  ∃ v' w', (Builtin.append_ #[27, 27] ty #[v, .slice (some ⟨b, 0, none⟩) 1 c]).run Tryz.prog w = .ok v' w' ∧ w'.ownsRow base 69 3 v' (n + 1) (xs ++ [.int .u8 k, .int .i64 x, .string s]) ∧ w.grownBy w' v.ownBlock ∧ (v'.ownBlock = v.ownBlock ∨ v'.ownBlock = some w.heap.size) :=
 app_own w base 27 ty 69 Tryz.t69 (.agg #[.int .u8 0, .int .i64 0, .string ⟨#[]⟩]) 3 32 Tryz.underlying27 (by kernel_rfl) (by kernel_rfl) (by kernel_rfl) (by kernel_rfl) (by omega) (by kernel_rfl) (by omega) v n xs hown b c [.int .u8 k, .int .i64 x, .string s] hbk rfl (fun u hu => by simp at hu; rcases hu with rfl | rfl | rfl <;> rfl) hn hbase

/-- The cells of names. -/
def flatN : List Nm → List Value
 | [] => []
 | x :: r => .int .u8 x.1 :: .int .i64 x.2.1 :: .string x.2.2 :: flatN r
theorem flatN_append (ns ms : List Nm) : flatN (ns ++ ms) = flatN ns ++ flatN ms := by
 induction ns with
 | nil => rfl
 | cons g r ih => simp [flatN, ih]
theorem flatN_get (ns : List Nm) (k : Nat) (h : k < ns.length) : (flatN ns)[k * 3]? = some (.int .u8 (ns[k]).1) ∧ (flatN ns)[k * 3 + 1]? = some (.int .i64 (ns[k]).2.1) ∧ (flatN ns)[k * 3 + 2]? = some (.string (ns[k]).2.2) := by
 induction ns generalizing k with
 | nil => simp at h
 | cons g r ih =>
  cases k with
  | zero => simp [flatN]
  | succ k =>
   have := ih k (by simpa using h)
   rw [show (k + 1) * 3 = k * 3 + 1 + 1 + 1 by omega]
   simpa [flatN] using this
/-- A row of the call's own, as its list. -/
theorem latch_gr {w : World} {base : Nat} {v : Value} {ls : List (Int × Int)} (h : w.ownsRow base 49 2 v ls.length (flat ls)) : ∃ A c, v = .slice A ls.length c ∧ Gr w w.heap.size A ls := by
 obtain ⟨_, h2⟩ := h
 rcases h2 with ⟨rfl, h0⟩ | ⟨g, cap, cur, rfl, _, hh, hn, _, hs, ht⟩
 ·
  exact ⟨none, 0, by rw [h0], fun k hk => by omega⟩
 refine ⟨_, cap, rfl, fun k hk => ⟨g, 0, rfl, Blk.lt (t := 49) hh, ?_, ?_⟩⟩
 ·
  obtain ⟨f1, _⟩ := flat_get ls k hk
  rw [← ht, List.getElem?_take_of_lt (by omega)] at f1
  rw [Nat.zero_add, Blk.cell (t := 49) hh, ← Array.getElem?_toList]
  exact f1
 obtain ⟨_, f2⟩ := flat_get ls k hk
 rw [← ht, List.getElem?_take_of_lt (by omega)] at f2
 rw [Nat.zero_add, Blk.cell (t := 49) hh, ← Array.getElem?_toList]
 exact f2
theorem name_ns {w : World} {base : Nat} {v : Value} {ns : List Nm} (h : w.ownsRow base 69 3 v ns.length (flatN ns)) : ∃ A c, v = .slice A ns.length c ∧ Ns w w.heap.size A ns ∧ ns.length ≤ c := by
 obtain ⟨_, h2⟩ := h
 rcases h2 with ⟨rfl, h0⟩ | ⟨g, cap, cur, rfl, _, hh, hn, _, hs, ht⟩
 ·
  exact ⟨none, 0, by rw [h0], fun k hk => by omega, by omega⟩
 refine ⟨_, cap, rfl, fun k hk => ⟨g, 0, rfl, Blk.lt (t := 69) hh, ?_, ?_, ?_⟩, hn⟩
 ·
  obtain ⟨f1, _⟩ := flatN_get ns k hk
  rw [← ht, List.getElem?_take_of_lt (by omega)] at f1
  rw [Nat.zero_add, Blk.cell (t := 69) hh, ← Array.getElem?_toList]
  exact f1
 ·
  obtain ⟨_, f2, _⟩ := flatN_get ns k hk
  rw [← ht, List.getElem?_take_of_lt (by omega)] at f2
  rw [Nat.zero_add, Blk.cell (t := 69) hh, ← Array.getElem?_toList]
  exact f2
 obtain ⟨_, _, f3⟩ := flatN_get ns k hk
 rw [← ht, List.getElem?_take_of_lt (by omega)] at f3
 rw [Nat.zero_add, Blk.cell (t := 69) hh, ← Array.getElem?_toList]
 exact f3
end Go.Proofs.YtpejilhdhkmcjaaGreatDoor
