/- The rows over numbers: how their slice is opened. -/
import Derived.Test.YtpejilhdhkmcjaaGreatDoorJaAl
import Derived.Test.YtpejilhdhkmcjaaGreatDoorJaaf
import Derived.Deep.Slices
import Derived.Lib.SmallJoins
import Derived.Laws.CopyOwn
import Derived.MapKept
import Derived.Carry
import Derived.Lib.OthersKept
import Derived.ChangeMaps5
namespace Go.Proofs.YtpejilhdhkmcjaaGreatDoor
open Go.ChangeShapes Go.WideShapes Go.ChangeAt Go.RowKit Go.Deep Go.Joins Go.WideElems

theorem Tryz.laid2 : laidOutB Tryz.prog = true := by kernel_rfl
theorem Tryz.cellsU16 : Tryz.prog.cellsOf 40 = 1 := by kernel_rfl
section
variable {H : Type} {enc : TypeId × Value → H} {W : World} {base : Nat} {spare : Nat → Bool} {held : Bool}
theorem open_us {fuel : Nat} {v1 : Value} {x : DataW H × List MemPlace} (h : DataW.trod enc Tryz.prog W base spare held fuel 34 [v1] = some x) :
  ∃ (A : Option Addr) (c : Nat) (zs : List Int), v1 = .slice A zs.length c ∧ Us W W.heap.size A zs ∧ zs.length ≤ maxLen := by
 rcases open_slice Tryz.underlying34 h with ⟨hcs, _⟩ | ⟨a, len, cap, m, n, D, Pl, hcs, hb, hl, hm, hmm, _, hx⟩
 ·
  refine ⟨none, 0, [], ?_, fun k hk => by simp at hk, Nat.zero_le _⟩
  simpa using hcs
 have hlm : len ≤ m := by rw [hmm]; split <;> omega
 have each : ∀ i, i < len → ∃ q : Int, W.cell? (a.add (i * 1)) = some (.int .u16 q) ∧ (Lit.int .u16 q).wf = true := by
  intro i hi
  obtain ⟨cs', h1, h2⟩ := hx i (by omega)
  rw [Tryz.cellsU16] at h1
  obtain ⟨_, hlen, hcell⟩ := World.cells?_some h1
  obtain ⟨u, hu, _, wu⟩ := DataW.trod_int Tryz.underlying40 h2
  subst hu
  have e0 := hcell 0 (by omega)
  exact ⟨u, by simpa [Addr.add] using e0, wu⟩
 obtain ⟨q, hq⟩ := choose_lt each
 refine ⟨some a, cap, (List.range len).map q, ?_, fun k hk => ?_, by simp; omega⟩
 ·
  simpa using hcs
 have hk' : k < len := by simpa using hk
 obtain ⟨e1, w1⟩ := hq k hk'
 obtain ⟨b, off, spot⟩ := a
 have hspot : spot = none := by
  have := World.cell?_spot (hq 0 (by omega)).1
  simpa [Addr.add] using this
 subst hspot
 rw [add_plain, Nat.mul_one] at e1
 have bd := bounds_u16 w1
 refine ⟨b, off, rfl, ?_, ?_, ?_⟩
 ·
  exact World.block_lt_of_cell? W ⟨b, off + k, none⟩ e1
 ·
  simpa using e1
 simpa using bd
end

end Go.Proofs.YtpejilhdhkmcjaaGreatDoor
/- Plain mathematics of package eval: the values of variables and literals, in two and in three values, as functions on lists. -/
namespace Go.Proofs.YtpejilhdhkmcjaaGreatDoor.Em

section
variable {α β : Type} {f : List α → Int × Int → α}
/-- The values of the gates, one behind the other. -/
def vals (f : List α → Int × Int → α) : List α → List (Int × Int) → List α
 | v, [] => v
 | v, g :: r => vals f (v ++ [f v g]) r
end

def negL (l : Int) : Bool := decide (l % 2 = 1)
def bitB (v : List Bool) (l : Int) : Bool := v.getD (l / 2).toNat false != negL l
def gateB (v : List Bool) (g : Int × Int) : Bool := bitB v g.1 && bitB v g.2
def turnT (x : Int) : Int := if x = 2 then 2 else 1 - x
def andT (a b : Int) : Int := if a = 0 ∨ b = 0 then 0 else if a = 1 ∧ b = 1 then 1 else 2
/-- A value in three tells nothing, or the value in two. -/
def Ag (t : Int) (b : Bool) : Prop := t = 2 ∨ t = if b then 1 else 0
end Go.Proofs.YtpejilhdhkmcjaaGreatDoor.Em
/- Slices of values of one cell, rows that the call itself makes, the Bits, All and Eval of the reference; how arguments are opened; two rows that grow side by side. -/
namespace Go.Proofs.YtpejilhdhkmcjaaGreatDoor
open Go.RowKit

/-- The slice at A, which lies below block B, holds the values vs. -/
def Vs (w : World) (B : Nat) (A : Option Addr) (vs : List Value) : Prop :=
 ∀ k (hk : k < vs.length), ∃ b off, A = some ⟨b, off, none⟩ ∧ b < B ∧ w.cell? ⟨b, off + k, none⟩ = some vs[k]
theorem Vs.keep {w w' : World} {B : Nat} {A : Option Addr} {vs : List Value} (h : Vs w B A vs) (hk : ∀ p : Addr, p.block < B → w'.cell? p = w.cell? p) : Vs w' B A vs := by
 intro k hlt
 obtain ⟨b, off, rfl, hb, h1⟩ := h k hlt
 exact ⟨b, off, rfl, hb, (hk ⟨b, _, none⟩ hb).trans h1⟩
theorem Vs.below {w w' : World} {B C : Nat} {A : Option Addr} {vs : List Value} (h : Vs w B A vs) (hb : Below C w w') (hB : B ≤ C) : Vs w' B A vs :=
 h.keep fun _ hp => hb.cell (Nat.lt_of_lt_of_le hp hB)
theorem Vs.more {w : World} {B C : Nat} {A : Option Addr} {vs : List Value} (h : Vs w B A vs) (hB : B ≤ C) : Vs w C A vs := by
 intro k hlt
 obtain ⟨b, off, rfl, hb, h1⟩ := h k hlt
 exact ⟨b, off, rfl, Nat.lt_of_lt_of_le hb hB, h1⟩
abbrev bv (bs : List Bool) : List Value := bs.map .bool
abbrev iv (zs : List Int) : List Value := zs.map (.int .i64)
theorem ixI (sb off N c r : Nat) (_hm : N ≤ 1000000) (hr : r < N) (w : World) : (Instr.indexAt 26 (.slice (some ⟨sb, off, none⟩) N c) (.int .i64 (r : Int))).run Tryz.prog w = .ok (.pointer (some ⟨sb, off + r, none⟩)) w := by go_simp

theorem vs_nil {w : World} {B : Nat} {A : Option Addr} : Vs w B A [] := fun k hk => by simp at hk
/-- A row of values of one cell, of the call's own. -/
def OwnV (w : World) (base : Nat) (e : TypeId) (v : Value) (vs : List Value) : Prop := w.ownsRow base e 1 v vs.length vs
/-- A row that grows, beside which nothing turns. -/
structure RowInv (w wr : World) (e : TypeId) (v : Value) (vs : List Value) : Prop where
 low : Below w.heap.size w wr
 own : OwnV wr w.heap.size e v vs
/-- A graph in its box, and a row that grows. -/
structure RG (w wr : World) (n : Int) (s : Value) (e : TypeId) (v : Value) (vs : List Value) : Prop where
 low : Below w.heap.size w wr
 d0 : wr.cell? ⟨w.heap.size, 0, none⟩ = some (.int .i64 n)
 d1 : wr.cell? ⟨w.heap.size, 1, none⟩ = some s
 sz : w.heap.size < wr.heap.size
 own : OwnV wr (w.heap.size + 1) e v vs
section
variable {w wr w2 : World} {n : Int} {s : Value} {e : TypeId} {v v' : Value} {vs us : List Value}
end
end Go.Proofs.YtpejilhdhkmcjaaGreatDoor
/- How the laws' arguments are opened: graphs, lists of ints. Two rows that grow side by side; the mathematics of values. -/
namespace Go.Proofs.YtpejilhdhkmcjaaGreatDoor
section
open Go.ChangeShapes Go.WideShapes Go.ChangeAt Go.RowKit Go.Deep Go.Joins Go.WideElems

theorem Tryz.cellsGate : Tryz.prog.cellsOf 57 = 2 := by kernel_rfl
theorem Tryz.cellsInt : Tryz.prog.cellsOf 3 = 1 := by kernel_rfl
section
variable {H : Type} {enc : TypeId × Value → H} {W : World} {base : Nat} {spare : Nat → Bool} {held : Bool}
set_option maxRecDepth 100000 in
theorem open_gate {fuel : Nat} {a : Addr} {cs : List Value} {x : DataW H × List MemPlace} (h1 : W.cells? base a 2 = some cs) (h2 : DataW.trod enc Tryz.prog W base spare held fuel 57 cs = some x) :
  ∃ u v : Int, W.cell? a = some (.int .i64 u) ∧ W.cell? (a.add 1) = some (.int .i64 v) ∧ (Lit.int .i64 u).wf = true ∧ (Lit.int .i64 v).wf = true := by
 obtain ⟨_, hlen, hcell⟩ := World.cells?_some h1
 obtain ⟨xs, m, _, _, _, hxl, hf⟩ := DataW.trod_array Tryz.underlying57 h2
 match xs, hxl, cs, hlen with
 | [y0, y1], _, [v0, v1], _ =>
  have g0 := hf 0 (by omega)
  have g1 := hf 1 (by omega)
  simp [Tryz.cellsInt] at g0 g1
  obtain ⟨u, hu, _, wu⟩ := DataW.trod_int Tryz.underlying3 g0
  obtain ⟨v, hv, _, wv⟩ := DataW.trod_int Tryz.underlying3 g1
  have e0 := hcell 0 (by omega)
  have e1 := hcell 1 (by omega)
  simp at hu hv
  subst hu hv
  exact ⟨u, v, by simpa [Addr.add] using e0, by simpa using e1, wu, wv⟩
theorem open_gates {fuel : Nat} {v1 : Value} {x : DataW H × List MemPlace} (h : DataW.trod enc Tryz.prog W base spare held fuel 25 [v1] = some x) :
  ∃ (A : Option Addr) (c : Nat) (gs : List (Int × Int)), v1 = .slice A gs.length c ∧ Gr W W.heap.size A gs ∧ Wf gs ∧ gs.length ≤ maxLen := by
 rcases open_slice Tryz.underlying25 h with ⟨hcs, _⟩ | ⟨a, len, cap, m, n, D, Pl, hcs, hb, hl, hm, hmm, _, hx⟩
 ·
  refine ⟨none, 0, [], ?_, gr_nil, wf_nil, Nat.zero_le _⟩
  simpa using hcs
 have hlm : len ≤ m := by rw [hmm]; split <;> omega
 have each : ∀ i, i < len → ∃ q : Int × Int, W.cell? (a.add (i * 2)) = some (.int .i64 q.1) ∧ W.cell? ((a.add (i * 2)).add 1) = some (.int .i64 q.2) ∧ (Lit.int .i64 q.1).wf = true ∧ (Lit.int .i64 q.2).wf = true := by
  intro i hi
  obtain ⟨cs', h1, h2⟩ := hx i (by omega)
  rw [Tryz.cellsGate] at h1
  obtain ⟨u, v, e1, e2, w1, w2⟩ := open_gate h1 h2
  exact ⟨(u, v), e1, e2, w1, w2⟩
 obtain ⟨q, hq⟩ := choose_lt each
 refine ⟨some a, cap, (List.range len).map q, ?_, fun k hk => ?_, fun g hg => ?_, by simp; omega⟩
 ·
  simpa using hcs
 ·
  have hk' : k < len := by simpa using hk
  obtain ⟨e1, e2, _, _⟩ := hq k hk'
  obtain ⟨b, off, spot⟩ := a
  have hspot : spot = none := by
   have := World.cell?_spot (hq 0 (by omega)).1
   simpa [Addr.add] using this
  subst hspot
  rw [add_add] at e2
  rw [add_plain] at e1 e2
  refine ⟨b, off, rfl, ?_, ?_, ?_⟩
  ·
   exact World.block_lt_of_cell? W ⟨b, off + k * 2, none⟩ e1
  ·
   simpa using e1
  simpa [Nat.add_assoc] using e2
 obtain ⟨i, hi, rfl⟩ := List.mem_map.1 hg
 obtain ⟨_, _, w1, w2⟩ := hq i (List.mem_range.1 hi)
 exact ⟨bounds_i64 w1, bounds_i64 w2⟩
end
end
open Go.RowKit
namespace Em
end Em

/-- Two rows that grow side by side, beside which nothing turns. -/
structure T2 (W wr : World) (e : TypeId) (vx vy : Value) (xs ys : List Value) : Prop where
 low : Below W.heap.size W wr
 ox : OwnV wr W.heap.size e vx xs
 oy : OwnV wr W.heap.size e vy ys
 sep : vx.ownBlock = none ∨ vy.ownBlock = none ∨ vx.ownBlock ≠ vy.ownBlock
section
variable {W wr w2 : World} {e : TypeId} {vx vy v' : Value} {xs ys us : List Value}
end
namespace Em

/-- The values of all variables. -/
abbrev all (ins : List Bool) (gs : List (Int × Int)) : List Bool := vals gateB (false :: ins) gs
theorem mx (v : List Bool) (a b : Int) : (bitB v (max a b) && bitB v (min a b)) = (bitB v a && bitB v b) := by
 rcases Int.le_total a b with h | h
 ·
  rw [Int.max_eq_right h, Int.min_eq_left h, Bool.and_comm]
 rw [Int.max_eq_left h, Int.min_eq_right h]

end Em
end Go.Proofs.YtpejilhdhkmcjaaGreatDoor
/- Of package eval: two, start, fill, suits, All and Eval, of bools. -/
namespace Go.Proofs.YtpejilhdhkmcjaaGreatDoor
open Go.RowKit

/-- The package's tables lie where they were laid. -/
structure Tabs (w : World) : Prop where
 gate : ∀ i j : Nat, i < 3 → j < 3 → w.cell? ⟨0, i * 3 + j, none⟩ = some (.int .i64 (Em.andT i j))
 neg : ∀ i : Nat, i < 3 → w.cell? ⟨1, i, none⟩ = some (.int .i64 (Em.turnT i))
 sz : 2 ≤ w.heap.size
section
variable {α : Type} {f : List α → Int × Int → α}
end
end Go.Proofs.YtpejilhdhkmcjaaGreatDoor
/- Circuits in memory; maps by runes; ranges over strings; listed, width, counts, fits. -/
namespace Go.Proofs.YtpejilhdhkmcjaaGreatDoor
open Go.RowKit

/-- A name: kind, index, text. -/
abbrev Nm := Int × Int × ByteArray
/-- A circuit, and where its lists lie. -/
structure Cir where
 n : Int
 aL : Option Addr
 cL : Nat
 ls : List (Int × Int)
 aG : Option Addr
 cG : Nat
 gs : List (Int × Int)
 aO : Option Addr
 cO : Nat
 os : List Int
 aB : Option Addr
 cB : Nat
 bs : List Int
 aC : Option Addr
 cC : Nat
 cs : List Int
 aF : Option Addr
 cF : Nat
 fs : List Int
 aN : Option Addr
 cN : Nat
 ns : List Nm

/-- The slice at A holds the names ns. -/
def Ns (w : World) (B : Nat) (A : Option Addr) (ns : List Nm) : Prop :=
 ∀ k (hk : k < ns.length), ∃ b off, A = some ⟨b, off, none⟩ ∧ b < B ∧
  w.cell? ⟨b, off + k * 3, none⟩ = some (.int .u8 (ns[k]).1) ∧ w.cell? ⟨b, off + k * 3 + 1, none⟩ = some (.int .i64 (ns[k]).2.1) ∧ w.cell? ⟨b, off + k * 3 + 2, none⟩ = some (.string (ns[k]).2.2)
theorem Ns.keep {w w' : World} {B : Nat} {A : Option Addr} {ns : List Nm} (h : Ns w B A ns) (hk : ∀ p : Addr, p.block < B → w'.cell? p = w.cell? p) : Ns w' B A ns := by
 intro k hlt
 obtain ⟨b, off, rfl, hb, h1, h2, h3⟩ := h k hlt
 exact ⟨b, off, rfl, hb, (hk ⟨b, _, none⟩ hb).trans h1, (hk ⟨b, _, none⟩ hb).trans h2, (hk ⟨b, _, none⟩ hb).trans h3⟩
theorem Ns.below {w w' : World} {B C : Nat} {A : Option Addr} {ns : List Nm} (h : Ns w B A ns) (hb : Below C w w') (hB : B ≤ C) : Ns w' B A ns :=
 h.keep fun _ hp => hb.cell (Nat.lt_of_lt_of_le hp hB)
theorem Ns.more {w : World} {B C : Nat} {A : Option Addr} {ns : List Nm} (h : Ns w B A ns) (hB : B ≤ C) : Ns w C A ns := by
 intro k hlt
 obtain ⟨b, off, rfl, hb, h1⟩ := h k hlt
 exact ⟨b, off, rfl, Nat.lt_of_lt_of_le hb hB, h1⟩
/-- The circuit's lists lie in memory. -/
structure CirM (w : World) (B : Nat) (c : Cir) : Prop where
 hl : Gr w B c.aL c.ls
 hg : Gr w B c.aG c.gs
 ho : Vs w B c.aO (iv c.os)
 hb : Vs w B c.aB (iv c.bs)
 hc : Vs w B c.aC (iv c.cs)
 hf : Vs w B c.aF (iv c.fs)
 hn : Ns w B c.aN c.ns
theorem CirM.below {w w' : World} {B C : Nat} {c : Cir} (h : CirM w B c) (hb : Below C w w') (hB : B ≤ C) : CirM w' B c :=
 ⟨h.hl.below hb hB, h.hg.below hb hB, h.ho.below hb hB, h.hb.below hb hB, h.hc.below hb hB, h.hf.below hb hB, h.hn.below hb hB⟩
theorem CirM.more {w : World} {B C : Nat} {c : Cir} (h : CirM w B c) (hB : B ≤ C) : CirM w C c :=
 ⟨h.hl.more hB, h.hg.more hB, h.ho.more hB, h.hb.more hB, h.hc.more hB, h.hf.more hB, h.hn.more hB⟩
def I64 (x : Int) : Prop := -9223372036854775808 ≤ x ∧ x ≤ 9223372036854775807
def IWf (xs : List Int) : Prop := ∀ x ∈ xs, I64 x
/-- The numbers are numbers of their kinds; the lists are as long as lists may be. -/
structure CirW (c : Cir) : Prop where
 hn : I64 c.n
 hl : Wf c.ls
 hg : Wf c.gs
 ho : IWf c.os
 hb : IWf c.bs
 hc : IWf c.cs
 hf : IWf c.fs
 hk : ∀ x ∈ c.ns, (0 ≤ x.1 ∧ x.1 ≤ 255) ∧ I64 x.2.1 ∧ x.2.2.size ≤ maxLen
 ll : c.ls.length ≤ 1000000
 lg : c.gs.length ≤ 1000000
 lo : c.os.length ≤ maxLen
 lb : c.bs.length ≤ maxLen
 lc : c.cs.length ≤ maxLen
 lf : c.fs.length ≤ maxLen
 ln : c.ns.length ≤ 1000000

namespace Cm
def kindAt (k : Nat) : Int := [105, 108, 111, 98, 99, 102].getD k 0
def kinds : ByteArray := ⟨#[105, 108, 111, 98, 99, 102]⟩
/-- How many signals of a kind are listed. -/
def lstS (c : Cir) (k : Int) : List Int := if k = 111 then c.os else if k = 98 then c.bs else if k = 99 then c.cs else if k = 102 then c.fs else []
def numS (c : Cir) (k : Int) : Int := if k = 105 then c.n else if k = 108 then c.ls.length else (lstS c k).length
end Cm

/-- Block b of w is o. -/
def Hp (w : World) (b : Nat) (o : Obj) : Prop := w.heap[b]? = some o
theorem Hp.lt {w : World} {b : Nat} {o : Obj} (h : Hp w b o) : b < w.heap.size := (Array.getElem?_eq_some_iff.1 h).1
theorem Hp.below {w w' : World} {b B : Nat} {o : Obj} (h : Hp w b o) (hb : Below B w w') (hB : b < B) : Hp w' b o := (hb.block b hB).trans h
theorem Hp.grown {w w' : World} {b : Nat} {o : Obj} {row : Option Nat} (h : Hp w b o) (hg : w.grownBy w' row) (hne : some b ≠ row) : Hp w' b o := (hg.block b h.lt hne).trans h
theorem Hp.new (w : World) (o : Obj) : Hp (w.alloc o) w.heap.size o := heap_alloc_new w o
theorem Hp.alloc {w : World} {b : Nat} {o : Obj} (h : Hp w b o) (o' : Obj) : Hp (w.alloc o') b o := (Below.heap_alloc w o' b h.lt).trans h
theorem set_grown {w : World} {b : Nat} {o : Obj} (h : Hp w b o) (o' : Obj) : Hp { w with heap := w.heap.setIfInBounds b o' } b o' ∧ w.grownBy { w with heap := w.heap.setIfInBounds b o' } (some b) := by
 have hlt := h.lt
 refine ⟨by simp [Hp, hlt], rfl, rfl, rfl, by simp, fun i _ hne => ?_⟩
 have : b ≠ i := fun e => hne (by rw [e])
 simp [this]
theorem below_grown {w V V' : World} {B b : Nat} (h : Below B w V) (hg : V.grownBy V' (some b)) (hB : B ≤ b) (hs : B ≤ V.heap.size) : Below B w V' :=
 h.grown hg hs (fun k e => by injection e with e; omega)

/-- A step of a range over a string. -/
theorem next_any (w : World) (ib : Nat) (s : ByteArray) (pos : Nat) (hk : Hp w ib (.stringIter s pos)) (h : pos < s.size) :
  ∃ wn, (∀ ty, (Instr.next (.pointer (some ⟨ib, 0, none⟩)) true ty).run Tryz.prog w = .ok (.tuple #[.bool true, .int .i64 pos, .int .i32 (Utf8.decode s pos).1]) wn) ∧ Hp wn ib (.stringIter s (pos + (Utf8.decode s pos).2)) ∧ w.grownBy wn (some ib) := by
 have := set_grown hk (.stringIter s (pos + (Utf8.decode s pos).2))
 exact ⟨_, fun ty => Lib.run_next_any_at w ib s pos ty hk h, this.1, this.2⟩
theorem next_end (w : World) (ib : Nat) (s : ByteArray) (pos : Nat) (hk : Hp w ib (.stringIter s pos)) (h : ¬ pos < s.size) :
  ∀ ty, (Instr.next (.pointer (some ⟨ib, 0, none⟩)) true ty).run Tryz.prog w = .ok (.tuple #[.bool false]) w := fun ty => Lib.run_next_end_at w ib s pos ty hk h
/-- Where a range over a string stands. -/
def iterPos (w : World) (b : Nat) : Nat := match w.heap[b]? with | some (.stringIter _ p) => p | _ => 0
theorem Hp.pos {w : World} {b : Nat} {s : ByteArray} {p : Nat} (h : Hp w b (.stringIter s p)) : iterPos w b = p := by
 unfold Hp at h
 simp [iterPos, h]

/-- The map of numbers by kinds, of the first k of them. -/
def ents (L : Nat → Int) (k : Nat) : List MapEntry := (List.range k).map fun i => ⟨.int .i32 (Cm.kindAt i), .int .i64 (L i), i⟩
def cmap (L : Nat → Int) (k : Nat) : Obj := .map (ents L k).toArray k
theorem keyIs (j : Int) : MapKept.IsKey (.int .i32) (.int .i32 j) := by simp [MapKept.IsKey]
theorem store_new (w : World) (b : Nat) (es : List MapEntry) (clock : Nat) (j : Int) (v : Value) (hb : Hp w b (.map es.toArray clock)) (hf : Instr.findNow (.int .i32) (.int .i32 j) es 0 = some none) :
  ∃ wn, (Instr.mapUpdate 108 (.map (some b)) (.int .i32 j) v).run Tryz.prog w = .ok () wn ∧ Hp wn b (.map (es ++ [MapEntry.mk (.int .i32 j) v clock]).toArray (clock + 1)) ∧ w.grownBy wn (some b) := by
 have hs := set_grown hb (.map (es ++ [MapEntry.mk (.int .i32 j) v clock]).toArray (clock + 1))
 refine ⟨_, ?_, hs.1, hs.2⟩
 simp only [Instr.mapUpdate, Sem.run_bind, run_underlying Tryz.underlying108, Result.andThen, MapKept.run_getObj_map hb, MapKept.run_checkKey Tryz.underlying21 (keyIs j), MapKept.run_findKey Tryz.underlying21 hf]
 rw [MapKept.run_setObj_map _ hb]
 simp
theorem store_old (w : World) (b : Nat) (es : List MapEntry) (clock : Nat) (j : Int) (v v0 : Value) (i : Nat) (e0 : MapEntry) (hb : Hp w b (.map es.toArray clock)) (hf : Instr.findNow (.int .i32) (.int .i32 j) es 0 = some (some (i, v0))) (he : es[i]? = some e0) (hk : e0.key = .int .i32 j) :
  ∃ wn, (Instr.mapUpdate 108 (.map (some b)) (.int .i32 j) v).run Tryz.prog w = .ok () wn ∧ Hp wn b (.map (es.modify i (fun e => { e with key := .int .i32 j, val := v })).toArray clock) ∧ w.grownBy wn (some b) := by
 have hs := set_grown hb (.map (es.modify i (fun e => { e with key := .int .i32 j, val := v })).toArray clock)
 refine ⟨_, ?_, hs.1, hs.2⟩
 have hsb : Instr.sameBits 10000 (.int .i32 j) (.int .i32 j) = true := by simp [Instr.sameBits]
 simp only [Instr.mapUpdate, Sem.run_bind, run_underlying Tryz.underlying108, Result.andThen, MapKept.run_getObj_map hb, MapKept.run_checkKey Tryz.underlying21 (keyIs j), MapKept.run_findKey Tryz.underlying21 hf, Instr.keyThatStays]
 simp only [List.getElem?_toArray, he, Option.map_some, Option.getD_some, hk, hsb, if_true, Sem.run_pure]
 rw [MapKept.run_setObj_map _ hb]
 simp
theorem look_any (w : World) (b : Nat) (es : List MapEntry) (clock : Nat) (j x : Int) (hb : Hp w b (.map es.toArray clock)) (hf : (Instr.findNow (.int .i32) (.int .i32 j) es 0 = some none ∧ x = 0) ∨ ∃ i, Instr.findNow (.int .i32) (.int .i32 j) es 0 = some (some (i, .int .i64 x))) :
  (Instr.lookup 108 (.map (some b)) (.int .i32 j) false).run Tryz.prog w = .ok (.int .i64 x) w := by
 have hz : (zeroValue 3).run Tryz.prog w = .ok (.int .i64 0) w := by kernel_rfl
 rcases hf with ⟨hf, rfl⟩ | ⟨i, hf⟩
 ·
  simp only [Instr.lookup, Sem.run_bind, run_underlying Tryz.underlying108, Result.andThen, MapKept.run_getObj_map hb, Sem.run_pure, MapKept.run_checkKey Tryz.underlying21 (keyIs j), MapKept.run_findKey Tryz.underlying21 hf, hz]
  rfl
 simp only [Instr.lookup, Sem.run_bind, run_underlying Tryz.underlying108, Result.andThen, MapKept.run_getObj_map hb, Sem.run_pure, MapKept.run_checkKey Tryz.underlying21 (keyIs j), MapKept.run_findKey Tryz.underlying21 hf]
 rfl
end Go.Proofs.YtpejilhdhkmcjaaGreatDoor
