/- The rows over numbers: how their slice is opened. -/
import Derived.Test.YtpejilhdhkmcjaaGreatDoorJbAl
import Derived.Test.YtpejilhdhkmcjaaGreatDoorJbag
import Derived.Deep.Slices
import Derived.Lib.SmallJoins
import Derived.Laws.CopyOwn
import Derived.MapKept
import Derived.Carry
import Derived.Lib.OthersKept
import Derived.ChangeMaps5
namespace Go.Proofs.YtpejilhdhkmcjaaGreatDoor
open Go.ChangeShapes Go.WideShapes Go.ChangeAt Go.RowKit Go.Deep Go.Joins Go.WideElems

theorem Tryz.laid2 : laidOutB Tryz.prog = true := by kernel_rfl
theorem Tryz.cellsU16 : Tryz.prog.cellsOf 40 = 1 := by kernel_rfl
section
variable {H : Type} {enc : TypeId × Value → H} {W : World} {base : Nat} {spare : Nat → Bool} {held : Bool}
theorem open_us {fuel : Nat} {v1 : Value} {x : DataW H × List MemPlace} (h : DataW.trod enc Tryz.prog W base spare held fuel 34 [v1] = some x) :
  ∃ (A : Option Addr) (c : Nat) (zs : List Int), v1 = .slice A zs.length c ∧ Us W W.heap.size A zs ∧ zs.length ≤ maxLen := by
 rcases open_slice Tryz.underlying34 h with ⟨hcs, _⟩ | ⟨a, len, cap, m, n, D, Pl, hcs, hb, hl, hm, hmm, _, hx⟩
 ·
  refine ⟨none, 0, [], ?_, fun k hk => by simp at hk, Nat.zero_le _⟩
  simpa using hcs
 have hlm : len ≤ m := by rw [hmm]; split <;> omega
 have each : ∀ i, i < len → ∃ q : Int, W.cell? (a.add (i * 1)) = some (.int .u16 q) ∧ (Lit.int .u16 q).wf = true := by
  intro i hi
  obtain ⟨cs', h1, h2⟩ := hx i (by omega)
  rw [Tryz.cellsU16] at h1
  obtain ⟨_, hlen, hcell⟩ := World.cells?_some h1
  obtain ⟨u, hu, _, wu⟩ := DataW.trod_int Tryz.underlying40 h2
  subst hu
  have e0 := hcell 0 (by omega)
  exact ⟨u, by simpa [Addr.add] using e0, wu⟩
 obtain ⟨q, hq⟩ := choose_lt each
 refine ⟨some a, cap, (List.range len).map q, ?_, fun k hk => ?_, by simp; omega⟩
 ·
  simpa using hcs
 have hk' : k < len := by simpa using hk
 obtain ⟨e1, w1⟩ := hq k hk'
 obtain ⟨b, off, spot⟩ := a
 have hspot : spot = none := by
  have := World.cell?_spot (hq 0 (by omega)).1
  simpa [Addr.add] using this
 subst hspot
 rw [add_plain, Nat.mul_one] at e1
 have bd := bounds_u16 w1
 refine ⟨b, off, rfl, ?_, ?_, ?_⟩
 ·
  exact World.block_lt_of_cell? W ⟨b, off + k, none⟩ e1
 ·
  simpa using e1
 simpa using bd
end

end Go.Proofs.YtpejilhdhkmcjaaGreatDoor
/- Plain mathematics of package eval: the values of variables and literals, in two and in three values, as functions on lists. -/
namespace Go.Proofs.YtpejilhdhkmcjaaGreatDoor.Em

section
variable {α β : Type} {f : List α → Int × Int → α}
/-- The values of the gates, one behind the other. -/
def vals (f : List α → Int × Int → α) : List α → List (Int × Int) → List α
 | v, [] => v
 | v, g :: r => vals f (v ++ [f v g]) r
end

def negL (l : Int) : Bool := decide (l % 2 = 1)
def bitB (v : List Bool) (l : Int) : Bool := v.getD (l / 2).toNat false != negL l
def gateB (v : List Bool) (g : Int × Int) : Bool := bitB v g.1 && bitB v g.2
def turnT (x : Int) : Int := if x = 2 then 2 else 1 - x
def andT (a b : Int) : Int := if a = 0 ∨ b = 0 then 0 else if a = 1 ∧ b = 1 then 1 else 2
/-- One of three values. -/
def T3 (x : Int) : Prop := x = 0 ∨ x = 1 ∨ x = 2
/-- A value in three tells nothing, or the value in two. -/
def Ag (t : Int) (b : Bool) : Prop := t = 2 ∨ t = if b then 1 else 0
end Go.Proofs.YtpejilhdhkmcjaaGreatDoor.Em
/- Slices of values of one cell, rows that the call itself makes, the Bits, All and Eval of the reference; how arguments are opened; two rows that grow side by side. -/
namespace Go.Proofs.YtpejilhdhkmcjaaGreatDoor
open Go.RowKit

/-- The slice at A, which lies below block B, holds the values vs. -/
def Vs (w : World) (B : Nat) (A : Option Addr) (vs : List Value) : Prop :=
 ∀ k (hk : k < vs.length), ∃ b off, A = some ⟨b, off, none⟩ ∧ b < B ∧ w.cell? ⟨b, off + k, none⟩ = some vs[k]
theorem Vs.keep {w w' : World} {B : Nat} {A : Option Addr} {vs : List Value} (h : Vs w B A vs) (hk : ∀ p : Addr, p.block < B → w'.cell? p = w.cell? p) : Vs w' B A vs := by
 intro k hlt
 obtain ⟨b, off, rfl, hb, h1⟩ := h k hlt
 exact ⟨b, off, rfl, hb, (hk ⟨b, _, none⟩ hb).trans h1⟩
theorem Vs.below {w w' : World} {B C : Nat} {A : Option Addr} {vs : List Value} (h : Vs w B A vs) (hb : Below C w w') (hB : B ≤ C) : Vs w' B A vs :=
 h.keep fun _ hp => hb.cell (Nat.lt_of_lt_of_le hp hB)
theorem Vs.more {w : World} {B C : Nat} {A : Option Addr} {vs : List Value} (h : Vs w B A vs) (hB : B ≤ C) : Vs w C A vs := by
 intro k hlt
 obtain ⟨b, off, rfl, hb, h1⟩ := h k hlt
 exact ⟨b, off, rfl, Nat.lt_of_lt_of_le hb hB, h1⟩
abbrev bv (bs : List Bool) : List Value := bs.map .bool
abbrev iv (zs : List Int) : List Value := zs.map (.int .i64)
theorem ixI (sb off N c r : Nat) (_hm : N ≤ 1000000) (hr : r < N) (w : World) : (Instr.indexAt 26 (.slice (some ⟨sb, off, none⟩) N c) (.int .i64 (r : Int))).run Tryz.prog w = .ok (.pointer (some ⟨sb, off + r, none⟩)) w := by go_simp

theorem vs_nil {w : World} {B : Nat} {A : Option Addr} : Vs w B A [] := fun k hk => by simp at hk
/-- A row of values of one cell, of the call's own. -/
def OwnV (w : World) (base : Nat) (e : TypeId) (v : Value) (vs : List Value) : Prop := w.ownsRow base e 1 v vs.length vs
/-- A row that grows, beside which nothing turns. -/
structure RowInv (w wr : World) (e : TypeId) (v : Value) (vs : List Value) : Prop where
 low : Below w.heap.size w wr
 own : OwnV wr w.heap.size e v vs
/-- A graph in its box, and a row that grows. -/
structure RG (w wr : World) (n : Int) (s : Value) (e : TypeId) (v : Value) (vs : List Value) : Prop where
 low : Below w.heap.size w wr
 d0 : wr.cell? ⟨w.heap.size, 0, none⟩ = some (.int .i64 n)
 d1 : wr.cell? ⟨w.heap.size, 1, none⟩ = some s
 sz : w.heap.size < wr.heap.size
 own : OwnV wr (w.heap.size + 1) e v vs
section
variable {w wr w2 : World} {n : Int} {s : Value} {e : TypeId} {v v' : Value} {vs us : List Value}
end
end Go.Proofs.YtpejilhdhkmcjaaGreatDoor
/- How the laws' arguments are opened: graphs, lists of ints. Two rows that grow side by side; the mathematics of values. -/
namespace Go.Proofs.YtpejilhdhkmcjaaGreatDoor
section
open Go.ChangeShapes Go.WideShapes Go.ChangeAt Go.RowKit Go.Deep Go.Joins Go.WideElems

section
variable {H : Type} {enc : TypeId × Value → H} {W : World} {base : Nat} {spare : Nat → Bool} {held : Bool}
end
end
open Go.RowKit
namespace Em
end Em

/-- Two rows that grow side by side, beside which nothing turns. -/
structure T2 (W wr : World) (e : TypeId) (vx vy : Value) (xs ys : List Value) : Prop where
 low : Below W.heap.size W wr
 ox : OwnV wr W.heap.size e vx xs
 oy : OwnV wr W.heap.size e vy ys
 sep : vx.ownBlock = none ∨ vy.ownBlock = none ∨ vx.ownBlock ≠ vy.ownBlock
section
variable {W wr w2 : World} {e : TypeId} {vx vy v' : Value} {xs ys us : List Value}
end
namespace Em

/-- The values of all variables. -/
abbrev all (ins : List Bool) (gs : List (Int × Int)) : List Bool := vals gateB (false :: ins) gs
theorem mx (v : List Bool) (a b : Int) : (bitB v (max a b) && bitB v (min a b)) = (bitB v a && bitB v b) := by
 rcases Int.le_total a b with h | h
 ·
  rw [Int.max_eq_right h, Int.min_eq_left h, Bool.and_comm]
 rw [Int.max_eq_left h, Int.min_eq_right h]

end Em
end Go.Proofs.YtpejilhdhkmcjaaGreatDoor
/- Of package eval: two, start, fill, suits, All and Eval, of bools. -/
namespace Go.Proofs.YtpejilhdhkmcjaaGreatDoor
open Go.RowKit

/-- The package's tables lie where they were laid. -/
structure Tabs (w : World) : Prop where
 gate : ∀ i j : Nat, i < 3 → j < 3 → w.cell? ⟨0, i * 3 + j, none⟩ = some (.int .i64 (Em.andT i j))
 neg : ∀ i : Nat, i < 3 → w.cell? ⟨1, i, none⟩ = some (.int .i64 (Em.turnT i))
 sz : 2 ≤ w.heap.size
section
variable {α : Type} {f : List α → Int × Int → α}
end
end Go.Proofs.YtpejilhdhkmcjaaGreatDoor
/- Circuits in memory; maps by runes; ranges over strings; listed, width, counts, fits. -/
namespace Go.Proofs.YtpejilhdhkmcjaaGreatDoor
open Go.RowKit

/-- A name: kind, index, text. -/
abbrev Nm := Int × Int × ByteArray
/-- A circuit, and where its lists lie. -/
structure Cir where
 n : Int
 aL : Option Addr
 cL : Nat
 ls : List (Int × Int)
 aG : Option Addr
 cG : Nat
 gs : List (Int × Int)
 aO : Option Addr
 cO : Nat
 os : List Int
 aB : Option Addr
 cB : Nat
 bs : List Int
 aC : Option Addr
 cC : Nat
 cs : List Int
 aF : Option Addr
 cF : Nat
 fs : List Int
 aN : Option Addr
 cN : Nat
 ns : List Nm

/-- The slice at A holds the names ns. -/
def Ns (w : World) (B : Nat) (A : Option Addr) (ns : List Nm) : Prop :=
 ∀ k (hk : k < ns.length), ∃ b off, A = some ⟨b, off, none⟩ ∧ b < B ∧
  w.cell? ⟨b, off + k * 3, none⟩ = some (.int .u8 (ns[k]).1) ∧ w.cell? ⟨b, off + k * 3 + 1, none⟩ = some (.int .i64 (ns[k]).2.1) ∧ w.cell? ⟨b, off + k * 3 + 2, none⟩ = some (.string (ns[k]).2.2)
theorem Ns.keep {w w' : World} {B : Nat} {A : Option Addr} {ns : List Nm} (h : Ns w B A ns) (hk : ∀ p : Addr, p.block < B → w'.cell? p = w.cell? p) : Ns w' B A ns := by
 intro k hlt
 obtain ⟨b, off, rfl, hb, h1, h2, h3⟩ := h k hlt
 exact ⟨b, off, rfl, hb, (hk ⟨b, _, none⟩ hb).trans h1, (hk ⟨b, _, none⟩ hb).trans h2, (hk ⟨b, _, none⟩ hb).trans h3⟩
theorem Ns.below {w w' : World} {B C : Nat} {A : Option Addr} {ns : List Nm} (h : Ns w B A ns) (hb : Below C w w') (hB : B ≤ C) : Ns w' B A ns :=
 h.keep fun _ hp => hb.cell (Nat.lt_of_lt_of_le hp hB)
theorem Ns.more {w : World} {B C : Nat} {A : Option Addr} {ns : List Nm} (h : Ns w B A ns) (hB : B ≤ C) : Ns w C A ns := by
 intro k hlt
 obtain ⟨b, off, rfl, hb, h1⟩ := h k hlt
 exact ⟨b, off, rfl, Nat.lt_of_lt_of_le hb hB, h1⟩
/-- The circuit's lists lie in memory. -/
structure CirM (w : World) (B : Nat) (c : Cir) : Prop where
 hl : Gr w B c.aL c.ls
 hg : Gr w B c.aG c.gs
 ho : Vs w B c.aO (iv c.os)
 hb : Vs w B c.aB (iv c.bs)
 hc : Vs w B c.aC (iv c.cs)
 hf : Vs w B c.aF (iv c.fs)
 hn : Ns w B c.aN c.ns
theorem CirM.below {w w' : World} {B C : Nat} {c : Cir} (h : CirM w B c) (hb : Below C w w') (hB : B ≤ C) : CirM w' B c :=
 ⟨h.hl.below hb hB, h.hg.below hb hB, h.ho.below hb hB, h.hb.below hb hB, h.hc.below hb hB, h.hf.below hb hB, h.hn.below hb hB⟩
theorem CirM.more {w : World} {B C : Nat} {c : Cir} (h : CirM w B c) (hB : B ≤ C) : CirM w C c :=
 ⟨h.hl.more hB, h.hg.more hB, h.ho.more hB, h.hb.more hB, h.hc.more hB, h.hf.more hB, h.hn.more hB⟩
def I64 (x : Int) : Prop := -9223372036854775808 ≤ x ∧ x ≤ 9223372036854775807
def IWf (xs : List Int) : Prop := ∀ x ∈ xs, I64 x
/-- The numbers are numbers of their kinds; the lists are as long as lists may be. -/
structure CirW (c : Cir) : Prop where
 hn : I64 c.n
 hl : Wf c.ls
 hg : Wf c.gs
 ho : IWf c.os
 hb : IWf c.bs
 hc : IWf c.cs
 hf : IWf c.fs
 hk : ∀ x ∈ c.ns, (0 ≤ x.1 ∧ x.1 ≤ 255) ∧ I64 x.2.1 ∧ x.2.2.size ≤ maxLen
 ll : c.ls.length ≤ 1000000
 lg : c.gs.length ≤ 1000000
 lo : c.os.length ≤ maxLen
 lb : c.bs.length ≤ maxLen
 lc : c.cs.length ≤ maxLen
 lf : c.fs.length ≤ maxLen
 ln : c.ns.length ≤ 1000000

namespace Cm
def kindAt (k : Nat) : Int := [105, 108, 111, 98, 99, 102].getD k 0
def kinds : ByteArray := ⟨#[105, 108, 111, 98, 99, 102]⟩
/-- How many signals of a kind are listed. -/
def lstS (c : Cir) (k : Int) : List Int := if k = 111 then c.os else if k = 98 then c.bs else if k = 99 then c.cs else if k = 102 then c.fs else []
def numS (c : Cir) (k : Int) : Int := if k = 105 then c.n else if k = 108 then c.ls.length else (lstS c k).length
end Cm

/-- Block b of w is o. -/
def Hp (w : World) (b : Nat) (o : Obj) : Prop := w.heap[b]? = some o
theorem Hp.lt {w : World} {b : Nat} {o : Obj} (h : Hp w b o) : b < w.heap.size := (Array.getElem?_eq_some_iff.1 h).1
theorem Hp.below {w w' : World} {b B : Nat} {o : Obj} (h : Hp w b o) (hb : Below B w w') (hB : b < B) : Hp w' b o := (hb.block b hB).trans h
theorem Hp.grown {w w' : World} {b : Nat} {o : Obj} {row : Option Nat} (h : Hp w b o) (hg : w.grownBy w' row) (hne : some b ≠ row) : Hp w' b o := (hg.block b h.lt hne).trans h
theorem Hp.new (w : World) (o : Obj) : Hp (w.alloc o) w.heap.size o := heap_alloc_new w o
theorem Hp.alloc {w : World} {b : Nat} {o : Obj} (h : Hp w b o) (o' : Obj) : Hp (w.alloc o') b o := (Below.heap_alloc w o' b h.lt).trans h
theorem set_grown {w : World} {b : Nat} {o : Obj} (h : Hp w b o) (o' : Obj) : Hp { w with heap := w.heap.setIfInBounds b o' } b o' ∧ w.grownBy { w with heap := w.heap.setIfInBounds b o' } (some b) := by
 have hlt := h.lt
 refine ⟨by simp [Hp, hlt], rfl, rfl, rfl, by simp, fun i _ hne => ?_⟩
 have : b ≠ i := fun e => hne (by rw [e])
 simp [this]
theorem below_grown {w V V' : World} {B b : Nat} (h : Below B w V) (hg : V.grownBy V' (some b)) (hB : B ≤ b) (hs : B ≤ V.heap.size) : Below B w V' :=
 h.grown hg hs (fun k e => by injection e with e; omega)

/-- A step of a range over a string. -/
theorem next_any (w : World) (ib : Nat) (s : ByteArray) (pos : Nat) (hk : Hp w ib (.stringIter s pos)) (h : pos < s.size) :
  ∃ wn, (∀ ty, (Instr.next (.pointer (some ⟨ib, 0, none⟩)) true ty).run Tryz.prog w = .ok (.tuple #[.bool true, .int .i64 pos, .int .i32 (Utf8.decode s pos).1]) wn) ∧ Hp wn ib (.stringIter s (pos + (Utf8.decode s pos).2)) ∧ w.grownBy wn (some ib) := by
 have := set_grown hk (.stringIter s (pos + (Utf8.decode s pos).2))
 exact ⟨_, fun ty => Lib.run_next_any_at w ib s pos ty hk h, this.1, this.2⟩
theorem next_end (w : World) (ib : Nat) (s : ByteArray) (pos : Nat) (hk : Hp w ib (.stringIter s pos)) (h : ¬ pos < s.size) :
  ∀ ty, (Instr.next (.pointer (some ⟨ib, 0, none⟩)) true ty).run Tryz.prog w = .ok (.tuple #[.bool false]) w := fun ty => Lib.run_next_end_at w ib s pos ty hk h
/-- Where a range over a string stands. -/
def iterPos (w : World) (b : Nat) : Nat := match w.heap[b]? with | some (.stringIter _ p) => p | _ => 0
theorem Hp.pos {w : World} {b : Nat} {s : ByteArray} {p : Nat} (h : Hp w b (.stringIter s p)) : iterPos w b = p := by
 unfold Hp at h
 simp [iterPos, h]

/-- The map of numbers by kinds, of the first k of them. -/
def ents (L : Nat → Int) (k : Nat) : List MapEntry := (List.range k).map fun i => ⟨.int .i32 (Cm.kindAt i), .int .i64 (L i), i⟩
def cmap (L : Nat → Int) (k : Nat) : Obj := .map (ents L k).toArray k
theorem keyIs (j : Int) : MapKept.IsKey (.int .i32) (.int .i32 j) := by simp [MapKept.IsKey]
theorem store_new (w : World) (b : Nat) (es : List MapEntry) (clock : Nat) (j : Int) (v : Value) (hb : Hp w b (.map es.toArray clock)) (hf : Instr.findNow (.int .i32) (.int .i32 j) es 0 = some none) :
  ∃ wn, (Instr.mapUpdate 108 (.map (some b)) (.int .i32 j) v).run Tryz.prog w = .ok () wn ∧ Hp wn b (.map (es ++ [MapEntry.mk (.int .i32 j) v clock]).toArray (clock + 1)) ∧ w.grownBy wn (some b) := by
 have hs := set_grown hb (.map (es ++ [MapEntry.mk (.int .i32 j) v clock]).toArray (clock + 1))
 refine ⟨_, ?_, hs.1, hs.2⟩
 simp only [Instr.mapUpdate, Sem.run_bind, run_underlying Tryz.underlying108, Result.andThen, MapKept.run_getObj_map hb, MapKept.run_checkKey Tryz.underlying21 (keyIs j), MapKept.run_findKey Tryz.underlying21 hf]
 rw [MapKept.run_setObj_map _ hb]
 simp
theorem store_old (w : World) (b : Nat) (es : List MapEntry) (clock : Nat) (j : Int) (v v0 : Value) (i : Nat) (e0 : MapEntry) (hb : Hp w b (.map es.toArray clock)) (hf : Instr.findNow (.int .i32) (.int .i32 j) es 0 = some (some (i, v0))) (he : es[i]? = some e0) (hk : e0.key = .int .i32 j) :
  ∃ wn, (Instr.mapUpdate 108 (.map (some b)) (.int .i32 j) v).run Tryz.prog w = .ok () wn ∧ Hp wn b (.map (es.modify i (fun e => { e with key := .int .i32 j, val := v })).toArray clock) ∧ w.grownBy wn (some b) := by
 have hs := set_grown hb (.map (es.modify i (fun e => { e with key := .int .i32 j, val := v })).toArray clock)
 refine ⟨_, ?_, hs.1, hs.2⟩
 have hsb : Instr.sameBits 10000 (.int .i32 j) (.int .i32 j) = true := by simp [Instr.sameBits]
 simp only [Instr.mapUpdate, Sem.run_bind, run_underlying Tryz.underlying108, Result.andThen, MapKept.run_getObj_map hb, MapKept.run_checkKey Tryz.underlying21 (keyIs j), MapKept.run_findKey Tryz.underlying21 hf, Instr.keyThatStays]
 simp only [List.getElem?_toArray, he, Option.map_some, Option.getD_some, hk, hsb, if_true, Sem.run_pure]
 rw [MapKept.run_setObj_map _ hb]
 simp
theorem look_any (w : World) (b : Nat) (es : List MapEntry) (clock : Nat) (j x : Int) (hb : Hp w b (.map es.toArray clock)) (hf : (Instr.findNow (.int .i32) (.int .i32 j) es 0 = some none ∧ x = 0) ∨ ∃ i, Instr.findNow (.int .i32) (.int .i32 j) es 0 = some (some (i, .int .i64 x))) :
  (Instr.lookup 108 (.map (some b)) (.int .i32 j) false).run Tryz.prog w = .ok (.int .i64 x) w := by
 have hz : (zeroValue 3).run Tryz.prog w = .ok (.int .i64 0) w := by kernel_rfl
 rcases hf with ⟨hf, rfl⟩ | ⟨i, hf⟩
 ·
  simp only [Instr.lookup, Sem.run_bind, run_underlying Tryz.underlying108, Result.andThen, MapKept.run_getObj_map hb, Sem.run_pure, MapKept.run_checkKey Tryz.underlying21 (keyIs j), MapKept.run_findKey Tryz.underlying21 hf, hz]
  rfl
 simp only [Instr.lookup, Sem.run_bind, run_underlying Tryz.underlying108, Result.andThen, MapKept.run_getObj_map hb, Sem.run_pure, MapKept.run_checkKey Tryz.underlying21 (keyIs j), MapKept.run_findKey Tryz.underlying21 hf]
 rfl
end Go.Proofs.YtpejilhdhkmcjaaGreatDoor
/- listed, width, counts, fits. -/
namespace Go.Proofs.YtpejilhdhkmcjaaGreatDoor
open Go.RowKit

theorem boxed (w : World) (c : Cir) : Blk (w.alloc (Obj.cells #[.int .i64 c.n, .slice c.aL c.ls.length c.cL, .slice c.aG c.gs.length c.cG, .slice c.aO c.os.length c.cO, .slice c.aB c.bs.length c.cB, .slice c.aC c.cs.length c.cC, .slice c.aF c.fs.length c.cF, .slice c.aN c.ns.length c.cN] 29)) w.heap.size 29 #[.int .i64 c.n, .slice c.aL c.ls.length c.cL, .slice c.aG c.gs.length c.cG, .slice c.aO c.os.length c.cO, .slice c.aB c.bs.length c.cB, .slice c.aC c.cs.length c.cC, .slice c.aF c.fs.length c.cF, .slice c.aN c.ns.length c.cN] := Blk.new w _ _
theorem lowAlloc (w : World) (o : Obj) : Below w.heap.size w (w.alloc o) := (Below.refl _ _).alloc (Nat.le_refl _) _

/-- The slice of a kind. -/
def lstV (c : Cir) (k : Int) : Value := if k = 111 then .slice c.aO c.os.length c.cO else if k = 98 then .slice c.aB c.bs.length c.cB else if k = 99 then .slice c.aC c.cs.length c.cC else if k = 102 then .slice c.aF c.fs.length c.cF else .slice none 0 0
set_option maxHeartbeats 1000000 in
theorem listed_any (c : Cir) (k : Int) (w : World) :
  Calls Tryz.prog 78 #[.agg #[.int .i64 c.n, .slice c.aL c.ls.length c.cL, .slice c.aG c.gs.length c.cG, .slice c.aO c.os.length c.cO, .slice c.aB c.bs.length c.cB, .slice c.aC c.cs.length c.cC, .slice c.aF c.fs.length c.cF, .slice c.aN c.ns.length c.cN], .int .i32 k] w fun e w' => e = .returned (lstV c k) ∧ Below w.heap.size w w' := by
 unfold lstV
 by_cases h1 : k = 111
 ·
  subst h1
  rw [if_pos rfl]
  go_enter Tryz.func78, Tryz.ntmps78
  go_wp2
  go_ret
  exact ⟨rfl, lowAlloc w _⟩
 by_cases h2 : k = 98
 ·
  subst h2
  rw [if_neg (by omega), if_pos rfl]
  go_enter Tryz.func78, Tryz.ntmps78
  go_wp2
  go_ret
  exact ⟨rfl, lowAlloc w _⟩
 by_cases h3 : k = 99
 ·
  subst h3
  rw [if_neg (by omega), if_neg (by omega), if_pos rfl]
  go_enter Tryz.func78, Tryz.ntmps78
  go_wp2
  go_ret
  exact ⟨rfl, lowAlloc w _⟩
 by_cases h4 : k = 102
 ·
  subst h4
  rw [if_neg (by omega), if_neg (by omega), if_neg (by omega), if_pos rfl]
  go_enter Tryz.func78, Tryz.ntmps78
  go_wp2
  go_ret
  exact ⟨rfl, lowAlloc w _⟩
 rw [if_neg h1, if_neg h2, if_neg h3, if_neg h4]
 have d1 : (k == 111) = false := by simpa using h1
 have d2 : (k == 98) = false := by simpa using h2
 have d3 : (k == 99) = false := by simpa using h3
 have d4 : (k == 102) = false := by simpa using h4
 go_enter Tryz.func78, Tryz.ntmps78
 go_wp2
 go_ret
 exact ⟨rfl, lowAlloc w _⟩

set_option maxHeartbeats 1000000 in
theorem width_any (c : Cir) (w : World) :
  Calls Tryz.prog 74 #[.agg #[.int .i64 c.n, .slice c.aL c.ls.length c.cL, .slice c.aG c.gs.length c.cG, .slice c.aO c.os.length c.cO, .slice c.aB c.bs.length c.cB, .slice c.aC c.cs.length c.cC, .slice c.aF c.fs.length c.cF, .slice c.aN c.ns.length c.cN]] w fun e w' => e = .returned (.int .i64 (wrap64 (c.n + c.ls.length))) ∧ Below w.heap.size w w' := by
 go_enter Tryz.func74, Tryz.ntmps74
 go_wp2
 go_ret
 exact ⟨rfl, lowAlloc w _⟩

theorem lstV_ex (c : Cir) (k : Int) : ∃ A q, lstV c k = .slice A (Cm.lstS c k).length q := by
 unfold lstV Cm.lstS
 split
 ·
  exact ⟨_, _, rfl⟩
 split
 ·
  exact ⟨_, _, rfl⟩
 split
 ·
  exact ⟨_, _, rfl⟩
 split
 ·
  exact ⟨_, _, rfl⟩
 exact ⟨none, 0, rfl⟩
/-- The numbers while they are counted. -/
def cntL (c : Cir) (i : Nat) : Int := (Cm.lstS c (Cm.kindAt i)).length
def numL (c : Cir) (i : Nat) : Int := Cm.numS c (Cm.kindAt i)
theorem ents_succ (L : Nat → Int) (k : Nat) : ents L (k + 1) = ents L k ++ [MapEntry.mk (.int .i32 (Cm.kindAt k)) (.int .i64 (L k)) k] := by simp [ents, List.range_succ]
theorem find_new (L : Nat → Int) (k : Nat) (h : k < 6) : Instr.findNow (.int .i32) (.int .i32 (Cm.kindAt k)) (ents L k) 0 = some none := by
 match k, h with
 | 0, _ => rfl
 | 1, _ => rfl
 | 2, _ => rfl
 | 3, _ => rfl
 | 4, _ => rfl
 | 5, _ => rfl
theorem kinds_dec (k : Nat) (h : k < 6) : ((Utf8.decode Cm.kinds k).1 : Int) = Cm.kindAt k ∧ (Utf8.decode Cm.kinds k).2 = 1 := by
 match k, h with
 | 0, _ => decide
 | 1, _ => decide
 | 2, _ => decide
 | 3, _ => decide
 | 4, _ => decide
 | 5, _ => decide
theorem next_kind (w : World) (ib : Nat) (k : Nat) (hk : Hp w ib (.stringIter Cm.kinds k)) (h : k < 6) :
  ∃ wn, (∀ ty, (Instr.next (.pointer (some ⟨ib, 0, none⟩)) true ty).run Tryz.prog w = .ok (.tuple #[.bool true, .int .i64 k, .int .i32 (Cm.kindAt k)]) wn) ∧ Hp wn ib (.stringIter Cm.kinds (k + 1)) ∧ w.grownBy wn (some ib) := by
 obtain ⟨wn, h1, h2, h3⟩ := next_any w ib Cm.kinds k hk h
 obtain ⟨e1, e2⟩ := kinds_dec k h
 rw [e1] at h1
 rw [e2] at h2
 exact ⟨wn, h1, h2, h3⟩
theorem next_kend (w : World) (ib : Nat) (hk : Hp w ib (.stringIter Cm.kinds 6)) :
  ∀ ty, (Instr.next (.pointer (some ⟨ib, 0, none⟩)) true ty).run Tryz.prog w = .ok (.tuple #[.bool false]) w := next_end w ib Cm.kinds 6 hk (by decide)
theorem make_map (w : World) (n : Int) : (Instr.makeMap 108 (some (.int .i64 n))).run Tryz.prog w = .ok (.map (some w.heap.size)) (w.alloc (.map #[] 0)) := by
 simp only [Instr.makeMap, Sem.run_bind, run_underlying Tryz.underlying108, Result.andThen]
 rfl
theorem modify_ents (L : Nat → Int) (i : Nat) (v : Int) (h : i < 6) : (ents L 6).modify i (fun e => { e with key := .int .i32 (Cm.kindAt i), val := .int .i64 v }) = ents (fun j => if j = i then v else L j) 6 := by
 match i, h with
 | 0, _ => rfl
 | 1, _ => rfl
 | 2, _ => rfl
 | 3, _ => rfl
 | 4, _ => rfl
 | 5, _ => rfl
theorem ents_cong (L M : Nat → Int) (k : Nat) (h : ∀ i, i < k → L i = M i) : ents L k = ents M k := by
 unfold ents
 apply List.map_congr_left
 intro i hi
 rw [h i (by simpa using hi)]
theorem find_old (L : Nat → Int) (i : Nat) (h : i < 6) : Instr.findNow (.int .i32) (.int .i32 (Cm.kindAt i)) (ents L 6) 0 = some (some (i, .int .i64 (L i))) := by
 match i, h with
 | 0, _ => rfl
 | 1, _ => rfl
 | 2, _ => rfl
 | 3, _ => rfl
 | 4, _ => rfl
 | 5, _ => rfl
theorem ents_get (L : Nat → Int) (i : Nat) (h : i < 6) : (ents L 6)[i]? = some ⟨.int .i32 (Cm.kindAt i), .int .i64 (L i), i⟩ := by simp [ents, h]

/-- A map of the numbers of signals by kinds. -/
def Counts (c : Cir) (w : World) (e : Ending) (w' : World) : Prop := ∃ b, e = .returned (.map (some b)) ∧ w.heap.size ≤ b ∧ Hp w' b (cmap (numL c) 6) ∧ Below w.heap.size w w'
/-- What the counting loop keeps. -/
structure CL (w wr : World) (c : Cir) (k : Nat) : Prop where
 low : Below w.heap.size w wr
 box : Blk wr w.heap.size 29 #[.int .i64 c.n, .slice c.aL c.ls.length c.cL, .slice c.aG c.gs.length c.cG, .slice c.aO c.os.length c.cO, .slice c.aB c.bs.length c.cB, .slice c.aC c.cs.length c.cC, .slice c.aF c.fs.length c.cF, .slice c.aN c.ns.length c.cN]
 map : Hp wr (w.heap.size + 1) (cmap (cntL c) k)
 it : Hp wr (w.heap.size + 2) (.stringIter Cm.kinds k)

set_option maxRecDepth 100000 in
set_option maxHeartbeats 4000000 in
theorem counts_any (c : Cir) (w : World) : Calls Tryz.prog 72 #[.agg #[.int .i64 c.n, .slice c.aL c.ls.length c.cL, .slice c.aG c.gs.length c.cG, .slice c.aO c.os.length c.cO, .slice c.aB c.bs.length c.cB, .slice c.aC c.cs.length c.cC, .slice c.aF c.fs.length c.cF, .slice c.aN c.ns.length c.cN]] w (Counts c w) := by
 have hmk := make_map
 have hst : CL w (((w.alloc (Obj.cells #[.int .i64 c.n, .slice c.aL c.ls.length c.cL, .slice c.aG c.gs.length c.cG, .slice c.aO c.os.length c.cO, .slice c.aB c.bs.length c.cB, .slice c.aC c.cs.length c.cC, .slice c.aF c.fs.length c.cF, .slice c.aN c.ns.length c.cN] 29)).alloc (.map #[] 0)).iter Cm.kinds 0) c 0 := by
  refine ⟨((lowAlloc w _).alloc (by simp) _).alloc (by simp; omega) _, ((boxed w c).alloc _).alloc _, ?_, ?_⟩
  ·
   have := (Hp.new (w.alloc (Obj.cells #[.int .i64 c.n, .slice c.aL c.ls.length c.cL, .slice c.aG c.gs.length c.cG, .slice c.aO c.os.length c.cO, .slice c.aB c.bs.length c.cB, .slice c.aC c.cs.length c.cC, .slice c.aF c.fs.length c.cF, .slice c.aN c.ns.length c.cN] 29)) (.map #[] 0)).alloc (.stringIter Cm.kinds 0)
   simp at this
   exact this
  have := Hp.new ((w.alloc (Obj.cells #[.int .i64 c.n, .slice c.aL c.ls.length c.cL, .slice c.aG c.gs.length c.cG, .slice c.aO c.os.length c.cO, .slice c.aB c.bs.length c.cB, .slice c.aC c.cs.length c.cC, .slice c.aF c.fs.length c.cF, .slice c.aN c.ns.length c.cN] 29)).alloc (.map #[] 0)) (.stringIter Cm.kinds 0)
  simp at this
  exact this
 have HST := Lib.hid hst
 clear hst
 go_enter Tryz.func72, Tryz.ntmps72
 go_wp2
 go_loopw [5] (fun _ wr => ∃ k : Nat, k ≤ 6 ∧ CL w wr c k) (fun _ wr => 6 - iterPos wr (w.heap.size + 2))
 case atStart => exact ⟨0, by omega, HST.out⟩
 obtain ⟨k, hk, hi⟩ := hrel
 have hip := hi.it.pos
 by_cases hlt : k < 6
 ·
  obtain ⟨wn, hnx, hit, hgr⟩ := next_kind wr _ k hi.it hlt
  have lo := below_grown hi.low hgr (by omega) hi.low.size
  have hbx := hi.box.grown hgr (fun e => by injection e with e; omega)
  have hmp := hi.map.grown hgr (fun e => by injection e with e; omega)
  have c0 := hbx.cell 0
  have c1 := hbx.cell 1
  have c2 := hbx.cell 2
  have c3 := hbx.cell 3
  have c4 := hbx.cell 4
  have c5 := hbx.cell 5
  have c6 := hbx.cell 6
  have c7 := hbx.cell 7
  simp only [zD, zE, zF] at c0 c1 c2 c3 c4 c5 c6 c7
  have HIP := Lib.hid hip
  clear hip
  go_wp2_with fail
  refine (listed_any c (Cm.kindAt k) wn).mono ?_
  rintro e w2 ⟨rfl, hb2⟩
  obtain ⟨A, q, hl⟩ := lstV_ex c (Cm.kindAt k)
  rw [hl]
  have hit2 := hit.below hb2 hit.lt
  have hmp2 := hmp.below hb2 hmp.lt
  have hbx2 := hbx.below hb2 hbx.lt
  have lo2 := lo.trans (hb2.mono lo.size)
  obtain ⟨w3, hup, hmp3, hgr3⟩ := store_new w2 _ (ents (cntL c) k) k (Cm.kindAt k) (.int .i64 (cntL c k)) hmp2 (find_new _ _ hlt)
  rw [← ents_succ] at hmp3
  have hup' : (Instr.mapUpdate 108 (.map (some (w.heap.size + 1))) (.int .i32 (Cm.kindAt k)) (.int .i64 ((Cm.lstS c (Cm.kindAt k)).length : Int))).run Tryz.prog w2 = .ok () w3 := hup
  have hfin : CL w w3 c (k + 1) := ⟨below_grown lo2 hgr3 (by omega) lo2.size, hbx2.grown hgr3 (fun e => by injection e with e; omega), hmp3, hit2.grown hgr3 (fun e => by injection e with e; omega)⟩
  clear hl hup hnx c0 c1 c2 c3 c4 c5 c6 c7
  go_wp2
  go_roundw
  case rel => exact ⟨k + 1, by omega, hfin⟩
  case measure => rw [HIP.out, hfin.it.pos]; omega
 obtain rfl : k = 6 := by omega
 have hnx := next_kend wr _ hi.it
 have hbx := hi.box
 have c0 := hbx.cell 0
 have c1 := hbx.cell 1
 simp only [zD, zE, zF] at c0 c1
 obtain ⟨w2, hu1, hmp1, hgr1⟩ := store_old wr _ (ents (cntL c) 6) 6 105 (.int .i64 c.n) _ 0 _ hi.map (find_old _ 0 (by omega)) (ents_get _ 0 (by omega)) rfl
 rw [show (Value.int .i32 105) = .int .i32 (Cm.kindAt 0) from rfl, modify_ents _ 0 _ (by omega)] at hmp1
 have hbx1 := hbx.grown hgr1 (fun e => by injection e with e; omega)
 have d1 := hbx1.cell 1
 simp only [zD, zE, zF] at d1
 obtain ⟨w3, hu2, hmp2, hgr2⟩ := store_old w2 _ _ 6 108 (.int .i64 (c.ls.length : Int)) _ 1 _ hmp1 (find_old _ 1 (by omega)) (ents_get _ 1 (by omega)) rfl
 rw [show (Value.int .i32 108) = .int .i32 (Cm.kindAt 1) from rfl, modify_ents _ 1 _ (by omega)] at hmp2
 have hfin : Hp w3 (w.heap.size + 1) (cmap (numL c) 6) := by
  unfold cmap
  rw [ents_cong (numL c) _ 6 ?_]
  ·
   exact hmp2
  intro i hi
  match i, hi with
  | 0, _ => rfl
  | 1, _ => rfl
  | 2, _ => rfl
  | 3, _ => rfl
  | 4, _ => rfl
  | 5, _ => rfl
 have lo := below_grown (below_grown hi.low hgr1 (by omega) hi.low.size) hgr2 (by omega) (Nat.le_trans hi.low.size hgr1.size)
 clear hmp1 hmp2 hi hbx hbx1
 go_wp2
 go_ret
 exact ⟨_, rfl, by omega, hfin, lo⟩
end Go.Proofs.YtpejilhdhkmcjaaGreatDoor
