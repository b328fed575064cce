/- Circuits in memory; maps by runes; ranges over strings; listed, width, counts, fits. -/
import Derived.Test.YteabffdddlihnaaE4
import Derived.MapKept
import Derived.Carry
import Derived.Lib.OthersKept
import Derived.ChangeMaps5
namespace Go.Proofs.Yteabffdddlihnaa
open Go.RowKit

/-- A name: kind, index, text. -/
abbrev Nm := Int × Int × ByteArray
/-- A circuit, and where its lists lie. -/
structure Cir where
  n : Int
  aL : Option Addr
  cL : Nat
  ls : List (Int × Int)
  aG : Option Addr
  cG : Nat
  gs : List (Int × Int)
  aO : Option Addr
  cO : Nat
  os : List Int
  aB : Option Addr
  cB : Nat
  bs : List Int
  aC : Option Addr
  cC : Nat
  cs : List Int
  aF : Option Addr
  cF : Nat
  fs : List Int
  aN : Option Addr
  cN : Nat
  ns : List Nm

/-- The slice at A holds the names ns. -/
def Ns (w : World) (B : Nat) (A : Option Addr) (ns : List Nm) : Prop :=
  ∀ k (hk : k < ns.length), ∃ b off, A = some ⟨b, off, none⟩ ∧ b < B ∧
    w.cell? ⟨b, off + k * 3, none⟩ = some (.int .u8 (ns[k]).1) ∧ w.cell? ⟨b, off + k * 3 + 1, none⟩ = some (.int .i64 (ns[k]).2.1) ∧ w.cell? ⟨b, off + k * 3 + 2, none⟩ = some (.string (ns[k]).2.2)
theorem Ns.keep {w w' : World} {B : Nat} {A : Option Addr} {ns : List Nm} (h : Ns w B A ns) (hk : ∀ p : Addr, p.block < B → w'.cell? p = w.cell? p) : Ns w' B A ns := by
  intro k hlt
  obtain ⟨b, off, rfl, hb, h1, h2, h3⟩ := h k hlt
  exact ⟨b, off, rfl, hb, (hk ⟨b, _, none⟩ hb).trans h1, (hk ⟨b, _, none⟩ hb).trans h2, (hk ⟨b, _, none⟩ hb).trans h3⟩
theorem Ns.below {w w' : World} {B C : Nat} {A : Option Addr} {ns : List Nm} (h : Ns w B A ns) (hb : Below C w w') (hB : B ≤ C) : Ns w' B A ns :=
  h.keep fun _ hp => hb.cell (Nat.lt_of_lt_of_le hp hB)
theorem Ns.more {w : World} {B C : Nat} {A : Option Addr} {ns : List Nm} (h : Ns w B A ns) (hB : B ≤ C) : Ns w C A ns := by
  intro k hlt
  obtain ⟨b, off, rfl, hb, h1⟩ := h k hlt
  exact ⟨b, off, rfl, Nat.lt_of_lt_of_le hb hB, h1⟩
/-- The circuit's lists lie in memory. -/
structure CirM (w : World) (B : Nat) (c : Cir) : Prop where
  hl : Gr w B c.aL c.ls
  hg : Gr w B c.aG c.gs
  ho : Vs w B c.aO (iv c.os)
  hb : Vs w B c.aB (iv c.bs)
  hc : Vs w B c.aC (iv c.cs)
  hf : Vs w B c.aF (iv c.fs)
  hn : Ns w B c.aN c.ns
theorem CirM.below {w w' : World} {B C : Nat} {c : Cir} (h : CirM w B c) (hb : Below C w w') (hB : B ≤ C) : CirM w' B c :=
  ⟨h.hl.below hb hB, h.hg.below hb hB, h.ho.below hb hB, h.hb.below hb hB, h.hc.below hb hB, h.hf.below hb hB, h.hn.below hb hB⟩
theorem CirM.more {w : World} {B C : Nat} {c : Cir} (h : CirM w B c) (hB : B ≤ C) : CirM w C c :=
  ⟨h.hl.more hB, h.hg.more hB, h.ho.more hB, h.hb.more hB, h.hc.more hB, h.hf.more hB, h.hn.more hB⟩
def I64 (x : Int) : Prop := -9223372036854775808 ≤ x ∧ x ≤ 9223372036854775807
def IWf (xs : List Int) : Prop := ∀ x ∈ xs, I64 x
/-- The numbers are numbers of their kinds; the lists are as long as lists may be. -/
structure CirW (c : Cir) : Prop where
  hn : I64 c.n
  hl : Wf c.ls
  hg : Wf c.gs
  ho : IWf c.os
  hb : IWf c.bs
  hc : IWf c.cs
  hf : IWf c.fs
  hk : ∀ x ∈ c.ns, (0 ≤ x.1 ∧ x.1 ≤ 255) ∧ I64 x.2.1 ∧ x.2.2.size ≤ maxLen
  ll : c.ls.length ≤ 1000000
  lg : c.gs.length ≤ 1000000
  lo : c.os.length ≤ maxLen
  lb : c.bs.length ≤ maxLen
  lc : c.cs.length ≤ maxLen
  lf : c.fs.length ≤ maxLen
  ln : c.ns.length ≤ 1000000

namespace Cm
def kindAt (k : Nat) : Int := [105, 108, 111, 98, 99, 102].getD k 0
def kinds : ByteArray := ⟨#[105, 108, 111, 98, 99, 102]⟩
/-- How many signals of a kind are listed. -/
def lstS (c : Cir) (k : Int) : List Int := if k = 111 then c.os else if k = 98 then c.bs else if k = 99 then c.cs else if k = 102 then c.fs else []
def numS (c : Cir) (k : Int) : Int := if k = 105 then c.n else if k = 108 then c.ls.length else (lstS c k).length
end Cm

/-- Block b of w is o. -/
def Hp (w : World) (b : Nat) (o : Obj) : Prop := w.heap[b]? = some o
theorem Hp.lt {w : World} {b : Nat} {o : Obj} (h : Hp w b o) : b < w.heap.size := (Array.getElem?_eq_some_iff.1 h).1
theorem Hp.below {w w' : World} {b B : Nat} {o : Obj} (h : Hp w b o) (hb : Below B w w') (hB : b < B) : Hp w' b o := (hb.block b hB).trans h
theorem Hp.grown {w w' : World} {b : Nat} {o : Obj} {row : Option Nat} (h : Hp w b o) (hg : w.grownBy w' row) (hne : some b ≠ row) : Hp w' b o := (hg.block b h.lt hne).trans h
theorem Hp.new (w : World) (o : Obj) : Hp (w.alloc o) w.heap.size o := heap_alloc_new w o
theorem Hp.alloc {w : World} {b : Nat} {o : Obj} (h : Hp w b o) (o' : Obj) : Hp (w.alloc o') b o := (Below.heap_alloc w o' b h.lt).trans h
theorem Hp.drewN {w : World} {b : Nat} {o : Obj} (h : Hp w b o) (n : Nat) : Hp (w.drewN n) b o := h
theorem set_grown {w : World} {b : Nat} {o : Obj} (h : Hp w b o) (o' : Obj) : Hp { w with heap := w.heap.setIfInBounds b o' } b o' ∧ w.grownBy { w with heap := w.heap.setIfInBounds b o' } (some b) := by
  have hlt := h.lt
  refine ⟨by simp [Hp, hlt], rfl, rfl, rfl, by simp, fun i _ hne => ?_⟩
  have : b ≠ i := fun e => hne (by rw [e])
  simp [Array.getElem?_setIfInBounds, this]
theorem below_grown {w V V' : World} {B b : Nat} (h : Below B w V) (hg : V.grownBy V' (some b)) (hB : B ≤ b) (hs : B ≤ V.heap.size) : Below B w V' :=
  h.grown hg hs (fun k e => by injection e with e; omega)

/-- A step of a range over a string. -/
theorem next_any (w : World) (ib : Nat) (s : ByteArray) (pos : Nat) (hk : Hp w ib (.stringIter s pos)) (h : pos < s.size) :
    ∃ wn, (∀ ty, (Instr.next (.pointer (some ⟨ib, 0, none⟩)) true ty).run Try.prog w = .ok (.tuple #[.bool true, .int .i64 pos, .int .i32 (Utf8.decode s pos).1]) wn) ∧ Hp wn ib (.stringIter s (pos + (Utf8.decode s pos).2)) ∧ w.grownBy wn (some ib) := by
  have := set_grown hk (.stringIter s (pos + (Utf8.decode s pos).2))
  exact ⟨_, fun ty => Lib.run_next_any_at w ib s pos ty hk h, this.1, this.2⟩
theorem next_end (w : World) (ib : Nat) (s : ByteArray) (pos : Nat) (hk : Hp w ib (.stringIter s pos)) (h : ¬ pos < s.size) :
    ∀ ty, (Instr.next (.pointer (some ⟨ib, 0, none⟩)) true ty).run Try.prog w = .ok (.tuple #[.bool false]) w := fun ty => Lib.run_next_end_at w ib s pos ty hk h
/-- Where a range over a string stands. -/
def iterPos (w : World) (b : Nat) : Nat := match w.heap[b]? with | some (.stringIter _ p) => p | _ => 0
theorem Hp.pos {w : World} {b : Nat} {s : ByteArray} {p : Nat} (h : Hp w b (.stringIter s p)) : iterPos w b = p := by
  unfold Hp at h
  simp [iterPos, h]

/-- The map of numbers by kinds, of the first k of them. -/
def ents (L : Nat → Int) (k : Nat) : List MapEntry := (List.range k).map fun i => ⟨.int .i32 (Cm.kindAt i), .int .i64 (L i), i⟩
def cmap (L : Nat → Int) (k : Nat) : Obj := .map (ents L k).toArray k
theorem keyIs (j : Int) : MapKept.IsKey (.int .i32) (.int .i32 j) := by simp [MapKept.IsKey]
theorem store_new (w : World) (b : Nat) (es : List MapEntry) (clock : Nat) (j : Int) (v : Value) (hb : Hp w b (.map es.toArray clock)) (hf : Instr.findNow (.int .i32) (.int .i32 j) es 0 = some none) :
    ∃ wn, (Instr.mapUpdate 73 (.map (some b)) (.int .i32 j) v).run Try.prog w = .ok () wn ∧ Hp wn b (.map (es ++ [MapEntry.mk (.int .i32 j) v clock]).toArray (clock + 1)) ∧ w.grownBy wn (some b) := by
  have hs := set_grown hb (.map (es ++ [MapEntry.mk (.int .i32 j) v clock]).toArray (clock + 1))
  refine ⟨_, ?_, hs.1, hs.2⟩
  simp only [Instr.mapUpdate, Sem.run_bind, run_underlying Try.underlying73, Result.andThen, MapKept.run_getObj_map hb, MapKept.run_checkKey Try.underlying21 (keyIs j), MapKept.run_findKey Try.underlying21 hf, List.toList_toArray]
  rw [MapKept.run_setObj_map _ hb]
  simp
theorem store_old (w : World) (b : Nat) (es : List MapEntry) (clock : Nat) (j : Int) (v v0 : Value) (i : Nat) (e0 : MapEntry) (hb : Hp w b (.map es.toArray clock)) (hf : Instr.findNow (.int .i32) (.int .i32 j) es 0 = some (some (i, v0))) (he : es[i]? = some e0) (hk : e0.key = .int .i32 j) :
    ∃ wn, (Instr.mapUpdate 73 (.map (some b)) (.int .i32 j) v).run Try.prog w = .ok () wn ∧ Hp wn b (.map (es.modify i (fun e => { e with key := .int .i32 j, val := v })).toArray clock) ∧ w.grownBy wn (some b) := by
  have hs := set_grown hb (.map (es.modify i (fun e => { e with key := .int .i32 j, val := v })).toArray clock)
  refine ⟨_, ?_, hs.1, hs.2⟩
  have hsb : Instr.sameBits 10000 (.int .i32 j) (.int .i32 j) = true := by simp [Instr.sameBits]
  simp only [Instr.mapUpdate, Sem.run_bind, run_underlying Try.underlying73, Result.andThen, MapKept.run_getObj_map hb, MapKept.run_checkKey Try.underlying21 (keyIs j), MapKept.run_findKey Try.underlying21 hf, List.toList_toArray, Instr.keyThatStays]
  simp only [List.getElem?_toArray, he, Option.map_some, Option.getD_some, hk, hsb, if_true, Sem.run_pure, Result.andThen]
  rw [MapKept.run_setObj_map _ hb]
  simp
theorem look_any (w : World) (b : Nat) (es : List MapEntry) (clock : Nat) (j x : Int) (hb : Hp w b (.map es.toArray clock)) (hf : (Instr.findNow (.int .i32) (.int .i32 j) es 0 = some none ∧ x = 0) ∨ ∃ i, Instr.findNow (.int .i32) (.int .i32 j) es 0 = some (some (i, .int .i64 x))) :
    (Instr.lookup 73 (.map (some b)) (.int .i32 j) false).run Try.prog w = .ok (.int .i64 x) w := by
  have hz : (zeroValue 3).run Try.prog w = .ok (.int .i64 0) w := by kernel_rfl
  rcases hf with ⟨hf, rfl⟩ | ⟨i, hf⟩
  · simp only [Instr.lookup, Sem.run_bind, run_underlying Try.underlying73, Result.andThen, MapKept.run_getObj_map hb, Sem.run_pure, MapKept.run_checkKey Try.underlying21 (keyIs j), MapKept.run_findKey Try.underlying21 hf, List.toList_toArray, hz]
    rfl
  · simp only [Instr.lookup, Sem.run_bind, run_underlying Try.underlying73, Result.andThen, MapKept.run_getObj_map hb, Sem.run_pure, MapKept.run_checkKey Try.underlying21 (keyIs j), MapKept.run_findKey Try.underlying21 hf, List.toList_toArray]
    rfl
end Go.Proofs.Yteabffdddlihnaa
