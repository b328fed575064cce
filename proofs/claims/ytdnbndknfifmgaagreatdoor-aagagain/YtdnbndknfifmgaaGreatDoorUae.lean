/- Circuits in memory; maps by runes; ranges over strings; listed, width, counts, fits. -/
import Derived.Test.YtdnbndknfifmgaaGreatDoorUad
import Derived.MapKept
import Derived.Carry
import Derived.Lib.OthersKept
import Derived.ChangeMaps5
namespace Go.Proofs.YtdnbndknfifmgaaGreatDoor
open Go.RowKit

/-- A name: kind, index, text. -/
abbrev Nm := Int × Int × ByteArray
/-- A circuit, and where its lists lie. -/
structure Cir where
  n : Int
  aL : Option Addr
  cL : Nat
  ls : List (Int × Int)
  aG : Option Addr
  cG : Nat
  gs : List (Int × Int)
  aO : Option Addr
  cO : Nat
  os : List Int
  aB : Option Addr
  cB : Nat
  bs : List Int
  aC : Option Addr
  cC : Nat
  cs : List Int
  aF : Option Addr
  cF : Nat
  fs : List Int
  aN : Option Addr
  cN : Nat
  ns : List Nm

/-- The slice at A holds the names ns. -/
def Ns (w : World) (B : Nat) (A : Option Addr) (ns : List Nm) : Prop :=
  ∀ k (hk : k < ns.length), ∃ b off, A = some ⟨b, off, none⟩ ∧ b < B ∧
    w.cell? ⟨b, off + k * 3, none⟩ = some (.int .u8 (ns[k]).1) ∧ w.cell? ⟨b, off + k * 3 + 1, none⟩ = some (.int .i64 (ns[k]).2.1) ∧ w.cell? ⟨b, off + k * 3 + 2, none⟩ = some (.string (ns[k]).2.2)
theorem Ns.keep {w w' : World} {B : Nat} {A : Option Addr} {ns : List Nm} (h : Ns w B A ns) (hk : ∀ p : Addr, p.block < B → w'.cell? p = w.cell? p) : Ns w' B A ns := by
  intro k hlt
  obtain ⟨b, off, rfl, hb, h1, h2, h3⟩ := h k hlt
  exact ⟨b, off, rfl, hb, (hk ⟨b, _, none⟩ hb).trans h1, (hk ⟨b, _, none⟩ hb).trans h2, (hk ⟨b, _, none⟩ hb).trans h3⟩
theorem Ns.below {w w' : World} {B C : Nat} {A : Option Addr} {ns : List Nm} (h : Ns w B A ns) (hb : Below C w w') (hB : B ≤ C) : Ns w' B A ns :=
  h.keep fun _ hp => hb.cell (Nat.lt_of_lt_of_le hp hB)
theorem Ns.more {w : World} {B C : Nat} {A : Option Addr} {ns : List Nm} (h : Ns w B A ns) (hB : B ≤ C) : Ns w C A ns := by
  intro k hlt
  obtain ⟨b, off, rfl, hb, h1⟩ := h k hlt
  exact ⟨b, off, rfl, Nat.lt_of_lt_of_le hb hB, h1⟩
/-- The circuit's lists lie in memory. -/
structure CirM (w : World) (B : Nat) (c : Cir) : Prop where
  hl : Gr w B c.aL c.ls
  hg : Gr w B c.aG c.gs
  ho : Vs w B c.aO (iv c.os)
  hb : Vs w B c.aB (iv c.bs)
  hc : Vs w B c.aC (iv c.cs)
  hf : Vs w B c.aF (iv c.fs)
  hn : Ns w B c.aN c.ns
theorem CirM.below {w w' : World} {B C : Nat} {c : Cir} (h : CirM w B c) (hb : Below C w w') (hB : B ≤ C) : CirM w' B c :=
  ⟨h.hl.below hb hB, h.hg.below hb hB, h.ho.below hb hB, h.hb.below hb hB, h.hc.below hb hB, h.hf.below hb hB, h.hn.below hb hB⟩
theorem CirM.more {w : World} {B C : Nat} {c : Cir} (h : CirM w B c) (hB : B ≤ C) : CirM w C c :=
  ⟨h.hl.more hB, h.hg.more hB, h.ho.more hB, h.hb.more hB, h.hc.more hB, h.hf.more hB, h.hn.more hB⟩
def I64 (x : Int) : Prop := -9223372036854775808 ≤ x ∧ x ≤ 9223372036854775807
def IWf (xs : List Int) : Prop := ∀ x ∈ xs, I64 x
/-- The numbers are numbers of their kinds; the lists are as long as lists may be. -/
structure CirW (c : Cir) : Prop where
  hn : I64 c.n
  hl : Wf c.ls
  hg : Wf c.gs
  ho : IWf c.os
  hb : IWf c.bs
  hc : IWf c.cs
  hf : IWf c.fs
  hk : ∀ x ∈ c.ns, (0 ≤ x.1 ∧ x.1 ≤ 255) ∧ I64 x.2.1 ∧ x.2.2.size ≤ maxLen
  ll : c.ls.length ≤ 1000000
  lg : c.gs.length ≤ 1000000
  lo : c.os.length ≤ maxLen
  lb : c.bs.length ≤ maxLen
  lc : c.cs.length ≤ maxLen
  lf : c.fs.length ≤ maxLen
  ln : c.ns.length ≤ 1000000

namespace Cm
def kindAt (k : Nat) : Int := [105, 108, 111, 98, 99, 102].getD k 0
def kinds : ByteArray := ⟨#[105, 108, 111, 98, 99, 102]⟩
/-- How many signals of a kind are listed. -/
def lstS (c : Cir) (k : Int) : List Int := if k = 111 then c.os else if k = 98 then c.bs else if k = 99 then c.cs else if k = 102 then c.fs else []
def numS (c : Cir) (k : Int) : Int := if k = 105 then c.n else if k = 108 then c.ls.length else (lstS c k).length
end Cm

/-- Block b of w is o. -/
def Hp (w : World) (b : Nat) (o : Obj) : Prop := w.heap[b]? = some o
theorem Hp.lt {w : World} {b : Nat} {o : Obj} (h : Hp w b o) : b < w.heap.size := (Array.getElem?_eq_some_iff.1 h).1
theorem Hp.below {w w' : World} {b B : Nat} {o : Obj} (h : Hp w b o) (hb : Below B w w') (hB : b < B) : Hp w' b o := (hb.block b hB).trans h
theorem Hp.grown {w w' : World} {b : Nat} {o : Obj} {row : Option Nat} (h : Hp w b o) (hg : w.grownBy w' row) (hne : some b ≠ row) : Hp w' b o := (hg.block b h.lt hne).trans h
theorem Hp.new (w : World) (o : Obj) : Hp (w.alloc o) w.heap.size o := heap_alloc_new w o
theorem Hp.alloc {w : World} {b : Nat} {o : Obj} (h : Hp w b o) (o' : Obj) : Hp (w.alloc o') b o := (Below.heap_alloc w o' b h.lt).trans h
theorem Hp.drewN {w : World} {b : Nat} {o : Obj} (h : Hp w b o) (n : Nat) : Hp (w.drewN n) b o := h
theorem set_grown {w : World} {b : Nat} {o : Obj} (h : Hp w b o) (o' : Obj) : Hp { w with heap := w.heap.setIfInBounds b o' } b o' ∧ w.grownBy { w with heap := w.heap.setIfInBounds b o' } (some b) := by
  have hlt := h.lt
  refine ⟨by simp [Hp, hlt], rfl, rfl, rfl, by simp, fun i _ hne => ?_⟩
  have : b ≠ i := fun e => hne (by rw [e])
  simp [this]
theorem below_grown {w V V' : World} {B b : Nat} (h : Below B w V) (hg : V.grownBy V' (some b)) (hB : B ≤ b) (hs : B ≤ V.heap.size) : Below B w V' :=
  h.grown hg hs (fun k e => by injection e with e; omega)

/-- A step of a range over a string. -/
theorem next_any (w : World) (ib : Nat) (s : ByteArray) (pos : Nat) (hk : Hp w ib (.stringIter s pos)) (h : pos < s.size) :
    ∃ wn, (∀ ty, (Instr.next (.pointer (some ⟨ib, 0, none⟩)) true ty).run Tryz.prog w = .ok (.tuple #[.bool true, .int .i64 pos, .int .i32 (Utf8.decode s pos).1]) wn) ∧ Hp wn ib (.stringIter s (pos + (Utf8.decode s pos).2)) ∧ w.grownBy wn (some ib) := by
  have := set_grown hk (.stringIter s (pos + (Utf8.decode s pos).2))
  exact ⟨_, fun ty => Lib.run_next_any_at w ib s pos ty hk h, this.1, this.2⟩
theorem next_end (w : World) (ib : Nat) (s : ByteArray) (pos : Nat) (hk : Hp w ib (.stringIter s pos)) (h : ¬ pos < s.size) :
    ∀ ty, (Instr.next (.pointer (some ⟨ib, 0, none⟩)) true ty).run Tryz.prog w = .ok (.tuple #[.bool false]) w := fun ty => Lib.run_next_end_at w ib s pos ty hk h
/-- Where a range over a string stands. -/
def iterPos (w : World) (b : Nat) : Nat := match w.heap[b]? with | some (.stringIter _ p) => p | _ => 0
theorem Hp.pos {w : World} {b : Nat} {s : ByteArray} {p : Nat} (h : Hp w b (.stringIter s p)) : iterPos w b = p := by
  unfold Hp at h
  simp [iterPos, h]

/-- The map of numbers by kinds, of the first k of them. -/
def ents (L : Nat → Int) (k : Nat) : List MapEntry := (List.range k).map fun i => ⟨.int .i32 (Cm.kindAt i), .int .i64 (L i), i⟩
def cmap (L : Nat → Int) (k : Nat) : Obj := .map (ents L k).toArray k
theorem keyIs (j : Int) : MapKept.IsKey (.int .i32) (.int .i32 j) := by simp [MapKept.IsKey]
theorem store_new (w : World) (b : Nat) (es : List MapEntry) (clock : Nat) (j : Int) (v : Value) (hb : Hp w b (.map es.toArray clock)) (hf : Instr.findNow (.int .i32) (.int .i32 j) es 0 = some none) :
    ∃ wn, (Instr.mapUpdate 108 (.map (some b)) (.int .i32 j) v).run Tryz.prog w = .ok () wn ∧ Hp wn b (.map (es ++ [MapEntry.mk (.int .i32 j) v clock]).toArray (clock + 1)) ∧ w.grownBy wn (some b) := by
  have hs := set_grown hb (.map (es ++ [MapEntry.mk (.int .i32 j) v clock]).toArray (clock + 1))
  refine ⟨_, ?_, hs.1, hs.2⟩
  simp only [Instr.mapUpdate, Sem.run_bind, run_underlying Tryz.underlying108, Result.andThen, MapKept.run_getObj_map hb, MapKept.run_checkKey Tryz.underlying21 (keyIs j), MapKept.run_findKey Tryz.underlying21 hf]
  rw [MapKept.run_setObj_map _ hb]
  simp
theorem store_old (w : World) (b : Nat) (es : List MapEntry) (clock : Nat) (j : Int) (v v0 : Value) (i : Nat) (e0 : MapEntry) (hb : Hp w b (.map es.toArray clock)) (hf : Instr.findNow (.int .i32) (.int .i32 j) es 0 = some (some (i, v0))) (he : es[i]? = some e0) (hk : e0.key = .int .i32 j) :
    ∃ wn, (Instr.mapUpdate 108 (.map (some b)) (.int .i32 j) v).run Tryz.prog w = .ok () wn ∧ Hp wn b (.map (es.modify i (fun e => { e with key := .int .i32 j, val := v })).toArray clock) ∧ w.grownBy wn (some b) := by
  have hs := set_grown hb (.map (es.modify i (fun e => { e with key := .int .i32 j, val := v })).toArray clock)
  refine ⟨_, ?_, hs.1, hs.2⟩
  have hsb : Instr.sameBits 10000 (.int .i32 j) (.int .i32 j) = true := by simp [Instr.sameBits]
  simp only [Instr.mapUpdate, Sem.run_bind, run_underlying Tryz.underlying108, Result.andThen, MapKept.run_getObj_map hb, MapKept.run_checkKey Tryz.underlying21 (keyIs j), MapKept.run_findKey Tryz.underlying21 hf, Instr.keyThatStays]
  simp only [List.getElem?_toArray, he, Option.map_some, Option.getD_some, hk, hsb, if_true, Sem.run_pure]
  rw [MapKept.run_setObj_map _ hb]
  simp
theorem look_any (w : World) (b : Nat) (es : List MapEntry) (clock : Nat) (j x : Int) (hb : Hp w b (.map es.toArray clock)) (hf : (Instr.findNow (.int .i32) (.int .i32 j) es 0 = some none ∧ x = 0) ∨ ∃ i, Instr.findNow (.int .i32) (.int .i32 j) es 0 = some (some (i, .int .i64 x))) :
    (Instr.lookup 108 (.map (some b)) (.int .i32 j) false).run Tryz.prog w = .ok (.int .i64 x) w := by
  have hz : (zeroValue 3).run Tryz.prog w = .ok (.int .i64 0) w := by kernel_rfl
  rcases hf with ⟨hf, rfl⟩ | ⟨i, hf⟩
  · simp only [Instr.lookup, Sem.run_bind, run_underlying Tryz.underlying108, Result.andThen, MapKept.run_getObj_map hb, Sem.run_pure, MapKept.run_checkKey Tryz.underlying21 (keyIs j), MapKept.run_findKey Tryz.underlying21 hf, hz]
    rfl
  · simp only [Instr.lookup, Sem.run_bind, run_underlying Tryz.underlying108, Result.andThen, MapKept.run_getObj_map hb, Sem.run_pure, MapKept.run_checkKey Tryz.underlying21 (keyIs j), MapKept.run_findKey Tryz.underlying21 hf]
    rfl
end Go.Proofs.YtdnbndknfifmgaaGreatDoor
/- listed, width, counts, fits. -/
namespace Go.Proofs.YtdnbndknfifmgaaGreatDoor
open Go.RowKit

theorem boxed (w : World) (c : Cir) : Blk (w.alloc (Obj.cells #[.int .i64 c.n, .slice c.aL c.ls.length c.cL, .slice c.aG c.gs.length c.cG, .slice c.aO c.os.length c.cO, .slice c.aB c.bs.length c.cB, .slice c.aC c.cs.length c.cC, .slice c.aF c.fs.length c.cF, .slice c.aN c.ns.length c.cN] 29)) w.heap.size 29 #[.int .i64 c.n, .slice c.aL c.ls.length c.cL, .slice c.aG c.gs.length c.cG, .slice c.aO c.os.length c.cO, .slice c.aB c.bs.length c.cB, .slice c.aC c.cs.length c.cC, .slice c.aF c.fs.length c.cF, .slice c.aN c.ns.length c.cN] := Blk.new w _ _
theorem lowAlloc (w : World) (o : Obj) : Below w.heap.size w (w.alloc o) := (Below.refl _ _).alloc (Nat.le_refl _) _

/-- The slice of a kind. -/
def lstV (c : Cir) (k : Int) : Value := if k = 111 then .slice c.aO c.os.length c.cO else if k = 98 then .slice c.aB c.bs.length c.cB else if k = 99 then .slice c.aC c.cs.length c.cC else if k = 102 then .slice c.aF c.fs.length c.cF else .slice none 0 0
set_option maxHeartbeats 1000000 in
theorem listed_any (c : Cir) (k : Int) (w : World) :
    Calls Tryz.prog 78 #[.agg #[.int .i64 c.n, .slice c.aL c.ls.length c.cL, .slice c.aG c.gs.length c.cG, .slice c.aO c.os.length c.cO, .slice c.aB c.bs.length c.cB, .slice c.aC c.cs.length c.cC, .slice c.aF c.fs.length c.cF, .slice c.aN c.ns.length c.cN], .int .i32 k] w fun e w' => e = .returned (lstV c k) ∧ Below w.heap.size w w' := by
  unfold lstV
  by_cases h1 : k = 111
  · subst h1
    rw [if_pos rfl]
    go_enter Tryz.func78, Tryz.ntmps78
    go_wp2
    go_ret
    exact ⟨rfl, lowAlloc w _⟩
  · by_cases h2 : k = 98
    · subst h2
      rw [if_neg (by omega), if_pos rfl]
      go_enter Tryz.func78, Tryz.ntmps78
      go_wp2
      go_ret
      exact ⟨rfl, lowAlloc w _⟩
    · by_cases h3 : k = 99
      · subst h3
        rw [if_neg (by omega), if_neg (by omega), if_pos rfl]
        go_enter Tryz.func78, Tryz.ntmps78
        go_wp2
        go_ret
        exact ⟨rfl, lowAlloc w _⟩
      · by_cases h4 : k = 102
        · subst h4
          rw [if_neg (by omega), if_neg (by omega), if_neg (by omega), if_pos rfl]
          go_enter Tryz.func78, Tryz.ntmps78
          go_wp2
          go_ret
          exact ⟨rfl, lowAlloc w _⟩
        · rw [if_neg h1, if_neg h2, if_neg h3, if_neg h4]
          have d1 : (k == 111) = false := by simpa using h1
          have d2 : (k == 98) = false := by simpa using h2
          have d3 : (k == 99) = false := by simpa using h3
          have d4 : (k == 102) = false := by simpa using h4
          go_enter Tryz.func78, Tryz.ntmps78
          go_wp2
          go_ret
          exact ⟨rfl, lowAlloc w _⟩

set_option maxHeartbeats 1000000 in
theorem width_any (c : Cir) (w : World) :
    Calls Tryz.prog 74 #[.agg #[.int .i64 c.n, .slice c.aL c.ls.length c.cL, .slice c.aG c.gs.length c.cG, .slice c.aO c.os.length c.cO, .slice c.aB c.bs.length c.cB, .slice c.aC c.cs.length c.cC, .slice c.aF c.fs.length c.cF, .slice c.aN c.ns.length c.cN]] w fun e w' => e = .returned (.int .i64 (wrap64 (c.n + c.ls.length))) ∧ Below w.heap.size w w' := by
  go_enter Tryz.func74, Tryz.ntmps74
  go_wp2
  go_ret
  exact ⟨rfl, lowAlloc w _⟩

theorem lstV_ex (c : Cir) (k : Int) : ∃ A q, lstV c k = .slice A (Cm.lstS c k).length q := by
  unfold lstV Cm.lstS
  split
  · exact ⟨_, _, rfl⟩
  · split
    · exact ⟨_, _, rfl⟩
    · split
      · exact ⟨_, _, rfl⟩
      · split
        · exact ⟨_, _, rfl⟩
        · exact ⟨none, 0, rfl⟩
/-- The numbers while they are counted. -/
def cntL (c : Cir) (i : Nat) : Int := (Cm.lstS c (Cm.kindAt i)).length
def numL (c : Cir) (i : Nat) : Int := Cm.numS c (Cm.kindAt i)
theorem ents_succ (L : Nat → Int) (k : Nat) : ents L (k + 1) = ents L k ++ [MapEntry.mk (.int .i32 (Cm.kindAt k)) (.int .i64 (L k)) k] := by simp [ents, List.range_succ]
theorem find_new (L : Nat → Int) (k : Nat) (h : k < 6) : Instr.findNow (.int .i32) (.int .i32 (Cm.kindAt k)) (ents L k) 0 = some none := by
  match k, h with
  | 0, _ => rfl
  | 1, _ => rfl
  | 2, _ => rfl
  | 3, _ => rfl
  | 4, _ => rfl
  | 5, _ => rfl
theorem kinds_dec (k : Nat) (h : k < 6) : ((Utf8.decode Cm.kinds k).1 : Int) = Cm.kindAt k ∧ (Utf8.decode Cm.kinds k).2 = 1 := by
  match k, h with
  | 0, _ => decide
  | 1, _ => decide
  | 2, _ => decide
  | 3, _ => decide
  | 4, _ => decide
  | 5, _ => decide
theorem next_kind (w : World) (ib : Nat) (k : Nat) (hk : Hp w ib (.stringIter Cm.kinds k)) (h : k < 6) :
    ∃ wn, (∀ ty, (Instr.next (.pointer (some ⟨ib, 0, none⟩)) true ty).run Tryz.prog w = .ok (.tuple #[.bool true, .int .i64 k, .int .i32 (Cm.kindAt k)]) wn) ∧ Hp wn ib (.stringIter Cm.kinds (k + 1)) ∧ w.grownBy wn (some ib) := by
  obtain ⟨wn, h1, h2, h3⟩ := next_any w ib Cm.kinds k hk h
  obtain ⟨e1, e2⟩ := kinds_dec k h
  rw [e1] at h1
  rw [e2] at h2
  exact ⟨wn, h1, h2, h3⟩
theorem next_kend (w : World) (ib : Nat) (hk : Hp w ib (.stringIter Cm.kinds 6)) :
    ∀ ty, (Instr.next (.pointer (some ⟨ib, 0, none⟩)) true ty).run Tryz.prog w = .ok (.tuple #[.bool false]) w := next_end w ib Cm.kinds 6 hk (by decide)
theorem make_map (w : World) (n : Int) : (Instr.makeMap 108 (some (.int .i64 n))).run Tryz.prog w = .ok (.map (some w.heap.size)) (w.alloc (.map #[] 0)) := by
  simp only [Instr.makeMap, Sem.run_bind, run_underlying Tryz.underlying108, Result.andThen]
  rfl
theorem modify_ents (L : Nat → Int) (i : Nat) (v : Int) (h : i < 6) : (ents L 6).modify i (fun e => { e with key := .int .i32 (Cm.kindAt i), val := .int .i64 v }) = ents (fun j => if j = i then v else L j) 6 := by
  match i, h with
  | 0, _ => rfl
  | 1, _ => rfl
  | 2, _ => rfl
  | 3, _ => rfl
  | 4, _ => rfl
  | 5, _ => rfl
theorem ents_cong (L M : Nat → Int) (k : Nat) (h : ∀ i, i < k → L i = M i) : ents L k = ents M k := by
  unfold ents
  apply List.map_congr_left
  intro i hi
  rw [h i (by simpa using hi)]
theorem find_old (L : Nat → Int) (i : Nat) (h : i < 6) : Instr.findNow (.int .i32) (.int .i32 (Cm.kindAt i)) (ents L 6) 0 = some (some (i, .int .i64 (L i))) := by
  match i, h with
  | 0, _ => rfl
  | 1, _ => rfl
  | 2, _ => rfl
  | 3, _ => rfl
  | 4, _ => rfl
  | 5, _ => rfl
theorem ents_get (L : Nat → Int) (i : Nat) (h : i < 6) : (ents L 6)[i]? = some ⟨.int .i32 (Cm.kindAt i), .int .i64 (L i), i⟩ := by simp [ents, h]

/-- A map of the numbers of signals by kinds. -/
def Counts (c : Cir) (w : World) (e : Ending) (w' : World) : Prop := ∃ b, e = .returned (.map (some b)) ∧ w.heap.size ≤ b ∧ Hp w' b (cmap (numL c) 6) ∧ Below w.heap.size w w'
/-- What the counting loop keeps. -/
structure CL (w wr : World) (c : Cir) (k : Nat) : Prop where
  low : Below w.heap.size w wr
  box : Blk wr w.heap.size 29 #[.int .i64 c.n, .slice c.aL c.ls.length c.cL, .slice c.aG c.gs.length c.cG, .slice c.aO c.os.length c.cO, .slice c.aB c.bs.length c.cB, .slice c.aC c.cs.length c.cC, .slice c.aF c.fs.length c.cF, .slice c.aN c.ns.length c.cN]
  map : Hp wr (w.heap.size + 1) (cmap (cntL c) k)
  it : Hp wr (w.heap.size + 2) (.stringIter Cm.kinds k)

set_option maxRecDepth 100000 in
set_option maxHeartbeats 4000000 in
theorem counts_any (c : Cir) (w : World) : Calls Tryz.prog 72 #[.agg #[.int .i64 c.n, .slice c.aL c.ls.length c.cL, .slice c.aG c.gs.length c.cG, .slice c.aO c.os.length c.cO, .slice c.aB c.bs.length c.cB, .slice c.aC c.cs.length c.cC, .slice c.aF c.fs.length c.cF, .slice c.aN c.ns.length c.cN]] w (Counts c w) := by
  have hmk := make_map
  have hst : CL w (((w.alloc (Obj.cells #[.int .i64 c.n, .slice c.aL c.ls.length c.cL, .slice c.aG c.gs.length c.cG, .slice c.aO c.os.length c.cO, .slice c.aB c.bs.length c.cB, .slice c.aC c.cs.length c.cC, .slice c.aF c.fs.length c.cF, .slice c.aN c.ns.length c.cN] 29)).alloc (.map #[] 0)).iter Cm.kinds 0) c 0 := by
    refine ⟨((lowAlloc w _).alloc (by simp) _).alloc (by simp; omega) _, ((boxed w c).alloc _).alloc _, ?_, ?_⟩
    · have := (Hp.new (w.alloc (Obj.cells #[.int .i64 c.n, .slice c.aL c.ls.length c.cL, .slice c.aG c.gs.length c.cG, .slice c.aO c.os.length c.cO, .slice c.aB c.bs.length c.cB, .slice c.aC c.cs.length c.cC, .slice c.aF c.fs.length c.cF, .slice c.aN c.ns.length c.cN] 29)) (.map #[] 0)).alloc (.stringIter Cm.kinds 0)
      simp at this
      exact this
    · have := Hp.new ((w.alloc (Obj.cells #[.int .i64 c.n, .slice c.aL c.ls.length c.cL, .slice c.aG c.gs.length c.cG, .slice c.aO c.os.length c.cO, .slice c.aB c.bs.length c.cB, .slice c.aC c.cs.length c.cC, .slice c.aF c.fs.length c.cF, .slice c.aN c.ns.length c.cN] 29)).alloc (.map #[] 0)) (.stringIter Cm.kinds 0)
      simp at this
      exact this
  have HST := Lib.hid hst
  clear hst
  go_enter Tryz.func72, Tryz.ntmps72
  go_wp2
  go_loopw [5] (fun _ wr => ∃ k : Nat, k ≤ 6 ∧ CL w wr c k) (fun _ wr => 6 - iterPos wr (w.heap.size + 2))
  case atStart => exact ⟨0, by omega, HST.out⟩
  case round =>
    obtain ⟨k, hk, hi⟩ := hrel
    have hip := hi.it.pos
    by_cases hlt : k < 6
    · obtain ⟨wn, hnx, hit, hgr⟩ := next_kind wr _ k hi.it hlt
      have lo := below_grown hi.low hgr (by omega) hi.low.size
      have hbx := hi.box.grown hgr (fun e => by injection e with e; omega)
      have hmp := hi.map.grown hgr (fun e => by injection e with e; omega)
      have c0 := hbx.cell 0
      have c1 := hbx.cell 1
      have c2 := hbx.cell 2
      have c3 := hbx.cell 3
      have c4 := hbx.cell 4
      have c5 := hbx.cell 5
      have c6 := hbx.cell 6
      have c7 := hbx.cell 7
      simp only [List.getElem?_toArray, List.getElem?_cons_zero, List.getElem?_cons_succ] at c0 c1 c2 c3 c4 c5 c6 c7
      have HIP := Lib.hid hip
      clear hip
      go_wp2_with fail
      refine (listed_any c (Cm.kindAt k) wn).mono ?_
      rintro e w2 ⟨rfl, hb2⟩
      obtain ⟨A, q, hl⟩ := lstV_ex c (Cm.kindAt k)
      rw [hl]
      have hit2 := hit.below hb2 hit.lt
      have hmp2 := hmp.below hb2 hmp.lt
      have hbx2 := hbx.below hb2 hbx.lt
      have lo2 := lo.trans (hb2.mono lo.size)
      obtain ⟨w3, hup, hmp3, hgr3⟩ := store_new w2 _ (ents (cntL c) k) k (Cm.kindAt k) (.int .i64 (cntL c k)) hmp2 (find_new _ _ hlt)
      rw [← ents_succ] at hmp3
      have hup' : (Instr.mapUpdate 108 (.map (some (w.heap.size + 1))) (.int .i32 (Cm.kindAt k)) (.int .i64 ((Cm.lstS c (Cm.kindAt k)).length : Int))).run Tryz.prog w2 = .ok () w3 := hup
      have hfin : CL w w3 c (k + 1) := ⟨below_grown lo2 hgr3 (by omega) lo2.size, hbx2.grown hgr3 (fun e => by injection e with e; omega), hmp3, hit2.grown hgr3 (fun e => by injection e with e; omega)⟩
      clear hl hup hnx c0 c1 c2 c3 c4 c5 c6 c7
      go_wp2
      go_roundw
      case rel => exact ⟨k + 1, by omega, hfin⟩
      case measure => rw [HIP.out, hfin.it.pos]; omega
    · obtain rfl : k = 6 := by omega
      have hnx := next_kend wr _ hi.it
      have hbx := hi.box
      have c0 := hbx.cell 0
      have c1 := hbx.cell 1
      simp only [List.getElem?_toArray, List.getElem?_cons_zero, List.getElem?_cons_succ] at c0 c1
      obtain ⟨w2, hu1, hmp1, hgr1⟩ := store_old wr _ (ents (cntL c) 6) 6 105 (.int .i64 c.n) _ 0 _ hi.map (find_old _ 0 (by omega)) (ents_get _ 0 (by omega)) rfl
      rw [show (Value.int .i32 105) = .int .i32 (Cm.kindAt 0) from rfl, modify_ents _ 0 _ (by omega)] at hmp1
      have hbx1 := hbx.grown hgr1 (fun e => by injection e with e; omega)
      have d1 := hbx1.cell 1
      simp only [List.getElem?_toArray, List.getElem?_cons_zero, List.getElem?_cons_succ] at d1
      obtain ⟨w3, hu2, hmp2, hgr2⟩ := store_old w2 _ _ 6 108 (.int .i64 (c.ls.length : Int)) _ 1 _ hmp1 (find_old _ 1 (by omega)) (ents_get _ 1 (by omega)) rfl
      rw [show (Value.int .i32 108) = .int .i32 (Cm.kindAt 1) from rfl, modify_ents _ 1 _ (by omega)] at hmp2
      have hfin : Hp w3 (w.heap.size + 1) (cmap (numL c) 6) := by
        unfold cmap
        rw [ents_cong (numL c) _ 6 ?_]
        · exact hmp2
        · intro i hi
          match i, hi with
          | 0, _ => rfl
          | 1, _ => rfl
          | 2, _ => rfl
          | 3, _ => rfl
          | 4, _ => rfl
          | 5, _ => rfl
      have lo := below_grown (below_grown hi.low hgr1 (by omega) hi.low.size) hgr2 (by omega) (Nat.le_trans hi.low.size hgr1.size)
      clear hmp1 hmp2 hi hbx hbx1
      go_wp2
      go_ret
      exact ⟨_, rfl, by omega, hfin, lo⟩
end Go.Proofs.YtdnbndknfifmgaaGreatDoor
/- fits, inner; the closure of driven; ContainsFunc over ints. -/
namespace Go.Proofs.YtdnbndknfifmgaaGreatDoor
open Go.RowKit

namespace Cm
/-- The numbers of signals are within the limits. -/
def fitsB (c : Cir) : Bool := decide (0 ≤ c.n) && decide (c.n ≤ 2000) && decide (c.ls.length ≤ 2000) && decide (c.os.length ≤ 2000) && decide (c.bs.length ≤ 2000) && decide (c.cs.length ≤ 2000) && decide (c.fs.length ≤ 2000)
def okN (c : Cir) (i : Nat) : Bool := decide (0 ≤ numS c (kindAt i)) && decide (numS c (kindAt i) ≤ 2000)
theorem fits_all (c : Cir) : fitsB c = (List.range 6).all (okN c) := by
  simp only [List.range, List.range.loop, List.all_cons, List.all_nil, okN, numS, kindAt, lstS, fitsB, List.getD_cons_zero, List.getD_cons_succ]
  simp
  rw [Bool.eq_iff_iff]
  simp
  omega
end Cm
theorem look_kind (w : World) (b : Nat) (c : Cir) (k : Nat) (h : k < 6) (hb : Hp w b (cmap (numL c) 6)) :
    (Instr.lookup 108 (.map (some b)) (.int .i32 (Cm.kindAt k)) false).run Tryz.prog w = .ok (.int .i64 (Cm.numS c (Cm.kindAt k))) w :=
  look_any w b _ 6 _ _ hb (Or.inr ⟨k, find_old _ k h⟩)
/-- What a loop over the kinds keeps, with the map. -/
structure KL (w wr : World) (c : Cir) (b ib : Nat) (k : Nat) : Prop where
  low : Below w.heap.size w wr
  box : Blk wr w.heap.size 29 #[.int .i64 c.n, .slice c.aL c.ls.length c.cL, .slice c.aG c.gs.length c.cG, .slice c.aO c.os.length c.cO, .slice c.aB c.bs.length c.cB, .slice c.aC c.cs.length c.cC, .slice c.aF c.fs.length c.cF, .slice c.aN c.ns.length c.cN]
  map : Hp wr b (cmap (numL c) 6)
  it : Hp wr ib (.stringIter Cm.kinds k)
  lb : w.heap.size < b
  li : b < ib

set_option maxRecDepth 100000 in
set_option maxHeartbeats 4000000 in
theorem fits4_any (c : Cir) (w : World) : Calls Tryz.prog 48 #[.agg #[.int .i64 c.n, .slice c.aL c.ls.length c.cL, .slice c.aG c.gs.length c.cG, .slice c.aO c.os.length c.cO, .slice c.aB c.bs.length c.cB, .slice c.aC c.cs.length c.cC, .slice c.aF c.fs.length c.cF, .slice c.aN c.ns.length c.cN]] w fun e w' => e = .returned (.bool (Cm.fitsB c)) ∧ Below w.heap.size w w' := by
  have hbx := boxed w c
  have c0 := hbx.cell 0
  have c1 := hbx.cell 1
  have c2 := hbx.cell 2
  have c3 := hbx.cell 3
  have c4 := hbx.cell 4
  have c5 := hbx.cell 5
  have c6 := hbx.cell 6
  have c7 := hbx.cell 7
  simp only [List.getElem?_toArray, List.getElem?_cons_zero, List.getElem?_cons_succ] at c0 c1 c2 c3 c4 c5 c6 c7
  rw [Cm.fits_all]
  obtain ⟨z, hz⟩ : ∃ z, z = (List.range 6).all (Cm.okN c) := ⟨_, rfl⟩
  rw [← hz]
  have HZ := Lib.hid hz
  clear hz
  go_enter Tryz.func48, Tryz.ntmps48
  go_wp2_with fail
  refine (counts_any c _).mono ?_
  rintro e w1 ⟨b, rfl, hb, hmp, hlo⟩
  replace hbx := hbx.below hlo (by simp)
  have hbs := hmp.lt
  simp at hb
  have hst : KL w (w1.iter Cm.kinds 0) c b w1.heap.size 0 := by
    refine ⟨((lowAlloc w _).trans (hlo.mono (by simp))).alloc (by omega) _, hbx.alloc _, hmp.alloc _, Hp.new w1 _, by omega, hbs⟩
  have HST := Lib.hid hst
  clear hst c0 c1 c2 c3 c4 c5 c6 c7 hbx hmp hlo
  go_wp2
  go_loopw [5] (fun _ wr => ∃ k : Nat, k ≤ 6 ∧ (List.range k).all (Cm.okN c) = true ∧ KL w wr c b w1.heap.size k) (fun _ wr => 6 - iterPos wr w1.heap.size)
  case atStart => exact ⟨0, by omega, rfl, HST.out⟩
  case round =>
    obtain ⟨k, hk, hal, hi⟩ := hrel
    have hip := hi.it.pos
    by_cases hlt : k < 6
    · obtain ⟨wn, hnx, hit, hgr⟩ := next_kind wr _ k hi.it hlt
      have hls := hi.low.size
      have lo := below_grown hi.low hgr (by omega) hi.low.size
      have hbx := hi.box.grown hgr (fun e => by injection e with e; omega)
      have hmp := hi.map.grown hgr (fun e => by injection e with e; omega)
      have hlk := look_kind wn b c k hlt hmp
      have hfin : KL w wn c b w1.heap.size (k + 1) := ⟨lo, hbx, hmp, hit, hi.lb, hi.li⟩
      have hall : (List.range (k + 1)).all (Cm.okN c) = Cm.okN c k := by rw [List.range_succ, List.all_append, hal]; simp
      have hno : Cm.okN c k = false → (List.range 6).all (Cm.okN c) = false := by
        intro h
        rw [List.all_eq_false]
        exact ⟨k, by simpa using hlt, by simp [h]⟩
      have hok : Cm.okN c k = (decide (0 ≤ Cm.numS c (Cm.kindAt k)) && decide (Cm.numS c (Cm.kindAt k) ≤ 2000)) := rfl
      have HIP := Lib.hid hip
      have HALL := Lib.hid hall
      have HNO := Lib.hid hno
      have HOK := Lib.hid hok
      clear hip hall hno hok hal hgr hbx hmp
      generalize Cm.numS c (Cm.kindAt k) = x at *
      by_cases h0 : x < 0
      · have HF := Lib.hid (HNO.out (by rw [HOK.out, Bool.and_eq_false_iff]; simp only [decide_eq_false_iff_not]; omega))
        go_wp2
        go_ret
        exact ⟨ret_bool (HZ.out.trans HF.out).symm, lo⟩
      · by_cases h1 : 2000 < x
        · have HF := Lib.hid (HNO.out (by rw [HOK.out, Bool.and_eq_false_iff]; simp only [decide_eq_false_iff_not]; omega))
          go_wp2
          go_ret
          exact ⟨ret_bool (HZ.out.trans HF.out).symm, lo⟩
        · have HT : Hid ((List.range (k + 1)).all (Cm.okN c) = true) := HALL.out.trans (by rw [HOK.out]; simp; omega)
          go_wp2
          go_roundw
          case rel => exact ⟨k + 1, by omega, HT.out, hfin⟩
          case measure => rw [HIP.out, hfin.it.pos]; omega
    · obtain rfl : k = 6 := by omega
      have hnx := next_kend wr _ hi.it
      have lo := hi.low
      have HA := Lib.hid hal
      clear hal hi hip
      go_wp2
      go_ret
      exact ⟨ret_bool (HZ.out.trans HA.out).symm, lo⟩

set_option maxRecDepth 100000 in
set_option maxHeartbeats 4000000 in
theorem inner_any (c : Cir) (w : World) : Calls Tryz.prog 50 #[.agg #[.int .i64 c.n, .slice c.aL c.ls.length c.cL, .slice c.aG c.gs.length c.cG, .slice c.aO c.os.length c.cO, .slice c.aB c.bs.length c.cB, .slice c.aC c.cs.length c.cC, .slice c.aF c.fs.length c.cF, .slice c.aN c.ns.length c.cN]] w fun e w' => e = .returned (.agg #[.int .i64 (wrap64 (c.n + c.ls.length)), .slice c.aG c.gs.length c.cG]) ∧ Below w.heap.size w w' := by
  have HW := Lib.hid (fun V => width_any c V)
  have hbx := (boxed w c).alloc (Obj.cells #[.int .i64 0, .slice none 0 0] 64)
  have hgx : Blk ((w.alloc (Obj.cells #[.int .i64 c.n, .slice c.aL c.ls.length c.cL, .slice c.aG c.gs.length c.cG, .slice c.aO c.os.length c.cO, .slice c.aB c.bs.length c.cB, .slice c.aC c.cs.length c.cC, .slice c.aF c.fs.length c.cF, .slice c.aN c.ns.length c.cN] 29)).alloc (Obj.cells #[.int .i64 0, .slice none 0 0] 64)) (w.heap.size + 1) 64 #[.int .i64 0, .slice none 0 0] := by
    have := Blk.new (w.alloc (Obj.cells #[.int .i64 c.n, .slice c.aL c.ls.length c.cL, .slice c.aG c.gs.length c.cG, .slice c.aO c.os.length c.cO, .slice c.aB c.bs.length c.cB, .slice c.aC c.cs.length c.cC, .slice c.aF c.fs.length c.cF, .slice c.aN c.ns.length c.cN] 29)) 64 #[.int .i64 0, .slice none 0 0]
    simpa using this
  have lo := (lowAlloc w (Obj.cells #[.int .i64 c.n, .slice c.aL c.ls.length c.cL, .slice c.aG c.gs.length c.cG, .slice c.aO c.os.length c.cO, .slice c.aB c.bs.length c.cB, .slice c.aC c.cs.length c.cC, .slice c.aF c.fs.length c.cF, .slice c.aN c.ns.length c.cN] 29)).alloc (by simp) (Obj.cells #[.int .i64 0, .slice none 0 0] 64)
  generalize wrap64 (c.n + c.ls.length) = x at *
  go_enter Tryz.func50, Tryz.ntmps50
  go_upto_region 1 with fail
  generalize ((w.alloc (Obj.cells #[.int .i64 c.n, .slice c.aL c.ls.length c.cL, .slice c.aG c.gs.length c.cG, .slice c.aO c.os.length c.cO, .slice c.aB c.bs.length c.cB, .slice c.aC c.cs.length c.cC, .slice c.aF c.fs.length c.cF, .slice c.aN c.ns.length c.cN] 29)).alloc (Obj.cells #[.int .i64 0, .slice none 0 0] 64)) = W at *
  have hz1 := hgx.lt
  have HK : Hid (∀ V, Below (w.heap.size + 1) W V → V.cell? ⟨w.heap.size, 0, none⟩ = some (.int .i64 c.n) ∧ V.cell? ⟨w.heap.size, 1, none⟩ = some (.slice c.aL c.ls.length c.cL) ∧ V.cell? ⟨w.heap.size, 2, none⟩ = some (.slice c.aG c.gs.length c.cG) ∧ V.cell? ⟨w.heap.size, 3, none⟩ = some (.slice c.aO c.os.length c.cO) ∧ V.cell? ⟨w.heap.size, 4, none⟩ = some (.slice c.aB c.bs.length c.cB) ∧ V.cell? ⟨w.heap.size, 5, none⟩ = some (.slice c.aC c.cs.length c.cC) ∧ V.cell? ⟨w.heap.size, 6, none⟩ = some (.slice c.aF c.fs.length c.cF) ∧ V.cell? ⟨w.heap.size, 7, none⟩ = some (.slice c.aN c.ns.length c.cN)) := by
    intro V hb
    have h := hbx.below hb (by omega)
    exact ⟨h.cell 0, h.cell 1, h.cell 2, h.cell 3, h.cell 4, h.cell 5, h.cell 6, h.cell 7⟩
  have lx0 := Below.refl (w.heap.size + 1) W
  have HGX := Lib.hid hgx
  clear hbx hgx
  go_region_held3 (fun V => V.cell? ⟨w.heap.size, 0, none⟩ = some (.int .i64 c.n) ∧ V.cell? ⟨w.heap.size, 1, none⟩ = some (.slice c.aL c.ls.length c.cL) ∧ V.cell? ⟨w.heap.size, 2, none⟩ = some (.slice c.aG c.gs.length c.cG) ∧ V.cell? ⟨w.heap.size, 3, none⟩ = some (.slice c.aO c.os.length c.cO) ∧ V.cell? ⟨w.heap.size, 4, none⟩ = some (.slice c.aB c.bs.length c.cB) ∧ V.cell? ⟨w.heap.size, 5, none⟩ = some (.slice c.aC c.cs.length c.cC) ∧ V.cell? ⟨w.heap.size, 6, none⟩ = some (.slice c.aF c.fs.length c.cF) ∧ V.cell? ⟨w.heap.size, 7, none⟩ = some (.slice c.aN c.ns.length c.cN))
    (first | exact HK.out _ lx0 | exact HK.out _ lx0.drew | exact HK.out _ lx6 | exact HK.out _ lx6.drew | exact HK.out _ ((lx6.setCell (Nat.le_refl _) _).setCell (Nat.le_refl _) _))
    (first | (go_at_call 74; refine (HW.out _).mono ?_; rintro e w2 ⟨rfl, hb⟩; have lx6 := lx0.drew.trans (hb.mono (Nat.le_of_lt hz1)); have hg6 := (show Blk W.drew (w.heap.size + 1) 64 #[.int .i64 0, .slice none 0 0] from HGX.out).below hb hz1; have x0 := hg6.cell 0; have x1 := hg6.cell 1; have y0 := hg6.frozen 0; have y1 := hg6.frozen 1))
  simp only [List.getElem?_toArray, List.getElem?_cons_zero, List.getElem?_cons_succ] at x0 x1
  go_wp2
  have hbf : Below w.heap.size w ((w2.setCell ⟨w.heap.size + 1, 0, none⟩ (.int .i64 x)).setCell ⟨w.heap.size + 1, 1, none⟩ (.slice c.aG c.gs.length c.cG)) :=
    ((lo.trans (lx6.mono (Nat.le_succ _))).setCell (by simp) _).setCell (by simp) _
  have r0 : ((w2.setCell ⟨w.heap.size + 1, 0, none⟩ (.int .i64 x)).setCell ⟨w.heap.size + 1, 1, none⟩ (.slice c.aG c.gs.length c.cG)).cell? ⟨w.heap.size + 1, 0, none⟩ = some (.int .i64 x) :=
    (World.cell?_setCell_other _ _ _ _ (by simp)).trans (World.cell?_setCell_same _ _ _ x0)
  have r1 : ((w2.setCell ⟨w.heap.size + 1, 0, none⟩ (.int .i64 x)).setCell ⟨w.heap.size + 1, 1, none⟩ (.slice c.aG c.gs.length c.cG)).cell? ⟨w.heap.size + 1, 1, none⟩ = some (.slice c.aG c.gs.length c.cG) :=
    World.cell?_setCell_same _ _ _ ((World.cell?_setCell_other _ _ _ _ (by simp)).trans x1)
  exact bodyPost_ret (v := .agg #[.int .i64 x, .slice c.aG c.gs.length c.cG]) (by simp [results, Tryz.results50, go_sem, r0, r1]) rfl ⟨rfl, hbf⟩

theorem stray_any (gb : Nat) (N : Int) (A : Option Addr) (l q : Nat) (x : Int) (w : World) (hl : l ≤ 1000000) (h0 : w.cell? ⟨gb, 0, none⟩ = some (.int .i64 N)) (h1 : w.cell? ⟨gb, 1, none⟩ = some (.slice A l q)) :
    Calls Tryz.prog 76 #[.int .i64 x, .pointer (some ⟨gb, 0, none⟩)] w fun e w' => e = .returned (.bool (!Gm.litB N l x)) ∧ Below w.heap.size w w' := by
  have HL := Lib.hid (lit_any N A l q x w hl)
  have hnot : ∀ (x : Bool) (w : World), (Op.unary .not (.bool x)).run Tryz.prog w = .ok (.bool (!x)) w := fun _ _ => rfl
  go_enter Tryz.func76, Tryz.ntmps76
  go_wp2_with fail
  refine HL.out.mono ?_
  rintro e w1 ⟨rfl, hb1⟩
  go_wp2
  go_ret
  exact ⟨rfl, hb1⟩

set_option maxRecDepth 100000 in
set_option maxHeartbeats 4000000 in
theorem indexInts_any (gb : Nat) (N : Int) (A : Option Addr) (l q : Nat) (Ax : Option Addr) (cx : Nat) (xs : List Int) (w : World) (hl : l ≤ 1000000) (hxs : xs.length ≤ 1000000) (hV : Vs w w.heap.size Ax (iv xs)) (hgb : gb < w.heap.size) (h0 : w.cell? ⟨gb, 0, none⟩ = some (.int .i64 N)) (h1 : w.cell? ⟨gb, 1, none⟩ = some (.slice A l q)) :
    Calls Tryz.prog 99 #[.slice Ax xs.length cx, .func (.func 76) #[] #[.pointer (some ⟨gb, 0, none⟩)]] w fun e w' => (∃ r, e = .returned (.int .i64 r) ∧ decide (0 ≤ r) = xs.any (fun x => !Gm.litB N l x)) ∧ Below w.heap.size w w' := by
  go_enter Tryz.func99, Tryz.ntmps99
  go_wp2
  go_loopw [8] (fun i wr => ∃ k : Nat, k ≤ xs.length ∧ i = .int .i64 k ∧ (xs.take k).any (fun x => !Gm.litB N l x) = false ∧ Below w.heap.size w wr) (fun i _ => xs.length - (intOf i).toNat)
  case atStart => exact ⟨0, Nat.zero_le _, rfl, rfl, Below.refl _ _⟩
  case round =>
    obtain ⟨k, hk, rfl, hany, lo⟩ := hrel
    by_cases hlt : k < xs.length
    · obtain ⟨b, off, hA, hbw, g1⟩ := (hV.below lo (Nat.le_refl _)) k (by simpa using hlt)
      subst hA
      have hix := ixI b off xs.length cx k hxs hlt
      have e1 : (xs.take (k + 1)).any (fun x => !Gm.litB N l x) = !Gm.litB N l xs[k] := by rw [List.take_succ_eq_append_getElem hlt, List.any_append, hany]; simp
      have e2 : Gm.litB N l xs[k] = false → xs.any (fun x => !Gm.litB N l x) = true := fun h => List.any_eq_true.2 ⟨xs[k], by simp, by simp [h]⟩
      have E1 := Lib.hid e1
      have E2 := Lib.hid e2
      have HS := Lib.hid (stray_any gb N A l q xs[k] wr hl ((lo.cell (p := ⟨gb, 0, none⟩) hgb).trans h0) ((lo.cell (p := ⟨gb, 1, none⟩) hgb).trans h1))
      have g1' : wr.cell? ⟨b, off + k, none⟩ = some (.int .i64 xs[k]) := by simpa using g1
      have HAny := Lib.hid hany
      clear e1 e2 g1 hany
      generalize xs[k] = x at *
      generalize Gm.litB N l x = z at *
      go_wp2_with fail
      refine HS.out.mono ?_
      rintro e w1 ⟨rfl, hb1⟩
      have lo1 := lo.trans (hb1.mono lo.size)
      cases z with
      | true =>
        go_wp2
        go_roundw
        case rel => exact ⟨k + 1, by omega, by go_num, by rw [E1.out]; rfl, lo1⟩
        case measure => simp [intOf]; omega
      | false =>
        go_wp2
        go_ret
        exact ⟨⟨_, rfl, by rw [E2.out trivial]; simp⟩, lo1⟩
    · obtain rfl : k = xs.length := by omega
      rw [List.take_length] at hany
      have HA := Lib.hid hany
      clear hany
      go_wp2
      go_ret
      exact ⟨⟨_, rfl, by rw [HA.out]; rfl⟩, lo⟩

set_option maxHeartbeats 1000000 in
theorem containsInts_any (gb : Nat) (N : Int) (A : Option Addr) (l q : Nat) (Ax : Option Addr) (cx : Nat) (xs : List Int) (w : World) (hl : l ≤ 1000000) (hxs : xs.length ≤ 1000000) (hV : Vs w w.heap.size Ax (iv xs)) (hgb : gb < w.heap.size) (h0 : w.cell? ⟨gb, 0, none⟩ = some (.int .i64 N)) (h1 : w.cell? ⟨gb, 1, none⟩ = some (.slice A l q)) :
    Calls Tryz.prog 77 #[.slice Ax xs.length cx, .func (.func 76) #[] #[.pointer (some ⟨gb, 0, none⟩)]] w fun e w' => e = .returned (.bool (xs.any (fun x => !Gm.litB N l x))) ∧ Below w.heap.size w w' := by
  have HI := Lib.hid (indexInts_any gb N A l q Ax cx xs w hl hxs hV hgb h0 h1)
  generalize xs.any (fun x => !Gm.litB N l x) = z at *
  go_enter Tryz.func77, Tryz.ntmps77
  go_wp2_with fail
  refine HI.out.mono ?_
  rintro e w1 ⟨⟨r, rfl, hr⟩, hb1⟩
  have HR := Lib.hid hr
  clear hr
  go_wp2
  go_ret
  exact ⟨ret_bool HR.out, hb1⟩
end Go.Proofs.YtdnbndknfifmgaaGreatDoor
/- driven; ordered. -/
namespace Go.Proofs.YtdnbndknfifmgaaGreatDoor
open Go.RowKit

namespace Cm
def latB (N : Int) (l : Nat) (q : Int × Int) : Bool := Gm.litB N l q.1 && decide (0 ≤ q.2) && decide (q.2 ≤ 2)
def drivenB (c : Cir) : Bool := c.ls.all (latB (c.n + c.ls.length) c.gs.length) && (List.range 6).all fun i => (lstS c (kindAt i)).all (Gm.litB (c.n + c.ls.length) c.gs.length)
theorem fits_facts {c : Cir} (h : fitsB c = true) : 0 ≤ c.n ∧ c.n ≤ 2000 ∧ c.ls.length ≤ 2000 ∧ c.os.length ≤ 2000 ∧ c.bs.length ≤ 2000 ∧ c.cs.length ≤ 2000 ∧ c.fs.length ≤ 2000 := by
  simp [fitsB] at h
  omega
theorem lst_len {c : Cir} (h : fitsB c = true) (k : Int) : (lstS c k).length ≤ 2000 := by
  have := fits_facts h
  unfold lstS
  split
  · omega
  · split
    · omega
    · split
      · omega
      · split
        · omega
        · simp
theorem wrapW {c : Cir} (h : fitsB c = true) : wrap64 (c.n + c.ls.length) = c.n + c.ls.length := by
  have := fits_facts h
  unfold wrap64
  omega
theorem not_any {α : Type} (p : α → Bool) (xs : List α) : xs.any (fun x => !p x) = !xs.all p := by
  induction xs with
  | nil => rfl
  | cons x t ih => simp [ih, Bool.not_and]
end Cm
theorem CirM.lst {w : World} {B : Nat} {c : Cir} (h : CirM w B c) (k : Int) : ∃ A q, lstV c k = .slice A (Cm.lstS c k).length q ∧ Vs w B A (iv (Cm.lstS c k)) := by
  unfold lstV Cm.lstS
  split
  · exact ⟨_, _, rfl, h.ho⟩
  · split
    · exact ⟨_, _, rfl, h.hb⟩
    · split
      · exact ⟨_, _, rfl, h.hc⟩
      · split
        · exact ⟨_, _, rfl, h.hf⟩
        · exact ⟨none, 0, rfl, vs_nil⟩
/-- What driven's loops keep: the circuit's box, the graph's box. -/
structure DL (w wr : World) (c : Cir) (gb : Nat) : Prop where
  low : Below w.heap.size w wr
  box : Blk wr w.heap.size 29 #[.int .i64 c.n, .slice c.aL c.ls.length c.cL, .slice c.aG c.gs.length c.cG, .slice c.aO c.os.length c.cO, .slice c.aB c.bs.length c.cB, .slice c.aC c.cs.length c.cC, .slice c.aF c.fs.length c.cF, .slice c.aN c.ns.length c.cN]
  gx : Blk wr gb 64 #[.int .i64 (c.n + c.ls.length), .slice c.aG c.gs.length c.cG]
  lb : w.heap.size < gb
theorem DL.below {w wr w2 : World} {c : Cir} {gb : Nat} (h : DL w wr c gb) (hb : Below wr.heap.size wr w2) : DL w w2 c gb :=
  ⟨h.low.trans (hb.mono h.low.size), h.box.below hb h.box.lt, h.gx.below hb h.gx.lt, h.lb⟩

set_option maxRecDepth 100000 in
set_option maxHeartbeats 8000000 in
theorem driven_any (c : Cir) (w : World) (hM : CirM w w.heap.size c) (hW : CirW c) (hf : Cm.fitsB c = true) : Calls Tryz.prog 51 #[.agg #[.int .i64 c.n, .slice c.aL c.ls.length c.cL, .slice c.aG c.gs.length c.cG, .slice c.aO c.os.length c.cO, .slice c.aB c.bs.length c.cB, .slice c.aC c.cs.length c.cC, .slice c.aF c.fs.length c.cF, .slice c.aN c.ns.length c.cN]] w fun e w' => e = .returned (.bool (Cm.drivenB c)) ∧ Below w.heap.size w w' := by
  have hbx := boxed w c
  have c0 := hbx.cell 0
  have c1 := hbx.cell 1
  have c2 := hbx.cell 2
  have c3 := hbx.cell 3
  have c4 := hbx.cell 4
  have c5 := hbx.cell 5
  have c6 := hbx.cell 6
  have c7 := hbx.cell 7
  simp only [List.getElem?_toArray, List.getElem?_cons_zero, List.getElem?_cons_succ] at c0 c1 c2 c3 c4 c5 c6 c7
  have hff := Cm.fits_facts hf
  have HF := Lib.hid hf
  have HI := Lib.hid (inner_any c (w.alloc (Obj.cells #[.int .i64 c.n, .slice c.aL c.ls.length c.cL, .slice c.aG c.gs.length c.cG, .slice c.aO c.os.length c.cO, .slice c.aB c.bs.length c.cB, .slice c.aC c.cs.length c.cC, .slice c.aF c.fs.length c.cF, .slice c.aN c.ns.length c.cN] 29)))
  rw [Cm.wrapW hf] at HI
  have hmf : ∀ (fn : Fn) (first cap : Array Value) (w : World), (Instr.makeFunc fn first cap).run Tryz.prog w = .ok (.func fn first cap) w := fun _ _ _ _ => rfl
  have hnot : ∀ (x : Bool) (w : World), (Op.unary .not (.bool x)).run Tryz.prog w = .ok (.bool (!x)) w := fun _ _ => rfl
  obtain ⟨z, hz⟩ : ∃ z, z = Cm.drivenB c := ⟨_, rfl⟩
  rw [← hz]
  have HZ := Lib.hid hz
  clear hz hf
  have hlg := hW.lg
  go_enter Tryz.func51, Tryz.ntmps51
  go_wp2_with fail
  refine HI.out.mono ?_
  rintro e w1 ⟨rfl, hb1⟩
  have hs1 := hb1.size
  simp at hs1
  have hst : DL w (w1.alloc (Obj.cells #[.int .i64 (c.n + c.ls.length), .slice c.aG c.gs.length c.cG] 64)) c w1.heap.size :=
    ⟨((lowAlloc w _).trans (hb1.mono (by simp))).alloc (by omega) _, (hbx.below hb1 (by simp)).alloc _, Blk.new w1 _ _, by omega⟩
  clear c0 c1 c2 c3 c4 c5 c6 c7 hbx HI hb1
  go_upto_region 2 with fail
  generalize w1.alloc (Obj.cells #[.int .i64 (c.n + c.ls.length), .slice c.aG c.gs.length c.cG] 64) = V at *
  have c1 := hst.box.cell 1
  simp only [List.getElem?_toArray, List.getElem?_cons_zero, List.getElem?_cons_succ] at c1
  have HST := Lib.hid hst
  clear hst
  go_wp2
  clear c1
  go_loopw [14] (fun i wr => ∃ k : Nat, k ≤ c.ls.length ∧ i = .int .i64 k ∧ (c.ls.take k).all (Cm.latB (c.n + c.ls.length) c.gs.length) = true ∧ DL w wr c w1.heap.size) (fun i _ => c.ls.length - (intOf i).toNat)
  case atStart => exact ⟨0, Nat.zero_le _, rfl, rfl, HST.out⟩
  case round =>
    obtain ⟨k, hk, rfl, hall, hi⟩ := hrel
    by_cases hlt : k < c.ls.length
    · obtain ⟨b, off, hA, hbw, g1, g2⟩ := (hM.hl.below hi.low (Nat.le_refl _)) k hlt
      have e1 : (c.ls.take (k + 1)).all (Cm.latB (c.n + c.ls.length) c.gs.length) = Cm.latB (c.n + c.ls.length) c.gs.length c.ls[k] := by rw [List.take_succ_eq_append_getElem hlt, List.all_append, hall]; simp
      have e2 : Cm.latB (c.n + c.ls.length) c.gs.length c.ls[k] = false → Cm.drivenB c = false := fun h => by
        have : c.ls.all (Cm.latB (c.n + c.ls.length) c.gs.length) = false := List.all_eq_false.2 ⟨c.ls[k], by simp, by simp [h]⟩
        simp only [Cm.drivenB, this, Bool.false_and]
      have E1 := Lib.hid e1
      have E2 := Lib.hid e2
      have d0 := hi.gx.cell 0
      have d1 := hi.gx.cell 1
      simp only [List.getElem?_toArray, List.getElem?_cons_zero, List.getElem?_cons_succ] at d0 d1
      have hgl := hi.gx.lt
      have HALL := Lib.hid hall
      clear e1 e2 hall
      generalize c.ls[k] = g at *
      obtain ⟨x, y⟩ := g
      simp only at g1 g2
      have hlo := hi.low
      rw [hA]
      have hi2 := hi.below (lowAlloc wr (Obj.cells #[.int .i64 x, .int .i64 y] 49))
      have HL := Lib.hid (lit_any (c.n + c.ls.length) c.aG c.gs.length c.cG x (wr.alloc (Obj.cells #[.int .i64 x, .int .i64 y] 49)) hlg)
      have hlat : Cm.latB (c.n + c.ls.length) c.gs.length (x, y) = (Gm.litB (c.n + c.ls.length) c.gs.length x && decide (0 ≤ y) && decide (y ≤ 2)) := rfl
      rw [hlat] at E1 E2
      clear hlat
      go_wp2_with fail
      refine HL.out.mono ?_
      rintro e w2 ⟨rfl, hb2⟩
      have hi3 := hi2.below hb2
      have q0 := (hb2.cell (p := ⟨wr.heap.size, 0, none⟩) (by simp)).trans (show (wr.alloc (Obj.cells #[.int .i64 x, .int .i64 y] 49)).cell? ⟨wr.heap.size, 0, none⟩ = some (.int .i64 x) by simp)
      have q1 := (hb2.cell (p := ⟨wr.heap.size, 1, none⟩) (by simp)).trans (show (wr.alloc (Obj.cells #[.int .i64 x, .int .i64 y] 49)).cell? ⟨wr.heap.size, 1, none⟩ = some (.int .i64 y) by simp)
      generalize Gm.litB (c.n + c.ls.length) c.gs.length x = t at *
      clear hi hi2 hb2 g1 g2 d0 d1
      cases t with
      | false =>
        have HN := Lib.hid (E2.out (by simp))
        go_wp2
        go_ret
        exact ⟨ret_bool (HZ.out.trans HN.out).symm, hi3.low⟩
      | true =>
        by_cases hy0 : y < 0
        · have HN := Lib.hid (E2.out (by simp; omega))
          go_wp2
          go_ret
          exact ⟨ret_bool (HZ.out.trans HN.out).symm, hi3.low⟩
        · by_cases hy2 : 2 < y
          · have HN := Lib.hid (E2.out (by simp; omega))
            go_wp2
            go_ret
            exact ⟨ret_bool (HZ.out.trans HN.out).symm, hi3.low⟩
          · have HT := Lib.hid (E1.out.trans (show (true && decide (0 ≤ y) && decide (y ≤ 2)) = true by simp; omega))
            go_wp2
            go_roundw
            case rel => exact ⟨k + 1, by omega, by go_num, HT.out, hi3⟩
            case measure => simp [intOf]; omega
    · obtain rfl : k = c.ls.length := by omega
      rw [List.take_length] at hall
      have HALL := Lib.hid hall
      clear hall
      have hst : DL w (wr.iter Cm.kinds 0) c w1.heap.size := hi.below (lowAlloc wr _)
      have hit0 : Hp (wr.iter Cm.kinds 0) wr.heap.size (.stringIter Cm.kinds 0) := Hp.new wr _
      have HST := Lib.hid hst
      have HIT := Lib.hid hit0
      have hwr := hi.gx.lt
      have hws := hi.low.size
      have hlb := hi.lb
      clear hst hit0 hi
      go_wp2
      go_loopw [8] (fun _ V => ∃ k : Nat, k ≤ 6 ∧ (List.range k).all (fun i => (Cm.lstS c (Cm.kindAt i)).all (Gm.litB (c.n + c.ls.length) c.gs.length)) = true ∧ DL w V c w1.heap.size ∧ Hp V wr.heap.size (.stringIter Cm.kinds k)) (fun _ V => 6 - iterPos V wr.heap.size)
      case atStart => exact ⟨0, by omega, rfl, HST.out, HIT.out⟩
      case round =>
        obtain ⟨k, hk, hal, hi, hit⟩ := hrel
        have hip := hit.pos
        by_cases hlt : k < 6
        · obtain ⟨wn, hnx, hitn, hgr⟩ := next_kind _ _ k hit hlt
          have hls := hi.low.size
          have lo := below_grown hi.low hgr (by omega) hi.low.size
          have hbx := hi.box.grown hgr (fun e => by injection e with e; omega)
          have hgx := hi.gx.grown hgr (fun e => by injection e with e; omega)
          have c0 := hbx.cell 0
          have c1 := hbx.cell 1
          have c2 := hbx.cell 2
          have c3 := hbx.cell 3
          have c4 := hbx.cell 4
          have c5 := hbx.cell 5
          have c6 := hbx.cell 6
          have c7 := hbx.cell 7
          simp only [List.getElem?_toArray, List.getElem?_cons_zero, List.getElem?_cons_succ] at c0 c1 c2 c3 c4 c5 c6 c7
          have HIP := Lib.hid hip
          have e1 : (List.range (k + 1)).all (fun i => (Cm.lstS c (Cm.kindAt i)).all (Gm.litB (c.n + c.ls.length) c.gs.length)) = (Cm.lstS c (Cm.kindAt k)).all (Gm.litB (c.n + c.ls.length) c.gs.length) := by rw [List.range_succ, List.all_append, hal]; simp
          have e2 : (Cm.lstS c (Cm.kindAt k)).all (Gm.litB (c.n + c.ls.length) c.gs.length) = false → Cm.drivenB c = false := fun h => by
            have : (List.range 6).all (fun i => (Cm.lstS c (Cm.kindAt i)).all (Gm.litB (c.n + c.ls.length) c.gs.length)) = false := List.all_eq_false.2 ⟨k, by simpa using hlt, by simp [h]⟩
            simp only [Cm.drivenB, this, Bool.and_false]
          have E1 := Lib.hid e1
          have E2 := Lib.hid e2
          clear hip e1 e2 hal
          go_wp2_with fail
          refine (listed_any c (Cm.kindAt k) wn).mono ?_
          rintro e w2 ⟨rfl, hb2⟩
          obtain ⟨A, q, hl, hV⟩ := hM.lst (Cm.kindAt k)
          rw [hl]
          have lo2 := lo.trans (hb2.mono lo.size)
          have hgx2 := hgx.below hb2 hgx.lt
          have hit2 := hitn.below hb2 hitn.lt
          have hbx2 := hbx.below hb2 hbx.lt
          have d0 := hgx2.cell 0
          have d1 := hgx2.cell 1
          simp only [List.getElem?_toArray, List.getElem?_cons_zero, List.getElem?_cons_succ] at d0 d1
          have HC := Lib.hid (containsInts_any w1.heap.size (c.n + c.ls.length) c.aG c.gs.length c.cG A q (Cm.lstS c (Cm.kindAt k)) w2 hlg (Nat.le_trans (Cm.lst_len HF.out _) (by omega)) ((hV.below lo2 (Nat.le_refl _)).more lo2.size) hgx2.lt d0 d1)
          rw [Cm.not_any] at HC
          clear hl c0 c1 c2 c3 c4 c5 c6 c7 hnx hV
          generalize (Cm.lstS c (Cm.kindAt k)).all (Gm.litB (c.n + c.ls.length) c.gs.length) = t at *
          generalize (Cm.lstS c (Cm.kindAt k)).length = len at *
          go_wp2_with fail
          refine HC.out.mono ?_
          rintro e w3 ⟨rfl, hb3⟩
          have hfin : DL w w3 c w1.heap.size := ⟨lo2.trans (hb3.mono lo2.size), hbx2.below hb3 hbx2.lt, hgx2.below hb3 hgx2.lt, hi.lb⟩
          have hit3 := hit2.below hb3 hit2.lt
          clear hb3 hb2 d0 d1 lo lo2 hbx hgx hgx2 hbx2 hit2 hitn hit hi hgr
          cases t with
          | false =>
            have HN := Lib.hid (E2.out rfl)
            go_wp2
            go_ret
            exact ⟨ret_bool (HZ.out.trans HN.out).symm, hfin.low⟩
          | true =>
            go_wp2
            go_roundw
            case rel => exact ⟨k + 1, by omega, E1.out, hfin, hit3⟩
            case measure => rw [HIP.out, hit3.pos]; omega
        · obtain rfl : k = 6 := by omega
          have hnx := next_kend _ _ hit
          have HA : Hid (Cm.drivenB c = true) := by
            unfold Hid Cm.drivenB
            rw [HALL.out, hal]
            rfl
          have lo := hi.low
          clear hal hi hip hit
          go_wp2
          go_ret
          exact ⟨ret_bool (HZ.out.trans HA.out).symm, lo⟩
end Go.Proofs.YtdnbndknfifmgaaGreatDoor
