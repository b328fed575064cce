/- Texts of circuits: what is parsed, what is printed, and that the one undoes the other. -/
import Derived.Test.YtdnbndknfifmgaaGreatDoorUai
import Derived.Test.YtdnbndknfifmgaaGreatDoorUah
import Derived.Lib.AtoiTie
import Derived.Lib.ItoaMem
import Derived.Lib.Split
import Derived.Lib.SplitLaws
import Derived.Lib.IndexBytes
import Derived.Test.YtdnbndknfifmgaaGreatDoorUaa
import Derived.Laws.IdiomStrings
import Derived.Lib.BufferRead
namespace Go.Proofs.YtdnbndknfifmgaaGreatDoor
open Go.RowKit

namespace Ag
/-- A circuit by its data alone. -/
def mk (n : Int) (ls gs : List (Int × Int)) (os bs cs fs : List Int) (ns : List Nm) : Cir := { n := n, aL := none, cL := 0, ls := ls, aG := none, cG := 0, gs := gs, aO := none, cO := 0, os := os, aB := none, cB := 0, bs := bs, aC := none, cC := 0, cs := cs, aF := none, cF := 0, fs := fs, aN := none, cN := 0, ns := ns }
def strip (c : Cir) : Cir := mk c.n c.ls c.gs c.os c.bs c.cs c.fs c.ns
def ge (m : List Nat) (i : Nat) : Nat := m.getD i 0
/-- The first line: its nine numbers, and what is behind it. -/
def headS (word s : Bs) : Option (List Nat × Bs) :=
  match lineS s with
  | none => none
  | some (l, r) =>
    match wordsS l with
    | [] => none
    | w :: ws =>
      if w = word ∧ 5 ≤ ws.length ∧ ws.length ≤ 9 then
        match ws.mapM digL with
        | none => none
        | some m => if (∀ x ∈ m, x ≤ 2000) ∧ ge m 0 = ge m 1 + ge m 2 + ge m 4 ∧ ge m 7 = 0 then some (m, r) else none
      else none
def insS : Nat → Nat → Bs → Option Bs
  | 0, _, r => some r
  | k + 1, i, r => match lineS r with
    | none => none
    | some (l, r') => if numsS l = some [2 * (i + 1)] then insS k (i + 1) r' else none
/-- A latch's Reset, as it is written. -/
def resetS (own x : Nat) : Option Int := if x = own then some 2 else if x = 0 then some 0 else if x = 1 then some 1 else none
/-- The numbers of a latch's line behind those with which it begins. -/
def latN (own : Nat) (m : List Nat) : Option (Int × Int) :=
  match m with
  | [a] => some ((a : Int), 0)
  | [a, x] => match resetS own x with | some k => some ((a : Int), k) | none => none
  | _ => none
def openS (begin : List Nat) (l : Bs) : Option (List Nat) :=
  match numsS l with
  | none => none
  | some m => if begin.length ≤ m.length ∧ m.take begin.length = begin then some (m.drop begin.length) else none
def latS (begin : List Nat) (own : Nat) (l : Bs) : Option (Int × Int) := match openS begin l with | none => none | some m => latN own m
/-- Latches: with their own literals ahead, or without. -/
def latsS (with_ : Bool) : Nat → Nat → Bs → Option (List (Int × Int) × Bs)
  | 0, _, r => some ([], r)
  | k + 1, i, r => match lineS r with
    | none => none
    | some (l, r') => match latS (if with_ then [2 * (i + 1)] else []) (2 * (i + 1)) l with
      | none => none
      | some q => match latsS with_ k (i + 1) r' with
        | none => none
        | some (qs, r'') => some (q :: qs, r'')
def colS : Nat → Bs → Option (List Int × Bs)
  | 0, r => some ([], r)
  | k + 1, r => match lineS r with
    | none => none
    | some (l, r') => match numsS l with
      | some [x] => match colS k r' with
        | none => none
        | some (xs, r'') => some ((x : Int) :: xs, r'')
      | _ => none
def gatS : Nat → Nat → Bs → Option (List (Int × Int) × Bs)
  | 0, _, r => some ([], r)
  | k + 1, i, r => match lineS r with
    | none => none
    | some (l, r') => match openS [2 * (i + 1)] l with
      | some [a, b] => match gatS k (i + 1) r' with
        | none => none
        | some (gs, r'') => some (((a : Int), (b : Int)) :: gs, r'')
      | _ => none
def nameS (l : Bs) : Option Nm :=
  match wordsS l with
  | [k :: ds, tx] => match digL ds with | some a => some ((k.toNat : Int), (a : Int), ⟨tx.toArray⟩) | none => none
  | _ => none
/-- Names, to the end or to the comment; the first number bounds the lines. -/
def namesF : Nat → Bs → Option (List Nm)
  | 0, _ => some []
  | f + 1, r => if r = [] then some [] else match lineS r with
    | none => none
    | some (l, r') => if l = [99] then some [] else match nameS l with
      | none => none
      | some x => match namesF f r' with
        | none => none
        | some xs => some (x :: xs)
def sigsS (m : List Nat) (r : Bs) : Option ((List Int × List Int × List Int × List Int) × Bs) :=
  match colS (ge m 3) r with
  | none => none
  | some (os, r1) => match colS (ge m 5) r1 with
    | none => none
    | some (bs, r2) => match colS (ge m 6) r2 with
      | none => none
      | some (cs, r3) => match colS (ge m 8) r3 with
        | none => none
        | some (fs, r4) => some ((os, bs, cs, fs), r4)
def bodyS (m : List Nat) (r : Bs) : Option Cir :=
  match insS (ge m 1) 0 r with
  | none => none
  | some r1 => match latsS true (ge m 2) (ge m 1) r1 with
    | none => none
    | some (ls, r2) => match sigsS m r2 with
      | none => none
      | some ((os, bs, cs, fs), r3) => match gatS (ge m 4) (ge m 1 + ge m 2) r3 with
        | none => none
        | some (gs, r4) => match namesF r4.length r4 with
          | none => none
          | some ns => some (mk (ge m 1 : Nat) ls gs os bs cs fs ns)
def aagW : Bs := [97, 97, 103]
/-- The circuit of a text, or the error. -/
def parseS (s : Bs) : Except Nat Cir :=
  if 20000 < s.length then .error 2 else match headS aagW s with
  | none => .error 20
  | some (m, r) => match bodyS m r with
    | none => .error 21
    | some c => if Cm.rightC c = true then .ok c else .error 22

def lineOf (ns : List Nat) : Bs := spell ns ++ [10]
def sizes (c : Cir) : List Nat := [c.n.toNat + c.ls.length + c.gs.length, c.n.toNat, c.ls.length, c.os.length, c.gs.length, c.bs.length, c.cs.length, 0, c.fs.length]
def insP : Nat → Nat → Bs
  | 0, _ => []
  | k + 1, i => lineOf [2 * (i + 1)] ++ insP k (i + 1)
def latP (begin : List Nat) (own : Nat) (q : Int × Int) : Bs := lineOf (begin ++ q.1.toNat :: (if q.2 = 1 then [1] else if q.2 = 2 then [own] else []))
def latsP (with_ : Bool) : List (Int × Int) → Nat → Bs
  | [], _ => []
  | q :: qs, i => latP (if with_ then [2 * (i + 1)] else []) (2 * (i + 1)) q ++ latsP with_ qs (i + 1)
def colP : List Int → Bs
  | [] => []
  | z :: zs => lineOf [z.toNat] ++ colP zs
def gatP : List (Int × Int) → Nat → Bs
  | [], _ => []
  | g :: gs, i => lineOf [2 * (i + 1), g.1.toNat, g.2.toNat] ++ gatP gs (i + 1)
def nameP (x : Nm) : Bs := UInt8.ofNat x.1.toNat :: (num x.2.1.toNat ++ 32 :: x.2.2.data.toList)
def namesP : List Nm → Bs
  | [] => []
  | x :: xs => nameP x ++ 10 :: namesP xs
def sigsP (c : Cir) : Bs := colP c.os ++ (colP c.bs ++ (colP c.cs ++ colP c.fs))
def printS (c : Cir) : Bs := aagW ++ 32 :: (lineOf (sizes c) ++ (insP c.n.toNat 0 ++ (latsP true c.ls c.n.toNat ++ (sigsP c ++ (gatP c.gs (c.n.toNat + c.ls.length) ++ namesP c.ns)))))

theorem line_lineOf (ns : List Nat) (r : Bs) : lineS (lineOf ns ++ r) = some (spell ns, r) := by
  unfold lineOf
  rw [List.append_assoc]
  exact line_of (spell_plain ns) r
theorem ins_back (k i : Nat) (r : Bs) (h : 2 * (i + k) ≤ 999999) : insS k i (insP k i ++ r) = some r := by
  induction k generalizing i with
  | zero => rfl
  | succ k ih =>
    rw [insP, List.append_assoc, insS, line_lineOf]
    simp only
    rw [nums_spell (by simp) (by simp; omega), if_pos rfl]
    exact ih (i + 1) (by omega)
theorem open_spell (begin m : List Nat) (h : begin ++ m ≠ []) (hm : ∀ n ∈ begin ++ m, n ≤ 999999) : openS begin (spell (begin ++ m)) = some m := by
  unfold openS
  rw [nums_spell h hm]
  simp only
  rw [if_pos ⟨by simp, by simp⟩]
  simp
theorem lat_back (begin : List Nat) (own : Nat) (q : Int × Int) (hb : ∀ n ∈ begin, n ≤ 999999) (ho : own ≤ 999999) (ho2 : 2 ≤ own) (h1 : 0 ≤ q.1 ∧ q.1 ≤ 999999) (h2 : 0 ≤ q.2 ∧ q.2 ≤ 2) (r : Bs) :
    lineS (latP begin own q ++ r) = some (spell (begin ++ q.1.toNat :: (if q.2 = 1 then [1] else if q.2 = 2 then [own] else [])), r) ∧ latS begin own (spell (begin ++ q.1.toNat :: (if q.2 = 1 then [1] else if q.2 = 2 then [own] else []))) = some q := by
  refine ⟨line_lineOf _ r, ?_⟩
  obtain ⟨x, y⟩ := q
  simp only at h1 h2
  unfold latS
  rw [open_spell begin _ (by simp) ?_]
  · simp only
    have hx : ((x.toNat : Nat) : Int) = x := by omega
    have hy : y = 0 ∨ y = 1 ∨ y = 2 := by omega
    rcases hy with rfl | rfl | rfl
    · simp [latN, hx]
    · have : ¬ 1 = own := by omega
      simp [latN, resetS, hx, this]
    · simp [latN, resetS, hx]
  · intro n hn
    rcases List.mem_append.1 hn with h | h
    · exact hb n h
    · rcases List.mem_cons.1 h with rfl | h
      · omega
      · split at h
        · simp at h
          omega
        · split at h
          · simp at h
            omega
          · simp at h
theorem lats_back (w : Bool) (ls : List (Int × Int)) (i : Nat) (r : Bs) (h : 2 * (i + ls.length) ≤ 999999) (hq : ∀ q ∈ ls, (0 ≤ q.1 ∧ q.1 ≤ 999999) ∧ 0 ≤ q.2 ∧ q.2 ≤ 2) : latsS w ls.length i (latsP w ls i ++ r) = some (ls, r) := by
  induction ls generalizing i with
  | nil => rfl
  | cons q qs ih =>
    rw [List.length_cons] at h
    obtain ⟨e1, e2⟩ := lat_back (if w then [2 * (i + 1)] else []) (2 * (i + 1)) q (by intro n hn; split at hn <;> simp at hn; omega) (by omega) (by omega) (hq q (by simp)).1 (hq q (by simp)).2 (latsP w qs (i + 1) ++ r)
    rw [latsP, List.append_assoc, List.length_cons, latsS, e1]
    simp only
    rw [e2]
    simp only
    rw [ih (i + 1) (by omega) (fun q hq' => hq q (by simp [hq']))]
theorem col_back (zs : List Int) (r : Bs) (h : ∀ z ∈ zs, 0 ≤ z ∧ z ≤ 999999) : colS zs.length (colP zs ++ r) = some (zs, r) := by
  induction zs with
  | nil => rfl
  | cons z zs ih =>
    have hz := h z (by simp)
    rw [colP, List.append_assoc, List.length_cons, colS, line_lineOf]
    simp only
    rw [nums_spell (by simp) (by simp; omega)]
    simp only
    rw [ih (fun x hx => h x (by simp [hx]))]
    simp
    omega
theorem gat_back (gs : List (Int × Int)) (i : Nat) (r : Bs) (h : 2 * (i + gs.length) ≤ 999999) (hq : ∀ q ∈ gs, (0 ≤ q.1 ∧ q.1 ≤ 999999) ∧ 0 ≤ q.2 ∧ q.2 ≤ 999999) : gatS gs.length i (gatP gs i ++ r) = some (gs, r) := by
  induction gs generalizing i with
  | nil => rfl
  | cons g gs ih =>
    rw [List.length_cons] at h
    have hg := hq g (by simp)
    rw [gatP, List.append_assoc, List.length_cons, gatS, line_lineOf]
    simp only
    have e := open_spell [2 * (i + 1)] [g.1.toNat, g.2.toNat] (by simp) (by simp; omega)
    rw [List.singleton_append] at e
    rw [e]
    simp only
    rw [ih (i + 1) (by omega) (fun q hq' => hq q (by simp [hq']))]
    obtain ⟨x, y⟩ := g
    simp only at hg
    simp
    omega
/-- A name that may be written. -/
def NameOk (x : Nm) : Prop := (0 ≤ x.1 ∧ x.1 ≤ 255 ∧ x.1 ≠ 10 ∧ x.1 ≠ 32) ∧ (0 ≤ x.2.1 ∧ x.2.1 ≤ 999999) ∧ ∀ b ∈ x.2.2.data.toList, b ≠ 10 ∧ b ≠ 32
theorem ofNat_kind {k : Int} (h : 0 ≤ k ∧ k ≤ 255) : ((UInt8.ofNat k.toNat).toNat : Int) = k := by
  rw [UInt8.toNat_ofNat_of_lt' (show k.toNat < 256 by omega)]
  omega
theorem name_back {x : Nm} (h : NameOk x) : nameS (nameP x) = some x ∧ (∀ b ∈ nameP x, b ≠ 10) ∧ nameP x ≠ [99] := by
  obtain ⟨k, a, t⟩ := x
  obtain ⟨⟨k0, k1, k2, k3⟩, ⟨a0, a1⟩, ht⟩ := h
  simp only at k0 k1 k2 k3 a0 a1 ht
  have hk := ofNat_kind ⟨k0, k1⟩
  obtain ⟨b, hb⟩ : ∃ b, b = UInt8.ofNat k.toNat := ⟨_, rfl⟩
  rw [← hb] at hk
  have hb10 : b ≠ 10 := by
    rintro rfl
    exact k2 (by simpa using hk.symm)
  have hb32 : b ≠ 32 := by
    rintro rfl
    exact k3 (by simpa using hk.symm)
  unfold nameP
  simp only
  rw [← hb]
  refine ⟨?_, ?_, ?_⟩
  · unfold nameS
    have e : wordsS (b :: (num a.toNat ++ 32 :: t.data.toList)) = [b :: num a.toNat, t.data.toList] := by
      have := words_cons (l := b :: num a.toNat) (by
        intro z hz
        rcases List.mem_cons.1 hz with rfl | hz
        · exact hb32
        · exact (num_plain _ z hz).1) t.data.toList
      rw [List.cons_append] at this
      rw [this, words_one (fun z hz => (ht z hz).2)]
    rw [e]
    simp only
    rw [dig_num (by omega)]
    simp only [hk, Array.toArray_toList]
    rw [show ((a.toNat : Nat) : Int) = a by omega]
  · intro z hz
    rcases List.mem_cons.1 hz with rfl | hz
    · exact hb10
    · rcases List.mem_append.1 hz with hz | hz
      · exact (num_plain _ z hz).2
      · rcases List.mem_cons.1 hz with rfl | hz
        · decide
        · exact (ht z hz).1
  · intro e
    have := congrArg List.length e
    simp at this
/-- What may stand behind the names: nothing, or a comment. -/
def Rest (r : Bs) : Prop := r = [] ∨ ∃ t, r = 99 :: 10 :: t
theorem names_back (ns : List Nm) (h : ∀ x ∈ ns, NameOk x) (r : Bs) (hr : Rest r) (f : Nat) (hf : (namesP ns ++ r).length ≤ f) : namesF f (namesP ns ++ r) = some ns := by
  induction ns generalizing f with
  | nil =>
    simp only [namesP, List.nil_append] at hf ⊢
    rcases hr with rfl | ⟨t, rfl⟩
    · cases f <;> simp [namesF]
    · cases f with
      | zero => simp at hf
      | succ f =>
        rw [namesF, if_neg (by simp)]
        have : lineS (99 :: 10 :: t) = some ([99], t) := line_of (l := [99]) (by simp) t
        rw [this]
        simp
  | cons x xs ih =>
    obtain ⟨e1, e2, e3⟩ := name_back (h x (by simp))
    simp only [namesP, List.append_assoc, List.cons_append, List.length_append, List.length_cons] at hf ⊢
    cases f with
    | zero => omega
    | succ f =>
      rw [namesF, if_neg (by simp), line_of e2]
      simp only
      rw [if_neg e3, e1]
      simp only
      rw [ih (fun y hy => h y (by simp [hy])) f (by simp; omega)]
/-- What is printed can be parsed. -/
structure PrintOk (c : Cir) : Prop where
  n0 : 0 ≤ c.n
  all : c.n + c.ls.length + c.gs.length ≤ 2000
  o : c.os.length ≤ 2000
  b : c.bs.length ≤ 2000
  c_ : c.cs.length ≤ 2000
  f : c.fs.length ≤ 2000
  ls : ∀ q ∈ c.ls, (0 ≤ q.1 ∧ q.1 ≤ 999999) ∧ 0 ≤ q.2 ∧ q.2 ≤ 2
  gs : ∀ q ∈ c.gs, (0 ≤ q.1 ∧ q.1 ≤ 999999) ∧ 0 ≤ q.2 ∧ q.2 ≤ 999999
  os : ∀ z ∈ c.os, 0 ≤ z ∧ z ≤ 999999
  bs : ∀ z ∈ c.bs, 0 ≤ z ∧ z ≤ 999999
  cs : ∀ z ∈ c.cs, 0 ≤ z ∧ z ≤ 999999
  fs : ∀ z ∈ c.fs, 0 ≤ z ∧ z ≤ 999999
  ns : ∀ x ∈ c.ns, NameOk x
theorem sizes_facts {c : Cir} (h : PrintOk c) : ∀ x ∈ sizes c, x ≤ 2000 := by
  have h1 := h.n0
  have h2 := h.all
  have h3 := h.o
  have h4 := h.b
  have h5 := h.c_
  have h6 := h.f
  intro x hx
  simp only [sizes, List.mem_cons, List.not_mem_nil, or_false] at hx
  omega
theorem head_back (word : Bs) (hw : ∀ b ∈ word, b ≠ 32 ∧ b ≠ 10) {c : Cir} (h : PrintOk c) (r : Bs) : headS word (word ++ 32 :: (lineOf (sizes c) ++ r)) = some (sizes c, r) := by
  have hsz := sizes_facts h
  have e : word ++ 32 :: (lineOf (sizes c) ++ r) = (word ++ 32 :: spell (sizes c)) ++ 10 :: r := by simp [lineOf]
  have hl := line_of (l := word ++ 32 :: spell (sizes c)) (by
    intro b hb
    rcases List.mem_append.1 hb with hb | hb
    · exact (hw b hb).2
    · rcases List.mem_cons.1 hb with rfl | hb
      · decide
      · exact spell_plain _ b hb) r
  have hn := nums_spell (ns := sizes c) (by simp [sizes]) (fun x hx => by have := hsz x hx; omega)
  have hlen : (wordsS (spell (sizes c))).length = 9 := by
    have key : ∀ (ws : List Bs) (ns : List Nat), ws.mapM digL = some ns → ns.length = ws.length := by
      intro ws
      induction ws with
      | nil =>
        intro ns h
        simp at h
        subst h
        rfl
      | cons w ws ih =>
        intro ns h
        rw [List.mapM_cons] at h
        cases hd : digL w with
        | none =>
          rw [hd] at h
          cases h
        | some n =>
          rw [hd] at h
          cases hr : ws.mapM digL with
          | none =>
            rw [hr] at h
            cases h
          | some ms =>
            rw [hr] at h
            injection h with h
            subst h
            simp [ih ms hr]
    rw [← key _ _ hn]
    rfl
  unfold numsS at hn
  unfold headS
  rw [e, hl]
  simp only
  rw [words_cons (fun b hb => (hw b hb).1)]
  simp only
  rw [if_pos ⟨trivial, by omega, by omega⟩, hn]
  simp only
  rw [if_pos ⟨hsz, rfl, rfl⟩]
theorem sigs_back {c : Cir} (h : PrintOk c) (r : Bs) : sigsS (sizes c) (sigsP c ++ r) = some ((c.os, c.bs, c.cs, c.fs), r) := by
  unfold sigsS sigsP
  simp only [List.append_assoc]
  show (match colS c.os.length _ with | none => none | some (os, r1) => _) = _
  rw [col_back c.os _ h.os]
  simp only
  show (match colS c.bs.length _ with | none => none | some (os, r1) => _) = _
  rw [col_back c.bs _ h.bs]
  simp only
  show (match colS c.cs.length _ with | none => none | some (os, r1) => _) = _
  rw [col_back c.cs _ h.cs]
  simp only
  show (match colS c.fs.length _ with | none => none | some (os, r1) => _) = _
  rw [col_back c.fs _ h.fs]
theorem body_back {c : Cir} (h : PrintOk c) (r : Bs) (hr : Rest r) : bodyS (sizes c) (insP c.n.toNat 0 ++ (latsP true c.ls c.n.toNat ++ (sigsP c ++ (gatP c.gs (c.n.toNat + c.ls.length) ++ (namesP c.ns ++ r))))) = some (strip c) := by
  have h1 := h.n0
  have h2 := h.all
  unfold bodyS
  show (match insS c.n.toNat 0 _ with | none => none | some r1 => _) = _
  rw [ins_back c.n.toNat 0 _ (by omega)]
  simp only
  show (match latsS true c.ls.length c.n.toNat _ with | none => none | some (ls, r2) => _) = _
  rw [lats_back true c.ls c.n.toNat _ (by omega) h.ls]
  simp only
  rw [sigs_back h]
  simp only
  show (match gatS c.gs.length (c.n.toNat + c.ls.length) _ with | none => none | some (gs, r2) => _) = _
  rw [gat_back c.gs _ _ (by omega) h.gs]
  simp only
  rw [names_back c.ns h.ns r hr _ (Nat.le_refl _)]
  simp only
  show some (mk ((c.n.toNat : Nat) : Int) c.ls c.gs c.os c.bs c.cs c.fs c.ns) = _
  rw [show ((c.n.toNat : Nat) : Int) = c.n by omega]
  rfl
theorem right_strip (c : Cir) : Cm.rightC (strip c) = Cm.rightC c := by
  have hd : ∀ k, Cm.lstS (strip c) k = Cm.lstS c k := fun _ => rfl
  have ho : ∀ (f : Nat) (z : Int) (l : List Nm), Cm.ordS (strip c) f z l = Cm.ordS c f z l := by
    intro f
    induction f with
    | zero =>
      intro z l
      cases l <;> simp [Cm.ordS]
    | succ f ih =>
      intro z l
      induction l generalizing z with
      | nil => simp [Cm.ordS]
      | cons x l ihl =>
        rw [Cm.ordS_cons, Cm.ordS_cons, ihl, ih]
        rfl
  unfold Cm.rightC Cm.namedB
  rw [ho]
  rfl
/-- What is printed is parsed to the same, with a comment behind it or none. -/
theorem parse_print {c : Cir} (h : PrintOk c) (hc : Cm.rightC c = true) (r : Bs) (hr : Rest r) (hl : (printS c ++ r).length ≤ 20000) : parseS (printS c ++ r) = .ok (strip c) := by
  unfold parseS
  rw [if_neg (by omega)]
  have e : printS c ++ r = aagW ++ 32 :: (lineOf (sizes c) ++ (insP c.n.toNat 0 ++ (latsP true c.ls c.n.toNat ++ (sigsP c ++ (gatP c.gs (c.n.toNat + c.ls.length) ++ (namesP c.ns ++ r)))))) := by
    unfold printS
    simp
  rw [e, head_back aagW (by decide) h]
  simp only
  rw [body_back h r hr]
  simp only
  rw [right_strip, if_pos hc]
end Ag
end Go.Proofs.YtdnbndknfifmgaaGreatDoor
/- What is right can be printed and parsed. -/
namespace Go.Proofs.YtdnbndknfifmgaaGreatDoor
open Go.RowKit

namespace Ag
theorem ord_gates (n : Int) (gs : List (Int × Int)) (i : Nat) (h : Gm.ordB n i gs = true) : ∀ g ∈ gs, 2 ≤ g.2 ∧ g.2 / 2 < g.1 / 2 ∧ g.1 / 2 < n + 1 + i + gs.length := by
  induction gs generalizing i with
  | nil => simp
  | cons a t ih =>
    simp only [Gm.ordB, Bool.and_eq_true, Gm.gateB, decide_eq_true_eq] at h
    intro g hg
    rcases List.mem_cons.1 hg with rfl | hg
    · simp only [List.length_cons]
      omega
    · have := ih (i + 1) h.2 g hg
      simp only [List.length_cons]
      omega
theorem ord_names (c : Cir) (hn : ∀ k, Cm.numS c k ≤ 2000) (f : Nat) (hf : f ≤ 6) : ∀ (l : List Nm) (z : Int), 0 ≤ z → Cm.ordS c f z l = true → ∀ x ∈ l, (x.1 = 105 ∨ x.1 = 108 ∨ x.1 = 111 ∨ x.1 = 98 ∨ x.1 = 99 ∨ x.1 = 102) ∧ 0 ≤ x.2.1 ∧ x.2.1 < 2000 := by
  induction f with
  | zero =>
    intro l z hz h x hx
    cases l with
    | nil => simp at hx
    | cons a t => simp [Cm.ordS] at h
  | succ f ih =>
    intro l
    induction l with
    | nil => simp
    | cons a t iht =>
      intro z hz h x hx
      rw [Cm.ordS_cons] at h
      split at h
      · rename_i hk
        simp only [Bool.and_eq_true, decide_eq_true_eq] at h
        rcases List.mem_cons.1 hx with rfl | hx
        · have := hn x.1
          refine ⟨?_, by omega, by omega⟩
          have hf5 : f = 0 ∨ f = 1 ∨ f = 2 ∨ f = 3 ∨ f = 4 ∨ f = 5 := by omega
          rcases hf5 with rfl | rfl | rfl | rfl | rfl | rfl <;> simp [Cm.kindAt] at hk <;> omega
        · exact iht (a.2.1 + 1) (by omega) h.2 x hx
      · exact ih (by omega) (a :: t) 0 (by omega) h x hx
theorem num_le {c : Cir} (h : Cm.fitsB c = true) (k : Int) : Cm.numS c k ≤ 2000 := by
  have h1 := Cm.fits_facts h
  have h2 := Cm.lst_len h k
  unfold Cm.numS
  split
  · omega
  · split <;> omega
theorem lits_ok {N : Int} {L : Nat} {zs : List Int} (h : ∀ z ∈ zs, Gm.litB N L z = true) (hN : 1 + N + L ≤ 2000) : ∀ z ∈ zs, 0 ≤ z ∧ z ≤ 999999 := by
  intro z hz
  have := h z hz
  simp only [Gm.litB, Bool.and_eq_true, decide_eq_true_eq] at this
  omega
theorem right_ok {c : Cir} (h : Cm.rightC c = true) : PrintOk c := by
  have hft := Cm.right_fits h
  have hff := Cm.fits_facts hft
  have h' := h
  simp only [Cm.rightC, Bool.and_eq_true] at h'
  obtain ⟨⟨⟨_, hg⟩, hd⟩, hn⟩ := h'
  simp only [Gm.rightB, Bool.and_eq_true, Gm.fitB, decide_eq_true_eq] at hg
  simp only [Cm.drivenB, Bool.and_eq_true, List.all_eq_true] at hd
  simp only [Cm.namedB, Bool.and_eq_true, List.all_eq_true, decide_eq_true_eq] at hn
  have hN : 1 + (c.n + c.ls.length) + c.gs.length ≤ 2000 := hg.1.1.2
  have hl : ∀ k, k < 6 → ∀ z ∈ Cm.lstS c (Cm.kindAt k), 0 ≤ z ∧ z ≤ 999999 := fun k hk => lits_ok (hd.2 k (by simpa using hk)) hN
  refine ⟨by omega, by omega, by omega, by omega, by omega, by omega, ?_, ?_, hl 2 (by omega), hl 3 (by omega), hl 4 (by omega), hl 5 (by omega), ?_⟩
  · intro q hq
    have := hd.1 q hq
    simp only [Cm.latB, Gm.litB, Bool.and_eq_true, decide_eq_true_eq] at this
    omega
  · intro q hq
    have := ord_gates _ _ _ hg.1.2 q hq
    omega
  · intro x hx
    obtain ⟨h1, h2, h3⟩ := ord_names c (num_le hft) 6 (by omega) c.ns 0 (by omega) hn.1.1 x hx
    have hw := hn.1.2 x hx
    simp only [Cm.wordB, Bool.and_eq_true, List.all_eq_true] at hw
    refine ⟨by omega, by omega, fun b hb => ?_⟩
    have := hw.2 b hb
    simp [Cm.okB] at this
    constructor <;> (intro e; subst e; simp at this)
theorem spell_len (ns : List Nat) (h : ∀ n ∈ ns, n ≤ 999999) : (spell ns).length ≤ 7 * ns.length := by
  induction ns with
  | nil => simp [spell]
  | cons n t ih =>
    have h1 := num_len 5 n (by have := h n (by simp); omega)
    cases t with
    | nil =>
      simp only [spell, List.length_cons, List.length_nil]
      omega
    | cons m t =>
      have := ih (fun x hx => h x (by simp [hx]))
      rw [spell]
      · simp only [List.length_append, List.length_cons] at this ⊢
        omega
      · simp
theorem lineOf_len (ns : List Nat) (h : ∀ n ∈ ns, n ≤ 999999) : (lineOf ns).length ≤ 7 * ns.length + 1 := by
  have := spell_len ns h
  simp only [lineOf, List.length_append, List.length_cons, List.length_nil]
  omega
theorem ins_len (k i : Nat) (h : 2 * (i + k) ≤ 999999) : (insP k i).length ≤ 8 * k := by
  induction k generalizing i with
  | zero => simp [insP]
  | succ k ih =>
    have h1 := ih (i + 1) (by omega)
    have h2 := lineOf_len [2 * (i + 1)] (by simp; omega)
    simp only [insP, List.length_append, List.length_cons, List.length_nil] at h2 ⊢
    omega
theorem lats_len (w : Bool) (ls : List (Int × Int)) (i : Nat) (h : 2 * (i + ls.length) ≤ 999999) (hq : ∀ q ∈ ls, (0 ≤ q.1 ∧ q.1 ≤ 999999) ∧ 0 ≤ q.2 ∧ q.2 ≤ 2) : (latsP w ls i).length ≤ 22 * ls.length := by
  induction ls generalizing i with
  | nil => simp [latsP]
  | cons q qs ih =>
    rw [List.length_cons] at h
    have h1 := ih (i + 1) (by omega) (fun q hq' => hq q (by simp [hq']))
    have hq0 := hq q (by simp)
    have h2 := lineOf_len ((if w then [2 * (i + 1)] else []) ++ q.1.toNat :: (if q.2 = 1 then [1] else if q.2 = 2 then [2 * (i + 1)] else [])) (by
      intro n hn
      rcases List.mem_append.1 hn with hn | hn
      · split at hn <;> simp at hn
        omega
      · rcases List.mem_cons.1 hn with rfl | hn
        · omega
        · split at hn
          · simp at hn
            omega
          · split at hn <;> simp at hn
            omega)
    have h3 : ((if w then [2 * (i + 1)] else []) ++ q.1.toNat :: (if q.2 = 1 then [1] else if q.2 = 2 then [2 * (i + 1)] else [])).length ≤ 3 := by
      have ha : (if w = true then [2 * (i + 1)] else []).length ≤ 1 := by cases w <;> simp
      have hb : (if q.2 = 1 then [1] else if q.2 = 2 then [2 * (i + 1)] else []).length ≤ 1 := by
        by_cases e1 : q.2 = 1
        · simp [e1]
        · rw [if_neg e1]
          by_cases e2 : q.2 = 2 <;> simp [e2]
      simp only [List.length_append, List.length_cons]
      omega
    simp only [latsP, latP, List.length_append, List.length_cons] at h2 h3 ⊢
    omega
theorem gat_len (gs : List (Int × Int)) (i : Nat) (h : 2 * (i + gs.length) ≤ 999999) (hq : ∀ q ∈ gs, (0 ≤ q.1 ∧ q.1 ≤ 999999) ∧ 0 ≤ q.2 ∧ q.2 ≤ 999999) : (gatP gs i).length ≤ 22 * gs.length := by
  induction gs generalizing i with
  | nil => simp [gatP]
  | cons g gs ih =>
    rw [List.length_cons] at h
    have h1 := ih (i + 1) (by omega) (fun q hq' => hq q (by simp [hq']))
    have hg := hq g (by simp)
    have h2 := lineOf_len [2 * (i + 1), g.1.toNat, g.2.toNat] (by simp; omega)
    simp only [gatP, List.length_append, List.length_cons, List.length_nil] at h2 ⊢
    omega
end Ag
end Go.Proofs.YtdnbndknfifmgaaGreatDoor
/- What is parsed, printed again, is hardly longer. -/
namespace Go.Proofs.YtdnbndknfifmgaaGreatDoor
open Go.RowKit

namespace Ag
/-- Words with blanks between. -/
def joinS : List Bs → Bs
  | [] => []
  | [w] => w
  | w :: ws => w ++ 32 :: joinS ws
theorem join_words (l : Bs) : joinS (wordsS l) = l := by
  induction l with
  | nil => rfl
  | cons b t ih =>
    rw [wordsS]
    split
    · rename_i e
      subst e
      cases hw : wordsS t with
      | nil => exact absurd hw (words_ne t)
      | cons w ws =>
        rw [hw] at ih
        show [] ++ 32 :: joinS (w :: ws) = _
        rw [ih]
        rfl
    · cases hw : wordsS t with
      | nil => exact absurd hw (words_ne t)
      | cons w ws =>
        rw [hw] at ih
        simp only
        cases ws with
        | nil =>
          show b :: w = _
          rw [← ih]
          rfl
        | cons v vs =>
          show (b :: w) ++ 32 :: joinS (v :: vs) = _
          rw [List.cons_append]
          congr 1
theorem nums_join (ws : List Bs) (ns : List Nat) (h : ws.mapM digL = some ns) : joinS ws = spell ns ∧ ns.length = ws.length := by
  induction ws generalizing ns with
  | nil =>
    simp at h
    subst h
    exact ⟨rfl, rfl⟩
  | cons w ws ih =>
    rw [List.mapM_cons] at h
    cases hd : digL w with
    | none =>
      rw [hd] at h
      cases h
    | some n =>
      rw [hd] at h
      cases hr : ws.mapM digL with
      | none =>
        rw [hr] at h
        cases h
      | some ms =>
        rw [hr] at h
        injection h with h
        subst h
        obtain ⟨e1, e2⟩ := ih ms hr
        have hw := (num_dig hd).1
        refine ⟨?_, by simp [e2]⟩
        cases ws with
        | nil =>
          have : ms = [] := List.length_eq_zero_iff.1 e2
          subst this
          exact hw
        | cons v vs =>
          cases ms with
          | nil => simp at e2
          | cons x xs =>
            show w ++ 32 :: joinS (v :: vs) = num n ++ 32 :: spell (x :: xs)
            rw [e1, hw]
theorem nums_eq {l : Bs} {ns : List Nat} (h : numsS l = some ns) : l = spell ns := by
  rw [← (nums_join _ _ h).1, join_words]
theorem open_eq {begin m : List Nat} {l : Bs} (h : openS begin l = some m) : l = spell (begin ++ m) := by
  unfold openS at h
  split at h
  · cases h
  · rename_i k hk
    split at h
    · rename_i hc
      injection h with h
      subst h
      rw [nums_eq hk]
      congr 1
      have := (List.take_append_drop begin.length k).symm
      rw [hc.2] at this
      exact this
    · cases h
theorem ins_eq (k i : Nat) (r r' : Bs) (h : insS k i r = some r') : r = insP k i ++ r' := by
  induction k generalizing i r with
  | zero =>
    injection h with h
  | succ k ih =>
    rw [insS] at h
    split at h
    · cases h
    · rename_i l r1 hl
      split at h
      · rename_i hn
        rw [(line_some hl).1, nums_eq hn, ih (i + 1) r1 h, insP, lineOf]
        simp
      · cases h
theorem lats_eq (w : Bool) (k i : Nat) (r r' : Bs) (ls : List (Int × Int)) (h : latsS w k i r = some (ls, r')) : ls.length = k ∧ (latsP w ls i).length + r'.length ≤ r.length := by
  induction k generalizing i r ls with
  | zero =>
    injection h with h
    injection h with h1 h2
    subst h1 h2
    simp [latsP]
  | succ k ih =>
    rw [latsS] at h
    split at h
    · cases h
    · rename_i l r1 hl
      split at h
      · cases h
      · rename_i q hq
        split at h
        · cases h
        · rename_i qs r2 hr
          injection h with h
          injection h with h1 h2
          subst h1 h2
          obtain ⟨e1, e2⟩ := ih (i + 1) r1 qs hr
          refine ⟨by simp [e1], ?_⟩
          have hs := (line_some hl).1
          unfold latS at hq
          split at hq
          · cases hq
          · rename_i m hm
            have ho := open_eq hm
            have key : (latP (if w then [2 * (i + 1)] else []) (2 * (i + 1)) q).length ≤ l.length + 1 := by
              unfold latP lineOf
              rw [ho]
              unfold latN at hq
              split at hq
              · injection hq with hq
                subst hq
                simp
              · rename_i a x
                split at hq
                · rename_i kk hk
                  injection hq with hq
                  subst hq
                  unfold resetS at hk
                  split at hk
                  · rename_i e
                    injection hk with hk
                    subst hk e
                    simp
                  · split at hk
                    · rename_i e
                      injection hk with hk
                      subst hk e
                      have e3 : spell ((if w then [2 * (i + 1)] else []) ++ [a, 0]) = spell ((if w then [2 * (i + 1)] else []) ++ [a]) ++ 32 :: num 0 := by
                        cases w <;> simp [spell]
                      rw [e3]
                      simp
                    · split at hk
                      · rename_i e
                        injection hk with hk
                        subst hk e
                        simp
                      · cases hk
                · cases hq
              · cases hq
            rw [hs, latsP]
            simp only [List.length_append, List.length_cons]
            omega
theorem col_eq (k : Nat) (r r' : Bs) (zs : List Int) (h : colS k r = some (zs, r')) : zs.length = k ∧ r = colP zs ++ r' := by
  induction k generalizing r zs with
  | zero =>
    injection h with h
    injection h with h1 h2
    subst h1 h2
    exact ⟨rfl, rfl⟩
  | succ k ih =>
    rw [colS] at h
    split at h
    · cases h
    · rename_i l r1 hl
      split at h
      · rename_i x hn
        split at h
        · cases h
        · rename_i xs r2 hr
          injection h with h
          injection h with h1 h2
          subst h1 h2
          obtain ⟨e1, e2⟩ := ih r1 xs hr
          refine ⟨by simp [e1], ?_⟩
          rw [(line_some hl).1, nums_eq hn, e2, colP, lineOf]
          simp
      · cases h
theorem gat_eq (k i : Nat) (r r' : Bs) (gs : List (Int × Int)) (h : gatS k i r = some (gs, r')) : gs.length = k ∧ r = gatP gs i ++ r' := by
  induction k generalizing i r gs with
  | zero =>
    injection h with h
    injection h with h1 h2
    subst h1 h2
    exact ⟨rfl, rfl⟩
  | succ k ih =>
    rw [gatS] at h
    split at h
    · cases h
    · rename_i l r1 hl
      split at h
      · rename_i a b hn
        split at h
        · cases h
        · rename_i xs r2 hr
          injection h with h
          injection h with h1 h2
          subst h1 h2
          obtain ⟨e1, e2⟩ := ih (i + 1) r1 xs hr
          refine ⟨by simp [e1], ?_⟩
          rw [(line_some hl).1, open_eq hn, e2, gatP, lineOf]
          simp
      · cases h
theorem name_eq {l : Bs} {x : Nm} (h : nameS l = some x) : nameP x = l := by
  unfold nameS at h
  split at h
  · rename_i k ds tx hw
    split at h
    · rename_i a hd
      injection h with h
      subst h
      have hj := join_words l
      rw [hw] at hj
      rw [← hj]
      show UInt8.ofNat ((k.toNat : Int).toNat) :: (num (a : Int).toNat ++ 32 :: tx) = (k :: ds) ++ 32 :: tx
      rw [Int.toNat_natCast, Int.toNat_natCast, ← (num_dig hd).1, UInt8.ofNat_toNat]
      rfl
    · cases h
  · cases h
theorem names_eq (f : Nat) (r : Bs) (ns : List Nm) (h : namesF f r = some ns) : (namesP ns).length ≤ r.length := by
  induction f generalizing r ns with
  | zero =>
    injection h with h
    subst h
    simp [namesP]
  | succ f ih =>
    rw [namesF] at h
    split at h
    · injection h with h
      subst h
      simp [namesP]
    · split at h
      · cases h
      · rename_i l r1 hl
        split at h
        · injection h with h
          subst h
          simp [namesP]
        · split at h
          · cases h
          · rename_i x hx
            split at h
            · cases h
            · rename_i xs hxs
              injection h with h
              subst h
              have := ih r1 xs hxs
              rw [(line_some hl).1, namesP, name_eq hx]
              simp only [List.length_append, List.length_cons]
              omega
theorem spell_two (a b : Nat) (t : List Nat) : spell (a :: b :: t) = num a ++ 32 :: spell (b :: t) := by
  rw [spell]
  simp
theorem spell_zeros (m : List Nat) (hm : m ≠ []) (k : Nat) : (spell (m ++ List.replicate k 0)).length = (spell m).length + 2 * k := by
  have n0 : (num 0).length = 1 := by
    rw [num_small (by omega)]
    rfl
  have hz : ∀ k, (spell (List.replicate (k + 1) 0)).length = 2 * k + 1 := by
    intro k
    induction k with
    | zero => simpa [spell] using n0
    | succ k ih =>
      rw [List.replicate_succ, List.replicate_succ, spell_two, ← List.replicate_succ, List.length_append, List.length_cons, n0, ih]
      omega
  induction m with
  | nil => exact absurd rfl hm
  | cons a t ih =>
    cases t with
    | nil =>
      cases k with
      | zero => simp
      | succ k =>
        rw [List.cons_append, List.nil_append, List.replicate_succ, spell_two, ← List.replicate_succ, List.length_append, List.length_cons, hz, spell]
        omega
    | cons b t =>
      have := ih (by simp)
      rw [List.cons_append] at this
      rw [List.cons_append, List.cons_append, spell_two, spell_two, List.length_append, List.length_append, List.length_cons, List.length_cons, this]
      omega
theorem ge_pad (m : List Nat) (h5 : 5 ≤ m.length) (h9 : m.length ≤ 9) : m ++ List.replicate (9 - m.length) 0 = [ge m 0, ge m 1, ge m 2, ge m 3, ge m 4, ge m 5, ge m 6, ge m 7, ge m 8] := by
  match m, h5, h9 with
  | [a, b, c, d, e], _, _ => rfl
  | [a, b, c, d, e, f], _, _ => rfl
  | [a, b, c, d, e, f, g], _, _ => rfl
  | [a, b, c, d, e, f, g, h], _, _ => rfl
  | [a, b, c, d, e, f, g, h, i], _, _ => rfl
theorem head_eq {word s r : Bs} {m : List Nat} (h : headS word s = some (m, r)) : s = word ++ 32 :: (lineOf m ++ r) ∧ 5 ≤ m.length ∧ m.length ≤ 9 ∧ (∀ x ∈ m, x ≤ 2000) ∧ ge m 0 = ge m 1 + ge m 2 + ge m 4 ∧ ge m 7 = 0 := by
  unfold headS at h
  split at h
  · cases h
  · rename_i l r1 hl
    split at h
    · cases h
    · rename_i w ws hw
      split at h
      · rename_i hc
        split at h
        · cases h
        · rename_i k hk
          split at h
          · rename_i hm
            injection h with h
            injection h with h1 h2
            subst h1 h2
            obtain ⟨e1, e2⟩ := nums_join _ _ hk
            have hj := join_words l
            rw [hw] at hj
            have hwl : l = word ++ 32 :: spell k := by
              rw [← hj, ← e1, ← hc.1]
              cases ws with
              | nil => simp at hc
              | cons v vs => rfl
            refine ⟨?_, by omega, by omega, hm.1, hm.2.1, hm.2.2⟩
            rw [(line_some hl).1, hwl, lineOf]
            simp
          · cases h
      · cases h
theorem print_short {s : Bs} {c : Cir} (h : parseS s = .ok c) : Cm.rightC c = true ∧ (printS c).length ≤ s.length + 8 ∧ strip c = c := by
  unfold parseS at h
  split at h
  · cases h
  · split at h
    · cases h
    · rename_i m r hh
      obtain ⟨e0, h5, h9, hm, hs0, hs7⟩ := head_eq hh
      split at h
      · cases h
      · rename_i c' hb
        split at h
        · rename_i hr
          injection h with h
          subst h
          refine ⟨hr, ?_, ?_⟩
          · unfold bodyS at hb
            split at hb
            · cases hb
            · rename_i r1 h1
              split at hb
              · cases hb
              · rename_i ls r2 h2
                split at hb
                · cases hb
                · rename_i os bs cs fs r3 h3
                  split at hb
                  · cases hb
                  · rename_i gs r4 h4
                    split at hb
                    · cases hb
                    · rename_i ns h5'
                      injection hb with hb
                      subst hb
                      unfold sigsS at h3
                      split at h3
                      · cases h3
                      · rename_i os' q1 k1
                        split at h3
                        · cases h3
                        · rename_i bs' q2 k2
                          split at h3
                          · cases h3
                          · rename_i cs' q3 k3
                            split at h3
                            · cases h3
                            · rename_i fs' q4 k4
                              injection h3 with h3
                              injection h3 with h3 h3'
                              injection h3 with ho h3
                              injection h3 with hbs h3
                              injection h3 with hcs hfs
                              subst ho hbs hcs hfs h3'
                              have e1 := ins_eq _ _ _ _ h1
                              obtain ⟨n2, e2⟩ := lats_eq _ _ _ _ _ _ h2
                              obtain ⟨n3, e3⟩ := col_eq _ _ _ _ k1
                              obtain ⟨n4, e4⟩ := col_eq _ _ _ _ k2
                              obtain ⟨n5, e5⟩ := col_eq _ _ _ _ k3
                              obtain ⟨n6, e6⟩ := col_eq _ _ _ _ k4
                              obtain ⟨n7, e7⟩ := gat_eq _ _ _ _ _ h4
                              have e8 := names_eq _ _ _ h5'
                              have l1 := congrArg List.length e1
                              have l3 := congrArg List.length e3
                              have l4 := congrArg List.length e4
                              have l5 := congrArg List.length e5
                              have l6 := congrArg List.length e6
                              have l7 := congrArg List.length e7
                              have l0 := congrArg List.length e0
                              have hsz : sizes (mk (ge m 1 : Nat) ls gs os' bs' cs' fs' ns) = m ++ List.replicate (9 - m.length) 0 := by
                                rw [ge_pad m h5 h9, hs7]
                                simp only [sizes, mk, Int.toNat_natCast, n2, n3, n4, n5, n6, n7, hs0]
                              have hsp := spell_zeros m (by intro e; rw [e] at h5; simp at h5) (9 - m.length)
                              have n2' : (mk (ge m 1 : Nat) ls gs os' bs' cs' fs' ns).ls.length = ge m 2 := n2
                              unfold printS sigsP
                              rw [hsz]
                              simp only [lineOf, List.length_append, List.length_cons, List.length_nil, hsp] at l0 l1 l3 l4 l5 l6 l7 e2 ⊢
                              simp only [mk, Int.toNat_natCast, n2]
                              omega
          · unfold bodyS at hb
            split at hb
            · cases hb
            · split at hb
              · cases hb
              · split at hb
                · cases hb
                · split at hb
                  · cases hb
                  · split at hb
                    · cases hb
                    · injection hb with hb
                      subst hb
                      rfl
        · cases h
/-- What is parsed is printed and parsed to the same. -/
theorem parse_again {s : Bs} {c : Cir} (h : parseS s = .ok c) (hl : s.length ≤ 19000) : parseS (printS c) = .ok c := by
  obtain ⟨hr, hp, hs⟩ := print_short h
  have := parse_print (right_ok hr) hr [] (Or.inl rfl) (by rw [List.append_nil]; omega)
  rw [List.append_nil, hs] at this
  exact this
end Ag
end Go.Proofs.YtdnbndknfifmgaaGreatDoor
/- What the library does with texts, by the words of AM. -/
namespace Go.Proofs.YtdnbndknfifmgaaGreatDoor
open Go.RowKit

namespace Ag
theorem dec_all (l : Bs) (h : l.all Cm.isDig = true) (acc : Nat) : Lib.decFrom acc l = some (l.foldl (fun n b => 10 * n + (b.toNat - 48)) acc) := by
  induction l generalizing acc with
  | nil => rfl
  | cons b t ih =>
    simp only [List.all_cons, Bool.and_eq_true] at h
    have hb : 48 ≤ b.toNat ∧ b.toNat ≤ 57 := by simpa [Cm.isDig] using h.1
    have hd : Lib.digitVal b = some (b.toNat - 48) := by
      unfold Lib.digitVal
      rw [if_pos (by omega)]
    rw [Lib.decFrom, hd]
    simp only
    rw [ih h.2, List.foldl_cons, Nat.mul_comm]
theorem atoi_num {n : Nat} (h : n ≤ 999999) : Lib.atoiAll (num n) = .ok (n : Int) := by
  have hl := num_len 5 n (by omega)
  have hp := num_pos n
  have ha := num_all n
  have hv := num_val n
  rw [Lib.atoiAll_short _ (by omega)]
  cases hq : num n with
  | nil =>
    rw [hq] at hp
    simp at hp
  | cons b r =>
    rw [hq] at ha hv
    have hb : 48 ≤ b.toNat ∧ b.toNat ≤ 57 := by
      simp only [List.all_cons, Bool.and_eq_true] at ha
      simpa [Cm.isDig] using ha.1
    have h45 : (b == 45) = false := by
      rw [beq_eq_false_iff_ne]
      rintro rfl
      simp at hb
    have h43 : (b == 43) = false := by
      rw [beq_eq_false_iff_ne]
      rintro rfl
      simp at hb
    have hd : Lib.decNat (b :: r) = some n := by
      unfold Lib.decNat
      rw [if_neg (by simp), dec_all _ ha]
      congr 1
    unfold Lib.atoi
    simp only
    rw [h45, h43, hd]
    rfl
/-- The number that a word spells, as the program asks for it. -/
theorem number_dig (l : Bs) : digL l = match Lib.atoiAll l with | .ok v => if 0 ≤ v ∧ v ≤ 999999 ∧ Lib.itoa v = l then some v.toNat else none | _ => none := by
  cases hd : digL l with
  | some n =>
    obtain ⟨e, hn⟩ := num_dig hd
    rw [e, atoi_num hn]
    simp only
    rw [if_pos ⟨by omega, by omega, by rw [Lib.itoa_nonneg]; rfl⟩]
    simp
  | none =>
    cases ha : Lib.atoiAll l with
    | ok v =>
      simp only
      rw [if_neg]
      rintro ⟨h0, h1, h2⟩
      obtain ⟨n, rfl⟩ := Int.eq_ofNat_of_zero_le h0
      have : l = num n := by
        rw [← h2]
        exact Lib.itoa_nonneg n
      rw [this, dig_num (by omega)] at hd
      cases hd
    | «syntax» => rfl
    | range => rfl
theorem index_plain {l : Bs} (h : ∀ b ∈ l, b ≠ 32) : Lib.index l [32] = -1 := by
  rw [Lib.index_one]
  induction l with
  | nil => rfl
  | cons a t ih =>
    have ha : (a == 32) = false := by
      rw [beq_eq_false_iff_ne]
      exact h a (by simp)
    rw [Lib.indexByte, ha, ih (fun b hb => h b (by simp [hb]))]
    rfl
theorem index_at {l : Bs} (h : ∀ b ∈ l, b ≠ 32) (r : Bs) : Lib.index (l ++ 32 :: r) [32] = (l.length : Int) := by
  rw [Lib.index_one]
  induction l with
  | nil => simp [Lib.indexByte]
  | cons a t ih =>
    have ha : (a == 32) = false := by
      rw [beq_eq_false_iff_ne]
      exact h a (by simp)
    have := ih (fun b hb => h b (by simp [hb]))
    rw [List.cons_append, Lib.indexByte, ha, this, if_neg (by simp), if_neg (by simp)]
    simp
/-- A line parted at its first blank. -/
theorem first_blank (l : Bs) : (∀ b ∈ l, b ≠ 32) ∨ ∃ p r, l = p ++ 32 :: r ∧ ∀ b ∈ p, b ≠ 32 := by
  induction l with
  | nil => exact Or.inl (by simp)
  | cons a t ih =>
    by_cases ha : a = 32
    · subst ha
      exact Or.inr ⟨[], t, rfl, by simp⟩
    · rcases ih with h | ⟨p, r, rfl, h⟩
      · exact Or.inl (by simpa using ⟨ha, h⟩)
      · exact Or.inr ⟨a :: p, r, rfl, by simpa using ⟨ha, h⟩⟩
theorem split_words (k : Nat) : ∀ l : Bs, l.count 32 ≤ k → Lib.splitK [32] 0 k l = wordsS l := by
  induction k with
  | zero =>
    intro l h
    have hp : ∀ b ∈ l, b ≠ 32 := by
      rintro b hb rfl
      have := List.count_pos_iff.2 hb
      omega
    rw [Lib.splitK, words_one hp]
  | succ k ih =>
    intro l h
    rcases first_blank l with hp | ⟨p, r, rfl, hp⟩
    · rw [Lib.splitK, index_plain hp, words_one hp]
      rfl
    · rw [Lib.splitK, index_at hp, if_neg (by simp), words_cons hp, Int.toNat_natCast]
      have e1 : (p ++ 32 :: r).take (p.length + 0) = p := by simp
      have e2 : (p ++ 32 :: r).drop (p.length + ([32] : Bs).length) = r := by simp
      have e3 : (p ++ 32 :: r).count 32 = p.count 32 + (r.count 32 + 1) := by rw [List.count_append, List.count_cons_self]
      rw [e1, e2, ih r (by omega)]
theorem cut_words {l : Bs} : (Lib.cut l [32] = (l, [], false) ∧ wordsS l = [l]) ∨ ∃ p r, Lib.cut l [32] = (p, r, true) ∧ wordsS l = p :: wordsS r ∧ l = p ++ 32 :: r := by
  rcases first_blank l with hp | ⟨p, r, rfl, hp⟩
  · refine Or.inl ⟨?_, words_one hp⟩
    unfold Lib.cut
    rw [index_plain hp]
    rfl
  · refine Or.inr ⟨p, r, ?_, words_cons hp r, rfl⟩
    unfold Lib.cut
    rw [index_at hp, if_pos (by omega), Int.toNat_natCast]
    simp
end Ag
end Go.Proofs.YtdnbndknfifmgaaGreatDoor
/- The reader of texts: what ends a reading; a byte. -/
namespace Go.Proofs.YtdnbndknfifmgaaGreatDoor
open Go.RowKit

/-- The panic by which a reading ends. -/
abbrev faultE (k : Int) : Ending := .panicked [{ v := .iface 97 (.int .i64 k), recovered := false }]
set_option maxHeartbeats 1000000 in
theorem need_ok (k : Int) (w : World) : Calls Tryz.prog 62 #[.bool true, .int .i64 k] w fun e w' => e = .returned (.tuple #[]) ∧ w = w' := by
  have hnot : ∀ (x : Bool) (w : World), (Op.unary .not (.bool x)).run Tryz.prog w = .ok (.bool (!x)) w := fun _ _ => rfl
  go_enter Tryz.func62, Tryz.ntmps62
  go_wp2
  go_end0
  exact ⟨rfl, rfl⟩
set_option maxHeartbeats 1000000 in
theorem need_bad (k : Int) (w : World) : Calls Tryz.prog 62 #[.bool false, .int .i64 k] w fun e w' => e = faultE k ∧ w = w' := by
  have hnot : ∀ (x : Bool) (w : World), (Op.unary .not (.bool x)).run Tryz.prog w = .ok (.bool (!x)) w := fun _ _ => rfl
  go_enter Tryz.func62, Tryz.ntmps62
  go_wp2
  exact ⟨rfl, rfl, rfl⟩
/-- A reader in memory: what is left, and what it means if the next thing is wrong. -/
def RB (w : World) (R : Nat) (s : ByteArray) (k : Int) : Prop := Blk w R 72 #[.string s, .int .i64 k]
set_option maxHeartbeats 1000000 in
theorem Need_ok (R : Nat) (s : ByteArray) (k : Int) (w : World) (h : RB w R s k) : Calls Tryz.prog 88 #[.pointer (some ⟨R, 0, none⟩), .bool true] w fun e w' => e = .returned (.tuple #[]) ∧ w = w' := by
  have c1 := Blk.cell h 1
  simp only [List.getElem?_toArray, List.getElem?_cons_zero, List.getElem?_cons_succ] at c1
  go_enter Tryz.func88, Tryz.ntmps88
  go_wp2_with fail
  refine (need_ok k w).mono ?_
  rintro e w1 ⟨rfl, rfl⟩
  go_wp2
  go_end0
  exact ⟨rfl, rfl⟩
set_option maxHeartbeats 1000000 in
theorem Need_bad (R : Nat) (s : ByteArray) (k : Int) (w : World) (h : RB w R s k) : Calls Tryz.prog 88 #[.pointer (some ⟨R, 0, none⟩), .bool false] w fun e w' => e = faultE k ∧ w = w' := by
  have c1 := Blk.cell h 1
  simp only [List.getElem?_toArray, List.getElem?_cons_zero, List.getElem?_cons_succ] at c1
  go_enter Tryz.func88, Tryz.ntmps88
  go_wp2_with fail
  refine (need_bad k w).mono ?_
  rintro e w1 ⟨rfl, rfl⟩
  exact ⟨rfl, rfl, rfl⟩
set_option maxRecDepth 10000 in
set_option maxHeartbeats 2000000 in
theorem Byte_ok (R : Nat) (s : ByteArray) (k : Int) (w : World) (h : RB w R s k) (hs : 0 < s.size) (hm : s.size ≤ maxLen) : Calls Tryz.prog 106 #[.pointer (some ⟨R, 0, none⟩)] w fun e w' => e = .returned (.int .u8 ((s[0]'hs).toNat : Int)) ∧ w' = w.setCell ⟨R, 0, none⟩ (.string (s.extract 1 s.size)) := by
  have c0 := Blk.cell h 0
  have f0 := Blk.frozen h 0
  simp only [List.getElem?_toArray, List.getElem?_cons_zero] at c0
  unfold maxLen at hm
  have d1 : decide ((0 : Int) < (s.size : Int)) = true := decide_eq_true (by omega)
  go_enter Tryz.func106, Tryz.ntmps106
  go_wp2_with fail
  refine (Need_ok R s k w h).mono ?_
  rintro e w1 ⟨rfl, rfl⟩
  go_wp2
  go_ret
  exact ⟨rfl, rfl⟩
set_option maxHeartbeats 2000000 in
theorem Byte_end (R : Nat) (s : ByteArray) (k : Int) (w : World) (h : RB w R s k) (hs : s.size = 0) : Calls Tryz.prog 106 #[.pointer (some ⟨R, 0, none⟩)] w fun e w' => e = faultE k ∧ w = w' := by
  have c0 := Blk.cell h 0
  simp only [List.getElem?_toArray, List.getElem?_cons_zero] at c0
  go_enter Tryz.func106, Tryz.ntmps106
  go_wp2_with fail
  refine (Need_bad R s k w h).mono ?_
  rintro e w1 ⟨rfl, rfl⟩
  exact ⟨rfl, rfl, rfl⟩
end Go.Proofs.YtdnbndknfifmgaaGreatDoor
/- The reader of texts: a line. -/
namespace Go.Proofs.YtdnbndknfifmgaaGreatDoor
open Go.RowKit

/-- Every block but the reader's stays as it was. -/
structure RKeep (R : Nat) (w w' : World) : Prop where
  os : w'.os = w.os
  tape : w'.tape = w.tape
  output : w'.output = w.output
  size : w.heap.size ≤ w'.heap.size
  blk : ∀ b, b < w.heap.size → b ≠ R → w'.heap[b]? = w.heap[b]?
theorem RKeep.refl (R : Nat) (w : World) : RKeep R w w := ⟨rfl, rfl, rfl, Nat.le_refl _, fun _ _ _ => rfl⟩
theorem RKeep.trans {R : Nat} {a b c : World} (h : RKeep R a b) (k : RKeep R b c) : RKeep R a c :=
  ⟨k.os.trans h.os, k.tape.trans h.tape, k.output.trans h.output, Nat.le_trans h.size k.size, fun i hi hn => (k.blk i (Nat.lt_of_lt_of_le hi h.size) hn).trans (h.blk i hi hn)⟩
theorem RKeep.below {R : Nat} {a b c : World} (h : RKeep R a b) (k : Below b.heap.size b c) : RKeep R a c :=
  h.trans ⟨k.os, k.tape, k.output, k.size, fun i hi _ => k.block i hi⟩
theorem RKeep.grown {R : Nat} {a b c : World} {row : Option Nat} (h : RKeep R a b) (k : b.grownBy c row) (hr : ∀ g, row = some g → a.heap.size ≤ g) : RKeep R a c :=
  ⟨k.os.trans h.os, k.tape.trans h.tape, k.output.trans h.output, Nat.le_trans h.size k.size, fun i hi hn => (k.block i (Nat.lt_of_lt_of_le hi h.size) (fun e => by have := hr i e.symm; omega)).trans (h.blk i hi hn)⟩
theorem RKeep.set {R : Nat} {a b : World} (h : RKeep R a b) {p : Addr} (hp : p.block = R) (u : Value) : RKeep R a (b.setCell p u) :=
  ⟨h.os, h.tape, h.output, by simpa using h.size, fun i hi hn => (Below.heap_setCell b p u i (fun e => hn (by omega))).trans (h.blk i hi hn)⟩
theorem RKeep.blkOf {R g : Nat} {a b : World} {t : TypeId} {cs : Array Value} (h : RKeep R a b) (k : Blk a g t cs) (hn : g ≠ R) : Blk b g t cs := k.keep (h.blk g k.lt hn)
theorem RB.grown {w w' : World} {R : Nat} {s : ByteArray} {k : Int} {row : Option Nat} (h : RB w R s k) (hg : w.grownBy w' row) (hne : some R ≠ row) : RB w' R s k := Blk.grown h hg hne
theorem RB.put {w : World} {R : Nat} {s : ByteArray} {k : Int} (h : RB w R s k) (t : ByteArray) : RB (w.setCell ⟨R, 0, none⟩ (.string t)) R t k := Blk.put h 0 (.string t)
theorem app_u8 (w : World) (base : Nat) (ty : TypeId) (v : Value) (n : Nat) (xs : List Value) (hown : w.ownsRow base 5 1 v n xs) (b c : Nat) (x : Int) (hbk : Blk w b 5 #[.int .u8 x]) (hn : n ≤ 100000) (hbase : base ≤ w.heap.size) :
    ∃ v' w', (Builtin.append_ #[37, 37] ty #[v, .slice (some ⟨b, 0, none⟩) 1 c]).run Tryz.prog w = .ok v' w' ∧ w'.ownsRow base 5 1 v' (n + 1) (xs ++ [.int .u8 x]) ∧ w.grownBy w' v.ownBlock ∧ (v'.ownBlock = v.ownBlock ∨ v'.ownBlock = some w.heap.size) :=
  app_own w base 37 ty 5 Tryz.t5 (.int .u8 0) 1 1 Tryz.underlying37 (by kernel_rfl) (by kernel_rfl) (by kernel_rfl) (by kernel_rfl) (by omega) (by kernel_rfl) (by omega) v n xs hown b c [.int .u8 x] hbk rfl (fun u hu => by simp at hu; subst hu; rfl) hn hbase
theorem row_string {w : World} {base : Nat} {v : Value} {l : Ag.Bs} (h : w.ownsRow base 5 1 v l.length (Lib.byteCells l)) : (convert 37 9 v).run Tryz.prog w = .ok (.string ⟨l.toArray⟩) w := by
  rcases h.2 with ⟨rfl, h0⟩ | ⟨g, cap, cur, rfl, _, hh, hn, _, hs, ht⟩
  · have : l = [] := List.length_eq_zero_iff.1 h0
    subst this
    exact Lib.run_convert_nil_bytes w _ _ _ 0 Tryz.underlying37 Tryz.underlying5 Tryz.underlying9
  · refine run_convert_bytes_back w _ _ _ ⟨g, 0, none⟩ cap l Tryz.underlying37 Tryz.underlying5 Tryz.underlying9 ?_
    exact Lib.bytes_of_row hh (by simpa using ht)
end Go.Proofs.YtdnbndknfifmgaaGreatDoor
