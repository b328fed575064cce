/- Texts of circuits: what is parsed, what is printed, and that the one undoes the other. -/
import Derived.Test.YtpejilhdhkmcjaaGreatDoorJaAl
import Derived.Test.YtpejilhdhkmcjaaGreatDoorJaal
import Derived.Test.YtpejilhdhkmcjaaGreatDoorJaao
namespace Go.Proofs.YtpejilhdhkmcjaaGreatDoor
open Go.RowKit

namespace Ag
/-- A circuit by its data alone. -/
def mk (n : Int) (ls gs : List (Int × Int)) (os bs cs fs : List Int) (ns : List Nm) : Cir := { n := n, aL := none, cL := 0, ls := ls, aG := none, cG := 0, gs := gs, aO := none, cO := 0, os := os, aB := none, cB := 0, bs := bs, aC := none, cC := 0, cs := cs, aF := none, cF := 0, fs := fs, aN := none, cN := 0, ns := ns }
def strip (c : Cir) : Cir := mk c.n c.ls c.gs c.os c.bs c.cs c.fs c.ns
def ge (m : List Nat) (i : Nat) : Nat := m.getD i 0
/-- The first line: its nine numbers, and what is behind it. -/
def headS (word s : Bs) : Option (List Nat × Bs) :=
 match lineS s with
 | none => none
 | some (l, r) =>
  match wordsS l with
  | [] => none
  | w :: ws =>
   if w = word ∧ 5 ≤ ws.length ∧ ws.length ≤ 9 then
    match ws.mapM digL with
    | none => none
    | some m => if (∀ x ∈ m, x ≤ 2000) ∧ ge m 0 = ge m 1 + ge m 2 + ge m 4 ∧ ge m 7 = 0 then some (m, r) else none
   else none
def insS : Nat → Nat → Bs → Option Bs
 | 0, _, r => some r
 | k + 1, i, r => match lineS r with
  | none => none
  | some (l, r') => if numsS l = some [2 * (i + 1)] then insS k (i + 1) r' else none
/-- A latch's Reset, as it is written. -/
def resetS (own x : Nat) : Option Int := if x = own then some 2 else if x = 0 then some 0 else if x = 1 then some 1 else none
/-- The numbers of a latch's line behind those with which it begins. -/
def latN (own : Nat) (m : List Nat) : Option (Int × Int) :=
 match m with
 | [a] => some ((a : Int), 0)
 | [a, x] => match resetS own x with | some k => some ((a : Int), k) | none => none
 | _ => none
def openS (begin : List Nat) (l : Bs) : Option (List Nat) :=
 match numsS l with
 | none => none
 | some m => if begin.length ≤ m.length ∧ m.take begin.length = begin then some (m.drop begin.length) else none
def latS (begin : List Nat) (own : Nat) (l : Bs) : Option (Int × Int) := match openS begin l with | none => none | some m => latN own m
/-- Latches: with their own literals ahead, or without. -/
def latsS (with_ : Bool) : Nat → Nat → Bs → Option (List (Int × Int) × Bs)
 | 0, _, r => some ([], r)
 | k + 1, i, r => match lineS r with
  | none => none
  | some (l, r') => match latS (if with_ then [2 * (i + 1)] else []) (2 * (i + 1)) l with
   | none => none
   | some q => match latsS with_ k (i + 1) r' with
    | none => none
    | some (qs, r'') => some (q :: qs, r'')
def colS : Nat → Bs → Option (List Int × Bs)
 | 0, r => some ([], r)
 | k + 1, r => match lineS r with
  | none => none
  | some (l, r') => match numsS l with
   | some [x] => match colS k r' with
    | none => none
    | some (xs, r'') => some ((x : Int) :: xs, r'')
   | _ => none
def gatS : Nat → Nat → Bs → Option (List (Int × Int) × Bs)
 | 0, _, r => some ([], r)
 | k + 1, i, r => match lineS r with
  | none => none
  | some (l, r') => match openS [2 * (i + 1)] l with
   | some [a, b] => match gatS k (i + 1) r' with
    | none => none
    | some (gs, r'') => some (((a : Int), (b : Int)) :: gs, r'')
   | _ => none
def nameS (l : Bs) : Option Nm :=
 match wordsS l with
 | [k :: ds, tx] => match digL ds with | some a => some ((k.toNat : Int), (a : Int), ⟨tx.toArray⟩) | none => none
 | _ => none
/-- Names, to the end or to the comment; the first number bounds the lines. -/
def namesF : Nat → Bs → Option (List Nm)
 | 0, _ => some []
 | f + 1, r => if r = [] then some [] else match lineS r with
  | none => none
  | some (l, r') => if l = [99] then some [] else match nameS l with
   | none => none
   | some x => match namesF f r' with
    | none => none
    | some xs => some (x :: xs)
def sigsS (m : List Nat) (r : Bs) : Option ((List Int × List Int × List Int × List Int) × Bs) :=
 match colS (ge m 3) r with
 | none => none
 | some (os, r1) => match colS (ge m 5) r1 with
  | none => none
  | some (bs, r2) => match colS (ge m 6) r2 with
   | none => none
   | some (cs, r3) => match colS (ge m 8) r3 with
    | none => none
    | some (fs, r4) => some ((os, bs, cs, fs), r4)
def bodyS (m : List Nat) (r : Bs) : Option Cir :=
 match insS (ge m 1) 0 r with
 | none => none
 | some r1 => match latsS true (ge m 2) (ge m 1) r1 with
  | none => none
  | some (ls, r2) => match sigsS m r2 with
   | none => none
   | some ((os, bs, cs, fs), r3) => match gatS (ge m 4) (ge m 1 + ge m 2) r3 with
    | none => none
    | some (gs, r4) => match namesF r4.length r4 with
     | none => none
     | some ns => some (mk (ge m 1 : Nat) ls gs os bs cs fs ns)
def aagW : Bs := [97, 97, 103]
/-- The circuit of a text, or the error. -/
def parseS (s : Bs) : Except Nat Cir :=
 if 20000 < s.length then .error 2 else match headS aagW s with
 | none => .error 20
 | some (m, r) => match bodyS m r with
  | none => .error 21
  | some c => if Cm.rightC c = true then .ok c else .error 22

def lineOf (ns : List Nat) : Bs := spell ns ++ [10]
def sizes (c : Cir) : List Nat := [c.n.toNat + c.ls.length + c.gs.length, c.n.toNat, c.ls.length, c.os.length, c.gs.length, c.bs.length, c.cs.length, 0, c.fs.length]
def insP : Nat → Nat → Bs
 | 0, _ => []
 | k + 1, i => lineOf [2 * (i + 1)] ++ insP k (i + 1)
def latP (begin : List Nat) (own : Nat) (q : Int × Int) : Bs := lineOf (begin ++ q.1.toNat :: (if q.2 = 1 then [1] else if q.2 = 2 then [own] else []))
def latsP (with_ : Bool) : List (Int × Int) → Nat → Bs
 | [], _ => []
 | q :: qs, i => latP (if with_ then [2 * (i + 1)] else []) (2 * (i + 1)) q ++ latsP with_ qs (i + 1)
def colP : List Int → Bs
 | [] => []
 | z :: zs => lineOf [z.toNat] ++ colP zs
def gatP : List (Int × Int) → Nat → Bs
 | [], _ => []
 | g :: gs, i => lineOf [2 * (i + 1), g.1.toNat, g.2.toNat] ++ gatP gs (i + 1)
def nameP (x : Nm) : Bs := UInt8.ofNat x.1.toNat :: (num x.2.1.toNat ++ 32 :: x.2.2.data.toList)
def namesP : List Nm → Bs
 | [] => []
 | x :: xs => nameP x ++ 10 :: namesP xs
def sigsP (c : Cir) : Bs := colP c.os ++ (colP c.bs ++ (colP c.cs ++ colP c.fs))
def printS (c : Cir) : Bs := aagW ++ 32 :: (lineOf (sizes c) ++ (insP c.n.toNat 0 ++ (latsP true c.ls c.n.toNat ++ (sigsP c ++ (gatP c.gs (c.n.toNat + c.ls.length) ++ namesP c.ns)))))

/-- A name that may be written. -/
def NameOk (x : Nm) : Prop := (0 ≤ x.1 ∧ x.1 ≤ 255 ∧ x.1 ≠ 10 ∧ x.1 ≠ 32) ∧ (0 ≤ x.2.1 ∧ x.2.1 ≤ 999999) ∧ ∀ b ∈ x.2.2.data.toList, b ≠ 10 ∧ b ≠ 32
theorem ofNat_kind {k : Int} (h : 0 ≤ k ∧ k ≤ 255) : ((UInt8.ofNat k.toNat).toNat : Int) = k := by
 rw [UInt8.toNat_ofNat_of_lt' (show k.toNat < 256 by omega)]
 omega
/-- What is printed can be parsed. -/
structure PrintOk (c : Cir) : Prop where
 n0 : 0 ≤ c.n
 all : c.n + c.ls.length + c.gs.length ≤ 2000
 o : c.os.length ≤ 2000
 b : c.bs.length ≤ 2000
 c_ : c.cs.length ≤ 2000
 f : c.fs.length ≤ 2000
 ls : ∀ q ∈ c.ls, (0 ≤ q.1 ∧ q.1 ≤ 999999) ∧ 0 ≤ q.2 ∧ q.2 ≤ 2
 gs : ∀ q ∈ c.gs, (0 ≤ q.1 ∧ q.1 ≤ 999999) ∧ 0 ≤ q.2 ∧ q.2 ≤ 999999
 os : ∀ z ∈ c.os, 0 ≤ z ∧ z ≤ 999999
 bs : ∀ z ∈ c.bs, 0 ≤ z ∧ z ≤ 999999
 cs : ∀ z ∈ c.cs, 0 ≤ z ∧ z ≤ 999999
 fs : ∀ z ∈ c.fs, 0 ≤ z ∧ z ≤ 999999
 ns : ∀ x ∈ c.ns, NameOk x
theorem sizes_facts {c : Cir} (h : PrintOk c) : ∀ x ∈ sizes c, x ≤ 2000 := by
 have h1 := h.n0
 have h2 := h.all
 have h3 := h.o
 have h4 := h.b
 have h5 := h.c_
 have h6 := h.f
 intro x hx
 simp only [sizes, List.mem_cons, List.not_mem_nil, or_false] at hx
 omega
theorem right_strip (c : Cir) : Cm.rightC (strip c) = Cm.rightC c := by
 have hd : ∀ k, Cm.lstS (strip c) k = Cm.lstS c k := fun _ => rfl
 have ho : ∀ (f : Nat) (z : Int) (l : List Nm), Cm.ordS (strip c) f z l = Cm.ordS c f z l := by
  intro f
  induction f with
  | zero =>
   intro z l
   cases l <;> simp [Cm.ordS]
  | succ f ih =>
   intro z l
   induction l generalizing z with
   | nil => simp [Cm.ordS]
   | cons x l ihl =>
    rw [Cm.ordS_cons, Cm.ordS_cons, ihl, ih]
    rfl
 unfold Cm.rightC Cm.namedB
 rw [ho]
 rfl
end Ag
end Go.Proofs.YtpejilhdhkmcjaaGreatDoor
/- What is right can be printed and parsed. -/
namespace Go.Proofs.YtpejilhdhkmcjaaGreatDoor
open Go.RowKit

namespace Ag
theorem ord_gates (n : Int) (gs : List (Int × Int)) (i : Nat) (h : Gm.ordB n i gs = true) : ∀ g ∈ gs, 2 ≤ g.2 ∧ g.2 / 2 < g.1 / 2 ∧ g.1 / 2 < n + 1 + i + gs.length := by
 induction gs generalizing i with
 | nil => simp
 | cons a t ih =>
  simp only [Gm.ordB, Bool.and_eq_true, Gm.gateB, decide_eq_true_eq] at h
  intro g hg
  rcases List.mem_cons.1 hg with rfl | hg
  ·
   simp only [List.length_cons]
   omega
  have := ih (i + 1) h.2 g hg
  simp only [List.length_cons]
  omega
theorem ord_names (c : Cir) (hn : ∀ k, Cm.numS c k ≤ 2000) (f : Nat) (hf : f ≤ 6) : ∀ (l : List Nm) (z : Int), 0 ≤ z → Cm.ordS c f z l = true → ∀ x ∈ l, (x.1 = 105 ∨ x.1 = 108 ∨ x.1 = 111 ∨ x.1 = 98 ∨ x.1 = 99 ∨ x.1 = 102) ∧ 0 ≤ x.2.1 ∧ x.2.1 < 2000 := by
 induction f with
 | zero =>
  intro l z hz h x hx
  cases l with
  | nil => simp at hx
  | cons a t => simp [Cm.ordS] at h
 | succ f ih =>
  intro l
  induction l with
  | nil => simp
  | cons a t iht =>
   intro z hz h x hx
   rw [Cm.ordS_cons] at h
   split at h
   ·
    rename_i hk
    simp only [Bool.and_eq_true, decide_eq_true_eq] at h
    rcases List.mem_cons.1 hx with rfl | hx
    ·
     have := hn x.1
     refine ⟨?_, by omega, by omega⟩
     have hf5 : f = 0 ∨ f = 1 ∨ f = 2 ∨ f = 3 ∨ f = 4 ∨ f = 5 := by omega
     rcases hf5 with rfl | rfl | rfl | rfl | rfl | rfl <;> simp [Cm.kindAt] at hk <;> omega
    exact iht (a.2.1 + 1) (by omega) h.2 x hx
   exact ih (by omega) (a :: t) 0 (by omega) h x hx
theorem num_le {c : Cir} (h : Cm.fitsB c = true) (k : Int) : Cm.numS c k ≤ 2000 := by
 have h1 := Cm.fits_facts h
 have h2 := Cm.lst_len h k
 unfold Cm.numS
 split
 ·
  omega
 split <;> omega
theorem lits_ok {N : Int} {L : Nat} {zs : List Int} (h : ∀ z ∈ zs, Gm.litB N L z = true) (hN : 1 + N + L ≤ 2000) : ∀ z ∈ zs, 0 ≤ z ∧ z ≤ 999999 := by
 intro z hz
 have := h z hz
 simp only [Gm.litB, Bool.and_eq_true, decide_eq_true_eq] at this
 omega
theorem right_ok {c : Cir} (h : Cm.rightC c = true) : PrintOk c := by
 have hft := Cm.right_fits h
 have hff := Cm.fits_facts hft
 have h' := h
 simp only [Cm.rightC, Bool.and_eq_true] at h'
 obtain ⟨⟨⟨_, hg⟩, hd⟩, hn⟩ := h'
 simp only [Gm.rightB, Bool.and_eq_true, Gm.fitB, decide_eq_true_eq] at hg
 simp only [Cm.drivenB, Bool.and_eq_true, List.all_eq_true] at hd
 simp only [Cm.namedB, Bool.and_eq_true, List.all_eq_true, decide_eq_true_eq] at hn
 have hN : 1 + (c.n + c.ls.length) + c.gs.length ≤ 2000 := hg.1.1.2
 have hl : ∀ k, k < 6 → ∀ z ∈ Cm.lstS c (Cm.kindAt k), 0 ≤ z ∧ z ≤ 999999 := fun k hk => lits_ok (hd.2 k (by simpa using hk)) hN
 refine ⟨by omega, by omega, by omega, by omega, by omega, by omega, ?_, ?_, hl 2 (by omega), hl 3 (by omega), hl 4 (by omega), hl 5 (by omega), ?_⟩
 ·
  intro q hq
  have := hd.1 q hq
  simp only [Cm.latB, Gm.litB, Bool.and_eq_true, decide_eq_true_eq] at this
  omega
 ·
  intro q hq
  have := ord_gates _ _ _ hg.1.2 q hq
  omega
 intro x hx
 obtain ⟨h1, h2, h3⟩ := ord_names c (num_le hft) 6 (by omega) c.ns 0 (by omega) hn.1.1 x hx
 have hw := hn.1.2 x hx
 simp only [Cm.wordB, Bool.and_eq_true, List.all_eq_true] at hw
 refine ⟨by omega, by omega, fun b hb => ?_⟩
 have := hw.2 b hb
 simp [Cm.okB] at this
 constructor <;> (intro e; subst e; simp at this)
theorem spell_len (ns : List Nat) (h : ∀ n ∈ ns, n ≤ 999999) : (spell ns).length ≤ 7 * ns.length := by
 induction ns with
 | nil => simp [spell]
 | cons n t ih =>
  have h1 := num_len 5 n (by have := h n (by simp); omega)
  cases t with
  | nil =>
   simp only [spell, List.length_cons, List.length_nil]
   omega
  | cons m t =>
   have := ih (fun x hx => h x (by simp [hx]))
   rw [spell]
   ·
    simp only [List.length_append, List.length_cons] at this ⊢
    omega
   simp
theorem lineOf_len (ns : List Nat) (h : ∀ n ∈ ns, n ≤ 999999) : (lineOf ns).length ≤ 7 * ns.length + 1 := by
 have := spell_len ns h
 simp only [lineOf, List.length_append, List.length_cons, List.length_nil]
 omega
theorem ins_len (k i : Nat) (h : 2 * (i + k) ≤ 999999) : (insP k i).length ≤ 8 * k := by
 induction k generalizing i with
 | zero => simp [insP]
 | succ k ih =>
  have h1 := ih (i + 1) (by omega)
  have h2 := lineOf_len [2 * (i + 1)] (by simp; omega)
  simp only [insP, List.length_append, List.length_cons, List.length_nil] at h2 ⊢
  omega
theorem lats_len (w : Bool) (ls : List (Int × Int)) (i : Nat) (h : 2 * (i + ls.length) ≤ 999999) (hq : ∀ q ∈ ls, (0 ≤ q.1 ∧ q.1 ≤ 999999) ∧ 0 ≤ q.2 ∧ q.2 ≤ 2) : (latsP w ls i).length ≤ 22 * ls.length := by
 induction ls generalizing i with
 | nil => simp [latsP]
 | cons q qs ih =>
  rw [List.length_cons] at h
  have h1 := ih (i + 1) (by omega) (fun q hq' => hq q (by simp [hq']))
  have hq0 := hq q (by simp)
  have h2 := lineOf_len ((if w then [2 * (i + 1)] else []) ++ q.1.toNat :: (if q.2 = 1 then [1] else if q.2 = 2 then [2 * (i + 1)] else [])) (by
   intro n hn
   rcases List.mem_append.1 hn with hn | hn
   ·
    split at hn <;> simp at hn
    omega
   rcases List.mem_cons.1 hn with rfl | hn
   ·
    omega
   split at hn
   ·
    simp at hn
    omega
   split at hn <;> simp at hn
   omega)
  have h3 : ((if w then [2 * (i + 1)] else []) ++ q.1.toNat :: (if q.2 = 1 then [1] else if q.2 = 2 then [2 * (i + 1)] else [])).length ≤ 3 := by
   have ha : (if w = true then [2 * (i + 1)] else []).length ≤ 1 := by cases w <;> simp
   have hb : (if q.2 = 1 then [1] else if q.2 = 2 then [2 * (i + 1)] else []).length ≤ 1 := by
    by_cases e1 : q.2 = 1
    ·
     simp [e1]
    rw [if_neg e1]
    by_cases e2 : q.2 = 2 <;> simp [e2]
   simp only [List.length_append, List.length_cons]
   omega
  simp only [latsP, latP, List.length_append, List.length_cons] at h2 h3 ⊢
  omega
theorem col_len (zs : List Int) (h : ∀ z ∈ zs, 0 ≤ z ∧ z ≤ 999999) : (colP zs).length ≤ 8 * zs.length := by
 induction zs with
 | nil => simp [colP]
 | cons z zs ih =>
  have h1 := ih (fun x hx => h x (by simp [hx]))
  have hz := h z (by simp)
  have h2 := lineOf_len [z.toNat] (by simp; omega)
  simp only [colP, List.length_append, List.length_cons, List.length_nil] at h2 ⊢
  omega
theorem gat_len (gs : List (Int × Int)) (i : Nat) (h : 2 * (i + gs.length) ≤ 999999) (hq : ∀ q ∈ gs, (0 ≤ q.1 ∧ q.1 ≤ 999999) ∧ 0 ≤ q.2 ∧ q.2 ≤ 999999) : (gatP gs i).length ≤ 22 * gs.length := by
 induction gs generalizing i with
 | nil => simp [gatP]
 | cons g gs ih =>
  rw [List.length_cons] at h
  have h1 := ih (i + 1) (by omega) (fun q hq' => hq q (by simp [hq']))
  have hg := hq g (by simp)
  have h2 := lineOf_len [2 * (i + 1), g.1.toNat, g.2.toNat] (by simp; omega)
  simp only [gatP, List.length_append, List.length_cons, List.length_nil] at h2 ⊢
  omega
theorem names_len (ns : List Nm) (h : ∀ x ∈ ns, NameOk x) (m : Nat) (ht : ∀ x ∈ ns, x.2.2.size ≤ m) : (namesP ns).length ≤ (9 + m) * ns.length := by
 induction ns with
 | nil => simp [namesP]
 | cons x xs ih =>
  have h1 := ih (fun y hy => h y (by simp [hy])) (fun y hy => ht y (by simp [hy]))
  have hx := h x (by simp)
  have h2 := num_len 5 x.2.1.toNat (by have := hx.2.1; omega)
  have h3 : x.2.2.data.toList.length ≤ m := by simpa using ht x (by simp)
  simp only [namesP, nameP, List.length_append, List.length_cons, Nat.mul_succ] at h2 h3 ⊢
  omega
end Ag
end Go.Proofs.YtpejilhdhkmcjaaGreatDoor
/- What is parsed, printed again, is hardly longer. -/
namespace Go.Proofs.YtpejilhdhkmcjaaGreatDoor
open Go.RowKit

namespace Ag
/-- Words with blanks between. -/
def joinS : List Bs → Bs
 | [] => []
 | [w] => w
 | w :: ws => w ++ 32 :: joinS ws
theorem join_words (l : Bs) : joinS (wordsS l) = l := by
 induction l with
 | nil => rfl
 | cons b t ih =>
  rw [wordsS]
  split
  ·
   rename_i e
   subst e
   cases hw : wordsS t with
   | nil => exact absurd hw (words_ne t)
   | cons w ws =>
    rw [hw] at ih
    show [] ++ 32 :: joinS (w :: ws) = _
    rw [ih]
    rfl
  cases hw : wordsS t with
  | nil => exact absurd hw (words_ne t)
  | cons w ws =>
   rw [hw] at ih
   simp only
   cases ws with
   | nil =>
    show b :: w = _
    rw [← ih]
    rfl
   | cons v vs =>
    show (b :: w) ++ 32 :: joinS (v :: vs) = _
    rw [List.cons_append]
    congr 1
theorem nums_join (ws : List Bs) (ns : List Nat) (h : ws.mapM digL = some ns) : joinS ws = spell ns ∧ ns.length = ws.length := by
 induction ws generalizing ns with
 | nil =>
  simp at h
  subst h
  exact ⟨rfl, rfl⟩
 | cons w ws ih =>
  rw [List.mapM_cons] at h
  cases hd : digL w with
  | none =>
   rw [hd] at h
   cases h
  | some n =>
   rw [hd] at h
   cases hr : ws.mapM digL with
   | none =>
    rw [hr] at h
    cases h
   | some ms =>
    rw [hr] at h
    injection h with h
    subst h
    obtain ⟨e1, e2⟩ := ih ms hr
    have hw := (num_dig hd).1
    refine ⟨?_, by simp [e2]⟩
    cases ws with
    | nil =>
     have : ms = [] := List.length_eq_zero_iff.1 e2
     subst this
     exact hw
    | cons v vs =>
     cases ms with
     | nil => simp at e2
     | cons x xs =>
      show w ++ 32 :: joinS (v :: vs) = num n ++ 32 :: spell (x :: xs)
      rw [e1, hw]
theorem nums_eq {l : Bs} {ns : List Nat} (h : numsS l = some ns) : l = spell ns := by
 rw [← (nums_join _ _ h).1, join_words]
theorem col_eq (k : Nat) (r r' : Bs) (zs : List Int) (h : colS k r = some (zs, r')) : zs.length = k ∧ r = colP zs ++ r' := by
 induction k generalizing r zs with
 | zero =>
  injection h with h
  injection h with h1 h2
  subst h1 h2
  exact ⟨rfl, rfl⟩
 | succ k ih =>
  rw [colS] at h
  split at h
  ·
   cases h
  rename_i l r1 hl
  split at h
  ·
   rename_i x hn
   split at h
   ·
    cases h
   rename_i xs r2 hr
   injection h with h
   injection h with h1 h2
   subst h1 h2
   obtain ⟨e1, e2⟩ := ih r1 xs hr
   refine ⟨by simp [e1], ?_⟩
   rw [(line_some hl).1, nums_eq hn, e2, colP, lineOf]
   simp
  cases h
theorem name_eq {l : Bs} {x : Nm} (h : nameS l = some x) : nameP x = l := by
 unfold nameS at h
 split at h
 ·
  rename_i k ds tx hw
  split at h
  ·
   rename_i a hd
   injection h with h
   subst h
   have hj := join_words l
   rw [hw] at hj
   rw [← hj]
   show UInt8.ofNat ((k.toNat : Int).toNat) :: (num (a : Int).toNat ++ 32 :: tx) = (k :: ds) ++ 32 :: tx
   rw [Int.toNat_natCast, Int.toNat_natCast, ← (num_dig hd).1, UInt8.ofNat_toNat]
   rfl
  cases h
 cases h
theorem spell_two (a b : Nat) (t : List Nat) : spell (a :: b :: t) = num a ++ 32 :: spell (b :: t) := by
 rw [spell]
 simp
theorem ge_pad (m : List Nat) (h5 : 5 ≤ m.length) (h9 : m.length ≤ 9) : m ++ List.replicate (9 - m.length) 0 = [ge m 0, ge m 1, ge m 2, ge m 3, ge m 4, ge m 5, ge m 6, ge m 7, ge m 8] := by
 match m, h5, h9 with
 | [a, b, c, d, e], _, _ => rfl
 | [a, b, c, d, e, f], _, _ => rfl
 | [a, b, c, d, e, f, g], _, _ => rfl
 | [a, b, c, d, e, f, g, h], _, _ => rfl
 | [a, b, c, d, e, f, g, h, i], _, _ => rfl
theorem head_eq {word s r : Bs} {m : List Nat} (h : headS word s = some (m, r)) : s = word ++ 32 :: (lineOf m ++ r) ∧ 5 ≤ m.length ∧ m.length ≤ 9 ∧ (∀ x ∈ m, x ≤ 2000) ∧ ge m 0 = ge m 1 + ge m 2 + ge m 4 ∧ ge m 7 = 0 := by
 unfold headS at h
 split at h
 ·
  cases h
 rename_i l r1 hl
 split at h
 ·
  cases h
 rename_i w ws hw
 split at h
 ·
  rename_i hc
  split at h
  ·
   cases h
  rename_i k hk
  split at h
  ·
   rename_i hm
   injection h with h
   injection h with h1 h2
   subst h1 h2
   obtain ⟨e1, e2⟩ := nums_join _ _ hk
   have hj := join_words l
   rw [hw] at hj
   have hwl : l = word ++ 32 :: spell k := by
    rw [← hj, ← e1, ← hc.1]
    cases ws with
    | nil => simp at hc
    | cons v vs => rfl
   refine ⟨?_, by omega, by omega, hm.1, hm.2.1, hm.2.2⟩
   rw [(line_some hl).1, hwl, lineOf]
   simp
  cases h
 cases h
end Ag
end Go.Proofs.YtpejilhdhkmcjaaGreatDoor
/- Texts of circuits: what is read is small. -/
namespace Go.Proofs.YtpejilhdhkmcjaaGreatDoor
open Go.RowKit

namespace Ag
theorem col_le (k : Nat) (r r' : Bs) (zs : List Int) (h : colS k r = some (zs, r')) : ∀ z ∈ zs, 0 ≤ z ∧ z ≤ 999999 := by
 induction k generalizing r zs with
 | zero =>
  cases h
  simp
 | succ k ih =>
  rw [colS] at h
  split at h
  ·
   cases h
  rename_i l r1 hl
  split at h
  ·
   rename_i x hx
   split at h
   ·
    cases h
   rename_i xs r2 hxs
   cases h
   have hxm := (nums_some hx).2 x (by simp)
   intro z hz
   rcases List.mem_cons.1 hz with rfl | hz
   ·
    omega
   exact ih _ _ hxs z hz
  cases h
theorem open_small {bg m : List Nat} {l : Bs} (h : openS bg l = some m) : ∀ n ∈ m, n ≤ 999999 := by
 unfold openS at h
 split at h
 ·
  cases h
 rename_i ns hn
 split at h
 ·
  injection h with h
  subst h
  intro n hm
  exact (nums_some hn).2 n (List.mem_of_mem_drop hm)
 cases h
theorem latN_le {own : Nat} {m : List Nat} {q : Int × Int} (hm : ∀ n ∈ m, n ≤ 999999) (h : latN own m = some q) : (0 ≤ q.1 ∧ q.1 ≤ 999999) ∧ 0 ≤ q.2 ∧ q.2 ≤ 2 := by
 match m, hm, h with
 | [], _, h => cases h
 | [a], hm, h =>
  have := hm a (by simp)
  simp [latN] at h
  subst h
  simp
  omega
 | [a, x], hm, h =>
  have := hm a (by simp)
  simp only [latN, resetS] at h
  split at h
  ·
   rename_i k hk
   cases h
   split at hk
   ·
    cases hk
    simp
    omega
   split at hk
   ·
    cases hk
    simp
    omega
   split at hk
   ·
    cases hk
    simp
    omega
   cases hk
  cases h
 | a :: b :: d :: t, _, h => cases h
theorem nameS_le {l : Bs} {x : Nm} (h : nameS l = some x) : (0 ≤ x.1 ∧ x.1 ≤ 255) ∧ (0 ≤ x.2.1 ∧ x.2.1 ≤ 999999) ∧ x.2.2.size ≤ l.length := by
 have he := congrArg List.length (name_eq h)
 unfold nameS at h
 split at h
 ·
  rename_i k ds tx hw
  split at h
  ·
   rename_i a ha
   cases h
   have h1 := (num_dig ha).2
   have h2 := k.toNat_lt
   simp [nameP, ByteArray.size] at he ⊢
   omega
  cases h
 cases h
theorem names_le (f : Nat) (r : Bs) (ns : List Nm) (h : namesF f r = some ns) : ns.length ≤ r.length ∧ ∀ x ∈ ns, (0 ≤ x.1 ∧ x.1 ≤ 255) ∧ (0 ≤ x.2.1 ∧ x.2.1 ≤ 999999) ∧ x.2.2.size ≤ r.length := by
 induction f generalizing r ns with
 | zero =>
  cases h
  simp
 | succ f ih =>
  rw [namesF] at h
  split at h
  ·
   cases h
   simp
  split at h
  ·
   cases h
  rename_i l r1 hl
  have hll := congrArg List.length (line_some hl).1
  simp at hll
  split at h
  ·
   cases h
   simp
  split at h
  ·
   cases h
  rename_i x hx
  split at h
  ·
   cases h
  rename_i xs hxs
  cases h
  obtain ⟨h1, h2⟩ := ih _ _ hxs
  have h3 := nameS_le hx
  refine ⟨by simp; omega, fun y hy => ?_⟩
  rcases List.mem_cons.1 hy with rfl | hy
  ·
   exact ⟨h3.1, h3.2.1, by omega⟩
  have := h2 y hy
  exact ⟨this.1, this.2.1, by omega⟩
end Ag
/-- A circuit that was read: its numbers are small. -/
structure Small (c : Cir) : Prop where
 n0 : 0 ≤ c.n ∧ c.n ≤ 2000
 ls : ∀ q ∈ c.ls, (0 ≤ q.1 ∧ q.1 ≤ 999999) ∧ 0 ≤ q.2 ∧ q.2 ≤ 2
 gs : ∀ q ∈ c.gs, (0 ≤ q.1 ∧ q.1 ≤ 999999) ∧ 0 ≤ q.2 ∧ q.2 ≤ 999999
 os : ∀ z ∈ c.os, 0 ≤ z ∧ z ≤ 999999
 bs : ∀ z ∈ c.bs, 0 ≤ z ∧ z ≤ 999999
 cs : ∀ z ∈ c.cs, 0 ≤ z ∧ z ≤ 999999
 fs : ∀ z ∈ c.fs, 0 ≤ z ∧ z ≤ 999999
 ns : ∀ x ∈ c.ns, (0 ≤ x.1 ∧ x.1 ≤ 255) ∧ (0 ≤ x.2.1 ∧ x.2.1 ≤ 999999) ∧ x.2.2.size ≤ 20000
 ll : c.ls.length ≤ 2000
 lg : c.gs.length ≤ 2000
 lo : c.os.length ≤ 2000
 lb : c.bs.length ≤ 2000
 lc : c.cs.length ≤ 2000
 lf : c.fs.length ≤ 2000
 ln : c.ns.length ≤ 20000
theorem Small.wf {c : Cir} (h : Small c) : CirW c := by
 have i1 : ∀ x : Int, 0 ≤ x ∧ x ≤ 999999 → I64 x := fun x hx => ⟨by omega, by omega⟩
 have hm : (2000 : Nat) ≤ maxLen := by decide
 have h0 := h.n0
 refine ⟨⟨by omega, by omega⟩, fun g hg => ?_, fun g hg => ?_, fun z hz => i1 z (h.os z hz), fun z hz => i1 z (h.bs z hz), fun z hz => i1 z (h.cs z hz), fun z hz => i1 z (h.fs z hz), fun x hx => ?_, ?_, ?_, ?_, ?_, ?_, ?_, ?_⟩
 ·
  have := h.ls g hg
  simp only [I64] at *
  omega
 ·
  have := h.gs g hg
  simp only [I64] at *
  omega
 ·
  obtain ⟨a, b, d⟩ := h.ns x hx
  exact ⟨a, i1 _ b, Nat.le_trans d (by decide)⟩
 ·
  have := h.ll; omega
 ·
  have := h.lg; omega
 ·
  exact Nat.le_trans h.lo hm
 ·
  exact Nat.le_trans h.lb hm
 ·
  exact Nat.le_trans h.lc hm
 ·
  exact Nat.le_trans h.lf hm
 have := h.ln; omega
end Go.Proofs.YtpejilhdhkmcjaaGreatDoor
/- Texts of circuits: what any right program answers. -/
namespace Go.Proofs.YtpejilhdhkmcjaaGreatDoor
open Go.RowKit

def awT1 : Ag.Bs := [97, 97, 103, 32, 49, 32, 48, 32, 49, 32, 48, 32, 48, 10, 50, 32, 51, 10]
def awT2 : Ag.Bs := [97, 97, 103, 32, 49, 32, 48, 32, 49, 32, 48, 32, 48, 10, 50, 32, 52, 10]
def awT3 : Ag.Bs := [97, 97, 103, 32, 49, 32, 48, 32, 49, 32, 48, 32, 48, 10, 51, 32, 51, 10]
def awT4 : Ag.Bs := [97, 105, 103, 32, 49, 32, 48, 32, 49, 32, 48, 32, 48, 10, 50, 32, 51, 10]
def awP : Ag.Bs := [97, 97, 103, 32, 49, 32, 48, 32, 49, 32, 48, 32, 48, 32, 48, 32, 48, 32, 48, 32, 48, 10, 50, 32, 51, 10]
def awkC : Cir := Ag.mk 0 [(3, 0)] [] [] [] [] [] []
theorem awRight : Cm.rightC awkC = true := by
 have h1 : Cm.fitsB awkC = true := by rfl
 have h2 : Cm.drivenB awkC = true := by rfl
 have h3 : Cm.namedB awkC = true := by simp [Cm.namedB, Cm.ordS, Cm.texts, awkC, Ag.mk]
 have h4 : Gm.rightB (awkC.n + awkC.ls.length) awkC.gs = true := by decide
 simp only [Cm.rightC, h1, h2, h3, h4, Bool.and_self]
set_option maxRecDepth 10000 in
theorem aw1 : Ag.parseS awT1 = .ok awkC := by
 have e : Ag.parseS awT1 = if Cm.rightC awkC = true then .ok awkC else .error 22 := by rfl
 rw [e, if_pos awRight]
set_option maxRecDepth 10000 in
theorem aw2 : Ag.parseS awT2 = .error 22 := by rfl
set_option maxRecDepth 10000 in
theorem aw3 : Ag.parseS awT3 = .error 21 := by rfl
set_option maxRecDepth 10000 in
theorem aw4 : Ag.parseS awT4 = .error 20 := by rfl
theorem aw5 {c : Cir} (h : Ag.strip c = awkC) : Ag.printS c = awP ∧ Cm.rightC c = true := by
 have e1 : Ag.printS c = Ag.printS (Ag.strip c) := rfl
 have e2 : Cm.rightC c = Cm.rightC (Ag.strip c) := (Ag.right_strip c).symm
 rw [e1, e2, h]
 refine ⟨?_, awRight⟩
 simp [Ag.printS, awkC, Ag.mk, Ag.sizes, Ag.lineOf, Ag.spell, Ag.num_small, Ag.insP, Ag.latsP, Ag.latP, Ag.sigsP, Ag.colP, Ag.gatP, Ag.namesP, Ag.aagW, awP]
end Go.Proofs.YtpejilhdhkmcjaaGreatDoor
