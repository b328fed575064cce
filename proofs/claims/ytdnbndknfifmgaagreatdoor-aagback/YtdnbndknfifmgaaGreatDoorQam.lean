/- Texts of circuits: the mathematics. Numerals, lines, words. -/
import Derived.Test.YtdnbndknfifmgaaGreatDoorQaf
import Derived.Lib.ItoaNum
import Derived.Test.YtdnbndknfifmgaaGreatDoorQah
import Derived.Lib.AtoiTie
import Derived.Lib.ItoaMem
import Derived.Lib.Split
import Derived.Lib.SplitLaws
import Derived.Lib.IndexBytes
namespace Go.Proofs.YtdnbndknfifmgaaGreatDoor
open Go.RowKit

namespace Ag
abbrev Bs := List UInt8
/-- A number of one to six digits without noughts ahead; else none. -/
def digL (l : Bs) : Option Nat := if 1 ≤ l.length ∧ l.length ≤ 6 ∧ ¬ (1 < l.length ∧ (l.headD 0).toNat = 48) ∧ l.all Cm.isDig = true then some (Cm.valS l) else none
def num (n : Nat) : Bs := Lib.decDigits n
theorem num_small {n : Nat} (h : n < 10) : num n = [UInt8.ofNat (48 + n)] := Lib.decDigits_one h
theorem num_big {n : Nat} (h : ¬ n < 10) : num n = num (n / 10) ++ [UInt8.ofNat (48 + n % 10)] := by
  unfold num
  rw [Lib.decDigits, dif_neg h]
theorem ofNat_dig {d : Nat} (h : d < 10) : (UInt8.ofNat (48 + d)).toNat = 48 + d := by
  exact UInt8.toNat_ofNat_of_lt' (show 48 + d < 256 by omega)
theorem isDig_ofNat {d : Nat} (h : d < 10) : Cm.isDig (UInt8.ofNat (48 + d)) = true := by
  unfold Cm.isDig
  rw [ofNat_dig h]
  simp
  omega
theorem num_all (n : Nat) : (num n).all Cm.isDig = true := by
  induction n using Nat.strongRecOn with
  | _ n ih =>
    by_cases h : n < 10
    · rw [num_small h]
      rw [List.all_cons, isDig_ofNat h]
      rfl
    · rw [num_big h, List.all_append, ih (n / 10) (by omega)]
      rw [List.all_cons, isDig_ofNat (show n % 10 < 10 by omega)]
      rfl
theorem num_val (n : Nat) : Cm.valS (num n) = n := by
  induction n using Nat.strongRecOn with
  | _ n ih =>
    by_cases h : n < 10
    · rw [num_small h]
      show 10 * 0 + ((UInt8.ofNat (48 + n)).toNat - 48) = n
      rw [ofNat_dig h]
      omega
    · rw [num_big h, Cm.valS_snoc, ih (n / 10) (by omega), ofNat_dig (by omega)]
      omega
theorem num_pos (n : Nat) : 1 ≤ (num n).length := by
  by_cases h : n < 10
  · rw [num_small h]
    simp
  · rw [num_big h]
    simp
theorem num_len (k : Nat) : ∀ n, n < 10 ^ (k + 1) → (num n).length ≤ k + 1 := by
  induction k with
  | zero =>
    intro n h
    rw [num_small (by simpa using h)]
    simp
  | succ k ih =>
    intro n h
    by_cases h1 : n < 10
    · rw [num_small h1]
      simp
    · rw [num_big h1]
      have := ih (n / 10) (by rw [Nat.pow_succ] at h; omega)
      simp
      omega
theorem num_head (n : Nat) : 1 ≤ n → ((num n).headD 0).toNat ≠ 48 := by
  induction n using Nat.strongRecOn with
  | _ n ih =>
    intro h1
    by_cases h : n < 10
    · rw [num_small h]
      show (UInt8.ofNat (48 + n)).toNat ≠ 48
      rw [ofNat_dig h]
      omega
    · rw [num_big h]
      have hp := num_pos (n / 10)
      have := ih (n / 10) (by omega) (by omega)
      cases hq : num (n / 10) with
      | nil =>
        rw [hq] at hp
        simp at hp
      | cons a t =>
        rw [hq] at this
        simpa using this
theorem dig_num {n : Nat} (h : n ≤ 999999) : digL (num n) = some n := by
  have hz : ¬ (1 < (num n).length ∧ ((num n).headD 0).toNat = 48) := by
    rintro ⟨h1, h2⟩
    by_cases h0 : n = 0
    · subst h0
      rw [num_small (by omega)] at h1
      simp at h1
    · exact num_head n (by omega) h2
  unfold digL
  rw [if_pos ⟨num_pos n, num_len 5 n (by omega), hz, num_all n⟩, num_val]
theorem snoc_val {l : Bs} (h : l.all Cm.isDig = true) (hl : l ≠ []) (h0 : l.length = 1 ∨ (l.headD 0).toNat ≠ 48) : num (Cm.valS l) = l := by
  induction hk : l.length generalizing l with
  | zero => simp_all
  | succ k ih =>
    have hsp := List.dropLast_concat_getLast hl
    have hb : Cm.isDig (l.getLast hl) = true := List.all_eq_true.1 h _ (List.getLast_mem hl)
    obtain ⟨b, hbe⟩ : ∃ b, b = l.getLast hl := ⟨_, rfl⟩
    obtain ⟨m, hme⟩ : ∃ m, m = l.dropLast := ⟨_, rfl⟩
    rw [← hbe] at hb hsp
    rw [← hme] at hsp
    have hml : m.length = k := by rw [hme, List.length_dropLast]; omega
    have hd : 48 ≤ b.toNat ∧ b.toNat ≤ 57 := by simpa [Cm.isDig] using hb
    have hbb : UInt8.ofNat (48 + (b.toNat - 48)) = b := by
      rw [show 48 + (b.toNat - 48) = b.toNat by omega]
      exact UInt8.ofNat_toNat
    by_cases hm : m = []
    · rw [← hsp, hm]
      show num (10 * 0 + (b.toNat - 48)) = [b]
      rw [Nat.mul_zero, Nat.zero_add, num_small (by omega), hbb]
    · have hma : m.all Cm.isDig = true := by
        rw [← hsp, List.all_append] at h
        simp only [Bool.and_eq_true] at h
        exact h.1
      have hmh : (m.headD 0).toNat ≠ 48 := by
        have e : (l.headD 0) = m.headD 0 := by
          rw [← hsp]
          cases m with
          | nil => exact absurd rfl hm
          | cons a t => rfl
        rcases h0 with h0 | h0
        · have : m.length = 0 := by omega
          exact absurd (List.length_eq_zero_iff.1 this) hm
        · rwa [e] at h0
      have hi := ih hma hm (Or.inr hmh) hml
      have hv : 1 ≤ Cm.valS m := by
        rcases Nat.lt_or_ge (Cm.valS m) 1 with hz | hz
        · have hz0 : Cm.valS m = 0 := by omega
          rw [hz0, num_small (by omega)] at hi
          rw [← hi] at hmh
          exact absurd rfl hmh
        · exact hz
      rw [← hsp, Cm.valS_snoc, num_big (by omega)]
      rw [show (10 * Cm.valS m + (b.toNat - 48)) / 10 = Cm.valS m by omega, show (10 * Cm.valS m + (b.toNat - 48)) % 10 = b.toNat - 48 by omega, hi, hbb]
theorem num_dig {l : Bs} {n : Nat} (h : digL l = some n) : l = num n ∧ n ≤ 999999 := by
  unfold digL at h
  split at h
  · rename_i hc
    injection h with h
    subst h
    have hv := Cm.valS_le l hc.2.2.2
    have hp : 10 ^ l.length ≤ 10 ^ 6 := Nat.pow_le_pow_right (by omega) hc.2.1
    refine ⟨(snoc_val hc.2.2.2 ?_ ?_).symm, by omega⟩
    · intro e
      have := hc.1
      rw [e] at this
      simp at this
    · by_cases h1 : l.length = 1
      · exact Or.inl h1
      · refine Or.inr fun e => hc.2.2.1 ⟨by omega, e⟩
  · cases h
/-- The bytes of a numeral are digits: no blank, no end of a line. -/
theorem num_plain (n : Nat) : ∀ b ∈ num n, b ≠ 32 ∧ b ≠ 10 := by
  intro b hb
  have := List.all_eq_true.1 (num_all n) b hb
  simp [Cm.isDig] at this
  constructor <;> (intro e; subst e; simp at this)

/-- A line, and what is behind it. -/
def lineS : Bs → Option (Bs × Bs)
  | [] => none
  | b :: t => if b = 10 then some ([], t) else match lineS t with | some (l, r) => some (b :: l, r) | none => none
theorem line_of {l : Bs} (h : ∀ b ∈ l, b ≠ 10) (r : Bs) : lineS (l ++ 10 :: r) = some (l, r) := by
  induction l with
  | nil => simp [lineS]
  | cons a t ih =>
    have ha : a ≠ 10 := h a (by simp)
    rw [List.cons_append, lineS, if_neg ha, ih (fun b hb => h b (by simp [hb]))]
theorem line_some {s l r : Bs} (h : lineS s = some (l, r)) : s = l ++ 10 :: r ∧ ∀ b ∈ l, b ≠ 10 := by
  induction s generalizing l r with
  | nil => cases h
  | cons a t ih =>
    rw [lineS] at h
    split at h
    · rename_i e
      subst e
      cases h
      exact ⟨rfl, by simp⟩
    · rename_i e
      split at h
      · rename_i l' r' hl
        cases h
        obtain ⟨e1, e2⟩ := ih hl
        exact ⟨by rw [e1]; rfl, by simpa using ⟨e, e2⟩⟩
      · cases h
/-- The words of a line, parted at blanks. -/
def wordsS : Bs → List Bs
  | [] => [[]]
  | b :: t => if b = 32 then [] :: wordsS t else match wordsS t with | w :: ws => (b :: w) :: ws | [] => [[b]]
theorem words_ne (l : Bs) : wordsS l ≠ [] := by
  cases l with
  | nil => simp [wordsS]
  | cons b t =>
    rw [wordsS]
    split
    · simp
    · split <;> simp
theorem words_one {l : Bs} (h : ∀ b ∈ l, b ≠ 32) : wordsS l = [l] := by
  induction l with
  | nil => rfl
  | cons a t ih =>
    have ha : a ≠ 32 := h a (by simp)
    rw [wordsS, if_neg ha, ih (fun b hb => h b (by simp [hb]))]
theorem words_cons {l : Bs} (h : ∀ b ∈ l, b ≠ 32) (r : Bs) : wordsS (l ++ 32 :: r) = l :: wordsS r := by
  induction l with
  | nil => simp [wordsS]
  | cons a t ih =>
    have ha : a ≠ 32 := h a (by simp)
    rw [List.cons_append, wordsS, if_neg ha, ih (fun b hb => h b (by simp [hb]))]
/-- The numbers of a line. -/
def numsS (l : Bs) : Option (List Nat) := (wordsS l).mapM digL
/-- Numbers, with blanks between. -/
def spell : List Nat → Bs
  | [] => []
  | [n] => num n
  | n :: ns => num n ++ 32 :: spell ns
theorem spell_plain (ns : List Nat) : ∀ b ∈ spell ns, b ≠ 10 := by
  induction ns with
  | nil => simp [spell]
  | cons n t ih =>
    cases t with
    | nil =>
      intro b hb
      exact (num_plain n b hb).2
    | cons m t =>
      intro b hb
      rw [spell] at hb
      rcases List.mem_append.1 hb with hb | hb
      · exact (num_plain n b hb).2
      · rcases List.mem_cons.1 hb with hb | hb
        · subst hb
          decide
        · exact ih b hb
      · simp
theorem nums_spell {ns : List Nat} (h : ns ≠ []) (hm : ∀ n ∈ ns, n ≤ 999999) : numsS (spell ns) = some ns := by
  induction ns with
  | nil => exact absurd rfl h
  | cons n t ih =>
    have hn := dig_num (hm n (by simp))
    cases t with
    | nil =>
      unfold numsS
      rw [spell, words_one (fun b hb => (num_plain n b hb).1)]
      simp [hn]
    | cons m t =>
      have := ih (by simp) (fun x hx => hm x (by simp [hx]))
      unfold numsS at this ⊢
      rw [spell, words_cons (fun b hb => (num_plain n b hb).1), List.mapM_cons, hn, this]
      · rfl
      · simp
theorem nums_some {l : Bs} {ns : List Nat} (h : numsS l = some ns) : ns ≠ [] ∧ ∀ n ∈ ns, n ≤ 999999 := by
  have key : ∀ (ws : List Bs) (ns : List Nat), ws.mapM digL = some ns → ns.length = ws.length ∧ ∀ n ∈ ns, n ≤ 999999 := by
    intro ws
    induction ws with
    | nil =>
      intro ns h
      simp at h
      subst h
      simp
    | cons w ws ih =>
      intro ns h
      rw [List.mapM_cons] at h
      cases hd : digL w with
      | none =>
        rw [hd] at h
        cases h
      | some n =>
        rw [hd] at h
        cases hr : ws.mapM digL with
        | none =>
          rw [hr] at h
          cases h
        | some ms =>
          rw [hr] at h
          injection h with h
          subst h
          have := ih ms hr
          have hn := (num_dig hd).2
          refine ⟨by simp [this.1], fun x hx => ?_⟩
          rcases List.mem_cons.1 hx with rfl | hx
          · exact hn
          · exact this.2 x hx
  obtain ⟨h1, h2⟩ := key _ _ h
  refine ⟨fun e => ?_, h2⟩
  rw [e] at h1
  exact words_ne l (List.length_eq_zero_iff.1 h1.symm)
end Ag
end Go.Proofs.YtdnbndknfifmgaaGreatDoor
/- Texts of circuits: what is parsed, what is printed, and that the one undoes the other. -/
namespace Go.Proofs.YtdnbndknfifmgaaGreatDoor
open Go.RowKit

namespace Ag
/-- A circuit by its data alone. -/
def mk (n : Int) (ls gs : List (Int × Int)) (os bs cs fs : List Int) (ns : List Nm) : Cir := { n := n, aL := none, cL := 0, ls := ls, aG := none, cG := 0, gs := gs, aO := none, cO := 0, os := os, aB := none, cB := 0, bs := bs, aC := none, cC := 0, cs := cs, aF := none, cF := 0, fs := fs, aN := none, cN := 0, ns := ns }
def strip (c : Cir) : Cir := mk c.n c.ls c.gs c.os c.bs c.cs c.fs c.ns
def ge (m : List Nat) (i : Nat) : Nat := m.getD i 0
/-- The first line: its nine numbers, and what is behind it. -/
def headS (word s : Bs) : Option (List Nat × Bs) :=
  match lineS s with
  | none => none
  | some (l, r) =>
    match wordsS l with
    | [] => none
    | w :: ws =>
      if w = word ∧ 5 ≤ ws.length ∧ ws.length ≤ 9 then
        match ws.mapM digL with
        | none => none
        | some m => if (∀ x ∈ m, x ≤ 2000) ∧ ge m 0 = ge m 1 + ge m 2 + ge m 4 ∧ ge m 7 = 0 then some (m, r) else none
      else none
def insS : Nat → Nat → Bs → Option Bs
  | 0, _, r => some r
  | k + 1, i, r => match lineS r with
    | none => none
    | some (l, r') => if numsS l = some [2 * (i + 1)] then insS k (i + 1) r' else none
/-- A latch's Reset, as it is written. -/
def resetS (own x : Nat) : Option Int := if x = own then some 2 else if x = 0 then some 0 else if x = 1 then some 1 else none
/-- The numbers of a latch's line behind those with which it begins. -/
def latN (own : Nat) (m : List Nat) : Option (Int × Int) :=
  match m with
  | [a] => some ((a : Int), 0)
  | [a, x] => match resetS own x with | some k => some ((a : Int), k) | none => none
  | _ => none
def openS (begin : List Nat) (l : Bs) : Option (List Nat) :=
  match numsS l with
  | none => none
  | some m => if begin.length ≤ m.length ∧ m.take begin.length = begin then some (m.drop begin.length) else none
def latS (begin : List Nat) (own : Nat) (l : Bs) : Option (Int × Int) := match openS begin l with | none => none | some m => latN own m
/-- Latches: with their own literals ahead, or without. -/
def latsS (with_ : Bool) : Nat → Nat → Bs → Option (List (Int × Int) × Bs)
  | 0, _, r => some ([], r)
  | k + 1, i, r => match lineS r with
    | none => none
    | some (l, r') => match latS (if with_ then [2 * (i + 1)] else []) (2 * (i + 1)) l with
      | none => none
      | some q => match latsS with_ k (i + 1) r' with
        | none => none
        | some (qs, r'') => some (q :: qs, r'')
def colS : Nat → Bs → Option (List Int × Bs)
  | 0, r => some ([], r)
  | k + 1, r => match lineS r with
    | none => none
    | some (l, r') => match numsS l with
      | some [x] => match colS k r' with
        | none => none
        | some (xs, r'') => some ((x : Int) :: xs, r'')
      | _ => none
def gatS : Nat → Nat → Bs → Option (List (Int × Int) × Bs)
  | 0, _, r => some ([], r)
  | k + 1, i, r => match lineS r with
    | none => none
    | some (l, r') => match openS [2 * (i + 1)] l with
      | some [a, b] => match gatS k (i + 1) r' with
        | none => none
        | some (gs, r'') => some (((a : Int), (b : Int)) :: gs, r'')
      | _ => none
def nameS (l : Bs) : Option Nm :=
  match wordsS l with
  | [k :: ds, tx] => match digL ds with | some a => some ((k.toNat : Int), (a : Int), ⟨tx.toArray⟩) | none => none
  | _ => none
/-- Names, to the end or to the comment; the first number bounds the lines. -/
def namesF : Nat → Bs → Option (List Nm)
  | 0, _ => some []
  | f + 1, r => if r = [] then some [] else match lineS r with
    | none => none
    | some (l, r') => if l = [99] then some [] else match nameS l with
      | none => none
      | some x => match namesF f r' with
        | none => none
        | some xs => some (x :: xs)
def sigsS (m : List Nat) (r : Bs) : Option ((List Int × List Int × List Int × List Int) × Bs) :=
  match colS (ge m 3) r with
  | none => none
  | some (os, r1) => match colS (ge m 5) r1 with
    | none => none
    | some (bs, r2) => match colS (ge m 6) r2 with
      | none => none
      | some (cs, r3) => match colS (ge m 8) r3 with
        | none => none
        | some (fs, r4) => some ((os, bs, cs, fs), r4)
def bodyS (m : List Nat) (r : Bs) : Option Cir :=
  match insS (ge m 1) 0 r with
  | none => none
  | some r1 => match latsS true (ge m 2) (ge m 1) r1 with
    | none => none
    | some (ls, r2) => match sigsS m r2 with
      | none => none
      | some ((os, bs, cs, fs), r3) => match gatS (ge m 4) (ge m 1 + ge m 2) r3 with
        | none => none
        | some (gs, r4) => match namesF r4.length r4 with
          | none => none
          | some ns => some (mk (ge m 1 : Nat) ls gs os bs cs fs ns)
def aagW : Bs := [97, 97, 103]
/-- The circuit of a text, or the error. -/
def parseS (s : Bs) : Except Nat Cir :=
  if 20000 < s.length then .error 2 else match headS aagW s with
  | none => .error 20
  | some (m, r) => match bodyS m r with
    | none => .error 21
    | some c => if Cm.rightC c = true then .ok c else .error 22

def lineOf (ns : List Nat) : Bs := spell ns ++ [10]
def sizes (c : Cir) : List Nat := [c.n.toNat + c.ls.length + c.gs.length, c.n.toNat, c.ls.length, c.os.length, c.gs.length, c.bs.length, c.cs.length, 0, c.fs.length]
def insP : Nat → Nat → Bs
  | 0, _ => []
  | k + 1, i => lineOf [2 * (i + 1)] ++ insP k (i + 1)
def latP (begin : List Nat) (own : Nat) (q : Int × Int) : Bs := lineOf (begin ++ q.1.toNat :: (if q.2 = 1 then [1] else if q.2 = 2 then [own] else []))
def latsP (with_ : Bool) : List (Int × Int) → Nat → Bs
  | [], _ => []
  | q :: qs, i => latP (if with_ then [2 * (i + 1)] else []) (2 * (i + 1)) q ++ latsP with_ qs (i + 1)
def colP : List Int → Bs
  | [] => []
  | z :: zs => lineOf [z.toNat] ++ colP zs
def gatP : List (Int × Int) → Nat → Bs
  | [], _ => []
  | g :: gs, i => lineOf [2 * (i + 1), g.1.toNat, g.2.toNat] ++ gatP gs (i + 1)
def nameP (x : Nm) : Bs := UInt8.ofNat x.1.toNat :: (num x.2.1.toNat ++ 32 :: x.2.2.data.toList)
def namesP : List Nm → Bs
  | [] => []
  | x :: xs => nameP x ++ 10 :: namesP xs
def sigsP (c : Cir) : Bs := colP c.os ++ (colP c.bs ++ (colP c.cs ++ colP c.fs))
def printS (c : Cir) : Bs := aagW ++ 32 :: (lineOf (sizes c) ++ (insP c.n.toNat 0 ++ (latsP true c.ls c.n.toNat ++ (sigsP c ++ (gatP c.gs (c.n.toNat + c.ls.length) ++ namesP c.ns)))))

theorem line_lineOf (ns : List Nat) (r : Bs) : lineS (lineOf ns ++ r) = some (spell ns, r) := by
  unfold lineOf
  rw [List.append_assoc]
  exact line_of (spell_plain ns) r
theorem ins_back (k i : Nat) (r : Bs) (h : 2 * (i + k) ≤ 999999) : insS k i (insP k i ++ r) = some r := by
  induction k generalizing i with
  | zero => rfl
  | succ k ih =>
    rw [insP, List.append_assoc, insS, line_lineOf]
    simp only
    rw [nums_spell (by simp) (by simp; omega), if_pos rfl]
    exact ih (i + 1) (by omega)
theorem open_spell (begin m : List Nat) (h : begin ++ m ≠ []) (hm : ∀ n ∈ begin ++ m, n ≤ 999999) : openS begin (spell (begin ++ m)) = some m := by
  unfold openS
  rw [nums_spell h hm]
  simp only
  rw [if_pos ⟨by simp, by simp⟩]
  simp
theorem lat_back (begin : List Nat) (own : Nat) (q : Int × Int) (hb : ∀ n ∈ begin, n ≤ 999999) (ho : own ≤ 999999) (ho2 : 2 ≤ own) (h1 : 0 ≤ q.1 ∧ q.1 ≤ 999999) (h2 : 0 ≤ q.2 ∧ q.2 ≤ 2) (r : Bs) :
    lineS (latP begin own q ++ r) = some (spell (begin ++ q.1.toNat :: (if q.2 = 1 then [1] else if q.2 = 2 then [own] else [])), r) ∧ latS begin own (spell (begin ++ q.1.toNat :: (if q.2 = 1 then [1] else if q.2 = 2 then [own] else []))) = some q := by
  refine ⟨line_lineOf _ r, ?_⟩
  obtain ⟨x, y⟩ := q
  simp only at h1 h2
  unfold latS
  rw [open_spell begin _ (by simp) ?_]
  · simp only
    have hx : ((x.toNat : Nat) : Int) = x := by omega
    have hy : y = 0 ∨ y = 1 ∨ y = 2 := by omega
    rcases hy with rfl | rfl | rfl
    · simp [latN, hx]
    · have : ¬ 1 = own := by omega
      simp [latN, resetS, hx, this]
    · simp [latN, resetS, hx]
  · intro n hn
    rcases List.mem_append.1 hn with h | h
    · exact hb n h
    · rcases List.mem_cons.1 h with rfl | h
      · omega
      · split at h
        · simp at h
          omega
        · split at h
          · simp at h
            omega
          · simp at h
theorem lats_back (w : Bool) (ls : List (Int × Int)) (i : Nat) (r : Bs) (h : 2 * (i + ls.length) ≤ 999999) (hq : ∀ q ∈ ls, (0 ≤ q.1 ∧ q.1 ≤ 999999) ∧ 0 ≤ q.2 ∧ q.2 ≤ 2) : latsS w ls.length i (latsP w ls i ++ r) = some (ls, r) := by
  induction ls generalizing i with
  | nil => rfl
  | cons q qs ih =>
    rw [List.length_cons] at h
    obtain ⟨e1, e2⟩ := lat_back (if w then [2 * (i + 1)] else []) (2 * (i + 1)) q (by intro n hn; split at hn <;> simp at hn; omega) (by omega) (by omega) (hq q (by simp)).1 (hq q (by simp)).2 (latsP w qs (i + 1) ++ r)
    rw [latsP, List.append_assoc, List.length_cons, latsS, e1]
    simp only
    rw [e2]
    simp only
    rw [ih (i + 1) (by omega) (fun q hq' => hq q (by simp [hq']))]
theorem col_back (zs : List Int) (r : Bs) (h : ∀ z ∈ zs, 0 ≤ z ∧ z ≤ 999999) : colS zs.length (colP zs ++ r) = some (zs, r) := by
  induction zs with
  | nil => rfl
  | cons z zs ih =>
    have hz := h z (by simp)
    rw [colP, List.append_assoc, List.length_cons, colS, line_lineOf]
    simp only
    rw [nums_spell (by simp) (by simp; omega)]
    simp only
    rw [ih (fun x hx => h x (by simp [hx]))]
    simp
    omega
theorem gat_back (gs : List (Int × Int)) (i : Nat) (r : Bs) (h : 2 * (i + gs.length) ≤ 999999) (hq : ∀ q ∈ gs, (0 ≤ q.1 ∧ q.1 ≤ 999999) ∧ 0 ≤ q.2 ∧ q.2 ≤ 999999) : gatS gs.length i (gatP gs i ++ r) = some (gs, r) := by
  induction gs generalizing i with
  | nil => rfl
  | cons g gs ih =>
    rw [List.length_cons] at h
    have hg := hq g (by simp)
    rw [gatP, List.append_assoc, List.length_cons, gatS, line_lineOf]
    simp only
    have e := open_spell [2 * (i + 1)] [g.1.toNat, g.2.toNat] (by simp) (by simp; omega)
    rw [List.singleton_append] at e
    rw [e]
    simp only
    rw [ih (i + 1) (by omega) (fun q hq' => hq q (by simp [hq']))]
    obtain ⟨x, y⟩ := g
    simp only at hg
    simp
    omega
/-- A name that may be written. -/
def NameOk (x : Nm) : Prop := (0 ≤ x.1 ∧ x.1 ≤ 255 ∧ x.1 ≠ 10 ∧ x.1 ≠ 32) ∧ (0 ≤ x.2.1 ∧ x.2.1 ≤ 999999) ∧ ∀ b ∈ x.2.2.data.toList, b ≠ 10 ∧ b ≠ 32
theorem ofNat_kind {k : Int} (h : 0 ≤ k ∧ k ≤ 255) : ((UInt8.ofNat k.toNat).toNat : Int) = k := by
  rw [UInt8.toNat_ofNat_of_lt' (show k.toNat < 256 by omega)]
  omega
theorem name_back {x : Nm} (h : NameOk x) : nameS (nameP x) = some x ∧ (∀ b ∈ nameP x, b ≠ 10) ∧ nameP x ≠ [99] := by
  obtain ⟨k, a, t⟩ := x
  obtain ⟨⟨k0, k1, k2, k3⟩, ⟨a0, a1⟩, ht⟩ := h
  simp only at k0 k1 k2 k3 a0 a1 ht
  have hk := ofNat_kind ⟨k0, k1⟩
  obtain ⟨b, hb⟩ : ∃ b, b = UInt8.ofNat k.toNat := ⟨_, rfl⟩
  rw [← hb] at hk
  have hb10 : b ≠ 10 := by
    rintro rfl
    exact k2 (by simpa using hk.symm)
  have hb32 : b ≠ 32 := by
    rintro rfl
    exact k3 (by simpa using hk.symm)
  unfold nameP
  simp only
  rw [← hb]
  refine ⟨?_, ?_, ?_⟩
  · unfold nameS
    have e : wordsS (b :: (num a.toNat ++ 32 :: t.data.toList)) = [b :: num a.toNat, t.data.toList] := by
      have := words_cons (l := b :: num a.toNat) (by
        intro z hz
        rcases List.mem_cons.1 hz with rfl | hz
        · exact hb32
        · exact (num_plain _ z hz).1) t.data.toList
      rw [List.cons_append] at this
      rw [this, words_one (fun z hz => (ht z hz).2)]
    rw [e]
    simp only
    rw [dig_num (by omega)]
    simp only [hk, Array.toArray_toList]
    rw [show ((a.toNat : Nat) : Int) = a by omega]
  · intro z hz
    rcases List.mem_cons.1 hz with rfl | hz
    · exact hb10
    · rcases List.mem_append.1 hz with hz | hz
      · exact (num_plain _ z hz).2
      · rcases List.mem_cons.1 hz with rfl | hz
        · decide
        · exact (ht z hz).1
  · intro e
    have := congrArg List.length e
    simp at this
/-- What may stand behind the names: nothing, or a comment. -/
def Rest (r : Bs) : Prop := r = [] ∨ ∃ t, r = 99 :: 10 :: t
theorem names_back (ns : List Nm) (h : ∀ x ∈ ns, NameOk x) (r : Bs) (hr : Rest r) (f : Nat) (hf : (namesP ns ++ r).length ≤ f) : namesF f (namesP ns ++ r) = some ns := by
  induction ns generalizing f with
  | nil =>
    simp only [namesP, List.nil_append] at hf ⊢
    rcases hr with rfl | ⟨t, rfl⟩
    · cases f <;> simp [namesF]
    · cases f with
      | zero => simp at hf
      | succ f =>
        rw [namesF, if_neg (by simp)]
        have : lineS (99 :: 10 :: t) = some ([99], t) := line_of (l := [99]) (by simp) t
        rw [this]
        simp
  | cons x xs ih =>
    obtain ⟨e1, e2, e3⟩ := name_back (h x (by simp))
    simp only [namesP, List.append_assoc, List.cons_append, List.length_append, List.length_cons] at hf ⊢
    cases f with
    | zero => omega
    | succ f =>
      rw [namesF, if_neg (by simp), line_of e2]
      simp only
      rw [if_neg e3, e1]
      simp only
      rw [ih (fun y hy => h y (by simp [hy])) f (by simp; omega)]
/-- What is printed can be parsed. -/
structure PrintOk (c : Cir) : Prop where
  n0 : 0 ≤ c.n
  all : c.n + c.ls.length + c.gs.length ≤ 2000
  o : c.os.length ≤ 2000
  b : c.bs.length ≤ 2000
  c_ : c.cs.length ≤ 2000
  f : c.fs.length ≤ 2000
  ls : ∀ q ∈ c.ls, (0 ≤ q.1 ∧ q.1 ≤ 999999) ∧ 0 ≤ q.2 ∧ q.2 ≤ 2
  gs : ∀ q ∈ c.gs, (0 ≤ q.1 ∧ q.1 ≤ 999999) ∧ 0 ≤ q.2 ∧ q.2 ≤ 999999
  os : ∀ z ∈ c.os, 0 ≤ z ∧ z ≤ 999999
  bs : ∀ z ∈ c.bs, 0 ≤ z ∧ z ≤ 999999
  cs : ∀ z ∈ c.cs, 0 ≤ z ∧ z ≤ 999999
  fs : ∀ z ∈ c.fs, 0 ≤ z ∧ z ≤ 999999
  ns : ∀ x ∈ c.ns, NameOk x
theorem sizes_facts {c : Cir} (h : PrintOk c) : ∀ x ∈ sizes c, x ≤ 2000 := by
  have h1 := h.n0
  have h2 := h.all
  have h3 := h.o
  have h4 := h.b
  have h5 := h.c_
  have h6 := h.f
  intro x hx
  simp only [sizes, List.mem_cons, List.not_mem_nil, or_false] at hx
  omega
theorem head_back (word : Bs) (hw : ∀ b ∈ word, b ≠ 32 ∧ b ≠ 10) {c : Cir} (h : PrintOk c) (r : Bs) : headS word (word ++ 32 :: (lineOf (sizes c) ++ r)) = some (sizes c, r) := by
  have hsz := sizes_facts h
  have e : word ++ 32 :: (lineOf (sizes c) ++ r) = (word ++ 32 :: spell (sizes c)) ++ 10 :: r := by simp [lineOf]
  have hl := line_of (l := word ++ 32 :: spell (sizes c)) (by
    intro b hb
    rcases List.mem_append.1 hb with hb | hb
    · exact (hw b hb).2
    · rcases List.mem_cons.1 hb with rfl | hb
      · decide
      · exact spell_plain _ b hb) r
  have hn := nums_spell (ns := sizes c) (by simp [sizes]) (fun x hx => by have := hsz x hx; omega)
  have hlen : (wordsS (spell (sizes c))).length = 9 := by
    have key : ∀ (ws : List Bs) (ns : List Nat), ws.mapM digL = some ns → ns.length = ws.length := by
      intro ws
      induction ws with
      | nil =>
        intro ns h
        simp at h
        subst h
        rfl
      | cons w ws ih =>
        intro ns h
        rw [List.mapM_cons] at h
        cases hd : digL w with
        | none =>
          rw [hd] at h
          cases h
        | some n =>
          rw [hd] at h
          cases hr : ws.mapM digL with
          | none =>
            rw [hr] at h
            cases h
          | some ms =>
            rw [hr] at h
            injection h with h
            subst h
            simp [ih ms hr]
    rw [← key _ _ hn]
    rfl
  unfold numsS at hn
  unfold headS
  rw [e, hl]
  simp only
  rw [words_cons (fun b hb => (hw b hb).1)]
  simp only
  rw [if_pos ⟨trivial, by omega, by omega⟩, hn]
  simp only
  rw [if_pos ⟨hsz, rfl, rfl⟩]
theorem sigs_back {c : Cir} (h : PrintOk c) (r : Bs) : sigsS (sizes c) (sigsP c ++ r) = some ((c.os, c.bs, c.cs, c.fs), r) := by
  unfold sigsS sigsP
  simp only [List.append_assoc]
  show (match colS c.os.length _ with | none => none | some (os, r1) => _) = _
  rw [col_back c.os _ h.os]
  simp only
  show (match colS c.bs.length _ with | none => none | some (os, r1) => _) = _
  rw [col_back c.bs _ h.bs]
  simp only
  show (match colS c.cs.length _ with | none => none | some (os, r1) => _) = _
  rw [col_back c.cs _ h.cs]
  simp only
  show (match colS c.fs.length _ with | none => none | some (os, r1) => _) = _
  rw [col_back c.fs _ h.fs]
theorem body_back {c : Cir} (h : PrintOk c) (r : Bs) (hr : Rest r) : bodyS (sizes c) (insP c.n.toNat 0 ++ (latsP true c.ls c.n.toNat ++ (sigsP c ++ (gatP c.gs (c.n.toNat + c.ls.length) ++ (namesP c.ns ++ r))))) = some (strip c) := by
  have h1 := h.n0
  have h2 := h.all
  unfold bodyS
  show (match insS c.n.toNat 0 _ with | none => none | some r1 => _) = _
  rw [ins_back c.n.toNat 0 _ (by omega)]
  simp only
  show (match latsS true c.ls.length c.n.toNat _ with | none => none | some (ls, r2) => _) = _
  rw [lats_back true c.ls c.n.toNat _ (by omega) h.ls]
  simp only
  rw [sigs_back h]
  simp only
  show (match gatS c.gs.length (c.n.toNat + c.ls.length) _ with | none => none | some (gs, r2) => _) = _
  rw [gat_back c.gs _ _ (by omega) h.gs]
  simp only
  rw [names_back c.ns h.ns r hr _ (Nat.le_refl _)]
  simp only
  show some (mk ((c.n.toNat : Nat) : Int) c.ls c.gs c.os c.bs c.cs c.fs c.ns) = _
  rw [show ((c.n.toNat : Nat) : Int) = c.n by omega]
  rfl
theorem right_strip (c : Cir) : Cm.rightC (strip c) = Cm.rightC c := by
  have hd : ∀ k, Cm.lstS (strip c) k = Cm.lstS c k := fun _ => rfl
  have ho : ∀ (f : Nat) (z : Int) (l : List Nm), Cm.ordS (strip c) f z l = Cm.ordS c f z l := by
    intro f
    induction f with
    | zero =>
      intro z l
      cases l <;> simp [Cm.ordS]
    | succ f ih =>
      intro z l
      induction l generalizing z with
      | nil => simp [Cm.ordS]
      | cons x l ihl =>
        rw [Cm.ordS_cons, Cm.ordS_cons, ihl, ih]
        rfl
  unfold Cm.rightC Cm.namedB
  rw [ho]
  rfl
/-- What is printed is parsed to the same, with a comment behind it or none. -/
theorem parse_print {c : Cir} (h : PrintOk c) (hc : Cm.rightC c = true) (r : Bs) (hr : Rest r) (hl : (printS c ++ r).length ≤ 20000) : parseS (printS c ++ r) = .ok (strip c) := by
  unfold parseS
  rw [if_neg (by omega)]
  have e : printS c ++ r = aagW ++ 32 :: (lineOf (sizes c) ++ (insP c.n.toNat 0 ++ (latsP true c.ls c.n.toNat ++ (sigsP c ++ (gatP c.gs (c.n.toNat + c.ls.length) ++ (namesP c.ns ++ r)))))) := by
    unfold printS
    simp
  rw [e, head_back aagW (by decide) h]
  simp only
  rw [body_back h r hr]
  simp only
  rw [right_strip, if_pos hc]
end Ag
end Go.Proofs.YtdnbndknfifmgaaGreatDoor
/- What is right can be printed and parsed. -/
namespace Go.Proofs.YtdnbndknfifmgaaGreatDoor
open Go.RowKit

namespace Ag
theorem ord_gates (n : Int) (gs : List (Int × Int)) (i : Nat) (h : Gm.ordB n i gs = true) : ∀ g ∈ gs, 2 ≤ g.2 ∧ g.2 / 2 < g.1 / 2 ∧ g.1 / 2 < n + 1 + i + gs.length := by
  induction gs generalizing i with
  | nil => simp
  | cons a t ih =>
    simp only [Gm.ordB, Bool.and_eq_true, Gm.gateB, decide_eq_true_eq] at h
    intro g hg
    rcases List.mem_cons.1 hg with rfl | hg
    · simp only [List.length_cons]
      omega
    · have := ih (i + 1) h.2 g hg
      simp only [List.length_cons]
      omega
theorem ord_names (c : Cir) (hn : ∀ k, Cm.numS c k ≤ 2000) (f : Nat) (hf : f ≤ 6) : ∀ (l : List Nm) (z : Int), 0 ≤ z → Cm.ordS c f z l = true → ∀ x ∈ l, (x.1 = 105 ∨ x.1 = 108 ∨ x.1 = 111 ∨ x.1 = 98 ∨ x.1 = 99 ∨ x.1 = 102) ∧ 0 ≤ x.2.1 ∧ x.2.1 < 2000 := by
  induction f with
  | zero =>
    intro l z hz h x hx
    cases l with
    | nil => simp at hx
    | cons a t => simp [Cm.ordS] at h
  | succ f ih =>
    intro l
    induction l with
    | nil => simp
    | cons a t iht =>
      intro z hz h x hx
      rw [Cm.ordS_cons] at h
      split at h
      · rename_i hk
        simp only [Bool.and_eq_true, decide_eq_true_eq] at h
        rcases List.mem_cons.1 hx with rfl | hx
        · have := hn x.1
          refine ⟨?_, by omega, by omega⟩
          have hf5 : f = 0 ∨ f = 1 ∨ f = 2 ∨ f = 3 ∨ f = 4 ∨ f = 5 := by omega
          rcases hf5 with rfl | rfl | rfl | rfl | rfl | rfl <;> simp [Cm.kindAt] at hk <;> omega
        · exact iht (a.2.1 + 1) (by omega) h.2 x hx
      · exact ih (by omega) (a :: t) 0 (by omega) h x hx
theorem num_le {c : Cir} (h : Cm.fitsB c = true) (k : Int) : Cm.numS c k ≤ 2000 := by
  have h1 := Cm.fits_facts h
  have h2 := Cm.lst_len h k
  unfold Cm.numS
  split
  · omega
  · split <;> omega
theorem lits_ok {N : Int} {L : Nat} {zs : List Int} (h : ∀ z ∈ zs, Gm.litB N L z = true) (hN : 1 + N + L ≤ 2000) : ∀ z ∈ zs, 0 ≤ z ∧ z ≤ 999999 := by
  intro z hz
  have := h z hz
  simp only [Gm.litB, Bool.and_eq_true, decide_eq_true_eq] at this
  omega
theorem right_ok {c : Cir} (h : Cm.rightC c = true) : PrintOk c := by
  have hft := Cm.right_fits h
  have hff := Cm.fits_facts hft
  have h' := h
  simp only [Cm.rightC, Bool.and_eq_true] at h'
  obtain ⟨⟨⟨_, hg⟩, hd⟩, hn⟩ := h'
  simp only [Gm.rightB, Bool.and_eq_true, Gm.fitB, decide_eq_true_eq] at hg
  simp only [Cm.drivenB, Bool.and_eq_true, List.all_eq_true] at hd
  simp only [Cm.namedB, Bool.and_eq_true, List.all_eq_true, decide_eq_true_eq] at hn
  have hN : 1 + (c.n + c.ls.length) + c.gs.length ≤ 2000 := hg.1.1.2
  have hl : ∀ k, k < 6 → ∀ z ∈ Cm.lstS c (Cm.kindAt k), 0 ≤ z ∧ z ≤ 999999 := fun k hk => lits_ok (hd.2 k (by simpa using hk)) hN
  refine ⟨by omega, by omega, by omega, by omega, by omega, by omega, ?_, ?_, hl 2 (by omega), hl 3 (by omega), hl 4 (by omega), hl 5 (by omega), ?_⟩
  · intro q hq
    have := hd.1 q hq
    simp only [Cm.latB, Gm.litB, Bool.and_eq_true, decide_eq_true_eq] at this
    omega
  · intro q hq
    have := ord_gates _ _ _ hg.1.2 q hq
    omega
  · intro x hx
    obtain ⟨h1, h2, h3⟩ := ord_names c (num_le hft) 6 (by omega) c.ns 0 (by omega) hn.1.1 x hx
    have hw := hn.1.2 x hx
    simp only [Cm.wordB, Bool.and_eq_true, List.all_eq_true] at hw
    refine ⟨by omega, by omega, fun b hb => ?_⟩
    have := hw.2 b hb
    simp [Cm.okB] at this
    constructor <;> (intro e; subst e; simp at this)
theorem spell_len (ns : List Nat) (h : ∀ n ∈ ns, n ≤ 999999) : (spell ns).length ≤ 7 * ns.length := by
  induction ns with
  | nil => simp [spell]
  | cons n t ih =>
    have h1 := num_len 5 n (by have := h n (by simp); omega)
    cases t with
    | nil =>
      simp only [spell, List.length_cons, List.length_nil]
      omega
    | cons m t =>
      have := ih (fun x hx => h x (by simp [hx]))
      rw [spell]
      · simp only [List.length_append, List.length_cons] at this ⊢
        omega
      · simp
theorem lineOf_len (ns : List Nat) (h : ∀ n ∈ ns, n ≤ 999999) : (lineOf ns).length ≤ 7 * ns.length + 1 := by
  have := spell_len ns h
  simp only [lineOf, List.length_append, List.length_cons, List.length_nil]
  omega
theorem ins_len (k i : Nat) (h : 2 * (i + k) ≤ 999999) : (insP k i).length ≤ 8 * k := by
  induction k generalizing i with
  | zero => simp [insP]
  | succ k ih =>
    have h1 := ih (i + 1) (by omega)
    have h2 := lineOf_len [2 * (i + 1)] (by simp; omega)
    simp only [insP, List.length_append, List.length_cons, List.length_nil] at h2 ⊢
    omega
theorem lats_len (w : Bool) (ls : List (Int × Int)) (i : Nat) (h : 2 * (i + ls.length) ≤ 999999) (hq : ∀ q ∈ ls, (0 ≤ q.1 ∧ q.1 ≤ 999999) ∧ 0 ≤ q.2 ∧ q.2 ≤ 2) : (latsP w ls i).length ≤ 22 * ls.length := by
  induction ls generalizing i with
  | nil => simp [latsP]
  | cons q qs ih =>
    rw [List.length_cons] at h
    have h1 := ih (i + 1) (by omega) (fun q hq' => hq q (by simp [hq']))
    have hq0 := hq q (by simp)
    have h2 := lineOf_len ((if w then [2 * (i + 1)] else []) ++ q.1.toNat :: (if q.2 = 1 then [1] else if q.2 = 2 then [2 * (i + 1)] else [])) (by
      intro n hn
      rcases List.mem_append.1 hn with hn | hn
      · split at hn <;> simp at hn
        omega
      · rcases List.mem_cons.1 hn with rfl | hn
        · omega
        · split at hn
          · simp at hn
            omega
          · split at hn <;> simp at hn
            omega)
    have h3 : ((if w then [2 * (i + 1)] else []) ++ q.1.toNat :: (if q.2 = 1 then [1] else if q.2 = 2 then [2 * (i + 1)] else [])).length ≤ 3 := by
      have ha : (if w = true then [2 * (i + 1)] else []).length ≤ 1 := by cases w <;> simp
      have hb : (if q.2 = 1 then [1] else if q.2 = 2 then [2 * (i + 1)] else []).length ≤ 1 := by
        by_cases e1 : q.2 = 1
        · simp [e1]
        · rw [if_neg e1]
          by_cases e2 : q.2 = 2 <;> simp [e2]
      simp only [List.length_append, List.length_cons]
      omega
    simp only [latsP, latP, List.length_append, List.length_cons] at h2 h3 ⊢
    omega
theorem col_len (zs : List Int) (h : ∀ z ∈ zs, 0 ≤ z ∧ z ≤ 999999) : (colP zs).length ≤ 8 * zs.length := by
  induction zs with
  | nil => simp [colP]
  | cons z zs ih =>
    have h1 := ih (fun x hx => h x (by simp [hx]))
    have hz := h z (by simp)
    have h2 := lineOf_len [z.toNat] (by simp; omega)
    simp only [colP, List.length_append, List.length_cons, List.length_nil] at h2 ⊢
    omega
theorem gat_len (gs : List (Int × Int)) (i : Nat) (h : 2 * (i + gs.length) ≤ 999999) (hq : ∀ q ∈ gs, (0 ≤ q.1 ∧ q.1 ≤ 999999) ∧ 0 ≤ q.2 ∧ q.2 ≤ 999999) : (gatP gs i).length ≤ 22 * gs.length := by
  induction gs generalizing i with
  | nil => simp [gatP]
  | cons g gs ih =>
    rw [List.length_cons] at h
    have h1 := ih (i + 1) (by omega) (fun q hq' => hq q (by simp [hq']))
    have hg := hq g (by simp)
    have h2 := lineOf_len [2 * (i + 1), g.1.toNat, g.2.toNat] (by simp; omega)
    simp only [gatP, List.length_append, List.length_cons, List.length_nil] at h2 ⊢
    omega
theorem names_len (ns : List Nm) (h : ∀ x ∈ ns, NameOk x) (m : Nat) (ht : ∀ x ∈ ns, x.2.2.size ≤ m) : (namesP ns).length ≤ (9 + m) * ns.length := by
  induction ns with
  | nil => simp [namesP]
  | cons x xs ih =>
    have h1 := ih (fun y hy => h y (by simp [hy])) (fun y hy => ht y (by simp [hy]))
    have hx := h x (by simp)
    have h2 := num_len 5 x.2.1.toNat (by have := hx.2.1; omega)
    have h3 : x.2.2.data.toList.length ≤ m := by simpa using ht x (by simp)
    simp only [namesP, nameP, List.length_append, List.length_cons, Nat.mul_succ] at h2 h3 ⊢
    omega
/-- A small circuit has a short text. -/
theorem print_len {c : Cir} (h : PrintOk c) (hs : ∀ x ∈ c.ns, x.2.2.size ≤ 20) : (printS c).length ≤ 100 + 8 * c.n.toNat + 22 * c.ls.length + 8 * (c.os.length + c.bs.length + c.cs.length + c.fs.length) + 22 * c.gs.length + 29 * c.ns.length := by
  have h0 := h.n0
  have h1 := h.all
  have l1 := lineOf_len (sizes c) (fun x hx => by have := sizes_facts h x hx; omega)
  have e1 : (sizes c).length = 9 := rfl
  have l2 := ins_len c.n.toNat 0 (by omega)
  have l3 := lats_len true c.ls c.n.toNat (by omega) h.ls
  have l4 := col_len c.os h.os
  have l5 := col_len c.bs h.bs
  have l6 := col_len c.cs h.cs
  have l7 := col_len c.fs h.fs
  have l8 := gat_len c.gs (c.n.toNat + c.ls.length) (by omega) h.gs
  have l9 := names_len c.ns h.ns 20 hs
  have e2 : aagW.length = 3 := rfl
  simp only [printS, sigsP, List.length_append, List.length_cons]
  omega
end Ag
end Go.Proofs.YtdnbndknfifmgaaGreatDoor
/- What is parsed, printed again, is hardly longer. -/
namespace Go.Proofs.YtdnbndknfifmgaaGreatDoor
open Go.RowKit

namespace Ag
/-- Words with blanks between. -/
def joinS : List Bs → Bs
  | [] => []
  | [w] => w
  | w :: ws => w ++ 32 :: joinS ws
theorem join_words (l : Bs) : joinS (wordsS l) = l := by
  induction l with
  | nil => rfl
  | cons b t ih =>
    rw [wordsS]
    split
    · rename_i e
      subst e
      cases hw : wordsS t with
      | nil => exact absurd hw (words_ne t)
      | cons w ws =>
        rw [hw] at ih
        show [] ++ 32 :: joinS (w :: ws) = _
        rw [ih]
        rfl
    · cases hw : wordsS t with
      | nil => exact absurd hw (words_ne t)
      | cons w ws =>
        rw [hw] at ih
        simp only
        cases ws with
        | nil =>
          show b :: w = _
          rw [← ih]
          rfl
        | cons v vs =>
          show (b :: w) ++ 32 :: joinS (v :: vs) = _
          rw [List.cons_append]
          congr 1
theorem nums_join (ws : List Bs) (ns : List Nat) (h : ws.mapM digL = some ns) : joinS ws = spell ns ∧ ns.length = ws.length := by
  induction ws generalizing ns with
  | nil =>
    simp at h
    subst h
    exact ⟨rfl, rfl⟩
  | cons w ws ih =>
    rw [List.mapM_cons] at h
    cases hd : digL w with
    | none =>
      rw [hd] at h
      cases h
    | some n =>
      rw [hd] at h
      cases hr : ws.mapM digL with
      | none =>
        rw [hr] at h
        cases h
      | some ms =>
        rw [hr] at h
        injection h with h
        subst h
        obtain ⟨e1, e2⟩ := ih ms hr
        have hw := (num_dig hd).1
        refine ⟨?_, by simp [e2]⟩
        cases ws with
        | nil =>
          have : ms = [] := List.length_eq_zero_iff.1 e2
          subst this
          exact hw
        | cons v vs =>
          cases ms with
          | nil => simp at e2
          | cons x xs =>
            show w ++ 32 :: joinS (v :: vs) = num n ++ 32 :: spell (x :: xs)
            rw [e1, hw]
theorem nums_eq {l : Bs} {ns : List Nat} (h : numsS l = some ns) : l = spell ns := by
  rw [← (nums_join _ _ h).1, join_words]
theorem col_eq (k : Nat) (r r' : Bs) (zs : List Int) (h : colS k r = some (zs, r')) : zs.length = k ∧ r = colP zs ++ r' := by
  induction k generalizing r zs with
  | zero =>
    injection h with h
    injection h with h1 h2
    subst h1 h2
    exact ⟨rfl, rfl⟩
  | succ k ih =>
    rw [colS] at h
    split at h
    · cases h
    · rename_i l r1 hl
      split at h
      · rename_i x hn
        split at h
        · cases h
        · rename_i xs r2 hr
          injection h with h
          injection h with h1 h2
          subst h1 h2
          obtain ⟨e1, e2⟩ := ih r1 xs hr
          refine ⟨by simp [e1], ?_⟩
          rw [(line_some hl).1, nums_eq hn, e2, colP, lineOf]
          simp
      · cases h
theorem name_eq {l : Bs} {x : Nm} (h : nameS l = some x) : nameP x = l := by
  unfold nameS at h
  split at h
  · rename_i k ds tx hw
    split at h
    · rename_i a hd
      injection h with h
      subst h
      have hj := join_words l
      rw [hw] at hj
      rw [← hj]
      show UInt8.ofNat ((k.toNat : Int).toNat) :: (num (a : Int).toNat ++ 32 :: tx) = (k :: ds) ++ 32 :: tx
      rw [Int.toNat_natCast, Int.toNat_natCast, ← (num_dig hd).1, UInt8.ofNat_toNat]
      rfl
    · cases h
  · cases h
theorem spell_two (a b : Nat) (t : List Nat) : spell (a :: b :: t) = num a ++ 32 :: spell (b :: t) := by
  rw [spell]
  simp
theorem ge_pad (m : List Nat) (h5 : 5 ≤ m.length) (h9 : m.length ≤ 9) : m ++ List.replicate (9 - m.length) 0 = [ge m 0, ge m 1, ge m 2, ge m 3, ge m 4, ge m 5, ge m 6, ge m 7, ge m 8] := by
  match m, h5, h9 with
  | [a, b, c, d, e], _, _ => rfl
  | [a, b, c, d, e, f], _, _ => rfl
  | [a, b, c, d, e, f, g], _, _ => rfl
  | [a, b, c, d, e, f, g, h], _, _ => rfl
  | [a, b, c, d, e, f, g, h, i], _, _ => rfl
theorem head_eq {word s r : Bs} {m : List Nat} (h : headS word s = some (m, r)) : s = word ++ 32 :: (lineOf m ++ r) ∧ 5 ≤ m.length ∧ m.length ≤ 9 ∧ (∀ x ∈ m, x ≤ 2000) ∧ ge m 0 = ge m 1 + ge m 2 + ge m 4 ∧ ge m 7 = 0 := by
  unfold headS at h
  split at h
  · cases h
  · rename_i l r1 hl
    split at h
    · cases h
    · rename_i w ws hw
      split at h
      · rename_i hc
        split at h
        · cases h
        · rename_i k hk
          split at h
          · rename_i hm
            injection h with h
            injection h with h1 h2
            subst h1 h2
            obtain ⟨e1, e2⟩ := nums_join _ _ hk
            have hj := join_words l
            rw [hw] at hj
            have hwl : l = word ++ 32 :: spell k := by
              rw [← hj, ← e1, ← hc.1]
              cases ws with
              | nil => simp at hc
              | cons v vs => rfl
            refine ⟨?_, by omega, by omega, hm.1, hm.2.1, hm.2.2⟩
            rw [(line_some hl).1, hwl, lineOf]
            simp
          · cases h
      · cases h
end Ag
end Go.Proofs.YtdnbndknfifmgaaGreatDoor
/- What the library does with texts, by the words of AM. -/
namespace Go.Proofs.YtdnbndknfifmgaaGreatDoor
open Go.RowKit

namespace Ag
theorem dec_all (l : Bs) (h : l.all Cm.isDig = true) (acc : Nat) : Lib.decFrom acc l = some (l.foldl (fun n b => 10 * n + (b.toNat - 48)) acc) := by
  induction l generalizing acc with
  | nil => rfl
  | cons b t ih =>
    simp only [List.all_cons, Bool.and_eq_true] at h
    have hb : 48 ≤ b.toNat ∧ b.toNat ≤ 57 := by simpa [Cm.isDig] using h.1
    have hd : Lib.digitVal b = some (b.toNat - 48) := by
      unfold Lib.digitVal
      rw [if_pos (by omega)]
    rw [Lib.decFrom, hd]
    simp only
    rw [ih h.2, List.foldl_cons, Nat.mul_comm]
theorem atoi_num {n : Nat} (h : n ≤ 999999) : Lib.atoiAll (num n) = .ok (n : Int) := by
  have hl := num_len 5 n (by omega)
  have hp := num_pos n
  have ha := num_all n
  have hv := num_val n
  rw [Lib.atoiAll_short _ (by omega)]
  cases hq : num n with
  | nil =>
    rw [hq] at hp
    simp at hp
  | cons b r =>
    rw [hq] at ha hv
    have hb : 48 ≤ b.toNat ∧ b.toNat ≤ 57 := by
      simp only [List.all_cons, Bool.and_eq_true] at ha
      simpa [Cm.isDig] using ha.1
    have h45 : (b == 45) = false := by
      rw [beq_eq_false_iff_ne]
      rintro rfl
      simp at hb
    have h43 : (b == 43) = false := by
      rw [beq_eq_false_iff_ne]
      rintro rfl
      simp at hb
    have hd : Lib.decNat (b :: r) = some n := by
      unfold Lib.decNat
      rw [if_neg (by simp), dec_all _ ha]
      congr 1
    unfold Lib.atoi
    simp only
    rw [h45, h43, hd]
    rfl
/-- The number that a word spells, as the program asks for it. -/
theorem number_dig (l : Bs) : digL l = match Lib.atoiAll l with | .ok v => if 0 ≤ v ∧ v ≤ 999999 ∧ Lib.itoa v = l then some v.toNat else none | _ => none := by
  cases hd : digL l with
  | some n =>
    obtain ⟨e, hn⟩ := num_dig hd
    rw [e, atoi_num hn]
    simp only
    rw [if_pos ⟨by omega, by omega, by rw [Lib.itoa_nonneg]; rfl⟩]
    simp
  | none =>
    cases ha : Lib.atoiAll l with
    | ok v =>
      simp only
      rw [if_neg]
      rintro ⟨h0, h1, h2⟩
      obtain ⟨n, rfl⟩ := Int.eq_ofNat_of_zero_le h0
      have : l = num n := by
        rw [← h2]
        exact Lib.itoa_nonneg n
      rw [this, dig_num (by omega)] at hd
      cases hd
    | «syntax» => rfl
    | range => rfl
theorem index_plain {l : Bs} (h : ∀ b ∈ l, b ≠ 32) : Lib.index l [32] = -1 := by
  rw [Lib.index_one]
  induction l with
  | nil => rfl
  | cons a t ih =>
    have ha : (a == 32) = false := by
      rw [beq_eq_false_iff_ne]
      exact h a (by simp)
    rw [Lib.indexByte, ha, ih (fun b hb => h b (by simp [hb]))]
    rfl
theorem index_at {l : Bs} (h : ∀ b ∈ l, b ≠ 32) (r : Bs) : Lib.index (l ++ 32 :: r) [32] = (l.length : Int) := by
  rw [Lib.index_one]
  induction l with
  | nil => simp [Lib.indexByte]
  | cons a t ih =>
    have ha : (a == 32) = false := by
      rw [beq_eq_false_iff_ne]
      exact h a (by simp)
    have := ih (fun b hb => h b (by simp [hb]))
    rw [List.cons_append, Lib.indexByte, ha, this, if_neg (by simp), if_neg (by simp)]
    simp
/-- A line parted at its first blank. -/
theorem first_blank (l : Bs) : (∀ b ∈ l, b ≠ 32) ∨ ∃ p r, l = p ++ 32 :: r ∧ ∀ b ∈ p, b ≠ 32 := by
  induction l with
  | nil => exact Or.inl (by simp)
  | cons a t ih =>
    by_cases ha : a = 32
    · subst ha
      exact Or.inr ⟨[], t, rfl, by simp⟩
    · rcases ih with h | ⟨p, r, rfl, h⟩
      · exact Or.inl (by simpa using ⟨ha, h⟩)
      · exact Or.inr ⟨a :: p, r, rfl, by simpa using ⟨ha, h⟩⟩
theorem split_words (k : Nat) : ∀ l : Bs, l.count 32 ≤ k → Lib.splitK [32] 0 k l = wordsS l := by
  induction k with
  | zero =>
    intro l h
    have hp : ∀ b ∈ l, b ≠ 32 := by
      rintro b hb rfl
      have := List.count_pos_iff.2 hb
      omega
    rw [Lib.splitK, words_one hp]
  | succ k ih =>
    intro l h
    rcases first_blank l with hp | ⟨p, r, rfl, hp⟩
    · rw [Lib.splitK, index_plain hp, words_one hp]
      rfl
    · rw [Lib.splitK, index_at hp, if_neg (by simp), words_cons hp, Int.toNat_natCast]
      have e1 : (p ++ 32 :: r).take (p.length + 0) = p := by simp
      have e2 : (p ++ 32 :: r).drop (p.length + ([32] : Bs).length) = r := by simp
      have e3 : (p ++ 32 :: r).count 32 = p.count 32 + (r.count 32 + 1) := by rw [List.count_append, List.count_cons_self]
      rw [e1, e2, ih r (by omega)]
theorem cut_words {l : Bs} : (Lib.cut l [32] = (l, [], false) ∧ wordsS l = [l]) ∨ ∃ p r, Lib.cut l [32] = (p, r, true) ∧ wordsS l = p :: wordsS r ∧ l = p ++ 32 :: r := by
  rcases first_blank l with hp | ⟨p, r, rfl, hp⟩
  · refine Or.inl ⟨?_, words_one hp⟩
    unfold Lib.cut
    rw [index_plain hp]
    rfl
  · refine Or.inr ⟨p, r, ?_, words_cons hp r, rfl⟩
    unfold Lib.cut
    rw [index_at hp, if_pos (by omega), Int.toNat_natCast]
    simp
end Ag
end Go.Proofs.YtdnbndknfifmgaaGreatDoor
