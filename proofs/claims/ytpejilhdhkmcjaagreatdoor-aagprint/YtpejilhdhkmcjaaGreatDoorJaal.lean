/- Texts of circuits: the mathematics. Numerals, lines, words. -/
import Derived.Test.YtpejilhdhkmcjaaGreatDoorJaAl
import Derived.Test.YtpejilhdhkmcjaaGreatDoorJaak
import Derived.Lib.ItoaNum
import Derived.Lib.AtoiTie
import Derived.Lib.ItoaMem
import Derived.Lib.Split
import Derived.Lib.SplitLaws
import Derived.Lib.IndexBytes
namespace Go.Proofs.YtpejilhdhkmcjaaGreatDoor
open Go.RowKit

namespace Ag
abbrev Bs := List UInt8
/-- A number of one to six digits without noughts ahead; else none. -/
def digL (l : Bs) : Option Nat := if 1 ≤ l.length ∧ l.length ≤ 6 ∧ ¬ (1 < l.length ∧ (l.headD 0).toNat = 48) ∧ l.all Cm.isDig = true then some (Cm.valS l) else none
theorem dig_list (t : ByteArray) : Cm.digS t = digL t.data.toList := by
 unfold Cm.digS digL
 simp only [ByteArray.size, Array.length_toList]
def num (n : Nat) : Bs := Lib.decDigits n
theorem num_small {n : Nat} (h : n < 10) : num n = [UInt8.ofNat (48 + n)] := Lib.decDigits_one h
theorem num_big {n : Nat} (h : ¬ n < 10) : num n = num (n / 10) ++ [UInt8.ofNat (48 + n % 10)] := by
 unfold num
 rw [Lib.decDigits, dif_neg h]
theorem ofNat_dig {d : Nat} (h : d < 10) : (UInt8.ofNat (48 + d)).toNat = 48 + d := by
 exact UInt8.toNat_ofNat_of_lt' (show 48 + d < 256 by omega)
theorem isDig_ofNat {d : Nat} (h : d < 10) : Cm.isDig (UInt8.ofNat (48 + d)) = true := by
 unfold Cm.isDig
 rw [ofNat_dig h]
 simp
 omega
theorem num_all (n : Nat) : (num n).all Cm.isDig = true := by
 induction n using Nat.strongRecOn with
 | _ n ih =>
  by_cases h : n < 10
  ·
   rw [num_small h]
   rw [List.all_cons, isDig_ofNat h]
   rfl
  rw [num_big h, List.all_append, ih (n / 10) (by omega)]
  rw [List.all_cons, isDig_ofNat (show n % 10 < 10 by omega)]
  rfl
theorem num_val (n : Nat) : Cm.valS (num n) = n := by
 induction n using Nat.strongRecOn with
 | _ n ih =>
  by_cases h : n < 10
  ·
   rw [num_small h]
   show 10 * 0 + ((UInt8.ofNat (48 + n)).toNat - 48) = n
   rw [ofNat_dig h]
   omega
  rw [num_big h, Cm.valS_snoc, ih (n / 10) (by omega), ofNat_dig (by omega)]
  omega
theorem num_pos (n : Nat) : 1 ≤ (num n).length := by
 by_cases h : n < 10
 ·
  rw [num_small h]
  simp
 rw [num_big h]
 simp
theorem num_len (k : Nat) : ∀ n, n < 10 ^ (k + 1) → (num n).length ≤ k + 1 := by
 induction k with
 | zero =>
  intro n h
  rw [num_small (by simpa using h)]
  simp
 | succ k ih =>
  intro n h
  by_cases h1 : n < 10
  ·
   rw [num_small h1]
   simp
  rw [num_big h1]
  have := ih (n / 10) (by rw [Nat.pow_succ] at h; omega)
  simp
  omega
theorem num_head (n : Nat) : 1 ≤ n → ((num n).headD 0).toNat ≠ 48 := by
 induction n using Nat.strongRecOn with
 | _ n ih =>
  intro h1
  by_cases h : n < 10
  ·
   rw [num_small h]
   show (UInt8.ofNat (48 + n)).toNat ≠ 48
   rw [ofNat_dig h]
   omega
  rw [num_big h]
  have hp := num_pos (n / 10)
  have := ih (n / 10) (by omega) (by omega)
  cases hq : num (n / 10) with
  | nil =>
   rw [hq] at hp
   simp at hp
  | cons a t =>
   rw [hq] at this
   simpa using this
theorem dig_num {n : Nat} (h : n ≤ 999999) : digL (num n) = some n := by
 have hz : ¬ (1 < (num n).length ∧ ((num n).headD 0).toNat = 48) := by
  rintro ⟨h1, h2⟩
  by_cases h0 : n = 0
  ·
   subst h0
   rw [num_small (by omega)] at h1
   simp at h1
  exact num_head n (by omega) h2
 unfold digL
 rw [if_pos ⟨num_pos n, num_len 5 n (by omega), hz, num_all n⟩, num_val]
theorem snoc_val {l : Bs} (h : l.all Cm.isDig = true) (hl : l ≠ []) (h0 : l.length = 1 ∨ (l.headD 0).toNat ≠ 48) : num (Cm.valS l) = l := by
 induction hk : l.length generalizing l with
 | zero => simp_all
 | succ k ih =>
  have hsp := List.dropLast_concat_getLast hl
  have hb : Cm.isDig (l.getLast hl) = true := List.all_eq_true.1 h _ (List.getLast_mem hl)
  obtain ⟨b, hbe⟩ : ∃ b, b = l.getLast hl := ⟨_, rfl⟩
  obtain ⟨m, hme⟩ : ∃ m, m = l.dropLast := ⟨_, rfl⟩
  rw [← hbe] at hb hsp
  rw [← hme] at hsp
  have hml : m.length = k := by rw [hme, List.length_dropLast]; omega
  have hd : 48 ≤ b.toNat ∧ b.toNat ≤ 57 := by simpa [Cm.isDig] using hb
  have hbb : UInt8.ofNat (48 + (b.toNat - 48)) = b := by
   rw [show 48 + (b.toNat - 48) = b.toNat by omega]
   exact UInt8.ofNat_toNat
  by_cases hm : m = []
  ·
   rw [← hsp, hm]
   show num (10 * 0 + (b.toNat - 48)) = [b]
   rw [Nat.mul_zero, Nat.zero_add, num_small (by omega), hbb]
  have hma : m.all Cm.isDig = true := by
   rw [← hsp, List.all_append] at h
   simp only [Bool.and_eq_true] at h
   exact h.1
  have hmh : (m.headD 0).toNat ≠ 48 := by
   have e : (l.headD 0) = m.headD 0 := by
    rw [← hsp]
    cases m with
    | nil => exact absurd rfl hm
    | cons a t => rfl
   rcases h0 with h0 | h0
   ·
    have : m.length = 0 := by omega
    exact absurd (List.length_eq_zero_iff.1 this) hm
   rwa [e] at h0
  have hi := ih hma hm (Or.inr hmh) hml
  have hv : 1 ≤ Cm.valS m := by
   rcases Nat.lt_or_ge (Cm.valS m) 1 with hz | hz
   ·
    have hz0 : Cm.valS m = 0 := by omega
    rw [hz0, num_small (by omega)] at hi
    rw [← hi] at hmh
    exact absurd rfl hmh
   exact hz
  rw [← hsp, Cm.valS_snoc, num_big (by omega)]
  rw [show (10 * Cm.valS m + (b.toNat - 48)) / 10 = Cm.valS m by omega, show (10 * Cm.valS m + (b.toNat - 48)) % 10 = b.toNat - 48 by omega, hi, hbb]
theorem num_dig {l : Bs} {n : Nat} (h : digL l = some n) : l = num n ∧ n ≤ 999999 := by
 unfold digL at h
 split at h
 ·
  rename_i hc
  injection h with h
  subst h
  have hv := Cm.valS_le l hc.2.2.2
  have hp : 10 ^ l.length ≤ 10 ^ 6 := Nat.pow_le_pow_right (by omega) hc.2.1
  refine ⟨(snoc_val hc.2.2.2 ?_ ?_).symm, by omega⟩
  ·
   intro e
   have := hc.1
   rw [e] at this
   simp at this
  by_cases h1 : l.length = 1
  ·
   exact Or.inl h1
  refine Or.inr fun e => hc.2.2.1 ⟨by omega, e⟩
 cases h
/-- A line, and what is behind it. -/
def lineS : Bs → Option (Bs × Bs)
 | [] => none
 | b :: t => if b = 10 then some ([], t) else match lineS t with | some (l, r) => some (b :: l, r) | none => none
theorem line_of {l : Bs} (h : ∀ b ∈ l, b ≠ 10) (r : Bs) : lineS (l ++ 10 :: r) = some (l, r) := by
 induction l with
 | nil => simp [lineS]
 | cons a t ih =>
  have ha : a ≠ 10 := h a (by simp)
  rw [List.cons_append, lineS, if_neg ha, ih (fun b hb => h b (by simp [hb]))]
theorem line_some {s l r : Bs} (h : lineS s = some (l, r)) : s = l ++ 10 :: r ∧ ∀ b ∈ l, b ≠ 10 := by
 induction s generalizing l r with
 | nil => cases h
 | cons a t ih =>
  rw [lineS] at h
  split at h
  ·
   rename_i e
   subst e
   cases h
   exact ⟨rfl, by simp⟩
  rename_i e
  split at h
  ·
   rename_i l' r' hl
   cases h
   obtain ⟨e1, e2⟩ := ih hl
   exact ⟨by rw [e1]; rfl, by simpa using ⟨e, e2⟩⟩
  cases h
/-- The words of a line, parted at blanks. -/
def wordsS : Bs → List Bs
 | [] => [[]]
 | b :: t => if b = 32 then [] :: wordsS t else match wordsS t with | w :: ws => (b :: w) :: ws | [] => [[b]]
theorem words_ne (l : Bs) : wordsS l ≠ [] := by
 cases l with
 | nil => simp [wordsS]
 | cons b t =>
  rw [wordsS]
  split
  ·
   simp
  split <;> simp
theorem words_one {l : Bs} (h : ∀ b ∈ l, b ≠ 32) : wordsS l = [l] := by
 induction l with
 | nil => rfl
 | cons a t ih =>
  have ha : a ≠ 32 := h a (by simp)
  rw [wordsS, if_neg ha, ih (fun b hb => h b (by simp [hb]))]
theorem words_cons {l : Bs} (h : ∀ b ∈ l, b ≠ 32) (r : Bs) : wordsS (l ++ 32 :: r) = l :: wordsS r := by
 induction l with
 | nil => simp [wordsS]
 | cons a t ih =>
  have ha : a ≠ 32 := h a (by simp)
  rw [List.cons_append, wordsS, if_neg ha, ih (fun b hb => h b (by simp [hb]))]
/-- The numbers of a line. -/
def numsS (l : Bs) : Option (List Nat) := (wordsS l).mapM digL
/-- Numbers, with blanks between. -/
def spell : List Nat → Bs
 | [] => []
 | [n] => num n
 | n :: ns => num n ++ 32 :: spell ns
theorem nums_some {l : Bs} {ns : List Nat} (h : numsS l = some ns) : ns ≠ [] ∧ ∀ n ∈ ns, n ≤ 999999 := by
 have key : ∀ (ws : List Bs) (ns : List Nat), ws.mapM digL = some ns → ns.length = ws.length ∧ ∀ n ∈ ns, n ≤ 999999 := by
  intro ws
  induction ws with
  | nil =>
   intro ns h
   simp at h
   subst h
   simp
  | cons w ws ih =>
   intro ns h
   rw [List.mapM_cons] at h
   cases hd : digL w with
   | none =>
    rw [hd] at h
    cases h
   | some n =>
    rw [hd] at h
    cases hr : ws.mapM digL with
    | none =>
     rw [hr] at h
     cases h
    | some ms =>
     rw [hr] at h
     injection h with h
     subst h
     have := ih ms hr
     have hn := (num_dig hd).2
     refine ⟨by simp [this.1], fun x hx => ?_⟩
     rcases List.mem_cons.1 hx with rfl | hx
     ·
      exact hn
     exact this.2 x hx
 obtain ⟨h1, h2⟩ := key _ _ h
 refine ⟨fun e => ?_, h2⟩
 rw [e] at h1
 exact words_ne l (List.length_eq_zero_iff.1 h1.symm)
end Ag
end Go.Proofs.YtpejilhdhkmcjaaGreatDoor
/- What the library does with texts, by the words of AM. -/
namespace Go.Proofs.YtpejilhdhkmcjaaGreatDoor
open Go.RowKit

namespace Ag
theorem dec_all (l : Bs) (h : l.all Cm.isDig = true) (acc : Nat) : Lib.decFrom acc l = some (l.foldl (fun n b => 10 * n + (b.toNat - 48)) acc) := by
 induction l generalizing acc with
 | nil => rfl
 | cons b t ih =>
  simp only [List.all_cons, Bool.and_eq_true] at h
  have hb : 48 ≤ b.toNat ∧ b.toNat ≤ 57 := by simpa [Cm.isDig] using h.1
  have hd : Lib.digitVal b = some (b.toNat - 48) := by
   unfold Lib.digitVal
   rw [if_pos (by omega)]
  rw [Lib.decFrom, hd]
  simp only
  rw [ih h.2, List.foldl_cons, Nat.mul_comm]
theorem atoi_num {n : Nat} (h : n ≤ 999999) : Lib.atoiAll (num n) = .ok (n : Int) := by
 have hl := num_len 5 n (by omega)
 have hp := num_pos n
 have ha := num_all n
 have hv := num_val n
 rw [Lib.atoiAll_short _ (by omega)]
 cases hq : num n with
 | nil =>
  rw [hq] at hp
  simp at hp
 | cons b r =>
  rw [hq] at ha hv
  have hb : 48 ≤ b.toNat ∧ b.toNat ≤ 57 := by
   simp only [List.all_cons, Bool.and_eq_true] at ha
   simpa [Cm.isDig] using ha.1
  have h45 : (b == 45) = false := by
   rw [beq_eq_false_iff_ne]
   rintro rfl
   simp at hb
  have h43 : (b == 43) = false := by
   rw [beq_eq_false_iff_ne]
   rintro rfl
   simp at hb
  have hd : Lib.decNat (b :: r) = some n := by
   unfold Lib.decNat
   rw [if_neg (by simp), dec_all _ ha]
   congr 1
  unfold Lib.atoi
  simp only
  rw [h45, h43, hd]
  rfl
/-- The number that a word spells, as the program asks for it. -/
theorem number_dig (l : Bs) : digL l = match Lib.atoiAll l with | .ok v => if 0 ≤ v ∧ v ≤ 999999 ∧ Lib.itoa v = l then some v.toNat else none | _ => none := by
 cases hd : digL l with
 | some n =>
  obtain ⟨e, hn⟩ := num_dig hd
  rw [e, atoi_num hn]
  simp only
  rw [if_pos ⟨by omega, by omega, by rw [Lib.itoa_nonneg]; rfl⟩]
  simp
 | none =>
  cases ha : Lib.atoiAll l with
  | ok v =>
   simp only
   rw [if_neg]
   rintro ⟨h0, h1, h2⟩
   obtain ⟨n, rfl⟩ := Int.eq_ofNat_of_zero_le h0
   have : l = num n := by
    rw [← h2]
    exact Lib.itoa_nonneg n
   rw [this, dig_num (by omega)] at hd
   cases hd
  | «syntax» => rfl
  | range => rfl
theorem index_plain {l : Bs} (h : ∀ b ∈ l, b ≠ 32) : Lib.index l [32] = -1 := by
 rw [Lib.index_one]
 induction l with
 | nil => rfl
 | cons a t ih =>
  have ha : (a == 32) = false := by
   rw [beq_eq_false_iff_ne]
   exact h a (by simp)
  rw [Lib.indexByte, ha, ih (fun b hb => h b (by simp [hb]))]
  rfl
theorem index_at {l : Bs} (h : ∀ b ∈ l, b ≠ 32) (r : Bs) : Lib.index (l ++ 32 :: r) [32] = (l.length : Int) := by
 rw [Lib.index_one]
 induction l with
 | nil => simp [Lib.indexByte]
 | cons a t ih =>
  have ha : (a == 32) = false := by
   rw [beq_eq_false_iff_ne]
   exact h a (by simp)
  have := ih (fun b hb => h b (by simp [hb]))
  rw [List.cons_append, Lib.indexByte, ha, this, if_neg (by simp), if_neg (by simp)]
  simp
/-- A line parted at its first blank. -/
theorem first_blank (l : Bs) : (∀ b ∈ l, b ≠ 32) ∨ ∃ p r, l = p ++ 32 :: r ∧ ∀ b ∈ p, b ≠ 32 := by
 induction l with
 | nil => exact Or.inl (by simp)
 | cons a t ih =>
  by_cases ha : a = 32
  ·
   subst ha
   exact Or.inr ⟨[], t, rfl, by simp⟩
  rcases ih with h | ⟨p, r, rfl, h⟩
  ·
   exact Or.inl (by simpa using ⟨ha, h⟩)
  exact Or.inr ⟨a :: p, r, rfl, by simpa using ⟨ha, h⟩⟩
theorem split_words (k : Nat) : ∀ l : Bs, l.count 32 ≤ k → Lib.splitK [32] 0 k l = wordsS l := by
 induction k with
 | zero =>
  intro l h
  have hp : ∀ b ∈ l, b ≠ 32 := by
   rintro b hb rfl
   have := List.count_pos_iff.2 hb
   omega
  rw [Lib.splitK, words_one hp]
 | succ k ih =>
  intro l h
  rcases first_blank l with hp | ⟨p, r, rfl, hp⟩
  ·
   rw [Lib.splitK, index_plain hp, words_one hp]
   rfl
  rw [Lib.splitK, index_at hp, if_neg (by simp), words_cons hp, Int.toNat_natCast]
  have e1 : (p ++ 32 :: r).take (p.length + 0) = p := by simp
  have e2 : (p ++ 32 :: r).drop (p.length + ([32] : Bs).length) = r := by simp
  have e3 : (p ++ 32 :: r).count 32 = p.count 32 + (r.count 32 + 1) := by rw [List.count_append, List.count_cons_self]
  rw [e1, e2, ih r (by omega)]
theorem cut_words {l : Bs} : (Lib.cut l [32] = (l, [], false) ∧ wordsS l = [l]) ∨ ∃ p r, Lib.cut l [32] = (p, r, true) ∧ wordsS l = p :: wordsS r ∧ l = p ++ 32 :: r := by
 rcases first_blank l with hp | ⟨p, r, rfl, hp⟩
 ·
  refine Or.inl ⟨?_, words_one hp⟩
  unfold Lib.cut
  rw [index_plain hp]
  rfl
 refine Or.inr ⟨p, r, ?_, words_cons hp r, rfl⟩
 unfold Lib.cut
 rw [index_at hp, if_pos (by omega), Int.toNat_natCast]
 simp
end Ag
end Go.Proofs.YtpejilhdhkmcjaaGreatDoor
