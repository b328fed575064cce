/- Plain mathematics of package graph: what the document says of graphs, literals and And, Or, Ite, as functions on lists of pairs. -/
import Derived.Test.YtpejilhdhkmcjaaGreatDoorJbAl
import Derived.WalkKit
namespace Go.Proofs.YtpejilhdhkmcjaaGreatDoor.Gm

def litB (n : Int) (len : Nat) (l : Int) : Bool := decide (0 ≤ n) && decide (n ≤ 2000) && decide (0 ≤ l) && decide (l < 2 * (1 + n + len))
def gateB (n : Int) (i : Nat) (g : Int × Int) : Bool := decide (2 ≤ g.2) && decide (g.2 / 2 < g.1 / 2) && decide (g.1 / 2 < n + 1 + i)
def ordB (n : Int) : Nat → List (Int × Int) → Bool
 | _, [] => true
 | i, g :: r => gateB n i g && ordB n (i + 1) r
def fitB (n : Int) (len : Nat) : Bool := decide (0 ≤ n) && decide (n ≤ 2000) && decide (1 + n + len ≤ 2000)
def nodB (gs : List (Int × Int)) : Bool := decide gs.Nodup
def rightB (n : Int) (gs : List (Int × Int)) : Bool := fitB n gs.length && ordB n 0 gs && nodB gs
/-- A graph, a literal, an error. -/
abbrev Res := (Int × List (Int × Int)) × Int × Int
def bad (e : Int) : Res := ((0, []), 0, e)
def negB (a : Int) : Int := if a % 2 = 0 then a + 1 else a - 1
def simpleS (a b : Int) : Option Int :=
 if a = 0 ∨ b = 0 ∨ a = negB b then some 0 else if a = 1 then some b else if b = 1 ∨ a = b then some a else none
def andS (n : Int) (gs : List (Int × Int)) (a b : Int) : Res :=
 if rightB n gs = true ∧ litB n gs.length a = true ∧ litB n gs.length b = true then
  match simpleS a b with
  | some l => ((n, gs), l, 0)
  | none =>
   if gs.idxOf (max a b, min a b) < gs.length then ((n, gs), 2 * (1 + n + gs.idxOf (max a b, min a b)), 0)
   else if 1 + n + gs.length = 2000 then bad 2
   else ((n, gs ++ [(max a b, min a b)]), 2 * (1 + n + gs.length), 0)
 else bad 1
theorem ordB_snoc (n : Int) (gs : List (Int × Int)) (g : Int × Int) (i : Nat) : ordB n i (gs ++ [g]) = (ordB n i gs && gateB n (i + gs.length) g) := by
 induction gs generalizing i with
 | nil => simp [ordB]
 | cons h t ih => simp [ordB, ih, Bool.and_assoc, Nat.add_comm, Nat.add_left_comm]
theorem ordB_get (n : Int) (gs : List (Int × Int)) (i k : Nat) (h : ordB n i gs = true) (hk : k < gs.length) : gateB n (i + k) gs[k] = true := by
 induction gs generalizing i k with
 | nil => simp at hk
 | cons x t ih =>
  simp [ordB] at h
  cases k with
  | zero => simpa using h.1
  | succ k =>
   have := ih (i + 1) k h.2 (by simpa using hk)
   simpa [Nat.add_comm, Nat.add_left_comm] using this
theorem ordB_false (n : Int) (gs : List (Int × Int)) (i k : Nat) (hk : k < gs.length) (h : gateB n (i + k) gs[k] = false) : ordB n i gs = false := by
 cases hb : ordB n i gs with
 | false => rfl
 | true => rw [ordB_get n gs i k hb hk] at h; cases h
theorem ordB_take (n : Int) (gs : List (Int × Int)) (k : Nat) (hk : k < gs.length) : ordB n 0 (gs.take (k + 1)) = (ordB n 0 (gs.take k) && gateB n k gs[k]) := by
 rw [List.take_succ_eq_append_getElem hk, ordB_snoc]
 simp [Nat.min_eq_left (Nat.le_of_lt hk)]
theorem nod_take (gs : List (Int × Int)) (k : Nat) (hk : k < gs.length) : (gs.take (k + 1)).Nodup ↔ (gs.take k).Nodup ∧ gs[k] ∉ gs.take k := by
 rw [List.take_succ_eq_append_getElem hk, List.nodup_append]
 constructor
 ·
  rintro ⟨h1, _, h3⟩
  exact ⟨h1, fun hm => h3 _ hm _ (by simp) rfl⟩
 rintro ⟨h1, h2⟩
 refine ⟨h1, by simp, ?_⟩
 intro a ha b hb
 simp at hb
 subst hb
 intro e
 subst e
 exact h2 ha
theorem xor1 (m : Nat) : m ^^^ 1 = if m % 2 = 0 then m + 1 else m - 1 := by
 have h1 : (m ^^^ 1) / 2 = m / 2 := by
  have := Nat.shiftRight_xor_distrib (a := m) (b := 1) (i := 1)
  simpa [Nat.shiftRight_eq_div_pow] using this
 have h2 : ((m ^^^ 1) % 2 = 1) ↔ ¬ (m % 2 = 1) := by
  have := Nat.testBit_xor m 1 0
  simp only [Nat.testBit_zero] at this
  by_cases h : m % 2 = 1 <;> by_cases h' : (m ^^^ 1) % 2 = 1 <;> simp_all
 split <;> omega
theorem ofInt_i64 (a : Nat) (ha : a < 9223372036854775808) : (BitVec.ofInt 64 (a : Int)).toNat = a := by
 rw [BitVec.ofInt_natCast, BitVec.toNat_ofNat]; exact Nat.mod_eq_of_lt (by omega)
theorem i64_and_nat (a b : Nat) (ha : a < 9223372036854775808) (hb : b < 9223372036854775808) : bits .and .i64 (a : Int) (b : Int) = ((a &&& b : Nat) : Int) := by
 have hx : a &&& b < 2 ^ 63 := Nat.and_lt_two_pow _ (by omega)
 show IntKind.i64.wrap ((BitVec.ofInt 64 (a : Int) &&& BitVec.ofInt 64 (b : Int)).toNat : Int) = _
 rw [BitVec.toNat_and, ofInt_i64 a ha, ofInt_i64 b hb, IntKind.wrap_i64]
 omega
theorem i64_xor_nat (a b : Nat) (ha : a < 9223372036854775808) (hb : b < 9223372036854775808) : bits .xor .i64 (a : Int) (b : Int) = ((a ^^^ b : Nat) : Int) := by
 have hx : a ^^^ b < 2 ^ 63 := Nat.xor_lt_two_pow (by omega) (by omega)
 show IntKind.i64.wrap ((BitVec.ofInt 64 (a : Int) ^^^ BitVec.ofInt 64 (b : Int)).toNat : Int) = _
 rw [BitVec.toNat_xor, ofInt_i64 a ha, ofInt_i64 b hb, IntKind.wrap_i64]
 omega
theorem bits_neg (a : Int) (h0 : 0 ≤ a) (h1 : a ≤ 9223372036854775807) : bits .xor .i64 a 1 = negB a := by
 obtain ⟨m, rfl⟩ := Int.eq_ofNat_of_zero_le h0
 have := i64_xor_nat m 1 (by omega) (by omega)
 rw [show ((1 : Nat) : Int) = 1 from rfl] at this
 rw [this, xor1]
 unfold negB
 split <;> split <;> omega
theorem negB_ge (a : Int) (h : 0 ≤ a) : 0 ≤ negB a := by unfold negB; split <;> omega
theorem negB_le (a m : Int) (h : a < 2 * m) : negB a < 2 * m := by unfold negB; split <;> omega
end Go.Proofs.YtpejilhdhkmcjaaGreatDoor.Gm
