/- Plain mathematics of package graph: what the document says of graphs, literals and And, Or, Ite, as functions on lists of pairs. -/
import Derived.WalkKit
import Derived.Test.YtdbmepndebdbpaaGreatRows
import Derived.WalkSpells
import Derived.WalkLawsBesides
import Derived.BigQuiet
import Derived.Deep.QuietTactic
import Derived.Deep.RegionHeld3
import Derived.Lib.Hide
import Derived.Deep.LoopGhost
import Derived.ChangeKeysEq
import Derived.Lib.BitFns
import Derived.Lib.ItoaNum
namespace Go.Proofs.YtdbmepndebdbpaaGreat.Gm

def litB (n : Int) (len : Nat) (l : Int) : Bool := decide (0 ≤ n) && decide (n ≤ 2000) && decide (0 ≤ l) && decide (l < 2 * (1 + n + len))
def gateB (n : Int) (i : Nat) (g : Int × Int) : Bool := decide (2 ≤ g.2) && decide (g.2 / 2 < g.1 / 2) && decide (g.1 / 2 < n + 1 + i)
def ordB (n : Int) : Nat → List (Int × Int) → Bool
  | _, [] => true
  | i, g :: r => gateB n i g && ordB n (i + 1) r
def fitB (n : Int) (len : Nat) : Bool := decide (0 ≤ n) && decide (n ≤ 2000) && decide (1 + n + len ≤ 2000)
def nodB (gs : List (Int × Int)) : Bool := decide gs.Nodup
def rightB (n : Int) (gs : List (Int × Int)) : Bool := fitB n gs.length && ordB n 0 gs && nodB gs
/-- A graph, a literal, an error. -/
abbrev Res := (Int × List (Int × Int)) × Int × Int
def bad (e : Int) : Res := ((0, []), 0, e)
def negB (a : Int) : Int := if a % 2 = 0 then a + 1 else a - 1
def simpleS (a b : Int) : Option Int :=
  if a = 0 ∨ b = 0 ∨ a = negB b then some 0 else if a = 1 then some b else if b = 1 ∨ a = b then some a else none
def andS (n : Int) (gs : List (Int × Int)) (a b : Int) : Res :=
  if rightB n gs = true ∧ litB n gs.length a = true ∧ litB n gs.length b = true then
    match simpleS a b with
    | some l => ((n, gs), l, 0)
    | none =>
      if gs.idxOf (max a b, min a b) < gs.length then ((n, gs), 2 * (1 + n + gs.idxOf (max a b, min a b)), 0)
      else if 1 + n + gs.length = 2000 then bad 2
      else ((n, gs ++ [(max a b, min a b)]), 2 * (1 + n + gs.length), 0)
  else bad 1
def orS (n : Int) (gs : List (Int × Int)) (a b : Int) : Res :=
  if a < 0 ∨ b < 0 then bad 1
  else
    let r := andS n gs (negB a) (negB b)
    if r.2.2 = 0 then (r.1, negB r.2.1, 0) else bad r.2.2
def iteS (n : Int) (gs : List (Int × Int)) (c a b : Int) : Res :=
  if c < 0 then bad 1
  else
    let r := andS n gs c a
    if r.2.2 = 0 then
      let s := andS r.1.1 r.1.2 (negB c) b
      if s.2.2 = 0 then orS s.1.1 s.1.2 r.2.1 s.2.1 else bad s.2.2
    else bad r.2.2

theorem ordB_snoc (n : Int) (gs : List (Int × Int)) (g : Int × Int) (i : Nat) : ordB n i (gs ++ [g]) = (ordB n i gs && gateB n (i + gs.length) g) := by
  induction gs generalizing i with
  | nil => simp [ordB]
  | cons h t ih => simp [ordB, ih, Bool.and_assoc, Nat.add_comm, Nat.add_left_comm]
theorem ordB_get (n : Int) (gs : List (Int × Int)) (i k : Nat) (h : ordB n i gs = true) (hk : k < gs.length) : gateB n (i + k) gs[k] = true := by
  induction gs generalizing i k with
  | nil => simp at hk
  | cons x t ih =>
    simp [ordB] at h
    cases k with
    | zero => simpa using h.1
    | succ k =>
      have := ih (i + 1) k h.2 (by simpa using hk)
      simpa [Nat.add_comm, Nat.add_left_comm] using this
theorem ordB_false (n : Int) (gs : List (Int × Int)) (i k : Nat) (hk : k < gs.length) (h : gateB n (i + k) gs[k] = false) : ordB n i gs = false := by
  cases hb : ordB n i gs with
  | false => rfl
  | true => rw [ordB_get n gs i k hb hk] at h; cases h
theorem ordB_take (n : Int) (gs : List (Int × Int)) (k : Nat) (hk : k < gs.length) : ordB n 0 (gs.take (k + 1)) = (ordB n 0 (gs.take k) && gateB n k gs[k]) := by
  rw [List.take_succ_eq_append_getElem hk, ordB_snoc]
  simp [Nat.min_eq_left (Nat.le_of_lt hk)]
theorem nod_take (gs : List (Int × Int)) (k : Nat) (hk : k < gs.length) : (gs.take (k + 1)).Nodup ↔ (gs.take k).Nodup ∧ gs[k] ∉ gs.take k := by
  rw [List.take_succ_eq_append_getElem hk, List.nodup_append]
  constructor
  · rintro ⟨h1, _, h3⟩
    exact ⟨h1, fun hm => h3 _ hm _ (by simp) rfl⟩
  · rintro ⟨h1, h2⟩
    refine ⟨h1, by simp, ?_⟩
    intro a ha b hb
    simp at hb
    subst hb
    intro e
    subst e
    exact h2 ha
theorem xor1 (m : Nat) : m ^^^ 1 = if m % 2 = 0 then m + 1 else m - 1 := by
  have h1 : (m ^^^ 1) / 2 = m / 2 := by
    have := Nat.shiftRight_xor_distrib (a := m) (b := 1) (i := 1)
    simpa [Nat.shiftRight_eq_div_pow] using this
  have h2 : ((m ^^^ 1) % 2 = 1) ↔ ¬ (m % 2 = 1) := by
    have := Nat.testBit_xor m 1 0
    simp only [Nat.testBit_zero] at this
    by_cases h : m % 2 = 1 <;> by_cases h' : (m ^^^ 1) % 2 = 1 <;> simp_all
  split <;> omega
theorem ofInt_i64 (a : Nat) (ha : a < 9223372036854775808) : (BitVec.ofInt 64 (a : Int)).toNat = a := by
  rw [BitVec.ofInt_natCast, BitVec.toNat_ofNat]; exact Nat.mod_eq_of_lt (by omega)
theorem i64_and_nat (a b : Nat) (ha : a < 9223372036854775808) (hb : b < 9223372036854775808) : bits .and .i64 (a : Int) (b : Int) = ((a &&& b : Nat) : Int) := by
  have hx : a &&& b < 2 ^ 63 := Nat.and_lt_two_pow _ (by omega)
  show IntKind.i64.wrap ((BitVec.ofInt 64 (a : Int) &&& BitVec.ofInt 64 (b : Int)).toNat : Int) = _
  rw [BitVec.toNat_and, ofInt_i64 a ha, ofInt_i64 b hb, IntKind.wrap_i64]
  omega
theorem i64_xor_nat (a b : Nat) (ha : a < 9223372036854775808) (hb : b < 9223372036854775808) : bits .xor .i64 (a : Int) (b : Int) = ((a ^^^ b : Nat) : Int) := by
  have hx : a ^^^ b < 2 ^ 63 := Nat.xor_lt_two_pow (by omega) (by omega)
  show IntKind.i64.wrap ((BitVec.ofInt 64 (a : Int) ^^^ BitVec.ofInt 64 (b : Int)).toNat : Int) = _
  rw [BitVec.toNat_xor, ofInt_i64 a ha, ofInt_i64 b hb, IntKind.wrap_i64]
  omega
theorem bits_neg (a : Int) (h0 : 0 ≤ a) (h1 : a ≤ 9223372036854775807) : bits .xor .i64 a 1 = negB a := by
  obtain ⟨m, rfl⟩ := Int.eq_ofNat_of_zero_le h0
  have := i64_xor_nat m 1 (by omega) (by omega)
  rw [show ((1 : Nat) : Int) = 1 from rfl] at this
  rw [this, xor1]
  unfold negB
  split <;> split <;> omega
theorem negB_ge (a : Int) (h : 0 ≤ a) : 0 ≤ negB a := by unfold negB; split <;> omega
theorem negB_neg (a : Int) : negB (negB a) = a := by unfold negB; split <;> split <;> omega
theorem negB_le (a m : Int) (h : a < 2 * m) : negB a < 2 * m := by unfold negB; split <;> omega
end Go.Proofs.YtdbmepndebdbpaaGreat.Gm
/- Small functions of package graph and of the reference: variables, negated, variable, literal, Vars, Lit. -/
namespace Go.Proofs.YtdbmepndebdbpaaGreat
open Go.RowKit

theorem bcell {W w1 : World} (hb : Below W.heap.size W w1) : (∀ b o, b < W.heap.size → w1.cell? ⟨b, o, none⟩ = W.cell? ⟨b, o, none⟩) ∧ (∀ b o, b < W.heap.size → w1.frozen? ⟨b, o, none⟩ = W.frozen? ⟨b, o, none⟩) :=
  ⟨fun b o h => hb.cell (p := ⟨b, o, none⟩) h, fun b o h => hb.frozen (p := ⟨b, o, none⟩) h⟩

set_option maxHeartbeats 400000 in
theorem variables_any (n : Int) (A : Option Addr) (l c : Nat) (w : World) (h0 : 0 ≤ n) (h1 : n ≤ 2000) (hl : l ≤ 1000000) :
    Calls Tryz.prog 69 #[.agg #[.int .i64 n, .slice A l c]] w fun e w' => e = .returned (.int .i64 (1 + n + l)) ∧ Below w.heap.size w w' := by
  go_enter Tryz.func69, Tryz.ntmps69
  go_wp2
  go_ret
  exact ⟨rfl, (Below.refl _ _).alloc (Nat.le_refl _) _⟩

set_option maxHeartbeats 400000 in
theorem refVars_any (n : Int) (A : Option Addr) (l c : Nat) (w : World) (h0 : 0 ≤ n) (h1 : n ≤ 2000) (hl : l ≤ 1000000) :
    Calls Tryz.prog 9 #[.agg #[.int .i64 n, .slice A l c]] w fun e w' => e = .returned (.int .i64 (n + 1 + l)) ∧ Below w.heap.size w w' := by
  go_enter Tryz.func9, Tryz.ntmps9
  go_wp2
  go_ret
  exact ⟨rfl, (Below.refl _ _).alloc (Nat.le_refl _) _⟩

set_option maxHeartbeats 400000 in
theorem variable_any (a : Int) (w : World) (h0 : 0 ≤ a) (h1 : a ≤ 9223372036854775807) :
    Calls Tryz.prog 73 #[.int .i64 a] w fun e w' => e = .returned (.int .i64 (a / 2)) ∧ w = w' := by
  go_enter Tryz.func73, Tryz.ntmps73
  go_wp2
  go_ret
  exact ⟨rfl, rfl⟩

set_option maxHeartbeats 1000000 in
theorem lit_any (n : Int) (A : Option Addr) (l c : Nat) (x : Int) (w : World) (hl : l ≤ 1000000) :
    Calls Tryz.prog 48 #[.agg #[.int .i64 n, .slice A l c], .int .i64 x] w fun e w' => e = .returned (.bool (Gm.litB n l x)) ∧ Below w.heap.size w w' := by
  by_cases h0 : 0 ≤ n
  · by_cases h1 : n ≤ 2000
    · by_cases h2 : 0 ≤ x
      · have e : Gm.litB n l x = decide (x < 2 * (1 + n + l)) := by simp [Gm.litB, h0, h1, h2]
        rw [e]
        clear e
        go_enter Tryz.func48, Tryz.ntmps48
        go_wp2_with (go_at_call 69; refine (variables_any _ _ _ _ _ h0 h1 hl).mono ?_; rintro e w' ⟨rfl, hb⟩)
        go_ret
        exact ⟨rfl, ((Below.refl _ _).alloc (Nat.le_refl _) _).trans (hb.mono (by simp))⟩
      · have e : Gm.litB n l x = false := by simp [Gm.litB, h2]
        rw [e]
        clear e
        go_enter Tryz.func48, Tryz.ntmps48
        go_wp2_with fail
        go_ret
        exact ⟨rfl, (Below.refl _ _).alloc (Nat.le_refl _) _⟩
    · have e : Gm.litB n l x = false := by simp [Gm.litB, h1]
      rw [e]
      clear e
      go_enter Tryz.func48, Tryz.ntmps48
      go_wp2_with fail
      go_ret
      exact ⟨rfl, (Below.refl _ _).alloc (Nat.le_refl _) _⟩
  · have e : Gm.litB n l x = false := by simp [Gm.litB, h0]
    rw [e]
    clear e
    go_enter Tryz.func48, Tryz.ntmps48
    go_wp2_with fail
    go_ret
    exact ⟨rfl, (Below.refl _ _).alloc (Nat.le_refl _) _⟩

set_option maxHeartbeats 1000000 in
theorem fits_any (n : Int) (A : Option Addr) (l c : Nat) (w : World) (hl : l ≤ 1000000) :
    Calls Tryz.prog 66 #[.agg #[.int .i64 n, .slice A l c]] w fun e w' => e = .returned (.bool (Gm.fitB n l)) ∧ Below w.heap.size w w' := by
  by_cases h0 : 0 ≤ n
  · by_cases h1 : n ≤ 2000
    · have e : Gm.fitB n l = decide (1 + n + l ≤ 2000) := by simp [Gm.fitB, h0, h1]
      rw [e]
      clear e
      go_enter Tryz.func66, Tryz.ntmps66
      go_wp2_with (go_at_call 69; refine (variables_any _ _ _ _ _ h0 h1 hl).mono ?_; rintro e w' ⟨rfl, hb⟩)
      go_ret
      exact ⟨rfl, ((Below.refl _ _).alloc (Nat.le_refl _) _).trans (hb.mono (by simp))⟩
    · have e : Gm.fitB n l = false := by simp [Gm.fitB, h1]
      rw [e]
      clear e
      go_enter Tryz.func66, Tryz.ntmps66
      go_wp2_with fail
      go_ret
      exact ⟨rfl, (Below.refl _ _).alloc (Nat.le_refl _) _⟩
  · have e : Gm.fitB n l = false := by simp [Gm.fitB, h0]
    rw [e]
    clear e
    go_enter Tryz.func66, Tryz.ntmps66
    go_wp2_with fail
    go_ret
    exact ⟨rfl, (Below.refl _ _).alloc (Nat.le_refl _) _⟩

set_option maxHeartbeats 1000000 in
theorem refLit_any (n : Int) (A : Option Addr) (l c : Nat) (x : Int) (w : World) (hl : l ≤ 1000000) (hx : x ≤ 9223372036854775807) :
    Calls Tryz.prog 30 #[.agg #[.int .i64 n, .slice A l c], .int .i64 x] w fun e w' => e = .returned (.bool (Gm.litB n l x)) ∧ Below w.heap.size w w' := by
  by_cases h0 : 0 ≤ n
  · by_cases h1 : n ≤ 2000
    · by_cases h2 : 0 ≤ x
      · have e : Gm.litB n l x = decide (x / 2 < n + 1 + l) := by simp [Gm.litB, h0, h1, h2]; omega
        rw [e]
        clear e
        go_enter Tryz.func30, Tryz.ntmps30
        go_wp2_with (go_at_call 9; refine (refVars_any _ _ _ _ _ h0 h1 hl).mono ?_; rintro e w' ⟨rfl, hb⟩)
        go_ret
        exact ⟨rfl, ((Below.refl _ _).alloc (Nat.le_refl _) _).trans (hb.mono (by simp))⟩
      · have e : Gm.litB n l x = false := by simp [Gm.litB, h2]
        rw [e]
        clear e
        go_enter Tryz.func30, Tryz.ntmps30
        go_wp2_with fail
        go_ret
        exact ⟨rfl, (Below.refl _ _).alloc (Nat.le_refl _) _⟩
    · have e : Gm.litB n l x = false := by simp [Gm.litB, h1]
      rw [e]
      clear e
      go_enter Tryz.func30, Tryz.ntmps30
      go_wp2_with fail
      go_ret
      exact ⟨rfl, (Below.refl _ _).alloc (Nat.le_refl _) _⟩
  · have e : Gm.litB n l x = false := by simp [Gm.litB, h0]
    rw [e]
    clear e
    go_enter Tryz.func30, Tryz.ntmps30
    go_wp2_with fail
    go_ret
    exact ⟨rfl, (Below.refl _ _).alloc (Nat.le_refl _) _⟩
end Go.Proofs.YtdbmepndebdbpaaGreat
/- ordered, over a slice of gates in memory. -/
namespace Go.Proofs.YtdbmepndebdbpaaGreat
open Go.RowKit

/-- The slice at A, which lies below block B, holds the gates gs. -/
def Gr (w : World) (B : Nat) (A : Option Addr) (gs : List (Int × Int)) : Prop :=
  ∀ k (hk : k < gs.length), ∃ b off, A = some ⟨b, off, none⟩ ∧ b < B ∧
    w.cell? ⟨b, off + k * 2, none⟩ = some (.int .i64 (gs[k]).1) ∧ w.cell? ⟨b, off + k * 2 + 1, none⟩ = some (.int .i64 (gs[k]).2)

theorem Gr.keep {w w' : World} {B : Nat} {A : Option Addr} {gs : List (Int × Int)} (h : Gr w B A gs) (hk : ∀ p : Addr, p.block < B → w'.cell? p = w.cell? p) : Gr w' B A gs := by
  intro k hlt
  obtain ⟨b, off, rfl, hb, h1, h2⟩ := h k hlt
  exact ⟨b, off, rfl, hb, (hk ⟨b, _, none⟩ hb).trans h1, (hk ⟨b, _, none⟩ hb).trans h2⟩
theorem Gr.below {w w' : World} {B C : Nat} {A : Option Addr} {gs : List (Int × Int)} (h : Gr w B A gs) (hb : Below C w w') (hB : B ≤ C) : Gr w' B A gs :=
  h.keep fun _ hp => hb.cell (Nat.lt_of_lt_of_le hp hB)
theorem Gr.more {w : World} {B C : Nat} {A : Option Addr} {gs : List (Int × Int)} (h : Gr w B A gs) (hB : B ≤ C) : Gr w C A gs := by
  intro k hlt
  obtain ⟨b, off, rfl, hb, h1, h2⟩ := h k hlt
  exact ⟨b, off, rfl, Nat.lt_of_lt_of_le hb hB, h1, h2⟩
theorem Gr.grown {w w' : World} {B : Nat} {row : Option Nat} {A : Option Addr} {gs : List (Int × Int)} (h : Gr w B A gs) (hg : w.grownBy w' row) (hB : B ≤ w.heap.size) (hr : ∀ k, row = some k → B ≤ k) : Gr w' B A gs :=
  h.keep fun p hp => World.cell?_of_block (hg.block p.block (by omega) (fun e => by have := hr _ e.symm; omega))

theorem ret_bool {a b : Bool} (h : a = b) : Ending.returned (.bool a) = .returned (.bool b) := by rw [h]
theorem ret_int {k : IntKind} {a b : Int} (h : a = b) : Ending.returned (.int k a) = .returned (.int k b) := by rw [h]
/-- The numbers of gates are ints. -/
def Wf (gs : List (Int × Int)) : Prop := ∀ g ∈ gs, (-9223372036854775808 ≤ g.1 ∧ g.1 ≤ 9223372036854775807) ∧ -9223372036854775808 ≤ g.2 ∧ g.2 ≤ 9223372036854775807

set_option maxHeartbeats 1000000 in
theorem ordered_any (n : Int) (A : Option Addr) (c : Nat) (gs : List (Int × Int)) (w : World) (h0 : 0 ≤ n) (h1 : n ≤ 2000) (hl : gs.length ≤ 1000000) (B : Nat) (hg : Gr w B A gs) (hB : B ≤ w.heap.size) (hw : Wf gs) :
    Calls Tryz.prog 67 #[.agg #[.int .i64 n, .slice A gs.length c]] w fun e w' => e = .returned (.bool (Gm.ordB n 0 gs)) ∧ Below w.heap.size w w' := by
  go_enter Tryz.func67, Tryz.ntmps67
  go_wp2
  go_loopw [3, 12] (fun o i wr => ∃ k : Nat, k ≤ gs.length ∧ o = .int .i64 (n + 1 + k) ∧ i = .int .i64 k ∧ Gm.ordB n 0 (gs.take k) = true ∧ Below w.heap.size w wr ∧ w.heap.size < wr.heap.size ∧ wr.cell? ⟨w.heap.size, 0, none⟩ = some (.int .i64 n) ∧ wr.cell? ⟨w.heap.size, 1, none⟩ = some (.slice A gs.length c)) (fun _ i _ => gs.length - (intOf i).toNat)
  case atStart => exact ⟨0, Nat.zero_le _, by simp, rfl, rfl, (Below.refl _ _).alloc (Nat.le_refl _) _, by simp, by simp, by simp⟩
  case round =>
    obtain ⟨k, hk, rfl, rfl, ho, hbl, hsz, hc0, hc1⟩ := hrel
    by_cases hlt : k < gs.length
    · obtain ⟨b, off, hA, hbw, g1, g2⟩ := (hg.below hbl hB) k hlt
      subst hA
      have hwk := hw gs[k] (by simp)
      have hot := Gm.ordB_take n gs k hlt
      have hof := fun h => Gm.ordB_false n gs 0 k hlt h
      rw [Nat.zero_add] at hof
      generalize gs[k] = g at *
      obtain ⟨x, y⟩ := g
      simp only at g1 g2 hwk
      obtain ⟨⟨hx0, hx1⟩, hy0, hy1⟩ := hwk
      rw [ho, Bool.true_and] at hot
      have H1 := Lib.hid hot
      have H2 := Lib.hid hof
      have HO := Lib.hid ho
      clear hot hof ho
      have hbn : Below w.heap.size w (wr.alloc (Obj.cells #[.int .i64 x, .int .i64 y] 58)) := hbl.alloc hbl.size _
      by_cases hx : x < 2
      · have HF : Gm.gateB n k (x, y) = false := by simp [Gm.gateB]; omega
        go_wp2
        go_ret
        exact ⟨ret_bool (H2.out HF).symm, hbn⟩
      · by_cases hy : y < 2
        · have HF : Gm.gateB n k (x, y) = false := by simp [Gm.gateB]; omega
          go_wp2
          go_ret
          exact ⟨ret_bool (H2.out HF).symm, hbn⟩
        · by_cases hxy : x / 2 ≤ y / 2
          · have HF : Gm.gateB n k (x, y) = false := by simp [Gm.gateB]; omega
            have hF := Lib.hid (H2.out HF)
            clear HF H2 H1
            go_wp2
            go_quiet ((go_at_call 73; exact Calls.quiet_of_same ((variable_any _ _ (by omega) (by omega)).mono fun _ _ ⟨a, b⟩ => ⟨a, b.symm⟩)))
            go_wp2
            go_ret
            exact ⟨ret_bool hF.out.symm, by exact below_drewN hbn _⟩
          · by_cases hn : n + 1 + k ≤ x / 2
            · have HF : Gm.gateB n k (x, y) = false := by simp [Gm.gateB]; omega
              have hF := Lib.hid (H2.out HF)
              clear HF H2 H1
              have hd : decide (x / 2 ≤ y / 2) = false := by simpa using hxy
              go_wp2
              go_quiet ((go_at_call 73; exact Calls.quiet_of_same ((variable_any _ _ (by omega) (by omega)).mono fun _ _ ⟨a, b⟩ => ⟨a, b.symm⟩)))
              go_wp2
              go_ret
              exact ⟨ret_bool hF.out.symm, by exact below_drewN hbn _⟩
            · have HF : Gm.gateB n k (x, y) = true := by simp [Gm.gateB]; omega
              have hT := Lib.hid (H1.out.trans HF)
              clear HF H2 H1
              have hd : decide (x / 2 ≤ y / 2) = false := by simpa using hxy
              have hd2 : decide (n + 1 + (k : Int) ≤ x / 2) = false := by simpa using hn
              go_wp2
              go_quiet ((go_at_call 73; exact Calls.quiet_of_same ((variable_any _ _ (by omega) (by omega)).mono fun _ _ ⟨a, b⟩ => ⟨a, b.symm⟩)))
              go_wp2
              go_roundw
              case rel => exact ⟨k + 1, by omega, by go_num, by go_num, hT.out, by exact below_drewN hbn _, by simp; omega, by exact (World.cell?_alloc_lt wr _ ⟨w.heap.size, 0, none⟩ hsz).trans hc0, by exact (World.cell?_alloc_lt wr _ ⟨w.heap.size, 1, none⟩ hsz).trans hc1⟩
              case measure => simp [intOf]; omega
    · have hkk : k = gs.length := by omega
      have HO : Hid (Gm.ordB n 0 gs = true) := by rw [hkk, List.take_length] at ho; exact ho
      clear ho hkk
      go_wp2
      go_ret
      exact ⟨ret_bool HO.out.symm, hbl⟩
end Go.Proofs.YtdbmepndebdbpaaGreat
/- Plain mathematics of the index: open addressing, as functions on numbers. -/
namespace Go.Proofs.YtdbmepndebdbpaaGreat.Gm

def gAt (gs : List (Int × Int)) (s : Nat) : Int × Int := gs.getD (s - 1) (0, 0)
def upd (S : Nat → Nat) (r v : Nat) : Nat → Nat := fun i => if i = r then v else S i
def cnt (S : Nat → Nat) : Nat → Nat
  | 0 => 0
  | n + 1 => cnt S n + (if S n = 0 then 0 else 1)
/-- A free slot, or one of the gate. -/
def Hit (gs : List (Int × Int)) (S : Nat → Nat) (g : Int × Int) (r : Nat) : Prop := S r = 0 ∨ gAt gs (S r) = g
/-- The slots from h on, j of them, are taken by other gates. -/
def Path (gs : List (Int × Int)) (N : Nat) (S : Nat → Nat) (g : Int × Int) (h j : Nat) : Prop := ∀ i, i < j → S ((h + i) % N) ≠ 0 ∧ gAt gs (S ((h + i) % N)) ≠ g
def Stops (gs : List (Int × Int)) (N : Nat) (S : Nat → Nat) (g : Int × Int) (h r : Nat) : Prop := ∃ j, j < N ∧ r = (h + j) % N ∧ Path gs N S g h j ∧ Hit gs S g r
structure Tab (gs : List (Int × Int)) (hf : Int × Int → Nat) (N k : Nat) (S : Nat → Nat) : Prop where
  le : ∀ i, i < N → S i ≤ k
  few : cnt S N ≤ k
  path : ∀ s, s < N → S s ≠ 0 → ∃ j, j < N ∧ s = (hf (gAt gs (S s)) + j) % N ∧ Path gs N S (gAt gs (S s)) (hf (gAt gs (S s))) j
  has : ∀ p, p < k → ∃ s, s < N ∧ S s ≠ 0 ∧ S s - 1 ≤ p ∧ gAt gs (S s) = gs.getD p (0, 0)

theorem cnt_le (S : Nat → Nat) (n : Nat) : cnt S n ≤ n := by
  induction n with
  | zero => simp [cnt]
  | succ n ih => simp only [cnt]; split <;> omega
theorem cnt_full (S : Nat → Nat) (n : Nat) (h : ∀ i, i < n → S i ≠ 0) : cnt S n = n := by
  induction n with
  | zero => rfl
  | succ n ih =>
    simp only [cnt]
    rw [ih (fun i hi => h i (by omega)), if_neg (h n (by omega))]
theorem free (S : Nat → Nat) (n : Nat) (h : cnt S n < n) : ∃ i, i < n ∧ S i = 0 := by
  refine Classical.byContradiction fun hn => ?_
  have := cnt_full S n (fun i hi h0 => hn ⟨i, hi, h0⟩)
  omega
theorem cnt_far (S : Nat → Nat) (r v n : Nat) (h : n ≤ r) : cnt (upd S r v) n = cnt S n := by
  induction n with
  | zero => rfl
  | succ n ih => simp only [cnt]; rw [ih (by omega)]; simp [upd, show n ≠ r by omega]
theorem cnt_upd (S : Nat → Nat) (r v n : Nat) (hr : r < n) (h0 : S r = 0) (hv : v ≠ 0) : cnt (upd S r v) n = cnt S n + 1 := by
  induction n with
  | zero => omega
  | succ n ih =>
    simp only [cnt]
    by_cases e : r = n
    · subst e
      rw [cnt_far S r v r (Nat.le_refl _)]
      simp [upd, h0, hv]
    · rw [ih (by omega)]
      simp [upd, show n ≠ r by omega]
      omega
/-- From any slot on there is a free one. -/
theorem free_from (S : Nat → Nat) (n h : Nat) (hc : cnt S n < n) : ∃ j, j < n ∧ S ((h + j) % n) = 0 := by
  obtain ⟨i, hi, h0⟩ := free S n hc
  refine ⟨(i + (n - h % n)) % n, Nat.mod_lt _ (by omega), ?_⟩
  have hm : h % n < n := Nat.mod_lt _ (by omega)
  have : (h + (i + (n - h % n)) % n) % n = i := by
    rw [Nat.add_mod_mod]
    have : h + (i + (n - h % n)) = i + n * (h / n + 1) := by
      have := Nat.div_add_mod h n
      rw [Nat.mul_add]
      omega
    rw [this, Nat.add_mul_mod_self_left]
    exact Nat.mod_eq_of_lt hi
  rw [this]
  exact h0
theorem first_free (S : Nat → Nat) (n h : Nat) (hc : cnt S n < n) : ∃ j, j < n ∧ S ((h + j) % n) = 0 ∧ ∀ i, i < j → S ((h + i) % n) ≠ 0 := by
  obtain ⟨j, hj, h0⟩ := free_from S n h hc
  induction j using Nat.strongRecOn with
  | ind j ih =>
    by_cases e : ∃ i, i < j ∧ S ((h + i) % n) = 0
    · obtain ⟨i, hi, hz⟩ := e
      exact ih i hi (by omega) hz
    · exact ⟨j, hj, h0, fun i hi hz => e ⟨i, hi, hz⟩⟩

section
variable {gs : List (Int × Int)} {hf : Int × Int → Nat} {N k r : Nat} {S : Nat → Nat}
theorem Tab.zero : Tab gs hf N 0 (fun _ => 0) := by
  refine ⟨fun _ _ => Nat.le_refl _, ?_, fun _ _ h => absurd rfl h, fun _ h => by omega⟩
  have : ∀ n, cnt (fun _ => 0) n = 0 := by
    intro n
    induction n with
    | zero => rfl
    | succ n ih => simp [cnt, ih]
  rw [this]
  exact Nat.le_refl _
theorem gAt_lt {s : Nat} (h0 : s ≠ 0) (hs : s ≤ gs.length) : ∃ h : s - 1 < gs.length, gAt gs s = gs[s - 1] := by
  refine ⟨by omega, ?_⟩
  simp [gAt, List.getD_eq_getElem?_getD, List.getElem?_eq_getElem (show s - 1 < gs.length by omega)]
theorem Tab.miss (T : Tab gs hf N k S) {g : Int × Int} (hs : Stops gs N S g (hf g) r) (h0 : S r = 0) : ∀ p, p < k → gs.getD p (0, 0) ≠ g := by
  intro p hp e
  obtain ⟨s, hsN, hs0, _, hg⟩ := T.has p hp
  rw [e] at hg
  obtain ⟨j, hj, rfl, hpath, _⟩ := hs
  obtain ⟨j', hj', e', hpath'⟩ := T.path s hsN hs0
  rw [hg] at e' hpath'
  rcases Nat.lt_trichotomy j j' with h | h | h
  · exact (hpath' j h).1 h0
  · subst h
    rw [← e'] at h0
    exact hs0 h0
  · have := (hpath j' h).2
    rw [← e'] at this
    exact this hg
theorem Tab.dup (T : Tab gs hf N k S) {g : Int × Int} (hr : r < N) (hs : Hit gs S g r) (h0 : S r ≠ 0) (hk : gs.getD k (0, 0) = g) : Tab gs hf N (k + 1) S := by
  refine ⟨fun i hi => Nat.le_succ_of_le (T.le i hi), Nat.le_succ_of_le T.few, T.path, fun p hp => ?_⟩
  by_cases e : p < k
  · exact T.has p e
  · have : p = k := by omega
    subst this
    refine ⟨r, hr, h0, ?_, ?_⟩
    · have := T.le r hr
      omega
    · rw [hk]
      exact hs.resolve_left h0
theorem Path.upd {g : Int × Int} {h j v : Nat} (hp : Path gs N S g h j) (h0 : S r = 0) : Path gs N (Gm.upd S r v) g h j := by
  intro i hi
  have := hp i hi
  have hne : (h + i) % N ≠ r := fun e => this.1 (by rw [e]; exact h0)
  simp only [Gm.upd, if_neg hne]
  exact this
theorem Tab.put (T : Tab gs hf N k S) {g : Int × Int} (hr : r < N) (hs : Stops gs N S g (hf g) r) (h0 : S r = 0) (hk : gs.getD k (0, 0) = g) : Tab gs hf N (k + 1) (Gm.upd S r (k + 1)) := by
  refine ⟨fun i hi => ?_, ?_, fun s hsN hs0 => ?_, fun p hp => ?_⟩
  · have := T.le i hi
    simp only [Gm.upd]
    split <;> omega
  · rw [cnt_upd S r (k + 1) N hr h0 (by omega)]
    have := T.few
    omega
  · by_cases e : s = r
    · subst e
      have eg : gAt gs (Gm.upd S s (k + 1) s) = g := by
        rw [← hk]
        simp [Gm.upd, gAt]
      rw [eg]
      obtain ⟨j, hj, ej, hp, _⟩ := hs
      exact ⟨j, hj, ej, hp.upd h0⟩
    · have eu : Gm.upd S r (k + 1) s = S s := by simp [Gm.upd, e]
      rw [eu] at hs0 ⊢
      obtain ⟨j, hj, ej, hp⟩ := T.path s hsN hs0
      exact ⟨j, hj, ej, hp.upd h0⟩
  · by_cases e : p < k
    · obtain ⟨s, hsN, hs0, hle, hg⟩ := T.has p e
      have hne : s ≠ r := fun e' => hs0 (by rw [e']; exact h0)
      have eu : Gm.upd S r (k + 1) s = S s := by simp [Gm.upd, hne]
      rw [← eu] at hs0 hle hg
      exact ⟨s, hsN, hs0, hle, hg⟩
    · have : p = k := by omega
      subst this
      exact ⟨r, hr, by simp [Gm.upd], by simp [Gm.upd], by simp [Gm.upd, gAt]⟩
/-- What the search finds in a whole table: the place of the gate. -/
theorem Tab.find (T : Tab gs hf N gs.length S) {g : Int × Int} (hn : gs.Nodup) (hr : r < N) (hs : Stops gs N S g (hf g) r) :
    (S r = 0 ∧ gs.length ≤ gs.idxOf g) ∨ (S r ≠ 0 ∧ gs.idxOf g < gs.length ∧ S r = gs.idxOf g + 1) := by
  by_cases h0 : S r = 0
  · refine Or.inl ⟨h0, ?_⟩
    have hm := T.miss hs h0
    have : g ∉ gs := by
      intro hg
      obtain ⟨p, hp, e⟩ := List.mem_iff_getElem.1 hg
      exact hm p hp (by simp [List.getD_eq_getElem?_getD, List.getElem?_eq_getElem hp, e])
    rw [List.idxOf_eq_length this]
    exact Nat.le_refl _
  · refine Or.inr ⟨h0, ?_⟩
    obtain ⟨_, _, _, _, hh⟩ := hs
    have hg := hh.resolve_left h0
    obtain ⟨hlt, e⟩ := gAt_lt h0 (T.le r hr)
    rw [e] at hg
    have hi : gs.idxOf g = S r - 1 := by rw [← hg]; exact hn.idxOf_getElem _ hlt
    rw [hi]
    omega
end
end Go.Proofs.YtdbmepndebdbpaaGreat.Gm
/- hash and slot: the index's search. -/
namespace Go.Proofs.YtdbmepndebdbpaaGreat
open Go.RowKit

theorem bits_u32_range (a b : Int) : 0 ≤ bits .xor .u32 a b := by
  unfold bits
  simp only [IntKind.wrap_u32]
  omega

/-- The hash of a gate. -/
def hashF (g : Int × Int) : Nat := (bits .xor .u32 (g.1 % 4294967296 * 4096 % 4294967296) (g.2 % 4294967296) * 2654435769 % 4294967296 / 65536).toNat
theorem hashF_lt (g : Int × Int) : hashF g < 65536 := by unfold hashF; omega
theorem hashF_int (x y : Int) : (bits .xor .u32 (x % 4294967296 * 4096 % 4294967296) (y % 4294967296) * 2654435769 % 4294967296 / 65536) = (hashF (x, y) : Int) := by
  unfold hashF; simp only; omega

set_option maxHeartbeats 1000000 in
theorem hash_any (x y : Int) (w : World) :
    Calls Tryz.prog 86 #[.agg #[.int .i64 x, .int .i64 y]] w fun e w' => e = .returned (.int .i64 (hashF (x, y))) ∧ Below w.heap.size w w' := by
  go_enter Tryz.func86, Tryz.ntmps86
  go_wp2
  go_ret
  exact ⟨ret_int (hashF_int x y), (Below.refl _ _).alloc (Nat.le_refl _) _⟩

/-- A row of numbers in memory. -/
def Row (w : World) (sb N : Nat) (S : Nat → Nat) : Prop := ∀ i, i < N → w.cell? ⟨sb, i, none⟩ = some (.int .i64 (S i : Int))
theorem Row.below {w w' : World} {B sb N : Nat} {S : Nat → Nat} (h : Row w sb N S) (hb : Below B w w') (hs : sb < B) : Row w' sb N S :=
  fun i hi => (hb.cell (p := ⟨sb, i, none⟩) hs).trans (h i hi)

theorem and_last (h m : Nat) (hh : h < 9223372036854775808) (hm : 2 ^ m < 9223372036854775808) : bits .and .i64 (h : Int) ((2 ^ m : Nat) - 1 : Int) = ((h % 2 ^ m : Nat) : Int) := by
  have h1 : 1 ≤ 2 ^ m := Nat.one_le_two_pow
  have e : ((2 ^ m : Nat) - 1 : Int) = ((2 ^ m - 1 : Nat) : Int) := by omega
  rw [e, Gm.i64_and_nat h (2 ^ m - 1) hh (by omega), Nat.and_two_pow_sub_one_eq_mod]

theorem eq_arr2 (a b x y : Int) (w : World) : (Op.equalIn 10000 58 (.agg #[.int .i64 a, .int .i64 b]) (.agg #[.int .i64 x, .int .i64 y])).run Tryz.prog w = .ok (a == x && b == y) w := by
  have hi : Tryz.prog.info? 3 = some (Tryz.t3) := by kernel_rfl
  rw [show 10000 = 9999 + 1 from rfl, run_equalIn_array w 9999 _ _ Tryz.underlying58 hi]
  have hc : Tryz.prog.cellsOf 3 = 1 := by kernel_rfl
  rw [hc]
  simp [Op.eqItems, List.range, List.range.loop]
  go_simp
  by_cases h1 : a = x <;> by_cases h2 : b = y <;> simp [h1, h2]
theorem eqGuard2 : Tryz.prog.eqGuardType Tryz.prog.depth 58 = false := by kernel_rfl
theorem neq_arr2 (a b x y : Int) (w : World) : (binOp .neq 58 (.agg #[.int .i64 a, .int .i64 b]) (.agg #[.int .i64 x, .int .i64 y])).run Tryz.prog w = .ok (.bool (!(a == x && b == y))) w := by
  rw [run_neq_struct, eq_arr2]
  rfl
theorem eql_arr2 (a b x y : Int) (w : World) : (binOp .eql 58 (.agg #[.int .i64 a, .int .i64 b]) (.agg #[.int .i64 x, .int .i64 y])).run Tryz.prog w = .ok (.bool (a == x && b == y)) w := by
  rw [run_eql_struct, eq_arr2]
  rfl
theorem ix1 (sb N r : Nat) (_hm : N ≤ 1000000) (hr : r < N) (w : World) : (Instr.indexAt 25 (.slice (some ⟨sb, 0, none⟩) N N) (.int .i64 (r : Int))).run Tryz.prog w = .ok (.pointer (some ⟨sb, r, none⟩)) w := by go_simp
theorem ix2 (sb off N c r : Nat) (_hm : N ≤ 1000000) (hr : r < N) (w : World) : (Instr.indexAt 24 (.slice (some ⟨sb, off, none⟩) N c) (.int .i64 (r : Int))).run Tryz.prog w = .ok (.pointer (some ⟨sb, off + r * 2, none⟩)) w := by go_simp

set_option maxHeartbeats 2000000 in
theorem slot_any (ib sb m : Nat) (A : Option Addr) (c : Nat) (gs : List (Int × Int)) (S : Nat → Nat) (x y : Int) (w : World)
    (hib : ib < w.heap.size) (hsb : sb < w.heap.size) (hm : 2 ^ m ≤ 1000000) (hl : gs.length ≤ 1000000)
    (hi0 : w.cell? ⟨ib, 0, none⟩ = some (.slice A gs.length c)) (hi4 : w.cell? ⟨ib, 4, none⟩ = some (.slice (some ⟨sb, 0, none⟩) (2 ^ m) (2 ^ m)))
    (B : Nat) (hg : Gr w B A gs) (hB : B ≤ w.heap.size) (hS : Row w sb (2 ^ m) S) (hle : ∀ i, i < 2 ^ m → S i ≤ gs.length) (hc : Gm.cnt S (2 ^ m) < 2 ^ m) :
    Calls Tryz.prog 79 #[.pointer (some ⟨ib, 0, none⟩), .agg #[.int .i64 x, .int .i64 y]] w
      fun e w' => ∃ r : Nat, e = .returned (.int .i64 r) ∧ r < 2 ^ m ∧ Gm.Stops gs (2 ^ m) S (x, y) (hashF (x, y)) r ∧ Below w.heap.size w w' := by
  obtain ⟨j0, hj0, hz0, hbef⟩ := Gm.first_free S (2 ^ m) (hashF (x, y)) hc
  have hh := hashF_lt (x, y)
  have HH := Lib.hid (hash_any x y)
  generalize hashF (x, y) = h at *
  have hand := and_last h m (by omega) (by omega)
  generalize hN : 2 ^ m = N at *
  have HN := Lib.hid hN
  have Hand := Lib.hid hand
  have HZ := Lib.hid hz0
  have HB := Lib.hid hbef
  have HLE := Lib.hid hle
  clear hN hand hz0 hbef hle
  go_enter Tryz.func79, Tryz.ntmps79
  go_wp2_with (go_at_call 86; refine (HH.out _).mono ?_; rintro e w' ⟨rfl, hb⟩)
  obtain ⟨hcb, _⟩ := bcell hb
  have hbw : Below w.heap.size w w' := ((Below.refl _ _).alloc (Nat.le_refl _) _).trans (hb.mono (by simp))
  have hsz : w.heap.size < w'.heap.size := by have := hb.size; simp at this; omega
  have k0 : w'.cell? ⟨w.heap.size, 0, none⟩ = some (.int .i64 x) := by rw [hcb _ _ (by simp)]; simp
  have k1 : w'.cell? ⟨w.heap.size, 1, none⟩ = some (.int .i64 y) := by rw [hcb _ _ (by simp)]; simp
  have e0 : w'.cell? ⟨ib, 0, none⟩ = some (.slice A gs.length c) := (hbw.cell (p := ⟨ib, 0, none⟩) hib).trans hi0
  have e4 : w'.cell? ⟨ib, 4, none⟩ = some (.slice (some ⟨sb, 0, none⟩) N N) := (hbw.cell (p := ⟨ib, 4, none⟩) hib).trans hi4
  have hg' := hg.below hbw hB
  have hS' := hS.below hbw hsb
  clear hcb hb hi0 hi4 hg hS hc
  go_loopg [6] j0 (fun gk p wr => ∃ j : Nat, p = .int .i64 ((h + j) % N : Nat) ∧ j + gk = j0 ∧ Gm.Path gs N S (x, y) (h) j ∧ Below w'.heap.size w' wr)
  case atStart => exact ⟨0, by rw [Hand.out, Nat.add_zero], by omega, fun i hi => by omega, Below.refl _ _⟩
  case round =>
    obtain ⟨j, rfl, hj, hp, hbr⟩ := hrel
    have hS2 := hS'.below hbr (Nat.lt_of_lt_of_le hsb hbw.size)
    have hg2 := hg'.below hbr (Nat.le_trans hB hbw.size)
    have k0' := (hbr.cell (p := ⟨w.heap.size, 0, none⟩) hsz).trans k0
    have k1' := (hbr.cell (p := ⟨w.heap.size, 1, none⟩) hsz).trans k1
    have e0' := (hbr.cell (p := ⟨ib, 0, none⟩) (Nat.lt_of_lt_of_le hib hbw.size)).trans e0
    have e4' := (hbr.cell (p := ⟨ib, 4, none⟩) (Nat.lt_of_lt_of_le hib hbw.size)).trans e4
    clear k0 k1 e0 e4
    have hr : (h + j) % N < N := Nat.mod_lt _ (by omega)
    have hent := hS2 _ hr
    have hle := HLE.out _ hr
    have HP := Lib.hid hp
    have hnext : bits .and .i64 (((h + j) % N : Nat) + 1 : Int) ((N : Int) - 1) = ((h + (j + 1)) % N : Nat) := by
      have := and_last ((h + j) % N + 1) m (by omega) (by have := HN.out; omega)
      rw [HN.out] at this
      rw [show ((((h + j) % N : Nat) : Int) + 1) = (((h + j) % N + 1 : Nat) : Int) by omega, this, Nat.mod_add_mod, Nat.add_assoc]
    have HX := Lib.hid hnext
    clear hp hnext
    by_cases hz : S ((h + j) % N) = 0
    · have hst := Lib.hid (show Gm.Stops gs N S (x, y) (h) ((h + j) % N) from ⟨j, by omega, rfl, HP.out, Or.inl hz⟩)
      rw [hz] at hent
      generalize (h + j) % N = r at *
      have hix := ix1 sb N r hm hr
      have HR := Lib.hid hr
      clear hz hle hr hm
      have hd : ((0 : Int) != 0) = false := by simp
      go_wp2
      go_quiet (fail)
      go_wp2
      go_ret
      exact ⟨r, rfl, HR.out, hst.out, by exact below_drewN (hbw.trans (hbr.mono hbw.size)) _⟩
    · obtain ⟨e, he⟩ : ∃ e, S ((h + j) % N) = e + 1 := ⟨S ((h + j) % N) - 1, by omega⟩
      rw [he] at hent hle
      have hent2 : wr.cell? ⟨sb, (h + j) % N, none⟩ = some (.int .i64 ((e : Int) + 1)) := by rw [hent]; simp
      clear hent
      obtain ⟨b, off, hA, hbw2, g1, g2⟩ := hg2 e (by omega)
      subst hA
      have hga : Gm.gAt gs (S ((h + j) % N)) = gs[e] := by rw [he]; simp [Gm.gAt, List.getElem?_eq_getElem (show e < gs.length by omega)]
      have HGA := Lib.hid hga
      clear hga
      generalize gs[e] = g at *
      obtain ⟨a, b'⟩ := g
      simp only at g1 g2
      have hne := neq_arr2 a b' x y
      have hgu := eqGuard2
      have hix2 := ix2 b off gs.length c e hl (by omega)
      have hd : ((e : Int) + 1 != 0) = true := by simp; omega
      by_cases hgg : (a, b') = (x, y)
      · have hst := Lib.hid (show Gm.Stops gs N S (x, y) h ((h + j) % N) from ⟨j, by omega, rfl, HP.out, Or.inr (HGA.out.trans hgg)⟩)
        clear HGA
        generalize (h + j) % N = r at *
        have hix := ix1 sb N r hm hr
        have HR := Lib.hid hr
        clear hz he hr hm
        have hb : (a == x && b' == y) = true := by simp only [Prod.mk.injEq] at hgg; simp [hgg.1, hgg.2]
        rw [hb] at hne
        clear hb hgg
        go_wp2
        go_quiet (fail)
        go_wp2
        go_ret
        exact ⟨r, rfl, HR.out, hst.out, by exact below_drewN (hbw.trans (hbr.mono hbw.size)) _⟩
      · have hst := Lib.hid (show Gm.Path gs N S (x, y) h (j + 1) from fun i hi => by
          by_cases e' : i < j
          · exact HP.out i e'
          · have : i = j := by omega
            subst this
            exact ⟨hz, by rw [HGA.out]; exact hgg⟩)
        have hjj := Lib.hid (show j + 1 ≤ j0 from Nat.lt_of_le_of_ne (by omega) (fun e' => hz (by rw [e']; exact HZ.out)))
        clear HGA
        generalize (h + j) % N = r at *
        have hix := ix1 sb N r hm hr
        have HR := Lib.hid hr
        have HJ := Lib.hid hj
        have hbe : (a == x && b' == y) = false := by
          simp only [Prod.mk.injEq] at hgg
          by_cases ha : a = x
          · have : ¬ b' = y := fun hb => hgg ⟨ha, hb⟩
            simp [this]
          · simp [ha]
        rw [hbe] at hne
        clear hbe hgg hz he hr hj
        have hr : r < N := HR.out
        go_wp2
        clear hr
        go_quiet (fail)
        have hr : r < N := HR.out
        go_wp2
        go_roundg (gk - 1)
        case measure => have := hjj.out; have := HJ.out; omega
        case rel => exact ⟨j + 1, by rw [HX.out], by have := hjj.out; have := HJ.out; omega, hst.out, below_drewN hbr _⟩
end Go.Proofs.YtdbmepndebdbpaaGreat
/- math/bits.Len at numbers below 65536. -/
namespace Go.Proofs.YtdbmepndebdbpaaGreat
open Go.RowKit

set_option maxRecDepth 100000 in
set_option maxHeartbeats 4000000 in
theorem len64_any (x : Int) (w : World) (h0 : 0 ≤ x) (h1 : x ≤ 65535) :
    Calls Tryz.prog 85 #[.int .u64 x] w fun e w' => e = .returned (.int .i64 (Lib.bitLen x.toNat)) ∧ w = w' := by
  by_cases hx : x ≤ 255
  · have hl := Lib.bitLen_le8' x h0 hx
    have H := Lib.hid (Lib.len8_of x h0 hx)
    go_enter Tryz.func85, Tryz.ntmps85
    go_wp2
    all_goals (go_ret; refine ⟨congrArg Ending.returned (congrArg (Value.int IntKind.i64) ?_), rfl⟩)
    rw [H.out]
    unfold wrap64
    omega
  · have h2 : 0 ≤ x / 256 := by omega
    have h3 : x / 256 ≤ 255 := by omega
    have hl := Lib.bitLen_le8' (x / 256) h2 h3
    have H := Lib.hid (Lib.len8_of (x / 256) h2 h3)
    have e : (x / 256).toNat = x.toNat / 256 := by omega
    have s := Lib.bitLen_shift8 x.toNat (by omega) (by omega)
    rw [← e] at s
    have HS := Lib.hid s
    clear s e
    go_enter Tryz.func85, Tryz.ntmps85
    go_wp2
    all_goals (go_ret; refine ⟨congrArg Ending.returned (congrArg (Value.int IntKind.i64) ?_), rfl⟩)
    rw [H.out, HS.out]
    unfold wrap64
    omega

set_option maxRecDepth 100000 in
set_option maxHeartbeats 4000000 in
theorem len_any (x : Int) (w : World) (h0 : 0 ≤ x) (h1 : x ≤ 65535) :
    Calls Tryz.prog 78 #[.int .u64 x] w fun e w' => e = .returned (.int .i64 (Lib.bitLen x.toNat)) ∧ w = w' := by
  go_enter Tryz.func78, Tryz.ntmps78
  go_wp2_with (go_at_call 85; refine (len64_any _ _ h0 h1).mono ?_; rintro e w' ⟨rfl, rfl⟩)
  go_ret
  exact ⟨rfl, rfl⟩

theorem bitLen_lt (x : Nat) (h : x ≤ 65535) : x < 2 ^ Lib.bitLen x := by
  by_cases e : x = 0
  · subst e; exact Nat.two_pow_pos _
  · exact (Lib.bitLenAux_bounds 64 x (by omega) e).2.2
theorem bitLen_top (x : Nat) (h : x ≤ 2000) : Lib.bitLen x ≤ 11 := Lib.bitLen_le x 11 (by omega) (by omega)
end Go.Proofs.YtdbmepndebdbpaaGreat
