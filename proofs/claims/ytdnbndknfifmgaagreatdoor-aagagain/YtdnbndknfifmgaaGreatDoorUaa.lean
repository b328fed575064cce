/- Plain mathematics of package graph: what the document says of graphs, literals and And, Or, Ite, as functions on lists of pairs. -/
import Derived.WalkKit
import Derived.Test.YtdnbndknfifmgaaGreatDoorRows
import Derived.WalkSpells
import Derived.WalkLawsBesides
import Derived.BigQuiet
import Derived.Deep.QuietTactic
import Derived.Deep.RegionHeld3
import Derived.Lib.Hide
import Derived.Deep.LoopGhost
import Derived.ChangeKeysEq
import Derived.Lib.BitFns
import Derived.Lib.ItoaNum
namespace Go.Proofs.YtdnbndknfifmgaaGreatDoor.Gm

def litB (n : Int) (len : Nat) (l : Int) : Bool := decide (0 ≤ n) && decide (n ≤ 2000) && decide (0 ≤ l) && decide (l < 2 * (1 + n + len))
def gateB (n : Int) (i : Nat) (g : Int × Int) : Bool := decide (2 ≤ g.2) && decide (g.2 / 2 < g.1 / 2) && decide (g.1 / 2 < n + 1 + i)
def ordB (n : Int) : Nat → List (Int × Int) → Bool
  | _, [] => true
  | i, g :: r => gateB n i g && ordB n (i + 1) r
def fitB (n : Int) (len : Nat) : Bool := decide (0 ≤ n) && decide (n ≤ 2000) && decide (1 + n + len ≤ 2000)
def nodB (gs : List (Int × Int)) : Bool := decide gs.Nodup
def rightB (n : Int) (gs : List (Int × Int)) : Bool := fitB n gs.length && ordB n 0 gs && nodB gs
/-- A graph, a literal, an error. -/
abbrev Res := (Int × List (Int × Int)) × Int × Int
def bad (e : Int) : Res := ((0, []), 0, e)
def negB (a : Int) : Int := if a % 2 = 0 then a + 1 else a - 1
def simpleS (a b : Int) : Option Int :=
  if a = 0 ∨ b = 0 ∨ a = negB b then some 0 else if a = 1 then some b else if b = 1 ∨ a = b then some a else none
def andS (n : Int) (gs : List (Int × Int)) (a b : Int) : Res :=
  if rightB n gs = true ∧ litB n gs.length a = true ∧ litB n gs.length b = true then
    match simpleS a b with
    | some l => ((n, gs), l, 0)
    | none =>
      if gs.idxOf (max a b, min a b) < gs.length then ((n, gs), 2 * (1 + n + gs.idxOf (max a b, min a b)), 0)
      else if 1 + n + gs.length = 2000 then bad 2
      else ((n, gs ++ [(max a b, min a b)]), 2 * (1 + n + gs.length), 0)
  else bad 1
theorem ordB_snoc (n : Int) (gs : List (Int × Int)) (g : Int × Int) (i : Nat) : ordB n i (gs ++ [g]) = (ordB n i gs && gateB n (i + gs.length) g) := by
  induction gs generalizing i with
  | nil => simp [ordB]
  | cons h t ih => simp [ordB, ih, Bool.and_assoc, Nat.add_comm, Nat.add_left_comm]
theorem ordB_get (n : Int) (gs : List (Int × Int)) (i k : Nat) (h : ordB n i gs = true) (hk : k < gs.length) : gateB n (i + k) gs[k] = true := by
  induction gs generalizing i k with
  | nil => simp at hk
  | cons x t ih =>
    simp [ordB] at h
    cases k with
    | zero => simpa using h.1
    | succ k =>
      have := ih (i + 1) k h.2 (by simpa using hk)
      simpa [Nat.add_comm, Nat.add_left_comm] using this
theorem ordB_false (n : Int) (gs : List (Int × Int)) (i k : Nat) (hk : k < gs.length) (h : gateB n (i + k) gs[k] = false) : ordB n i gs = false := by
  cases hb : ordB n i gs with
  | false => rfl
  | true => rw [ordB_get n gs i k hb hk] at h; cases h
theorem ordB_take (n : Int) (gs : List (Int × Int)) (k : Nat) (hk : k < gs.length) : ordB n 0 (gs.take (k + 1)) = (ordB n 0 (gs.take k) && gateB n k gs[k]) := by
  rw [List.take_succ_eq_append_getElem hk, ordB_snoc]
  simp [Nat.min_eq_left (Nat.le_of_lt hk)]
theorem nod_take (gs : List (Int × Int)) (k : Nat) (hk : k < gs.length) : (gs.take (k + 1)).Nodup ↔ (gs.take k).Nodup ∧ gs[k] ∉ gs.take k := by
  rw [List.take_succ_eq_append_getElem hk, List.nodup_append]
  constructor
  · rintro ⟨h1, _, h3⟩
    exact ⟨h1, fun hm => h3 _ hm _ (by simp) rfl⟩
  · rintro ⟨h1, h2⟩
    refine ⟨h1, by simp, ?_⟩
    intro a ha b hb
    simp at hb
    subst hb
    intro e
    subst e
    exact h2 ha
theorem ofInt_i64 (a : Nat) (ha : a < 9223372036854775808) : (BitVec.ofInt 64 (a : Int)).toNat = a := by
  rw [BitVec.ofInt_natCast, BitVec.toNat_ofNat]; exact Nat.mod_eq_of_lt (by omega)
theorem i64_and_nat (a b : Nat) (ha : a < 9223372036854775808) (hb : b < 9223372036854775808) : bits .and .i64 (a : Int) (b : Int) = ((a &&& b : Nat) : Int) := by
  have hx : a &&& b < 2 ^ 63 := Nat.and_lt_two_pow _ (by omega)
  show IntKind.i64.wrap ((BitVec.ofInt 64 (a : Int) &&& BitVec.ofInt 64 (b : Int)).toNat : Int) = _
  rw [BitVec.toNat_and, ofInt_i64 a ha, ofInt_i64 b hb, IntKind.wrap_i64]
  omega
end Go.Proofs.YtdnbndknfifmgaaGreatDoor.Gm
/- Small functions of package graph and of the reference: variables, negated, variable, literal, Vars, Lit. -/
namespace Go.Proofs.YtdnbndknfifmgaaGreatDoor
open Go.RowKit

theorem bcell {W w1 : World} (hb : Below W.heap.size W w1) : (∀ b o, b < W.heap.size → w1.cell? ⟨b, o, none⟩ = W.cell? ⟨b, o, none⟩) ∧ (∀ b o, b < W.heap.size → w1.frozen? ⟨b, o, none⟩ = W.frozen? ⟨b, o, none⟩) :=
  ⟨fun b o h => hb.cell (p := ⟨b, o, none⟩) h, fun b o h => hb.frozen (p := ⟨b, o, none⟩) h⟩

set_option maxHeartbeats 400000 in
theorem variables_any (n : Int) (A : Option Addr) (l c : Nat) (w : World) (h0 : 0 ≤ n) (h1 : n ≤ 2000) (hl : l ≤ 1000000) :
    Calls Tryz.prog 98 #[.agg #[.int .i64 n, .slice A l c]] w fun e w' => e = .returned (.int .i64 (1 + n + l)) ∧ Below w.heap.size w w' := by
  go_enter Tryz.func98, Tryz.ntmps98
  go_wp2
  go_ret
  exact ⟨rfl, (Below.refl _ _).alloc (Nat.le_refl _) _⟩

set_option maxHeartbeats 400000 in
theorem variable_any (a : Int) (w : World) (h0 : 0 ≤ a) (h1 : a ≤ 9223372036854775807) :
    Calls Tryz.prog 109 #[.int .i64 a] w fun e w' => e = .returned (.int .i64 (a / 2)) ∧ w = w' := by
  go_enter Tryz.func109, Tryz.ntmps109
  go_wp2
  go_ret
  exact ⟨rfl, rfl⟩

set_option maxHeartbeats 1000000 in
theorem lit_any (n : Int) (A : Option Addr) (l c : Nat) (x : Int) (w : World) (hl : l ≤ 1000000) :
    Calls Tryz.prog 75 #[.agg #[.int .i64 n, .slice A l c], .int .i64 x] w fun e w' => e = .returned (.bool (Gm.litB n l x)) ∧ Below w.heap.size w w' := by
  by_cases h0 : 0 ≤ n
  · by_cases h1 : n ≤ 2000
    · by_cases h2 : 0 ≤ x
      · have e : Gm.litB n l x = decide (x < 2 * (1 + n + l)) := by simp [Gm.litB, h0, h1, h2]
        rw [e]
        clear e
        go_enter Tryz.func75, Tryz.ntmps75
        go_wp2_with (go_at_call 98; refine (variables_any _ _ _ _ _ h0 h1 hl).mono ?_; rintro e w' ⟨rfl, hb⟩)
        go_ret
        exact ⟨rfl, ((Below.refl _ _).alloc (Nat.le_refl _) _).trans (hb.mono (by simp))⟩
      · have e : Gm.litB n l x = false := by simp [Gm.litB, h2]
        rw [e]
        clear e
        go_enter Tryz.func75, Tryz.ntmps75
        go_wp2_with fail
        go_ret
        exact ⟨rfl, (Below.refl _ _).alloc (Nat.le_refl _) _⟩
    · have e : Gm.litB n l x = false := by simp [Gm.litB, h1]
      rw [e]
      clear e
      go_enter Tryz.func75, Tryz.ntmps75
      go_wp2_with fail
      go_ret
      exact ⟨rfl, (Below.refl _ _).alloc (Nat.le_refl _) _⟩
  · have e : Gm.litB n l x = false := by simp [Gm.litB, h0]
    rw [e]
    clear e
    go_enter Tryz.func75, Tryz.ntmps75
    go_wp2_with fail
    go_ret
    exact ⟨rfl, (Below.refl _ _).alloc (Nat.le_refl _) _⟩

set_option maxHeartbeats 1000000 in
theorem fits_any (n : Int) (A : Option Addr) (l c : Nat) (w : World) (hl : l ≤ 1000000) :
    Calls Tryz.prog 95 #[.agg #[.int .i64 n, .slice A l c]] w fun e w' => e = .returned (.bool (Gm.fitB n l)) ∧ Below w.heap.size w w' := by
  by_cases h0 : 0 ≤ n
  · by_cases h1 : n ≤ 2000
    · have e : Gm.fitB n l = decide (1 + n + l ≤ 2000) := by simp [Gm.fitB, h0, h1]
      rw [e]
      clear e
      go_enter Tryz.func95, Tryz.ntmps95
      go_wp2_with (go_at_call 98; refine (variables_any _ _ _ _ _ h0 h1 hl).mono ?_; rintro e w' ⟨rfl, hb⟩)
      go_ret
      exact ⟨rfl, ((Below.refl _ _).alloc (Nat.le_refl _) _).trans (hb.mono (by simp))⟩
    · have e : Gm.fitB n l = false := by simp [Gm.fitB, h1]
      rw [e]
      clear e
      go_enter Tryz.func95, Tryz.ntmps95
      go_wp2_with fail
      go_ret
      exact ⟨rfl, (Below.refl _ _).alloc (Nat.le_refl _) _⟩
  · have e : Gm.fitB n l = false := by simp [Gm.fitB, h0]
    rw [e]
    clear e
    go_enter Tryz.func95, Tryz.ntmps95
    go_wp2_with fail
    go_ret
    exact ⟨rfl, (Below.refl _ _).alloc (Nat.le_refl _) _⟩

end Go.Proofs.YtdnbndknfifmgaaGreatDoor
/- ordered, over a slice of gates in memory. -/
namespace Go.Proofs.YtdnbndknfifmgaaGreatDoor
open Go.RowKit

/-- The slice at A, which lies below block B, holds the gates gs. -/
def Gr (w : World) (B : Nat) (A : Option Addr) (gs : List (Int × Int)) : Prop :=
  ∀ k (hk : k < gs.length), ∃ b off, A = some ⟨b, off, none⟩ ∧ b < B ∧
    w.cell? ⟨b, off + k * 2, none⟩ = some (.int .i64 (gs[k]).1) ∧ w.cell? ⟨b, off + k * 2 + 1, none⟩ = some (.int .i64 (gs[k]).2)

theorem Gr.keep {w w' : World} {B : Nat} {A : Option Addr} {gs : List (Int × Int)} (h : Gr w B A gs) (hk : ∀ p : Addr, p.block < B → w'.cell? p = w.cell? p) : Gr w' B A gs := by
  intro k hlt
  obtain ⟨b, off, rfl, hb, h1, h2⟩ := h k hlt
  exact ⟨b, off, rfl, hb, (hk ⟨b, _, none⟩ hb).trans h1, (hk ⟨b, _, none⟩ hb).trans h2⟩
theorem Gr.below {w w' : World} {B C : Nat} {A : Option Addr} {gs : List (Int × Int)} (h : Gr w B A gs) (hb : Below C w w') (hB : B ≤ C) : Gr w' B A gs :=
  h.keep fun _ hp => hb.cell (Nat.lt_of_lt_of_le hp hB)
theorem Gr.more {w : World} {B C : Nat} {A : Option Addr} {gs : List (Int × Int)} (h : Gr w B A gs) (hB : B ≤ C) : Gr w C A gs := by
  intro k hlt
  obtain ⟨b, off, rfl, hb, h1, h2⟩ := h k hlt
  exact ⟨b, off, rfl, Nat.lt_of_lt_of_le hb hB, h1, h2⟩
theorem Gr.grown {w w' : World} {B : Nat} {row : Option Nat} {A : Option Addr} {gs : List (Int × Int)} (h : Gr w B A gs) (hg : w.grownBy w' row) (hB : B ≤ w.heap.size) (hr : ∀ k, row = some k → B ≤ k) : Gr w' B A gs :=
  h.keep fun p hp => World.cell?_of_block (hg.block p.block (by omega) (fun e => by have := hr _ e.symm; omega))

theorem ret_bool {a b : Bool} (h : a = b) : Ending.returned (.bool a) = .returned (.bool b) := by rw [h]
theorem ret_int {k : IntKind} {a b : Int} (h : a = b) : Ending.returned (.int k a) = .returned (.int k b) := by rw [h]
/-- The numbers of gates are ints. -/
def Wf (gs : List (Int × Int)) : Prop := ∀ g ∈ gs, (-9223372036854775808 ≤ g.1 ∧ g.1 ≤ 9223372036854775807) ∧ -9223372036854775808 ≤ g.2 ∧ g.2 ≤ 9223372036854775807

set_option maxHeartbeats 1000000 in
theorem ordered_any (n : Int) (A : Option Addr) (c : Nat) (gs : List (Int × Int)) (w : World) (h0 : 0 ≤ n) (h1 : n ≤ 2000) (hl : gs.length ≤ 1000000) (B : Nat) (hg : Gr w B A gs) (hB : B ≤ w.heap.size) (hw : Wf gs) :
    Calls Tryz.prog 96 #[.agg #[.int .i64 n, .slice A gs.length c]] w fun e w' => e = .returned (.bool (Gm.ordB n 0 gs)) ∧ Below w.heap.size w w' := by
  go_enter Tryz.func96, Tryz.ntmps96
  go_wp2
  go_loopw [3, 12] (fun o i wr => ∃ k : Nat, k ≤ gs.length ∧ o = .int .i64 (n + 1 + k) ∧ i = .int .i64 k ∧ Gm.ordB n 0 (gs.take k) = true ∧ Below w.heap.size w wr ∧ w.heap.size < wr.heap.size ∧ wr.cell? ⟨w.heap.size, 0, none⟩ = some (.int .i64 n) ∧ wr.cell? ⟨w.heap.size, 1, none⟩ = some (.slice A gs.length c)) (fun _ i _ => gs.length - (intOf i).toNat)
  case atStart => exact ⟨0, Nat.zero_le _, by simp, rfl, rfl, (Below.refl _ _).alloc (Nat.le_refl _) _, by simp, by simp, by simp⟩
  case round =>
    obtain ⟨k, hk, rfl, rfl, ho, hbl, hsz, hc0, hc1⟩ := hrel
    by_cases hlt : k < gs.length
    · obtain ⟨b, off, hA, hbw, g1, g2⟩ := (hg.below hbl hB) k hlt
      subst hA
      have hwk := hw gs[k] (by simp)
      have hot := Gm.ordB_take n gs k hlt
      have hof := fun h => Gm.ordB_false n gs 0 k hlt h
      rw [Nat.zero_add] at hof
      generalize gs[k] = g at *
      obtain ⟨x, y⟩ := g
      simp only at g1 g2 hwk
      obtain ⟨⟨hx0, hx1⟩, hy0, hy1⟩ := hwk
      rw [ho, Bool.true_and] at hot
      have H1 := Lib.hid hot
      have H2 := Lib.hid hof
      have HO := Lib.hid ho
      clear hot hof ho
      have hbn : Below w.heap.size w (wr.alloc (Obj.cells #[.int .i64 x, .int .i64 y] 57)) := hbl.alloc hbl.size _
      by_cases hx : x < 2
      · have HF : Gm.gateB n k (x, y) = false := by simp [Gm.gateB]; omega
        go_wp2
        go_ret
        exact ⟨ret_bool (H2.out HF).symm, hbn⟩
      · by_cases hy : y < 2
        · have HF : Gm.gateB n k (x, y) = false := by simp [Gm.gateB]; omega
          go_wp2
          go_ret
          exact ⟨ret_bool (H2.out HF).symm, hbn⟩
        · by_cases hxy : x / 2 ≤ y / 2
          · have HF : Gm.gateB n k (x, y) = false := by simp [Gm.gateB]; omega
            have hF := Lib.hid (H2.out HF)
            clear HF H2 H1
            go_wp2
            go_quiet ((go_at_call 109; exact Calls.quiet_of_same ((variable_any _ _ (by omega) (by omega)).mono fun _ _ ⟨a, b⟩ => ⟨a, b.symm⟩)))
            go_wp2
            go_ret
            exact ⟨ret_bool hF.out.symm, by exact below_drewN hbn _⟩
          · by_cases hn : n + 1 + k ≤ x / 2
            · have HF : Gm.gateB n k (x, y) = false := by simp [Gm.gateB]; omega
              have hF := Lib.hid (H2.out HF)
              clear HF H2 H1
              have hd : decide (x / 2 ≤ y / 2) = false := by simpa using hxy
              go_wp2
              go_quiet ((go_at_call 109; exact Calls.quiet_of_same ((variable_any _ _ (by omega) (by omega)).mono fun _ _ ⟨a, b⟩ => ⟨a, b.symm⟩)))
              go_wp2
              go_ret
              exact ⟨ret_bool hF.out.symm, by exact below_drewN hbn _⟩
            · have HF : Gm.gateB n k (x, y) = true := by simp [Gm.gateB]; omega
              have hT := Lib.hid (H1.out.trans HF)
              clear HF H2 H1
              have hd : decide (x / 2 ≤ y / 2) = false := by simpa using hxy
              have hd2 : decide (n + 1 + (k : Int) ≤ x / 2) = false := by simpa using hn
              go_wp2
              go_quiet ((go_at_call 109; exact Calls.quiet_of_same ((variable_any _ _ (by omega) (by omega)).mono fun _ _ ⟨a, b⟩ => ⟨a, b.symm⟩)))
              go_wp2
              go_roundw
              case rel => exact ⟨k + 1, by omega, by go_num, by go_num, hT.out, by exact below_drewN hbn _, by simp; omega, by exact (World.cell?_alloc_lt wr _ ⟨w.heap.size, 0, none⟩ hsz).trans hc0, by exact (World.cell?_alloc_lt wr _ ⟨w.heap.size, 1, none⟩ hsz).trans hc1⟩
              case measure => simp [intOf]; omega
    · have hkk : k = gs.length := by omega
      have HO : Hid (Gm.ordB n 0 gs = true) := by rw [hkk, List.take_length] at ho; exact ho
      clear ho hkk
      go_wp2
      go_ret
      exact ⟨ret_bool HO.out.symm, hbl⟩
end Go.Proofs.YtdnbndknfifmgaaGreatDoor
/- Plain mathematics of the index: open addressing, as functions on numbers. -/
namespace Go.Proofs.YtdnbndknfifmgaaGreatDoor.Gm

def gAt (gs : List (Int × Int)) (s : Nat) : Int × Int := gs.getD (s - 1) (0, 0)
def upd (S : Nat → Nat) (r v : Nat) : Nat → Nat := fun i => if i = r then v else S i
def cnt (S : Nat → Nat) : Nat → Nat
  | 0 => 0
  | n + 1 => cnt S n + (if S n = 0 then 0 else 1)
/-- A free slot, or one of the gate. -/
def Hit (gs : List (Int × Int)) (S : Nat → Nat) (g : Int × Int) (r : Nat) : Prop := S r = 0 ∨ gAt gs (S r) = g
/-- The slots from h on, j of them, are taken by other gates. -/
def Path (gs : List (Int × Int)) (N : Nat) (S : Nat → Nat) (g : Int × Int) (h j : Nat) : Prop := ∀ i, i < j → S ((h + i) % N) ≠ 0 ∧ gAt gs (S ((h + i) % N)) ≠ g
def Stops (gs : List (Int × Int)) (N : Nat) (S : Nat → Nat) (g : Int × Int) (h r : Nat) : Prop := ∃ j, j < N ∧ r = (h + j) % N ∧ Path gs N S g h j ∧ Hit gs S g r
structure Tab (gs : List (Int × Int)) (hf : Int × Int → Nat) (N k : Nat) (S : Nat → Nat) : Prop where
  le : ∀ i, i < N → S i ≤ k
  few : cnt S N ≤ k
  path : ∀ s, s < N → S s ≠ 0 → ∃ j, j < N ∧ s = (hf (gAt gs (S s)) + j) % N ∧ Path gs N S (gAt gs (S s)) (hf (gAt gs (S s))) j
  has : ∀ p, p < k → ∃ s, s < N ∧ S s ≠ 0 ∧ S s - 1 ≤ p ∧ gAt gs (S s) = gs.getD p (0, 0)

theorem cnt_full (S : Nat → Nat) (n : Nat) (h : ∀ i, i < n → S i ≠ 0) : cnt S n = n := by
  induction n with
  | zero => rfl
  | succ n ih =>
    simp only [cnt]
    rw [ih (fun i hi => h i (by omega)), if_neg (h n (by omega))]
theorem free (S : Nat → Nat) (n : Nat) (h : cnt S n < n) : ∃ i, i < n ∧ S i = 0 := by
  refine Classical.byContradiction fun hn => ?_
  have := cnt_full S n (fun i hi h0 => hn ⟨i, hi, h0⟩)
  omega
theorem cnt_far (S : Nat → Nat) (r v n : Nat) (h : n ≤ r) : cnt (upd S r v) n = cnt S n := by
  induction n with
  | zero => rfl
  | succ n ih => simp only [cnt]; rw [ih (by omega)]; simp [upd, show n ≠ r by omega]
theorem cnt_upd (S : Nat → Nat) (r v n : Nat) (hr : r < n) (h0 : S r = 0) (hv : v ≠ 0) : cnt (upd S r v) n = cnt S n + 1 := by
  induction n with
  | zero => omega
  | succ n ih =>
    simp only [cnt]
    by_cases e : r = n
    · subst e
      rw [cnt_far S r v r (Nat.le_refl _)]
      simp [upd, h0, hv]
    · rw [ih (by omega)]
      simp [upd, show n ≠ r by omega]
      omega
/-- From any slot on there is a free one. -/
theorem free_from (S : Nat → Nat) (n h : Nat) (hc : cnt S n < n) : ∃ j, j < n ∧ S ((h + j) % n) = 0 := by
  obtain ⟨i, hi, h0⟩ := free S n hc
  refine ⟨(i + (n - h % n)) % n, Nat.mod_lt _ (by omega), ?_⟩
  have hm : h % n < n := Nat.mod_lt _ (by omega)
  have : (h + (i + (n - h % n)) % n) % n = i := by
    rw [Nat.add_mod_mod]
    have : h + (i + (n - h % n)) = i + n * (h / n + 1) := by
      have := Nat.div_add_mod h n
      rw [Nat.mul_add]
      omega
    rw [this, Nat.add_mul_mod_self_left]
    exact Nat.mod_eq_of_lt hi
  rw [this]
  exact h0
theorem first_free (S : Nat → Nat) (n h : Nat) (hc : cnt S n < n) : ∃ j, j < n ∧ S ((h + j) % n) = 0 ∧ ∀ i, i < j → S ((h + i) % n) ≠ 0 := by
  obtain ⟨j, hj, h0⟩ := free_from S n h hc
  induction j using Nat.strongRecOn with
  | ind j ih =>
    by_cases e : ∃ i, i < j ∧ S ((h + i) % n) = 0
    · obtain ⟨i, hi, hz⟩ := e
      exact ih i hi (by omega) hz
    · exact ⟨j, hj, h0, fun i hi hz => e ⟨i, hi, hz⟩⟩

section
variable {gs : List (Int × Int)} {hf : Int × Int → Nat} {N k r : Nat} {S : Nat → Nat}
theorem Tab.zero : Tab gs hf N 0 (fun _ => 0) := by
  refine ⟨fun _ _ => Nat.le_refl _, ?_, fun _ _ h => absurd rfl h, fun _ h => by omega⟩
  have : ∀ n, cnt (fun _ => 0) n = 0 := by
    intro n
    induction n with
    | zero => rfl
    | succ n ih => simp [cnt, ih]
  rw [this]
  exact Nat.le_refl _
theorem gAt_lt {s : Nat} (h0 : s ≠ 0) (hs : s ≤ gs.length) : ∃ h : s - 1 < gs.length, gAt gs s = gs[s - 1] := by
  refine ⟨by omega, ?_⟩
  simp [gAt, List.getD_eq_getElem?_getD, List.getElem?_eq_getElem (show s - 1 < gs.length by omega)]
theorem Tab.miss (T : Tab gs hf N k S) {g : Int × Int} (hs : Stops gs N S g (hf g) r) (h0 : S r = 0) : ∀ p, p < k → gs.getD p (0, 0) ≠ g := by
  intro p hp e
  obtain ⟨s, hsN, hs0, _, hg⟩ := T.has p hp
  rw [e] at hg
  obtain ⟨j, hj, rfl, hpath, _⟩ := hs
  obtain ⟨j', hj', e', hpath'⟩ := T.path s hsN hs0
  rw [hg] at e' hpath'
  rcases Nat.lt_trichotomy j j' with h | h | h
  · exact (hpath' j h).1 h0
  · subst h
    rw [← e'] at h0
    exact hs0 h0
  · have := (hpath j' h).2
    rw [← e'] at this
    exact this hg
theorem Tab.dup (T : Tab gs hf N k S) {g : Int × Int} (hr : r < N) (hs : Hit gs S g r) (h0 : S r ≠ 0) (hk : gs.getD k (0, 0) = g) : Tab gs hf N (k + 1) S := by
  refine ⟨fun i hi => Nat.le_succ_of_le (T.le i hi), Nat.le_succ_of_le T.few, T.path, fun p hp => ?_⟩
  by_cases e : p < k
  · exact T.has p e
  · have : p = k := by omega
    subst this
    refine ⟨r, hr, h0, ?_, ?_⟩
    · have := T.le r hr
      omega
    · rw [hk]
      exact hs.resolve_left h0
theorem Path.upd {g : Int × Int} {h j v : Nat} (hp : Path gs N S g h j) (h0 : S r = 0) : Path gs N (Gm.upd S r v) g h j := by
  intro i hi
  have := hp i hi
  have hne : (h + i) % N ≠ r := fun e => this.1 (by rw [e]; exact h0)
  simp only [Gm.upd, if_neg hne]
  exact this
theorem Tab.put (T : Tab gs hf N k S) {g : Int × Int} (hr : r < N) (hs : Stops gs N S g (hf g) r) (h0 : S r = 0) (hk : gs.getD k (0, 0) = g) : Tab gs hf N (k + 1) (Gm.upd S r (k + 1)) := by
  refine ⟨fun i hi => ?_, ?_, fun s hsN hs0 => ?_, fun p hp => ?_⟩
  · have := T.le i hi
    simp only [Gm.upd]
    split <;> omega
  · rw [cnt_upd S r (k + 1) N hr h0 (by omega)]
    have := T.few
    omega
  · by_cases e : s = r
    · subst e
      have eg : gAt gs (Gm.upd S s (k + 1) s) = g := by
        rw [← hk]
        simp [Gm.upd, gAt]
      rw [eg]
      obtain ⟨j, hj, ej, hp, _⟩ := hs
      exact ⟨j, hj, ej, hp.upd h0⟩
    · have eu : Gm.upd S r (k + 1) s = S s := by simp [Gm.upd, e]
      rw [eu] at hs0 ⊢
      obtain ⟨j, hj, ej, hp⟩ := T.path s hsN hs0
      exact ⟨j, hj, ej, hp.upd h0⟩
  · by_cases e : p < k
    · obtain ⟨s, hsN, hs0, hle, hg⟩ := T.has p e
      have hne : s ≠ r := fun e' => hs0 (by rw [e']; exact h0)
      have eu : Gm.upd S r (k + 1) s = S s := by simp [Gm.upd, hne]
      rw [← eu] at hs0 hle hg
      exact ⟨s, hsN, hs0, hle, hg⟩
    · have : p = k := by omega
      subst this
      exact ⟨r, hr, by simp [Gm.upd], by simp [Gm.upd], by simp [Gm.upd, gAt]⟩
/-- What the search finds in a whole table: the place of the gate. -/
theorem Tab.find (T : Tab gs hf N gs.length S) {g : Int × Int} (hn : gs.Nodup) (hr : r < N) (hs : Stops gs N S g (hf g) r) :
    (S r = 0 ∧ gs.length ≤ gs.idxOf g) ∨ (S r ≠ 0 ∧ gs.idxOf g < gs.length ∧ S r = gs.idxOf g + 1) := by
  by_cases h0 : S r = 0
  · refine Or.inl ⟨h0, ?_⟩
    have hm := T.miss hs h0
    have : g ∉ gs := by
      intro hg
      obtain ⟨p, hp, e⟩ := List.mem_iff_getElem.1 hg
      exact hm p hp (by simp [List.getD_eq_getElem?_getD, List.getElem?_eq_getElem hp, e])
    rw [List.idxOf_eq_length this]
    exact Nat.le_refl _
  · refine Or.inr ⟨h0, ?_⟩
    obtain ⟨_, _, _, _, hh⟩ := hs
    have hg := hh.resolve_left h0
    obtain ⟨hlt, e⟩ := gAt_lt h0 (T.le r hr)
    rw [e] at hg
    have hi : gs.idxOf g = S r - 1 := by rw [← hg]; exact hn.idxOf_getElem _ hlt
    rw [hi]
    omega
end
end Go.Proofs.YtdnbndknfifmgaaGreatDoor.Gm
/- hash and slot: the index's search. -/
namespace Go.Proofs.YtdnbndknfifmgaaGreatDoor
open Go.RowKit

/-- The hash of a gate. -/
def hashF (g : Int × Int) : Nat := (bits .xor .u32 (g.1 % 4294967296 * 4096 % 4294967296) (g.2 % 4294967296) * 2654435769 % 4294967296 / 65536).toNat
theorem hashF_lt (g : Int × Int) : hashF g < 65536 := by unfold hashF; omega
theorem hashF_int (x y : Int) : (bits .xor .u32 (x % 4294967296 * 4096 % 4294967296) (y % 4294967296) * 2654435769 % 4294967296 / 65536) = (hashF (x, y) : Int) := by
  unfold hashF; simp only; omega

set_option maxHeartbeats 1000000 in
theorem hash_any (x y : Int) (w : World) :
    Calls Tryz.prog 142 #[.agg #[.int .i64 x, .int .i64 y]] w fun e w' => e = .returned (.int .i64 (hashF (x, y))) ∧ Below w.heap.size w w' := by
  go_enter Tryz.func142, Tryz.ntmps142
  go_wp2
  go_ret
  exact ⟨ret_int (hashF_int x y), (Below.refl _ _).alloc (Nat.le_refl _) _⟩

/-- A row of numbers in memory. -/
def Row (w : World) (sb N : Nat) (S : Nat → Nat) : Prop := ∀ i, i < N → w.cell? ⟨sb, i, none⟩ = some (.int .i64 (S i : Int))
theorem Row.below {w w' : World} {B sb N : Nat} {S : Nat → Nat} (h : Row w sb N S) (hb : Below B w w') (hs : sb < B) : Row w' sb N S :=
  fun i hi => (hb.cell (p := ⟨sb, i, none⟩) hs).trans (h i hi)

theorem and_last (h m : Nat) (hh : h < 9223372036854775808) (hm : 2 ^ m < 9223372036854775808) : bits .and .i64 (h : Int) ((2 ^ m : Nat) - 1 : Int) = ((h % 2 ^ m : Nat) : Int) := by
  have h1 : 1 ≤ 2 ^ m := Nat.one_le_two_pow
  have e : ((2 ^ m : Nat) - 1 : Int) = ((2 ^ m - 1 : Nat) : Int) := by omega
  rw [e, Gm.i64_and_nat h (2 ^ m - 1) hh (by omega), Nat.and_two_pow_sub_one_eq_mod]

theorem eq_arr2 (a b x y : Int) (w : World) : (Op.equalIn 10000 57 (.agg #[.int .i64 a, .int .i64 b]) (.agg #[.int .i64 x, .int .i64 y])).run Tryz.prog w = .ok (a == x && b == y) w := by
  have hi : Tryz.prog.info? 3 = some (Tryz.t3) := by kernel_rfl
  rw [show 10000 = 9999 + 1 from rfl, run_equalIn_array w 9999 _ _ Tryz.underlying57 hi]
  have hc : Tryz.prog.cellsOf 3 = 1 := by kernel_rfl
  rw [hc]
  simp [Op.eqItems, List.range, List.range.loop]
  go_simp
  by_cases h1 : a = x <;> by_cases h2 : b = y <;> simp [h1, h2]
theorem eqGuard2 : Tryz.prog.eqGuardType Tryz.prog.depth 57 = false := by kernel_rfl
theorem neq_arr2 (a b x y : Int) (w : World) : (binOp .neq 57 (.agg #[.int .i64 a, .int .i64 b]) (.agg #[.int .i64 x, .int .i64 y])).run Tryz.prog w = .ok (.bool (!(a == x && b == y))) w := by
  rw [run_neq_struct, eq_arr2]
  rfl
theorem ix1 (sb N r : Nat) (_hm : N ≤ 1000000) (hr : r < N) (w : World) : (Instr.indexAt 26 (.slice (some ⟨sb, 0, none⟩) N N) (.int .i64 (r : Int))).run Tryz.prog w = .ok (.pointer (some ⟨sb, r, none⟩)) w := by go_simp
theorem ix2 (sb off N c r : Nat) (_hm : N ≤ 1000000) (hr : r < N) (w : World) : (Instr.indexAt 25 (.slice (some ⟨sb, off, none⟩) N c) (.int .i64 (r : Int))).run Tryz.prog w = .ok (.pointer (some ⟨sb, off + r * 2, none⟩)) w := by go_simp

set_option maxHeartbeats 2000000 in
theorem slot_any (ib sb m : Nat) (A : Option Addr) (c : Nat) (gs : List (Int × Int)) (S : Nat → Nat) (x y : Int) (w : World)
    (hib : ib < w.heap.size) (hsb : sb < w.heap.size) (hm : 2 ^ m ≤ 1000000) (hl : gs.length ≤ 1000000)
    (hi0 : w.cell? ⟨ib, 0, none⟩ = some (.slice A gs.length c)) (hi4 : w.cell? ⟨ib, 4, none⟩ = some (.slice (some ⟨sb, 0, none⟩) (2 ^ m) (2 ^ m)))
    (B : Nat) (hg : Gr w B A gs) (hB : B ≤ w.heap.size) (hS : Row w sb (2 ^ m) S) (hle : ∀ i, i < 2 ^ m → S i ≤ gs.length) (hc : Gm.cnt S (2 ^ m) < 2 ^ m) :
    Calls Tryz.prog 122 #[.pointer (some ⟨ib, 0, none⟩), .agg #[.int .i64 x, .int .i64 y]] w
      fun e w' => ∃ r : Nat, e = .returned (.int .i64 r) ∧ r < 2 ^ m ∧ Gm.Stops gs (2 ^ m) S (x, y) (hashF (x, y)) r ∧ Below w.heap.size w w' := by
  obtain ⟨j0, hj0, hz0, hbef⟩ := Gm.first_free S (2 ^ m) (hashF (x, y)) hc
  have hh := hashF_lt (x, y)
  have HH := Lib.hid (hash_any x y)
  generalize hashF (x, y) = h at *
  have hand := and_last h m (by omega) (by omega)
  generalize hN : 2 ^ m = N at *
  have HN := Lib.hid hN
  have Hand := Lib.hid hand
  have HZ := Lib.hid hz0
  have HB := Lib.hid hbef
  have HLE := Lib.hid hle
  clear hN hand hz0 hbef hle
  go_enter Tryz.func122, Tryz.ntmps122
  go_wp2_with (go_at_call 142; refine (HH.out _).mono ?_; rintro e w' ⟨rfl, hb⟩)
  obtain ⟨hcb, _⟩ := bcell hb
  have hbw : Below w.heap.size w w' := ((Below.refl _ _).alloc (Nat.le_refl _) _).trans (hb.mono (by simp))
  have hsz : w.heap.size < w'.heap.size := by have := hb.size; simp at this; omega
  have k0 : w'.cell? ⟨w.heap.size, 0, none⟩ = some (.int .i64 x) := by rw [hcb _ _ (by simp)]; simp
  have k1 : w'.cell? ⟨w.heap.size, 1, none⟩ = some (.int .i64 y) := by rw [hcb _ _ (by simp)]; simp
  have e0 : w'.cell? ⟨ib, 0, none⟩ = some (.slice A gs.length c) := (hbw.cell (p := ⟨ib, 0, none⟩) hib).trans hi0
  have e4 : w'.cell? ⟨ib, 4, none⟩ = some (.slice (some ⟨sb, 0, none⟩) N N) := (hbw.cell (p := ⟨ib, 4, none⟩) hib).trans hi4
  have hg' := hg.below hbw hB
  have hS' := hS.below hbw hsb
  clear hcb hb hi0 hi4 hg hS hc
  go_loopg [6] j0 (fun gk p wr => ∃ j : Nat, p = .int .i64 ((h + j) % N : Nat) ∧ j + gk = j0 ∧ Gm.Path gs N S (x, y) (h) j ∧ Below w'.heap.size w' wr)
  case atStart => exact ⟨0, by rw [Hand.out, Nat.add_zero], by omega, fun i hi => by omega, Below.refl _ _⟩
  case round =>
    obtain ⟨j, rfl, hj, hp, hbr⟩ := hrel
    have hS2 := hS'.below hbr (Nat.lt_of_lt_of_le hsb hbw.size)
    have hg2 := hg'.below hbr (Nat.le_trans hB hbw.size)
    have k0' := (hbr.cell (p := ⟨w.heap.size, 0, none⟩) hsz).trans k0
    have k1' := (hbr.cell (p := ⟨w.heap.size, 1, none⟩) hsz).trans k1
    have e0' := (hbr.cell (p := ⟨ib, 0, none⟩) (Nat.lt_of_lt_of_le hib hbw.size)).trans e0
    have e4' := (hbr.cell (p := ⟨ib, 4, none⟩) (Nat.lt_of_lt_of_le hib hbw.size)).trans e4
    clear k0 k1 e0 e4
    have hr : (h + j) % N < N := Nat.mod_lt _ (by omega)
    have hent := hS2 _ hr
    have hle := HLE.out _ hr
    have HP := Lib.hid hp
    have hnext : bits .and .i64 (((h + j) % N : Nat) + 1 : Int) ((N : Int) - 1) = ((h + (j + 1)) % N : Nat) := by
      have := and_last ((h + j) % N + 1) m (by omega) (by have := HN.out; omega)
      rw [HN.out] at this
      rw [show ((((h + j) % N : Nat) : Int) + 1) = (((h + j) % N + 1 : Nat) : Int) by omega, this, Nat.mod_add_mod, Nat.add_assoc]
    have HX := Lib.hid hnext
    clear hp hnext
    by_cases hz : S ((h + j) % N) = 0
    · have hst := Lib.hid (show Gm.Stops gs N S (x, y) (h) ((h + j) % N) from ⟨j, by omega, rfl, HP.out, Or.inl hz⟩)
      rw [hz] at hent
      generalize (h + j) % N = r at *
      have hix := ix1 sb N r hm hr
      have HR := Lib.hid hr
      clear hz hle hr hm
      have hd : ((0 : Int) != 0) = false := by simp
      go_wp2
      go_quiet (fail)
      go_wp2
      go_ret
      exact ⟨r, rfl, HR.out, hst.out, by exact below_drewN (hbw.trans (hbr.mono hbw.size)) _⟩
    · obtain ⟨e, he⟩ : ∃ e, S ((h + j) % N) = e + 1 := ⟨S ((h + j) % N) - 1, by omega⟩
      rw [he] at hent hle
      have hent2 : wr.cell? ⟨sb, (h + j) % N, none⟩ = some (.int .i64 ((e : Int) + 1)) := by rw [hent]; simp
      clear hent
      obtain ⟨b, off, hA, hbw2, g1, g2⟩ := hg2 e (by omega)
      subst hA
      have hga : Gm.gAt gs (S ((h + j) % N)) = gs[e] := by rw [he]; simp [Gm.gAt, List.getElem?_eq_getElem (show e < gs.length by omega)]
      have HGA := Lib.hid hga
      clear hga
      generalize gs[e] = g at *
      obtain ⟨a, b'⟩ := g
      simp only at g1 g2
      have hne := neq_arr2 a b' x y
      have hgu := eqGuard2
      have hix2 := ix2 b off gs.length c e hl (by omega)
      have hd : ((e : Int) + 1 != 0) = true := by simp; omega
      by_cases hgg : (a, b') = (x, y)
      · have hst := Lib.hid (show Gm.Stops gs N S (x, y) h ((h + j) % N) from ⟨j, by omega, rfl, HP.out, Or.inr (HGA.out.trans hgg)⟩)
        clear HGA
        generalize (h + j) % N = r at *
        have hix := ix1 sb N r hm hr
        have HR := Lib.hid hr
        clear hz he hr hm
        have hb : (a == x && b' == y) = true := by simp only [Prod.mk.injEq] at hgg; simp [hgg.1, hgg.2]
        rw [hb] at hne
        clear hb hgg
        go_wp2
        go_quiet (fail)
        go_wp2
        go_ret
        exact ⟨r, rfl, HR.out, hst.out, by exact below_drewN (hbw.trans (hbr.mono hbw.size)) _⟩
      · have hst := Lib.hid (show Gm.Path gs N S (x, y) h (j + 1) from fun i hi => by
          by_cases e' : i < j
          · exact HP.out i e'
          · have : i = j := by omega
            subst this
            exact ⟨hz, by rw [HGA.out]; exact hgg⟩)
        have hjj := Lib.hid (show j + 1 ≤ j0 from Nat.lt_of_le_of_ne (by omega) (fun e' => hz (by rw [e']; exact HZ.out)))
        clear HGA
        generalize (h + j) % N = r at *
        have hix := ix1 sb N r hm hr
        have HR := Lib.hid hr
        have HJ := Lib.hid hj
        have hbe : (a == x && b' == y) = false := by
          simp only [Prod.mk.injEq] at hgg
          by_cases ha : a = x
          · have : ¬ b' = y := fun hb => hgg ⟨ha, hb⟩
            simp [this]
          · simp [ha]
        rw [hbe] at hne
        clear hbe hgg hz he hr hj
        have hr : r < N := HR.out
        go_wp2
        clear hr
        go_quiet (fail)
        have hr : r < N := HR.out
        go_wp2
        go_roundg (gk - 1)
        case measure => have := hjj.out; have := HJ.out; omega
        case rel => exact ⟨j + 1, by rw [HX.out], by have := hjj.out; have := HJ.out; omega, hst.out, below_drewN hbr _⟩
end Go.Proofs.YtdnbndknfifmgaaGreatDoor
/- math/bits.Len at numbers below 65536. -/
namespace Go.Proofs.YtdnbndknfifmgaaGreatDoor
open Go.RowKit

set_option maxRecDepth 100000 in
set_option maxHeartbeats 4000000 in
theorem len64_any (x : Int) (w : World) (h0 : 0 ≤ x) (h1 : x ≤ 65535) :
    Calls Tryz.prog 141 #[.int .u64 x] w fun e w' => e = .returned (.int .i64 (Lib.bitLen x.toNat)) ∧ w = w' := by
  by_cases hx : x ≤ 255
  · have hl := Lib.bitLen_le8' x h0 hx
    have H := Lib.hid (Lib.len8_of x h0 hx)
    go_enter Tryz.func141, Tryz.ntmps141
    go_wp2
    all_goals (go_ret; refine ⟨congrArg Ending.returned (congrArg (Value.int IntKind.i64) ?_), rfl⟩)
    rw [H.out]
    unfold wrap64
    omega
  · have h2 : 0 ≤ x / 256 := by omega
    have h3 : x / 256 ≤ 255 := by omega
    have hl := Lib.bitLen_le8' (x / 256) h2 h3
    have H := Lib.hid (Lib.len8_of (x / 256) h2 h3)
    have e : (x / 256).toNat = x.toNat / 256 := by omega
    have s := Lib.bitLen_shift8 x.toNat (by omega) (by omega)
    rw [← e] at s
    have HS := Lib.hid s
    clear s e
    go_enter Tryz.func141, Tryz.ntmps141
    go_wp2
    all_goals (go_ret; refine ⟨congrArg Ending.returned (congrArg (Value.int IntKind.i64) ?_), rfl⟩)
    rw [H.out, HS.out]
    unfold wrap64
    omega

set_option maxRecDepth 100000 in
set_option maxHeartbeats 4000000 in
theorem len_any (x : Int) (w : World) (h0 : 0 ≤ x) (h1 : x ≤ 65535) :
    Calls Tryz.prog 121 #[.int .u64 x] w fun e w' => e = .returned (.int .i64 (Lib.bitLen x.toNat)) ∧ w = w' := by
  go_enter Tryz.func121, Tryz.ntmps121
  go_wp2_with (go_at_call 141; refine (len64_any _ _ h0 h1).mono ?_; rintro e w' ⟨rfl, rfl⟩)
  go_ret
  exact ⟨rfl, rfl⟩

theorem bitLen_lt (x : Nat) (h : x ≤ 65535) : x < 2 ^ Lib.bitLen x := by
  by_cases e : x = 0
  · subst e; exact Nat.two_pow_pos _
  · exact (Lib.bitLenAux_bounds 64 x (by omega) e).2.2
theorem bitLen_top (x : Nat) (h : x ≤ 2000) : Lib.bitLen x ≤ 11 := Lib.bitLen_le x 11 (by omega) (by omega)
end Go.Proofs.YtdnbndknfifmgaaGreatDoor
/- build: the index is made. -/
namespace Go.Proofs.YtdnbndknfifmgaaGreatDoor
open Go.RowKit

/-- Block g is just the cells cs of type t, none frozen. -/
def Blk (w : World) (g : Nat) (t : TypeId) (cs : Array Value) : Prop := w.heap[g]? = some (.cells cs t (0, 0))
section
variable {w w' : World} {g : Nat} {t : TypeId} {cs : Array Value}
theorem Blk.lt (h : Blk w g t cs) : g < w.heap.size := by
  apply Classical.byContradiction
  intro hn
  unfold Blk at h
  rw [Array.getElem?_eq_none (by omega)] at h
  cases h
theorem Blk.cell (h : Blk w g t cs) (i : Nat) : w.cell? ⟨g, i, none⟩ = cs[i]? := cell_of_row w g i cs t (0, 0) h
theorem Blk.frozen (h : Blk w g t cs) (i : Nat) : w.frozen? ⟨g, i, none⟩ = false := by
  unfold Blk at h
  simp [World.frozen?, h]
theorem Blk.new (w : World) (t : TypeId) (cs : Array Value) : Blk (w.alloc (.cells cs t)) w.heap.size t cs := heap_alloc_new w _
theorem Blk.keep (h : Blk w g t cs) (hk : w'.heap[g]? = w.heap[g]?) : Blk w' g t cs := hk.trans h
theorem Blk.drewN (h : Blk w g t cs) (n : Nat) : Blk (w.drewN n) g t cs := h
theorem Blk.alloc (h : Blk w g t cs) (o : Obj) : Blk (w.alloc o) g t cs := h.keep (Below.heap_alloc w o g h.lt)
theorem Blk.put (h : Blk w g t cs) (i : Nat) (u : Value) : Blk (w.setCell ⟨g, i, none⟩ u) g t (cs.setIfInBounds i u) := by
  unfold Blk at h ⊢
  simp [World.setCell, Array.getElem?_modify, h]
theorem Blk.far (h : Blk w g t cs) {p : Addr} (hp : g ≠ p.block) (u : Value) : Blk (w.setCell p u) g t cs := h.keep (Below.heap_setCell w p u g hp)
theorem Blk.below {B : Nat} (h : Blk w g t cs) (hb : Below B w w') (hg : g < B) : Blk w' g t cs := h.keep (hb.block g hg)
theorem Blk.grown {row : Option Nat} (h : Blk w g t cs) (hb : w.grownBy w' row) (hg : some g ≠ row) : Blk w' g t cs := h.keep (hb.block g h.lt hg)
end

def zeros (N : Nat) : Array Value := Array.replicate N (.int .i64 0)
theorem made_zeros (N : Nat) : madeCells (Value.int .i64 0).cells N = zeros N := by
  unfold madeCells zeros
  apply Array.ext
  · simp
  · intro i h1 h2
    simp [Value.cells, Nat.mod_one]
theorem zeros_get (N i : Nat) (h : i < N) : (zeros N)[i]? = some (.int .i64 ((0 : Nat) : Int)) := by simp [zeros, h]
theorem make_ints (N : Nat) (hN : N ≤ 1000000) (w : World) : (Instr.makeSlice 26 (.int .i64 (N : Int)) (.int .i64 (N : Int))).run Tryz.prog w = .ok (.slice (some ⟨w.heap.size, 0, none⟩) N N) (w.alloc (.cells (zeros N) 3)) := by
  have hb : (Tryz.t3).bytes = 8 := by kernel_rfl
  have hs : (Tryz.t3).size = 1 := by kernel_rfl
  have := run_make (P := Tryz.prog) w 26 3 Tryz.t3 (.int .i64 0) Tryz.underlying26 (by kernel_rfl) (by kernel_rfl) .i64 .i64 N N (by omega) (by omega) (by rw [hb]; omega) (by omega)
  rw [hs, Nat.mul_one, Int.toNat_natCast, made_zeros] at this
  exact this
theorem shl_two (b : Nat) (hb : b ≤ 11) : wrap64 (2 * 2 ^ min b 64) = ((2 ^ (b + 1) : Nat) : Int) := by
  rw [Nat.min_eq_left (by omega)]
  have h1 : 2 ^ b ≤ 2 ^ 11 := Nat.pow_le_pow_right (by omega) hb
  have h2 : ((2 ^ b : Nat) : Int) = 2 ^ b := by simp
  rw [Nat.pow_succ]
  unfold wrap64
  omega

/-- The index at ib is built over the gates gs. -/
def Built (w' : World) (ib lo : Nat) (A : Option Addr) (c : Nat) (gs : List (Int × Int)) (d st se : Value) : Prop :=
  ∃ (sb m : Nat) (S : Nat → Nat), Blk w' ib 125 #[.slice A gs.length c, d, st, se, .slice (some ⟨sb, 0, none⟩) (2 ^ m) (2 ^ m), .bool (!Gm.nodB gs)] ∧
    lo ≤ sb ∧ sb < w'.heap.size ∧ Row w' sb (2 ^ m) S ∧ Gm.Tab gs hashF (2 ^ m) gs.length S ∧ 2 ^ m ≤ 1000000 ∧ gs.length < 2 ^ m
/-- What holds when k gates have been put in. -/
def BInv (w wr : World) (ib : Nat) (A : Option Addr) (c : Nat) (gs : List (Int × Int)) (d st se : Value) (N k : Nat) (S : Nat → Nat) : Prop :=
  Blk wr ib 125 #[.slice A gs.length c, d, st, se, .slice (some ⟨w.heap.size, 0, none⟩) N N, .bool (!Gm.nodB (gs.take k))] ∧
  (∃ cs, Blk wr w.heap.size 3 cs ∧ ∀ i, i < N → cs[i]? = some (.int .i64 (S i : Int))) ∧ Gm.Tab gs hashF N k S ∧ w.grownBy wr (some ib)
theorem grown_alloc {a w : World} {row : Option Nat} (h : a.grownBy w row) (o : Obj) : a.grownBy (w.alloc o) row :=
  ⟨h.os, h.tape, h.output, Nat.le_trans h.size (by simp), fun i hi hne => (Below.heap_alloc w o i (Nat.lt_of_lt_of_le hi h.size)).trans (h.block i hi hne)⟩
theorem grown_set {a w : World} {g : Nat} (h : a.grownBy w (some g)) {p : Addr} (hp : p.block = g ∨ a.heap.size ≤ p.block) (u : Value) : a.grownBy (w.setCell p u) (some g) :=
  ⟨h.os, h.tape, h.output, by simpa [World.setCell] using h.size, fun i hi hne => (Below.heap_setCell w p u i (by
    rintro rfl
    rcases hp with hp | hp
    · exact hne (by rw [hp])
    · omega)).trans (h.block i hi hne)⟩
theorem grown_below {a w w' : World} {row : Option Nat} (h : a.grownBy w row) (hb : Below w.heap.size w w') : a.grownBy w' row :=
  ⟨hb.os.trans h.os, hb.tape.trans h.tape, hb.output.trans h.output, Nat.le_trans h.size hb.size, fun i hi hn => (hb.block i (Nat.lt_of_lt_of_le hi h.size)).trans (h.block i hi hn)⟩
theorem BInv.start {w : World} {ib : Nat} {A : Option Addr} {c : Nat} {gs : List (Int × Int)} {d st se sv : Value} {N : Nat}
    (hix : Blk w ib 125 #[.slice A gs.length c, d, st, se, sv, .bool false]) :
    BInv w ((w.setCell ⟨ib, 4, none⟩ (.slice (some ⟨w.heap.size, 0, none⟩) N N)).alloc (.cells (zeros N) 3)) ib A c gs d st se N 0 (fun _ => 0) := by
  refine ⟨?_, ⟨zeros N, ?_, fun i hi => zeros_get N i hi⟩, Gm.Tab.zero, ?_⟩
  · exact (hix.put 4 _).alloc _
  · have := Blk.new (w.setCell ⟨ib, 4, none⟩ (.slice (some ⟨w.heap.size, 0, none⟩) N N)) 3 (zeros N)
    simpa using this
  · exact grown_alloc (grown_set (World.grownBy.refl w _) (Or.inl rfl) _) _
theorem BInv.dup {w wr w2 : World} {ib : Nat} {A : Option Addr} {c : Nat} {gs : List (Int × Int)} {d st se : Value} {N k r : Nat} {S : Nat → Nat} {g : Int × Int} (h : BInv w wr ib A c gs d st se N k S) (hib : ib < w.heap.size) (hk : k < gs.length) (hg : gs[k] = g)
    (hb : Below wr.heap.size wr w2) (hr : r < N) (hs : Gm.Stops gs N S g (hashF g) r) (h0 : S r ≠ 0) : BInv w (w2.setCell ⟨ib, 5, none⟩ (.bool true)) ib A c gs d st se N (k + 1) S := by
  obtain ⟨h1, ⟨cs, h2, h3⟩, h4, h5⟩ := h
  have hgd : gs.getD k (0, 0) = g := by rw [← hg]; simp [List.getElem?_eq_getElem hk]
  have hh := hs
  obtain ⟨_, _, _, _, hit⟩ := hh
  refine ⟨?_, ⟨cs, ?_, h3⟩, h4.dup hr hit h0 hgd, ?_⟩
  · have e : (!Gm.nodB (gs.take (k + 1))) = true := by
      have hin : gs[k] ∈ gs.take k := by
        obtain ⟨hlt, e⟩ := Gm.gAt_lt (gs := gs) h0 (Nat.le_trans (h4.le r hr) (Nat.le_of_lt hk))
        have hle := h4.le r hr
        have hgg := hit.resolve_left h0
        rw [e, ← hg] at hgg
        rw [← hgg]
        exact List.mem_take_iff_getElem.2 ⟨S r - 1, by omega, rfl⟩
      have : ¬ (gs.take (k + 1)).Nodup := fun hn => ((Gm.nod_take gs k hk).1 hn).2 hin
      simp [Gm.nodB, this]
    rw [e]
    exact (h1.below hb h1.lt).put 5 _
  · exact (h2.below hb h2.lt).far (by simp; omega) _
  · exact grown_set (grown_below h5 hb) (Or.inl rfl) _
theorem BInv.put {w wr w2 : World} {ib : Nat} {A : Option Addr} {c : Nat} {gs : List (Int × Int)} {d st se : Value} {N k r : Nat} {S : Nat → Nat} {g : Int × Int} (h : BInv w wr ib A c gs d st se N k S) (hib : ib < w.heap.size) (hk : k < gs.length) (hg : gs[k] = g)
    (hb : Below wr.heap.size wr w2) (hr : r < N) (hs : Gm.Stops gs N S g (hashF g) r) (h0 : S r = 0) : BInv w (w2.setCell ⟨w.heap.size, r, none⟩ (.int .i64 ((k : Int) + 1))) ib A c gs d st se N (k + 1) (Gm.upd S r (k + 1)) := by
  obtain ⟨h1, ⟨cs, h2, h3⟩, h4, h5⟩ := h
  have hgd : gs.getD k (0, 0) = g := by rw [← hg]; simp [List.getElem?_eq_getElem hk]
  refine ⟨?_, ⟨_, (h2.below hb h2.lt).put r _, fun i hi => ?_⟩, h4.put hr hs h0 hgd, ?_⟩
  · have e : Gm.nodB (gs.take (k + 1)) = Gm.nodB (gs.take k) := by
      have hnot : gs[k] ∉ gs.take k := by
        intro hin
        obtain ⟨p, hp, e⟩ := List.mem_take_iff_getElem.1 hin
        refine h4.miss hs h0 p (by omega) ?_
        rw [← hg, ← e]
        simp [List.getElem?_eq_getElem (show p < gs.length by omega)]
      have := Gm.nod_take gs k hk
      simp [Gm.nodB, this, hnot]
    rw [e]
    exact (h1.below hb h1.lt).far (by simp; omega) _
  · rw [Array.getElem?_setIfInBounds]
    by_cases e : r = i
    · subst e
      have : r < cs.size := by
        have := h3 r hr
        apply Classical.byContradiction
        intro hn
        rw [Array.getElem?_eq_none (by omega)] at this
        cases this
      simp [this, Gm.upd]
    · rw [if_neg e, h3 i hi]
      simp [Gm.upd, show ¬ i = r from fun e' => e e'.symm]
  · exact grown_set (grown_below h5 hb) (Or.inr (Nat.le_refl _)) _

set_option maxRecDepth 100000 in
set_option maxHeartbeats 2000000 in
theorem build_any (ib : Nat) (A : Option Addr) (c : Nat) (gs : List (Int × Int)) (d st se sv : Value) (w : World) (B : Nat)
    (hl : gs.length ≤ 2000) (hix : Blk w ib 125 #[.slice A gs.length c, d, st, se, sv, .bool false]) (hg : Gr w B A gs) (hB : B ≤ ib) :
    Calls Tryz.prog 111 #[.pointer (some ⟨ib, 0, none⟩)] w
      fun e w' => e = .returned (.tuple #[]) ∧ Built w' ib w.heap.size A c gs d st se ∧ w.grownBy w' (some ib) := by
  have hib := hix.lt
  have c0 := hix.cell 0
  have c4 := hix.cell 4
  have f4 := hix.frozen 4
  simp only [List.getElem?_toArray, List.getElem?_cons_zero, List.getElem?_cons_succ] at c0 c4
  have hbl := bitLen_lt gs.length (by omega)
  have hbt := bitLen_top gs.length hl
  have hsh := shl_two _ hbt
  have hp1 : 2 ^ (Lib.bitLen gs.length + 1) ≤ 2 ^ 12 := Nat.pow_le_pow_right (by omega) (by omega)
  have hp2 : gs.length < 2 ^ (Lib.bitLen gs.length + 1) := by rw [Nat.pow_succ]; omega
  generalize hN : 2 ^ (Lib.bitLen gs.length + 1) = N at *
  have HN := Lib.hid hN
  have hmk := make_ints N (by omega)
  clear hN hbl hbt
  go_enter Tryz.func111, Tryz.ntmps111
  go_wp2_with (go_at_call 121; refine (len_any _ _ (by omega) (by omega)).mono ?_; rintro e w' ⟨rfl, rfl⟩)
  have hst := BInv.start (N := N) hix
  have HST := Lib.hid hst
  clear hst hsh hmk c0 c4 f4
  go_loopw [22] (fun i wr => ∃ (k : Nat) (S : Nat → Nat), k ≤ gs.length ∧ i = .int .i64 (k : Int) ∧ BInv w wr ib A c gs d st se N k S) (fun i _ => gs.length - (intOf i).toNat)
  case atStart => exact ⟨0, _, Nat.zero_le _, rfl, HST.out⟩
  case round =>
    obtain ⟨k, S, hk, rfl, hinv⟩ := hrel
    have hinv' := hinv
    obtain ⟨h1, ⟨cs, h2, h3⟩, h4, h5⟩ := hinv'
    by_cases hlt : k < gs.length
    · obtain ⟨b, off, hA, hbB, g1, g2⟩ := (hg.grown h5 (by omega) (fun _ e => by injection e with e; omega)) k hlt
      subst hA
      generalize hgk : gs[k] = g at *
      obtain ⟨x, y⟩ := g
      simp only at g1 g2
      have HGK := Lib.hid hgk
      have hwr : w.heap.size < wr.heap.size := h2.lt
      have hsl := slot_any ib w.heap.size (Lib.bitLen gs.length + 1) (some ⟨b, off, none⟩) c gs S x y (wr.alloc (Obj.cells #[.int .i64 x, .int .i64 y] 57)) (by simp; omega) (by simp; omega)
        (by rw [HN.out]; omega) (by omega) (by rw [(h1.alloc _).cell 0]; rfl) (by rw [(h1.alloc _).cell 4, HN.out]; rfl) B ((hg.grown h5 (by omega) (fun _ e => by injection e with e; omega)).keep (fun p hp => World.cell?_alloc_lt wr _ p (by omega))) (by simp; omega)
        (by rw [HN.out]; exact fun i hi => by rw [(h2.alloc _).cell i]; exact h3 i hi) (by rw [HN.out]; exact fun i hi => Nat.le_trans (h4.le i hi) hk) (by rw [HN.out]; exact Nat.lt_of_le_of_lt h4.few (by omega))
      rw [HN.out] at hsl
      have HSL := Lib.hid hsl
      have HI := Lib.hid hinv
      have H3 := Lib.hid h3
      clear hsl hgk hinv h3
      go_wp2_with fail
      refine HSL.out.mono ?_
      rintro e w2 ⟨r, rfl, hr, hs, hb⟩
      have hbw : Below wr.heap.size wr w2 := ((Below.refl _ _).alloc (Nat.le_refl _) _).trans (hb.mono (by simp))
      have b1 := h1.below hbw h1.lt
      have b2 := h2.below hbw h2.lt
      have c4 := b1.cell 4
      have c5 := b1.cell 5
      have f5 := b1.frozen 5
      have cr := (b2.cell r).trans (H3.out r hr)
      have fr := b2.frozen r
      simp only [List.getElem?_toArray, List.getElem?_cons_zero, List.getElem?_cons_succ] at c4 c5
      have hix1 := ix1 w.heap.size N r (by omega) hr
      have HS := Lib.hid hs
      have HR := Lib.hid hr
      clear hs hb hr
      by_cases hz : S r = 0
      · have HP := Lib.hid (HI.out.put hib hlt HGK.out hbw HR.out HS.out hz)
        rw [hz] at cr
        have cr0 : w2.cell? ⟨w.heap.size, r, none⟩ = some (.int .i64 0) := cr
        clear cr hz
        have hd : ((0 : Int) != 0) = false := by simp
        go_wp2
        go_roundw
        case rel => exact ⟨k + 1, _, by omega, by go_num, HP.out⟩
        case measure => simp [intOf]; omega
      · have HP := Lib.hid (HI.out.dup hib hlt HGK.out hbw HR.out HS.out hz)
        have hd : ((S r : Int) != 0) = true := by simp; omega
        clear hz
        go_wp2
        go_roundw
        case rel => exact ⟨k + 1, _, by omega, by go_num, HP.out⟩
        case measure => simp [intOf]; omega
    · have hkk : k = gs.length := by omega
      subst hkk
      rw [List.take_length] at h1
      have HB := Lib.hid (show Built wr ib w.heap.size A c gs d st se from ⟨w.heap.size, Lib.bitLen gs.length + 1, S, by rw [HN.out]; exact h1, Nat.le_refl _, h2.lt, by rw [HN.out]; exact fun i hi => by rw [h2.cell i]; exact h3 i hi, by rw [HN.out]; exact h4, by rw [HN.out]; omega, by rw [HN.out]; exact hp2⟩)
      clear hinv h3
      go_wp2
      go_end0
      exact ⟨rfl, HB.out, h5⟩
end Go.Proofs.YtdnbndknfifmgaaGreatDoor
