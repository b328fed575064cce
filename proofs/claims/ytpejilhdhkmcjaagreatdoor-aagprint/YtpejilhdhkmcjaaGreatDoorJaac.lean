/- Plain mathematics of the index: open addressing, as functions on numbers. -/
import Derived.Test.YtpejilhdhkmcjaaGreatDoorJaAl
import Derived.Test.YtpejilhdhkmcjaaGreatDoorJaaa
namespace Go.Proofs.YtpejilhdhkmcjaaGreatDoor.Gm

def gAt (gs : List (Int × Int)) (s : Nat) : Int × Int := gs.getD (s - 1) (0, 0)
def upd (S : Nat → Nat) (r v : Nat) : Nat → Nat := fun i => if i = r then v else S i
def cnt (S : Nat → Nat) : Nat → Nat
 | 0 => 0
 | n + 1 => cnt S n + (if S n = 0 then 0 else 1)
/-- A free slot, or one of the gate. -/
def Hit (gs : List (Int × Int)) (S : Nat → Nat) (g : Int × Int) (r : Nat) : Prop := S r = 0 ∨ gAt gs (S r) = g
/-- The slots from h on, j of them, are taken by other gates. -/
def Path (gs : List (Int × Int)) (N : Nat) (S : Nat → Nat) (g : Int × Int) (h j : Nat) : Prop := ∀ i, i < j → S ((h + i) % N) ≠ 0 ∧ gAt gs (S ((h + i) % N)) ≠ g
def Stops (gs : List (Int × Int)) (N : Nat) (S : Nat → Nat) (g : Int × Int) (h r : Nat) : Prop := ∃ j, j < N ∧ r = (h + j) % N ∧ Path gs N S g h j ∧ Hit gs S g r
structure Tab (gs : List (Int × Int)) (hf : Int × Int → Nat) (N k : Nat) (S : Nat → Nat) : Prop where
 le : ∀ i, i < N → S i ≤ k
 few : cnt S N ≤ k
 path : ∀ s, s < N → S s ≠ 0 → ∃ j, j < N ∧ s = (hf (gAt gs (S s)) + j) % N ∧ Path gs N S (gAt gs (S s)) (hf (gAt gs (S s))) j
 has : ∀ p, p < k → ∃ s, s < N ∧ S s ≠ 0 ∧ S s - 1 ≤ p ∧ gAt gs (S s) = gs.getD p (0, 0)

theorem cnt_full (S : Nat → Nat) (n : Nat) (h : ∀ i, i < n → S i ≠ 0) : cnt S n = n := by
 induction n with
 | zero => rfl
 | succ n ih =>
  simp only [cnt]
  rw [ih (fun i hi => h i (by omega)), if_neg (h n (by omega))]
theorem free (S : Nat → Nat) (n : Nat) (h : cnt S n < n) : ∃ i, i < n ∧ S i = 0 := by
 refine Classical.byContradiction fun hn => ?_
 have := cnt_full S n (fun i hi h0 => hn ⟨i, hi, h0⟩)
 omega
theorem cnt_far (S : Nat → Nat) (r v n : Nat) (h : n ≤ r) : cnt (upd S r v) n = cnt S n := by
 induction n with
 | zero => rfl
 | succ n ih => simp only [cnt]; rw [ih (by omega)]; simp [upd, show n ≠ r by omega]
theorem cnt_upd (S : Nat → Nat) (r v n : Nat) (hr : r < n) (h0 : S r = 0) (hv : v ≠ 0) : cnt (upd S r v) n = cnt S n + 1 := by
 induction n with
 | zero => omega
 | succ n ih =>
  simp only [cnt]
  by_cases e : r = n
  ·
   subst e
   rw [cnt_far S r v r (Nat.le_refl _)]
   simp [upd, h0, hv]
  rw [ih (by omega)]
  simp [upd, show n ≠ r by omega]
  omega
/-- From any slot on there is a free one. -/
theorem free_from (S : Nat → Nat) (n h : Nat) (hc : cnt S n < n) : ∃ j, j < n ∧ S ((h + j) % n) = 0 := by
 obtain ⟨i, hi, h0⟩ := free S n hc
 refine ⟨(i + (n - h % n)) % n, Nat.mod_lt _ (by omega), ?_⟩
 have hm : h % n < n := Nat.mod_lt _ (by omega)
 have : (h + (i + (n - h % n)) % n) % n = i := by
  rw [Nat.add_mod_mod]
  have : h + (i + (n - h % n)) = i + n * (h / n + 1) := by
   have := Nat.div_add_mod h n
   rw [Nat.mul_add]
   omega
  rw [this, Nat.add_mul_mod_self_left]
  exact Nat.mod_eq_of_lt hi
 rw [this]
 exact h0
theorem first_free (S : Nat → Nat) (n h : Nat) (hc : cnt S n < n) : ∃ j, j < n ∧ S ((h + j) % n) = 0 ∧ ∀ i, i < j → S ((h + i) % n) ≠ 0 := by
 obtain ⟨j, hj, h0⟩ := free_from S n h hc
 induction j using Nat.strongRecOn with
 | ind j ih =>
  by_cases e : ∃ i, i < j ∧ S ((h + i) % n) = 0
  ·
   obtain ⟨i, hi, hz⟩ := e
   exact ih i hi (by omega) hz
  exact ⟨j, hj, h0, fun i hi hz => e ⟨i, hi, hz⟩⟩

section
variable {gs : List (Int × Int)} {hf : Int × Int → Nat} {N k r : Nat} {S : Nat → Nat}
theorem Tab.zero : Tab gs hf N 0 (fun _ => 0) := by
 refine ⟨fun _ _ => Nat.le_refl _, ?_, fun _ _ h => absurd rfl h, fun _ h => by omega⟩
 have : ∀ n, cnt (fun _ => 0) n = 0 := by
  intro n
  induction n with
  | zero => rfl
  | succ n ih => simp [cnt, ih]
 rw [this]
 exact Nat.le_refl _
theorem gAt_lt {s : Nat} (h0 : s ≠ 0) (hs : s ≤ gs.length) : ∃ h : s - 1 < gs.length, gAt gs s = gs[s - 1] := by
 refine ⟨by omega, ?_⟩
 simp [gAt, List.getD_eq_getElem?_getD, List.getElem?_eq_getElem (show s - 1 < gs.length by omega)]
theorem Tab.miss (T : Tab gs hf N k S) {g : Int × Int} (hs : Stops gs N S g (hf g) r) (h0 : S r = 0) : ∀ p, p < k → gs.getD p (0, 0) ≠ g := by
 intro p hp e
 obtain ⟨s, hsN, hs0, _, hg⟩ := T.has p hp
 rw [e] at hg
 obtain ⟨j, hj, rfl, hpath, _⟩ := hs
 obtain ⟨j', hj', e', hpath'⟩ := T.path s hsN hs0
 rw [hg] at e' hpath'
 rcases Nat.lt_trichotomy j j' with h | h | h
 ·
  exact (hpath' j h).1 h0
 ·
  subst h
  rw [← e'] at h0
  exact hs0 h0
 have := (hpath j' h).2
 rw [← e'] at this
 exact this hg
theorem Tab.dup (T : Tab gs hf N k S) {g : Int × Int} (hr : r < N) (hs : Hit gs S g r) (h0 : S r ≠ 0) (hk : gs.getD k (0, 0) = g) : Tab gs hf N (k + 1) S := by
 refine ⟨fun i hi => Nat.le_succ_of_le (T.le i hi), Nat.le_succ_of_le T.few, T.path, fun p hp => ?_⟩
 by_cases e : p < k
 ·
  exact T.has p e
 have : p = k := by omega
 subst this
 refine ⟨r, hr, h0, ?_, ?_⟩
 ·
  have := T.le r hr
  omega
 rw [hk]
 exact hs.resolve_left h0
theorem Path.upd {g : Int × Int} {h j v : Nat} (hp : Path gs N S g h j) (h0 : S r = 0) : Path gs N (Gm.upd S r v) g h j := by
 intro i hi
 have := hp i hi
 have hne : (h + i) % N ≠ r := fun e => this.1 (by rw [e]; exact h0)
 simp only [Gm.upd, if_neg hne]
 exact this
theorem Tab.put (T : Tab gs hf N k S) {g : Int × Int} (hr : r < N) (hs : Stops gs N S g (hf g) r) (h0 : S r = 0) (hk : gs.getD k (0, 0) = g) : Tab gs hf N (k + 1) (Gm.upd S r (k + 1)) := by
 refine ⟨fun i hi => ?_, ?_, fun s hsN hs0 => ?_, fun p hp => ?_⟩
 ·
  have := T.le i hi
  simp only [Gm.upd]
  split <;> omega
 ·
  rw [cnt_upd S r (k + 1) N hr h0 (by omega)]
  have := T.few
  omega
 ·
  by_cases e : s = r
  ·
   subst e
   have eg : gAt gs (Gm.upd S s (k + 1) s) = g := by
    rw [← hk]
    simp [Gm.upd, gAt]
   rw [eg]
   obtain ⟨j, hj, ej, hp, _⟩ := hs
   exact ⟨j, hj, ej, hp.upd h0⟩
  have eu : Gm.upd S r (k + 1) s = S s := by simp [Gm.upd, e]
  rw [eu] at hs0 ⊢
  obtain ⟨j, hj, ej, hp⟩ := T.path s hsN hs0
  exact ⟨j, hj, ej, hp.upd h0⟩
 by_cases e : p < k
 ·
  obtain ⟨s, hsN, hs0, hle, hg⟩ := T.has p e
  have hne : s ≠ r := fun e' => hs0 (by rw [e']; exact h0)
  have eu : Gm.upd S r (k + 1) s = S s := by simp [Gm.upd, hne]
  rw [← eu] at hs0 hle hg
  exact ⟨s, hsN, hs0, hle, hg⟩
 have : p = k := by omega
 subst this
 exact ⟨r, hr, by simp [Gm.upd], by simp [Gm.upd], by simp [Gm.upd, gAt]⟩
end
end Go.Proofs.YtpejilhdhkmcjaaGreatDoor.Gm
