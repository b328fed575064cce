/- Tokens: the mathematics. -/
import Derived.Test.YtnkondmpekbblaaDoorRows
namespace Go.Proofs.YtnkondmpekbblaaDoor
namespace Tk
abbrev Bs := List UInt8
def blankB (b : UInt8) : Bool := decide (b.toNat = 32 ∨ b.toNat = 9 ∨ b.toNat = 10)
def plainB (b : UInt8) : Bool := decide (97 ≤ b.toNat ∧ b.toNat ≤ 122 ∨ 65 ≤ b.toNat ∧ b.toNat ≤ 90 ∨ 48 ≤ b.toNat ∧ b.toNat ≤ 57 ∨ b.toNat = 95)
def quotB (b : UInt8) : Bool := decide (33 ≤ b.toNat ∧ b.toNat ≤ 126 ∧ b.toNat ≠ 34)
/-- How many bytes at the beginning belong together. -/
def runS (p : UInt8 → Bool) : Bs → Nat
  | [] => 0
  | b :: t => if p b = true then runS p t + 1 else 0
theorem run_le (p : UInt8 → Bool) (s : Bs) : runS p s ≤ s.length := by
  induction s with
  | nil => exact Nat.le_refl _
  | cons b t ih => rw [runS]; split <;> simp <;> omega
theorem run_before (p : UInt8 → Bool) (s : Bs) {i : Nat} (h : i < runS p s) : ∃ hi : i < s.length, p (s[i]) = true := by
  induction s generalizing i with
  | nil => simp [runS] at h
  | cons b t ih =>
    rw [runS] at h
    split at h
    · rename_i hb
      cases i with
      | zero => exact ⟨by simp, hb⟩
      | succ i =>
        obtain ⟨h1, h2⟩ := ih (by omega : i < runS p t)
        exact ⟨by simp; omega, by simpa using h2⟩
    · omega
theorem run_at (p : UInt8 → Bool) (s : Bs) (h : runS p s < s.length) : p (s[runS p s]) = false := by
  induction s with
  | nil => simp at h
  | cons b t ih =>
    by_cases hb : p b = true
    · have hr : runS p (b :: t) = runS p t + 1 := by rw [runS, if_pos hb]
      rw [hr] at h
      have := ih (by simp at h; omega)
      simpa [hr] using this
    · have hr : runS p (b :: t) = 0 := by rw [runS, if_neg hb]
      simp only [hr, List.getElem_cons_zero]
      simpa using hb
theorem run_of {p : UInt8 → Bool} {s : Bs} {n : Nat} (hn : n ≤ s.length) (h1 : ∀ i (hi : i < s.length), i < n → p (s[i]) = true) (h2 : ∀ h : n < s.length, p (s[n]) = false) : runS p s = n := by
  have ha := run_le p s
  rcases Nat.lt_trichotomy (runS p s) n with h | h | h
  · have hl : runS p s < s.length := by omega
    have := run_at p s hl
    rw [h1 _ hl h] at this
    cases this
  · exact h
  · obtain ⟨hi, hp⟩ := run_before p s h
    rw [h2 hi] at hp
    cases hp
theorem run_app {p : UInt8 → Bool} {b : UInt8} (hb : p b = false) (u t : Bs) : runS p (u ++ b :: t) = runS p u := by
  induction u with
  | nil => simp [runS, hb]
  | cons a u ih => simp only [List.cons_append, runS, ih]
theorem run_take (p : UInt8 → Bool) (s : Bs) : runS p (s.take (runS p s)) = runS p s := by
  induction s with
  | nil => rfl
  | cons a u ih =>
    by_cases ha : p a = true
    · rw [runS, if_pos ha, List.take_succ_cons, runS, if_pos ha, ih]
    · rw [runS, if_neg ha, List.take_zero, runS]
/-- The length of the quoted name at the beginning, or 0. -/
def quotedS (s : Bs) : Nat := if s[0]? = some 34 ∧ runS quotB (s.drop 1) ≠ 0 ∧ (s.drop 1)[runS quotB (s.drop 1)]? = some 34 then runS quotB (s.drop 1) + 2 else 0
def signsL : List Bs := [[60, 45, 62], [45, 62], [33], [38], [124], [40], [41], [91], [93]]
/-- The length of the first of some signs that stands at the beginning, or 0. -/
def signIn : List Bs → Bs → Nat
  | [], _ => 0
  | x :: r, s => if x.isPrefixOf s = true then x.length else signIn r s
def signS (s : Bs) : Nat := signIn signsL s
def firstS (s : Bs) : Nat × Nat := if runS plainB s ≠ 0 then (1, runS plainB s) else if quotedS s ≠ 0 then (1, quotedS s) else (2, signS s)
theorem quoted_le (s : Bs) : quotedS s ≤ s.length := by
  unfold quotedS
  split
  · rename_i h
    have h2 := h.2.2
    have : runS quotB (s.drop 1) < (s.drop 1).length := by
      apply Classical.byContradiction
      intro hn
      rw [List.getElem?_eq_none (by omega)] at h2
      cases h2
    rw [List.length_drop] at this
    omega
  · exact Nat.zero_le _
theorem prefix_len {x s : Bs} (h : x.isPrefixOf s = true) : x.length ≤ s.length := (List.isPrefixOf_iff_prefix.1 h).length_le
theorem signIn_le (l : List Bs) (s : Bs) : signIn l s ≤ s.length := by
  induction l with
  | nil => exact Nat.zero_le _
  | cons x r ih =>
    rw [signIn]
    split
    · rename_i h
      exact prefix_len h
    · exact ih
theorem sign_le (s : Bs) : signS s ≤ s.length := signIn_le _ s
theorem first_le (s : Bs) : (firstS s).2 ≤ s.length := by
  unfold firstS
  split
  · exact run_le _ _
  · split
    · exact quoted_le s
    · exact sign_le s
theorem first_kind (s : Bs) : (firstS s).1 = 1 ∨ (firstS s).1 = 2 := by
  unfold firstS
  split
  · exact Or.inl rfl
  · split
    · exact Or.inl rfl
    · exact Or.inr rfl
/-- The place behind the blanks from a place on. -/
def skipS (s : Bs) (a : Nat) : Nat := a + runS blankB (s.drop a)
theorem skip_le (s : Bs) (a : Nat) (h : a ≤ s.length) : skipS s a ≤ s.length := by
  have := run_le blankB (s.drop a)
  rw [List.length_drop] at this
  unfold skipS
  omega
theorem skip_ge (s : Bs) (a : Nat) : a ≤ skipS s a := by unfold skipS; omega
structure Tok where
  k : Nat
  t : Bs
  a : Nat
/-- The tokens from a place on, and where it goes wrong. -/
def scan (s : Bs) : Nat → Nat → List Tok × Option Nat
  | 0, _ => ([], none)
  | n + 1, a => if s.length ≤ a then ([⟨0, [], s.length⟩], none) else
    if (firstS (s.drop a)).2 = 0 then ([], some a) else
    (⟨(firstS (s.drop a)).1, (s.drop a).take (firstS (s.drop a)).2, a⟩ :: (scan s n (skipS s (a + (firstS (s.drop a)).2))).1, (scan s n (skipS s (a + (firstS (s.drop a)).2))).2)
def lexS (s : Bs) : List Tok × Option Nat := scan s (s.length + 1) (skipS s 0)
/-- What Lex answers: the tokens, the error, its place. -/
def lexA (s : Bs) : List Tok × Nat × Nat := if 20000 < s.length then ([], 2, 0) else match (lexS s).2 with | none => ((lexS s).1, 0, 0) | some a => ([], 40, a)
/-- What the iterator hands over. -/
def itemsS (s : Bs) : List (Tok × Nat) := (lexS s).1.map (fun t => (t, 0)) ++ (match (lexS s).2 with | none => [] | some a => [(⟨0, [], a⟩, 40)])
theorem skip_blank {s : Bs} {a : Nat} (h : a < s.length) (hb : blankB (s[a]) = true) : skipS s a = skipS s (a + 1) := by
  unfold skipS
  rw [List.drop_eq_getElem_cons h, runS, if_pos hb]
  omega
theorem skip_not {s : Bs} {a : Nat} (h : a < s.length) (hb : blankB (s[a]) = false) : skipS s a = a := by
  unfold skipS
  rw [List.drop_eq_getElem_cons h, runS, if_neg (by rw [hb]; simp)]
  rfl
theorem skip_end {s : Bs} {a : Nat} (h : s.length ≤ a) : skipS s a = a := by
  unfold skipS
  rw [List.drop_of_length_le h]
  rfl
theorem scan_end {s : Bs} {n a : Nat} (h : s.length ≤ a) : scan s (n + 1) a = ([⟨0, [], s.length⟩], none) := by rw [scan, if_pos h]
theorem scan_bad {s : Bs} {n a : Nat} (h : a < s.length) (h0 : (firstS (s.drop a)).2 = 0) : scan s (n + 1) a = ([], some a) := by rw [scan, if_neg (by omega), if_pos h0]
theorem scan_tok {s : Bs} {n a : Nat} (h : a < s.length) (h0 : (firstS (s.drop a)).2 ≠ 0) : scan s (n + 1) a = (⟨(firstS (s.drop a)).1, (s.drop a).take (firstS (s.drop a)).2, a⟩ :: (scan s n (skipS s (a + (firstS (s.drop a)).2))).1, (scan s n (skipS s (a + (firstS (s.drop a)).2))).2) := by rw [scan, if_neg (by omega), if_neg h0]
theorem scan_len (s : Bs) : ∀ (n a : Nat), (scan s n a).1.length ≤ n
  | 0, _ => Nat.le_refl _
  | n + 1, a => by
    rw [scan]
    split
    · simp
    · split
      · simp
      · simpa using scan_len s n _
theorem items_len (s : Bs) : (itemsS s).length ≤ s.length + 2 := by
  have := scan_len s (s.length + 1) (skipS s 0)
  unfold itemsS lexS
  rw [List.length_append, List.length_map]
  split <;> simp <;> omega
theorem lexA_len (s : Bs) : (lexA s).1.length ≤ 20001 := by
  unfold lexA
  split
  · simp
  · split
    · have := scan_len s (s.length + 1) (skipS s 0)
      unfold lexS
      simp only
      omega
    · simp
theorem items_done {s : Bs} {ts : List Tok} (hs : s.length ≤ 20000) (h : itemsS s = ts.map (fun t => (t, 0))) : lexA s = (ts, 0, 0) := by
  unfold lexA
  rw [if_neg (by omega)]
  unfold itemsS at h
  split at h
  · simp only [List.append_nil] at h
    have : (lexS s).1 = ts := by
      have := congrArg (List.map Prod.fst) h
      simpa [List.map_map, Function.comp_def] using this
    rw [this]
  · have := congrArg (List.map Prod.snd) h
    have h3 : (40 : Nat) ∈ (ts.map (fun t => (t, 0))).map Prod.snd := by rw [← this]; simp
    simp at h3
theorem items_stop {s : Bs} {ts : List Tok} {t : Tok} {e : Nat} {suf : List (Tok × Nat)} (hs : s.length ≤ 20000) (he : e ≠ 0) (h : itemsS s = (ts.map (fun t => (t, 0)) ++ [(t, e)]) ++ suf) : lexA s = ([], 40, t.a) ∧ e = 40 := by
  unfold lexA
  rw [if_neg (by omega)]
  unfold itemsS at h
  have hm : (t, e) ∈ (ts.map (fun t => (t, 0)) ++ [(t, e)]) ++ suf := by simp
  rw [← h] at hm
  rcases List.mem_append.1 hm with hm | hm
  · obtain ⟨x, _, hx⟩ := List.mem_map.1 hm
    cases hx
    exact absurd rfl he
  · split at hm
    · cases hm
    · simp at hm
      obtain ⟨rfl, rfl⟩ := hm
      exact ⟨rfl, rfl⟩
end Tk
end Go.Proofs.YtnkondmpekbblaaDoor
