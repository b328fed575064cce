/- Tokens, read again: the words of a text, and of their texts with blanks between. -/
import Derived.Test.YtlddnejjpekgeaaDoorQab
set_option linter.unusedSimpArgs false
set_option linter.unusedVariables false
namespace Go.Proofs.YtlddnejjpekgeaaDoor
namespace Tk
def dropB (u : Bs) : Bs := u.drop (runS blankB u)
/-- The kinds and texts of a text that begins with no blank. -/
def words : Nat → Bs → Option (List (Nat × Bs))
  | 0, _ => none
  | n + 1, u => if u = [] then some [(0, [])] else if (firstS u).2 = 0 then none else (words n (dropB (u.drop (firstS u).2))).map (((firstS u).1, u.take (firstS u).2) :: ·)
def wordsS (u : Bs) : Option (List (Nat × Bs)) := words (u.length + 1) (dropB u)
theorem dropB_len (u : Bs) : (dropB u).length ≤ u.length := by unfold dropB; rw [List.length_drop]; omega
theorem words_fuel : ∀ (n m : Nat) (u : Bs), u.length + 1 ≤ n → u.length + 1 ≤ m → words n u = words m u
  | 0, _, _, h, _ => by omega
  | _ + 1, 0, _, _, h => by omega
  | n + 1, m + 1, u, h1, h2 => by
    rw [words, words]
    split
    · rfl
    · split
      · rfl
      · have := dropB_len (u.drop (firstS u).2)
        rw [List.length_drop] at this
        have hpos : 0 < u.length := by
          rename_i hu _
          cases u with
          | nil => exact absurd rfl hu
          | cons a t => simp
        rw [words_fuel n m _ (by omega) (by omega)]
theorem wordsS_of {n : Nat} {u : Bs} (h : u.length + 1 ≤ n) : words n (dropB u) = wordsS u := by
  have := dropB_len u
  exact words_fuel _ _ _ (by omega) (by omega)
theorem wordsS_nil : wordsS [] = some [(0, [])] := rfl
theorem wordsS_blank {b : UInt8} (u : Bs) (h : blankB b = true) : wordsS (b :: u) = wordsS u := by
  have e : dropB (b :: u) = dropB u := by
    unfold dropB
    rw [runS, if_pos h]
    rfl
  rw [wordsS, e]
  exact wordsS_of (by simp)
theorem dropB_not {b : UInt8} (u : Bs) (h : blankB b = false) : dropB (b :: u) = b :: u := by
  unfold dropB
  rw [runS, if_neg (by rw [h]; simp)]
  rfl
theorem wordsS_bad {b : UInt8} (u : Bs) (h : blankB b = false) (h0 : (firstS (b :: u)).2 = 0) : wordsS (b :: u) = none := by
  rw [wordsS, dropB_not u h, words, if_neg (by simp), if_pos h0]
theorem wordsS_tok {b : UInt8} (u : Bs) (h : blankB b = false) (h0 : (firstS (b :: u)).2 ≠ 0) : wordsS (b :: u) = (wordsS ((b :: u).drop (firstS (b :: u)).2)).map (((firstS (b :: u)).1, (b :: u).take (firstS (b :: u)).2) :: ·) := by
  rw [wordsS, dropB_not u h, words, if_neg (by simp), if_neg h0, wordsS_of]
  rw [List.length_drop]
  simp only [List.length_cons]
  omega
theorem words_scan (s : Bs) : ∀ (n a : Nat), s.length + 1 ≤ n + a → a ≤ s.length → words n (s.drop a) = match (scan s n a).2 with
    | none => some ((scan s n a).1.map (fun t => (t.k, t.t)))
    | some _ => none
  | 0, a, h, ha => by omega
  | n + 1, a, h, ha => by
    by_cases hl : s.length ≤ a
    · rw [scan_end hl, List.drop_of_length_le hl, words, if_pos rfl]
      rfl
    · have hne : s.drop a ≠ [] := by
        intro e
        have := congrArg List.length e
        rw [List.length_drop] at this
        simp at this
        omega
      by_cases h0 : (firstS (s.drop a)).2 = 0
      · rw [scan_bad (by omega) h0, words, if_neg hne, if_pos h0]
      · rw [scan_tok (by omega) h0, words, if_neg hne, if_neg h0]
        have hr := first_room (s := s) ha
        have hg := skip_ge s (a + (firstS (s.drop a)).2)
        have e : dropB ((s.drop a).drop (firstS (s.drop a)).2) = s.drop (skipS s (a + (firstS (s.drop a)).2)) := by
          unfold dropB skipS
          simp only [List.drop_drop, Nat.add_assoc]
        rw [e, words_scan s n _ (by omega) (skip_le s _ hr)]
        simp only
        cases (scan s n (skipS s (a + (firstS (s.drop a)).2))).2 <;> rfl
theorem words_lex (s : Bs) : wordsS s = match (lexS s).2 with
    | none => some ((lexS s).1.map (fun t => (t.k, t.t)))
    | some _ => none := by
  have := words_scan s (s.length + 1) (skipS s 0) (by omega) (skip_le s 0 (Nat.zero_le _))
  have e : s.drop (skipS s 0) = dropB s := by
    unfold skipS dropB
    rw [Nat.zero_add, List.drop_zero]
  rw [e] at this
  exact this
theorem prefix_app {x u t : Bs} (h : (32 : UInt8) ∉ x) : x.isPrefixOf (u ++ 32 :: t) = x.isPrefixOf u := by
  induction x generalizing u with
  | nil => simp
  | cons a x ih =>
    have ha : a ≠ 32 := fun e => h (by simp [e])
    have hx : (32 : UInt8) ∉ x := fun e => h (by simp [e])
    cases u with
    | nil => simp [List.isPrefixOf, ha]
    | cons b u => simp [List.isPrefixOf, ih hx]
theorem signIn_app {l : List Bs} {u t : Bs} (h : ∀ x ∈ l, (32 : UInt8) ∉ x) : signIn l (u ++ 32 :: t) = signIn l u := by
  induction l with
  | nil => rfl
  | cons x r ih => rw [signIn, signIn, prefix_app (h x (by simp)), ih (fun y hy => h y (by simp [hy]))]
theorem signs_no32 : ∀ x ∈ signsL, (32 : UInt8) ∉ x := by decide
theorem quoted_app {b : UInt8} {u t : Bs} : quotedS ((b :: u) ++ 32 :: t) = quotedS (b :: u) := by
  unfold quotedS
  have e : runS quotB (((b :: u) ++ 32 :: t).drop 1) = runS quotB u := run_app (by decide) u t
  rw [e]
  simp only [List.cons_append, List.getElem?_cons_zero, List.drop_succ_cons, List.drop_zero]
  have hg : (u ++ 32 :: t)[runS quotB u]? = some 34 ↔ u[runS quotB u]? = some 34 := by
    have hle := run_le quotB u
    by_cases hl : runS quotB u < u.length
    · rw [List.getElem?_append_left hl]
    · have he : runS quotB u = u.length := by omega
      rw [he, List.getElem?_append_right (Nat.le_refl _), Nat.sub_self, List.getElem?_eq_none (Nat.le_refl _)]
      simp
  simp only [hg]
theorem first_app {b : UInt8} {u t : Bs} : firstS ((b :: u) ++ 32 :: t) = firstS (b :: u) := by
  unfold firstS
  rw [run_app (by decide) (b :: u) t, quoted_app, show signS ((b :: u) ++ 32 :: t) = signS (b :: u) from signIn_app signs_no32]
theorem words_ne : ∀ (n : Nat) (s : Bs), s.length ≤ n → ∀ l, wordsS s = some l → l ≠ []
  | n, [], _, l, h => by rw [wordsS_nil] at h; cases h; simp
  | 0, _ :: _, hn, _, _ => by simp at hn
  | n + 1, b :: u, hn, l, h => by
    by_cases hb : blankB b = true
    · rw [wordsS_blank u hb] at h
      exact words_ne n u (by simpa using hn) l h
    · have hb' : blankB b = false := by simpa using hb
      by_cases h0 : (firstS (b :: u)).2 = 0
      · rw [wordsS_bad u hb' h0] at h
        cases h
      · rw [wordsS_tok u hb' h0] at h
        obtain ⟨l', _, rfl⟩ := Option.map_eq_some_iff.1 h
        simp
/-- A text, a blank, a text: the words of both. -/
theorem words_app (t : Bs) : ∀ (n : Nat) (s : Bs), s.length ≤ n → wordsS (s ++ 32 :: t) = match wordsS s with
    | none => none
    | some l => (wordsS t).map (l.dropLast ++ ·)
  | n, [], _ => by
    rw [wordsS_nil, List.nil_append, wordsS_blank t (by decide)]
    simp
  | 0, _ :: _, hn => by simp at hn
  | n + 1, b :: u, hn => by
    by_cases hb : blankB b = true
    · rw [List.cons_append, wordsS_blank _ hb, wordsS_blank u hb]
      exact words_app t n u (by simpa using hn)
    · have hb' : blankB b = false := by simpa using hb
      have hf : firstS (b :: (u ++ 32 :: t)) = firstS (b :: u) := first_app
      by_cases h0 : (firstS (b :: u)).2 = 0
      · rw [List.cons_append, wordsS_bad _ hb' (by rw [hf]; exact h0), wordsS_bad u hb' h0]
      · have hle := first_le (b :: u)
        rw [List.cons_append, wordsS_tok _ hb' (by rw [hf]; exact h0), wordsS_tok u hb' h0, hf, ← List.cons_append, List.drop_append_of_le_length hle, List.take_append_of_le_length hle]
        rw [words_app t n _ (by rw [List.length_drop]; omega)]
        cases hw : wordsS ((b :: u).drop (firstS (b :: u)).2) with
        | none => rfl
        | some l =>
          have hne := words_ne _ _ (Nat.le_refl _) l hw
          simp only [Option.map_some]
          rw [List.dropLast_cons_of_ne_nil hne]
          cases wordsS t <;> simp
theorem signIn_some {l : List Bs} {u : Bs} (h : signIn l u ≠ 0) : ∃ x ∈ l, x.length = signIn l u ∧ x <+: u := by
  induction l with
  | nil => exact absurd rfl h
  | cons x r ih =>
    rw [signIn] at h ⊢
    split
    · rename_i hp
      exact ⟨x, by simp, rfl, List.isPrefixOf_iff_prefix.1 hp⟩
    · rename_i hp
      rw [if_neg hp] at h
      obtain ⟨y, hy, h1, h2⟩ := ih h
      exact ⟨y, by simp [hy], h1, h2⟩
theorem first_sign : ∀ x ∈ signsL, firstS x = (2, x.length) := by decide
/-- A token, read alone, is itself. -/
theorem first_take (u : Bs) (h : (firstS u).2 ≠ 0) : firstS (u.take (firstS u).2) = firstS u := by
  by_cases hn : runS plainB u ≠ 0
  · have e : firstS u = (1, runS plainB u) := by unfold firstS; rw [if_pos hn]
    rw [e]
    simp only
    unfold firstS
    rw [run_take, if_pos hn]
  · by_cases hq : quotedS u ≠ 0
    · have e : firstS u = (1, quotedS u) := by unfold firstS; rw [if_neg hn, if_pos hq]
      rw [e]
      simp only
      obtain ⟨h1, h2, h3⟩ : u[0]? = some 34 ∧ runS quotB (u.drop 1) ≠ 0 ∧ (u.drop 1)[runS quotB (u.drop 1)]? = some 34 := by
        unfold quotedS at hq
        split at hq
        · rename_i h3
          exact h3
        · exact absurd rfl hq
      have hQ : quotedS u = runS quotB (u.drop 1) + 2 := by
        unfold quotedS
        rw [if_pos ⟨h1, h2, h3⟩]
      cases u with
      | nil => cases h1
      | cons b v =>
        simp only [List.getElem?_cons_zero, Option.some.injEq] at h1
        subst h1
        simp only [List.drop_succ_cons, List.drop_zero] at h2 h3 hQ
        have hm : runS quotB v < v.length := by
          apply Classical.byContradiction
          intro hc
          rw [List.getElem?_eq_none (by omega)] at h3
          cases h3
        have hv : v[runS quotB v] = 34 := by
          rw [List.getElem?_eq_getElem hm] at h3
          simpa using h3
        have hr : runS quotB (v.take (runS quotB v + 1)) = runS quotB v := by
          refine run_of (by rw [List.length_take]; omega) (fun i hi hlt => ?_) (fun hlt => ?_)
          · rw [List.getElem_take]
            exact (run_before quotB v hlt).2
          · rw [List.getElem_take, hv]
            decide
        have hg : (v.take (runS quotB v + 1))[runS quotB v]? = some 34 := by
          rw [List.getElem?_take_of_lt (by omega)]
          exact h3
        rw [hQ, show runS quotB v + 2 = (runS quotB v + 1) + 1 from rfl, List.take_succ_cons]
        have hp : runS plainB (34 :: v.take (runS quotB v + 1)) = 0 := by rw [runS, if_neg (by decide)]
        have hQ2 : quotedS (34 :: v.take (runS quotB v + 1)) = runS quotB v + 2 := by
          unfold quotedS
          simp only [List.getElem?_cons_zero, List.drop_succ_cons, List.drop_zero, hr, hg]
          rw [if_pos ⟨trivial, h2, trivial⟩]
        unfold firstS
        rw [hp, hQ2]
        simp
    · have e : firstS u = (2, signS u) := by unfold firstS; rw [if_neg hn, if_neg hq]
      rw [e] at h ⊢
      simp only at h ⊢
      obtain ⟨x, hx, h1, h2⟩ := signIn_some h
      have ht : u.take (signS u) = x := by
        have := List.prefix_iff_eq_take.1 h2
        rw [this, h1]
        rfl
      rw [ht, first_sign x hx, h1]
      rfl
/-- The texts of words, each behind a blank. -/
def joinS (l : List (Nat × Bs)) : Bs := l.flatMap (fun w => 32 :: w.2)
theorem join_cons (w : Nat × Bs) (l : List (Nat × Bs)) : joinS (w :: l) = 32 :: (w.2 ++ joinS l) := by simp [joinS]
theorem join_snoc (l : List (Nat × Bs)) (w : Nat × Bs) : joinS (l ++ [w]) = joinS l ++ 32 :: w.2 := by simp [joinS]
/-- The words' texts with blanks between are the same words; how long they are. -/
theorem words_back : ∀ (n : Nat) (s : Bs), s.length ≤ n → ∀ l, wordsS s = some l → wordsS (joinS l) = some l ∧ (joinS l).length ≤ 2 * s.length + 1
  | n, [], _, l, h => by
    rw [wordsS_nil] at h
    cases h
    exact ⟨rfl, by simp [joinS]⟩
  | 0, _ :: _, hn, _, _ => by simp at hn
  | n + 1, b :: u, hn, l, h => by
    by_cases hb : blankB b = true
    · rw [wordsS_blank u hb] at h
      obtain ⟨h1, h2⟩ := words_back n u (by simpa using hn) l h
      exact ⟨h1, by simp; omega⟩
    · have hb' : blankB b = false := by simpa using hb
      by_cases h0 : (firstS (b :: u)).2 = 0
      · rw [wordsS_bad u hb' h0] at h
        cases h
      · have hle := first_le (b :: u)
        rw [wordsS_tok u hb' h0] at h
        obtain ⟨l', hl', rfl⟩ := Option.map_eq_some_iff.1 h
        obtain ⟨h1, h2⟩ := words_back n _ (by rw [List.length_drop]; simp at hn ⊢; omega) l' hl'
        rw [List.length_drop] at h2
        have hft := first_take (b :: u) h0
        have hx : wordsS ((b :: u).take (firstS (b :: u)).2) = some [((firstS (b :: u)).1, (b :: u).take (firstS (b :: u)).2), (0, [])] := by
          obtain ⟨m, hm⟩ : ∃ m, (firstS (b :: u)).2 = m + 1 := ⟨(firstS (b :: u)).2 - 1, by omega⟩
          have ht : (b :: u).take (firstS (b :: u)).2 = b :: u.take m := by rw [hm, List.take_succ_cons]
          have hlen : ((b :: u).take (firstS (b :: u)).2).length = (firstS (b :: u)).2 := by rw [List.length_take]; omega
          rw [ht] at hft hlen ⊢
          rw [wordsS_tok _ hb' (by rw [hft]; exact h0), hft, List.drop_of_length_le (by omega), List.take_of_length_le (by omega), wordsS_nil]
          rfl
        have hne := words_ne _ _ (Nat.le_refl _) l' hl'
        refine ⟨?_, ?_⟩
        · rw [join_cons, wordsS_blank _ (by decide)]
          cases l' with
          | nil => exact absurd rfl hne
          | cons w r =>
            rw [join_cons, wordsS_blank _ (by decide)] at h1
            simp only
            rw [join_cons, words_app _ _ _ (Nat.le_refl _), hx]
            simp [h1]
        · rw [join_cons, List.length_cons, List.length_append, List.length_take]
          simp only [List.length_cons] at hle h2 ⊢
          omega
theorem scan_texts (s : Bs) : ∀ (n a : Nat), a ≤ s.length → ∀ t ∈ (scan s n a).1, t.k = 0 ∨ (t.a + t.t.length ≤ s.length ∧ (s.drop t.a).take t.t.length = t.t)
  | 0, _, _, t, ht => by cases ht
  | n + 1, a, ha, t, ht => by
    by_cases hl : s.length ≤ a
    · rw [scan_end hl] at ht
      simp at ht
      exact Or.inl (by rw [ht])
    · by_cases h0 : (firstS (s.drop a)).2 = 0
      · rw [scan_bad (by omega) h0] at ht
        cases ht
      · rw [scan_tok (by omega) h0] at ht
        have hr := first_room (s := s) ha
        rcases List.mem_cons.1 ht with rfl | ht
        · refine Or.inr ?_
          simp only [List.length_take, List.length_drop]
          rw [Nat.min_eq_left (by omega)]
          exact ⟨hr, rfl⟩
        · exact scan_texts s n _ (skip_le s _ hr) t ht
theorem scan_err (s : Bs) : ∀ (n a e : Nat), (scan s n a).2 = some e → e < s.length
  | 0, _, _, h => by cases h
  | n + 1, a, e, h => by
    by_cases hl : s.length ≤ a
    · rw [scan_end hl] at h
      cases h
    · by_cases h0 : (firstS (s.drop a)).2 = 0
      · rw [scan_bad (by omega) h0] at h
        simp at h
        omega
      · rw [scan_tok (by omega) h0] at h
        exact scan_err s n _ e h
/-- What a reading of a short text comes to. -/
theorem lexA_cases (s : Bs) (h : s.length ≤ 20000) : (∃ ts, lexA s = (ts, 0, 0) ∧ wordsS s = some (ts.map (fun t => (t.k, t.t))) ∧ (∀ t ∈ ts, t.k = 0 ∨ (t.a + t.t.length ≤ s.length ∧ (s.drop t.a).take t.t.length = t.t))) ∨
    (∃ a, lexA s = ([], 40, a) ∧ wordsS s = none ∧ a < s.length) := by
  have hw := words_lex s
  unfold lexA
  rw [if_neg (by omega)]
  cases he : (lexS s).2 with
  | none =>
    rw [he] at hw
    exact Or.inl ⟨_, rfl, hw, scan_texts s _ _ (skip_le s 0 (Nat.zero_le _))⟩
  | some a =>
    rw [he] at hw
    exact Or.inr ⟨a, rfl, hw, scan_err s _ _ a he⟩
end Tk
end Go.Proofs.YtlddnejjpekgeaaDoor
/- Formulas: the mathematics of their sizes and texts. -/
namespace Go.Proofs.YtlddnejjpekgeaaDoor
namespace Fm
open Tk

/-- A formula: its kind, its name, its literal, its subformulas. -/
inductive F where
  | mk (k : Int) (nm : Bs) (lit : Int) (ks : List F)
def F.k : F → Int | .mk k _ _ _ => k
def F.nm : F → Bs | .mk _ nm _ _ => nm
def F.lit : F → Int | .mk _ _ l _ => l
def F.ks : F → List F | .mk _ _ _ ks => ks
theorem F.ind {P : F → Prop} (h : ∀ k nm lit ks, (∀ f ∈ ks, P f) → P (.mk k nm lit ks)) (f : F) : P f :=
  F.rec (motive_1 := P) (motive_2 := fun ks => ∀ f ∈ ks, P f) (fun k nm lit ks ih => h k nm lit ks ih) (fun f hf => by cases hf) (fun a r ha hr f hf => by
    rcases List.mem_cons.1 hf with rfl | hf
    · exact ha
    · exact hr f hf) f
/-- How many subformulas a kind has. -/
def kidsN (k : Int) : Option Nat := if 1 ≤ k ∧ k ≤ 3 then some 0 else if k = 4 ∨ (9 ≤ k ∧ k ≤ 14) then some 1 else if (5 ≤ k ∧ k ≤ 8) ∨ (15 ≤ k ∧ k ≤ 18) then some 2 else none
def wordB (s : Bs) : Bool := decide (1 ≤ s.length) && (decide (s.length ≤ 20) && s.all quotB)
/-- What is asked of a formula beside its subformulas. -/
def nodeB (k : Int) (nm : Bs) (lit : Int) (n : Nat) : Bool := decide (kidsN k = some n) && (decide (lit = 0) && (if k = 3 then wordB nm else nm.isEmpty))
mutual
def F.cnt : F → Nat
  | .mk _ _ _ ks => 1 + cntL ks
def cntL : List F → Nat
  | [] => 0
  | f :: r => f.cnt + cntL r
end
mutual
def F.dep : F → Nat
  | .mk _ _ _ ks => 1 + depL ks
def depL : List F → Nat
  | [] => 0
  | f :: r => max f.dep (depL r)
end
mutual
def F.okB : F → Bool
  | .mk k nm lit ks => nodeB k nm lit ks.length && okL ks
def okL : List F → Bool
  | [] => true
  | f :: r => f.okB && okL r
end
def validB (f : F) : Bool := f.okB && (decide (f.dep ≤ 60) && decide (f.cnt ≤ 2000))
def sizeS (f : F) : Nat := if validB f = true then f.cnt else 0
theorem okL_mem {ks : List F} (h : okL ks = true) : ∀ f ∈ ks, f.okB = true := by
  induction ks with
  | nil => intro f hf; cases hf
  | cons a r ih =>
    simp only [okL, Bool.and_eq_true] at h
    intro f hf
    rcases List.mem_cons.1 hf with rfl | hf
    · exact h.1
    · exact ih h.2 f hf
theorem cnt_pos (f : F) : 1 ≤ f.cnt := by
  cases f
  simp only [F.cnt]
  omega
/-- The program's count: of at most so much depth, of at most so many. -/
def sizeK (g : Nat → F → Nat) (m : Nat) : Nat → List F → Nat
  | acc, [] => acc
  | acc, f :: r => if g (m - acc) f = 0 then 0 else sizeK g m (acc + g (m - acc) f) r
def sizeP : Nat → Nat → F → Nat
  | 0, _, _ => 0
  | d + 1, m, .mk k nm lit ks => if m = 0 ∨ nodeB k nm lit ks.length = false then 0 else sizeK (sizeP d) m 1 ks
theorem sizeK_is (d m : Nat) (hg : ∀ m' f, sizeP d m' f = if f.okB = true ∧ f.dep ≤ d ∧ f.cnt ≤ m' then f.cnt else 0) :
    ∀ (ks : List F) (acc : Nat), 1 ≤ acc → acc ≤ m → sizeK (sizeP d) m acc ks = if okL ks = true ∧ depL ks ≤ d ∧ acc + cntL ks ≤ m then acc + cntL ks else 0 := by
  intro ks
  induction ks with
  | nil =>
    intro acc h1 h2
    simp [sizeK, okL, depL, cntL, h2]
  | cons f r ih =>
    intro acc h1 h2
    have hc := cnt_pos f
    rw [sizeK, hg]
    by_cases hf : f.okB = true ∧ f.dep ≤ d ∧ f.cnt ≤ m - acc
    · rw [if_pos hf, if_neg (by omega), ih _ (by omega) (by omega)]
      simp only [okL, depL, cntL, Bool.and_eq_true]
      by_cases hr : okL r = true ∧ depL r ≤ d ∧ acc + f.cnt + cntL r ≤ m
      · rw [if_pos hr, if_pos ⟨⟨hf.1, hr.1⟩, by omega, by omega⟩]
        omega
      · rw [if_neg hr, if_neg]
        intro h
        exact hr ⟨h.1.2, by omega, by omega⟩
    · rw [if_neg hf, if_pos rfl, if_neg]
      intro h
      simp only [okL, depL, cntL, Bool.and_eq_true] at h
      exact hf ⟨h.1.1, by omega, by omega⟩
theorem sizeP_is : ∀ (d m : Nat) (f : F), sizeP d m f = if f.okB = true ∧ f.dep ≤ d ∧ f.cnt ≤ m then f.cnt else 0
  | 0, m, f => by
    rw [sizeP, if_neg]
    intro h
    cases f
    simp only [F.dep] at h
    omega
  | d + 1, m, .mk k nm lit ks => by
    rw [sizeP]
    simp only [F.okB, F.dep, F.cnt, Bool.and_eq_true]
    by_cases h0 : m = 0 ∨ nodeB k nm lit ks.length = false
    · rw [if_pos h0, if_neg]
      rintro ⟨⟨h1, _⟩, _, h3⟩
      rcases h0 with rfl | h0
      · omega
      · rw [h0] at h1
        cases h1
    · rw [if_neg h0, sizeK_is d m (sizeP_is d) ks 1 (Nat.le_refl _) (by omega)]
      have hn : nodeB k nm lit ks.length = true := by
        cases h : nodeB k nm lit ks.length
        · exact absurd (Or.inr h) h0
        · rfl
      by_cases h : okL ks = true ∧ depL ks ≤ d ∧ 1 + cntL ks ≤ m
      · rw [if_pos h, if_pos ⟨⟨hn, h.1⟩, by omega, h.2.2⟩]
      · rw [if_neg h, if_neg]
        rintro ⟨⟨_, h1⟩, h2, h3⟩
        exact h ⟨h1, by omega, h3⟩
theorem size_is (f : F) : sizeP 60 2000 f = sizeS f := by
  rw [sizeP_is]
  unfold sizeS validB
  simp only [Bool.and_eq_true, decide_eq_true_eq]
theorem size_pos (f : F) : decide (0 < sizeS f) = validB f := by
  unfold sizeS
  have := cnt_pos f
  cases h : validB f
  · simp
  · simp; omega
/-- The document's count. -/
def rightK (g : F → Option Nat) : Nat → List F → Option Nat
  | n, [] => some n
  | n, f :: r => match g f with | none => none | some k => if 2000 < n + k then none else rightK g (n + k) r
def rightS : Nat → F → Option Nat
  | 0, _ => none
  | d + 1, .mk k nm lit ks => if nodeB k nm lit ks.length = false then none else rightK (rightS d) 1 ks
theorem rightK_is (d : Nat) (hg : ∀ f, rightS d f = if f.okB = true ∧ f.dep ≤ d ∧ f.cnt ≤ 2000 then some f.cnt else none) :
    ∀ (ks : List F) (n : Nat), 1 ≤ n → n ≤ 2000 → rightK (rightS d) n ks = if okL ks = true ∧ depL ks ≤ d ∧ n + cntL ks ≤ 2000 then some (n + cntL ks) else none := by
  intro ks
  induction ks with
  | nil =>
    intro n h1 h2
    simp [rightK, okL, depL, cntL, h2]
  | cons f r ih =>
    intro n h1 h2
    have hc := cnt_pos f
    rw [rightK, hg]
    by_cases hf : f.okB = true ∧ f.dep ≤ d ∧ f.cnt ≤ 2000
    · rw [if_pos hf]
      simp only
      by_cases hb : 2000 < n + f.cnt
      · rw [if_pos hb, if_neg]
        intro h
        simp only [okL, depL, cntL, Bool.and_eq_true] at h
        omega
      · rw [if_neg hb, ih _ (by omega) (by omega)]
        simp only [okL, depL, cntL, Bool.and_eq_true]
        by_cases hr : okL r = true ∧ depL r ≤ d ∧ n + f.cnt + cntL r ≤ 2000
        · rw [if_pos hr, if_pos ⟨⟨hf.1, hr.1⟩, by omega, by omega⟩]
          congr 1
          omega
        · rw [if_neg hr, if_neg]
          intro h
          exact hr ⟨h.1.2, by omega, by omega⟩
    · rw [if_neg hf]
      simp only
      rw [if_neg]
      intro h
      simp only [okL, depL, cntL, Bool.and_eq_true] at h
      exact hf ⟨h.1.1, by omega, by omega⟩
theorem rightS_is : ∀ (d : Nat) (f : F), rightS d f = if f.okB = true ∧ f.dep ≤ d ∧ f.cnt ≤ 2000 then some f.cnt else none
  | 0, f => by
    rw [rightS, if_neg]
    intro h
    cases f
    simp only [F.dep] at h
    omega
  | d + 1, .mk k nm lit ks => by
    rw [rightS]
    simp only [F.okB, F.dep, F.cnt, Bool.and_eq_true]
    by_cases h0 : nodeB k nm lit ks.length = false
    · rw [if_pos h0, if_neg]
      rintro ⟨⟨h1, _⟩, _, _⟩
      rw [h0] at h1
      cases h1
    · rw [if_neg h0, rightK_is d (rightS_is d) ks 1 (Nat.le_refl _) (by omega)]
      have hn : nodeB k nm lit ks.length = true := by
        cases h : nodeB k nm lit ks.length
        · exact absurd h h0
        · rfl
      by_cases h : okL ks = true ∧ depL ks ≤ d ∧ 1 + cntL ks ≤ 2000
      · rw [if_pos h, if_pos ⟨⟨hn, h.1⟩, by omega, h.2.2⟩]
      · rw [if_neg h, if_neg]
        rintro ⟨⟨_, h1⟩, h2, h3⟩
        exact h ⟨h1, by omega, h3⟩
theorem right_is (f : F) : rightS 60 f = if validB f = true then some f.cnt else none := by
  rw [rightS_is]
  unfold validB
  simp only [Bool.and_eq_true, decide_eq_true_eq]
end Fm
end Go.Proofs.YtlddnejjpekgeaaDoor
