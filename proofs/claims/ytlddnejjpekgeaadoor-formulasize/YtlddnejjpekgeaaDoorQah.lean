/- Formulas: the mathematics of their texts, and of these texts' tokens. -/
import Derived.Test.YtlddnejjpekgeaaDoorQag
set_option linter.unusedSimpArgs false
set_option linter.unusedVariables false
namespace Go.Proofs.YtlddnejjpekgeaaDoor
namespace Fm
open Tk

def looseB (k : Int) : Bool := decide (5 ≤ k ∧ k ≤ 8)
def keysL : List Bs := [[116, 114, 117, 101], [102, 97, 108, 115, 101], [69], [65], [69, 88], [65, 88], [69, 70], [65, 70], [69, 71], [65, 71], [85], [82]]
def keyB (s : Bs) : Bool := keysL.contains s
def plainNm (s : Bs) : Bool := s.all plainB && !keyB s
def atomS (s : Bs) : Bs := if plainNm s = true then s else 34 :: (s ++ [34])
/-- The words of a kind: before, between, behind. -/
def befS (k : Int) : Bs := if k = 1 then [102, 97, 108, 115, 101] else if k = 2 then [116, 114, 117, 101] else if k = 4 then [33] else if k = 9 then [69, 88, 32] else if k = 10 then [65, 88, 32] else if k = 11 then [69, 70, 32] else if k = 12 then [65, 70, 32] else if k = 13 then [69, 71, 32] else if k = 14 then [65, 71, 32] else if k = 15 ∨ k = 17 then [69, 32, 91] else if k = 16 ∨ k = 18 then [65, 32, 91] else []
def betS (k : Int) : Bs := if k = 5 then [32, 38, 32] else if k = 6 then [32, 124, 32] else if k = 7 then [32, 45, 62, 32] else if k = 8 then [32, 60, 45, 62, 32] else if k = 15 ∨ k = 16 then [32, 85, 32] else if k = 17 ∨ k = 18 then [32, 82, 32] else []
def behS (k : Int) : Bs := if 15 ≤ k ∧ k ≤ 18 then [93] else []
def befT (k : Int) : List (Nat × Bs) := if k = 1 then [(1, [102, 97, 108, 115, 101])] else if k = 2 then [(1, [116, 114, 117, 101])] else if k = 4 then [(2, [33])] else if k = 9 then [(1, [69, 88])] else if k = 10 then [(1, [65, 88])] else if k = 11 then [(1, [69, 70])] else if k = 12 then [(1, [65, 70])] else if k = 13 then [(1, [69, 71])] else if k = 14 then [(1, [65, 71])] else if k = 15 ∨ k = 17 then [(1, [69]), (2, [91])] else if k = 16 ∨ k = 18 then [(1, [65]), (2, [91])] else []
def betT (k : Int) : List (Nat × Bs) := if k = 5 then [(2, [38])] else if k = 6 then [(2, [124])] else if k = 7 then [(2, [45, 62])] else if k = 8 then [(2, [60, 45, 62])] else if k = 15 ∨ k = 16 then [(1, [85])] else if k = 17 ∨ k = 18 then [(1, [82])] else []
def behT (k : Int) : List (Nat × Bs) := if 15 ≤ k ∧ k ≤ 18 then [(2, [93])] else []
def parS (k : Int) (t : Bs) : Bs := if looseB k = true then 40 :: (t ++ [41]) else t
def parT (k : Int) (t : List (Nat × Bs)) : List (Nat × Bs) := if looseB k = true then (2, [40]) :: (t ++ [(2, [41])]) else t
mutual
def F.text : F → Bs
  | .mk k nm _ ks => if k = 3 then atomS nm else befS k ++ (textL k true ks ++ behS k)
def textL (k : Int) : Bool → List F → Bs
  | _, [] => []
  | b, f :: r => (if b = true then [] else betS k) ++ (parS f.k f.text ++ textL k false r)
end
mutual
def F.toks : F → List (Nat × Bs)
  | .mk k nm _ ks => if k = 3 then [(1, atomS nm)] else befT k ++ (toksL k true ks ++ behT k)
def toksL (k : Int) : Bool → List F → List (Nat × Bs)
  | _, [] => []
  | b, f :: r => (if b = true then [] else betT k) ++ (parT f.k f.toks ++ toksL k false r)
end

/-- No word goes on here. -/
def Stops (u : Bs) : Prop := ∀ b t, u = b :: t → plainB b = false
theorem stops_nil : Stops [] := by intro b t h; cases h
theorem stops_cons {b : UInt8} (t : Bs) (h : plainB b = false) : Stops (b :: t) := by intro c t' e; injection e with e1; subst e1; exact h
theorem run_word {w u : Bs} (hw : w.all plainB = true) (hu : Stops u) : runS plainB (w ++ u) = w.length := by
  induction w with
  | nil =>
    cases u with
    | nil => rfl
    | cons b t =>
      rw [List.nil_append, runS, if_neg (by rw [hu b t rfl]; simp)]
      rfl
  | cons a w ih =>
    simp only [List.all_cons, Bool.and_eq_true] at hw
    rw [List.cons_append, runS, if_pos hw.1, ih hw.2, List.length_cons]
theorem plain_blank {b : UInt8} (h : plainB b = true) : blankB b = false := by
  simp only [plainB, blankB, decide_eq_true_eq, decide_eq_false_iff_not] at h ⊢
  omega
theorem words_word {w u : Bs} (h0 : w ≠ []) (hw : w.all plainB = true) (hu : Stops u) : wordsS (w ++ u) = (wordsS u).map ((1, w) :: ·) := by
  cases w with
  | nil => exact absurd rfl h0
  | cons b w =>
    have hb : blankB b = false := by
      simp only [List.all_cons, Bool.and_eq_true] at hw
      exact plain_blank hw.1
    have hf : firstS (b :: (w ++ u)) = (1, (b :: w).length) := by
      have := run_word hw hu
      rw [List.cons_append] at this
      unfold firstS
      rw [this, if_pos (by simp)]
    rw [List.cons_append, wordsS_tok (w ++ u) hb (by rw [hf]; simp), hf]
    simp only
    rw [← List.cons_append, List.drop_left, List.take_left]
theorem sign_first : ∀ x ∈ signsL, ∀ b t, x = b :: t → plainB b = false ∧ blankB b = false ∧ b ≠ 34 := by
  intro x hx b t e
  have : (signsL.all fun x => match x with | [] => true | b :: _ => !plainB b && !blankB b && decide (b ≠ 34)) = true := by decide
  have := List.all_eq_true.1 this x hx
  rw [e] at this
  simp only [Bool.and_eq_true, Bool.not_eq_true', decide_eq_true_eq] at this
  exact ⟨this.1.1, this.1.2, this.2⟩
theorem sign_in {x u : Bs} (hx : x ∈ signsL) : signS (x ++ u) = x.length := by
  simp only [signsL, List.mem_cons, List.not_mem_nil, or_false] at hx
  rcases hx with rfl | rfl | rfl | rfl | rfl | rfl | rfl | rfl | rfl <;> simp [signS, signsL, signIn, List.isPrefixOf]
theorem words_sign {x u : Bs} (hx : x ∈ signsL) : wordsS (x ++ u) = (wordsS u).map ((2, x) :: ·) := by
  have hne : x ≠ [] := by
    rintro rfl
    revert hx
    decide
  cases x with
  | nil => exact absurd rfl hne
  | cons b t =>
    obtain ⟨h1, h2, h3⟩ := sign_first _ hx b t rfl
    have hs := sign_in (u := u) hx
    rw [List.cons_append] at hs
    have hf : firstS (b :: (t ++ u)) = (2, (b :: t).length) := by
      unfold firstS
      have e1 : runS plainB (b :: (t ++ u)) = 0 := by rw [runS, if_neg (by rw [h1]; simp)]
      have e2 : quotedS (b :: (t ++ u)) = 0 := by
        unfold quotedS
        rw [if_neg]
        rintro ⟨h, _⟩
        simp at h
        exact h3 h
      rw [e1, e2, hs]
      simp
    rw [List.cons_append, wordsS_tok (t ++ u) h2 (by rw [hf]; simp), hf]
    simp only
    rw [← List.cons_append, List.drop_left, List.take_left]
theorem run_quot {w : Bs} (hw : w.all quotB = true) (u : Bs) : runS quotB (w ++ 34 :: u) = w.length := by
  induction w with
  | nil =>
    rw [List.nil_append, runS, if_neg (by decide)]
    rfl
  | cons a w ih =>
    simp only [List.all_cons, Bool.and_eq_true] at hw
    rw [List.cons_append, runS, if_pos hw.1, ih hw.2, List.length_cons]
theorem words_quote {w u : Bs} (h0 : w ≠ []) (hw : w.all quotB = true) : wordsS ((34 :: (w ++ [34])) ++ u) = (wordsS u).map ((1, 34 :: (w ++ [34])) :: ·) := by
  have hr := run_quot hw u
  have hl : w.length ≠ 0 := by
    intro h
    exact h0 (List.length_eq_zero_iff.1 h)
  have hf : firstS (34 :: (w ++ 34 :: u)) = (1, (34 :: (w ++ [34])).length) := by
    unfold firstS
    have e1 : runS plainB (34 :: (w ++ 34 :: u)) = 0 := by rw [runS, if_neg (by decide)]
    have e2 : quotedS (34 :: (w ++ 34 :: u)) = w.length + 2 := by
      unfold quotedS
      rw [if_pos]
      · simp only [List.drop_succ_cons, List.drop_zero]
        rw [hr]
      · simp only [List.drop_succ_cons, List.drop_zero]
        rw [hr]
        refine ⟨rfl, hl, ?_⟩
        rw [List.getElem?_append_right (Nat.le_refl _), Nat.sub_self]
        rfl
    rw [e1, e2]
    simp
  have e : (34 :: (w ++ [34])) ++ u = 34 :: (w ++ 34 :: u) := by simp
  rw [e, wordsS_tok (w ++ 34 :: u) (by decide) (by rw [hf]; simp), hf, ← e]
  simp only
  rw [List.drop_left, List.take_left]
theorem words_atom {s u : Bs} (h : wordB s = true) (hu : Stops u) : wordsS (atomS s ++ u) = (wordsS u).map ((1, atomS s) :: ·) := by
  simp only [wordB, Bool.and_eq_true, decide_eq_true_eq] at h
  have h0 : s ≠ [] := by
    rintro rfl
    simp at h
  unfold atomS
  by_cases hp : plainNm s = true
  · rw [if_pos hp]
    simp only [plainNm, Bool.and_eq_true] at hp
    exact words_word h0 hp.1 hu
  · rw [if_neg hp]
    exact words_quote h0 h.2.2
theorem map_app {α : Type} (o : Option (List α)) (a b : List α) : (o.map (b ++ ·)).map (a ++ ·) = o.map ((a ++ b) ++ ·) := by
  cases o <;> simp
theorem map_one {α : Type} (o : Option (List α)) (a : α) : o.map (a :: ·) = o.map ([a] ++ ·) := by
  cases o <;> rfl
theorem words_bef {k : Int} {n : Nat} (hk : kidsN k = some n) (h3 : k ≠ 3) (u : Bs) (hu : (k = 1 ∨ k = 2) → Stops u) : wordsS (befS k ++ u) = (wordsS u).map (befT k ++ ·) := by
  have b32 : plainB 32 = false := by decide
  have bl : blankB 32 = true := by decide
  have hw : ∀ (w : Bs), w ≠ [] → w.all plainB = true → ∀ t, wordsS (w ++ 32 :: t) = (wordsS t).map ((1, w) :: ·) := by
    intro w h0 h1 t
    rw [words_word h0 h1 (stops_cons t b32), wordsS_blank t bl]
  have hs : ∀ (x : Bs), x ∈ signsL → ∀ t, wordsS (x ++ t) = (wordsS t).map ((2, x) :: ·) := fun x hx t => words_sign hx
  have hr : 1 ≤ k ∧ k ≤ 18 := by
    unfold kidsN at hk
    split at hk
    · omega
    · split at hk
      · omega
      · split at hk
        · omega
        · cases hk
  have hcases : k = 1 ∨ k = 2 ∨ k = 4 ∨ k = 5 ∨ k = 6 ∨ k = 7 ∨ k = 8 ∨ k = 9 ∨ k = 10 ∨ k = 11 ∨ k = 12 ∨ k = 13 ∨ k = 14 ∨ k = 15 ∨ k = 16 ∨ k = 17 ∨ k = 18 := by omega
  rcases hcases with rfl | rfl | rfl | rfl | rfl | rfl | rfl | rfl | rfl | rfl | rfl | rfl | rfl | rfl | rfl | rfl | rfl
  · exact words_word (w := [102, 97, 108, 115, 101]) (by decide) (by decide) (hu (Or.inl rfl))
  · exact words_word (w := [116, 114, 117, 101]) (by decide) (by decide) (hu (Or.inr rfl))
  · exact hs [33] (by decide) u
  · cases h : wordsS u <;> simp [befS, befT, h]
  · cases h : wordsS u <;> simp [befS, befT, h]
  · cases h : wordsS u <;> simp [befS, befT, h]
  · cases h : wordsS u <;> simp [befS, befT, h]
  · exact hw [69, 88] (by decide) (by decide) u
  · exact hw [65, 88] (by decide) (by decide) u
  · exact hw [69, 70] (by decide) (by decide) u
  · exact hw [65, 70] (by decide) (by decide) u
  · exact hw [69, 71] (by decide) (by decide) u
  · exact hw [65, 71] (by decide) (by decide) u
  · have := hw [69] (by decide) (by decide) ([91] ++ u)
    rw [hs [91] (by decide) u] at this
    refine (show wordsS (befS 15 ++ u) = _ from this).trans ?_
    cases wordsS u <;> rfl
  · have := hw [65] (by decide) (by decide) ([91] ++ u)
    rw [hs [91] (by decide) u] at this
    refine (show wordsS (befS 16 ++ u) = _ from this).trans ?_
    cases wordsS u <;> rfl
  · have := hw [69] (by decide) (by decide) ([91] ++ u)
    rw [hs [91] (by decide) u] at this
    refine (show wordsS (befS 17 ++ u) = _ from this).trans ?_
    cases wordsS u <;> rfl
  · have := hw [65] (by decide) (by decide) ([91] ++ u)
    rw [hs [91] (by decide) u] at this
    refine (show wordsS (befS 18 ++ u) = _ from this).trans ?_
    cases wordsS u <;> rfl
theorem words_bet {k : Int} (hk : kidsN k = some 2) (u : Bs) : wordsS (betS k ++ u) = (wordsS u).map (betT k ++ ·) ∧ Stops (betS k ++ u) := by
  have b32 : plainB 32 = false := by decide
  have bl : blankB 32 = true := by decide
  have hw : ∀ (w : Bs), w ≠ [] → w.all plainB = true → ∀ t, wordsS (32 :: (w ++ 32 :: t)) = (wordsS t).map ((1, w) :: ·) := by
    intro w h0 h1 t
    rw [wordsS_blank _ bl, words_word h0 h1 (stops_cons t b32), wordsS_blank t bl]
  have hs : ∀ (x : Bs), x ∈ signsL → ∀ t, wordsS (32 :: (x ++ 32 :: t)) = (wordsS t).map ((2, x) :: ·) := fun x hx t => by
    rw [wordsS_blank _ bl, words_sign hx, wordsS_blank t bl]
  have hcases : k = 5 ∨ k = 6 ∨ k = 7 ∨ k = 8 ∨ k = 15 ∨ k = 16 ∨ k = 17 ∨ k = 18 := by
    unfold kidsN at hk
    split at hk
    · cases hk
    · split at hk
      · cases hk
      · split at hk
        · omega
        · cases hk
  rcases hcases with rfl | rfl | rfl | rfl | rfl | rfl | rfl | rfl
  · exact ⟨hs [38] (by decide) u, stops_cons _ b32⟩
  · exact ⟨hs [124] (by decide) u, stops_cons _ b32⟩
  · exact ⟨hs [45, 62] (by decide) u, stops_cons _ b32⟩
  · exact ⟨hs [60, 45, 62] (by decide) u, stops_cons _ b32⟩
  · exact ⟨hw [85] (by decide) (by decide) u, stops_cons _ b32⟩
  · exact ⟨hw [85] (by decide) (by decide) u, stops_cons _ b32⟩
  · exact ⟨hw [82] (by decide) (by decide) u, stops_cons _ b32⟩
  · exact ⟨hw [82] (by decide) (by decide) u, stops_cons _ b32⟩
theorem words_beh (k : Int) (u : Bs) (hu : Stops u) : wordsS (behS k ++ u) = (wordsS u).map (behT k ++ ·) ∧ Stops (behS k ++ u) := by
  unfold behS behT
  by_cases h : 15 ≤ k ∧ k ≤ 18
  · rw [if_pos h, if_pos h]
    exact ⟨words_sign (x := [93]) (by decide), stops_cons _ (by decide)⟩
  · rw [if_neg h, if_neg h]
    refine ⟨?_, hu⟩
    cases h : wordsS u <;> simp [h]
/-- What a formula's text is as tokens, whatever is behind it. -/
def TextOk (f : F) : Prop := f.okB = true → ∀ u, Stops u → wordsS (f.text ++ u) = (wordsS u).map (f.toks ++ ·)
theorem part_ok {f : F} (h : TextOk f) (hok : f.okB = true) (u : Bs) (hu : Stops u) : wordsS (parS f.k f.text ++ u) = (wordsS u).map (parT f.k f.toks ++ ·) := by
  unfold parS parT
  by_cases hl : looseB f.k = true
  · rw [if_pos hl, if_pos hl]
    have e : (40 :: (f.text ++ [41])) ++ u = [40] ++ (f.text ++ ([41] ++ u)) := by simp
    rw [e, words_sign (x := [40]) (by decide), h hok ([41] ++ u) (stops_cons u (by decide)), words_sign (x := [41]) (by decide)]
    cases wordsS u <;> simp
  · rw [if_neg hl, if_neg hl]
    exact h hok u hu
theorem textL_ok (k : Int) (_hk : kidsN k = some 2 ∨ kidsN k = some 1) : ∀ (ks : List F), (∀ f ∈ ks, TextOk f ∧ f.okB = true) → ∀ (b : Bool), (b = false ∧ ks ≠ [] ∨ 2 ≤ ks.length → kidsN k = some 2) → ∀ u, Stops u →
    wordsS (textL k b ks ++ u) = (wordsS u).map (toksL k b ks ++ ·) ∧ (ks = [] ∨ b = false → Stops (textL k b ks ++ u)) := by
  intro ks
  induction ks with
  | nil =>
    intro _ b _ u hu
    refine ⟨?_, fun _ => hu⟩
    cases h : wordsS u <;> simp [textL, toksL, h]
  | cons f r ih =>
    intro hf b hb u hu
    have hr := ih (fun g hg => hf g (List.mem_cons_of_mem _ hg)) false (fun h => hb (Or.inr (by
      rcases h with h | h
      · have : 1 ≤ r.length := by
          cases r with
          | nil => exact absurd rfl h.2
          | cons _ _ => simp
        simp; omega
      · simp; omega))) u hu
    have hst : Stops (textL k false r ++ u) := hr.2 (Or.inr rfl)
    have hp := part_ok (hf f (List.mem_cons_self ..)).1 (hf f (List.mem_cons_self ..)).2 _ hst
    rw [hr.1] at hp
    cases b with
    | true =>
      refine ⟨?_, fun h => ?_⟩
      · simp only [textL, toksL, if_true, List.nil_append, List.append_assoc]
        rw [hp, map_app]
        simp
      · rcases h with h | h <;> cases h
    | false =>
      have h2 := hb (Or.inl ⟨rfl, by simp⟩)
      have hbt := words_bet h2 (parS f.k f.text ++ (textL k false r ++ u))
      refine ⟨?_, fun _ => ?_⟩
      · simp only [textL, toksL, Bool.false_eq_true, if_false, List.append_assoc]
        rw [hbt.1, hp, map_app, map_app]
        simp
      · simp only [textL, Bool.false_eq_true, if_false, List.append_assoc]
        exact hbt.2
theorem text_ok (f : F) : TextOk f := by
  induction f using F.ind with
  | h k nm lit ks ih =>
    intro hok u hu
    simp only [F.okB, Bool.and_eq_true, nodeB, decide_eq_true_eq] at hok
    obtain ⟨⟨hk, _, hnm⟩, hks⟩ := hok
    simp only [F.text, F.toks]
    by_cases h3 : k = 3
    · rw [if_pos h3, if_pos h3]
      rw [if_pos h3] at hnm
      rw [words_atom hnm hu, map_one]
    · rw [if_neg h3, if_neg h3]
      have hbh := words_beh k u hu
      have hfs : ∀ f ∈ ks, TextOk f ∧ f.okB = true := fun f hf => ⟨ih f hf, okL_mem hks f hf⟩
      cases ks with
      | nil =>
        have h0 : wordsS ((textL k true [] ++ behS k) ++ u) = (wordsS u).map ((toksL k true [] ++ behT k) ++ ·) := by
          simp only [textL, toksL, List.nil_append]
          exact hbh.1
        rw [List.append_assoc, words_bef hk h3 _ (fun _ => by simp only [textL, List.nil_append]; exact hbh.2), h0, map_app]
      | cons a r =>
        have hkk : kidsN k = some 2 ∨ kidsN k = some 1 := by
          unfold kidsN at hk ⊢
          split at hk
          · simp at hk
          · split at hk
            · rename_i h1 h2
              rw [if_neg h1, if_pos h2]
              exact Or.inr rfl
            · split at hk
              · rename_i h1 h2 h4
                rw [if_neg h1, if_neg h2, if_pos h4]
                exact Or.inl rfl
              · cases hk
        have hl := textL_ok k hkk (a :: r) hfs true (fun h => by
          rcases h with h | h
          · cases h.1
          · rw [hk]
            rcases hkk with h2 | h2
            · exact hk.symm.trans h2
            · have := hk.symm.trans h2
              simp at this
              subst this
              simp at h) (behS k ++ u) hbh.2
        have h12 : ¬ (k = 1 ∨ k = 2) := by
          rintro (rfl | rfl) <;> simp [kidsN] at hk
        rw [List.append_assoc, List.append_assoc, words_bef hk h3 _ (fun h => absurd h h12), hl.1, hbh.1, map_app, map_app]
        simp
theorem text_words {f : F} (h : f.okB = true) : wordsS f.text = some (f.toks ++ [(0, [])]) := by
  have := text_ok f h [] stops_nil
  rw [List.append_nil, wordsS_nil] at this
  exact this
end Fm
end Go.Proofs.YtlddnejjpekgeaaDoor
/- Formulas read: the mathematics; what is printed is read as it was. -/
namespace Go.Proofs.YtlddnejjpekgeaaDoor
namespace Fm
open Tk

abbrev Res := Except (Nat × Nat) (F × List Tok)
def leaf (k : Int) : F := .mk k [] 0 []
def un (k : Int) (f : F) : F := .mk k [] 0 [f]
def two (k : Int) (f g : F) : F := .mk k [] 0 [f, g]
/-- The next token: its text, its place, its kind. -/
def hdT : List Tok → Bs
  | [] => []
  | t :: _ => t.t
def hdA : List Tok → Nat
  | [] => 0
  | t :: _ => t.a
def hdK : List Tok → Nat
  | [] => 0
  | t :: _ => t.k
def mustT (x : Bs) (ts : List Tok) : Except (Nat × Nat) (List Tok) := if hdT ts = x then .ok ts.tail else .error (41, hdA ts)
def unKind (t : Bs) : Option Int := if t = [33] then some 4 else if t = [69, 88] then some 9 else if t = [65, 88] then some 10 else if t = [69, 70] then some 11 else if t = [65, 70] then some 12 else if t = [69, 71] then some 13 else if t = [65, 71] then some 14 else none
/-- A name's text without its quotes. -/
def trimQ (t : Bs) : Bs := if t.head? = some 34 then (t.drop 1).dropLast else t
def encS (pw : Nat → List Tok → Res) (d : Nat) (ts : List Tok) : Res :=
  match pw (d + 1) ts with
  | .error e => .error e
  | .ok (f, r) => match mustT [41] r with
    | .error e => .error e
    | .ok r' => .ok (f, r')
def secS (pw : Nat → List Tok → Res) (k : Int) (f : F) (d : Nat) (ts : List Tok) : Res :=
  match pw (d + 1) ts with
  | .error e => .error e
  | .ok (g, r) => match mustT [93] r with
    | .error e => .error e
    | .ok r' => .ok (two k f g, r')
def pathS (pw : Nat → List Tok → Res) (u v : Int) (d : Nat) (ts : List Tok) : Res :=
  match mustT [91] ts with
  | .error e => .error e
  | .ok r1 => match pw (d + 1) r1 with
    | .error e => .error e
    | .ok (f, r2) => if hdT r2 = [85] then secS pw u f d r2.tail else match mustT [82] r2 with
      | .error e => .error e
      | .ok r3 => secS pw v f d r3
def unaS (pp : Nat → List Tok → Res) (k : Int) (d : Nat) (ts : List Tok) : Res :=
  match pp (d + 1) ts with
  | .error e => .error e
  | .ok (f, r) => .ok (un k f, r)
def atomT (ts : List Tok) : Res := if hdK ts = 1 ∧ hdT ts ≠ [85] ∧ hdT ts ≠ [82] then .ok (.mk 3 (trimQ (hdT ts)) 0 [], ts.tail) else .error (41, hdA ts)
/-- A primary formula, by its first word and by what is read of them within. -/
def primT (pp pw : Nat → List Tok → Res) (d : Nat) (w : Bs) (ts : List Tok) : Res :=
  if w = [116, 114, 117, 101] then .ok (leaf 2, ts.tail) else
  if w = [102, 97, 108, 115, 101] then .ok (leaf 1, ts.tail) else
  match unKind w with
  | some k => unaS pp k d ts.tail
  | none =>
    if w = [69] then pathS pw 15 17 d ts.tail else
    if w = [65] then pathS pw 16 18 d ts.tail else
    if w = [40] then encS pw d ts.tail else atomT ts
def prim (pp pw : Nat → List Tok → Res) (d : Nat) (ts : List Tok) : Res := if 200 < d then .error (2, 0) else primT pp pw d (hdT ts) ts
/-- Parts with a sign between; the first number bounds them. -/
def loopG (x : Bs) (k : Int) (part : List Tok → Res) : Nat → F → List Tok → Res
  | 0, f, ts => .ok (f, ts)
  | n + 1, f, ts => if hdT ts = x then (match part ts.tail with
    | .error e => .error e
    | .ok (g, r) => loopG x k part n (two k f g) r) else .ok (f, ts)
def chainG (x : Bs) (k : Int) (part : List Tok → Res) (ts : List Tok) : Res :=
  match part ts with
  | .error e => .error e
  | .ok (f, r) => loopG x k part r.length f r
def andG (pp : Nat → List Tok → Res) (d : Nat) (ts : List Tok) : Res := chainG [38] 5 (pp d) ts
def orG (pp : Nat → List Tok → Res) (d : Nat) (ts : List Tok) : Res := chainG [124] 6 (andG pp d) ts
def impG (pp : Nat → List Tok → Res) : Nat → Nat → List Tok → Res
  | 0, _, _ => .error (99, 0)
  | n + 1, d, ts => match orG pp d ts with
    | .error e => .error e
    | .ok (f, r) => if hdT r = [45, 62] then (match impG pp n (d + 1) r.tail with
      | .error e => .error e
      | .ok (g, r') => .ok (two 7 f g, r')) else .ok (f, r)
def wholeG (pp : Nat → List Tok → Res) (d : Nat) (ts : List Tok) : Res := chainG [60, 45, 62] 8 (fun ts => impG pp (ts.length + 1) d ts) ts
/-- A primary formula; the first number bounds how much is read. -/
def pP : Nat → Nat → List Tok → Res
  | 0, _, _ => .error (99, 0)
  | n + 1, d, ts => prim (pP n) (wholeG (pP n)) d ts
/-- The formula of some tokens. -/
def parseT (ts : List Tok) : Except (Nat × Nat) F :=
  match wholeG (pP (ts.length + 1)) 0 ts with
  | .error e => .error e
  | .ok (f, r) => if hdK r = 0 then (if validB f = true then .ok f else .error (2, 0)) else .error (41, hdA r)
/-- What Parse answers. -/
def parseS (s : Bs) : Except (Nat × Nat) F :=
  match lexA s with
  | (ts, 0, _) => parseT ts
  | (_, e, a) => .error (e, a)

/-- No sign of two parts stands here. -/
def NoOp (ts : List Tok) : Prop := hdT ts ≠ [38] ∧ hdT ts ≠ [124] ∧ hdT ts ≠ [45, 62] ∧ hdT ts ≠ [60, 45, 62]
theorem loop_no {x : Bs} {k : Int} {part : List Tok → Res} {n : Nat} {f : F} {ts : List Tok} (h : hdT ts ≠ x) : loopG x k part n f ts = .ok (f, ts) := by
  cases n with
  | zero => rfl
  | succ n => rw [loopG, if_neg h]
theorem loop_one {x : Bs} {k : Int} {part : List Tok → Res} {f g : F} {t : Tok} {ts r : List Tok} (ht : t.t = x) (hp : part ts = .ok (g, r)) (hr : hdT r ≠ x) : loopG x k part (t :: ts).length f (t :: ts) = .ok (two k f g, r) := by
  rw [List.length_cons, loopG, if_pos (show hdT (t :: ts) = x from ht)]
  simp only [List.tail_cons]
  rw [hp]
  exact loop_no hr
theorem chain_no {x : Bs} {k : Int} {part : List Tok → Res} {f : F} {ts r : List Tok} (hp : part ts = .ok (f, r)) (hr : hdT r ≠ x) : chainG x k part ts = .ok (f, r) := by
  unfold chainG
  rw [hp]
  exact loop_no hr
theorem chain_one {x : Bs} {k : Int} {part : List Tok → Res} {f g : F} {t : Tok} {ts r r' : List Tok} (hp : part ts = .ok (f, t :: r)) (ht : t.t = x) (hq : part r = .ok (g, r')) (hr : hdT r' ≠ x) : chainG x k part ts = .ok (two k f g, r') := by
  unfold chainG
  rw [hp]
  exact loop_one ht hq hr
theorem imp_no {pp : Nat → List Tok → Res} {n d : Nat} {f : F} {ts r : List Tok} (h : orG pp d ts = .ok (f, r)) (hr : hdT r ≠ [45, 62]) : impG pp (n + 1) d ts = .ok (f, r) := by
  rw [impG, h]
  simp only
  rw [if_neg hr]
theorem or_prim {pp : Nat → List Tok → Res} {d : Nat} {f : F} {ts r : List Tok} (h : pp d ts = .ok (f, r)) (h1 : hdT r ≠ [38]) (h2 : hdT r ≠ [124]) : orG pp d ts = .ok (f, r) := chain_no (chain_no h h1) h2
theorem whole_or {pp : Nat → List Tok → Res} {d : Nat} {f : F} {ts r : List Tok} (h : orG pp d ts = .ok (f, r)) (h3 : hdT r ≠ [45, 62]) (h4 : hdT r ≠ [60, 45, 62]) : wholeG pp d ts = .ok (f, r) := chain_no (imp_no h h3) h4
theorem whole_prim {pp : Nat → List Tok → Res} {d : Nat} {f : F} {ts r : List Tok} (h : pp d ts = .ok (f, r)) (hr : NoOp r) : wholeG pp d ts = .ok (f, r) := whole_or (or_prim h hr.1 hr.2.1) hr.2.2.1 hr.2.2.2
theorem whole_two {pp : Nat → List Tok → Res} {d : Nat} {k : Int} {f g : F} {t : Tok} {ts us r : List Tok} (hk : (k, t.t) = (5, [38]) ∨ (k, t.t) = (6, [124]) ∨ (k, t.t) = (7, [45, 62]) ∨ (k, t.t) = (8, [60, 45, 62]))
    (h : pp d ts = .ok (f, t :: us)) (hg : pp d us = .ok (g, r)) (hg' : pp (d + 1) us = .ok (g, r)) (hr : NoOp r) (hne : ts ≠ []) : wholeG pp d ts = .ok (two k f g, r) := by
  rcases hk with hk | hk | hk | hk
  · simp only [Prod.mk.injEq] at hk
    obtain ⟨rfl, ht⟩ := hk
    exact whole_or (chain_no (chain_one h ht hg hr.1) hr.2.1) hr.2.2.1 hr.2.2.2
  · simp only [Prod.mk.injEq] at hk
    obtain ⟨rfl, ht⟩ := hk
    refine whole_or (chain_one (chain_no h ?_) ht (chain_no hg hr.1) hr.2.1) hr.2.2.1 hr.2.2.2
    show t.t ≠ _
    rw [ht]
    decide
  · simp only [Prod.mk.injEq] at hk
    obtain ⟨rfl, ht⟩ := hk
    have h1 : orG pp d ts = .ok (f, t :: us) := or_prim h (by show t.t ≠ _; rw [ht]; decide) (by show t.t ≠ _; rw [ht]; decide)
    refine chain_no ?_ hr.2.2.2
    show impG pp (ts.length + 1) d ts = _
    have hl : ∃ m, ts.length = m + 1 := by
      cases ts with
      | nil => exact absurd rfl hne
      | cons _ _ => exact ⟨_, rfl⟩
    obtain ⟨m, hm⟩ := hl
    rw [impG, h1]
    simp only
    rw [if_pos (show hdT (t :: us) = _ from ht), List.tail_cons, hm, imp_no (or_prim hg' hr.1 hr.2.1) hr.2.2.1]
  · simp only [Prod.mk.injEq] at hk
    obtain ⟨rfl, ht⟩ := hk
    have h1 : orG pp d ts = .ok (f, t :: us) := or_prim h (by show t.t ≠ _; rw [ht]; decide) (by show t.t ≠ _; rw [ht]; decide)
    exact chain_one (imp_no h1 (by show t.t ≠ _; rw [ht]; decide)) ht (imp_no (or_prim hg hr.1 hr.2.1) hr.2.2.1) hr.2.2.2
end Fm
end Go.Proofs.YtlddnejjpekgeaaDoor
