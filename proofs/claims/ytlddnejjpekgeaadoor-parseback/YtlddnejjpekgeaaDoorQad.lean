/- Formulas: the mathematics of their texts, and of these texts' tokens. -/
import Derived.Test.YtlddnejjpekgeaaDoorQac
namespace Go.Proofs.YtlddnejjpekgeaaDoor
namespace Fm
open Tk

def looseB (k : Int) : Bool := decide (5 ≤ k ∧ k ≤ 8)
def keysL : List Bs := [[116, 114, 117, 101], [102, 97, 108, 115, 101], [69], [65], [69, 88], [65, 88], [69, 70], [65, 70], [69, 71], [65, 71], [85], [82]]
def keyB (s : Bs) : Bool := keysL.contains s
def plainNm (s : Bs) : Bool := s.all plainB && !keyB s
def atomS (s : Bs) : Bs := if plainNm s = true then s else 34 :: (s ++ [34])
/-- The words of a kind: before, between, behind. -/
def befS (k : Int) : Bs := if k = 1 then [102, 97, 108, 115, 101] else if k = 2 then [116, 114, 117, 101] else if k = 4 then [33] else if k = 9 then [69, 88, 32] else if k = 10 then [65, 88, 32] else if k = 11 then [69, 70, 32] else if k = 12 then [65, 70, 32] else if k = 13 then [69, 71, 32] else if k = 14 then [65, 71, 32] else if k = 15 ∨ k = 17 then [69, 32, 91] else if k = 16 ∨ k = 18 then [65, 32, 91] else []
def betS (k : Int) : Bs := if k = 5 then [32, 38, 32] else if k = 6 then [32, 124, 32] else if k = 7 then [32, 45, 62, 32] else if k = 8 then [32, 60, 45, 62, 32] else if k = 15 ∨ k = 16 then [32, 85, 32] else if k = 17 ∨ k = 18 then [32, 82, 32] else []
def behS (k : Int) : Bs := if 15 ≤ k ∧ k ≤ 18 then [93] else []
def befT (k : Int) : List (Nat × Bs) := if k = 1 then [(1, [102, 97, 108, 115, 101])] else if k = 2 then [(1, [116, 114, 117, 101])] else if k = 4 then [(2, [33])] else if k = 9 then [(1, [69, 88])] else if k = 10 then [(1, [65, 88])] else if k = 11 then [(1, [69, 70])] else if k = 12 then [(1, [65, 70])] else if k = 13 then [(1, [69, 71])] else if k = 14 then [(1, [65, 71])] else if k = 15 ∨ k = 17 then [(1, [69]), (2, [91])] else if k = 16 ∨ k = 18 then [(1, [65]), (2, [91])] else []
def betT (k : Int) : List (Nat × Bs) := if k = 5 then [(2, [38])] else if k = 6 then [(2, [124])] else if k = 7 then [(2, [45, 62])] else if k = 8 then [(2, [60, 45, 62])] else if k = 15 ∨ k = 16 then [(1, [85])] else if k = 17 ∨ k = 18 then [(1, [82])] else []
def behT (k : Int) : List (Nat × Bs) := if 15 ≤ k ∧ k ≤ 18 then [(2, [93])] else []
def parS (k : Int) (t : Bs) : Bs := if looseB k = true then 40 :: (t ++ [41]) else t
def parT (k : Int) (t : List (Nat × Bs)) : List (Nat × Bs) := if looseB k = true then (2, [40]) :: (t ++ [(2, [41])]) else t
mutual
def F.text : F → Bs
  | .mk k nm _ ks => if k = 3 then atomS nm else befS k ++ (textL k true ks ++ behS k)
def textL (k : Int) : Bool → List F → Bs
  | _, [] => []
  | b, f :: r => (if b = true then [] else betS k) ++ (parS f.k f.text ++ textL k false r)
end
mutual
def F.toks : F → List (Nat × Bs)
  | .mk k nm _ ks => if k = 3 then [(1, atomS nm)] else befT k ++ (toksL k true ks ++ behT k)
def toksL (k : Int) : Bool → List F → List (Nat × Bs)
  | _, [] => []
  | b, f :: r => (if b = true then [] else betT k) ++ (parT f.k f.toks ++ toksL k false r)
end

/-- No word goes on here. -/
def Stops (u : Bs) : Prop := ∀ b t, u = b :: t → plainB b = false
theorem stops_nil : Stops [] := by intro b t h; cases h
theorem stops_cons {b : UInt8} (t : Bs) (h : plainB b = false) : Stops (b :: t) := by intro c t' e; injection e with e1; subst e1; exact h
theorem run_word {w u : Bs} (hw : w.all plainB = true) (hu : Stops u) : runS plainB (w ++ u) = w.length := by
  induction w with
  | nil =>
    cases u with
    | nil => rfl
    | cons b t =>
      rw [List.nil_append, runS, if_neg (by rw [hu b t rfl]; simp)]
      rfl
  | cons a w ih =>
    simp only [List.all_cons, Bool.and_eq_true] at hw
    rw [List.cons_append, runS, if_pos hw.1, ih hw.2, List.length_cons]
theorem plain_blank {b : UInt8} (h : plainB b = true) : blankB b = false := by
  simp only [plainB, blankB, decide_eq_true_eq, decide_eq_false_iff_not] at h ⊢
  omega
theorem words_word {w u : Bs} (h0 : w ≠ []) (hw : w.all plainB = true) (hu : Stops u) : wordsS (w ++ u) = (wordsS u).map ((1, w) :: ·) := by
  cases w with
  | nil => exact absurd rfl h0
  | cons b w =>
    have hb : blankB b = false := by
      simp only [List.all_cons, Bool.and_eq_true] at hw
      exact plain_blank hw.1
    have hf : firstS (b :: (w ++ u)) = (1, (b :: w).length) := by
      have := run_word hw hu
      rw [List.cons_append] at this
      unfold firstS
      rw [this, if_pos (by simp)]
    rw [List.cons_append, wordsS_tok (w ++ u) hb (by rw [hf]; simp), hf]
    simp only
    rw [← List.cons_append, List.drop_left, List.take_left]
theorem sign_first : ∀ x ∈ signsL, ∀ b t, x = b :: t → plainB b = false ∧ blankB b = false ∧ b ≠ 34 := by
  intro x hx b t e
  have : (signsL.all fun x => match x with | [] => true | b :: _ => !plainB b && !blankB b && decide (b ≠ 34)) = true := by decide
  have := List.all_eq_true.1 this x hx
  rw [e] at this
  simp only [Bool.and_eq_true, Bool.not_eq_true', decide_eq_true_eq] at this
  exact ⟨this.1.1, this.1.2, this.2⟩
theorem sign_in {x u : Bs} (hx : x ∈ signsL) : signS (x ++ u) = x.length := by
  simp only [signsL, List.mem_cons, List.not_mem_nil, or_false] at hx
  rcases hx with rfl | rfl | rfl | rfl | rfl | rfl | rfl | rfl | rfl <;> simp [signS, signsL, signIn, List.isPrefixOf]
theorem words_sign {x u : Bs} (hx : x ∈ signsL) : wordsS (x ++ u) = (wordsS u).map ((2, x) :: ·) := by
  have hne : x ≠ [] := by
    rintro rfl
    revert hx
    decide
  cases x with
  | nil => exact absurd rfl hne
  | cons b t =>
    obtain ⟨h1, h2, h3⟩ := sign_first _ hx b t rfl
    have hs := sign_in (u := u) hx
    rw [List.cons_append] at hs
    have hf : firstS (b :: (t ++ u)) = (2, (b :: t).length) := by
      unfold firstS
      have e1 : runS plainB (b :: (t ++ u)) = 0 := by rw [runS, if_neg (by rw [h1]; simp)]
      have e2 : quotedS (b :: (t ++ u)) = 0 := by
        unfold quotedS
        rw [if_neg]
        rintro ⟨h, _⟩
        simp at h
        exact h3 h
      rw [e1, e2, hs]
      simp
    rw [List.cons_append, wordsS_tok (t ++ u) h2 (by rw [hf]; simp), hf]
    simp only
    rw [← List.cons_append, List.drop_left, List.take_left]
theorem run_quot {w : Bs} (hw : w.all quotB = true) (u : Bs) : runS quotB (w ++ 34 :: u) = w.length := by
  induction w with
  | nil =>
    rw [List.nil_append, runS, if_neg (by decide)]
    rfl
  | cons a w ih =>
    simp only [List.all_cons, Bool.and_eq_true] at hw
    rw [List.cons_append, runS, if_pos hw.1, ih hw.2, List.length_cons]
theorem words_quote {w u : Bs} (h0 : w ≠ []) (hw : w.all quotB = true) : wordsS ((34 :: (w ++ [34])) ++ u) = (wordsS u).map ((1, 34 :: (w ++ [34])) :: ·) := by
  have hr := run_quot hw u
  have hl : w.length ≠ 0 := by
    intro h
    exact h0 (List.length_eq_zero_iff.1 h)
  have hf : firstS (34 :: (w ++ 34 :: u)) = (1, (34 :: (w ++ [34])).length) := by
    unfold firstS
    have e1 : runS plainB (34 :: (w ++ 34 :: u)) = 0 := by rw [runS, if_neg (by decide)]
    have e2 : quotedS (34 :: (w ++ 34 :: u)) = w.length + 2 := by
      unfold quotedS
      rw [if_pos]
      · simp only [List.drop_succ_cons, List.drop_zero]
        rw [hr]
      · simp only [List.drop_succ_cons, List.drop_zero]
        rw [hr]
        refine ⟨rfl, hl, ?_⟩
        rw [List.getElem?_append_right (Nat.le_refl _), Nat.sub_self]
        rfl
    rw [e1, e2]
    simp
  have e : (34 :: (w ++ [34])) ++ u = 34 :: (w ++ 34 :: u) := by simp
  rw [e, wordsS_tok (w ++ 34 :: u) (by decide) (by rw [hf]; simp), hf, ← e]
  simp only
  rw [List.drop_left, List.take_left]
theorem words_atom {s u : Bs} (h : wordB s = true) (hu : Stops u) : wordsS (atomS s ++ u) = (wordsS u).map ((1, atomS s) :: ·) := by
  simp only [wordB, Bool.and_eq_true, decide_eq_true_eq] at h
  have h0 : s ≠ [] := by
    rintro rfl
    simp at h
  unfold atomS
  by_cases hp : plainNm s = true
  · rw [if_pos hp]
    simp only [plainNm, Bool.and_eq_true] at hp
    exact words_word h0 hp.1 hu
  · rw [if_neg hp]
    exact words_quote h0 h.2.2
theorem map_app {α : Type} (o : Option (List α)) (a b : List α) : (o.map (b ++ ·)).map (a ++ ·) = o.map ((a ++ b) ++ ·) := by
  cases o <;> simp
theorem map_one {α : Type} (o : Option (List α)) (a : α) : o.map (a :: ·) = o.map ([a] ++ ·) := by
  cases o <;> rfl
theorem words_bef {k : Int} {n : Nat} (hk : kidsN k = some n) (h3 : k ≠ 3) (u : Bs) (hu : (k = 1 ∨ k = 2) → Stops u) : wordsS (befS k ++ u) = (wordsS u).map (befT k ++ ·) := by
  have b32 : plainB 32 = false := by decide
  have bl : blankB 32 = true := by decide
  have hw : ∀ (w : Bs), w ≠ [] → w.all plainB = true → ∀ t, wordsS (w ++ 32 :: t) = (wordsS t).map ((1, w) :: ·) := by
    intro w h0 h1 t
    rw [words_word h0 h1 (stops_cons t b32), wordsS_blank t bl]
  have hs : ∀ (x : Bs), x ∈ signsL → ∀ t, wordsS (x ++ t) = (wordsS t).map ((2, x) :: ·) := fun x hx t => words_sign hx
  have hr : 1 ≤ k ∧ k ≤ 18 := by
    unfold kidsN at hk
    split at hk
    · omega
    · split at hk
      · omega
      · split at hk
        · omega
        · cases hk
  have hcases : k = 1 ∨ k = 2 ∨ k = 4 ∨ k = 5 ∨ k = 6 ∨ k = 7 ∨ k = 8 ∨ k = 9 ∨ k = 10 ∨ k = 11 ∨ k = 12 ∨ k = 13 ∨ k = 14 ∨ k = 15 ∨ k = 16 ∨ k = 17 ∨ k = 18 := by omega
  rcases hcases with rfl | rfl | rfl | rfl | rfl | rfl | rfl | rfl | rfl | rfl | rfl | rfl | rfl | rfl | rfl | rfl | rfl
  · exact words_word (w := [102, 97, 108, 115, 101]) (by decide) (by decide) (hu (Or.inl rfl))
  · exact words_word (w := [116, 114, 117, 101]) (by decide) (by decide) (hu (Or.inr rfl))
  · exact hs [33] (by decide) u
  · cases h : wordsS u <;> simp [befS, befT, h]
  · cases h : wordsS u <;> simp [befS, befT, h]
  · cases h : wordsS u <;> simp [befS, befT, h]
  · cases h : wordsS u <;> simp [befS, befT, h]
  · exact hw [69, 88] (by decide) (by decide) u
  · exact hw [65, 88] (by decide) (by decide) u
  · exact hw [69, 70] (by decide) (by decide) u
  · exact hw [65, 70] (by decide) (by decide) u
  · exact hw [69, 71] (by decide) (by decide) u
  · exact hw [65, 71] (by decide) (by decide) u
  · have := hw [69] (by decide) (by decide) ([91] ++ u)
    rw [hs [91] (by decide) u] at this
    refine (show wordsS (befS 15 ++ u) = _ from this).trans ?_
    cases wordsS u <;> rfl
  · have := hw [65] (by decide) (by decide) ([91] ++ u)
    rw [hs [91] (by decide) u] at this
    refine (show wordsS (befS 16 ++ u) = _ from this).trans ?_
    cases wordsS u <;> rfl
  · have := hw [69] (by decide) (by decide) ([91] ++ u)
    rw [hs [91] (by decide) u] at this
    refine (show wordsS (befS 17 ++ u) = _ from this).trans ?_
    cases wordsS u <;> rfl
  · have := hw [65] (by decide) (by decide) ([91] ++ u)
    rw [hs [91] (by decide) u] at this
    refine (show wordsS (befS 18 ++ u) = _ from this).trans ?_
    cases wordsS u <;> rfl
theorem words_bet {k : Int} (hk : kidsN k = some 2) (u : Bs) : wordsS (betS k ++ u) = (wordsS u).map (betT k ++ ·) ∧ Stops (betS k ++ u) := by
  have b32 : plainB 32 = false := by decide
  have bl : blankB 32 = true := by decide
  have hw : ∀ (w : Bs), w ≠ [] → w.all plainB = true → ∀ t, wordsS (32 :: (w ++ 32 :: t)) = (wordsS t).map ((1, w) :: ·) := by
    intro w h0 h1 t
    rw [wordsS_blank _ bl, words_word h0 h1 (stops_cons t b32), wordsS_blank t bl]
  have hs : ∀ (x : Bs), x ∈ signsL → ∀ t, wordsS (32 :: (x ++ 32 :: t)) = (wordsS t).map ((2, x) :: ·) := fun x hx t => by
    rw [wordsS_blank _ bl, words_sign hx, wordsS_blank t bl]
  have hcases : k = 5 ∨ k = 6 ∨ k = 7 ∨ k = 8 ∨ k = 15 ∨ k = 16 ∨ k = 17 ∨ k = 18 := by
    unfold kidsN at hk
    split at hk
    · cases hk
    · split at hk
      · cases hk
      · split at hk
        · omega
        · cases hk
  rcases hcases with rfl | rfl | rfl | rfl | rfl | rfl | rfl | rfl
  · exact ⟨hs [38] (by decide) u, stops_cons _ b32⟩
  · exact ⟨hs [124] (by decide) u, stops_cons _ b32⟩
  · exact ⟨hs [45, 62] (by decide) u, stops_cons _ b32⟩
  · exact ⟨hs [60, 45, 62] (by decide) u, stops_cons _ b32⟩
  · exact ⟨hw [85] (by decide) (by decide) u, stops_cons _ b32⟩
  · exact ⟨hw [85] (by decide) (by decide) u, stops_cons _ b32⟩
  · exact ⟨hw [82] (by decide) (by decide) u, stops_cons _ b32⟩
  · exact ⟨hw [82] (by decide) (by decide) u, stops_cons _ b32⟩
theorem words_beh (k : Int) (u : Bs) (hu : Stops u) : wordsS (behS k ++ u) = (wordsS u).map (behT k ++ ·) ∧ Stops (behS k ++ u) := by
  unfold behS behT
  by_cases h : 15 ≤ k ∧ k ≤ 18
  · rw [if_pos h, if_pos h]
    exact ⟨words_sign (x := [93]) (by decide), stops_cons _ (by decide)⟩
  · rw [if_neg h, if_neg h]
    refine ⟨?_, hu⟩
    cases h : wordsS u <;> simp [h]
/-- What a formula's text is as tokens, whatever is behind it. -/
def TextOk (f : F) : Prop := f.okB = true → ∀ u, Stops u → wordsS (f.text ++ u) = (wordsS u).map (f.toks ++ ·)
theorem part_ok {f : F} (h : TextOk f) (hok : f.okB = true) (u : Bs) (hu : Stops u) : wordsS (parS f.k f.text ++ u) = (wordsS u).map (parT f.k f.toks ++ ·) := by
  unfold parS parT
  by_cases hl : looseB f.k = true
  · rw [if_pos hl, if_pos hl]
    have e : (40 :: (f.text ++ [41])) ++ u = [40] ++ (f.text ++ ([41] ++ u)) := by simp
    rw [e, words_sign (x := [40]) (by decide), h hok ([41] ++ u) (stops_cons u (by decide)), words_sign (x := [41]) (by decide)]
    cases wordsS u <;> simp
  · rw [if_neg hl, if_neg hl]
    exact h hok u hu
theorem textL_ok (k : Int) (_hk : kidsN k = some 2 ∨ kidsN k = some 1) : ∀ (ks : List F), (∀ f ∈ ks, TextOk f ∧ f.okB = true) → ∀ (b : Bool), (b = false ∧ ks ≠ [] ∨ 2 ≤ ks.length → kidsN k = some 2) → ∀ u, Stops u →
    wordsS (textL k b ks ++ u) = (wordsS u).map (toksL k b ks ++ ·) ∧ (ks = [] ∨ b = false → Stops (textL k b ks ++ u)) := by
  intro ks
  induction ks with
  | nil =>
    intro _ b _ u hu
    refine ⟨?_, fun _ => hu⟩
    cases h : wordsS u <;> simp [textL, toksL, h]
  | cons f r ih =>
    intro hf b hb u hu
    have hr := ih (fun g hg => hf g (List.mem_cons_of_mem _ hg)) false (fun h => hb (Or.inr (by
      rcases h with h | h
      · have : 1 ≤ r.length := by
          cases r with
          | nil => exact absurd rfl h.2
          | cons _ _ => simp
        simp; omega
      · simp; omega))) u hu
    have hst : Stops (textL k false r ++ u) := hr.2 (Or.inr rfl)
    have hp := part_ok (hf f (List.mem_cons_self ..)).1 (hf f (List.mem_cons_self ..)).2 _ hst
    rw [hr.1] at hp
    cases b with
    | true =>
      refine ⟨?_, fun h => ?_⟩
      · simp only [textL, toksL, if_true, List.nil_append, List.append_assoc]
        rw [hp, map_app]
        simp
      · rcases h with h | h <;> cases h
    | false =>
      have h2 := hb (Or.inl ⟨rfl, by simp⟩)
      have hbt := words_bet h2 (parS f.k f.text ++ (textL k false r ++ u))
      refine ⟨?_, fun _ => ?_⟩
      · simp only [textL, toksL, Bool.false_eq_true, if_false, List.append_assoc]
        rw [hbt.1, hp, map_app, map_app]
        simp
      · simp only [textL, Bool.false_eq_true, if_false, List.append_assoc]
        exact hbt.2
theorem text_ok (f : F) : TextOk f := by
  induction f using F.ind with
  | h k nm lit ks ih =>
    intro hok u hu
    simp only [F.okB, Bool.and_eq_true, nodeB, decide_eq_true_eq] at hok
    obtain ⟨⟨hk, _, hnm⟩, hks⟩ := hok
    simp only [F.text, F.toks]
    by_cases h3 : k = 3
    · rw [if_pos h3, if_pos h3]
      rw [if_pos h3] at hnm
      rw [words_atom hnm hu, map_one]
    · rw [if_neg h3, if_neg h3]
      have hbh := words_beh k u hu
      have hfs : ∀ f ∈ ks, TextOk f ∧ f.okB = true := fun f hf => ⟨ih f hf, okL_mem hks f hf⟩
      cases ks with
      | nil =>
        have h0 : wordsS ((textL k true [] ++ behS k) ++ u) = (wordsS u).map ((toksL k true [] ++ behT k) ++ ·) := by
          simp only [textL, toksL, List.nil_append]
          exact hbh.1
        rw [List.append_assoc, words_bef hk h3 _ (fun _ => by simp only [textL, List.nil_append]; exact hbh.2), h0, map_app]
      | cons a r =>
        have hkk : kidsN k = some 2 ∨ kidsN k = some 1 := by
          unfold kidsN at hk ⊢
          split at hk
          · simp at hk
          · split at hk
            · rename_i h1 h2
              rw [if_neg h1, if_pos h2]
              exact Or.inr rfl
            · split at hk
              · rename_i h1 h2 h4
                rw [if_neg h1, if_neg h2, if_pos h4]
                exact Or.inl rfl
              · cases hk
        have hl := textL_ok k hkk (a :: r) hfs true (fun h => by
          rcases h with h | h
          · cases h.1
          · rw [hk]
            rcases hkk with h2 | h2
            · exact hk.symm.trans h2
            · have := hk.symm.trans h2
              simp at this
              subst this
              simp at h) (behS k ++ u) hbh.2
        have h12 : ¬ (k = 1 ∨ k = 2) := by
          rintro (rfl | rfl) <;> simp [kidsN] at hk
        rw [List.append_assoc, List.append_assoc, words_bef hk h3 _ (fun h => absurd h h12), hl.1, hbh.1, map_app, map_app]
        simp
theorem text_words {f : F} (h : f.okB = true) : wordsS f.text = some (f.toks ++ [(0, [])]) := by
  have := text_ok f h [] stops_nil
  rw [List.append_nil, wordsS_nil] at this
  exact this
end Fm
end Go.Proofs.YtlddnejjpekgeaaDoor
/- Formulas read: the mathematics; what is printed is read as it was. -/
namespace Go.Proofs.YtlddnejjpekgeaaDoor
namespace Fm
open Tk

abbrev Res := Except (Nat × Nat) (F × List Tok)
def leaf (k : Int) : F := .mk k [] 0 []
def un (k : Int) (f : F) : F := .mk k [] 0 [f]
def two (k : Int) (f g : F) : F := .mk k [] 0 [f, g]
/-- The next token: its text, its place, its kind. -/
def hdT : List Tok → Bs
  | [] => []
  | t :: _ => t.t
def hdA : List Tok → Nat
  | [] => 0
  | t :: _ => t.a
def hdK : List Tok → Nat
  | [] => 0
  | t :: _ => t.k
def mustT (x : Bs) (ts : List Tok) : Except (Nat × Nat) (List Tok) := if hdT ts = x then .ok ts.tail else .error (41, hdA ts)
def unKind (t : Bs) : Option Int := if t = [33] then some 4 else if t = [69, 88] then some 9 else if t = [65, 88] then some 10 else if t = [69, 70] then some 11 else if t = [65, 70] then some 12 else if t = [69, 71] then some 13 else if t = [65, 71] then some 14 else none
/-- A name's text without its quotes. -/
def trimQ (t : Bs) : Bs := if t.head? = some 34 then (t.drop 1).dropLast else t
def encS (pw : Nat → List Tok → Res) (d : Nat) (ts : List Tok) : Res :=
  match pw (d + 1) ts with
  | .error e => .error e
  | .ok (f, r) => match mustT [41] r with
    | .error e => .error e
    | .ok r' => .ok (f, r')
def secS (pw : Nat → List Tok → Res) (k : Int) (f : F) (d : Nat) (ts : List Tok) : Res :=
  match pw (d + 1) ts with
  | .error e => .error e
  | .ok (g, r) => match mustT [93] r with
    | .error e => .error e
    | .ok r' => .ok (two k f g, r')
def pathS (pw : Nat → List Tok → Res) (u v : Int) (d : Nat) (ts : List Tok) : Res :=
  match mustT [91] ts with
  | .error e => .error e
  | .ok r1 => match pw (d + 1) r1 with
    | .error e => .error e
    | .ok (f, r2) => if hdT r2 = [85] then secS pw u f d r2.tail else match mustT [82] r2 with
      | .error e => .error e
      | .ok r3 => secS pw v f d r3
def unaS (pp : Nat → List Tok → Res) (k : Int) (d : Nat) (ts : List Tok) : Res :=
  match pp (d + 1) ts with
  | .error e => .error e
  | .ok (f, r) => .ok (un k f, r)
def atomT (ts : List Tok) : Res := if hdK ts = 1 ∧ hdT ts ≠ [85] ∧ hdT ts ≠ [82] then .ok (.mk 3 (trimQ (hdT ts)) 0 [], ts.tail) else .error (41, hdA ts)
/-- A primary formula, by its first word and by what is read of them within. -/
def primT (pp pw : Nat → List Tok → Res) (d : Nat) (w : Bs) (ts : List Tok) : Res :=
  if w = [116, 114, 117, 101] then .ok (leaf 2, ts.tail) else
  if w = [102, 97, 108, 115, 101] then .ok (leaf 1, ts.tail) else
  match unKind w with
  | some k => unaS pp k d ts.tail
  | none =>
    if w = [69] then pathS pw 15 17 d ts.tail else
    if w = [65] then pathS pw 16 18 d ts.tail else
    if w = [40] then encS pw d ts.tail else atomT ts
def prim (pp pw : Nat → List Tok → Res) (d : Nat) (ts : List Tok) : Res := if 200 < d then .error (2, 0) else primT pp pw d (hdT ts) ts
/-- Parts with a sign between; the first number bounds them. -/
def loopG (x : Bs) (k : Int) (part : List Tok → Res) : Nat → F → List Tok → Res
  | 0, f, ts => .ok (f, ts)
  | n + 1, f, ts => if hdT ts = x then (match part ts.tail with
    | .error e => .error e
    | .ok (g, r) => loopG x k part n (two k f g) r) else .ok (f, ts)
def chainG (x : Bs) (k : Int) (part : List Tok → Res) (ts : List Tok) : Res :=
  match part ts with
  | .error e => .error e
  | .ok (f, r) => loopG x k part r.length f r
def andG (pp : Nat → List Tok → Res) (d : Nat) (ts : List Tok) : Res := chainG [38] 5 (pp d) ts
def orG (pp : Nat → List Tok → Res) (d : Nat) (ts : List Tok) : Res := chainG [124] 6 (andG pp d) ts
def impG (pp : Nat → List Tok → Res) : Nat → Nat → List Tok → Res
  | 0, _, _ => .error (99, 0)
  | n + 1, d, ts => match orG pp d ts with
    | .error e => .error e
    | .ok (f, r) => if hdT r = [45, 62] then (match impG pp n (d + 1) r.tail with
      | .error e => .error e
      | .ok (g, r') => .ok (two 7 f g, r')) else .ok (f, r)
def wholeG (pp : Nat → List Tok → Res) (d : Nat) (ts : List Tok) : Res := chainG [60, 45, 62] 8 (fun ts => impG pp (ts.length + 1) d ts) ts
/-- A primary formula; the first number bounds how much is read. -/
def pP : Nat → Nat → List Tok → Res
  | 0, _, _ => .error (99, 0)
  | n + 1, d, ts => prim (pP n) (wholeG (pP n)) d ts
/-- The formula of some tokens. -/
def parseT (ts : List Tok) : Except (Nat × Nat) F :=
  match wholeG (pP (ts.length + 1)) 0 ts with
  | .error e => .error e
  | .ok (f, r) => if hdK r = 0 then (if validB f = true then .ok f else .error (2, 0)) else .error (41, hdA r)
/-- What Parse answers. -/
def parseS (s : Bs) : Except (Nat × Nat) F :=
  match lexA s with
  | (ts, 0, _) => parseT ts
  | (_, e, a) => .error (e, a)

/-- No sign of two parts stands here. -/
def NoOp (ts : List Tok) : Prop := hdT ts ≠ [38] ∧ hdT ts ≠ [124] ∧ hdT ts ≠ [45, 62] ∧ hdT ts ≠ [60, 45, 62]
theorem loop_no {x : Bs} {k : Int} {part : List Tok → Res} {n : Nat} {f : F} {ts : List Tok} (h : hdT ts ≠ x) : loopG x k part n f ts = .ok (f, ts) := by
  cases n with
  | zero => rfl
  | succ n => rw [loopG, if_neg h]
theorem loop_one {x : Bs} {k : Int} {part : List Tok → Res} {f g : F} {t : Tok} {ts r : List Tok} (ht : t.t = x) (hp : part ts = .ok (g, r)) (hr : hdT r ≠ x) : loopG x k part (t :: ts).length f (t :: ts) = .ok (two k f g, r) := by
  rw [List.length_cons, loopG, if_pos (show hdT (t :: ts) = x from ht)]
  simp only [List.tail_cons]
  rw [hp]
  exact loop_no hr
theorem chain_no {x : Bs} {k : Int} {part : List Tok → Res} {f : F} {ts r : List Tok} (hp : part ts = .ok (f, r)) (hr : hdT r ≠ x) : chainG x k part ts = .ok (f, r) := by
  unfold chainG
  rw [hp]
  exact loop_no hr
theorem chain_one {x : Bs} {k : Int} {part : List Tok → Res} {f g : F} {t : Tok} {ts r r' : List Tok} (hp : part ts = .ok (f, t :: r)) (ht : t.t = x) (hq : part r = .ok (g, r')) (hr : hdT r' ≠ x) : chainG x k part ts = .ok (two k f g, r') := by
  unfold chainG
  rw [hp]
  exact loop_one ht hq hr
theorem imp_no {pp : Nat → List Tok → Res} {n d : Nat} {f : F} {ts r : List Tok} (h : orG pp d ts = .ok (f, r)) (hr : hdT r ≠ [45, 62]) : impG pp (n + 1) d ts = .ok (f, r) := by
  rw [impG, h]
  simp only
  rw [if_neg hr]
theorem or_prim {pp : Nat → List Tok → Res} {d : Nat} {f : F} {ts r : List Tok} (h : pp d ts = .ok (f, r)) (h1 : hdT r ≠ [38]) (h2 : hdT r ≠ [124]) : orG pp d ts = .ok (f, r) := chain_no (chain_no h h1) h2
theorem whole_or {pp : Nat → List Tok → Res} {d : Nat} {f : F} {ts r : List Tok} (h : orG pp d ts = .ok (f, r)) (h3 : hdT r ≠ [45, 62]) (h4 : hdT r ≠ [60, 45, 62]) : wholeG pp d ts = .ok (f, r) := chain_no (imp_no h h3) h4
theorem whole_prim {pp : Nat → List Tok → Res} {d : Nat} {f : F} {ts r : List Tok} (h : pp d ts = .ok (f, r)) (hr : NoOp r) : wholeG pp d ts = .ok (f, r) := whole_or (or_prim h hr.1 hr.2.1) hr.2.2.1 hr.2.2.2
theorem whole_two {pp : Nat → List Tok → Res} {d : Nat} {k : Int} {f g : F} {t : Tok} {ts us r : List Tok} (hk : (k, t.t) = (5, [38]) ∨ (k, t.t) = (6, [124]) ∨ (k, t.t) = (7, [45, 62]) ∨ (k, t.t) = (8, [60, 45, 62]))
    (h : pp d ts = .ok (f, t :: us)) (hg : pp d us = .ok (g, r)) (hg' : pp (d + 1) us = .ok (g, r)) (hr : NoOp r) (hne : ts ≠ []) : wholeG pp d ts = .ok (two k f g, r) := by
  rcases hk with hk | hk | hk | hk
  · simp only [Prod.mk.injEq] at hk
    obtain ⟨rfl, ht⟩ := hk
    exact whole_or (chain_no (chain_one h ht hg hr.1) hr.2.1) hr.2.2.1 hr.2.2.2
  · simp only [Prod.mk.injEq] at hk
    obtain ⟨rfl, ht⟩ := hk
    refine whole_or (chain_one (chain_no h ?_) ht (chain_no hg hr.1) hr.2.1) hr.2.2.1 hr.2.2.2
    show t.t ≠ _
    rw [ht]
    decide
  · simp only [Prod.mk.injEq] at hk
    obtain ⟨rfl, ht⟩ := hk
    have h1 : orG pp d ts = .ok (f, t :: us) := or_prim h (by show t.t ≠ _; rw [ht]; decide) (by show t.t ≠ _; rw [ht]; decide)
    refine chain_no ?_ hr.2.2.2
    show impG pp (ts.length + 1) d ts = _
    have hl : ∃ m, ts.length = m + 1 := by
      cases ts with
      | nil => exact absurd rfl hne
      | cons _ _ => exact ⟨_, rfl⟩
    obtain ⟨m, hm⟩ := hl
    rw [impG, h1]
    simp only
    rw [if_pos (show hdT (t :: us) = _ from ht), List.tail_cons, hm, imp_no (or_prim hg' hr.1 hr.2.1) hr.2.2.1]
  · simp only [Prod.mk.injEq] at hk
    obtain ⟨rfl, ht⟩ := hk
    have h1 : orG pp d ts = .ok (f, t :: us) := or_prim h (by show t.t ≠ _; rw [ht]; decide) (by show t.t ≠ _; rw [ht]; decide)
    exact chain_one (imp_no h1 (by show t.t ≠ _; rw [ht]; decide)) ht (imp_no (or_prim hg hr.1 hr.2.1) hr.2.2.1) hr.2.2.2
end Fm
end Go.Proofs.YtlddnejjpekgeaaDoor
/- What is printed of a formula is read as it was. -/
namespace Go.Proofs.YtlddnejjpekgeaaDoor
namespace Fm
open Tk

def kt (t : Tok) : Nat × Bs := (t.k, t.t)
theorem cons_ex {ts : List Tok} {a : Nat × Bs} {l : List (Nat × Bs)} (h : ts.map kt = a :: l) : ∃ t r, ts = t :: r ∧ kt t = a ∧ r.map kt = l := by
  cases ts with
  | nil => cases h
  | cons t r =>
    rw [List.map_cons, List.cons.injEq] at h
    exact ⟨t, r, rfl, h.1, h.2⟩
theorem app_ex {ts : List Tok} {a b : List (Nat × Bs)} (h : ts.map kt = a ++ b) : ∃ t r, ts = t ++ r ∧ t.map kt = a ∧ r.map kt = b := by
  obtain ⟨t, r, e, h1, h2⟩ := List.map_eq_append_iff.1 h
  exact ⟨t, r, e, h1, h2⟩
def GoodA (f : F) : Prop := looseB f.k = false → ∀ (n d : Nat) (ts rest : List Tok), ts.map kt = f.toks → ts.length ≤ n → d + 2 * f.dep ≤ 202 → pP n d (ts ++ rest) = .ok (f, rest)
def GoodB (f : F) : Prop := ∀ (n d : Nat) (ts rest : List Tok), ts.map kt = f.toks → ts.length ≤ n → d + 2 * f.dep ≤ 202 → NoOp rest → wholeG (pP n) d (ts ++ rest) = .ok (f, rest)
def GoodC (f : F) : Prop := ∀ (n d : Nat) (ts rest : List Tok), ts.map kt = parT f.k f.toks → ts.length ≤ n → d + 2 * f.dep ≤ 201 → pP n d (ts ++ rest) = .ok (f, rest)
theorem dep_pos (f : F) : 1 ≤ f.dep := by
  cases f
  simp only [F.dep]
  omega
theorem must_ok {x : Bs} {t : Tok} (r : List Tok) (h : t.t = x) : mustT x (t :: r) = .ok r := by
  unfold mustT
  rw [if_pos (show hdT (t :: r) = x from h)]
  rfl
theorem prim_at {n d : Nat} {w : Bs} {t : Tok} {us : List Tok} (hd : ¬ 200 < d) (ht : t.t = w) : pP (n + 1) d (t :: us) = primT (pP n) (wholeG (pP n)) d w (t :: us) := by
  subst ht
  rw [pP, prim, if_neg hd]
  rfl
theorem enc_ok {n d : Nat} {f : F} {t : Tok} {us rest : List Tok} (hd : ¬ 200 < d) (ht : t.t = [40]) (h : ∃ c, c.t = [41] ∧ wholeG (pP n) (d + 1) us = .ok (f, c :: rest)) : pP (n + 1) d (t :: us) = .ok (f, rest) := by
  obtain ⟨c, hc, h⟩ := h
  rw [prim_at hd ht]
  show encS (wholeG (pP n)) d us = _
  unfold encS
  rw [h]
  simp only
  rw [must_ok rest hc]
theorem goodC_of {f : F} (hA : GoodA f) (hB : GoodB f) : GoodC f := by
  intro n d ts rest hts hn hd
  have hp := dep_pos f
  unfold parT at hts
  by_cases hl : looseB f.k = true
  · rw [if_pos hl] at hts
    obtain ⟨t, r, rfl, h1, h2⟩ := cons_ex hts
    obtain ⟨u, v, rfl, h3, h4⟩ := app_ex h2
    obtain ⟨c, v', rfl, h5, h6⟩ := cons_ex h4
    have hv : v' = [] := by simpa using h6
    subst hv
    simp only [List.length_cons, List.length_append, List.length_nil] at hn
    obtain ⟨m, rfl⟩ : ∃ m, n = m + 1 := ⟨n - 1, by omega⟩
    simp only [kt, Prod.mk.injEq] at h1 h5
    have e : t :: (u ++ [c]) ++ rest = t :: (u ++ (c :: rest)) := by simp
    rw [e]
    refine enc_ok (by omega) h1.2 ⟨c, h5.2, ?_⟩
    refine hB m (d + 1) u (c :: rest) h3 (by omega) (by omega) ?_
    refine ⟨?_, ?_, ?_, ?_⟩ <;> (show c.t ≠ _; rw [h5.2]; decide)
  · rw [if_neg hl] at hts
    exact hA (by simpa using hl) n d ts rest hts hn (by omega)
theorem atom_not {s : Bs} (h : wordB s = true) : (∀ x ∈ keysL, atomS s ≠ x) ∧ atomS s ≠ [33] ∧ atomS s ≠ [40] ∧ trimQ (atomS s) = s := by
  simp only [wordB, Bool.and_eq_true, decide_eq_true_eq] at h
  unfold atomS
  by_cases hp : plainNm s = true
  · rw [if_pos hp]
    simp only [plainNm, Bool.and_eq_true, Bool.not_eq_true', keyB] at hp
    have hh : ∀ b t, s = b :: t → plainB b = true := by
      intro b t e
      have := hp.1
      rw [e, List.all_cons, Bool.and_eq_true] at this
      exact this.1
    refine ⟨?_, ?_, ?_, ?_⟩
    · rintro x hx rfl
      have := hp.2
      rw [List.contains_iff_mem.2 hx] at this
      cases this
    · intro e
      exact absurd (hh _ _ e) (by decide)
    · intro e
      exact absurd (hh _ _ e) (by decide)
    · unfold trimQ
      cases s with
      | nil => rfl
      | cons b t =>
        rw [if_neg]
        intro e
        simp at e
        subst e
        exact absurd (hh _ _ rfl) (by decide)
  · rw [if_neg hp]
    refine ⟨?_, ?_, ?_, ?_⟩
    · intro x hx e
      have : (keysL.all fun x => match x with | [] => true | b :: _ => decide (b ≠ 34)) = true := by decide
      have := List.all_eq_true.1 this x hx
      rw [← e] at this
      simp at this
    · intro e
      injection e with e1
      exact absurd e1 (by decide)
    · intro e
      injection e with e1
      exact absurd e1 (by decide)
    · unfold trimQ
      rw [if_pos (show (34 :: (s ++ [34])).head? = some 34 from rfl)]
      simp
theorem atom_ok {n d : Nat} {s : Bs} {t : Tok} {rest : List Tok} (h : wordB s = true) (hd : ¬ 200 < d) (ht : kt t = (1, atomS s)) : pP (n + 1) d (t :: rest) = .ok (.mk 3 s 0 [], rest) := by
  obtain ⟨h1, h2, h3, h4⟩ := atom_not h
  simp only [kt, Prod.mk.injEq] at ht
  rw [prim_at hd ht.2]
  have hk : ∀ x ∈ keysL, ¬ atomS s = x := h1
  simp only [keysL, List.mem_cons, List.not_mem_nil, or_false, forall_eq_or_imp, forall_eq] at hk
  obtain ⟨k1, k2, k3, k4, k5, k6, k7, k8, k9, k10, k11, k12⟩ := hk
  have hu : unKind (atomS s) = none := by
    unfold unKind
    rw [if_neg h2, if_neg k5, if_neg k6, if_neg k7, if_neg k8, if_neg k9, if_neg k10]
  unfold primT
  rw [if_neg k1, if_neg k2, hu]
  simp only
  rw [if_neg k3, if_neg k4, if_neg h3]
  unfold atomT
  have e1 : hdT (t :: rest) = atomS s := ht.2
  rw [e1, h4, if_pos ⟨show hdK (t :: rest) = 1 from ht.1, k11, k12⟩]
  rfl
theorem una_ok {n d : Nat} {k : Int} {w : Bs} {f : F} {t : Tok} {us rest : List Tok} (hd : ¬ 200 < d) (ht : t.t = w) (hk : unKind w = some k) (h1 : w ≠ [116, 114, 117, 101]) (h2 : w ≠ [102, 97, 108, 115, 101]) (h : pP n (d + 1) us = .ok (f, rest)) : pP (n + 1) d (t :: us) = .ok (un k f, rest) := by
  rw [prim_at hd ht]
  unfold primT
  rw [if_neg h1, if_neg h2, hk]
  simp only [List.tail_cons]
  unfold unaS
  rw [h]
theorem path_prim {n d : Nat} {w : Bs} {t : Tok} {us : List Tok} (hd : ¬ 200 < d) (ht : t.t = w) (hw : w = [69] ∨ w = [65]) : pP (n + 1) d (t :: us) = if w = [69] then pathS (wholeG (pP n)) 15 17 d us else pathS (wholeG (pP n)) 16 18 d us := by
  rw [prim_at hd ht]
  rcases hw with rfl | rfl
  · rfl
  · rfl
theorem path_ok {pw : Nat → List Tok → Res} {d : Nat} {u v k : Int} {f g : F} {t0 m c : Tok} {us vs rest : List Tok} (h0 : t0.t = [91]) (hf : pw (d + 1) us = .ok (f, m :: vs)) (hm : (m.t = [85] ∧ k = u) ∨ (m.t = [82] ∧ k = v)) (hg : pw (d + 1) vs = .ok (g, c :: rest)) (hc : c.t = [93]) :
    pathS pw u v d (t0 :: us) = .ok (two k f g, rest) := by
  unfold pathS
  rw [must_ok us h0]
  simp only
  rw [hf]
  simp only [List.tail_cons]
  rcases hm with ⟨hm, rfl⟩ | ⟨hm, rfl⟩
  · rw [if_pos (show hdT (m :: vs) = [85] from hm)]
    unfold secS
    rw [hg]
    simp only
    rw [must_ok rest hc]
  · rw [if_neg (show ¬ hdT (m :: vs) = [85] from by show ¬ m.t = _; rw [hm]; decide), must_ok vs hm]
    simp only
    unfold secS
    rw [hg]
    simp only
    rw [must_ok rest hc]
theorem good_of_A {f : F} (hl : looseB f.k = false) (hA : GoodA f) : GoodA f ∧ GoodB f :=
  ⟨hA, fun n d ts rest h1 h2 h3 hr => whole_prim (hA hl n d ts rest h1 h2 h3) hr⟩
theorem good (f : F) : f.okB = true → GoodA f ∧ GoodB f := by
  induction f using F.ind with
  | h k nm lit ks ih =>
    intro hok
    have hok' := hok
    simp only [F.okB, Bool.and_eq_true, nodeB, decide_eq_true_eq] at hok
    obtain ⟨⟨hk, hlit, hnm⟩, hks⟩ := hok
    have hkid : ∀ f ∈ ks, GoodC f := fun f hf => by
      have := ih f hf (okL_mem hks f hf)
      exact goodC_of this.1 this.2
    subst hlit
    by_cases h3 : k = 3
    · subst h3
      rw [if_pos rfl] at hnm
      have hl : ks = [] := by
        have : some ks.length = some 0 := hk.symm
        simpa using this
      subst hl
      refine good_of_A rfl fun _ n d ts rest hts hn hd => ?_
      simp only [F.toks, if_true] at hts
      obtain ⟨t, r, rfl, h1, h2⟩ := cons_ex hts
      have hr : r = [] := by simpa using h2
      subst hr
      obtain ⟨m, rfl⟩ : ∃ m, n = m + 1 := ⟨n - 1, by simp at hn; omega⟩
      simp only [F.dep, depL] at hd
      exact atom_ok hnm (by omega) h1
    · rw [if_neg h3] at hnm
      have hn0 : nm = [] := by simpa using hnm
      subst hn0
      unfold kidsN at hk
      by_cases c0 : 1 ≤ k ∧ k ≤ 3
      · rw [if_pos c0] at hk
        have hl : ks = [] := by simpa using hk.symm
        subst hl
        have hk12 : k = 1 ∨ k = 2 := by omega
        refine good_of_A (by rcases hk12 with rfl | rfl <;> rfl) fun _ n d ts rest hts hn hd => ?_
        simp only [F.toks, toksL, List.nil_append] at hts
        rw [if_neg h3] at hts
        simp only [F.dep, depL] at hd
        have hone : ∃ t, ts = [t] ∧ t.t = (if k = 1 then [102, 97, 108, 115, 101] else [116, 114, 117, 101]) := by
          rcases hk12 with rfl | rfl
          · obtain ⟨t, r, rfl, h1, h2⟩ := cons_ex (show ts.map kt = (1, [102, 97, 108, 115, 101]) :: [] from hts)
            have hr : r = [] := by simpa using h2
            subst hr
            simp only [kt, Prod.mk.injEq] at h1
            exact ⟨t, rfl, h1.2⟩
          · obtain ⟨t, r, rfl, h1, h2⟩ := cons_ex (show ts.map kt = (1, [116, 114, 117, 101]) :: [] from hts)
            have hr : r = [] := by simpa using h2
            subst hr
            simp only [kt, Prod.mk.injEq] at h1
            exact ⟨t, rfl, h1.2⟩
        obtain ⟨t, rfl, ht⟩ := hone
        obtain ⟨m, rfl⟩ : ∃ m, n = m + 1 := ⟨n - 1, by simp at hn; omega⟩
        rw [List.cons_append, List.nil_append, prim_at (by omega) ht]
        rcases hk12 with rfl | rfl <;> rfl
      · rw [if_neg c0] at hk
        by_cases c1 : k = 4 ∨ (9 ≤ k ∧ k ≤ 14)
        · rw [if_pos c1] at hk
          obtain ⟨a, rfl⟩ : ∃ a, ks = [a] := by
            match ks, hk with
            | [a], _ => exact ⟨a, rfl⟩
            | [], h => simp at h
            | _ :: _ :: _, h => simp at h
          have hka := hkid a (by simp)
          have hc : k = 4 ∨ k = 9 ∨ k = 10 ∨ k = 11 ∨ k = 12 ∨ k = 13 ∨ k = 14 := by omega
          refine good_of_A (by rcases hc with rfl | rfl | rfl | rfl | rfl | rfl | rfl <;> rfl) fun _ n d ts rest hts hn hd => ?_
          have hw : ∃ (x : Nat) (w : Bs), befT k = [(x, w)] ∧ unKind w = some k ∧ w ≠ [116, 114, 117, 101] ∧ w ≠ [102, 97, 108, 115, 101] ∧ behT k = [] := by
            rcases hc with rfl | rfl | rfl | rfl | rfl | rfl | rfl <;> exact ⟨_, _, rfl, by decide, by decide, by decide, rfl⟩
          obtain ⟨x, w, e1, e2, e3, e4, e5⟩ := hw
          simp only [F.toks, toksL, if_true, List.nil_append, List.append_nil] at hts
          rw [if_neg h3, e1, e5, List.append_nil] at hts
          obtain ⟨t, r, rfl, h1, h2⟩ := cons_ex (show ts.map kt = (x, w) :: parT a.k a.toks from hts)
          simp only [kt, Prod.mk.injEq] at h1
          simp only [List.length_cons] at hn
          obtain ⟨m, rfl⟩ : ∃ m, n = m + 1 := ⟨n - 1, by omega⟩
          simp only [F.dep, depL] at hd
          have hda := dep_pos a
          rw [Nat.max_zero] at hd
          exact una_ok (by omega) h1.2 e2 e3 e4 (hka m (d + 1) r rest h2 (by omega) (by omega))
        · rw [if_neg c1] at hk
          by_cases c2 : (5 ≤ k ∧ k ≤ 8) ∨ (15 ≤ k ∧ k ≤ 18)
          · rw [if_pos c2] at hk
            obtain ⟨a, b, rfl⟩ : ∃ a b, ks = [a, b] := by
              match ks, hk with
              | [a, b], _ => exact ⟨a, b, rfl⟩
              | [], h => simp at h
              | [_], h => simp at h
              | _ :: _ :: _ :: _, h => simp at h
            have hka := hkid a (by simp)
            have hkb := hkid b (by simp)
            have hda := dep_pos a
            have hdb := dep_pos b
            have hdep : ∀ d, d + 2 * (F.mk k [] 0 [a, b]).dep ≤ 202 → d + 1 + 2 * a.dep ≤ 201 ∧ d + 1 + 2 * b.dep ≤ 201 := by
              intro d hd
              simp only [F.dep, depL, Nat.max_zero] at hd
              omega
            by_cases c3 : 5 ≤ k ∧ k ≤ 8
            · have hc : k = 5 ∨ k = 6 ∨ k = 7 ∨ k = 8 := by omega
              refine ⟨fun hl => absurd hl (by rcases hc with rfl | rfl | rfl | rfl <;> exact (nofun : ¬ (true = false))), fun n d ts rest hts hn hd hr => ?_⟩
              obtain ⟨d1, d2⟩ := hdep d hd
              have hw : ∃ (w : Bs), befT k = [] ∧ betT k = [(2, w)] ∧ behT k = [] ∧ ((k, w) = (5, [38]) ∨ (k, w) = (6, [124]) ∨ (k, w) = (7, [45, 62]) ∨ (k, w) = (8, [60, 45, 62])) := by
                rcases hc with rfl | rfl | rfl | rfl <;> exact ⟨_, rfl, rfl, rfl, by decide⟩
              obtain ⟨w, e1, e2, e3, e4⟩ := hw
              simp only [F.toks, toksL, if_true, Bool.false_eq_true, if_false, List.nil_append, List.append_nil] at hts
              rw [if_neg h3, e1, e2, e3, List.nil_append, List.append_nil] at hts
              obtain ⟨u, v, rfl, h1, h2⟩ := app_ex hts
              obtain ⟨t, r, rfl, h4, h5⟩ := cons_ex (show v.map kt = (2, w) :: parT b.k b.toks from h2)
              simp only [kt, Prod.mk.injEq] at h4
              simp only [List.length_append, List.length_cons] at hn
              have hu : u ++ t :: r ++ rest = u ++ (t :: (r ++ rest)) := by simp
              rw [hu]
              refine whole_two (by rw [h4.2]; exact e4) (hka n d u (t :: (r ++ rest)) h1 (by omega) (by omega)) (hkb n d r rest h5 (by omega) (by omega)) (hkb n (d + 1) r rest h5 (by omega) (by omega)) hr ?_
              intro e
              simp at e
            · have hc : k = 15 ∨ k = 16 ∨ k = 17 ∨ k = 18 := by omega
              refine good_of_A (by rcases hc with rfl | rfl | rfl | rfl <;> rfl) fun _ n d ts rest hts hn hd => ?_
              obtain ⟨d1, d2⟩ := hdep d hd
              have hw : ∃ (w x : Bs), befT k = [(1, w), (2, [91])] ∧ betT k = [(1, x)] ∧ behT k = [(2, [93])] ∧ ((w = [69] ∧ ((x = [85] ∧ k = 15) ∨ (x = [82] ∧ k = 17))) ∨ (w = [65] ∧ ((x = [85] ∧ k = 16) ∨ (x = [82] ∧ k = 18)))) := by
                rcases hc with rfl | rfl | rfl | rfl <;> exact ⟨_, _, rfl, rfl, rfl, by decide⟩
              obtain ⟨w, x, e1, e2, e3, e4⟩ := hw
              simp only [F.toks, toksL, if_true, Bool.false_eq_true, if_false, List.nil_append, List.append_nil] at hts
              rw [if_neg h3, e1, e2, e3] at hts
              obtain ⟨t, r, rfl, h1, h2⟩ := cons_ex (show ts.map kt = (1, w) :: ((2, [91]) :: ((parT a.k a.toks ++ ([(1, x)] ++ parT b.k b.toks)) ++ [(2, [93])])) from hts)
              obtain ⟨t0, r0, rfl, h4, h5⟩ := cons_ex h2
              rw [List.append_assoc] at h5
              obtain ⟨u, v, rfl, h6, h7⟩ := app_ex h5
              obtain ⟨q, v1, rfl, h8, h9⟩ := cons_ex (show v.map kt = (1, x) :: (parT b.k b.toks ++ [(2, [93])]) from h7)
              obtain ⟨y, z, rfl, h10, h11⟩ := app_ex h9
              obtain ⟨c, z', rfl, h12, h13⟩ := cons_ex h11
              have hz : z' = [] := by simpa using h13
              subst hz
              simp only [kt, Prod.mk.injEq] at h1 h4 h8 h12
              simp only [List.length_append, List.length_cons, List.length_nil] at hn
              obtain ⟨m, rfl⟩ : ∃ m, n = m + 1 := ⟨n - 1, by omega⟩
              have he : t :: t0 :: (u ++ q :: (y ++ [c])) ++ rest = t :: (t0 :: (u ++ (q :: (y ++ (c :: rest))))) := by simp
              rw [he, path_prim (by omega) h1.2 (by rcases e4 with h | h <;> simp [h.1])]
              have hno : ∀ (z : Tok) (zs : List Tok), (z.t = [85] ∨ z.t = [82] ∨ z.t = [93]) → NoOp (z :: zs) := by
                intro z zs hz
                refine ⟨?_, ?_, ?_, ?_⟩ <;> (show z.t ≠ _; rcases hz with hz | hz | hz <;> rw [hz] <;> decide)
              have hq : q.t = [85] ∨ q.t = [82] := by
                rcases e4 with ⟨_, ⟨h, _⟩ | ⟨h, _⟩⟩ | ⟨_, ⟨h, _⟩ | ⟨h, _⟩⟩ <;> rw [h8.2, h] <;> simp
              have hA := whole_prim (hka m (d + 1) u (q :: (y ++ (c :: rest))) h6 (by omega) (by omega)) (hno q _ (by rcases hq with h | h <;> simp [h]))
              have hB := whole_prim (hkb m (d + 1) y (c :: rest) h10 (by omega) (by omega)) (hno c _ (by simp [h12.2]))
              rcases e4 with ⟨rfl, hx⟩ | ⟨rfl, hx⟩
              · rw [if_pos rfl]
                exact path_ok h4.2 hA (by rcases hx with ⟨hx, hk'⟩ | ⟨hx, hk'⟩ <;> simp [h8.2, hx, hk']) hB h12.2
              · rw [if_neg (by decide)]
                exact path_ok h4.2 hA (by rcases hx with ⟨hx, hk'⟩ | ⟨hx, hk'⟩ <;> simp [h8.2, hx, hk']) hB h12.2
          · rw [if_neg c2] at hk
            cases hk
/-- THE TOKENS OF A VALID FORMULA ARE READ AS IT, wherever they stand. -/
theorem parse_toks {f : F} (h : validB f = true) {ts : List Tok} (hts : ts.map kt = f.toks ++ [(0, [])]) : parseT ts = .ok f := by
  have hv := h
  simp only [validB, Bool.and_eq_true, decide_eq_true_eq] at h
  obtain ⟨u, v, rfl, h1, h2⟩ := app_ex hts
  obtain ⟨c, z, rfl, h3, h4⟩ := cons_ex h2
  have hz : z = [] := by simpa using h4
  subst hz
  simp only [kt, Prod.mk.injEq] at h3
  have hw := (good f h.1).2 ((u ++ [c]).length + 1) 0 u [c] h1 (by simp; omega) (by omega) (by refine ⟨?_, ?_, ?_, ?_⟩ <;> (show c.t ≠ _; rw [h3.2]; decide))
  unfold parseT
  rw [hw]
  simp only
  rw [if_pos (show hdK [c] = 0 from h3.1), if_pos hv]
/-- Nor do blanks and two pairs of parentheses around it matter. -/
theorem parse_enc {f : F} (h : validB f = true) {ts : List Tok} (hts : ts.map kt = (2, [40]) :: (2, [40]) :: (f.toks ++ [(2, [41]), (2, [41]), (0, [])])) : parseT ts = .ok f := by
  have hv := h
  simp only [validB, Bool.and_eq_true, decide_eq_true_eq] at h
  obtain ⟨t, r, rfl, h1, h2⟩ := cons_ex hts
  obtain ⟨t', r', rfl, h3, h4⟩ := cons_ex h2
  obtain ⟨u, v, rfl, h5, h6⟩ := app_ex h4
  obtain ⟨a, v1, rfl, h7, h8⟩ := cons_ex h6
  obtain ⟨b, v2, rfl, h9, h10⟩ := cons_ex h8
  obtain ⟨c, z, rfl, h11, h12⟩ := cons_ex h10
  have hz : z = [] := by simpa using h12
  subst hz
  simp only [kt, Prod.mk.injEq] at h1 h3 h7 h9 h11
  have hno : ∀ (z : Tok) (zs : List Tok), (z.t = [41] ∨ z.t = []) → NoOp (z :: zs) := by
    intro z zs hz
    refine ⟨?_, ?_, ?_, ?_⟩ <;> (show z.t ≠ _; rcases hz with hz | hz <;> rw [hz] <;> decide)
  obtain ⟨n, hn⟩ : ∃ n, n = (u ++ [a, b, c]).length := ⟨_, rfl⟩
  have hw := (good f h.1).2 (n + 1) 2 u (a :: b :: [c]) h5 (by rw [hn]; simp; omega) (by omega) (hno a _ (Or.inl h7.2))
  have h41 : pP (n + 2) 1 (t' :: (u ++ [a, b, c])) = .ok (f, b :: [c]) := enc_ok (by omega) h3.2 ⟨a, h7.2, hw⟩
  have hw2 := whole_prim h41 (hno b _ (Or.inl h9.2))
  have h42 : pP (n + 3) 0 (t :: t' :: (u ++ [a, b, c])) = .ok (f, [c]) := enc_ok (by omega) h1.2 ⟨b, h9.2, hw2⟩
  unfold parseT
  have hl : (t :: t' :: (u ++ [a, b, c])).length + 1 = n + 3 := by simp only [List.length_cons]; rw [← hn]
  rw [hl, whole_prim h42 (hno c _ (Or.inr h11.2))]
  simp only
  rw [if_pos (show hdK [c] = 0 from h11.1), if_pos hv]
end Fm
end Go.Proofs.YtlddnejjpekgeaaDoor
