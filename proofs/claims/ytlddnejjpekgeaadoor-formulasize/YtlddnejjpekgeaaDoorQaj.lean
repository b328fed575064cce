/- What reading takes, and that places do not matter. -/
import Derived.Test.YtlddnejjpekgeaaDoorQai
set_option linter.unusedSimpArgs false
set_option linter.unusedVariables false
namespace Go.Proofs.YtlddnejjpekgeaaDoor
namespace Fm
open Tk

/-- What is read takes at least as many tokens as it has formulas. -/
def Eats (p : List Tok → Res) : Prop := ∀ ts f r, p ts = .ok (f, r) → f.cnt + r.length ≤ ts.length
theorem cnt_two (k : Int) (f g : F) : (two k f g).cnt = 1 + f.cnt + g.cnt := by simp only [two, F.cnt, cntL]; omega
theorem cnt_un (k : Int) (f : F) : (un k f).cnt = 1 + f.cnt := by simp only [un, F.cnt, cntL]; omega
theorem tail_len {ts : List Tok} (h : hdT ts ≠ []) : ts.tail.length + 1 = ts.length := by
  cases ts with
  | nil => exact absurd rfl h
  | cons _ _ => rfl
theorem must_len {x : Bs} {ts r : List Tok} (hx : x ≠ []) (h : mustT x ts = .ok r) : r.length + 1 = ts.length := by
  unfold mustT at h
  split at h
  · rename_i e
    injection h with h
    subst h
    exact tail_len (by rw [e]; exact hx)
  · cases h
theorem loop_eats {x : Bs} {k : Int} {part : List Tok → Res} (hx : x ≠ []) (hp : Eats part) : ∀ (n : Nat) (f : F) (ts : List Tok) (g : F) (r : List Tok), loopG x k part n f ts = .ok (g, r) → g.cnt + r.length ≤ f.cnt + ts.length
  | 0, f, ts, g, r, h => by
    rw [loopG] at h
    injection h with h
    injection h with h1 h2
    subst h1 h2
    exact Nat.le_refl _
  | n + 1, f, ts, g, r, h => by
    rw [loopG] at h
    split at h
    · rename_i e
      have hl := tail_len (ts := ts) (by rw [e]; exact hx)
      cases hq : part ts.tail with
      | error q => rw [hq] at h; cases h
      | ok q =>
        obtain ⟨g1, r1⟩ := q
        rw [hq] at h
        have h1 := hp _ _ _ hq
        have h2 := loop_eats hx hp n _ _ _ _ h
        rw [cnt_two] at h2
        omega
    · injection h with h
      injection h with h1 h2
      subst h1 h2
      exact Nat.le_refl _
theorem chain_eats {x : Bs} {k : Int} {part : List Tok → Res} (hx : x ≠ []) (hp : Eats part) : Eats (chainG x k part) := by
  intro ts f r h
  unfold chainG at h
  cases hq : part ts with
  | error q => rw [hq] at h; cases h
  | ok q =>
    obtain ⟨g1, r1⟩ := q
    rw [hq] at h
    have h1 := hp _ _ _ hq
    have h2 := loop_eats hx hp _ _ _ _ _ h
    omega
theorem or_eats {pp : Nat → List Tok → Res} (hp : ∀ d, Eats (pp d)) (d : Nat) : Eats (orG pp d) := chain_eats (by decide) (chain_eats (by decide) (hp d))
theorem imp_eats {pp : Nat → List Tok → Res} (hp : ∀ d, Eats (pp d)) : ∀ (n d : Nat), Eats (impG pp n d)
  | 0, d => by intro ts f r h; cases h
  | n + 1, d => by
    intro ts f r h
    rw [impG] at h
    cases hq : orG pp d ts with
    | error q => rw [hq] at h; cases h
    | ok q =>
      obtain ⟨g1, r1⟩ := q
      rw [hq] at h
      have h1 := or_eats hp d _ _ _ hq
      simp only at h
      split at h
      · rename_i e
        have hl := tail_len (ts := r1) (by rw [e]; decide)
        cases hq2 : impG pp n (d + 1) r1.tail with
        | error q => rw [hq2] at h; cases h
        | ok q =>
          obtain ⟨g2, r2⟩ := q
          rw [hq2] at h
          have h2 := imp_eats hp n (d + 1) _ _ _ hq2
          injection h with h
          injection h with h3 h4
          subst h3 h4
          rw [cnt_two]
          omega
      · injection h with h
        injection h with h3 h4
        subst h3 h4
        exact h1
theorem whole_eats {pp : Nat → List Tok → Res} (hp : ∀ d, Eats (pp d)) (d : Nat) : Eats (wholeG pp d) := chain_eats (by decide) (fun ts f r h => imp_eats hp _ d _ _ _ h)
theorem sec_eats {pw : Nat → List Tok → Res} (hp : ∀ d, Eats (pw d)) {k : Int} {f g : F} {d : Nat} {ts r : List Tok} (h : secS pw k f d ts = .ok (g, r)) : g.cnt + r.length ≤ f.cnt + ts.length := by
  unfold secS at h
  cases hq : pw (d + 1) ts with
  | error q => rw [hq] at h; cases h
  | ok q =>
    obtain ⟨g1, r1⟩ := q
    rw [hq] at h
    have h1 := hp _ _ _ _ hq
    simp only at h
    cases hm : mustT [93] r1 with
    | error q => rw [hm] at h; cases h
    | ok r2 =>
      rw [hm] at h
      injection h with h
      injection h with h3 h4
      subst h3 h4
      have := must_len (by decide) hm
      rw [cnt_two]
      omega
theorem path_eats {pw : Nat → List Tok → Res} (hp : ∀ d, Eats (pw d)) {u v : Int} {g : F} {d : Nat} {ts r : List Tok} (h : pathS pw u v d ts = .ok (g, r)) : g.cnt + r.length ≤ ts.length := by
  unfold pathS at h
  cases hm : mustT [91] ts with
  | error q => rw [hm] at h; cases h
  | ok r1 =>
    rw [hm] at h
    have l1 := must_len (by decide) hm
    simp only at h
    cases hq : pw (d + 1) r1 with
    | error q => rw [hq] at h; cases h
    | ok q =>
      obtain ⟨f, r2⟩ := q
      rw [hq] at h
      have h1 := hp _ _ _ _ hq
      simp only at h
      split at h
      · rename_i e
        have hl := tail_len (ts := r2) (by rw [e]; decide)
        have := sec_eats hp h
        omega
      · cases hm2 : mustT [82] r2 with
        | error q => rw [hm2] at h; cases h
        | ok r3 =>
          rw [hm2] at h
          have l2 := must_len (by decide) hm2
          have := sec_eats hp h
          omega
theorem enc_eats {pw : Nat → List Tok → Res} (hp : ∀ d, Eats (pw d)) {g : F} {d : Nat} {ts r : List Tok} (h : encS pw d ts = .ok (g, r)) : g.cnt + r.length ≤ ts.length := by
  unfold encS at h
  cases hq : pw (d + 1) ts with
  | error q => rw [hq] at h; cases h
  | ok q =>
    obtain ⟨f, r2⟩ := q
    rw [hq] at h
    have h1 := hp _ _ _ _ hq
    simp only at h
    cases hm : mustT [41] r2 with
    | error q => rw [hm] at h; cases h
    | ok r3 =>
      rw [hm] at h
      injection h with h
      injection h with h3 h4
      subst h3 h4
      have := must_len (by decide) hm
      omega
theorem prim_eats {pp pw : Nat → List Tok → Res} (hp : ∀ d, Eats (pp d)) (hw : ∀ d, Eats (pw d)) (d : Nat) : Eats (prim pp pw d) := by
  intro ts f r h
  unfold prim at h
  split at h
  · cases h
  · by_cases h0 : hdT ts = []
    · rw [h0] at h
      have : primT pp pw d [] ts = atomT ts := rfl
      rw [this] at h
      unfold atomT at h
      split at h
      · rename_i e
        have hne : ts ≠ [] := by
          rintro rfl
          exact absurd e.1 (by decide)
        have hl : ts.tail.length + 1 = ts.length := by
          cases ts with
          | nil => exact absurd rfl hne
          | cons _ _ => rfl
        injection h with h
        injection h with h3 h4
        subst h3 h4
        simp only [F.cnt, cntL]
        omega
      · cases h
    · have hl := tail_len h0
      unfold primT at h
      split at h
      · injection h with h
        injection h with h3 h4
        subst h3 h4
        simp only [leaf, F.cnt, cntL]
        omega
      · split at h
        · injection h with h
          injection h with h3 h4
          subst h3 h4
          simp only [leaf, F.cnt, cntL]
          omega
        · split at h
          · unfold unaS at h
            cases hq : pp (d + 1) ts.tail with
            | error q => rw [hq] at h; cases h
            | ok q =>
              obtain ⟨g1, r1⟩ := q
              rw [hq] at h
              have h1 := hp _ _ _ _ hq
              injection h with h
              injection h with h3 h4
              subst h3 h4
              rw [cnt_un]
              omega
          · split at h
            · have := path_eats hw h
              omega
            · split at h
              · have := path_eats hw h
                omega
              · split at h
                · have := enc_eats hw h
                  omega
                · unfold atomT at h
                  split at h
                  · injection h with h
                    injection h with h3 h4
                    subst h3 h4
                    simp only [F.cnt, cntL]
                    omega
                  · cases h
theorem pP_eats : ∀ (n d : Nat), Eats (pP n d)
  | 0, d => by intro ts f r h; cases h
  | n + 1, d => by
    intro ts f r h
    rw [pP] at h
    exact prim_eats (pP_eats n) (whole_eats (pP_eats n)) d ts f r h
theorem parse_cnt {ts : List Tok} {f : F} (h : parseT ts = .ok f) : f.cnt ≤ ts.length ∧ validB f = true := by
  unfold parseT at h
  cases hq : wholeG (pP (ts.length + 1)) 0 ts with
  | error q => rw [hq] at h; cases h
  | ok q =>
    obtain ⟨g, r⟩ := q
    rw [hq] at h
    simp only at h
    split at h
    · split at h
      · rename_i hv
        injection h with h
        subst h
        exact ⟨by have := whole_eats (pP_eats _) 0 _ _ _ hq; omega, hv⟩
      · cases h
    · cases h

/-- Two readings that differ in places alone. -/
def SameR : Res → Res → Prop
  | .ok (f, r), .ok (g, q) => f = g ∧ r.map kt = q.map kt
  | .error (e, _), .error (e', _) => e = e'
  | _, _ => False
def SameP (p q : List Tok → Res) : Prop := ∀ ts us, ts.map kt = us.map kt → SameR (p ts) (q us)
theorem hdT_kt {ts us : List Tok} (h : ts.map kt = us.map kt) : hdT ts = hdT us ∧ hdK ts = hdK us ∧ ts.tail.map kt = us.tail.map kt ∧ ts.length = us.length := by
  have hl : ts.length = us.length := by
    have := congrArg List.length h
    simpa using this
  cases ts with
  | nil =>
    cases us with
    | nil => exact ⟨rfl, rfl, rfl, rfl⟩
    | cons _ _ => simp at hl
  | cons t r =>
    cases us with
    | nil => simp at hl
    | cons u q =>
      simp only [List.map_cons, List.cons.injEq, kt, Prod.mk.injEq] at h
      exact ⟨h.1.2, h.1.1, h.2, hl⟩
theorem must_kt {x : Bs} {ts us : List Tok} (h : ts.map kt = us.map kt) : (∃ r q, mustT x ts = .ok r ∧ mustT x us = .ok q ∧ r.map kt = q.map kt) ∨ (∃ a b, mustT x ts = .error (41, a) ∧ mustT x us = .error (41, b)) := by
  obtain ⟨h1, _, h3, _⟩ := hdT_kt h
  unfold mustT
  rw [h1]
  by_cases e : hdT us = x
  · rw [if_pos e, if_pos e]
    exact Or.inl ⟨_, _, rfl, rfl, h3⟩
  · rw [if_neg e, if_neg e]
    exact Or.inr ⟨_, _, rfl, rfl⟩
theorem same_cases {a b : Res} (h : SameR a b) : (∃ f r q, a = .ok (f, r) ∧ b = .ok (f, q) ∧ r.map kt = q.map kt) ∨ (∃ e x y, a = .error (e, x) ∧ b = .error (e, y)) := by
  match a, b, h with
  | .ok (f, r), .ok (g, q), h =>
    obtain ⟨rfl, h2⟩ := h
    exact Or.inl ⟨_, _, _, rfl, rfl, h2⟩
  | .error (e, x), .error (e', y), h =>
    have h' : e = e' := h
    subst h'
    exact Or.inr ⟨_, _, _, rfl, rfl⟩
theorem loop_same {x : Bs} {k : Int} {p q : List Tok → Res} (hp : SameP p q) : ∀ (n : Nat) (f : F) (ts us : List Tok), ts.map kt = us.map kt → SameR (loopG x k p n f ts) (loopG x k q n f us)
  | 0, f, ts, us, h => ⟨rfl, h⟩
  | n + 1, f, ts, us, h => by
    obtain ⟨h1, _, h3, _⟩ := hdT_kt h
    rw [loopG, loopG, h1]
    split
    · rcases same_cases (hp _ _ h3) with ⟨g, r, r', e1, e2, e3⟩ | ⟨e, a, b, e1, e2⟩
      · rw [e1, e2]
        exact loop_same hp n _ _ _ e3
      · rw [e1, e2]
        exact rfl
    · exact ⟨rfl, h⟩
theorem chain_same {x : Bs} {k : Int} {p q : List Tok → Res} (hp : SameP p q) : SameP (chainG x k p) (chainG x k q) := by
  intro ts us h
  unfold chainG
  rcases same_cases (hp _ _ h) with ⟨g, r, r', e1, e2, e3⟩ | ⟨e, a, b, e1, e2⟩
  · rw [e1, e2]
    simp only
    rw [(hdT_kt e3).2.2.2]
    exact loop_same hp _ _ _ _ e3
  · rw [e1, e2]
    exact rfl
theorem imp_same {p q : Nat → List Tok → Res} (hp : ∀ d, SameP (p d) (q d)) : ∀ (n d : Nat), SameP (impG p n d) (impG q n d)
  | 0, d => fun _ _ _ => rfl
  | n + 1, d => by
    intro ts us h
    rw [impG, impG]
    rcases same_cases (chain_same (x := [124]) (k := 6) (chain_same (x := [38]) (k := 5) (hp d)) _ _ h) with ⟨g, r, r', e1, e2, e3⟩ | ⟨e, a, b, e1, e2⟩
    · have e1' : orG p d ts = .ok (g, r) := e1
      have e2' : orG q d us = .ok (g, r') := e2
      rw [e1', e2']
      simp only
      obtain ⟨h1, _, h3, _⟩ := hdT_kt e3
      rw [h1]
      split
      · rcases same_cases (imp_same hp n (d + 1) _ _ h3) with ⟨g, r, r', e1, e2, e3⟩ | ⟨e, a, b, e1, e2⟩
        · rw [e1, e2]
          exact ⟨rfl, e3⟩
        · rw [e1, e2]
          exact rfl
      · exact ⟨rfl, e3⟩
    · have e1' : orG p d ts = .error (e, a) := e1
      have e2' : orG q d us = .error (e, b) := e2
      rw [e1', e2']
      exact rfl
theorem whole_same {p q : Nat → List Tok → Res} (hp : ∀ d, SameP (p d) (q d)) (d : Nat) : SameP (wholeG p d) (wholeG q d) :=
  chain_same fun ts us h => by
    show SameR (impG p (ts.length + 1) d ts) (impG q (us.length + 1) d us)
    rw [(hdT_kt h).2.2.2]
    exact imp_same hp _ d _ _ h
theorem sec_same {p q : Nat → List Tok → Res} (hp : ∀ d, SameP (p d) (q d)) (k : Int) (f : F) (d : Nat) {ts us : List Tok} (h : ts.map kt = us.map kt) : SameR (secS p k f d ts) (secS q k f d us) := by
  unfold secS
  rcases same_cases (hp (d + 1) _ _ h) with ⟨g, r, r', e1, e2, e3⟩ | ⟨e, a, b, e1, e2⟩
  · rw [e1, e2]
    simp only
    rcases must_kt (x := [93]) e3 with ⟨r, q, e1, e2, e3⟩ | ⟨a, b, e1, e2⟩
    · rw [e1, e2]
      exact ⟨rfl, e3⟩
    · rw [e1, e2]
      exact rfl
  · rw [e1, e2]
    exact rfl
theorem path_same {p q : Nat → List Tok → Res} (hp : ∀ d, SameP (p d) (q d)) (u v : Int) (d : Nat) {ts us : List Tok} (h : ts.map kt = us.map kt) : SameR (pathS p u v d ts) (pathS q u v d us) := by
  unfold pathS
  rcases must_kt (x := [91]) h with ⟨r, r', e1, e2, e3⟩ | ⟨a, b, e1, e2⟩
  · rw [e1, e2]
    simp only
    rcases same_cases (hp (d + 1) _ _ e3) with ⟨g, r, r', e1, e2, e3⟩ | ⟨e, a, b, e1, e2⟩
    · rw [e1, e2]
      simp only
      obtain ⟨h1, _, h3, _⟩ := hdT_kt e3
      rw [h1]
      split
      · exact sec_same hp u g d h3
      · rcases must_kt (x := [82]) e3 with ⟨r, q, e1, e2, e3⟩ | ⟨a, b, e1, e2⟩
        · rw [e1, e2]
          exact sec_same hp v g d e3
        · rw [e1, e2]
          exact rfl
    · rw [e1, e2]
      exact rfl
  · rw [e1, e2]
    exact rfl
theorem prim_same {p q pw qw : Nat → List Tok → Res} (hp : ∀ d, SameP (p d) (q d)) (hw : ∀ d, SameP (pw d) (qw d)) (d : Nat) : SameP (prim p pw d) (prim q qw d) := by
  intro ts us h
  obtain ⟨h1, h2, h3, _⟩ := hdT_kt h
  unfold prim
  rw [h1]
  split
  · exact rfl
  · unfold primT
    split
    · exact ⟨rfl, h3⟩
    · split
      · exact ⟨rfl, h3⟩
      · split
        · unfold unaS
          rcases same_cases (hp (d + 1) _ _ h3) with ⟨g, r, r', e1, e2, e3⟩ | ⟨e, a, b, e1, e2⟩
          · rw [e1, e2]
            exact ⟨rfl, e3⟩
          · rw [e1, e2]
            exact rfl
        · split
          · exact path_same hw 15 17 d h3
          · split
            · exact path_same hw 16 18 d h3
            · split
              · unfold encS
                rcases same_cases (hw (d + 1) _ _ h3) with ⟨g, r, r', e1, e2, e3⟩ | ⟨e, a, b, e1, e2⟩
                · rw [e1, e2]
                  simp only
                  rcases must_kt (x := [41]) e3 with ⟨r, q, e1, e2, e3⟩ | ⟨a, b, e1, e2⟩
                  · rw [e1, e2]
                    exact ⟨rfl, e3⟩
                  · rw [e1, e2]
                    exact rfl
                · rw [e1, e2]
                  exact rfl
              · unfold atomT
                rw [h1, h2]
                split
                · exact ⟨rfl, h3⟩
                · exact rfl
theorem pP_same : ∀ (n d : Nat), SameP (pP n d) (pP n d)
  | 0, d => fun _ _ _ => rfl
  | n + 1, d => fun ts us h => by
    rw [pP, pP]
    exact prim_same (pP_same n) (whole_same (pP_same n)) d ts us h
/-- Where the tokens are, but for places, the same, so is what is read. -/
theorem parse_same {ts us : List Tok} (h : ts.map kt = us.map kt) : (∃ f, parseT ts = .ok f ∧ parseT us = .ok f) ∨ (∃ e a b, parseT ts = .error (e, a) ∧ parseT us = .error (e, b)) := by
  unfold parseT
  rw [(hdT_kt h).2.2.2]
  rcases same_cases (whole_same (pP_same (us.length + 1)) 0 _ _ h) with ⟨g, r, r', e1, e2, e3⟩ | ⟨e, a, b, e1, e2⟩
  · rw [e1, e2]
    simp only
    rw [(hdT_kt e3).2.1]
    split
    · split
      · exact Or.inl ⟨_, rfl, rfl⟩
      · exact Or.inr ⟨_, _, _, rfl, rfl⟩
    · exact Or.inr ⟨_, _, _, rfl, rfl⟩
  · rw [e1, e2]
    exact Or.inr ⟨_, _, _, rfl, rfl⟩
end Fm
end Go.Proofs.YtlddnejjpekgeaaDoor
/- Formulas' texts, read: what the laws ask. -/
namespace Go.Proofs.YtlddnejjpekgeaaDoor
namespace Fm
open Tk

theorem bef_len (k : Int) : (befS k).length ≤ 5 := by
  unfold befS
  repeat' split
  all_goals decide
theorem bet_len (k : Int) : (betS k).length ≤ 5 := by
  unfold betS
  repeat' split
  all_goals decide
theorem beh_len (k : Int) : (behS k).length ≤ 1 := by
  unfold behS
  split <;> decide
theorem par_len (k : Int) (t : Bs) : (parS k t).length ≤ t.length + 2 := by
  unfold parS
  split <;> simp
theorem par_ge (k : Int) (t : Bs) : t.length ≤ (parS k t).length := by
  unfold parS
  split
  · simp only [List.length_cons, List.length_append]
    omega
  · exact Nat.le_refl _
theorem kidsN_le {k : Int} {n : Nat} (h : kidsN k = some n) : n ≤ 2 := by
  unfold kidsN at h
  split at h
  · simp at h; omega
  · split at h
    · simp at h; omega
    · split at h
      · simp at h; omega
      · cases h
theorem textL_len (k : Int) (ks : List F) (h : ∀ f ∈ ks, (parS f.k f.text).length ≤ 22 * f.cnt) : ∀ b, (textL k b ks).length ≤ 5 * ks.length + 22 * cntL ks := by
  induction ks with
  | nil => intro b; simp [textL]
  | cons f r ih =>
    intro b
    have h1 := ih (fun g hg => h g (List.mem_cons_of_mem _ hg)) false
    have h2 := h f (List.mem_cons_self ..)
    have h3 := bet_len k
    simp only [textL, cntL, List.length_append, List.length_cons]
    split <;> simp <;> omega
theorem part_len (f : F) (h : f.okB = true) : (parS f.k f.text).length ≤ 22 * f.cnt := by
  induction f using F.ind with
  | h k nm lit ks ih =>
    simp only [F.okB, Bool.and_eq_true, nodeB, decide_eq_true_eq] at h
    obtain ⟨⟨hk, _, hnm⟩, hks⟩ := h
    have h2 := kidsN_le hk
    simp only [F.k, F.text, F.cnt]
    by_cases h3 : k = 3
    · subst h3
      rw [if_pos rfl] at hnm ⊢
      simp only [wordB, Bool.and_eq_true, decide_eq_true_eq] at hnm
      have : parS 3 (atomS nm) = atomS nm := rfl
      rw [this]
      unfold atomS
      split
      · omega
      · simp
        omega
    · rw [if_neg h3]
      have h4 := textL_len k ks (fun f hf => ih f hf (okL_mem hks f hf)) true
      have h5 := par_len k (befS k ++ (textL k true ks ++ behS k))
      have h6 := bef_len k
      have h7 := beh_len k
      simp only [List.length_append] at h5
      omega
theorem text_len {f : F} (h : f.okB = true) : f.text.length ≤ 22 * f.cnt := Nat.le_trans (par_ge f.k _) (part_len f h)
theorem kt_eq (ts : List Tok) : ts.map (fun t => (t.k, t.t)) = ts.map kt := rfl
/-- What has the tokens of a formula is read as it. -/
theorem parse_words {s : Bs} {f : F} (h : validB f = true) (hs : s.length ≤ 20000) (hw : wordsS s = some (f.toks ++ [(0, [])])) : parseS s = .ok f := by
  rcases lexA_cases s hs with ⟨ts, e1, e2, _⟩ | ⟨a, _, e2, _⟩
  · rw [hw] at e2
    injection e2 with e2
    unfold parseS
    rw [e1]
    exact parse_toks h e2.symm
  · rw [hw] at e2
    cases e2
theorem parse_text {f : F} (h : validB f = true) (hs : f.text.length ≤ 20000) : parseS f.text = .ok f := by
  refine parse_words h hs (text_words ?_)
  simp only [validB, Bool.and_eq_true] at h
  exact h.1
theorem parse_words2 {s : Bs} {f : F} (h : validB f = true) (hs : s.length ≤ 20000) (hw : wordsS s = some ((2, [40]) :: (2, [40]) :: (f.toks ++ [(2, [41]), (2, [41]), (0, [])]))) : parseS s = .ok f := by
  rcases lexA_cases s hs with ⟨ts, e1, e2, _⟩ | ⟨a, _, e2, _⟩
  · rw [hw] at e2
    injection e2 with e2
    unfold parseS
    rw [e1]
    exact parse_enc h e2.symm
  · rw [hw] at e2
    cases e2
def lefT : Bs := [32, 40, 32, 40]
def rigT : Bs := [41, 10, 41, 32]
theorem words_enc {f : F} (hok : f.okB = true) : wordsS ((lefT ++ f.text) ++ rigT) = some ((2, [40]) :: (2, [40]) :: (f.toks ++ [(2, [41]), (2, [41]), (0, [])])) := by
  have e : (lefT ++ f.text) ++ rigT = 32 :: ([40] ++ (32 :: ([40] ++ (f.text ++ ([41] ++ (10 :: ([41] ++ (32 :: [])))))))) := by simp [lefT, rigT]
  rw [e, wordsS_blank _ (by decide), words_sign (x := [40]) (by decide), wordsS_blank _ (by decide), words_sign (x := [40]) (by decide),
    text_ok f hok ([41] ++ (10 :: ([41] ++ (32 :: [])))) (stops_cons _ (by decide)), words_sign (x := [41]) (by decide), wordsS_blank _ (by decide), words_sign (x := [41]) (by decide), wordsS_blank _ (by decide), wordsS_nil]
  simp
theorem parse_text2 {f : F} (h : validB f = true) (hs : f.text.length ≤ 19900) : parseS ((lefT ++ f.text) ++ rigT) = .ok f := by
  have hok : f.okB = true := by
    simp only [validB, Bool.and_eq_true] at h
    exact h.1
  refine parse_words2 h ?_ (words_enc hok)
  simp only [List.length_append, lefT, rigT, List.length_cons, List.length_nil]
  omega
/-- Unlike formulas have unlike texts. -/
theorem text_inj {f g : F} (hf : validB f = true) (hg : validB g = true) (h : f.text = g.text) : f = g := by
  have hf1 : f.okB = true := by simp only [validB, Bool.and_eq_true] at hf; exact hf.1
  have hg1 : g.okB = true := by simp only [validB, Bool.and_eq_true] at hg; exact hg.1
  have h1 := text_words hf1
  rw [h, text_words hg1] at h1
  injection h1 with h1
  have p1 := parse_toks hf (ts := (f.toks ++ [(0, [])]).map fun (x : Nat × Bs) => (⟨x.1, x.2, 0⟩ : Tok)) (by rw [List.map_map]; exact (List.map_congr_left (fun x _ => rfl)).trans (List.map_id _))
  have p2 := parse_toks hg (ts := (g.toks ++ [(0, [])]).map fun (x : Nat × Bs) => (⟨x.1, x.2, 0⟩ : Tok)) (by rw [List.map_map]; exact (List.map_congr_left (fun x _ => rfl)).trans (List.map_id _))
  rw [← h1] at p1
  rw [p1] at p2
  injection p2
/-- What was read, printed and read again is the same. -/
theorem parse_again {s : Bs} {f : F} (hs : s.length ≤ 900) (h : parseS s = .ok f) : validB f = true ∧ f.text.length ≤ 20000 ∧ parseS f.text = .ok f := by
  rcases lexA_cases s (by omega) with ⟨ts, e1, e2, _⟩ | ⟨a, e1, e2, _⟩
  · unfold parseS at h
    rw [e1] at h
    obtain ⟨hc, hv⟩ := parse_cnt h
    have hok : f.okB = true := by
      simp only [validB, Bool.and_eq_true] at hv
      exact hv.1
    have hl : ts.length ≤ s.length + 1 := by
      have e3 : ts = (lexS s).1 := by
        unfold lexA at e1
        rw [if_neg (by omega)] at e1
        cases he : (lexS s).2 with
        | none =>
          rw [he] at e1
          simp only [Prod.mk.injEq] at e1
          exact e1.1.symm
        | some b =>
          rw [he] at e1
          simp at e1
      rw [e3]
      exact scan_len s _ _
    have := text_len hok
    exact ⟨hv, by omega, parse_text hv (by omega)⟩
  · unfold parseS at h
    rw [e1] at h
    cases h
/-- Blanks between tokens make no difference, but for places. -/
theorem parse_blanks {s : Bs} {ts : List Tok} (hs : s.length ≤ 9000) (h : lexA s = (ts, 0, 0)) : (joinS (ts.map kt)).length ≤ 20000 ∧ ((∃ f, parseS s = .ok f ∧ parseS (joinS (ts.map kt)) = .ok f) ∨ (∃ e a b, parseS s = .error (e, a) ∧ parseS (joinS (ts.map kt)) = .error (e, b))) := by
  rcases lexA_cases s (by omega) with ⟨us, e1, e2, _⟩ | ⟨a, e1, e2, _⟩
  · rw [h] at e1
    simp only [Prod.mk.injEq] at e1
    obtain ⟨rfl, _, _⟩ := e1
    obtain ⟨b1, b2⟩ := words_back s.length s (Nat.le_refl _) _ e2
    rw [kt_eq] at b1 b2
    refine ⟨by omega, ?_⟩
    rcases lexA_cases (joinS (ts.map kt)) (by omega) with ⟨vs, e3, e4, _⟩ | ⟨a, e3, e4, _⟩
    · rw [b1] at e4
      injection e4 with e4
      have := parse_same (ts := ts) (us := vs) e4
      unfold parseS
      rw [h, e3]
      exact this
    · rw [b1] at e4
      cases e4
  · rw [h] at e1
    simp at e1
end Fm
end Go.Proofs.YtlddnejjpekgeaaDoor
