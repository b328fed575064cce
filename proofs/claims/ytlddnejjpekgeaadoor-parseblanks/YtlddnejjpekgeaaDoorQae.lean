/- What reading takes, and that places do not matter. -/
import Derived.Test.YtlddnejjpekgeaaDoorQad
import Derived.Test.YtlddnejjpekgeaaDoorQac
import Derived.Test.YtlddnejjpekgeaaDoorQaa
import Derived.Deep.CutBlock
import Derived.Deep.DeepCutAuto
import Derived.RegionCalls
import Derived.Laws.NewBlocks
import Derived.Deep.RegionWith
import Derived.Lib.SmallJoins
import Derived.Laws.Pointers
namespace Go.Proofs.YtlddnejjpekgeaaDoor
namespace Fm
open Tk

/-- What is read takes at least as many tokens as it has formulas. -/
def Eats (p : List Tok → Res) : Prop := ∀ ts f r, p ts = .ok (f, r) → f.cnt + r.length ≤ ts.length
theorem cnt_two (k : Int) (f g : F) : (two k f g).cnt = 1 + f.cnt + g.cnt := by simp only [two, F.cnt, cntL]; omega
theorem cnt_un (k : Int) (f : F) : (un k f).cnt = 1 + f.cnt := by simp only [un, F.cnt, cntL]; omega
theorem tail_len {ts : List Tok} (h : hdT ts ≠ []) : ts.tail.length + 1 = ts.length := by
  cases ts with
  | nil => exact absurd rfl h
  | cons _ _ => rfl
theorem must_len {x : Bs} {ts r : List Tok} (hx : x ≠ []) (h : mustT x ts = .ok r) : r.length + 1 = ts.length := by
  unfold mustT at h
  split at h
  · rename_i e
    injection h with h
    subst h
    exact tail_len (by rw [e]; exact hx)
  · cases h
theorem loop_eats {x : Bs} {k : Int} {part : List Tok → Res} (hx : x ≠ []) (hp : Eats part) : ∀ (n : Nat) (f : F) (ts : List Tok) (g : F) (r : List Tok), loopG x k part n f ts = .ok (g, r) → g.cnt + r.length ≤ f.cnt + ts.length
  | 0, f, ts, g, r, h => by
    rw [loopG] at h
    injection h with h
    injection h with h1 h2
    subst h1 h2
    exact Nat.le_refl _
  | n + 1, f, ts, g, r, h => by
    rw [loopG] at h
    split at h
    · rename_i e
      have hl := tail_len (ts := ts) (by rw [e]; exact hx)
      cases hq : part ts.tail with
      | error q => rw [hq] at h; cases h
      | ok q =>
        obtain ⟨g1, r1⟩ := q
        rw [hq] at h
        have h1 := hp _ _ _ hq
        have h2 := loop_eats hx hp n _ _ _ _ h
        rw [cnt_two] at h2
        omega
    · injection h with h
      injection h with h1 h2
      subst h1 h2
      exact Nat.le_refl _
theorem chain_eats {x : Bs} {k : Int} {part : List Tok → Res} (hx : x ≠ []) (hp : Eats part) : Eats (chainG x k part) := by
  intro ts f r h
  unfold chainG at h
  cases hq : part ts with
  | error q => rw [hq] at h; cases h
  | ok q =>
    obtain ⟨g1, r1⟩ := q
    rw [hq] at h
    have h1 := hp _ _ _ hq
    have h2 := loop_eats hx hp _ _ _ _ _ h
    omega
theorem or_eats {pp : Nat → List Tok → Res} (hp : ∀ d, Eats (pp d)) (d : Nat) : Eats (orG pp d) := chain_eats (by decide) (chain_eats (by decide) (hp d))
theorem imp_eats {pp : Nat → List Tok → Res} (hp : ∀ d, Eats (pp d)) : ∀ (n d : Nat), Eats (impG pp n d)
  | 0, d => by intro ts f r h; cases h
  | n + 1, d => by
    intro ts f r h
    rw [impG] at h
    cases hq : orG pp d ts with
    | error q => rw [hq] at h; cases h
    | ok q =>
      obtain ⟨g1, r1⟩ := q
      rw [hq] at h
      have h1 := or_eats hp d _ _ _ hq
      simp only at h
      split at h
      · rename_i e
        have hl := tail_len (ts := r1) (by rw [e]; decide)
        cases hq2 : impG pp n (d + 1) r1.tail with
        | error q => rw [hq2] at h; cases h
        | ok q =>
          obtain ⟨g2, r2⟩ := q
          rw [hq2] at h
          have h2 := imp_eats hp n (d + 1) _ _ _ hq2
          injection h with h
          injection h with h3 h4
          subst h3 h4
          rw [cnt_two]
          omega
      · injection h with h
        injection h with h3 h4
        subst h3 h4
        exact h1
theorem whole_eats {pp : Nat → List Tok → Res} (hp : ∀ d, Eats (pp d)) (d : Nat) : Eats (wholeG pp d) := chain_eats (by decide) (fun ts f r h => imp_eats hp _ d _ _ _ h)
theorem sec_eats {pw : Nat → List Tok → Res} (hp : ∀ d, Eats (pw d)) {k : Int} {f g : F} {d : Nat} {ts r : List Tok} (h : secS pw k f d ts = .ok (g, r)) : g.cnt + r.length ≤ f.cnt + ts.length := by
  unfold secS at h
  cases hq : pw (d + 1) ts with
  | error q => rw [hq] at h; cases h
  | ok q =>
    obtain ⟨g1, r1⟩ := q
    rw [hq] at h
    have h1 := hp _ _ _ _ hq
    simp only at h
    cases hm : mustT [93] r1 with
    | error q => rw [hm] at h; cases h
    | ok r2 =>
      rw [hm] at h
      injection h with h
      injection h with h3 h4
      subst h3 h4
      have := must_len (by decide) hm
      rw [cnt_two]
      omega
theorem path_eats {pw : Nat → List Tok → Res} (hp : ∀ d, Eats (pw d)) {u v : Int} {g : F} {d : Nat} {ts r : List Tok} (h : pathS pw u v d ts = .ok (g, r)) : g.cnt + r.length ≤ ts.length := by
  unfold pathS at h
  cases hm : mustT [91] ts with
  | error q => rw [hm] at h; cases h
  | ok r1 =>
    rw [hm] at h
    have l1 := must_len (by decide) hm
    simp only at h
    cases hq : pw (d + 1) r1 with
    | error q => rw [hq] at h; cases h
    | ok q =>
      obtain ⟨f, r2⟩ := q
      rw [hq] at h
      have h1 := hp _ _ _ _ hq
      simp only at h
      split at h
      · rename_i e
        have hl := tail_len (ts := r2) (by rw [e]; decide)
        have := sec_eats hp h
        omega
      · cases hm2 : mustT [82] r2 with
        | error q => rw [hm2] at h; cases h
        | ok r3 =>
          rw [hm2] at h
          have l2 := must_len (by decide) hm2
          have := sec_eats hp h
          omega
theorem enc_eats {pw : Nat → List Tok → Res} (hp : ∀ d, Eats (pw d)) {g : F} {d : Nat} {ts r : List Tok} (h : encS pw d ts = .ok (g, r)) : g.cnt + r.length ≤ ts.length := by
  unfold encS at h
  cases hq : pw (d + 1) ts with
  | error q => rw [hq] at h; cases h
  | ok q =>
    obtain ⟨f, r2⟩ := q
    rw [hq] at h
    have h1 := hp _ _ _ _ hq
    simp only at h
    cases hm : mustT [41] r2 with
    | error q => rw [hm] at h; cases h
    | ok r3 =>
      rw [hm] at h
      injection h with h
      injection h with h3 h4
      subst h3 h4
      have := must_len (by decide) hm
      omega
theorem prim_eats {pp pw : Nat → List Tok → Res} (hp : ∀ d, Eats (pp d)) (hw : ∀ d, Eats (pw d)) (d : Nat) : Eats (prim pp pw d) := by
  intro ts f r h
  unfold prim at h
  split at h
  · cases h
  · by_cases h0 : hdT ts = []
    · rw [h0] at h
      have : primT pp pw d [] ts = atomT ts := rfl
      rw [this] at h
      unfold atomT at h
      split at h
      · rename_i e
        have hne : ts ≠ [] := by
          rintro rfl
          exact absurd e.1 (by decide)
        have hl : ts.tail.length + 1 = ts.length := by
          cases ts with
          | nil => exact absurd rfl hne
          | cons _ _ => rfl
        injection h with h
        injection h with h3 h4
        subst h3 h4
        simp only [F.cnt, cntL]
        omega
      · cases h
    · have hl := tail_len h0
      unfold primT at h
      split at h
      · injection h with h
        injection h with h3 h4
        subst h3 h4
        simp only [leaf, F.cnt, cntL]
        omega
      · split at h
        · injection h with h
          injection h with h3 h4
          subst h3 h4
          simp only [leaf, F.cnt, cntL]
          omega
        · split at h
          · unfold unaS at h
            cases hq : pp (d + 1) ts.tail with
            | error q => rw [hq] at h; cases h
            | ok q =>
              obtain ⟨g1, r1⟩ := q
              rw [hq] at h
              have h1 := hp _ _ _ _ hq
              injection h with h
              injection h with h3 h4
              subst h3 h4
              rw [cnt_un]
              omega
          · split at h
            · have := path_eats hw h
              omega
            · split at h
              · have := path_eats hw h
                omega
              · split at h
                · have := enc_eats hw h
                  omega
                · unfold atomT at h
                  split at h
                  · injection h with h
                    injection h with h3 h4
                    subst h3 h4
                    simp only [F.cnt, cntL]
                    omega
                  · cases h
theorem pP_eats : ∀ (n d : Nat), Eats (pP n d)
  | 0, d => by intro ts f r h; cases h
  | n + 1, d => by
    intro ts f r h
    rw [pP] at h
    exact prim_eats (pP_eats n) (whole_eats (pP_eats n)) d ts f r h
theorem parse_cnt {ts : List Tok} {f : F} (h : parseT ts = .ok f) : f.cnt ≤ ts.length ∧ validB f = true := by
  unfold parseT at h
  cases hq : wholeG (pP (ts.length + 1)) 0 ts with
  | error q => rw [hq] at h; cases h
  | ok q =>
    obtain ⟨g, r⟩ := q
    rw [hq] at h
    simp only at h
    split at h
    · split at h
      · rename_i hv
        injection h with h
        subst h
        exact ⟨by have := whole_eats (pP_eats _) 0 _ _ _ hq; omega, hv⟩
      · cases h
    · cases h

/-- Two readings that differ in places alone. -/
def SameR : Res → Res → Prop
  | .ok (f, r), .ok (g, q) => f = g ∧ r.map kt = q.map kt
  | .error (e, _), .error (e', _) => e = e'
  | _, _ => False
def SameP (p q : List Tok → Res) : Prop := ∀ ts us, ts.map kt = us.map kt → SameR (p ts) (q us)
theorem hdT_kt {ts us : List Tok} (h : ts.map kt = us.map kt) : hdT ts = hdT us ∧ hdK ts = hdK us ∧ ts.tail.map kt = us.tail.map kt ∧ ts.length = us.length := by
  have hl : ts.length = us.length := by
    have := congrArg List.length h
    simpa using this
  cases ts with
  | nil =>
    cases us with
    | nil => exact ⟨rfl, rfl, rfl, rfl⟩
    | cons _ _ => simp at hl
  | cons t r =>
    cases us with
    | nil => simp at hl
    | cons u q =>
      simp only [List.map_cons, List.cons.injEq, kt, Prod.mk.injEq] at h
      exact ⟨h.1.2, h.1.1, h.2, hl⟩
theorem must_kt {x : Bs} {ts us : List Tok} (h : ts.map kt = us.map kt) : (∃ r q, mustT x ts = .ok r ∧ mustT x us = .ok q ∧ r.map kt = q.map kt) ∨ (∃ a b, mustT x ts = .error (41, a) ∧ mustT x us = .error (41, b)) := by
  obtain ⟨h1, _, h3, _⟩ := hdT_kt h
  unfold mustT
  rw [h1]
  by_cases e : hdT us = x
  · rw [if_pos e, if_pos e]
    exact Or.inl ⟨_, _, rfl, rfl, h3⟩
  · rw [if_neg e, if_neg e]
    exact Or.inr ⟨_, _, rfl, rfl⟩
theorem same_cases {a b : Res} (h : SameR a b) : (∃ f r q, a = .ok (f, r) ∧ b = .ok (f, q) ∧ r.map kt = q.map kt) ∨ (∃ e x y, a = .error (e, x) ∧ b = .error (e, y)) := by
  match a, b, h with
  | .ok (f, r), .ok (g, q), h =>
    obtain ⟨rfl, h2⟩ := h
    exact Or.inl ⟨_, _, _, rfl, rfl, h2⟩
  | .error (e, x), .error (e', y), h =>
    have h' : e = e' := h
    subst h'
    exact Or.inr ⟨_, _, _, rfl, rfl⟩
theorem loop_same {x : Bs} {k : Int} {p q : List Tok → Res} (hp : SameP p q) : ∀ (n : Nat) (f : F) (ts us : List Tok), ts.map kt = us.map kt → SameR (loopG x k p n f ts) (loopG x k q n f us)
  | 0, f, ts, us, h => ⟨rfl, h⟩
  | n + 1, f, ts, us, h => by
    obtain ⟨h1, _, h3, _⟩ := hdT_kt h
    rw [loopG, loopG, h1]
    split
    · rcases same_cases (hp _ _ h3) with ⟨g, r, r', e1, e2, e3⟩ | ⟨e, a, b, e1, e2⟩
      · rw [e1, e2]
        exact loop_same hp n _ _ _ e3
      · rw [e1, e2]
        exact rfl
    · exact ⟨rfl, h⟩
theorem chain_same {x : Bs} {k : Int} {p q : List Tok → Res} (hp : SameP p q) : SameP (chainG x k p) (chainG x k q) := by
  intro ts us h
  unfold chainG
  rcases same_cases (hp _ _ h) with ⟨g, r, r', e1, e2, e3⟩ | ⟨e, a, b, e1, e2⟩
  · rw [e1, e2]
    simp only
    rw [(hdT_kt e3).2.2.2]
    exact loop_same hp _ _ _ _ e3
  · rw [e1, e2]
    exact rfl
theorem imp_same {p q : Nat → List Tok → Res} (hp : ∀ d, SameP (p d) (q d)) : ∀ (n d : Nat), SameP (impG p n d) (impG q n d)
  | 0, d => fun _ _ _ => rfl
  | n + 1, d => by
    intro ts us h
    rw [impG, impG]
    rcases same_cases (chain_same (x := [124]) (k := 6) (chain_same (x := [38]) (k := 5) (hp d)) _ _ h) with ⟨g, r, r', e1, e2, e3⟩ | ⟨e, a, b, e1, e2⟩
    · have e1' : orG p d ts = .ok (g, r) := e1
      have e2' : orG q d us = .ok (g, r') := e2
      rw [e1', e2']
      simp only
      obtain ⟨h1, _, h3, _⟩ := hdT_kt e3
      rw [h1]
      split
      · rcases same_cases (imp_same hp n (d + 1) _ _ h3) with ⟨g, r, r', e1, e2, e3⟩ | ⟨e, a, b, e1, e2⟩
        · rw [e1, e2]
          exact ⟨rfl, e3⟩
        · rw [e1, e2]
          exact rfl
      · exact ⟨rfl, e3⟩
    · have e1' : orG p d ts = .error (e, a) := e1
      have e2' : orG q d us = .error (e, b) := e2
      rw [e1', e2']
      exact rfl
theorem whole_same {p q : Nat → List Tok → Res} (hp : ∀ d, SameP (p d) (q d)) (d : Nat) : SameP (wholeG p d) (wholeG q d) :=
  chain_same fun ts us h => by
    show SameR (impG p (ts.length + 1) d ts) (impG q (us.length + 1) d us)
    rw [(hdT_kt h).2.2.2]
    exact imp_same hp _ d _ _ h
theorem sec_same {p q : Nat → List Tok → Res} (hp : ∀ d, SameP (p d) (q d)) (k : Int) (f : F) (d : Nat) {ts us : List Tok} (h : ts.map kt = us.map kt) : SameR (secS p k f d ts) (secS q k f d us) := by
  unfold secS
  rcases same_cases (hp (d + 1) _ _ h) with ⟨g, r, r', e1, e2, e3⟩ | ⟨e, a, b, e1, e2⟩
  · rw [e1, e2]
    simp only
    rcases must_kt (x := [93]) e3 with ⟨r, q, e1, e2, e3⟩ | ⟨a, b, e1, e2⟩
    · rw [e1, e2]
      exact ⟨rfl, e3⟩
    · rw [e1, e2]
      exact rfl
  · rw [e1, e2]
    exact rfl
theorem path_same {p q : Nat → List Tok → Res} (hp : ∀ d, SameP (p d) (q d)) (u v : Int) (d : Nat) {ts us : List Tok} (h : ts.map kt = us.map kt) : SameR (pathS p u v d ts) (pathS q u v d us) := by
  unfold pathS
  rcases must_kt (x := [91]) h with ⟨r, r', e1, e2, e3⟩ | ⟨a, b, e1, e2⟩
  · rw [e1, e2]
    simp only
    rcases same_cases (hp (d + 1) _ _ e3) with ⟨g, r, r', e1, e2, e3⟩ | ⟨e, a, b, e1, e2⟩
    · rw [e1, e2]
      simp only
      obtain ⟨h1, _, h3, _⟩ := hdT_kt e3
      rw [h1]
      split
      · exact sec_same hp u g d h3
      · rcases must_kt (x := [82]) e3 with ⟨r, q, e1, e2, e3⟩ | ⟨a, b, e1, e2⟩
        · rw [e1, e2]
          exact sec_same hp v g d e3
        · rw [e1, e2]
          exact rfl
    · rw [e1, e2]
      exact rfl
  · rw [e1, e2]
    exact rfl
theorem prim_same {p q pw qw : Nat → List Tok → Res} (hp : ∀ d, SameP (p d) (q d)) (hw : ∀ d, SameP (pw d) (qw d)) (d : Nat) : SameP (prim p pw d) (prim q qw d) := by
  intro ts us h
  obtain ⟨h1, h2, h3, _⟩ := hdT_kt h
  unfold prim
  rw [h1]
  split
  · exact rfl
  · unfold primT
    split
    · exact ⟨rfl, h3⟩
    · split
      · exact ⟨rfl, h3⟩
      · split
        · unfold unaS
          rcases same_cases (hp (d + 1) _ _ h3) with ⟨g, r, r', e1, e2, e3⟩ | ⟨e, a, b, e1, e2⟩
          · rw [e1, e2]
            exact ⟨rfl, e3⟩
          · rw [e1, e2]
            exact rfl
        · split
          · exact path_same hw 15 17 d h3
          · split
            · exact path_same hw 16 18 d h3
            · split
              · unfold encS
                rcases same_cases (hw (d + 1) _ _ h3) with ⟨g, r, r', e1, e2, e3⟩ | ⟨e, a, b, e1, e2⟩
                · rw [e1, e2]
                  simp only
                  rcases must_kt (x := [41]) e3 with ⟨r, q, e1, e2, e3⟩ | ⟨a, b, e1, e2⟩
                  · rw [e1, e2]
                    exact ⟨rfl, e3⟩
                  · rw [e1, e2]
                    exact rfl
                · rw [e1, e2]
                  exact rfl
              · unfold atomT
                rw [h1, h2]
                split
                · exact ⟨rfl, h3⟩
                · exact rfl
theorem pP_same : ∀ (n d : Nat), SameP (pP n d) (pP n d)
  | 0, d => fun _ _ _ => rfl
  | n + 1, d => fun ts us h => by
    rw [pP, pP]
    exact prim_same (pP_same n) (whole_same (pP_same n)) d ts us h
/-- Where the tokens are, but for places, the same, so is what is read. -/
theorem parse_same {ts us : List Tok} (h : ts.map kt = us.map kt) : (∃ f, parseT ts = .ok f ∧ parseT us = .ok f) ∨ (∃ e a b, parseT ts = .error (e, a) ∧ parseT us = .error (e, b)) := by
  unfold parseT
  rw [(hdT_kt h).2.2.2]
  rcases same_cases (whole_same (pP_same (us.length + 1)) 0 _ _ h) with ⟨g, r, r', e1, e2, e3⟩ | ⟨e, a, b, e1, e2⟩
  · rw [e1, e2]
    simp only
    rw [(hdT_kt e3).2.1]
    split
    · split
      · exact Or.inl ⟨_, rfl, rfl⟩
      · exact Or.inr ⟨_, _, _, rfl, rfl⟩
    · exact Or.inr ⟨_, _, _, rfl, rfl⟩
  · rw [e1, e2]
    exact Or.inr ⟨_, _, _, rfl, rfl⟩
end Fm
end Go.Proofs.YtlddnejjpekgeaaDoor
/- Formulas' texts, read: what the laws ask. -/
namespace Go.Proofs.YtlddnejjpekgeaaDoor
namespace Fm
open Tk

theorem bef_len (k : Int) : (befS k).length ≤ 5 := by
  unfold befS
  repeat' split
  all_goals decide
theorem bet_len (k : Int) : (betS k).length ≤ 5 := by
  unfold betS
  repeat' split
  all_goals decide
theorem beh_len (k : Int) : (behS k).length ≤ 1 := by
  unfold behS
  split <;> decide
theorem par_len (k : Int) (t : Bs) : (parS k t).length ≤ t.length + 2 := by
  unfold parS
  split <;> simp
theorem par_ge (k : Int) (t : Bs) : t.length ≤ (parS k t).length := by
  unfold parS
  split
  · simp only [List.length_cons, List.length_append]
    omega
  · exact Nat.le_refl _
theorem kidsN_le {k : Int} {n : Nat} (h : kidsN k = some n) : n ≤ 2 := by
  unfold kidsN at h
  split at h
  · simp at h; omega
  · split at h
    · simp at h; omega
    · split at h
      · simp at h; omega
      · cases h
theorem textL_len (k : Int) (ks : List F) (h : ∀ f ∈ ks, (parS f.k f.text).length ≤ 22 * f.cnt) : ∀ b, (textL k b ks).length ≤ 5 * ks.length + 22 * cntL ks := by
  induction ks with
  | nil => intro b; simp [textL]
  | cons f r ih =>
    intro b
    have h1 := ih (fun g hg => h g (List.mem_cons_of_mem _ hg)) false
    have h2 := h f (List.mem_cons_self ..)
    have h3 := bet_len k
    simp only [textL, cntL, List.length_append, List.length_cons]
    split <;> simp <;> omega
theorem part_len (f : F) (h : f.okB = true) : (parS f.k f.text).length ≤ 22 * f.cnt := by
  induction f using F.ind with
  | h k nm lit ks ih =>
    simp only [F.okB, Bool.and_eq_true, nodeB, decide_eq_true_eq] at h
    obtain ⟨⟨hk, _, hnm⟩, hks⟩ := h
    have h2 := kidsN_le hk
    simp only [F.k, F.text, F.cnt]
    by_cases h3 : k = 3
    · subst h3
      rw [if_pos rfl] at hnm ⊢
      simp only [wordB, Bool.and_eq_true, decide_eq_true_eq] at hnm
      have : parS 3 (atomS nm) = atomS nm := rfl
      rw [this]
      unfold atomS
      split
      · omega
      · simp
        omega
    · rw [if_neg h3]
      have h4 := textL_len k ks (fun f hf => ih f hf (okL_mem hks f hf)) true
      have h5 := par_len k (befS k ++ (textL k true ks ++ behS k))
      have h6 := bef_len k
      have h7 := beh_len k
      simp only [List.length_append] at h5
      omega
theorem text_len {f : F} (h : f.okB = true) : f.text.length ≤ 22 * f.cnt := Nat.le_trans (par_ge f.k _) (part_len f h)
theorem kt_eq (ts : List Tok) : ts.map (fun t => (t.k, t.t)) = ts.map kt := rfl
/-- What has the tokens of a formula is read as it. -/
theorem parse_words {s : Bs} {f : F} (h : validB f = true) (hs : s.length ≤ 20000) (hw : wordsS s = some (f.toks ++ [(0, [])])) : parseS s = .ok f := by
  rcases lexA_cases s hs with ⟨ts, e1, e2, _⟩ | ⟨a, _, e2, _⟩
  · rw [hw] at e2
    injection e2 with e2
    unfold parseS
    rw [e1]
    exact parse_toks h e2.symm
  · rw [hw] at e2
    cases e2
theorem parse_text {f : F} (h : validB f = true) (hs : f.text.length ≤ 20000) : parseS f.text = .ok f := by
  refine parse_words h hs (text_words ?_)
  simp only [validB, Bool.and_eq_true] at h
  exact h.1
theorem parse_words2 {s : Bs} {f : F} (h : validB f = true) (hs : s.length ≤ 20000) (hw : wordsS s = some ((2, [40]) :: (2, [40]) :: (f.toks ++ [(2, [41]), (2, [41]), (0, [])]))) : parseS s = .ok f := by
  rcases lexA_cases s hs with ⟨ts, e1, e2, _⟩ | ⟨a, _, e2, _⟩
  · rw [hw] at e2
    injection e2 with e2
    unfold parseS
    rw [e1]
    exact parse_enc h e2.symm
  · rw [hw] at e2
    cases e2
def lefT : Bs := [32, 40, 32, 40]
def rigT : Bs := [41, 10, 41, 32]
theorem words_enc {f : F} (hok : f.okB = true) : wordsS ((lefT ++ f.text) ++ rigT) = some ((2, [40]) :: (2, [40]) :: (f.toks ++ [(2, [41]), (2, [41]), (0, [])])) := by
  have e : (lefT ++ f.text) ++ rigT = 32 :: ([40] ++ (32 :: ([40] ++ (f.text ++ ([41] ++ (10 :: ([41] ++ (32 :: [])))))))) := by simp [lefT, rigT]
  rw [e, wordsS_blank _ (by decide), words_sign (x := [40]) (by decide), wordsS_blank _ (by decide), words_sign (x := [40]) (by decide),
    text_ok f hok ([41] ++ (10 :: ([41] ++ (32 :: [])))) (stops_cons _ (by decide)), words_sign (x := [41]) (by decide), wordsS_blank _ (by decide), words_sign (x := [41]) (by decide), wordsS_blank _ (by decide), wordsS_nil]
  simp
theorem parse_text2 {f : F} (h : validB f = true) (hs : f.text.length ≤ 19900) : parseS ((lefT ++ f.text) ++ rigT) = .ok f := by
  have hok : f.okB = true := by
    simp only [validB, Bool.and_eq_true] at h
    exact h.1
  refine parse_words2 h ?_ (words_enc hok)
  simp only [List.length_append, lefT, rigT, List.length_cons, List.length_nil]
  omega
/-- Unlike formulas have unlike texts. -/
theorem text_inj {f g : F} (hf : validB f = true) (hg : validB g = true) (h : f.text = g.text) : f = g := by
  have hf1 : f.okB = true := by simp only [validB, Bool.and_eq_true] at hf; exact hf.1
  have hg1 : g.okB = true := by simp only [validB, Bool.and_eq_true] at hg; exact hg.1
  have h1 := text_words hf1
  rw [h, text_words hg1] at h1
  injection h1 with h1
  have p1 := parse_toks hf (ts := (f.toks ++ [(0, [])]).map fun (x : Nat × Bs) => (⟨x.1, x.2, 0⟩ : Tok)) (by rw [List.map_map]; exact (List.map_congr_left (fun x _ => rfl)).trans (List.map_id _))
  have p2 := parse_toks hg (ts := (g.toks ++ [(0, [])]).map fun (x : Nat × Bs) => (⟨x.1, x.2, 0⟩ : Tok)) (by rw [List.map_map]; exact (List.map_congr_left (fun x _ => rfl)).trans (List.map_id _))
  rw [← h1] at p1
  rw [p1] at p2
  injection p2
/-- What was read, printed and read again is the same. -/
theorem parse_again {s : Bs} {f : F} (hs : s.length ≤ 900) (h : parseS s = .ok f) : validB f = true ∧ f.text.length ≤ 20000 ∧ parseS f.text = .ok f := by
  rcases lexA_cases s (by omega) with ⟨ts, e1, e2, _⟩ | ⟨a, e1, e2, _⟩
  · unfold parseS at h
    rw [e1] at h
    obtain ⟨hc, hv⟩ := parse_cnt h
    have hok : f.okB = true := by
      simp only [validB, Bool.and_eq_true] at hv
      exact hv.1
    have hl : ts.length ≤ s.length + 1 := by
      have e3 : ts = (lexS s).1 := by
        unfold lexA at e1
        rw [if_neg (by omega)] at e1
        cases he : (lexS s).2 with
        | none =>
          rw [he] at e1
          simp only [Prod.mk.injEq] at e1
          exact e1.1.symm
        | some b =>
          rw [he] at e1
          simp at e1
      rw [e3]
      exact scan_len s _ _
    have := text_len hok
    exact ⟨hv, by omega, parse_text hv (by omega)⟩
  · unfold parseS at h
    rw [e1] at h
    cases h
/-- Blanks between tokens make no difference, but for places. -/
theorem parse_blanks {s : Bs} {ts : List Tok} (hs : s.length ≤ 9000) (h : lexA s = (ts, 0, 0)) : (joinS (ts.map kt)).length ≤ 20000 ∧ ((∃ f, parseS s = .ok f ∧ parseS (joinS (ts.map kt)) = .ok f) ∨ (∃ e a b, parseS s = .error (e, a) ∧ parseS (joinS (ts.map kt)) = .error (e, b))) := by
  rcases lexA_cases s (by omega) with ⟨us, e1, e2, _⟩ | ⟨a, e1, e2, _⟩
  · rw [h] at e1
    simp only [Prod.mk.injEq] at e1
    obtain ⟨rfl, _, _⟩ := e1
    obtain ⟨b1, b2⟩ := words_back s.length s (Nat.le_refl _) _ e2
    rw [kt_eq] at b1 b2
    refine ⟨by omega, ?_⟩
    rcases lexA_cases (joinS (ts.map kt)) (by omega) with ⟨vs, e3, e4, _⟩ | ⟨a, e3, e4, _⟩
    · rw [b1] at e4
      injection e4 with e4
      have := parse_same (ts := ts) (us := vs) e4
      unfold parseS
      rw [h, e3]
      exact this
    · rw [b1] at e4
      cases e4
  · rw [h] at e1
    simp at e1
end Fm
end Go.Proofs.YtlddnejjpekgeaaDoor
/- Formulas by numbers: what parterrelaw08.Made makes. -/
namespace Go.Proofs.YtlddnejjpekgeaaDoor
namespace Fm
open Tk

def pickS (zs : List Nat) (n a : Nat) : Nat := if zs.length < a + 1 then 0 else zs.getD a 0 % n
def namesL : List Bs := [[113], [108, 48], [111, 117, 116], [108, 49], [105, 48], [111, 48], [97, 45, 98]]
/-- A formula's kind and what is picked then: where the numbers end, or are too many, or there are enough formulas around it, it is an atom or true. -/
def kindM (zs : List Nat) (d a : Nat) : Int × Nat := if d = 0 ∨ zs.length ≤ a + 1 ∨ 30 < a + 1 then (3 - ((pickS zs 7 (a + 1) / 5 : Nat) : Int), a + 2) else (1 + (pickS zs 18 a : Int), a + 1)
def nameM (zs : List Nat) (k : Int) (a : Nat) : Bs × Nat := if k = 3 then (namesL.getD (pickS zs 7 a) [], a + 1) else ([], a)
def kidsM (g : Nat → F × Nat) : Nat → Nat → List F × Nat
  | 0, a => ([], a)
  | n + 1, a => ((g a).1 :: (kidsM g n (g a).2).1, (kidsM g n (g a).2).2)
def kidN (k : Int) : Nat := (kidsN k).getD 0
def makeS (zs : List Nat) : Nat → Nat → F × Nat
  | 0, a => (.mk (kindM zs 0 a).1 (nameM zs (kindM zs 0 a).1 (kindM zs 0 a).2).1 0 [], (nameM zs (kindM zs 0 a).1 (kindM zs 0 a).2).2)
  | d + 1, a => (.mk (kindM zs (d + 1) a).1 (nameM zs (kindM zs (d + 1) a).1 (kindM zs (d + 1) a).2).1 0 (kidsM (makeS zs d) (kidN (kindM zs (d + 1) a).1) (nameM zs (kindM zs (d + 1) a).1 (kindM zs (d + 1) a).2).2).1,
      (kidsM (makeS zs d) (kidN (kindM zs (d + 1) a).1) (nameM zs (kindM zs (d + 1) a).1 (kindM zs (d + 1) a).2).2).2)
theorem pick_lt (zs : List Nat) (n a : Nat) (h : 0 < n) : pickS zs n a < n := by
  unfold pickS
  split
  · exact h
  · exact Nat.mod_lt _ h
theorem kind_ok (zs : List Nat) (d a : Nat) : 1 ≤ (kindM zs d a).1 ∧ (kindM zs d a).1 ≤ 18 ∧ (d = 0 → (kindM zs d a).1 = 2 ∨ (kindM zs d a).1 = 3) := by
  unfold kindM
  have h7 := pick_lt zs 7 (a + 1) (by decide)
  have h18 := pick_lt zs 18 a (by decide)
  by_cases h : d = 0 ∨ zs.length ≤ a + 1 ∨ 30 < a + 1
  · rw [if_pos h]
    simp only
    omega
  · rw [if_neg h]
    refine ⟨by simp only; omega, by simp only; omega, fun h0 => absurd (Or.inl h0) h⟩
theorem kidsN_some {k : Int} (h1 : 1 ≤ k) (h2 : k ≤ 18) : kidsN k = some (kidN k) := by
  unfold kidN kidsN
  split
  · rfl
  · split
    · rfl
    · rw [if_pos (by omega)]
      rfl
theorem name_ok (zs : List Nat) (k : Int) (a : Nat) : (if k = 3 then wordB (nameM zs k a).1 else (nameM zs k a).1.isEmpty) = true := by
  unfold nameM
  by_cases h : k = 3
  · rw [if_pos h, if_pos h]
    simp only
    have h7 := pick_lt zs 7 a (by decide)
    generalize pickS zs 7 a = p at *
    have hp : p = 0 ∨ p = 1 ∨ p = 2 ∨ p = 3 ∨ p = 4 ∨ p = 5 ∨ p = 6 := by omega
    rcases hp with rfl | rfl | rfl | rfl | rfl | rfl | rfl <;> decide
  · rw [if_neg h, if_neg h]
    rfl
theorem kids_len (g : Nat → F × Nat) : ∀ n a, (kidsM g n a).1.length = n
  | 0, _ => rfl
  | n + 1, a => by rw [kidsM, List.length_cons, kids_len g n]
theorem kids_all {P : F → Prop} (g : Nat → F × Nat) (h : ∀ a, P (g a).1) : ∀ n a, ∀ f ∈ (kidsM g n a).1, P f
  | 0, _ => by intro f hf; cases hf
  | n + 1, a => by
    intro f hf
    rw [kidsM] at hf
    rcases List.mem_cons.1 hf with rfl | hf
    · exact h a
    · exact kids_all g h n _ f hf
theorem okL_of {ks : List F} (h : ∀ f ∈ ks, f.okB = true) : okL ks = true := by
  induction ks with
  | nil => rfl
  | cons a r ih =>
    rw [okL, h a (List.mem_cons_self ..), ih (fun f hf => h f (List.mem_cons_of_mem _ hf))]
    rfl
theorem depL_le {ks : List F} {m : Nat} (h : ∀ f ∈ ks, f.dep ≤ m) : depL ks ≤ m := by
  induction ks with
  | nil => exact Nat.zero_le _
  | cons a r ih =>
    rw [depL]
    have h1 := h a (List.mem_cons_self ..)
    have h2 := ih (fun f hf => h f (List.mem_cons_of_mem _ hf))
    omega
theorem cntL_le {ks : List F} {m : Nat} (h : ∀ f ∈ ks, f.cnt ≤ m) : cntL ks ≤ ks.length * m := by
  induction ks with
  | nil => exact Nat.zero_le _
  | cons a r ih =>
    rw [cntL, List.length_cons, Nat.succ_mul]
    have h1 := h a (List.mem_cons_self ..)
    have h2 := ih (fun f hf => h f (List.mem_cons_of_mem _ hf))
    omega
theorem make_ok (zs : List Nat) : ∀ d a, (makeS zs d a).1.okB = true ∧ (makeS zs d a).1.dep ≤ d + 1 ∧ (makeS zs d a).1.cnt + 1 ≤ 2 ^ (d + 1)
  | 0, a => by
    obtain ⟨h1, h2, h3⟩ := kind_ok zs 0 a
    have hn := name_ok zs (kindM zs 0 a).1 (kindM zs 0 a).2
    have hk : kidsN (kindM zs 0 a).1 = some 0 := by
      rcases h3 rfl with h | h <;> rw [h] <;> rfl
    refine ⟨?_, ?_, ?_⟩
    · simp only [makeS, F.okB, okL, nodeB, Bool.and_true, Bool.and_eq_true, decide_eq_true_eq]
      exact ⟨hk, trivial, hn⟩
    · simp [makeS, F.dep, depL]
    · simp [makeS, F.cnt, cntL]
  | d + 1, a => by
    obtain ⟨h1, h2, _⟩ := kind_ok zs (d + 1) a
    have hn := name_ok zs (kindM zs (d + 1) a).1 (kindM zs (d + 1) a).2
    have hk := kidsN_some h1 h2
    have ih := make_ok zs d
    have hl := kids_len (makeS zs d) (kidN (kindM zs (d + 1) a).1) (nameM zs (kindM zs (d + 1) a).1 (kindM zs (d + 1) a).2).2
    have hle := kidsN_le hk
    refine ⟨?_, ?_, ?_⟩
    · simp only [makeS, F.okB, nodeB, Bool.and_eq_true, decide_eq_true_eq]
      rw [hl]
      exact ⟨⟨hk, trivial, hn⟩, okL_of (kids_all _ (fun b => (ih b).1) _ _)⟩
    · simp only [makeS, F.dep]
      have := depL_le (kids_all (P := fun f => f.dep ≤ d + 1) _ (fun b => (ih b).2.1) (kidN (kindM zs (d + 1) a).1) (nameM zs (kindM zs (d + 1) a).1 (kindM zs (d + 1) a).2).2)
      omega
    · simp only [makeS, F.cnt]
      have := cntL_le (kids_all (P := fun f => f.cnt ≤ 2 ^ (d + 1) - 1) _ (fun b => Nat.le_sub_one_of_lt ((ih b).2.2)) (kidN (kindM zs (d + 1) a).1) (nameM zs (kindM zs (d + 1) a).1 (kindM zs (d + 1) a).2).2)
      rw [hl] at this
      have h3 : kidN (kindM zs (d + 1) a).1 * (2 ^ (d + 1) - 1) ≤ 2 * (2 ^ (d + 1) - 1) := Nat.mul_le_mul_right _ hle
      have h4 : 2 ^ (d + 1 + 1) = 2 * 2 ^ (d + 1) := by rw [Nat.pow_succ]; omega
      have h5 : 1 ≤ 2 ^ (d + 1) := Nat.one_le_two_pow
      omega
/-- What is made is valid, and its text is short. -/
theorem make_valid (zs : List Nat) : validB (makeS zs 6 0).1 = true ∧ (makeS zs 6 0).1.text.length ≤ 2794 := by
  obtain ⟨h1, h2, h3⟩ := make_ok zs 6 0
  have h4 := text_len h1
  have h5 : (2 : Nat) ^ (6 + 1) = 128 := by decide
  rw [h5] at h3
  refine ⟨?_, by omega⟩
  simp only [validB, Bool.and_eq_true, decide_eq_true_eq]
  exact ⟨h1, by omega, by omega⟩
end Fm
end Go.Proofs.YtlddnejjpekgeaaDoor
/- The tokens of a text: what they look like. -/
namespace Go.Proofs.YtlddnejjpekgeaaDoor
namespace Fm
open Tk

/-- A name as it stands among the tokens. -/
def NameT (t : Bs) : Prop := (t ≠ [] ∧ t.all plainB = true) ∨ ∃ w : Bs, w ≠ [] ∧ w.all quotB = true ∧ t = 34 :: (w ++ [34])
def TokT (t : Tok) : Prop := (t.k = 1 ∧ NameT t.t) ∨ (t.k = 2 ∧ t.t ∈ signsL)
def Shape (ts : List Tok) : Prop := ∃ us e, ts = us ++ [e] ∧ e.k = 0 ∧ e.t = [] ∧ ∀ t ∈ us, TokT t
theorem run_all (p : UInt8 → Bool) (u : Bs) : (u.take (runS p u)).all p = true := by
  induction u with
  | nil => rfl
  | cons a u ih =>
    rw [runS]
    split
    · rename_i h
      rw [List.take_succ_cons, List.all_cons, h, ih]
      rfl
    · rfl
theorem first_tok (u : Bs) (h : (firstS u).2 ≠ 0) (a : Nat) : TokT ⟨(firstS u).1, u.take (firstS u).2, a⟩ := by
  have hle := first_le u
  unfold firstS at h hle ⊢
  by_cases h1 : runS plainB u ≠ 0
  · rw [if_pos h1] at h hle ⊢
    refine Or.inl ⟨rfl, Or.inl ⟨?_, run_all plainB u⟩⟩
    intro e
    have := congrArg List.length e
    rw [List.length_take] at this
    simp only [List.length_nil] at this hle
    omega
  · rw [if_neg h1] at h hle ⊢
    by_cases h2 : quotedS u ≠ 0
    · rw [if_pos h2] at h hle ⊢
      refine Or.inl ⟨rfl, Or.inr ?_⟩
      unfold quotedS at h2 hle ⊢
      by_cases hc : u[0]? = some 34 ∧ runS quotB (u.drop 1) ≠ 0 ∧ (u.drop 1)[runS quotB (u.drop 1)]? = some 34
      · rw [if_pos hc] at hle ⊢
        obtain ⟨c1, c2, c3⟩ := hc
        cases u with
        | nil => simp at c1
        | cons b v =>
          simp only [List.getElem?_cons_zero, Option.some.injEq] at c1
          subst c1
          simp only [List.drop_succ_cons, List.drop_zero] at c2 c3 hle ⊢
          refine ⟨v.take (runS quotB v), ?_, run_all quotB v, ?_⟩
          · intro e
            have := congrArg List.length e
            rw [List.length_take] at this
            simp only [List.length_nil, List.length_cons] at this hle
            omega
          · rw [List.take_succ_cons]
            congr 1
            rw [List.take_add_one, c3]
            rfl
      · rw [if_neg hc] at h2
        exact absurd rfl h2
    · rw [if_neg h2] at h hle ⊢
      refine Or.inr ⟨rfl, ?_⟩
      obtain ⟨x, hx, hl, hp⟩ := signIn_some (l := signsL) (u := u) h
      show u.take (signS u) ∈ signsL
      have : u.take (signS u) = x := by
        unfold signS
        rw [← hl]
        exact (List.prefix_iff_eq_take.1 hp).symm
      rw [this]
      exact hx
theorem scan_shape (s : Bs) : ∀ (n a : Nat), s.length + 1 ≤ n + a → a ≤ s.length → (scan s n a).2 = none → Shape (scan s n a).1
  | 0, a, hn, ha, _ => by
    exfalso
    omega
  | n + 1, a, hn, ha, h => by
    by_cases hl : s.length ≤ a
    · rw [scan_end hl]
      exact ⟨[], _, rfl, rfl, rfl, fun t ht => by cases ht⟩
    · by_cases h0 : (firstS (s.drop a)).2 = 0
      · rw [scan_bad (by omega) h0] at h
        cases h
      · rw [scan_tok (by omega) h0] at h ⊢
        have hg := skip_ge s (a + (firstS (s.drop a)).2)
        have hfl := first_le (s.drop a)
        rw [List.length_drop] at hfl
        obtain ⟨us, e, e1, e2, e3, e4⟩ := scan_shape s n _ (by omega) (skip_le s _ (by omega)) h
        refine ⟨_ :: us, e, by rw [e1]; rfl, e2, e3, ?_⟩
        intro t ht
        rcases List.mem_cons.1 ht with rfl | ht
        · exact first_tok _ h0 a
        · exact e4 t ht
theorem lex_shape {s : Bs} {ts : List Tok} (h : lexA s = (ts, 0, 0)) : Shape ts ∧ ts.length ≤ 20001 := by
  have hl := lexA_len s
  rw [h] at hl
  refine ⟨?_, hl⟩
  unfold lexA at h
  split at h
  · simp at h
  · cases he : (lexS s).2 with
    | none =>
      rw [he] at h
      simp only [Prod.mk.injEq, and_true] at h
      rw [← h]
      exact scan_shape s _ _ (by omega) (skip_le s 0 (Nat.zero_le _)) he
    | some b =>
      rw [he] at h
      simp at h
theorem name_trim {t : Bs} (h : NameT t) : (trimQ t = t ∧ t.all plainB = true ∧ t.head? ≠ some 34) ∨ (∃ w : Bs, w ≠ [] ∧ w.all quotB = true ∧ t = 34 :: (w ++ [34]) ∧ trimQ t = w) := by
  rcases h with ⟨h0, h1⟩ | ⟨w, h0, h1, rfl⟩
  · left
    have hh : t.head? ≠ some 34 := by
      cases t with
      | nil => simp
      | cons b r =>
        simp only [List.all_cons, Bool.and_eq_true] at h1
        intro e
        simp only [List.head?_cons, Option.some.injEq] at e
        subst e
        exact absurd h1.1 (by decide)
    refine ⟨?_, h1, hh⟩
    unfold trimQ
    rw [if_neg hh]
  · right
    refine ⟨w, h0, h1, rfl, ?_⟩
    unfold trimQ
    rw [if_pos (show (34 :: (w ++ [34])).head? = some 34 from rfl)]
    simp
end Fm
end Go.Proofs.YtlddnejjpekgeaaDoor
/- Formulas in memory. -/
namespace Go.Proofs.YtlddnejjpekgeaaDoor
open Go.RowKit

mutual
/-- The value v is the formula f, whose parts lie in blocks of a kind. -/
def FV (w : World) (K : Nat → Prop) : Fm.F → Value → Prop
  | .mk k nm lit ks, v => ∃ (A : Option Addr) (c : Nat), v = .agg #[.int .i64 k, .string ⟨nm.toArray⟩, .int .i64 lit, .slice A ks.length c] ∧ FL w K ks A 0
/-- At A lie some formulas, from a place on. -/
def FL (w : World) (K : Nat → Prop) : List Fm.F → Option Addr → Nat → Prop
  | [], _, _ => True
  | f :: r, A, i => (∃ (b off : Nat) (v0 v1 v2 v3 : Value), A = some ⟨b, off, none⟩ ∧ K b ∧ w.cell? ⟨b, off + i * 4, none⟩ = some v0 ∧ w.cell? ⟨b, off + i * 4 + 1, none⟩ = some v1 ∧ w.cell? ⟨b, off + i * 4 + 2, none⟩ = some v2 ∧ w.cell? ⟨b, off + i * 4 + 3, none⟩ = some v3 ∧ FV w K f (.agg #[v0, v1, v2, v3])) ∧ FL w K r A (i + 1)
end
theorem FL.keepL {w w' : World} {K K' : Nat → Prop} (ks : List Fm.F) (h : ∀ f ∈ ks, ∀ v, FV w K f v → FV w' K' f v) (hk : ∀ p : Addr, K p.block → w'.cell? p = w.cell? p) (hB : ∀ b, K b → K' b) : ∀ A i, FL w K ks A i → FL w' K' ks A i := by
  induction ks with
  | nil => intro A i _; trivial
  | cons f r ih =>
    intro A i hl
    rw [FL] at hl ⊢
    obtain ⟨⟨b, off, v0, v1, v2, v3, hA, hb, h0, h1, h2, h3, hf⟩, hr⟩ := hl
    exact ⟨⟨b, off, v0, v1, v2, v3, hA, hB b hb, (hk _ hb).trans h0, (hk _ hb).trans h1, (hk _ hb).trans h2, (hk _ hb).trans h3, h f (List.mem_cons_self ..) _ hf⟩, ih (fun g hg => h g (List.mem_cons_of_mem _ hg)) _ _ hr⟩
theorem FV.keep {w w' : World} {K K' : Nat → Prop} (hk : ∀ p : Addr, K p.block → w'.cell? p = w.cell? p) (hB : ∀ b, K b → K' b) (f : Fm.F) : ∀ v, FV w K f v → FV w' K' f v := by
  induction f using Fm.F.ind with
  | h k nm lit ks ih =>
    intro v hv
    rw [FV] at hv ⊢
    obtain ⟨A, c, e, hl⟩ := hv
    exact ⟨A, c, e, FL.keepL ks ih hk hB A 0 hl⟩
theorem FL.keep {w w' : World} {K K' : Nat → Prop} (hk : ∀ p : Addr, K p.block → w'.cell? p = w.cell? p) (hB : ∀ b, K b → K' b) {ks : List Fm.F} {A : Option Addr} {i : Nat} (h : FL w K ks A i) : FL w' K' ks A i :=
  FL.keepL ks (fun f _ v hv => FV.keep hk hB f v hv) hk hB A i h
/-- Blocks below a bound; those of them that are not one of them. -/
abbrev Lo (B : Nat) : Nat → Prop := fun b => b < B
abbrev NotR (R B : Nat) : Nat → Prop := fun b => b < B ∧ b ≠ R
theorem FV.below {w w' : World} {B C : Nat} {f : Fm.F} {v : Value} (h : FV w (Lo B) f v) (hb : Below C w w') (hB : B ≤ C) : FV w' (Lo B) f v :=
  FV.keep (fun _ hp => hb.cell (Nat.lt_of_lt_of_le hp hB)) (fun _ h => h) f v h
theorem FV.on {w w' : World} {f : Fm.F} {v : Value} (h : FV w (Lo w.heap.size) f v) (hb : Below w.heap.size w w') : FV w' (Lo w'.heap.size) f v :=
  FV.keep (fun _ hp => hb.cell hp) (fun _ h => Nat.lt_of_lt_of_le h hb.size) f v h
theorem FV.more {w : World} {K K' : Nat → Prop} {f : Fm.F} {v : Value} (h : FV w K f v) (hB : ∀ b, K b → K' b) : FV w K' f v := FV.keep (fun _ _ => rfl) hB f v h
theorem FL.on {w w' : World} {ks : List Fm.F} {A : Option Addr} {i : Nat} (h : FL w (Lo w.heap.size) ks A i) (hb : Below w.heap.size w w') : FL w' (Lo w'.heap.size) ks A i :=
  FL.keep (fun _ hp => hb.cell hp) (fun _ h => Nat.lt_of_lt_of_le h hb.size) h
theorem FL.more {w : World} {K K' : Nat → Prop} {ks : List Fm.F} {A : Option Addr} {i : Nat} (h : FL w K ks A i) (hB : ∀ b, K b → K' b) : FL w K' ks A i := FL.keep (fun _ _ => rfl) hB h
/-- The formula at a place: its four cells. -/
theorem FL.at {w : World} {K : Nat → Prop} : ∀ (ks : List Fm.F) (A : Option Addr) (i : Nat), FL w K ks A i → ∀ j (hj : j < ks.length), ∃ (b off : Nat) (A' : Option Addr) (c' : Nat), A = some ⟨b, off, none⟩ ∧ K b ∧
    w.cell? ⟨b, off + (i + j) * 4, none⟩ = some (.int .i64 ks[j].k) ∧ w.cell? ⟨b, off + (i + j) * 4 + 1, none⟩ = some (.string ⟨ks[j].nm.toArray⟩) ∧ w.cell? ⟨b, off + (i + j) * 4 + 2, none⟩ = some (.int .i64 ks[j].lit) ∧ w.cell? ⟨b, off + (i + j) * 4 + 3, none⟩ = some (.slice A' ks[j].ks.length c') ∧
    FV w K ks[j] (.agg #[.int .i64 ks[j].k, .string ⟨ks[j].nm.toArray⟩, .int .i64 ks[j].lit, .slice A' ks[j].ks.length c'])
  | [], _, _, _ => by intro j hj; cases hj
  | f :: r, A, i, h => by
    intro j hj
    rw [FL] at h
    obtain ⟨⟨b, off, v0, v1, v2, v3, hA, hb, h0, h1, h2, h3, hf⟩, hr⟩ := h
    cases j with
    | zero =>
      simp only [List.getElem_cons_zero, Nat.add_zero]
      cases f with
      | mk k nm lit ks =>
        have hf' := hf
        rw [FV] at hf'
        obtain ⟨A', c', e, _⟩ := hf'
        simp only [Value.agg.injEq, Array.mk.injEq, List.cons.injEq, and_true] at e
        obtain ⟨rfl, rfl, rfl, rfl⟩ := e
        exact ⟨b, off, A', c', hA, hb, h0, h1, h2, h3, hf⟩
    | succ j =>
      have := FL.at r A (i + 1) hr j (by simpa using hj)
      simp only [List.getElem_cons_succ]
      rw [show i + (j + 1) = i + 1 + j by omega]
      exact this
theorem FV.mk {w : World} {K : Nat → Prop} {k : Int} {nm : Tk.Bs} {lit : Int} {ks : List Fm.F} {A : Option Addr} {c : Nat} (h : FL w K ks A 0) : FV w K (.mk k nm lit ks) (.agg #[.int .i64 k, .string ⟨nm.toArray⟩, .int .i64 lit, .slice A ks.length c]) := by
  rw [FV]
  exact ⟨A, c, rfl, h⟩
theorem FL.nil (w : World) (K : Nat → Prop) (A : Option Addr) (i : Nat) : FL w K [] A i := by rw [FL]; trivial
theorem FL.cons {w : World} {K : Nat → Prop} {f : Fm.F} {r : List Fm.F} {b off i : Nat} {v0 v1 v2 v3 : Value} (hb : K b) (h0 : w.cell? ⟨b, off + i * 4, none⟩ = some v0) (h1 : w.cell? ⟨b, off + i * 4 + 1, none⟩ = some v1) (h2 : w.cell? ⟨b, off + i * 4 + 2, none⟩ = some v2) (h3 : w.cell? ⟨b, off + i * 4 + 3, none⟩ = some v3)
    (hf : FV w K f (.agg #[v0, v1, v2, v3])) (hr : FL w K r (some ⟨b, off, none⟩) (i + 1)) : FL w K (f :: r) (some ⟨b, off, none⟩) i := by
  rw [FL]
  exact ⟨⟨b, off, v0, v1, v2, v3, rfl, hb, h0, h1, h2, h3, hf⟩, hr⟩
end Go.Proofs.YtlddnejjpekgeaaDoor
/- The reader of formulas: its box, its tokens, what it keeps. -/
namespace Go.Proofs.YtlddnejjpekgeaaDoor
open Go.RowKit

/-- Every block but the reader's stays as it was. -/
structure RKeep (R : Nat) (w w' : World) : Prop where
  os : w'.os = w.os
  tape : w'.tape = w.tape
  output : w'.output = w.output
  size : w.heap.size ≤ w'.heap.size
  blk : ∀ b, b < w.heap.size → b ≠ R → w'.heap[b]? = w.heap[b]?
theorem RKeep.refl (R : Nat) (w : World) : RKeep R w w := ⟨rfl, rfl, rfl, Nat.le_refl _, fun _ _ _ => rfl⟩
theorem RKeep.trans {R : Nat} {a b c : World} (h : RKeep R a b) (k : RKeep R b c) : RKeep R a c :=
  ⟨k.os.trans h.os, k.tape.trans h.tape, k.output.trans h.output, Nat.le_trans h.size k.size, fun i hi hn => (k.blk i (Nat.lt_of_lt_of_le hi h.size) hn).trans (h.blk i hi hn)⟩
theorem RKeep.below {R : Nat} {a b c : World} (h : RKeep R a b) (k : Below b.heap.size b c) : RKeep R a c :=
  h.trans ⟨k.os, k.tape, k.output, k.size, fun i hi _ => k.block i hi⟩
theorem RKeep.set {R : Nat} {a b : World} (h : RKeep R a b) {p : Addr} (hp : p.block = R) (u : Value) : RKeep R a (b.setCell p u) :=
  ⟨h.os, h.tape, h.output, by simpa using h.size, fun i hi hn => (Below.heap_setCell b p u i (fun e => hn (by omega))).trans (h.blk i hi hn)⟩
theorem RKeep.blkOf {R g : Nat} {a b : World} {t : TypeId} {cs : Array Value} (h : RKeep R a b) (k : Blk a g t cs) (hn : g ≠ R) : Blk b g t cs := k.keep (h.blk g k.lt hn)
theorem RKeep.cell {R : Nat} {a b : World} (h : RKeep R a b) {p : Addr} (hl : p.block < a.heap.size) (hn : p.block ≠ R) : b.cell? p = a.cell? p := World.cell?_of_block (h.blk p.block hl hn)
theorem RKeep.low {R B : Nat} {w w' : World} (h : RKeep R w w') (hB : B ≤ w.heap.size) (hR : B ≤ R) : Below B w w' := ⟨h.os, h.tape, h.output, h.size, fun i hi => h.blk i (by omega) (by omega)⟩
theorem RKeep.drew {R : Nat} {a b : World} (h : RKeep R a b) : RKeep R a b.drew := ⟨h.os, h.tape, h.output, h.size, h.blk⟩
theorem RKeep.alloc {R : Nat} {a b : World} (h : RKeep R a b) (o : Obj) : RKeep R a (b.alloc o) := h.below (lowAlloc b o)
/-- Tokens that lie behind an address, below a bound. -/
def TL (w : World) (B b off : Nat) (ts : List Tk.Tok) : Prop := b < B ∧ b < w.heap.size ∧ ∀ k (h : k < ts.length), w.cell? ⟨b, off + k * 3, none⟩ = some (.int .i64 ((ts[k]).k : Int)) ∧ w.cell? ⟨b, off + k * 3 + 1, none⟩ = some (.string (bsv (ts[k]).t)) ∧ w.cell? ⟨b, off + k * 3 + 2, none⟩ = some (.int .i64 ((ts[k]).a : Int))
theorem TL.rk {w w' : World} {R b off : Nat} {ts : List Tk.Tok} (h : TL w R b off ts) (k : RKeep R w w') : TL w' R b off ts :=
  ⟨h.1, Nat.lt_of_lt_of_le h.2.1 k.size, fun i hi => by
    obtain ⟨h0, h1, h2⟩ := h.2.2 i hi
    have hb := h.1
    have hl := h.2.1
    exact ⟨(k.cell (p := ⟨b, _, none⟩) hl (by simp only; omega)).trans h0, (k.cell (p := ⟨b, _, none⟩) hl (by simp only; omega)).trans h1, (k.cell (p := ⟨b, _, none⟩) hl (by simp only; omega)).trans h2⟩⟩
theorem TL.tail {w : World} {B b off : Nat} {t : Tk.Tok} {ts : List Tk.Tok} (h : TL w B b off (t :: ts)) : TL w B b (off + 3) ts :=
  ⟨h.1, h.2.1, fun i hi => by
    have := h.2.2 (i + 1) (by simpa using hi)
    rw [show off + (i + 1) * 3 = off + 3 + i * 3 by omega] at this
    exact this⟩
/-- A row of words and the end, none of them long. -/
def ShapeL (ts : List Tk.Tok) : Prop := Fm.Shape ts ∧ ∀ t ∈ ts, t.t.length ≤ 1000000
/-- The reader at R, the tokens that are left. -/
def PR (w : World) (R : Nat) (ts : List Tk.Tok) : Prop := ∃ b off cap, Blk w R 89 #[.slice (some ⟨b, off, none⟩) ts.length cap] ∧ TL w R b off ts ∧ ShapeL ts ∧ ts.length ≤ 20001 ∧ ts.length ≤ cap
theorem PR.lt {w : World} {R : Nat} {ts : List Tk.Tok} (h : PR w R ts) : R < w.heap.size := by
  obtain ⟨_, _, _, hb, _⟩ := h
  exact hb.lt
theorem shape_cons {t : Tk.Tok} {ts : List Tk.Tok} (h : ShapeL (t :: ts)) (hk : t.k ≠ 0) : ShapeL ts ∧ ts ≠ [] := by
  obtain ⟨⟨us, e, e1, e2, e3, e4⟩, hs⟩ := h
  cases us with
  | nil =>
    simp only [List.nil_append, List.cons.injEq] at e1
    obtain ⟨rfl, rfl⟩ := e1
    exact absurd e2 hk
  | cons u us =>
    simp only [List.cons_append, List.cons.injEq] at e1
    obtain ⟨rfl, rfl⟩ := e1
    exact ⟨⟨⟨us, e, rfl, e2, e3, fun t ht => e4 t (List.mem_cons_of_mem _ ht)⟩, fun t ht => hs t (List.mem_cons_of_mem _ ht)⟩, by simp⟩
theorem shape_head {t : Tk.Tok} {ts : List Tk.Tok} (h : ShapeL (t :: ts)) : (t.k = 0 ∧ t.t = []) ∨ Fm.TokT t := by
  obtain ⟨⟨us, e, e1, e2, e3, e4⟩, _⟩ := h
  cases us with
  | nil =>
    simp only [List.nil_append, List.cons.injEq] at e1
    obtain ⟨rfl, rfl⟩ := e1
    exact Or.inl ⟨e2, e3⟩
  | cons u us =>
    simp only [List.cons_append, List.cons.injEq] at e1
    obtain ⟨rfl, rfl⟩ := e1
    exact Or.inr (e4 _ (List.mem_cons_self ..))
theorem shape_ne {ts : List Tk.Tok} (h : ShapeL ts) : ∃ t r, ts = t :: r := by
  obtain ⟨⟨us, e, rfl, _⟩, _⟩ := h
  cases us with
  | nil => exact ⟨e, [], rfl⟩
  | cons u us => exact ⟨u, us ++ [e], rfl⟩
/-- A text that is there stands at a token that is not the end. -/
theorem shape_text {t : Tk.Tok} {ts : List Tk.Tok} (h : ShapeL (t :: ts)) (hx : t.t ≠ []) : t.k ≠ 0 := by
  rcases shape_head h with ⟨_, h2⟩ | h
  · exact absurd h2 hx
  · rcases h with ⟨h1, _⟩ | ⟨h1, _⟩ <;> omega
abbrev FaultE (k a : Nat) : Ending := .panicked [{ v := .iface 87 (.agg #[.int .i64 (k : Int), .int .i64 (a : Int)]), recovered := false }]
/-- Blocks that were made between two sizes of the heap. -/
abbrev Fr (lo hi : Nat) : Nat → Prop := fun b => lo ≤ b ∧ b < hi
/-- A reading of a formula. -/
def ResP (R : Nat) (w : World) (o : Fm.Res) (e : Ending) (w' : World) : Prop :=
  match o with
  | .error (k, a) => e = FaultE k a ∧ RKeep R w w'
  | .ok (f, ts) => ∃ v, e = .returned v ∧ FV w' (Fr w.heap.size w'.heap.size) f v ∧ PR w' R ts ∧ RKeep R w w'
theorem FV.rk {w w' : World} {R : Nat} {K : Nat → Prop} {f : Fm.F} {v : Value} (h : FV w K f v) (hK : ∀ b, K b → b < w.heap.size ∧ b ≠ R) (k : RKeep R w w') : FV w' K f v :=
  FV.keep (fun p hp => k.cell (hK _ hp).1 (hK _ hp).2) (fun _ hb => hb) f v h
theorem FV.low {w w' : World} {K : Nat → Prop} {f : Fm.F} {v : Value} (h : FV w K f v) (hK : ∀ b, K b → b < w.heap.size) (k : Below w.heap.size w w') : FV w' K f v :=
  FV.keep (fun p hp => k.cell (hK _ hp)) (fun _ hb => hb) f v h
theorem cell_far (w : World) (p q : Addr) (v : Value) (h : p.block ≠ q.block) : (w.setCell q v).cell? p = w.cell? p := World.cell?_of_block (Below.heap_setCell w q v p.block h)
theorem PR.below {w w' : World} {R : Nat} {ts : List Tk.Tok} (h : PR w R ts) (k : Below w.heap.size w w') : PR w' R ts := by
  obtain ⟨b, off, cap, hb, hT, hS, hl, hc⟩ := h
  exact ⟨b, off, cap, hb.below k hb.lt, hT.rk ((RKeep.refl R w).below k), hS, hl, hc⟩
theorem PR.far {w : World} {R : Nat} {ts : List Tk.Tok} (h : PR w R ts) {p : Addr} (hp : R < p.block) (v : Value) : PR (w.setCell p v) R ts := by
  obtain ⟨b, off, cap, hb, hT, hS, hl, hc⟩ := h
  have hbR := hT.1
  exact ⟨b, off, cap, hb.far (by omega) v, ⟨hT.1, by simpa using hT.2.1, fun i hi => by
    obtain ⟨h0, h1, h2⟩ := hT.2.2 i hi
    exact ⟨(cell_far w ⟨b, _, none⟩ p v (by simp only; omega)).trans h0, (cell_far w ⟨b, _, none⟩ p v (by simp only; omega)).trans h1, (cell_far w ⟨b, _, none⟩ p v (by simp only; omega)).trans h2⟩⟩, hS, hl, hc⟩
theorem RKeep.far {R : Nat} {a b : World} (h : RKeep R a b) {p : Addr} (hp : a.heap.size ≤ p.block) (u : Value) : RKeep R a (b.setCell p u) :=
  ⟨h.os, h.tape, h.output, by simpa using h.size, fun i hi hn => (Below.heap_setCell b p u i (by omega)).trans (h.blk i hi hn)⟩
theorem FV.far {w : World} {K : Nat → Prop} {f : Fm.F} {v : Value} (h : FV w K f v) {p : Addr} (hK : ¬ K p.block) (u : Value) : FV (w.setCell p u) K f v :=
  FV.keep (fun q hq => cell_far w q p u (fun e => hK (e ▸ hq))) (fun _ hb => hb) f v h
theorem PR.drew {w : World} {R : Nat} {ts : List Tk.Tok} (h : PR w R ts) : PR w.drew R ts := h
end Go.Proofs.YtlddnejjpekgeaaDoor
/- The reader of formulas: skip, take, need, must, of. -/
namespace Go.Proofs.YtlddnejjpekgeaaDoor
open Go.RowKit

theorem slice_tail (b off n c : Nat) (h1 : 2 ≤ n) (hc : n ≤ c) (w : World) : (Instr.slice 39 (.slice (some ⟨b, off, none⟩) n c) (some (.int .i64 1)) none none).run Tryd.prog w = .ok (.slice (some ⟨b, off + 3, none⟩) (n - 1) (c - 1)) w := by
  have e1 : (1 : Int) ≤ (n : Int) := by omega
  have e2 : ¬ c = 1 := by omega
  go_simp
theorem ix0 (b off n c : Nat) (h1 : 1 ≤ n) (w : World) : (Instr.indexAt 39 (.slice (some ⟨b, off, none⟩) n c) (.int .i64 0)).run Tryd.prog w = .ok (.pointer (some ⟨b, off, none⟩)) w := by
  have e1 : (0 : Int) < (n : Int) := by omega
  have e2 : ¬ n = 0 := by omega
  go_simp
  all_goals (intro h; omega)
/-- What a skip does. -/
theorem PR.skip {w : World} {R b off cap : Nat} {t : Tk.Tok} {ts : List Tk.Tok} (hb : Blk w R 89 #[.slice (some ⟨b, off, none⟩) (ts.length + 1) cap]) (hT : TL w R b off (t :: ts)) (hS : ShapeL (t :: ts)) (hl : ts.length + 1 ≤ 20001) (hc : ts.length + 1 ≤ cap) (hk : t.k ≠ 0) :
    PR (w.setCell ⟨R, 0, none⟩ (.slice (some ⟨b, off + 3, none⟩) ts.length (cap - 1))) R ts := by
  have hp := hb.put 0 (.slice (some ⟨b, off + 3, none⟩) ts.length (cap - 1))
  refine ⟨b, off + 3, cap - 1, by simpa using hp, (hT.tail).rk ((RKeep.refl R w).set rfl _), (shape_cons hS hk).1, by omega, by omega⟩
set_option maxHeartbeats 2000000 in
theorem skip_any (R : Nat) (t : Tk.Tok) (ts : List Tk.Tok) (w : World) (h : PR w R (t :: ts)) (hk : t.k ≠ 0) :
    Calls Tryd.prog 96 #[.pointer (some ⟨R, 0, none⟩)] w fun e w' => e = .returned (.tuple #[]) ∧ PR w' R ts ∧ RKeep R w w' := by
  obtain ⟨b, off, cap, hb, hT, hS, hl, hc⟩ := h
  rw [List.length_cons] at hb hl hc
  have hq := Lib.hid (PR.skip hb hT hS hl hc hk)
  have hr := (RKeep.refl R w).set (p := ⟨R, 0, none⟩) rfl (.slice (some ⟨b, off + 3, none⟩) ts.length (cap - 1))
  have HR := Lib.hid hr
  have c0 := hb.cell 0
  have f0 := hb.frozen 0
  simp only [List.getElem?_toArray, List.getElem?_cons_zero] at c0
  have hne : 1 ≤ ts.length := by
    have := (shape_cons hS hk).2
    cases ts with
    | nil => exact absurd rfl this
    | cons _ _ => simp
  have hs := slice_tail b off (ts.length + 1) cap (by omega) hc
  rw [Nat.add_sub_cancel] at hs
  clear hb hT hS hr hne
  go_enter Tryd.func96, Tryd.ntmps96
  go_wp2
  go_end0
  exact ⟨rfl, hq.out, HR.out⟩
/-- The tokens behind a text, if it stands here. -/
def takeT (x : Tk.Bs) (ts : List Tk.Tok) : List Tk.Tok := if Fm.hdT ts = x then ts.tail else ts
theorem takeT_yes {x : Tk.Bs} {ts : List Tk.Tok} (h : Fm.hdT ts = x) : takeT x ts = ts.tail := if_pos h
theorem takeT_no {x : Tk.Bs} {ts : List Tk.Tok} (h : ¬ Fm.hdT ts = x) : takeT x ts = ts := if_neg h
set_option maxHeartbeats 2000000 in
theorem take_any (R : Nat) (x : Tk.Bs) (ts : List Tk.Tok) (w : World) (h : PR w R ts) (hx : x ≠ []) :
    Calls Tryd.prog 89 #[.pointer (some ⟨R, 0, none⟩), .string (bsv x)] w fun e w' => e = .returned (.bool (decide (Fm.hdT ts = x))) ∧ PR w' R (takeT x ts) ∧ RKeep R w w' := by
  have h' := h
  obtain ⟨b, off, cap, hb, hT, hS, hl, hc⟩ := h
  obtain ⟨t, r, rfl⟩ := shape_ne hS
  obtain ⟨_, t1, _⟩ := hT.2.2 0 (by simp)
  simp only [List.getElem_cons_zero, Nat.zero_mul, Nat.add_zero] at t1
  have c0 := hb.cell 0
  simp only [List.getElem?_toArray, List.getElem?_cons_zero] at c0
  have hix := ix0 b off (t :: r).length cap (by simp)
  have he := eq_bsv t.t x
  have HP := Lib.hid h'
  by_cases e : t.t = x
  · have hk : t.k ≠ 0 := shape_text hS (by rw [e]; exact hx)
    have HSK := Lib.hid (skip_any R t r w h' hk)
    have HE : Hid (Fm.hdT (t :: r) = x) := e
    have he2 : (t.t == x) = true := by simp [e]
    rw [he2] at he
    clear hb hT hS hl hc h' he2 e
    go_enter Tryd.func89, Tryd.ntmps89
    go_wp2_with fail
    refine HSK.out.mono ?_
    rintro e w1 ⟨rfl, h1, h2⟩
    clear c0 t1 hix HSK
    go_wp2
    go_ret
    exact ⟨by rw [decide_eq_true HE.out]; rfl, by rw [takeT_yes HE.out]; exact h1, h2⟩
  · have HE : Hid (¬ Fm.hdT (t :: r) = x) := e
    have he2 : (t.t == x) = false := by simp [e]
    rw [he2] at he
    clear hb hT hS hl hc h' he2 e
    go_enter Tryd.func89, Tryd.ntmps89
    go_wp2
    go_ret
    exact ⟨by rw [decide_eq_false HE.out]; rfl, by rw [takeT_no HE.out]; exact HP.out, RKeep.refl R _⟩
set_option maxHeartbeats 2000000 in
theorem need_ok (R : Nat) (w : World) : Calls Tryd.prog 75 #[.pointer (some ⟨R, 0, none⟩), .bool true] w fun e w' => e = .returned (.tuple #[]) ∧ w = w' := by
  have hnot : ∀ (x : Bool) (w : World), (Op.unary .not (.bool x)).run Tryd.prog w = .ok (.bool (!x)) w := fun _ _ => rfl
  go_enter Tryd.func75, Tryd.ntmps75
  go_wp2
  go_end0
  exact ⟨rfl, rfl⟩
set_option maxHeartbeats 2000000 in
theorem need_bad (R : Nat) (ts : List Tk.Tok) (w : World) (h : PR w R ts) : Calls Tryd.prog 75 #[.pointer (some ⟨R, 0, none⟩), .bool false] w fun e w' => e = FaultE 41 (Fm.hdA ts) ∧ w = w' := by
  have hnot : ∀ (x : Bool) (w : World), (Op.unary .not (.bool x)).run Tryd.prog w = .ok (.bool (!x)) w := fun _ _ => rfl
  obtain ⟨b, off, cap, hb, hT, hS, hl, hc⟩ := h
  obtain ⟨t, r, rfl⟩ := shape_ne hS
  obtain ⟨_, _, t2⟩ := hT.2.2 0 (by simp)
  simp only [List.getElem_cons_zero, Nat.zero_mul, Nat.add_zero] at t2
  have c0 := hb.cell 0
  simp only [List.getElem?_toArray, List.getElem?_cons_zero] at c0
  have hix := ix0 b off (t :: r).length cap (by simp)
  clear hb hT hS hl hc
  go_enter Tryd.func75, Tryd.ntmps75
  go_wp2
  exact ⟨rfl, rfl, rfl⟩
/-- A text must stand here. -/
def MustP (R : Nat) (w : World) (o : Except (Nat × Nat) (List Tk.Tok)) (e : Ending) (w' : World) : Prop :=
  match o with
  | .error (k, a) => e = FaultE k a ∧ RKeep R w w'
  | .ok ts => e = .returned (.tuple #[]) ∧ PR w' R ts ∧ RKeep R w w'
set_option maxHeartbeats 2000000 in
theorem must_any (R : Nat) (x : Tk.Bs) (ts : List Tk.Tok) (w : World) (h : PR w R ts) (hx : x ≠ []) :
    Calls Tryd.prog 104 #[.pointer (some ⟨R, 0, none⟩), .string (bsv x)] w (MustP R w (Fm.mustT x ts)) := by
  have HT := Lib.hid (take_any R x ts w h hx)
  clear h
  go_enter Tryd.func104, Tryd.ntmps104
  go_wp2_with fail
  refine HT.out.mono ?_
  rintro e w1 ⟨rfl, h1, h2⟩
  clear HT
  by_cases e : Fm.hdT ts = x
  · rw [takeT_yes e] at h1
    have d : decide (Fm.hdT ts = x) = true := decide_eq_true e
    have HE : Hid (Fm.mustT x ts = .ok ts.tail) := by unfold Hid Fm.mustT; rw [if_pos e]
    rw [d]
    clear e d
    go_wp2_with fail
    refine (need_ok R w1).mono ?_
    rintro e w2 ⟨rfl, rfl⟩
    go_wp2
    go_end0
    rw [HE.out]
    exact ⟨rfl, h1, h2⟩
  · rw [takeT_no e] at h1
    have d : decide (Fm.hdT ts = x) = false := decide_eq_false e
    have HE : Hid (Fm.mustT x ts = .error (41, Fm.hdA ts)) := by unfold Hid Fm.mustT; rw [if_neg e]
    rw [d]
    clear e d
    go_wp2_with fail
    refine (need_bad R ts w1 h1).mono ?_
    rintro e w2 ⟨rfl, rfl⟩
    refine ⟨rfl, ?_⟩
    rw [HE.out]
    exact ⟨rfl, h2⟩
theorem toolong_any (w : World) : Calls Tryd.prog 76 #[] w fun e w' => e = FaultE 2 0 ∧ w = w' := by
  go_enter Tryd.func76, Tryd.ntmps76
  go_wp2
  exact ⟨rfl, rfl, rfl⟩
set_option maxHeartbeats 2000000 in
theorem of_any (k : Int) (A : Option Addr) (n c : Nat) (w : World) : Calls Tryd.prog 90 #[.int .i64 k, .slice A n c] w fun e w' => e = .returned (.agg #[.int .i64 k, .string ⟨#[]⟩, .int .i64 0, .slice A n c]) ∧ Below w.heap.size w w' := by
  have hbx := Blk.new w 24 #[.int .i64 0, .string ⟨#[]⟩, .int .i64 0, .slice none 0 0]
  have lo := lowAlloc w (Obj.cells #[.int .i64 0, .string ⟨#[]⟩, .int .i64 0, .slice none 0 0] 24)
  go_enter Tryd.func90, Tryd.ntmps90
  go_upto_region 1 with fail
  have hlt : w.heap.size < (w.alloc (Obj.cells #[.int .i64 0, .string ⟨#[]⟩, .int .i64 0, .slice none 0 0] 24)).heap.size := by simp
  generalize w.alloc (Obj.cells #[.int .i64 0, .string ⟨#[]⟩, .int .i64 0, .slice none 0 0] 24) = W at *
  have k0 := hbx.cell 0
  have k1 := hbx.cell 1
  have k2 := hbx.cell 2
  have k3 := hbx.cell 3
  have q0 := hbx.frozen 0
  have q1 := hbx.frozen 1
  have q2 := hbx.frozen 2
  have q3 := hbx.frozen 3
  simp only [List.getElem?_toArray, List.getElem?_cons_zero, List.getElem?_cons_succ] at k0 k1 k2 k3
  have hC9 := (((hbx.put 0 (.int .i64 k)).put 1 (.string ⟨#[]⟩)).put 2 (.int .i64 0)).put 3 (.slice A n c)
  have hlo9 := (((lo.setCell (p := ⟨w.heap.size, 0, none⟩) (Nat.le_refl _) (.int .i64 k)).setCell (p := ⟨w.heap.size, 1, none⟩) (Nat.le_refl _) (.string ⟨#[]⟩)).setCell (p := ⟨w.heap.size, 2, none⟩) (Nat.le_refl _) (.int .i64 0)).setCell (p := ⟨w.heap.size, 3, none⟩) (Nat.le_refl _) (.slice A n c)
  have HC9 := Lib.hid hC9
  have HLO := Lib.hid hlo9
  clear hC9 hlo9 hbx lo
  go_wp2
  clear k0 k1 k2 k3 q0 q1 q2 q3
  generalize (((W.setCell ⟨w.heap.size, 0, none⟩ (.int .i64 k)).setCell ⟨w.heap.size, 1, none⟩ (.string ⟨#[]⟩)).setCell ⟨w.heap.size, 2, none⟩ (.int .i64 0)).setCell ⟨w.heap.size, 3, none⟩ (.slice A n c) = W9 at *
  have r0 := HC9.out.cell 0
  have r1 := HC9.out.cell 1
  have r2 := HC9.out.cell 2
  have r3 := HC9.out.cell 3
  simp only [List.getElem?_toArray, List.getElem?_cons_zero, List.getElem?_cons_succ, List.setIfInBounds_toArray, List.set_cons_zero, List.set_cons_succ] at r0 r1 r2 r3
  exact bodyPost_ret (v := .agg #[.int .i64 k, .string ⟨#[]⟩, .int .i64 0, .slice A n c]) (by simp [results, Tryd.results90, go_sem, r0, r1, r2, r3]) rfl ⟨rfl, HLO.out⟩
end Go.Proofs.YtlddnejjpekgeaaDoor
