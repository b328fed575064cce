/- What is printed of a formula is read as it was. -/
import Derived.Test.YtlddnejjpekgeaaDoorQah
set_option linter.unusedSimpArgs false
set_option linter.unusedVariables false
namespace Go.Proofs.YtlddnejjpekgeaaDoor
namespace Fm
open Tk

def kt (t : Tok) : Nat × Bs := (t.k, t.t)
theorem cons_ex {ts : List Tok} {a : Nat × Bs} {l : List (Nat × Bs)} (h : ts.map kt = a :: l) : ∃ t r, ts = t :: r ∧ kt t = a ∧ r.map kt = l := by
  cases ts with
  | nil => cases h
  | cons t r =>
    rw [List.map_cons, List.cons.injEq] at h
    exact ⟨t, r, rfl, h.1, h.2⟩
theorem app_ex {ts : List Tok} {a b : List (Nat × Bs)} (h : ts.map kt = a ++ b) : ∃ t r, ts = t ++ r ∧ t.map kt = a ∧ r.map kt = b := by
  obtain ⟨t, r, e, h1, h2⟩ := List.map_eq_append_iff.1 h
  exact ⟨t, r, e, h1, h2⟩
def GoodA (f : F) : Prop := looseB f.k = false → ∀ (n d : Nat) (ts rest : List Tok), ts.map kt = f.toks → ts.length ≤ n → d + 2 * f.dep ≤ 202 → pP n d (ts ++ rest) = .ok (f, rest)
def GoodB (f : F) : Prop := ∀ (n d : Nat) (ts rest : List Tok), ts.map kt = f.toks → ts.length ≤ n → d + 2 * f.dep ≤ 202 → NoOp rest → wholeG (pP n) d (ts ++ rest) = .ok (f, rest)
def GoodC (f : F) : Prop := ∀ (n d : Nat) (ts rest : List Tok), ts.map kt = parT f.k f.toks → ts.length ≤ n → d + 2 * f.dep ≤ 201 → pP n d (ts ++ rest) = .ok (f, rest)
theorem dep_pos (f : F) : 1 ≤ f.dep := by
  cases f
  simp only [F.dep]
  omega
theorem must_ok {x : Bs} {t : Tok} (r : List Tok) (h : t.t = x) : mustT x (t :: r) = .ok r := by
  unfold mustT
  rw [if_pos (show hdT (t :: r) = x from h)]
  rfl
theorem prim_at {n d : Nat} {w : Bs} {t : Tok} {us : List Tok} (hd : ¬ 200 < d) (ht : t.t = w) : pP (n + 1) d (t :: us) = primT (pP n) (wholeG (pP n)) d w (t :: us) := by
  subst ht
  rw [pP, prim, if_neg hd]
  rfl
theorem enc_ok {n d : Nat} {f : F} {t : Tok} {us rest : List Tok} (hd : ¬ 200 < d) (ht : t.t = [40]) (h : ∃ c, c.t = [41] ∧ wholeG (pP n) (d + 1) us = .ok (f, c :: rest)) : pP (n + 1) d (t :: us) = .ok (f, rest) := by
  obtain ⟨c, hc, h⟩ := h
  rw [prim_at hd ht]
  show encS (wholeG (pP n)) d us = _
  unfold encS
  rw [h]
  simp only
  rw [must_ok rest hc]
theorem goodC_of {f : F} (hA : GoodA f) (hB : GoodB f) : GoodC f := by
  intro n d ts rest hts hn hd
  have hp := dep_pos f
  unfold parT at hts
  by_cases hl : looseB f.k = true
  · rw [if_pos hl] at hts
    obtain ⟨t, r, rfl, h1, h2⟩ := cons_ex hts
    obtain ⟨u, v, rfl, h3, h4⟩ := app_ex h2
    obtain ⟨c, v', rfl, h5, h6⟩ := cons_ex h4
    have hv : v' = [] := by simpa using h6
    subst hv
    simp only [List.length_cons, List.length_append, List.length_nil] at hn
    obtain ⟨m, rfl⟩ : ∃ m, n = m + 1 := ⟨n - 1, by omega⟩
    simp only [kt, Prod.mk.injEq] at h1 h5
    have e : t :: (u ++ [c]) ++ rest = t :: (u ++ (c :: rest)) := by simp
    rw [e]
    refine enc_ok (by omega) h1.2 ⟨c, h5.2, ?_⟩
    refine hB m (d + 1) u (c :: rest) h3 (by omega) (by omega) ?_
    refine ⟨?_, ?_, ?_, ?_⟩ <;> (show c.t ≠ _; rw [h5.2]; decide)
  · rw [if_neg hl] at hts
    exact hA (by simpa using hl) n d ts rest hts hn (by omega)
theorem atom_not {s : Bs} (h : wordB s = true) : (∀ x ∈ keysL, atomS s ≠ x) ∧ atomS s ≠ [33] ∧ atomS s ≠ [40] ∧ trimQ (atomS s) = s := by
  simp only [wordB, Bool.and_eq_true, decide_eq_true_eq] at h
  unfold atomS
  by_cases hp : plainNm s = true
  · rw [if_pos hp]
    simp only [plainNm, Bool.and_eq_true, Bool.not_eq_true', keyB] at hp
    have hh : ∀ b t, s = b :: t → plainB b = true := by
      intro b t e
      have := hp.1
      rw [e, List.all_cons, Bool.and_eq_true] at this
      exact this.1
    refine ⟨?_, ?_, ?_, ?_⟩
    · rintro x hx rfl
      have := hp.2
      rw [List.contains_iff_mem.2 hx] at this
      cases this
    · intro e
      exact absurd (hh _ _ e) (by decide)
    · intro e
      exact absurd (hh _ _ e) (by decide)
    · unfold trimQ
      cases s with
      | nil => rfl
      | cons b t =>
        rw [if_neg]
        intro e
        simp at e
        subst e
        exact absurd (hh _ _ rfl) (by decide)
  · rw [if_neg hp]
    refine ⟨?_, ?_, ?_, ?_⟩
    · intro x hx e
      have : (keysL.all fun x => match x with | [] => true | b :: _ => decide (b ≠ 34)) = true := by decide
      have := List.all_eq_true.1 this x hx
      rw [← e] at this
      simp at this
    · intro e
      injection e with e1
      exact absurd e1 (by decide)
    · intro e
      injection e with e1
      exact absurd e1 (by decide)
    · unfold trimQ
      rw [if_pos (show (34 :: (s ++ [34])).head? = some 34 from rfl)]
      simp
theorem atom_ok {n d : Nat} {s : Bs} {t : Tok} {rest : List Tok} (h : wordB s = true) (hd : ¬ 200 < d) (ht : kt t = (1, atomS s)) : pP (n + 1) d (t :: rest) = .ok (.mk 3 s 0 [], rest) := by
  obtain ⟨h1, h2, h3, h4⟩ := atom_not h
  simp only [kt, Prod.mk.injEq] at ht
  rw [prim_at hd ht.2]
  have hk : ∀ x ∈ keysL, ¬ atomS s = x := h1
  simp only [keysL, List.mem_cons, List.not_mem_nil, or_false, forall_eq_or_imp, forall_eq] at hk
  obtain ⟨k1, k2, k3, k4, k5, k6, k7, k8, k9, k10, k11, k12⟩ := hk
  have hu : unKind (atomS s) = none := by
    unfold unKind
    rw [if_neg h2, if_neg k5, if_neg k6, if_neg k7, if_neg k8, if_neg k9, if_neg k10]
  unfold primT
  rw [if_neg k1, if_neg k2, hu]
  simp only
  rw [if_neg k3, if_neg k4, if_neg h3]
  unfold atomT
  have e1 : hdT (t :: rest) = atomS s := ht.2
  rw [e1, h4, if_pos ⟨show hdK (t :: rest) = 1 from ht.1, k11, k12⟩]
  rfl
theorem una_ok {n d : Nat} {k : Int} {w : Bs} {f : F} {t : Tok} {us rest : List Tok} (hd : ¬ 200 < d) (ht : t.t = w) (hk : unKind w = some k) (h1 : w ≠ [116, 114, 117, 101]) (h2 : w ≠ [102, 97, 108, 115, 101]) (h : pP n (d + 1) us = .ok (f, rest)) : pP (n + 1) d (t :: us) = .ok (un k f, rest) := by
  rw [prim_at hd ht]
  unfold primT
  rw [if_neg h1, if_neg h2, hk]
  simp only [List.tail_cons]
  unfold unaS
  rw [h]
theorem path_prim {n d : Nat} {w : Bs} {t : Tok} {us : List Tok} (hd : ¬ 200 < d) (ht : t.t = w) (hw : w = [69] ∨ w = [65]) : pP (n + 1) d (t :: us) = if w = [69] then pathS (wholeG (pP n)) 15 17 d us else pathS (wholeG (pP n)) 16 18 d us := by
  rw [prim_at hd ht]
  rcases hw with rfl | rfl
  · rfl
  · rfl
theorem path_ok {pw : Nat → List Tok → Res} {d : Nat} {u v k : Int} {f g : F} {t0 m c : Tok} {us vs rest : List Tok} (h0 : t0.t = [91]) (hf : pw (d + 1) us = .ok (f, m :: vs)) (hm : (m.t = [85] ∧ k = u) ∨ (m.t = [82] ∧ k = v)) (hg : pw (d + 1) vs = .ok (g, c :: rest)) (hc : c.t = [93]) :
    pathS pw u v d (t0 :: us) = .ok (two k f g, rest) := by
  unfold pathS
  rw [must_ok us h0]
  simp only
  rw [hf]
  simp only [List.tail_cons]
  rcases hm with ⟨hm, rfl⟩ | ⟨hm, rfl⟩
  · rw [if_pos (show hdT (m :: vs) = [85] from hm)]
    unfold secS
    rw [hg]
    simp only
    rw [must_ok rest hc]
  · rw [if_neg (show ¬ hdT (m :: vs) = [85] from by show ¬ m.t = _; rw [hm]; decide), must_ok vs hm]
    simp only
    unfold secS
    rw [hg]
    simp only
    rw [must_ok rest hc]
theorem good_of_A {f : F} (hl : looseB f.k = false) (hA : GoodA f) : GoodA f ∧ GoodB f :=
  ⟨hA, fun n d ts rest h1 h2 h3 hr => whole_prim (hA hl n d ts rest h1 h2 h3) hr⟩
theorem good (f : F) : f.okB = true → GoodA f ∧ GoodB f := by
  induction f using F.ind with
  | h k nm lit ks ih =>
    intro hok
    have hok' := hok
    simp only [F.okB, Bool.and_eq_true, nodeB, decide_eq_true_eq] at hok
    obtain ⟨⟨hk, hlit, hnm⟩, hks⟩ := hok
    have hkid : ∀ f ∈ ks, GoodC f := fun f hf => by
      have := ih f hf (okL_mem hks f hf)
      exact goodC_of this.1 this.2
    subst hlit
    by_cases h3 : k = 3
    · subst h3
      rw [if_pos rfl] at hnm
      have hl : ks = [] := by
        have : some ks.length = some 0 := hk.symm
        simpa using this
      subst hl
      refine good_of_A rfl fun _ n d ts rest hts hn hd => ?_
      simp only [F.toks, if_true] at hts
      obtain ⟨t, r, rfl, h1, h2⟩ := cons_ex hts
      have hr : r = [] := by simpa using h2
      subst hr
      obtain ⟨m, rfl⟩ : ∃ m, n = m + 1 := ⟨n - 1, by simp at hn; omega⟩
      simp only [F.dep, depL] at hd
      exact atom_ok hnm (by omega) h1
    · rw [if_neg h3] at hnm
      have hn0 : nm = [] := by simpa using hnm
      subst hn0
      unfold kidsN at hk
      by_cases c0 : 1 ≤ k ∧ k ≤ 3
      · rw [if_pos c0] at hk
        have hl : ks = [] := by simpa using hk.symm
        subst hl
        have hk12 : k = 1 ∨ k = 2 := by omega
        refine good_of_A (by rcases hk12 with rfl | rfl <;> rfl) fun _ n d ts rest hts hn hd => ?_
        simp only [F.toks, toksL, List.nil_append] at hts
        rw [if_neg h3] at hts
        simp only [F.dep, depL] at hd
        have hone : ∃ t, ts = [t] ∧ t.t = (if k = 1 then [102, 97, 108, 115, 101] else [116, 114, 117, 101]) := by
          rcases hk12 with rfl | rfl
          · obtain ⟨t, r, rfl, h1, h2⟩ := cons_ex (show ts.map kt = (1, [102, 97, 108, 115, 101]) :: [] from hts)
            have hr : r = [] := by simpa using h2
            subst hr
            simp only [kt, Prod.mk.injEq] at h1
            exact ⟨t, rfl, h1.2⟩
          · obtain ⟨t, r, rfl, h1, h2⟩ := cons_ex (show ts.map kt = (1, [116, 114, 117, 101]) :: [] from hts)
            have hr : r = [] := by simpa using h2
            subst hr
            simp only [kt, Prod.mk.injEq] at h1
            exact ⟨t, rfl, h1.2⟩
        obtain ⟨t, rfl, ht⟩ := hone
        obtain ⟨m, rfl⟩ : ∃ m, n = m + 1 := ⟨n - 1, by simp at hn; omega⟩
        rw [List.cons_append, List.nil_append, prim_at (by omega) ht]
        rcases hk12 with rfl | rfl <;> rfl
      · rw [if_neg c0] at hk
        by_cases c1 : k = 4 ∨ (9 ≤ k ∧ k ≤ 14)
        · rw [if_pos c1] at hk
          obtain ⟨a, rfl⟩ : ∃ a, ks = [a] := by
            match ks, hk with
            | [a], _ => exact ⟨a, rfl⟩
            | [], h => simp at h
            | _ :: _ :: _, h => simp at h
          have hka := hkid a (by simp)
          have hc : k = 4 ∨ k = 9 ∨ k = 10 ∨ k = 11 ∨ k = 12 ∨ k = 13 ∨ k = 14 := by omega
          refine good_of_A (by rcases hc with rfl | rfl | rfl | rfl | rfl | rfl | rfl <;> rfl) fun _ n d ts rest hts hn hd => ?_
          have hw : ∃ (x : Nat) (w : Bs), befT k = [(x, w)] ∧ unKind w = some k ∧ w ≠ [116, 114, 117, 101] ∧ w ≠ [102, 97, 108, 115, 101] ∧ behT k = [] := by
            rcases hc with rfl | rfl | rfl | rfl | rfl | rfl | rfl <;> exact ⟨_, _, rfl, by decide, by decide, by decide, rfl⟩
          obtain ⟨x, w, e1, e2, e3, e4, e5⟩ := hw
          simp only [F.toks, toksL, if_true, List.nil_append, List.append_nil] at hts
          rw [if_neg h3, e1, e5, List.append_nil] at hts
          obtain ⟨t, r, rfl, h1, h2⟩ := cons_ex (show ts.map kt = (x, w) :: parT a.k a.toks from hts)
          simp only [kt, Prod.mk.injEq] at h1
          simp only [List.length_cons] at hn
          obtain ⟨m, rfl⟩ : ∃ m, n = m + 1 := ⟨n - 1, by omega⟩
          simp only [F.dep, depL] at hd
          have hda := dep_pos a
          rw [Nat.max_zero] at hd
          exact una_ok (by omega) h1.2 e2 e3 e4 (hka m (d + 1) r rest h2 (by omega) (by omega))
        · rw [if_neg c1] at hk
          by_cases c2 : (5 ≤ k ∧ k ≤ 8) ∨ (15 ≤ k ∧ k ≤ 18)
          · rw [if_pos c2] at hk
            obtain ⟨a, b, rfl⟩ : ∃ a b, ks = [a, b] := by
              match ks, hk with
              | [a, b], _ => exact ⟨a, b, rfl⟩
              | [], h => simp at h
              | [_], h => simp at h
              | _ :: _ :: _ :: _, h => simp at h
            have hka := hkid a (by simp)
            have hkb := hkid b (by simp)
            have hda := dep_pos a
            have hdb := dep_pos b
            have hdep : ∀ d, d + 2 * (F.mk k [] 0 [a, b]).dep ≤ 202 → d + 1 + 2 * a.dep ≤ 201 ∧ d + 1 + 2 * b.dep ≤ 201 := by
              intro d hd
              simp only [F.dep, depL, Nat.max_zero] at hd
              omega
            by_cases c3 : 5 ≤ k ∧ k ≤ 8
            · have hc : k = 5 ∨ k = 6 ∨ k = 7 ∨ k = 8 := by omega
              refine ⟨fun hl => absurd hl (by rcases hc with rfl | rfl | rfl | rfl <;> exact (nofun : ¬ (true = false))), fun n d ts rest hts hn hd hr => ?_⟩
              obtain ⟨d1, d2⟩ := hdep d hd
              have hw : ∃ (w : Bs), befT k = [] ∧ betT k = [(2, w)] ∧ behT k = [] ∧ ((k, w) = (5, [38]) ∨ (k, w) = (6, [124]) ∨ (k, w) = (7, [45, 62]) ∨ (k, w) = (8, [60, 45, 62])) := by
                rcases hc with rfl | rfl | rfl | rfl <;> exact ⟨_, rfl, rfl, rfl, by decide⟩
              obtain ⟨w, e1, e2, e3, e4⟩ := hw
              simp only [F.toks, toksL, if_true, Bool.false_eq_true, if_false, List.nil_append, List.append_nil] at hts
              rw [if_neg h3, e1, e2, e3, List.nil_append, List.append_nil] at hts
              obtain ⟨u, v, rfl, h1, h2⟩ := app_ex hts
              obtain ⟨t, r, rfl, h4, h5⟩ := cons_ex (show v.map kt = (2, w) :: parT b.k b.toks from h2)
              simp only [kt, Prod.mk.injEq] at h4
              simp only [List.length_append, List.length_cons] at hn
              have hu : u ++ t :: r ++ rest = u ++ (t :: (r ++ rest)) := by simp
              rw [hu]
              refine whole_two (by rw [h4.2]; exact e4) (hka n d u (t :: (r ++ rest)) h1 (by omega) (by omega)) (hkb n d r rest h5 (by omega) (by omega)) (hkb n (d + 1) r rest h5 (by omega) (by omega)) hr ?_
              intro e
              simp at e
            · have hc : k = 15 ∨ k = 16 ∨ k = 17 ∨ k = 18 := by omega
              refine good_of_A (by rcases hc with rfl | rfl | rfl | rfl <;> rfl) fun _ n d ts rest hts hn hd => ?_
              obtain ⟨d1, d2⟩ := hdep d hd
              have hw : ∃ (w x : Bs), befT k = [(1, w), (2, [91])] ∧ betT k = [(1, x)] ∧ behT k = [(2, [93])] ∧ ((w = [69] ∧ ((x = [85] ∧ k = 15) ∨ (x = [82] ∧ k = 17))) ∨ (w = [65] ∧ ((x = [85] ∧ k = 16) ∨ (x = [82] ∧ k = 18)))) := by
                rcases hc with rfl | rfl | rfl | rfl <;> exact ⟨_, _, rfl, rfl, rfl, by decide⟩
              obtain ⟨w, x, e1, e2, e3, e4⟩ := hw
              simp only [F.toks, toksL, if_true, Bool.false_eq_true, if_false, List.nil_append, List.append_nil] at hts
              rw [if_neg h3, e1, e2, e3] at hts
              obtain ⟨t, r, rfl, h1, h2⟩ := cons_ex (show ts.map kt = (1, w) :: ((2, [91]) :: ((parT a.k a.toks ++ ([(1, x)] ++ parT b.k b.toks)) ++ [(2, [93])])) from hts)
              obtain ⟨t0, r0, rfl, h4, h5⟩ := cons_ex h2
              rw [List.append_assoc] at h5
              obtain ⟨u, v, rfl, h6, h7⟩ := app_ex h5
              obtain ⟨q, v1, rfl, h8, h9⟩ := cons_ex (show v.map kt = (1, x) :: (parT b.k b.toks ++ [(2, [93])]) from h7)
              obtain ⟨y, z, rfl, h10, h11⟩ := app_ex h9
              obtain ⟨c, z', rfl, h12, h13⟩ := cons_ex h11
              have hz : z' = [] := by simpa using h13
              subst hz
              simp only [kt, Prod.mk.injEq] at h1 h4 h8 h12
              simp only [List.length_append, List.length_cons, List.length_nil] at hn
              obtain ⟨m, rfl⟩ : ∃ m, n = m + 1 := ⟨n - 1, by omega⟩
              have he : t :: t0 :: (u ++ q :: (y ++ [c])) ++ rest = t :: (t0 :: (u ++ (q :: (y ++ (c :: rest))))) := by simp
              rw [he, path_prim (by omega) h1.2 (by rcases e4 with h | h <;> simp [h.1])]
              have hno : ∀ (z : Tok) (zs : List Tok), (z.t = [85] ∨ z.t = [82] ∨ z.t = [93]) → NoOp (z :: zs) := by
                intro z zs hz
                refine ⟨?_, ?_, ?_, ?_⟩ <;> (show z.t ≠ _; rcases hz with hz | hz | hz <;> rw [hz] <;> decide)
              have hq : q.t = [85] ∨ q.t = [82] := by
                rcases e4 with ⟨_, ⟨h, _⟩ | ⟨h, _⟩⟩ | ⟨_, ⟨h, _⟩ | ⟨h, _⟩⟩ <;> rw [h8.2, h] <;> simp
              have hA := whole_prim (hka m (d + 1) u (q :: (y ++ (c :: rest))) h6 (by omega) (by omega)) (hno q _ (by rcases hq with h | h <;> simp [h]))
              have hB := whole_prim (hkb m (d + 1) y (c :: rest) h10 (by omega) (by omega)) (hno c _ (by simp [h12.2]))
              rcases e4 with ⟨rfl, hx⟩ | ⟨rfl, hx⟩
              · rw [if_pos rfl]
                exact path_ok h4.2 hA (by rcases hx with ⟨hx, hk'⟩ | ⟨hx, hk'⟩ <;> simp [h8.2, hx, hk']) hB h12.2
              · rw [if_neg (by decide)]
                exact path_ok h4.2 hA (by rcases hx with ⟨hx, hk'⟩ | ⟨hx, hk'⟩ <;> simp [h8.2, hx, hk']) hB h12.2
          · rw [if_neg c2] at hk
            cases hk
/-- THE TOKENS OF A VALID FORMULA ARE READ AS IT, wherever they stand. -/
theorem parse_toks {f : F} (h : validB f = true) {ts : List Tok} (hts : ts.map kt = f.toks ++ [(0, [])]) : parseT ts = .ok f := by
  have hv := h
  simp only [validB, Bool.and_eq_true, decide_eq_true_eq] at h
  obtain ⟨u, v, rfl, h1, h2⟩ := app_ex hts
  obtain ⟨c, z, rfl, h3, h4⟩ := cons_ex h2
  have hz : z = [] := by simpa using h4
  subst hz
  simp only [kt, Prod.mk.injEq] at h3
  have hw := (good f h.1).2 ((u ++ [c]).length + 1) 0 u [c] h1 (by simp; omega) (by omega) (by refine ⟨?_, ?_, ?_, ?_⟩ <;> (show c.t ≠ _; rw [h3.2]; decide))
  unfold parseT
  rw [hw]
  simp only
  rw [if_pos (show hdK [c] = 0 from h3.1), if_pos hv]
/-- Nor do blanks and two pairs of parentheses around it matter. -/
theorem parse_enc {f : F} (h : validB f = true) {ts : List Tok} (hts : ts.map kt = (2, [40]) :: (2, [40]) :: (f.toks ++ [(2, [41]), (2, [41]), (0, [])])) : parseT ts = .ok f := by
  have hv := h
  simp only [validB, Bool.and_eq_true, decide_eq_true_eq] at h
  obtain ⟨t, r, rfl, h1, h2⟩ := cons_ex hts
  obtain ⟨t', r', rfl, h3, h4⟩ := cons_ex h2
  obtain ⟨u, v, rfl, h5, h6⟩ := app_ex h4
  obtain ⟨a, v1, rfl, h7, h8⟩ := cons_ex h6
  obtain ⟨b, v2, rfl, h9, h10⟩ := cons_ex h8
  obtain ⟨c, z, rfl, h11, h12⟩ := cons_ex h10
  have hz : z = [] := by simpa using h12
  subst hz
  simp only [kt, Prod.mk.injEq] at h1 h3 h7 h9 h11
  have hno : ∀ (z : Tok) (zs : List Tok), (z.t = [41] ∨ z.t = []) → NoOp (z :: zs) := by
    intro z zs hz
    refine ⟨?_, ?_, ?_, ?_⟩ <;> (show z.t ≠ _; rcases hz with hz | hz <;> rw [hz] <;> decide)
  obtain ⟨n, hn⟩ : ∃ n, n = (u ++ [a, b, c]).length := ⟨_, rfl⟩
  have hw := (good f h.1).2 (n + 1) 2 u (a :: b :: [c]) h5 (by rw [hn]; simp; omega) (by omega) (hno a _ (Or.inl h7.2))
  have h41 : pP (n + 2) 1 (t' :: (u ++ [a, b, c])) = .ok (f, b :: [c]) := enc_ok (by omega) h3.2 ⟨a, h7.2, hw⟩
  have hw2 := whole_prim h41 (hno b _ (Or.inl h9.2))
  have h42 : pP (n + 3) 0 (t :: t' :: (u ++ [a, b, c])) = .ok (f, [c]) := enc_ok (by omega) h1.2 ⟨b, h9.2, hw2⟩
  unfold parseT
  have hl : (t :: t' :: (u ++ [a, b, c])).length + 1 = n + 3 := by simp only [List.length_cons]; rw [← hn]
  rw [hl, whole_prim h42 (hno c _ (Or.inr h11.2))]
  simp only
  rw [if_pos (show hdK [c] = 0 from h11.1), if_pos hv]
end Fm
end Go.Proofs.YtlddnejjpekgeaaDoor
