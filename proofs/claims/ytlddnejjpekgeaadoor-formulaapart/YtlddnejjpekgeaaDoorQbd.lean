/- Formulas that are the same: the mathematics of what is open and what is taken. -/
import Derived.Test.YtlddnejjpekgeaaDoorQag
import Derived.Test.YtlddnejjpekgeaaDoorQay
import Derived.LaidEql
set_option linter.unusedSimpArgs false
set_option linter.unusedVariables false
namespace Go.Proofs.YtlddnejjpekgeaaDoor
namespace Fm

/-- The same or turned, on and on. -/
inductive Eqv (P : F → F → Prop) : F → F → Prop
  | base {a b : F} : P a b → Eqv P a b
  | refl (a : F) : Eqv P a a
  | symm {a b : F} : Eqv P a b → Eqv P b a
  | trans {a b c : F} : Eqv P a b → Eqv P b c → Eqv P a c
theorem Eqv.mono {P Q : F → F → Prop} (h : ∀ a b, P a b → Eqv Q a b) {a b : F} (e : Eqv P a b) : Eqv Q a b := by
  induction e with
  | base p => exact h _ _ p
  | refl => exact .refl _
  | symm _ ih => exact .symm ih
  | trans _ _ ih1 ih2 => exact .trans ih1 ih2
/-- The same as far as their subformulas are. -/
def AlikeP (a b : F) : Prop := a.k = b.k ∧ a.nm = b.nm ∧ a.lit = b.lit ∧ a.ks.length = b.ks.length
def alikeB (a b : F) : Bool := decide (a.k = b.k) && (decide (a.nm = b.nm) && (decide (a.lit = b.lit) && decide (a.ks.length = b.ks.length)))
theorem alikeB_iff (a b : F) : alikeB a b = true ↔ AlikeP a b := by
  unfold alikeB AlikeP
  simp only [Bool.and_eq_true, decide_eq_true_eq]
def KidsP (Q : F → F → Prop) (a b : F) : Prop := ∀ i (h : i < a.ks.length) (h' : i < b.ks.length), Eqv Q a.ks[i] b.ks[i]
/-- The same, so deep. -/
def eqd : Nat → F → F → Prop
  | 0, _, _ => True
  | d + 1, a, b => AlikeP a b ∧ ∀ i (h : i < a.ks.length) (h' : i < b.ks.length), eqd d a.ks[i] b.ks[i]
theorem eqd_refl : ∀ (d : Nat) (a : F), eqd d a a
  | 0, _ => trivial
  | d + 1, _ => ⟨⟨rfl, rfl, rfl, rfl⟩, fun _ _ _ => eqd_refl d _⟩
theorem eqd_symm : ∀ (d : Nat) {a b : F}, eqd d a b → eqd d b a
  | 0, _, _, _ => trivial
  | d + 1, _, _, h => ⟨⟨h.1.1.symm, h.1.2.1.symm, h.1.2.2.1.symm, h.1.2.2.2.symm⟩, fun i h1 h2 => eqd_symm d (h.2 i h2 h1)⟩
theorem eqd_trans : ∀ (d : Nat) {a b c : F}, eqd d a b → eqd d b c → eqd d a c
  | 0, _, _, _, _, _ => trivial
  | d + 1, _, b, _, h, k => ⟨⟨h.1.1.trans k.1.1, h.1.2.1.trans k.1.2.1, h.1.2.2.1.trans k.1.2.2.1, h.1.2.2.2.trans k.1.2.2.2⟩, fun i h1 h2 => by
      have hb : i < b.ks.length := by rw [← h.1.2.2.2]; exact h1
      exact eqd_trans d (h.2 i h1 hb) (k.2 i hb h2)⟩
theorem closed_eqd {P : F → F → Prop} (h : ∀ a b, P a b → AlikeP a b ∧ KidsP P a b) : ∀ (d : Nat) (a b : F), Eqv P a b → eqd d a b
  | 0, _, _, _ => trivial
  | d + 1, a, b, e => by
    induction e with
    | base p => exact ⟨(h _ _ p).1, fun i h1 h2 => closed_eqd h d _ _ ((h _ _ p).2 i h1 h2)⟩
    | refl a => exact eqd_refl _ a
    | symm _ ih => exact eqd_symm _ ih
    | trans _ _ ih1 ih2 => exact eqd_trans _ ih1 ih2
theorem F.eq_of {a b : F} (h1 : a.k = b.k) (h2 : a.nm = b.nm) (h3 : a.lit = b.lit) (h4 : a.ks = b.ks) : a = b := by
  cases a; cases b
  simp only [F.k, F.nm, F.lit, F.ks] at h1 h2 h3 h4
  subst h1; subst h2; subst h3; subst h4; rfl
theorem eqd_eq (a : F) : ∀ b, (∀ d, eqd d a b) → a = b := by
  induction a using F.ind with
  | h k nm lit ks ih =>
    intro b hb
    obtain ⟨⟨h1, h2, h3, h4⟩, _⟩ := hb 1
    refine F.eq_of h1 h2 h3 (List.ext_getElem h4 (fun i g1 g2 => ?_))
    exact ih _ (List.getElem_mem g1) _ (fun d => (hb (d + 1)).2 i g1 g2)
theorem closed_eq {P : F → F → Prop} (h : ∀ a b, P a b → AlikeP a b ∧ KidsP P a b) {a b : F} (e : Eqv P a b) : a = b :=
  eqd_eq a b (fun d => closed_eqd h d a b e)
abbrev relL (l : List (F × F)) : F → F → Prop := fun x y => (x, y) ∈ l
/-- What holds between two rounds: P is what was taken, O what is open. -/
structure SameI (P O : List (F × F)) (a b : F) : Prop where
  cl : ∀ s t, (s, t) ∈ P → AlikeP s t ∧ KidsP (relL (P ++ O)) s t
  ab : Eqv (relL (P ++ O)) a b
  eq : a = b → ∀ s t, (s, t) ∈ P ++ O → s = t
theorem SameI.start (a b : F) : SameI [] [(a, b)] a b :=
  ⟨fun s t h => (by cases h), .base (List.mem_singleton.2 rfl), fun e s t h => by
    simp only [List.nil_append, List.mem_singleton, Prod.mk.injEq] at h
    rw [h.1, h.2, e]⟩
theorem SameI.done {P : List (F × F)} {a b : F} (h : SameI P [] a b) : a = b := by
  have h2 := h.ab
  have h1 := h.cl
  rw [List.append_nil] at h1 h2
  exact closed_eq h1 h2
theorem SameI.unlike {P O : List (F × F)} {a b s t : F} (h : SameI P (O ++ [(s, t)]) a b) (hn : ¬ AlikeP s t) : a ≠ b := by
  intro e
  have := h.eq e s t (by simp)
  subst this
  exact hn ⟨rfl, rfl, rfl, rfl⟩
/-- What is left out of the open ones is known already. -/
theorem SameI.drop {P O : List (F × F)} {a b s t : F} (h : SameI P (O ++ [(s, t)]) a b) (hk : Eqv (relL (P ++ O)) s t) : SameI P O a b := by
  have hm : ∀ x y, relL (P ++ (O ++ [(s, t)])) x y → Eqv (relL (P ++ O)) x y := by
    intro x y hx
    simp only [relL, List.mem_append, List.mem_singleton, Prod.mk.injEq] at hx
    rcases hx with hx | hx | ⟨rfl, rfl⟩
    · exact .base (List.mem_append.2 (Or.inl hx))
    · exact .base (List.mem_append.2 (Or.inr hx))
    · exact hk
  exact ⟨fun x y hx => ⟨(h.cl x y hx).1, fun i h1 h2 => ((h.cl x y hx).2 i h1 h2).mono hm⟩, h.ab.mono hm, fun e x y hx => h.eq e x y (by
    simp only [List.mem_append] at hx ⊢
    rcases hx with hx | hx
    · exact Or.inl hx
    · exact Or.inr (Or.inl hx))⟩
theorem SameI.leaf {P O : List (F × F)} {a b s t : F} (h : SameI P (O ++ [(s, t)]) a b) (ha : AlikeP s t) (h0 : s.ks.length = 0) : SameI P O a b := by
  refine h.drop ?_
  have : s = t := F.eq_of ha.1 ha.2.1 ha.2.2.1 (by rw [List.length_eq_zero_iff.1 h0, List.length_eq_zero_iff.1 (ha.2.2.2 ▸ h0 : t.ks.length = 0)])
  rw [this]
  exact .refl t
theorem SameI.known {P O : List (F × F)} {a b s t : F} (h : SameI P (O ++ [(s, t)]) a b) (hk : Eqv (relL P) s t) : SameI P O a b :=
  h.drop (hk.mono fun _ _ hx => .base (List.mem_append.2 (Or.inl hx)))
theorem zip_at {α β : Type} : ∀ (l : List α) (m : List β) (i : Nat) (h : i < l.length) (h' : i < m.length), (l[i], m[i]) ∈ List.zip l m
  | a :: l, b :: m, 0, _, _ => List.mem_cons_self ..
  | a :: l, b :: m, i + 1, h, h' => by
    rw [List.zip_cons_cons]
    exact List.mem_cons_of_mem _ (zip_at l m i (by simpa using h) (by simpa using h'))
theorem SameI.join {P O : List (F × F)} {a b s t : F} (h : SameI P (O ++ [(s, t)]) a b) (ha : AlikeP s t) : SameI ((s, t) :: P) (O ++ List.zip s.ks t.ks) a b := by
  have hm : ∀ x y, relL (P ++ (O ++ [(s, t)])) x y → Eqv (relL ((s, t) :: P ++ (O ++ List.zip s.ks t.ks))) x y := by
    intro x y hx
    refine .base ?_
    simp only [relL, List.mem_append, Prod.mk.injEq, List.mem_cons, List.cons_append] at hx ⊢
    rcases hx with hx | hx | hx | hx
    · exact Or.inr (Or.inl hx)
    · exact Or.inr (Or.inr (Or.inl hx))
    · exact Or.inl hx
    · cases hx
  refine ⟨fun x y hx => ?_, h.ab.mono hm, fun e x y hx => ?_⟩
  · rcases List.mem_cons.1 hx with hx | hx
    · obtain ⟨rfl, rfl⟩ := Prod.mk.inj hx
      exact ⟨ha, fun i h1 h2 => .base (List.mem_append.2 (Or.inr (List.mem_append.2 (Or.inr (zip_at _ _ i h1 h2)))))⟩
    · exact ⟨(h.cl x y hx).1, fun i h1 h2 => ((h.cl x y hx).2 i h1 h2).mono hm⟩
  · have hst := h.eq e s t (by simp)
    simp only [List.mem_append, List.mem_cons, Prod.mk.injEq, List.cons_append] at hx
    rcases hx with ⟨rfl, rfl⟩ | hx | hx | hx
    · exact hst
    · exact h.eq e x y (List.mem_append.2 (Or.inl hx))
    · exact h.eq e x y (by simp [hx])
    · rw [← hst] at hx
      obtain ⟨i, hi, e2⟩ := List.mem_iff_getElem.1 hx
      rw [List.getElem_zip] at e2
      obtain ⟨rfl, rfl⟩ := Prod.mk.inj e2
      rfl
/-- How much is still open. -/
def meas (O : List (F × F)) : Nat := (O.map fun x => x.1.cnt).sum
theorem cntL_sum : ∀ ks : List F, cntL ks = (ks.map F.cnt).sum
  | [] => rfl
  | f :: r => by rw [cntL, cntL_sum r]; rfl
theorem cnt_eq (f : F) : f.cnt = 1 + cntL f.ks := by cases f; rfl
theorem meas_app (O Q : List (F × F)) : meas (O ++ Q) = meas O + meas Q := by simp [meas]
theorem meas_one (s t : F) : meas [(s, t)] = s.cnt := by simp [meas]
theorem meas_zip : ∀ (l m : List F), meas (List.zip l m) ≤ cntL l
  | [], _ => by simp [meas, cntL]
  | _ :: _, [] => by simp [meas]
  | a :: l, b :: m => by
    rw [List.zip_cons_cons, cntL]
    have := meas_zip l m
    simp only [meas, List.map_cons, List.sum_cons] at this ⊢
    omega
theorem meas_pop (O : List (F × F)) (s t : F) : meas O < meas (O ++ [(s, t)]) := by
  rw [meas_app, meas_one]
  have := cnt_pos s
  omega
theorem meas_join (O : List (F × F)) (s t : F) : meas (O ++ List.zip s.ks t.ks) < meas (O ++ [(s, t)]) := by
  rw [meas_app, meas_app, meas_one, cnt_eq s]
  have := meas_zip s.ks t.ks
  omega
end Fm
end Go.Proofs.YtlddnejjpekgeaaDoor
/- Formulas that are the same: maps of pointers. -/
namespace Go.Proofs.YtlddnejjpekgeaaDoor
open Go.RowKit

namespace Pm
abbrev PL := List (Addr × Addr)
/-- Where a key stands, and what stands there. -/
def fnd : PL → Addr → Nat → Option (Nat × Addr)
  | [], _, _ => none
  | e :: r, p, i => if p = e.1 then some (i, e.2) else fnd r p (i + 1)
def assoc (es : PL) (p : Addr) : Option Addr := (fnd es p 0).map (·.2)
/-- A key's place; behind the last one, where it is none. -/
def idx : PL → Addr → Nat
  | [], _ => 0
  | e :: r, p => if p = e.1 then 0 else idx r p + 1
theorem idx_le : ∀ (es : PL) (p : Addr), idx es p ≤ es.length
  | [], _ => Nat.le_refl _
  | e :: r, p => by
    rw [idx, List.length_cons]
    split
    · omega
    · have := idx_le r p
      omega
theorem fnd_some : ∀ (es : PL) (p : Addr) (i j : Nat) (q : Addr), fnd es p i = some (j, q) → ∃ k, j = i + k ∧ k = idx es p ∧ es[k]? = some (p, q)
  | [], _, _, _, _, h => by cases h
  | e :: r, p, i, j, q, h => by
    rw [fnd] at h
    split at h
    · rename_i he
      injection h with h
      injection h with h1 h2
      subst he h1 h2
      exact ⟨0, rfl, by rw [idx, if_pos rfl], rfl⟩
    · rename_i he
      obtain ⟨k, h1, h2, h3⟩ := fnd_some r p (i + 1) j q h
      exact ⟨k + 1, by omega, by rw [idx, if_neg he, h2], by simpa using h3⟩
theorem fnd_none : ∀ (es : PL) (p : Addr) (i : Nat), fnd es p i = none → idx es p = es.length ∧ p ∉ es.map (·.1)
  | [], _, _, _ => ⟨rfl, by simp⟩
  | e :: r, p, i, h => by
    rw [fnd] at h
    split at h
    · cases h
    · rename_i he
      obtain ⟨h1, h2⟩ := fnd_none r p (i + 1) h
      refine ⟨by rw [idx, if_neg he, h1, List.length_cons], ?_⟩
      rw [List.map_cons, List.mem_cons]
      rintro (h | h)
      · exact he h
      · exact h2 h
theorem idx_lt : ∀ (es : PL) (p : Addr), p ∈ es.map (·.1) → idx es p < es.length
  | [], _, h => by cases h
  | e :: r, p, h => by
    rw [idx, List.length_cons]
    split
    · omega
    · rename_i he
      rw [List.map_cons, List.mem_cons] at h
      have := idx_lt r p (h.resolve_left he)
      omega
theorem idx_keys : ∀ (es fs : PL) (p : Addr), es.map (·.1) = fs.map (·.1) → idx es p = idx fs p
  | [], [], _, _ => rfl
  | [], _ :: _, _, h => by cases h
  | _ :: _, [], _, h => by cases h
  | e :: r, f :: s, p, h => by
    simp only [List.map_cons, List.cons.injEq] at h
    rw [idx, idx, h.1, idx_keys r s p h.2]
/-- The value at a place becomes another one. -/
def upd (es : PL) (i : Nat) (p q : Addr) : PL := es.modify i (fun _ => (p, q))
theorem upd_keys {es : PL} {i : Nat} {p q v : Addr} (h : es[i]? = some (p, v)) : (upd es i p q).map (·.1) = es.map (·.1) := by
  unfold upd
  apply List.ext_getElem?
  intro k
  rw [List.getElem?_map, List.getElem?_map, List.getElem?_modify]
  by_cases hk : i = k
  · subst hk
    rw [h]
    simp
  · simp [hk]
theorem upd_mem {es : PL} {i : Nat} {p q : Addr} {e : Addr × Addr} (h : e ∈ upd es i p q) : e = (p, q) ∨ e ∈ es := by
  obtain ⟨k, hk⟩ := List.getElem?_of_mem h
  unfold upd at hk
  rw [List.getElem?_modify] at hk
  by_cases hi : i = k
  · subst hi
    cases he : es[i]? with
    | none => rw [he] at hk; simp at hk
    | some x => rw [he] at hk; simp at hk; exact Or.inl hk.symm
  · simp only [hi, if_false] at hk
    simp at hk
    exact Or.inr (List.mem_of_getElem? hk)
/-- A key's value stands, as a key, behind it; if it is a key. -/
def Fwd (es : PL) : Prop := ∀ e ∈ es, idx es e.1 < idx es e.2
theorem fwd_upd {es : PL} {i : Nat} {p q v : Addr} (h : Fwd es) (hi : es[i]? = some (p, v)) (hq : idx es p < idx es q) : Fwd (upd es i p q) := by
  intro e he
  have hk := upd_keys (q := q) hi
  rw [idx_keys _ es _ hk, idx_keys _ es _ hk]
  rcases upd_mem he with rfl | he
  · exact hq
  · exact h e he
theorem idx_app : ∀ (es : PL) (a b p : Addr), idx (es ++ [(a, b)]) p = if p ∈ es.map (·.1) then idx es p else if p = a then es.length else es.length + 1
  | [], a, b, p => by
    simp only [List.nil_append, idx, List.map_nil, List.not_mem_nil, if_false, List.length_nil]
  | e :: r, a, b, p => by
    rw [List.cons_append, idx, idx, idx_app r a b p]
    by_cases h : p = e.1
    · simp [h]
    · simp only [h, if_false, List.map_cons, List.mem_cons, false_or, List.length_cons]
      split
      · rfl
      · split <;> rfl
theorem fwd_app {es : PL} {a b : Addr} (h : Fwd es) (ha : a ∉ es.map (·.1)) (hb : b ∉ es.map (·.1)) (hab : a ≠ b) : Fwd (es ++ [(a, b)]) := by
  intro e he
  rw [idx_app, idx_app]
  rcases List.mem_append.1 he with he | he
  · have hm : e.1 ∈ es.map (·.1) := List.mem_map_of_mem he
    have h1 := h e he
    have h2 := idx_lt es e.1 hm
    rw [if_pos hm]
    by_cases h3 : e.2 ∈ es.map (·.1)
    · rw [if_pos h3]
      exact h1
    · rw [if_neg h3]
      split <;> omega
  · simp only [List.mem_singleton] at he
    subst he
    show (if a ∈ es.map (·.1) then idx es a else if a = a then es.length else es.length + 1) < (if b ∈ es.map (·.1) then idx es b else if b = a then es.length else es.length + 1)
    rw [if_neg ha, if_neg hb, if_pos rfl, if_neg (fun e => hab e.symm)]
    omega
end Pm
open Pm
/-- The entries of a map of pointers. -/
def PMs : List MapEntry → PL → Prop
  | [], [] => True
  | m :: ms, e :: es => m.key = .pointer (some e.1) ∧ m.val = .pointer (some e.2) ∧ PMs ms es
  | _, _ => False
theorem PMs.len : ∀ (ms : List MapEntry) (es : PL), PMs ms es → ms.length = es.length
  | [], [], _ => rfl
  | [], _ :: _, h => h.elim
  | _ :: _, [], h => h.elim
  | _ :: ms, _ :: es, h => by rw [List.length_cons, List.length_cons, PMs.len ms es h.2.2]
theorem PMs.get : ∀ (ms : List MapEntry) (es : PL), PMs ms es → ∀ (i : Nat) (e : Addr × Addr), es[i]? = some e → ∃ m : MapEntry, ms[i]? = some m ∧ m.key = .pointer (some e.1) ∧ m.val = .pointer (some e.2)
  | [], [], _, i, e, h => by simp at h
  | [], _ :: _, h, _, _, _ => h.elim
  | _ :: _, [], h, _, _, _ => h.elim
  | m :: ms, e :: es, h, 0, e', he => by
    simp only [List.getElem?_cons_zero, Option.some.injEq] at he
    subst he
    exact ⟨m, rfl, h.1, h.2.1⟩
  | m :: ms, e :: es, h, i + 1, e', he => by
    simp only [List.getElem?_cons_succ] at he ⊢
    exact PMs.get ms es h.2.2 i e' he
theorem PMs.snoc {p q : Addr} {c : Nat} : ∀ (ms : List MapEntry) (es : PL), PMs ms es → PMs (ms ++ [MapEntry.mk (.pointer (some p)) (.pointer (some q)) c]) (es ++ [(p, q)])
  | [], [], _ => ⟨rfl, rfl, trivial⟩
  | [], _ :: _, h => h.elim
  | _ :: _, [], h => h.elim
  | _ :: ms, _ :: es, h => ⟨h.1, h.2.1, PMs.snoc ms es h.2.2⟩
theorem PMs.upd {p q : Addr} : ∀ (ms : List MapEntry) (es : PL) (i : Nat), PMs ms es → PMs (ms.modify i (fun e => { e with key := .pointer (some p), val := .pointer (some q) })) (Pm.upd es i p q)
  | [], [], i, _ => by cases i <;> exact trivial
  | [], _ :: _, _, h => h.elim
  | _ :: _, [], _, h => h.elim
  | m :: ms, e :: es, 0, h => ⟨rfl, rfl, h.2.2⟩
  | m :: ms, e :: es, i + 1, h => ⟨h.1, h.2.1, PMs.upd ms es i h.2.2⟩
theorem ptr_eq (w : World) (a b : Addr) (ha : Reg w a.block) (hb : Reg w b.block) : (Op.equal 31 (.pointer (some a)) (.pointer (some b))).run Tryd.prog w = .ok (decide (a = b)) w := by
  obtain ⟨ta, ca, ha⟩ := ha
  obtain ⟨tb, cb, hb⟩ := hb
  have hp : Tryd.prog.underlying 31 = some (.pointer 24) := by kernel_rfl
  obtain ⟨j, hj, hsz⟩ : ∃ j, Tryd.prog.info? 24 = some j ∧ j.size ≠ 0 := ⟨Tryd.t24, by kernel_rfl, by decide +kernel⟩
  by_cases h : a = b
  · subst h
    rw [decide_eq_true rfl]
    have h : ∀ d : Nat, (Op.equalIn (d + 1) 31 (.pointer (some a)) (.pointer (some a))).run Tryd.prog w = .ok true w := fun d => by
      simp [Op.equalIn, run_underlying hp, sizeOf, typeInfo, hj, run_sameAddr_same]
    exact h 9999
  · rw [decide_eq_false h]
    have h2 : ∀ d : Nat, (Op.equalIn (d + 1) 31 (.pointer (some a)) (.pointer (some b))).run Tryd.prog w = .ok false w := fun d => by
      simp [Op.equalIn, run_underlying hp, sizeOf, typeInfo, hj, hsz, run_sameAddr_other w h ha hb]
    exact h2 9999
theorem find_ptr (w : World) (p : Addr) (hp : Reg w p.block) : ∀ (ms : List MapEntry) (es : PL) (i : Nat), PMs ms es → (∀ e ∈ es, Reg w e.1.block) → (Instr.findAsking 31 (.pointer (some p)) ms i).run Tryd.prog w = .ok ((fnd es p i).map fun x => (x.1, .pointer (some x.2))) w
  | [], [], i, _, _ => rfl
  | [], _ :: _, _, h, _ => h.elim
  | _ :: _, [], _, h, _ => h.elim
  | m :: ms, e :: es, i, h, hr => by
    obtain ⟨h1, h2, h3⟩ := h
    rw [Instr.findAsking, h1]
    simp only [Sem.run_bind, ptr_eq w p e.1 hp (hr e (List.mem_cons_self ..)), Result.andThen_ok, fnd]
    by_cases he : p = e.1
    · rw [decide_eq_true he, if_pos rfl, if_pos he, h2]
      rfl
    · rw [decide_eq_false he, if_neg (by simp), if_neg he]
      exact find_ptr w p hp ms es (i + 1) h3 (fun x hx => hr x (List.mem_cons_of_mem _ hx))
theorem findkey_ptr (w : World) (p : Addr) (hp : Reg w p.block) (ms : List MapEntry) (es : PL) (h : PMs ms es) (hr : ∀ e ∈ es, Reg w e.1.block) : (Instr.findKey 31 (.pointer (some p)) ms).run Tryd.prog w = .ok ((fnd es p 0).map fun x => (x.1, .pointer (some x.2))) w := by
  have hu : Tryd.prog.underlying 31 = some (.pointer 24) := by kernel_rfl
  cases ms with
  | nil =>
    cases es with
    | nil => simp [Instr.findKey, run_underlying hu, Instr.findNow, fnd]
    | cons _ _ => exact h.elim
  | cons m ms =>
    have := find_ptr w p hp (m :: ms) es 0 h hr
    simp only [Instr.findKey, Sem.run_bind, run_underlying hu, Result.andThen_ok, Instr.findNow, Instr.sameNow]
    exact this
/-- Block m is a map with these entries. -/
def PM (w : World) (m : Nat) (es : PL) : Prop := ∃ (ms : List MapEntry) (clock : Nat), Hq w m (.map ms.toArray clock) ∧ PMs ms es
theorem PM.lt {w : World} {m : Nat} {es : PL} (h : PM w m es) : m < w.heap.size := by
  obtain ⟨_, _, h, _⟩ := h
  exact h.lt
theorem PM.below {w w' : World} {m : Nat} {es : PL} (h : PM w m es) (hb : Below w.heap.size w w') : PM w' m es := by
  obtain ⟨ms, c, h, h2⟩ := h
  exact ⟨ms, c, h.below hb h.lt, h2⟩
theorem pm_look {w : World} {m : Nat} {es : PL} (h : PM w m es) (p : Addr) (hp : Reg w p.block) (hr : ∀ e ∈ es, Reg w e.1.block) :
    (Instr.lookup 55 (.map (some m)) (.pointer (some p)) false).run Tryd.prog w = .ok (.pointer (assoc es p)) w := by
  obtain ⟨ms, c, hb, hm⟩ := h
  have hu : Tryd.prog.underlying 55 = some (.map 31 31) := by kernel_rfl
  have hk : ∀ e, (Instr.checkKey e 10000 31 (.pointer (some p))).run Tryd.prog w = .ok () w := fun e => by
    have hu : Tryd.prog.underlying 31 = some (.pointer 24) := by kernel_rfl
    unfold Instr.checkKey
    simp only [Sem.run_bind, run_underlying hu, Result.andThen]
    rfl
  have hz : (zeroValue 31).run Tryd.prog w = .ok (.pointer none) w := by kernel_rfl
  have hf := findkey_ptr w p hp ms es hm hr
  simp only [Instr.lookup, Sem.run_bind, run_underlying hu, Result.andThen, MapKept.run_getObj_map hb, Sem.run_pure, hk, hf]
  unfold assoc
  cases fnd es p 0 with
  | none => simp [hz]
  | some x => simp
theorem pm_store {w : World} {m : Nat} {es : PL} (h : PM w m es) (p q : Addr) (hp : Reg w p.block) (hr : ∀ e ∈ es, Reg w e.1.block) :
    ∃ wn, (Instr.mapUpdate 55 (.map (some m)) (.pointer (some p)) (.pointer (some q))).run Tryd.prog w = .ok () wn ∧ PM wn m (match fnd es p 0 with | some (i, _) => Pm.upd es i p q | none => es ++ [(p, q)]) ∧ w.grownBy wn (some m) := by
  obtain ⟨ms, c, hb, hm⟩ := h
  have hu : Tryd.prog.underlying 55 = some (.map 31 31) := by kernel_rfl
  have hk : ∀ e, (Instr.checkKey e 10000 31 (.pointer (some p))).run Tryd.prog w = .ok () w := fun e => by
    have hu : Tryd.prog.underlying 31 = some (.pointer 24) := by kernel_rfl
    unfold Instr.checkKey
    simp only [Sem.run_bind, run_underlying hu, Result.andThen]
    rfl
  have hf := findkey_ptr w p hp ms es hm hr
  cases hx : fnd es p 0 with
  | none =>
    rw [hx] at hf
    have hs := setq_grown hb (.map (ms ++ [MapEntry.mk (.pointer (some p)) (.pointer (some q)) c]).toArray (c + 1))
    refine ⟨_, ?_, ⟨_, _, hs.1, PMs.snoc ms es hm⟩, hs.2⟩
    simp only [Instr.mapUpdate, Sem.run_bind, run_underlying hu, Result.andThen, MapKept.run_getObj_map hb, hk, hf, Option.map_none]
    rw [MapKept.run_setObj_map _ hb]
    simp
  | some x =>
    obtain ⟨i, v⟩ := x
    rw [hx] at hf
    obtain ⟨k, h1, h2, h3⟩ := fnd_some es p 0 i v hx
    rw [Nat.zero_add] at h1
    subst h1
    obtain ⟨e, e1, e2, _⟩ := PMs.get ms es hm i _ h3
    have hs := setq_grown hb (.map (ms.modify i (fun e => { e with key := .pointer (some p), val := .pointer (some q) })).toArray c)
    refine ⟨_, ?_, ⟨_, _, hs.1, PMs.upd ms es i hm⟩, hs.2⟩
    have hsb : Instr.sameBits 10000 (.pointer (some p)) (.pointer (some p)) = true := by simp [Instr.sameBits]
    simp only [Instr.mapUpdate, Sem.run_bind, run_underlying hu, Result.andThen, MapKept.run_getObj_map hb, hk, hf, Option.map_some, Instr.keyThatStays]
    simp only [List.getElem?_toArray, e1, Option.map_some, Option.getD_some, e2, hsb, if_true, Sem.run_pure]
    rw [MapKept.run_setObj_map _ hb]
    simp
end Go.Proofs.YtlddnejjpekgeaaDoor
