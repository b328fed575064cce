/- What And makes of a right graph is right; Or and Ite likewise. -/
import Derived.Test.YteabffdddlihnaaRw
namespace Go.Proofs.Yteabffdddlihnaa
open Go.RowKit

theorem simple_none_facts {a b : Int} (ha : 0 ≤ a) (hb : 0 ≤ b) (h : Gm.simpleS a b = none) : 2 ≤ min a b ∧ min a b / 2 < max a b / 2 := by
  have hs := simple_max ha hb (x := max a b) (y := min a b) rfl
  rw [h] at hs
  split at hs
  · cases hs
  · split at hs
    · cases hs
    · omega
theorem lit_mk {n : Int} {l : Nat} {x : Int} (h0 : 0 ≤ n) (h1 : n ≤ 2000) (h2 : 0 ≤ x) (h3 : x < 2 * (1 + n + l)) : Gm.litB n l x = true := by
  simp [Gm.litB]; omega

structure AndGood (n : Int) (gs : List (Int × Int)) (r : Gm.Res) : Prop where
  err : r.2.2 = 0
  ins : r.1.1 = n
  right : Gm.rightB n r.1.2 = true
  lit : Gm.litB n r.1.2.length r.2.1 = true
  grow : r.1.2.length ≤ gs.length + 1
  pre : ∃ t, r.1.2 = gs ++ t
theorem and_good {n : Int} {gs : List (Int × Int)} {a b : Int} (hr : Gm.rightB n gs = true) (ha : Gm.litB n gs.length a = true) (hb : Gm.litB n gs.length b = true) (hroom : 1 + n + gs.length < 2000) :
    AndGood n gs (Gm.andS n gs a b) := by
  obtain ⟨hn0, hn1, hn2, hnod⟩ := right_facts hr
  obtain ⟨ha0, ha1⟩ := lit_facts ha
  obtain ⟨hb0, hb1⟩ := lit_facts hb
  rcases andS_cases n gs a b with e | ⟨_, ⟨l, hs, e⟩ | ⟨hs, hi, e⟩ | ⟨hs, hi, h2, e⟩ | ⟨hs, hi, h2, e⟩⟩
  · exfalso
    unfold Gm.andS at e
    rw [if_pos ⟨hr, ha, hb⟩] at e
    split at e
    · simp [Gm.bad] at e
    · split at e
      · simp [Gm.bad] at e
      · split at e
        · simp [Gm.bad] at e
        · simp [Gm.bad] at e
  · rw [e]; exact ⟨rfl, rfl, hr, simple_lit ha hb hs, by simp, [], by simp⟩
  · rw [e]; exact ⟨rfl, rfl, hr, lit_mk hn0 hn1 (by simp only; omega) (by simp only; omega), by simp, [], by simp⟩
  · omega
  · rw [e]
    have hg := simple_none_facts ha0 hb0 hs
    refine ⟨rfl, rfl, ?_, lit_mk hn0 hn1 (by simp only; omega) (by simp; omega), by simp, [(max a b, min a b)], rfl⟩
    have h1 : Gm.ordB n 0 gs = true := by simp [Gm.rightB] at hr; exact hr.1.2
    have hm : (max a b, min a b) ∉ gs := fun hm => by
      have := List.idxOf_lt_length_of_mem hm
      omega
    simp only [Gm.rightB, Gm.fitB, Gm.ordB_snoc, Gm.nodB, h1, Bool.and_eq_true, decide_eq_true_eq, List.length_append, List.length_cons, List.length_nil]
    refine ⟨⟨⟨⟨hn0, hn1⟩, by omega⟩, trivial, ?_⟩, ?_⟩
    · simp only [Gm.gateB, Bool.and_eq_true, decide_eq_true_eq]
      omega
    · rw [List.nodup_append]
      exact ⟨hnod, by simp, fun x hx y hy => by simp at hy; subst hy; intro e'; subst e'; exact hm hx⟩
theorem neg_lit {n : Int} {l : Nat} {x : Int} (h : Gm.litB n l x = true) : Gm.litB n l (Gm.negB x) = true := by
  have h1 := lit_facts h
  simp [Gm.litB] at h ⊢
  have := Gm.negB_ge x (by omega)
  have := Gm.negB_le x (1 + n + l) (by omega)
  omega
theorem lit_more {n : Int} {l l' : Nat} {x : Int} (h : Gm.litB n l x = true) (hl : l ≤ l') : Gm.litB n l' x = true := by
  simp [Gm.litB] at h ⊢
  omega
theorem or_good {n : Int} {gs : List (Int × Int)} {a b : Int} (hr : Gm.rightB n gs = true) (ha : Gm.litB n gs.length a = true) (hb : Gm.litB n gs.length b = true) (hroom : 1 + n + gs.length < 2000) :
    AndGood n gs (Gm.orS n gs a b) ∧ Gm.orS n gs a b = ((Gm.andS n gs (Gm.negB a) (Gm.negB b)).1, Gm.negB (Gm.andS n gs (Gm.negB a) (Gm.negB b)).2.1, 0) := by
  have h1 := (lit_facts ha).1
  have h2 := (lit_facts hb).1
  have hg := and_good hr (neg_lit ha) (neg_lit hb) hroom
  have e : Gm.orS n gs a b = ((Gm.andS n gs (Gm.negB a) (Gm.negB b)).1, Gm.negB (Gm.andS n gs (Gm.negB a) (Gm.negB b)).2.1, 0) := by
    unfold Gm.orS
    rw [if_neg (by omega)]
    simp only
    rw [if_pos hg.err]
  refine ⟨?_, e⟩
  rw [e]
  exact ⟨rfl, hg.ins, hg.right, neg_lit hg.lit, hg.grow, hg.pre⟩
theorem pre_len {gs gs' : List (Int × Int)} (h : ∃ t, gs' = gs ++ t) : gs.length ≤ gs'.length := by
  obtain ⟨t, rfl⟩ := h
  simp
structure IteGood (n : Int) (gs : List (Int × Int)) (r : Gm.Res) : Prop where
  err : r.2.2 = 0
  ins : r.1.1 = n
  right : Gm.rightB n r.1.2 = true
  lit : Gm.litB n r.1.2.length r.2.1 = true
  grow : r.1.2.length ≤ gs.length + 3
  pre : ∃ t, r.1.2 = gs ++ t
theorem ite_good {n : Int} {gs : List (Int × Int)} {c a b : Int} (hr : Gm.rightB n gs = true) (hc : Gm.litB n gs.length c = true) (ha : Gm.litB n gs.length a = true) (hb : Gm.litB n gs.length b = true) (hroom : 1 + n + gs.length + 2 < 2000) :
    IteGood n gs (Gm.iteS n gs c a b) := by
  have hc0 := (lit_facts hc).1
  have h1 := and_good hr hc ha (by omega)
  have e := iteS_ok (n := n) (gs := gs) (a := a) (b := b) (c := c) (by omega)
  generalize Gm.andS n gs c a = r1 at *
  obtain ⟨⟨n1, gs1⟩, l1, e1⟩ := r1
  obtain ⟨he, hi, hr1, hl1, hg1, hp1⟩ := h1
  simp only at he hi hr1 hl1 hg1 hp1
  subst he hi
  have hle1 := pre_len hp1
  have h2 := and_good hr1 (neg_lit (lit_more hc hle1)) (lit_more hb hle1) (by omega)
  simp only [↓reduceIte] at e
  generalize Gm.andS n1 gs1 (Gm.negB c) b = r2 at *
  obtain ⟨⟨n2, gs2⟩, l2, e2⟩ := r2
  obtain ⟨he, hi, hr2, hl2, hg2, hp2⟩ := h2
  simp only at he hi hr2 hl2 hg2 hp2
  subst he hi
  have hle2 := pre_len hp2
  simp only [↓reduceIte] at e
  obtain ⟨h3, _⟩ := or_good hr2 (lit_more hl1 hle2) hl2 (by omega)
  rw [e]
  obtain ⟨he, hi, hr3, hl3, hg3, hp3⟩ := h3
  refine ⟨he, hi, hr3, hl3, by omega, ?_⟩
  obtain ⟨t1, rfl⟩ := hp1
  obtain ⟨t2, rfl⟩ := hp2
  obtain ⟨t3, h⟩ := hp3
  exact ⟨t1 ++ (t2 ++ t3), by rw [h]; simp⟩
/-- The order of the literals does not matter. -/
theorem and_swap (n : Int) (gs : List (Int × Int)) (a b : Int) : Gm.andS n gs a b = Gm.andS n gs b a := by
  rcases andS_cases n gs a b with e | ⟨⟨hr, ha, hb⟩, _⟩
  · have h : ¬ (Gm.rightB n gs = true ∧ Gm.litB n gs.length a = true ∧ Gm.litB n gs.length b = true) := by
      intro h
      unfold Gm.andS at e
      rw [if_pos h] at e
      split at e
      · simp [Gm.bad] at e
      · split at e
        · simp [Gm.bad] at e
        · split at e <;> simp [Gm.bad] at e
    unfold Gm.andS
    rw [if_neg h, if_neg (fun h' => h ⟨h'.1, h'.2.2, h'.2.1⟩)]
  · have h1 := simple_max (lit_facts ha).1 (lit_facts hb).1 (x := max a b) (y := min a b) rfl
    have h2 := simple_max (lit_facts hb).1 (lit_facts ha).1 (x := max a b) (y := min a b) (by rw [Int.max_comm, Int.min_comm])
    have hs' : Gm.simpleS b a = Gm.simpleS a b := h2.trans h1.symm
    cases hs : Gm.simpleS a b with
    | some l => rw [andS_some ⟨hr, ha, hb⟩ hs, andS_some ⟨hr, hb, ha⟩ (hs'.trans hs)]
    | none => rw [andS_none ⟨hr, ha, hb⟩ hs, andS_none ⟨hr, hb, ha⟩ (hs'.trans hs), Int.max_comm b a, Int.min_comm b a]
end Go.Proofs.Yteabffdddlihnaa
