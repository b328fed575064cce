/- Made again nothing is new. -/
import Derived.Test.YticallikogheiaaBC
namespace Go.Proofs.Yticallikogheiaa
open Go.RowKit

theorem idx_pre {gs t : List (Int × Int)} {g : Int × Int} (h : gs.idxOf g < gs.length) : (gs ++ t).idxOf g = gs.idxOf g := by
  have hm : g ∈ gs := by
    have := List.getElem_idxOf h
    rw [← this]
    exact List.getElem_mem h
  rw [List.idxOf_append, if_pos hm]
theorem idx_new {gs t : List (Int × Int)} {g : Int × Int} (h : gs.length ≤ gs.idxOf g) : ((gs ++ [g]) ++ t).idxOf g = gs.length := by
  have hm : g ∉ gs := fun hm => by
    have := List.idxOf_lt_length_of_mem hm
    omega
  rw [List.append_assoc, List.idxOf_append, if_neg hm]
  simp
/-- What And made is found in every right graph that has it. -/
theorem and_keep {n : Int} {gs : List (Int × Int)} {a b : Int} (hr : Gm.rightB n gs = true) (ha : Gm.litB n gs.length a = true) (hb : Gm.litB n gs.length b = true) (hroom : 1 + n + gs.length < 2000)
    {gs3 : List (Int × Int)} (hp : ∃ t, gs3 = (Gm.andS n gs a b).1.2 ++ t) (hr3 : Gm.rightB n gs3 = true) : Gm.andS n gs3 a b = ((n, gs3), (Gm.andS n gs a b).2.1, 0) := by
  have hgood := and_good hr ha hb hroom
  obtain ⟨t, rfl⟩ := hp
  have hle : gs.length ≤ ((Gm.andS n gs a b).1.2 ++ t).length := by
    obtain ⟨t', h⟩ := hgood.pre
    rw [h]
    simp
  have ha3 := lit_more ha hle
  have hb3 := lit_more hb hle
  rcases andS_cases n gs a b with e | ⟨_, ⟨l, hs, e⟩ | ⟨hs, hi, e⟩ | ⟨hs, hi, h2, e⟩ | ⟨hs, hi, h2, e⟩⟩
  · have := hgood.err
    rw [e] at this
    simp [Gm.bad] at this
  · rw [e] at hr3 ha3 hb3 ⊢
    exact andS_some ⟨hr3, ha3, hb3⟩ hs
  · rw [e] at hr3 ha3 hb3 ⊢
    rw [andS_none ⟨hr3, ha3, hb3⟩ hs, idx_pre hi, if_pos (by simp; omega)]
  · omega
  · rw [e] at hr3 ha3 hb3 ⊢
    rw [andS_none ⟨hr3, ha3, hb3⟩ hs, idx_new hi, if_pos (by simp)]
theorem and_again {n : Int} {gs : List (Int × Int)} {a b : Int} (hr : Gm.rightB n gs = true) (ha : Gm.litB n gs.length a = true) (hb : Gm.litB n gs.length b = true) (hroom : 1 + n + gs.length < 2000) :
    Gm.andS n (Gm.andS n gs a b).1.2 b a = ((n, (Gm.andS n gs a b).1.2), (Gm.andS n gs a b).2.1, 0) := by
  rw [and_swap]
  exact and_keep hr ha hb hroom ⟨[], by simp⟩ (and_good hr ha hb hroom).right
theorem ite_again {n : Int} {gs : List (Int × Int)} {c a b : Int} (hr : Gm.rightB n gs = true) (hc : Gm.litB n gs.length c = true) (ha : Gm.litB n gs.length a = true) (hb : Gm.litB n gs.length b = true) (hroom : 1 + n + gs.length + 5 < 2000) :
    Gm.iteS n (Gm.iteS n gs c a b).1.2 c a b = ((n, (Gm.iteS n gs c a b).1.2), (Gm.iteS n gs c a b).2.1, 0) := by
  have hc0 := (lit_facts hc).1
  have hg := ite_good hr hc ha hb (by omega)
  have h1 := and_good hr hc ha (by omega)
  have e := iteS_ok (n := n) (gs := gs) (a := a) (b := b) (c := c) (by omega)
  have K1 := fun gs3 hp hr3 => and_keep hr hc ha (by omega) (gs3 := gs3) hp hr3
  generalize Gm.andS n gs c a = r1 at *
  obtain ⟨⟨n1, gs1⟩, l1, e1⟩ := r1
  obtain ⟨he, hi, hr1, hl1, hg1, hp1⟩ := h1
  simp only at he hi hr1 hl1 hg1 hp1 K1
  subst he hi
  have hle1 := pre_len hp1
  have h2 := and_good hr1 (neg_lit (lit_more hc hle1)) (lit_more hb hle1) (by omega)
  have K2 := fun gs3 hp hr3 => and_keep hr1 (neg_lit (lit_more hc hle1)) (lit_more hb hle1) (by omega) (gs3 := gs3) hp hr3
  simp only [↓reduceIte] at e
  generalize Gm.andS n1 gs1 (Gm.negB c) b = r2 at *
  obtain ⟨⟨n2, gs2⟩, l2, e2⟩ := r2
  obtain ⟨he, hi, hr2, hl2, hg2, hp2⟩ := h2
  simp only at he hi hr2 hl2 hg2 hp2 K2
  subst he hi
  have hle2 := pre_len hp2
  simp only [↓reduceIte] at e
  obtain ⟨h3, oe⟩ := or_good hr2 (lit_more hl1 hle2) hl2 (by omega)
  have K3 := fun gs3 hp hr3 => and_keep hr2 (neg_lit (lit_more hl1 hle2)) (neg_lit hl2) (by omega) (gs3 := gs3) hp hr3
  rw [e]
  rw [e] at hg
  obtain ⟨_, _, hr3, hl3, _, _⟩ := h3
  have hp3 : ∃ t, (Gm.orS n2 gs2 l1 l2).1.2 = (Gm.andS n2 gs2 (Gm.negB l1) (Gm.negB l2)).1.2 ++ t := ⟨[], by rw [oe]; simp⟩
  have hl3' : (Gm.orS n2 gs2 l1 l2).2.1 = Gm.negB (Gm.andS n2 gs2 (Gm.negB l1) (Gm.negB l2)).2.1 := by rw [oe]
  have h23 : ∃ t, (Gm.orS n2 gs2 l1 l2).1.2 = gs2 ++ t := by
    obtain ⟨t, h⟩ := (and_good hr2 (neg_lit (lit_more hl1 hle2)) (neg_lit hl2) (by omega)).pre
    rw [oe]
    exact ⟨t, h⟩
  have h13 : ∃ t, (Gm.orS n2 gs2 l1 l2).1.2 = gs1 ++ t := by
    obtain ⟨t, h⟩ := h23
    obtain ⟨t', h'⟩ := hp2
    exact ⟨t' ++ t, by rw [h, h', List.append_assoc]⟩
  have hle3 := pre_len h23
  have hg1' := hg.right
  generalize hJ : (Gm.orS n2 gs2 l1 l2).1.2 = J at *
  have k1 := K1 J h13 hg1'
  have k2 := K2 J h23 hg1'
  have k3 := K3 J hp3 hg1'
  rw [iteS_ok (by omega), k1]
  simp only [↓reduceIte]
  rw [k2]
  simp only [↓reduceIte]
  have hgl := hg.grow
  rw [hJ] at hgl
  obtain ⟨_, oe3⟩ := or_good hg1' (lit_more (lit_more hl1 hle2) hle3) (lit_more hl2 hle3) (by omega)
  rw [oe3, k3, hl3']
end Go.Proofs.Yticallikogheiaa
