/- Plain mathematics of package cone: what a copy is. -/
import Derived.Test.YtjjdgiondpnpcaaCN
namespace Go.Proofs.Ytjjdgiondpnpcaa
open Go.RowKit
namespace Cm

/-- What holds when k gates have been gone through. -/
structure CInv (nt nf : Nat) (tg fg : List (Int × Int)) (inn : List Bool) (by_ : List Int) (k : Nat) (t : List (Int × Int)) (is : List Int) : Prop where
  right : Gm.rightB nt t = true
  pre : ∃ s, t = tg ++ s
  grow : t.length ≤ tg.length + k
  len : is.length = nf + 1 + k
  lits : ∀ u, u < nf + 1 + k → (u ≤ nf ∨ inn.getD u false = true) → Gm.litB nt t.length (is.getD u 0) = true
  val : ∀ v w : List Bool, v.length = nt → w.length = nf → (∀ j, j < nf → w.getD j false = Em.bitB (Em.all v tg) (by_.getD j 0)) →
    ∀ u, u < nf + 1 + k → (u ≤ nf ∨ inn.getD u false = true) → Em.bitB (Em.all v t) (is.getD u 0) = (Em.all w fg).getD u false
  sub : ∀ x, 1 ≤ x → x ≤ nt → ∀ u, u < nf + 1 + k → (u ≤ nf ∨ inn.getD u false = true) → InC nt t x (vr (is.getD u 0)) → ∃ j, 1 ≤ j ∧ j ≤ nf ∧ InC nf fg j u ∧ InC nt tg x (vr (by_.getD (j - 1) 0))

section
variable {nt nf : Nat} {tg fg : List (Int × Int)} {inn : List Bool} {by_ : List Int}
theorem CInv.start (hr : Gm.rightB nt tg = true) (hb : by_.length = nf) (hl : ∀ j, j < nf → Gm.litB nt tg.length (by_.getD j 0) = true) : CInv nt nf tg fg inn by_ 0 tg (0 :: by_) := by
  have hrf := right_facts hr
  have hL := Low.of_right hr
  refine ⟨hr, ⟨[], by simp⟩, by omega, by simp [hb], fun u hu _ => ?_, fun v w hv hw hvw u hu _ => ?_, fun x hx0 hx u hu _ h => ?_⟩
  · cases u with
    | zero => exact lit_mk (by omega) (by omega) (by simp) (by simp; omega)
    | succ u => rw [List.getD_cons_succ]; exact hl u (by omega)
  · cases u with
    | zero => rw [List.getD_cons_zero, Em.bit_zero, Em.all_head]
    | succ u =>
      rw [List.getD_cons_succ, Em.all_input w fg (by omega) (by omega), Nat.add_sub_cancel]
      exact (hvw u (by omega)).symm
  · cases u with
    | zero =>
      have := h.le hL
      simp [vr] at this
      omega
    | succ u =>
      rw [List.getD_cons_succ] at h
      exact ⟨u + 1, by omega, by omega, InC.self, h⟩
theorem getD_last (is : List Int) (x : Int) {u : Nat} (h : u = is.length) : (is ++ [x]).getD u 0 = x := by
  subst h; simp [List.getD_eq_getElem?_getD]
theorem CInv.step (hc : ∀ k (hk : k < fg.length), inn.getD (nf + 1 + k) false = true → inn.getD (vr (fg[k]).1) false = true ∧ inn.getD (vr (fg[k]).2) false = true)
    (hf : Gm.rightB nf fg = true) (hroom : 1 + (nt : Int) + tg.length + fg.length < 2000) {k : Nat} {t : List (Int × Int)} {is : List Int} (h : CInv nt nf tg fg inn by_ k t is) (hk : k < fg.length) :
    ∃ t' is', stepC nt nf inn fg k t is = .ok (t', is') ∧ CInv nt nf tg fg inn by_ (k + 1) t' is' := by
  obtain ⟨hr, hpre, hgrow, hlen, hlits, hval, hsub⟩ := h
  cases hi : inn.getD (nf + 1 + k) false with
  | false =>
    refine ⟨t, is ++ [0], by unfold stepC; rw [hi]; rfl, hr, hpre, by omega, by simp [hlen]; omega, fun u hu hcu => ?_, fun v w hv hw hvw u hu hcu => ?_, fun x hx0 hx u hu hcu h => ?_⟩
    all_goals
      have hlt : u < nf + 1 + k := by
        rcases Nat.lt_or_ge u (nf + 1 + k) with h | h
        · exact h
        · obtain rfl : u = nf + 1 + k := by omega
          rcases hcu with hcu | hcu
          · omega
          · rw [hi] at hcu; cases hcu
    · rw [Em.getD_pre _ _ _ (by omega)]; exact hlits u hlt hcu
    · rw [Em.getD_pre _ _ _ (by omega)]; exact hval v w hv hw hvw u hlt hcu
    · rw [Em.getD_pre _ _ _ (by omega)] at h; exact hsub x hx0 hx u hlt hcu h
  | true =>
    obtain ⟨c1, c2⟩ := hc k hk hi
    have hlow := Low.of_right hf k hk
    have hgl := Em.gate_low (Em.right_ord hf) hk
    have l1 := hlits _ hlow.1 (Or.inr c1)
    have l2 := hlits _ hlow.2 (Or.inr c2)
    have L1 := isL_lit (l := (fg[k]).1) l1
    have L2 := isL_lit (l := (fg[k]).2) l2
    have hg := and_good hr L1 L2 (by omega)
    have eg := gate_at hk
    refine ⟨(Gm.andS nt t (isL is (fg[k]).1) (isL is (fg[k]).2)).1.2, is ++ [(Gm.andS nt t (isL is (fg[k]).1) (isL is (fg[k]).2)).2.1], ?_, hg.right, ?_, ?_, by simp [hlen]; omega, fun u hu hcu => ?_, fun v w hv hw hvw u hu hcu => ?_, fun x hx0 hx u hu hcu h => ?_⟩
    · unfold stepC
      rw [hi, if_pos rfl, eg, if_pos hg.err]
    · obtain ⟨s, rfl⟩ := hpre
      obtain ⟨s', e⟩ := hg.pre
      exact ⟨s ++ s', by rw [e, List.append_assoc]⟩
    · have := hg.grow; omega
    · by_cases e : u = nf + 1 + k
      · rw [getD_last _ _ (by omega)]; exact hg.lit
      · rw [Em.getD_pre _ _ _ (by omega)]
        exact lit_more (hlits u (by omega) hcu) (pre_len hg.pre)
    · by_cases e : u = nf + 1 + k
      · rw [getD_last _ _ (by omega), Em.and_val (by omega) hr L1 L2 (by omega), isL_bit (lit_facts l1).1 (hval v w hv hw hvw _ hlow.1 (Or.inr c1)), isL_bit (lit_facts l2).1 (hval v w hv hw hvw _ hlow.2 (Or.inr c2))]
        have := Em.all_gate (n := nf) (ins := w) (Em.right_ord hf) (by omega) hk
        rw [hw, Nat.add_comm 1 nf] at this
        rw [e]; exact this.symm
      · rw [Em.getD_pre _ _ _ (by omega)]
        have hl := hlits u (by omega) hcu
        rw [Em.pre_bit (n := nt) (by omega) hg.pre hl]
        exact hval v w hv hw hvw u (by omega) hcu
    · by_cases e : u = nf + 1 + k
      · rw [getD_last _ _ (by omega)] at h
        subst e
        rcases and_cone hr L1 L2 (by omega) hx0 hx h with h | h
        · rw [isL_vr (lit_facts l1).1] at h
          obtain ⟨j, a, b, c, d⟩ := hsub x hx0 hx _ hlow.1 (Or.inr c1) h
          exact ⟨j, a, b, InC.left k hk c, d⟩
        · rw [isL_vr (lit_facts l2).1] at h
          obtain ⟨j, a, b, c, d⟩ := hsub x hx0 hx _ hlow.2 (Or.inr c2) h
          exact ⟨j, a, b, InC.right k hk c, d⟩
      · rw [Em.getD_pre _ _ _ (by omega)] at h
        have hl := lit_facts (hlits u (by omega) hcu)
        obtain ⟨s, e⟩ := hg.pre
        rw [e] at h
        exact hsub x hx0 hx u (by omega) hcu (h.grow (Low.of_right hr) (by unfold vr; omega))
theorem copy_inv (hc : ∀ k (hk : k < fg.length), inn.getD (nf + 1 + k) false = true → inn.getD (vr (fg[k]).1) false = true ∧ inn.getD (vr (fg[k]).2) false = true)
    (hr : Gm.rightB nt tg = true) (hf : Gm.rightB nf fg = true) (hb : by_.length = nf) (hl : ∀ j, j < nf → Gm.litB nt tg.length (by_.getD j 0) = true) (hroom : 1 + (nt : Int) + tg.length + fg.length < 2000) (k : Nat) (hk : k ≤ fg.length) :
    ∃ t is, copyAt nt tg nf fg inn by_ k = .ok (t, is) ∧ CInv nt nf tg fg inn by_ k t is := by
  induction k with
  | zero => exact ⟨tg, 0 :: by_, rfl, CInv.start hr hb hl⟩
  | succ k ih =>
    obtain ⟨t, is, e, h⟩ := ih (by omega)
    obtain ⟨t', is', e', h'⟩ := h.step hc hf hroom (by omega)
    exact ⟨t', is', by rw [copyAt, e]; exact e', h'⟩
end
/-- What is known of a copy where there is room. -/
structure CopyGood (nt nf : Nat) (tg fg : List (Int × Int)) (l : Int) (by_ : List Int) (r : Gm.Res) : Prop where
  err : r.2.2 = 0
  ins : r.1.1 = nt
  right : Gm.rightB nt r.1.2 = true
  lit : Gm.litB nt r.1.2.length r.2.1 = true
  pre : ∃ s, r.1.2 = tg ++ s
  grow : r.1.2.length ≤ tg.length + fg.length
  val : ∀ v w : List Bool, v.length = nt → w.length = nf → (∀ j, j < nf → w.getD j false = Em.bitB (Em.all v tg) (by_.getD j 0)) → Em.bitB (Em.all v r.1.2) r.2.1 = Em.bitB (Em.all w fg) l
  sub : ∀ x, 1 ≤ x → x ≤ nt → InC nt r.1.2 x (vr r.2.1) → ∃ j, 1 ≤ j ∧ j ≤ nf ∧ InC nf fg j (vr l) ∧ InC nt tg x (vr (by_.getD (j - 1) 0))
theorem copy_good {nt nf : Nat} {tg fg : List (Int × Int)} {l : Int} {by_ : List Int} (hr : Gm.rightB nt tg = true) (hf : Gm.rightB nf fg = true) (hll : Gm.litB nf fg.length l = true) (hb : by_.length = nf) (hl : ∀ j, j < nf → Gm.litB nt tg.length (by_.getD j 0) = true) (hroom : 1 + (nt : Int) + tg.length + fg.length < 2000) :
    CopyGood nt nf tg fg l by_ (copyS nt tg nf fg l by_) := by
  have hlf := lit_facts hll
  have hLf := Low.of_right hf
  have hvl : vr l < nf + 1 + fg.length := by unfold vr; omega
  obtain ⟨t, is, e, h⟩ := copy_inv (inn := below nf fg l) (fun k hk hm => marks_closed hLf _ (first_length l) hk hm) hr hf hb hl hroom fg.length (Nat.le_refl _)
  have hall : by_.all (Gm.litB nt tg.length) = true := by
    rw [List.all_eq_true]
    intro x hx
    obtain ⟨j, hj, rfl⟩ := List.getElem_of_mem hx
    have := hl j (by omega)
    rwa [List.getD_eq_getElem?_getD, List.getElem?_eq_getElem hj] at this
  have eS : copyS nt tg nf fg l by_ = (((nt : Int), t), isL is l, 0) := by
    unfold copyS
    rw [if_pos ⟨hr, hf, hll, by omega, hall⟩, Int.toNat_natCast, e]
  have top : vr l ≤ nf ∨ (below nf fg l).getD (vr l) false = true := Or.inr ((below_iff hLf hvl _).2 InC.self)
  have l0 := h.lits _ hvl top
  rw [eS]
  refine ⟨rfl, rfl, h.right, isL_lit l0, h.pre, h.grow, fun v w hv hw hvw => ?_, fun x hx0 hx hi => ?_⟩
  · exact isL_bit (lit_facts l0).1 (h.val v w hv hw hvw _ hvl top)
  · simp only at hi
    rw [isL_vr (lit_facts l0).1] at hi
    exact h.sub x hx0 hx _ hvl top hi
end Cm
end Go.Proofs.Ytjjdgiondpnpcaa
