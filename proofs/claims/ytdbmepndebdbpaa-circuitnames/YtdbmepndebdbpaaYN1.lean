/- A name finds its signal: the mathematics of CircuitNames. -/
import Derived.Test.YtdbmepndebdbpaaQap
namespace Go.Proofs.Ytdbmepndebdbpaa
open Go.RowKit

theorem made_out {c : Cir} (h : MadeC c) (z : Int) (hz : z ∈ c.os) : 0 ≤ z := by
  have hr := h.right
  rw [Cm.right_split] at hr
  simp only [Bool.and_eq_true] at hr
  have ho := hr.2.2.2.2.2.1
  unfold Cm.litsB at ho
  simp only [Bool.and_eq_true, List.all_eq_true] at ho
  have := ho.1 z hz
  simp [Gm.litB] at this
  omega
theorem sig_q {c : Cir} (h : MadeC c) : Cm.sigS c 108 0 = 2 * (c.n + 0 + 1) := by
  have l1 := h.l1
  unfold Cm.sigS
  have : Cm.numS c 108 = c.ls.length := by simp [Cm.numS]
  rw [if_neg (by rw [this]; omega)]
  simp
theorem sig_out {c : Cir} (h : MadeC c) (hL : 0 < c.os.length) : 0 ≤ Cm.sigS c 111 ((c.os.length : Int) - 1) := by
  unfold Cm.sigS
  rw [if_neg (by simp [Cm.numS, Cm.lstS]; omega), if_neg (by omega), if_neg (by omega)]
  have e : ((c.os.length : Int) - 1).toNat = c.os.length - 1 := by omega
  have hlt : c.os.length - 1 < c.os.length := by omega
  rw [e]
  show 0 ≤ (c.os).getD (c.os.length - 1) 0
  rw [List.getD_eq_getElem?_getD, List.getElem?_eq_getElem hlt]
  exact made_out h _ (List.getElem_mem hlt)
/-- Each name's signal is one, and its text finds it. -/
theorem name_facts {c : Cir} (h : MadeC c) : ∀ x ∈ c.ns, 0 ≤ Cm.signalS c x.1 x.2.1 ∧ Cm.findS c x.2.2 = Cm.signalS c x.1 x.2.1 := by
  intro x hx
  have hn := h.n0
  unfold Cm.findS Cm.signalS
  rw [if_pos h.right, if_pos h.right]
  have hq := sig_q h
  have hq' : 0 ≤ Cm.sigS c qName.1 qName.2.1 := by
    show 0 ≤ Cm.sigS c 108 0
    rw [hq]
    omega
  rcases names_list h.names with e | e | ⟨hL, k, hk, e | e⟩
  · rw [e] at hx
    simp at hx
  · rw [e] at hx ⊢
    simp only [List.mem_singleton] at hx
    subst hx
    simp [hq']
  · have ho := sig_out h hL
    rw [e] at hx ⊢
    simp only [List.mem_singleton] at hx
    subst hx
    simp [ho]
  · have ho := sig_out h hL
    have hne := txt_q k hk
    rw [e] at hx ⊢
    simp only [List.mem_cons, List.not_mem_nil, or_false] at hx
    rcases hx with rfl | rfl
    · simp [hq']
    · simp [ho, Ne.symm hne]
theorem dig0 : Cm.digS ((⟨#[108, 48]⟩ : ByteArray).extract 1 (⟨#[108, 48]⟩ : ByteArray).size) = some 0 := by rfl
theorem dig1 : Cm.digS ((⟨#[108, 49]⟩ : ByteArray).extract 1 (⟨#[108, 49]⟩ : ByteArray).size) = some 1 := by rfl
theorem find_l0 {c : Cir} (h : MadeC c) : Cm.findS c ⟨#[108, 48]⟩ = 2 * (c.n + 1) := by
  have hf : c.ns.find? (fun x => decide (x.2.2 = (⟨#[108, 48]⟩ : ByteArray))) = none := by
    have h0 : decide (qName.2.2 = (⟨#[108, 48]⟩ : ByteArray)) = false := by decide
    have h3 : ∀ k, k < 3 → decide (txt3 k = (⟨#[108, 48]⟩ : ByteArray)) = false := fun k hk => by
      rcases three_cases hk with rfl | rfl | rfl <;> decide
    rcases names_list h.names with e | e | ⟨hL, k, hk, e | e⟩
    · rw [e]
      rfl
    · rw [e, List.find?_cons, h0]
      rfl
    · rw [e, List.find?_cons, h3 k hk]
      rfl
    · rw [e, List.find?_cons, h0]
      simp only
      rw [List.find?_cons, h3 k hk]
      rfl
  unfold Cm.findS
  rw [if_pos h.right, hf]
  show Cm.spelS c ⟨#[108, 48]⟩ = _
  unfold Cm.spelS
  rw [dif_pos (by decide), dig0]
  show Cm.sigS c 108 0 = _
  rw [sig_q h]
  omega
theorem find_l1 {c : Cir} (h : MadeC c) (hL2 : 2 ≤ c.ls.length) (hn : c.ns.any (fun x => decide (x.2.2 = (⟨#[108, 49]⟩ : ByteArray))) = false) : Cm.findS c ⟨#[108, 49]⟩ = 2 * (c.n + 2) := by
  have hf : c.ns.find? (fun x => decide (x.2.2 = (⟨#[108, 49]⟩ : ByteArray))) = none := by
    rw [List.find?_eq_none]
    intro x hx
    rw [List.any_eq_false] at hn
    exact hn x hx
  unfold Cm.findS
  rw [if_pos h.right, hf]
  show Cm.spelS c ⟨#[108, 49]⟩ = _
  unfold Cm.spelS
  rw [dif_pos (by decide), dig1]
  show Cm.sigS c 108 1 = _
  unfold Cm.sigS
  rw [if_neg (by simp [Cm.numS]; omega)]
  simp
  omega
end Go.Proofs.Ytdbmepndebdbpaa
