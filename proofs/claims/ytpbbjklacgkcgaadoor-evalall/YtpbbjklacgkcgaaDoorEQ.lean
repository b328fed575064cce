/- What And, Or and Ite make is so just if it should be; what stands in a list of all values. -/
import Derived.Test.YtpbbjklacgkcgaaDoorEO
namespace Go.Proofs.YtpbbjklacgkcgaaDoor
open Go.RowKit
namespace Em

/-- The values of all variables. -/
abbrev all (ins : List Bool) (gs : List (Int × Int)) : List Bool := vals gateB (false :: ins) gs
theorem all_length (ins : List Bool) (gs : List (Int × Int)) : (all ins gs).length = 1 + ins.length + gs.length := by
  rw [vals_length, List.length_cons]; omega
theorem bit_neg (v : List Bool) {l : Int} (h : 0 ≤ l) : bitB v (Gm.negB l) = !bitB v l := by
  unfold bitB negL Gm.negB
  by_cases hl : l % 2 = 0
  · rw [if_pos hl, show (l + 1) / 2 = l / 2 by omega]
    have h1 : (l + 1) % 2 = 1 := by omega
    have h2 : ¬ l % 2 = 1 := by omega
    rw [decide_eq_true h1, decide_eq_false h2]
    cases v.getD (l / 2).toNat false <;> rfl
  · rw [if_neg hl, show (l - 1) / 2 = l / 2 by omega]
    have h1 : ¬ (l - 1) % 2 = 1 := by omega
    have h2 : l % 2 = 1 := by omega
    rw [decide_eq_false h1, decide_eq_true h2]
    cases v.getD (l / 2).toNat false <;> rfl
theorem all_head (ins : List Bool) (gs : List (Int × Int)) : (all ins gs).getD 0 false = false := by
  rw [vals_getD _ _ _ (by simp)]; rfl
theorem bit_zero (ins : List Bool) (gs : List (Int × Int)) : bitB (all ins gs) 0 = false := by
  show ((all ins gs).getD 0 false != negL 0) = false
  rw [all_head]; rfl
theorem bit_one (ins : List Bool) (gs : List (Int × Int)) : bitB (all ins gs) 1 = true := by
  show ((all ins gs).getD 0 false != negL 1) = true
  rw [all_head]; rfl
/-- A literal keeps its meaning as the graph grows. -/
theorem bit_more (ins : List Bool) (gs t : List (Int × Int)) {l : Int} (h0 : 0 ≤ l) (h : l / 2 < 1 + ins.length + gs.length) : bitB (all ins (gs ++ t)) l = bitB (all ins gs) l := by
  unfold bitB
  rw [show all ins (gs ++ t) = vals gateB (all ins gs) t from vals_append _ _ _, vals_getD _ _ _ (by rw [all_length]; omega)]
theorem gate_bits (ins : List Bool) (gs t : List (Int × Int)) {g : Int × Int} (h1 : 0 ≤ g.1) (h2 : 0 ≤ g.2) (h3 : g.1 / 2 < 1 + ins.length + gs.length) (h4 : g.2 / 2 < 1 + ins.length + gs.length) : gateB (all ins gs) g = (bitB (all ins (gs ++ t)) g.1 && bitB (all ins (gs ++ t)) g.2) := by
  rw [bit_more ins gs t h1 h3, bit_more ins gs t h2 h4]; rfl
theorem even_bit (v : List Bool) (i : Nat) : bitB v (2 * (i : Int)) = v.getD i false := by
  unfold bitB negL
  rw [show 2 * (i : Int) / 2 = (i : Int) by omega, Int.toNat_natCast, decide_eq_false (by omega)]
  cases v.getD i false <;> rfl
theorem odd_bit (v : List Bool) (i : Nat) : bitB v (2 * (i : Int) + 1) = !v.getD i false := by
  unfold bitB negL
  rw [show (2 * (i : Int) + 1) / 2 = (i : Int) by omega, Int.toNat_natCast, decide_eq_true (by omega)]
  cases v.getD i false <;> rfl
/-- The value of gate i. -/
theorem all_gate {n : Int} {ins : List Bool} {gs : List (Int × Int)} (ho : Gm.ordB n 0 gs = true) (hn : (ins.length : Int) = n) {k : Nat} (hk : k < gs.length) : (all ins gs).getD (1 + ins.length + k) false = (bitB (all ins gs) (gs[k]).1 && bitB (all ins gs) (gs[k]).2) := by
  obtain ⟨h1, h2, h3⟩ := gate_low ho hk
  have e := vals_gate (f := gateB) (false :: ins) gs false k hk
  rw [List.length_cons, Nat.add_comm ins.length 1] at e
  rw [e]
  have hl : (gs.take k).length = k := by rw [List.length_take, Nat.min_eq_left (by omega)]
  have := gate_bits ins (gs.take k) (gs.drop k) (g := gs[k]) (by omega) (by omega) (by rw [hl]; omega) (by rw [hl]; omega)
  rw [List.take_append_drop] at this
  exact this
theorem all_input (ins : List Bool) (gs : List (Int × Int)) {i : Nat} (h0 : 0 < i) (h : i ≤ ins.length) : (all ins gs).getD i false = ins.getD (i - 1) false := by
  rw [vals_getD _ _ _ (by rw [List.length_cons]; omega)]
  cases i with
  | zero => omega
  | succ i => rfl

theorem mx (v : List Bool) (a b : Int) : (bitB v (max a b) && bitB v (min a b)) = (bitB v a && bitB v b) := by
  rcases Int.le_total a b with h | h
  · rw [Int.max_eq_right h, Int.min_eq_left h, Bool.and_comm]
  · rw [Int.max_eq_left h, Int.min_eq_right h]

/-- What And makes is so just if both are. -/
theorem and_val {n : Int} {gs : List (Int × Int)} {a b : Int} {ins : List Bool} (hn : (ins.length : Int) = n) (hr : Gm.rightB n gs = true) (ha : Gm.litB n gs.length a = true) (hb : Gm.litB n gs.length b = true) (hroom : 1 + n + gs.length < 2000) :
    bitB (all ins (Gm.andS n gs a b).1.2) (Gm.andS n gs a b).2.1 = (bitB (all ins gs) a && bitB (all ins gs) b) := by
  obtain ⟨ha0, ha1⟩ := lit_facts ha
  obtain ⟨hb0, hb1⟩ := lit_facts hb
  have hg := and_good hr ha hb hroom
  rcases andS_cases n gs a b with e | ⟨_, ⟨l, hs, e⟩ | ⟨hs, hi, e⟩ | ⟨hs, hi, h2, e⟩ | ⟨hs, hi, h2, e⟩⟩
  · have := hg.err; rw [e] at this; simp [Gm.bad] at this
  · rw [e]
    simp only
    unfold Gm.simpleS at hs
    split at hs
    · rename_i h
      injection hs with hs
      subst hs
      rw [bit_zero]
      rcases h with rfl | rfl | rfl
      · rw [bit_zero]; rfl
      · rw [bit_zero, Bool.and_false]
      · rw [bit_neg _ hb0]; cases bitB (all ins gs) b <;> rfl
    · split at hs
      · rename_i h
        injection hs with hs
        subst hs h
        rw [bit_one]; rfl
      · split at hs
        · rename_i h
          injection hs with hs
          subst hs
          rcases h with rfl | rfl
          · rw [bit_one, Bool.and_true]
          · rw [Bool.and_self]
        · cases hs
  · rw [e]
    simp only
    have hk := List.getElem_idxOf hi
    have hgate := all_gate (ins := ins) (right_ord hr) hn hi
    rw [hk] at hgate
    rw [← mx (all ins gs) a b, ← hgate, ← even_bit]
    congr 1
    omega
  · omega
  · rw [e]
    simp only
    have e1 : all ins (gs ++ [(max a b, min a b)]) = all ins gs ++ [gateB (all ins gs) (max a b, min a b)] := vals_snoc _ _ _
    have e2 : bitB (all ins (gs ++ [(max a b, min a b)])) (2 * ((1 + ins.length + gs.length : Nat) : Int)) = gateB (all ins gs) (max a b, min a b) := by
      rw [even_bit, e1, List.getD_eq_getElem?_getD, List.getElem?_append_right (by rw [all_length]; omega), all_length, Nat.sub_self]
      rfl
    rw [show 2 * (1 + n + (gs.length : Int)) = 2 * ((1 + ins.length + gs.length : Nat) : Int) by omega, e2, ← mx (all ins gs) a b]
    rfl
theorem or_val {n : Int} {gs : List (Int × Int)} {a b : Int} {ins : List Bool} (hn : (ins.length : Int) = n) (hr : Gm.rightB n gs = true) (ha : Gm.litB n gs.length a = true) (hb : Gm.litB n gs.length b = true) (hroom : 1 + n + gs.length < 2000) :
    bitB (all ins (Gm.orS n gs a b).1.2) (Gm.orS n gs a b).2.1 = (bitB (all ins gs) a || bitB (all ins gs) b) := by
  obtain ⟨_, e⟩ := or_good hr ha hb hroom
  rw [e]
  simp only
  have hg := and_good hr (neg_lit ha) (neg_lit hb) hroom
  rw [bit_neg _ (lit_facts hg.lit).1, and_val hn hr (neg_lit ha) (neg_lit hb) hroom, bit_neg _ (lit_facts ha).1, bit_neg _ (lit_facts hb).1]
  cases bitB (all ins gs) a <;> cases bitB (all ins gs) b <;> rfl
theorem pre_bit {n : Int} {gs gs' : List (Int × Int)} {l : Int} {ins : List Bool} (hn : (ins.length : Int) = n) (hp : ∃ t, gs' = gs ++ t) (hl : Gm.litB n gs.length l = true) : bitB (all ins gs') l = bitB (all ins gs) l := by
  obtain ⟨t, rfl⟩ := hp
  have := lit_facts hl
  exact bit_more ins gs t this.1 (by omega)
theorem ite_val {n : Int} {gs : List (Int × Int)} {c a b : Int} {ins : List Bool} (hn : (ins.length : Int) = n) (hr : Gm.rightB n gs = true) (hc : Gm.litB n gs.length c = true) (ha : Gm.litB n gs.length a = true) (hb : Gm.litB n gs.length b = true) (hroom : 1 + n + gs.length + 2 < 2000) :
    bitB (all ins (Gm.iteS n gs c a b).1.2) (Gm.iteS n gs c a b).2.1 = if bitB (all ins gs) c then bitB (all ins gs) a else bitB (all ins gs) b := by
  have hc0 := (lit_facts hc).1
  have h1 := and_good hr hc ha (by omega)
  have v1 := and_val hn hr hc ha (by omega)
  have e := iteS_ok (n := n) (gs := gs) (a := a) (b := b) (c := c) (by omega)
  generalize Gm.andS n gs c a = r1 at *
  obtain ⟨⟨n1, gs1⟩, l1, e1⟩ := r1
  obtain ⟨he, hi, hr1, hl1, hg1, hp1⟩ := h1
  simp only at he hi hr1 hl1 hg1 hp1 v1
  subst he hi
  have hle1 := pre_len hp1
  have h2 := and_good hr1 (neg_lit (lit_more hc hle1)) (lit_more hb hle1) (by omega)
  have v2 := and_val hn hr1 (neg_lit (lit_more hc hle1)) (lit_more hb hle1) (by omega)
  simp only [↓reduceIte] at e
  generalize Gm.andS n1 gs1 (Gm.negB c) b = r2 at *
  obtain ⟨⟨n2, gs2⟩, l2, e2⟩ := r2
  obtain ⟨he, hi, hr2, hl2, hg2, hp2⟩ := h2
  simp only at he hi hr2 hl2 hg2 hp2 v2
  subst he hi
  have hle2 := pre_len hp2
  simp only [↓reduceIte] at e
  have v3 := or_val hn hr2 (lit_more hl1 hle2) hl2 (by omega)
  rw [e, v3, pre_bit hn hp2 hl1, v1, v2, bit_neg _ hc0, pre_bit hn hp1 hc, pre_bit hn hp1 hb]
  cases bitB (all ins gs) c <;> cases bitB (all ins gs) a <;> cases bitB (all ins gs) b <;> rfl
end Em
end Go.Proofs.YtpbbjklacgkcgaaDoor
