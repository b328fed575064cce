/- What Made of layer 4 gives: a circuit that may be, in memory of its own. -/
import Derived.Test.YtpejilhdhkmcjaaGreatDoorJbAl
import Derived.Test.YtpejilhdhkmcjaaGreatDoorJbau
namespace Go.Proofs.YtpejilhdhkmcjaaGreatDoor
open Go.RowKit

/-- What is so of a circuit that Made gives. -/
structure MadeC (c : Cir) : Prop where
 right : Cm.rightC c = true
 n0 : 0 ≤ c.n
 n3 : c.n ≤ 3
 l1 : 1 ≤ c.ls.length
 l3 : c.ls.length ≤ 3
 g40 : c.gs.length ≤ 40
 o3 : c.os.length ≤ 3
 b3 : c.bs.length ≤ 3
 c3 : c.cs.length ≤ 3
 f3 : c.fs.length ≤ 3
 names : NamesOk c.os.length c.ns
/-- Its lists lie in memory of their own, one behind the other. -/
def MadeM (lo : Nat) (w : World) (c : Cir) : Prop :=
 ∃ B1 B2 B3 B4 B5 B6, lo + 4 ≤ B1 ∧ B1 ≤ B2 ∧ B2 ≤ B3 ∧ B3 ≤ B4 ∧ B4 ≤ B5 ∧ B5 ≤ B6 ∧ B6 ≤ w.heap.size ∧ Gr w B1 c.aG c.gs ∧ Off lo c.aG ∧
  RowIn w B1 B2 49 2 c.aL c.ls.length c.cL (flat c.ls) ∧ RowIn w B2 B3 3 1 c.aO c.os.length c.cO (iv c.os) ∧ RowIn w B3 B4 3 1 c.aB c.bs.length c.cB (iv c.bs) ∧
  RowIn w B4 B5 3 1 c.aC c.cs.length c.cC (iv c.cs) ∧ RowIn w B5 B6 3 1 c.aF c.fs.length c.cF (iv c.fs) ∧ w.ownsRow B6 69 3 (.slice c.aN c.ns.length c.cN) c.ns.length (flatN c.ns)
def MadeRet (w : World) (e : Ending) (w' : World) : Prop := ∃ c : Cir, e = .returned (.agg #[.int .i64 c.n, .slice c.aL c.ls.length c.cL, .slice c.aG c.gs.length c.cG, .slice c.aO c.os.length c.cO, .slice c.aB c.bs.length c.cB, .slice c.aC c.cs.length c.cC, .slice c.aF c.fs.length c.cF, .slice c.aN c.ns.length c.cN]) ∧ MadeC c ∧ CirW c ∧ MadeM w.heap.size w' c ∧ Below w.heap.size w w'

theorem MadeM.cir {lo : Nat} {w : World} {c : Cir} (h : MadeM lo w c) : CirM w w.heap.size c ∧ c.ns.length ≤ c.cN := by
 obtain ⟨B1, B2, B3, B4, B5, B6, h1, h2, h3, h4, h5, h6, h7, hG, _, hL, hO, hB, hC, hF, hN⟩ := h
 obtain ⟨A, q, e, gl⟩ := latch_gr hL.row
 injection e with e1 e2 e3
 subst e1
 obtain ⟨A, q, e, go⟩ := int_vs hO.row
 injection e with e1
 subst e1
 obtain ⟨A, q, e, gb⟩ := int_vs hB.row
 injection e with e1
 subst e1
 obtain ⟨A, q, e, gc⟩ := int_vs hC.row
 injection e with e1
 subst e1
 obtain ⟨A, q, e, gf⟩ := int_vs hF.row
 injection e with e1
 subst e1
 obtain ⟨A, q, e, gn, hc⟩ := name_ns hN
 injection e with e1 e2 e3
 subst e1 e3
 exact ⟨⟨gl, hG.more (by omega), go, gb, gc, gf, gn⟩, hc⟩

theorem names_list {L : Nat} {ns : List Nm} (h : NamesOk L ns) : ns = [] ∨ ns = [qName] ∨ (0 < L ∧ ∃ k, k < 3 ∧ (ns = [(111, (L : Int) - 1, txt3 k)] ∨ ns = [qName, (111, (L : Int) - 1, txt3 k)])) := by
 obtain ⟨ns0, h0, h1⟩ := h
 rcases h1 with rfl | ⟨hL, k, hk, rfl⟩
 ·
  rcases h0 with rfl | rfl
  ·
   exact Or.inl rfl
  exact Or.inr (Or.inl rfl)
 rcases h0 with rfl | rfl
 ·
  exact Or.inr (Or.inr ⟨hL, k, hk, Or.inl rfl⟩)
 exact Or.inr (Or.inr ⟨hL, k, hk, Or.inr rfl⟩)
theorem three_cases {k : Nat} (h : k < 3) : k = 0 ∨ k = 1 ∨ k = 2 := by omega
theorem txt_word (k : Nat) (h : k < 3) : Cm.wordB (txt3 k) = true := by
 rcases three_cases h with rfl | rfl | rfl <;> decide
theorem txt_q (k : Nat) (h : k < 3) : txt3 k ≠ qName.2.2 := by
 rcases three_cases h with rfl | rfl | rfl <;> decide
theorem q_word : Cm.wordB qName.2.2 = true := by decide
theorem named_ok {c : Cir} (hl : 1 ≤ c.ls.length) (h : NamesOk c.os.length c.ns) : Cm.namedB c = true := by
 have hq : Cm.numS c 108 = c.ls.length := by simp [Cm.numS]
 have ho : Cm.numS c 111 = c.os.length := by simp [Cm.numS, Cm.lstS]
 unfold Cm.namedB
 rcases names_list h with e | e | ⟨hL, k, hk, e | e⟩
 ·
  rw [e]
  simp [Cm.ordS_nil, Cm.texts]
 ·
  rw [e]
  have hw := q_word
  simp only [qName] at hw
  simp [qName, Cm.ordS_nil, Cm.ordS_cons, Cm.kindAt, Cm.texts, hq, hw]
  omega
 ·
  rw [e]
  have hw := txt_word k hk
  simp [Cm.ordS_nil, Cm.ordS_cons, Cm.kindAt, Cm.texts, ho, hw]
  omega
 rw [e]
 have hw := txt_word k hk
 have hw2 := q_word
 have hne := txt_q k hk
 simp only [qName] at hw2 hne
 simp [qName, Cm.ordS_nil, Cm.ordS_cons, Cm.kindAt, Cm.texts, ho, hq, hw, hw2, Ne.symm hne]
 omega
theorem right_mk {c : Cir} {N : Nat} (hN : (N : Int) = c.n + c.ls.length) (n0 : 0 ≤ c.n) (n3 : c.n ≤ 3) (l1 : 1 ≤ c.ls.length) (l3 : c.ls.length ≤ 3) (o3 : c.os.length ≤ 3) (b3 : c.bs.length ≤ 3) (c3 : c.cs.length ≤ 3) (f3 : c.fs.length ≤ 3)
  (hr : Gm.rightB (N : Int) c.gs = true) (hl : ∀ q ∈ c.ls, Cm.latB (N : Int) c.gs.length q = true) (ho : ∀ z ∈ c.os, Gm.litB (N : Int) c.gs.length z = true) (hb : ∀ z ∈ c.bs, Gm.litB (N : Int) c.gs.length z = true) (hc : ∀ z ∈ c.cs, Gm.litB (N : Int) c.gs.length z = true)
  (hf : ∀ z ∈ c.fs, Gm.litB (N : Int) c.gs.length z = true) (hn : NamesOk c.os.length c.ns) : Cm.rightC c = true := by
 rw [Cm.right_split, Cm.names_same, named_ok l1 hn]
 unfold Cm.litsB
 rw [← hN, hr, List.all_eq_true.2 hl, List.all_eq_true.2 ho, List.all_eq_true.2 hb, List.all_eq_true.2 hc, List.all_eq_true.2 hf]
 simp
 omega
theorem lit_range {N : Int} {L : Nat} {z : Int} (h : Gm.litB N L z = true) (hN : N ≤ 6) (hL : L ≤ 40) : I64 z := by
 simp [Gm.litB] at h
 unfold I64
 omega
theorem made_wf {c : Cir} {N : Nat} (h : MadeC c) (hg : Wf c.gs) (hN : (N : Int) = c.n + c.ls.length) (hl : ∀ q ∈ c.ls, Cm.latB (N : Int) c.gs.length q = true) (ho : ∀ z ∈ c.os, Gm.litB (N : Int) c.gs.length z = true) (hb : ∀ z ∈ c.bs, Gm.litB (N : Int) c.gs.length z = true) (hc : ∀ z ∈ c.cs, Gm.litB (N : Int) c.gs.length z = true)
  (hf : ∀ z ∈ c.fs, Gm.litB (N : Int) c.gs.length z = true) : CirW c := by
 have n0 := h.n0
 have n3 := h.n3
 have l3 := h.l3
 have g40 := h.g40
 have o3 := h.o3
 have b3 := h.b3
 have c3 := h.c3
 have f3 := h.f3
 have hN6 : (N : Int) ≤ 6 := by omega
 have hns : c.ns.length ≤ 2 := by
  rcases names_list h.names with e | e | ⟨_, k, _, e | e⟩ <;> rw [e] <;> simp
 refine ⟨by unfold I64; omega, ?_, hg, fun z hz => lit_range (ho z hz) hN6 g40, fun z hz => lit_range (hb z hz) hN6 g40, fun z hz => lit_range (hc z hz) hN6 g40, fun z hz => lit_range (hf z hz) hN6 g40, ?_, by omega, by omega, by unfold maxLen; omega, by unfold maxLen; omega, by unfold maxLen; omega, by unfold maxLen; omega, by omega⟩
 ·
  intro q hq
  have := hl q hq
  simp only [Cm.latB, Bool.and_eq_true, decide_eq_true_eq] at this
  have h1 := lit_range this.1.1 hN6 g40
  unfold I64 at h1
  omega
 intro x hx
 have hsz : ∀ k, k < 3 → (txt3 k).size ≤ maxLen := fun k hk => by rcases three_cases hk with rfl | rfl | rfl <;> (unfold maxLen; decide)
 have hq : qName.2.2.size ≤ maxLen := by unfold maxLen; decide
 have h1 : (0 ≤ qName.1 ∧ qName.1 ≤ 255) ∧ I64 qName.2.1 := by unfold I64 qName; simp
 rcases names_list h.names with e | e | ⟨hL, k, hk, e | e⟩ <;> rw [e] at hx <;> simp at hx
 ·
  subst hx
  exact ⟨h1.1, h1.2, hq⟩
 ·
  subst hx
  exact ⟨by simp, by unfold I64; simp; omega, hsz k hk⟩
 rcases hx with rfl | rfl
 ·
  exact ⟨h1.1, h1.2, hq⟩
 exact ⟨by simp, by unfold I64; simp; omega, hsz k hk⟩
/-- The result's box is written. -/
theorem ret8 {w W : World} {hL hR hA hC : Nat} {A0 : Option Addr} {c0 : Nat} {zs : List Int} {a B : Nat} {x0 x1 x2 x3 x4 x5 x6 x7 : Value} (h : MB w W hL hR hA hC A0 c0 zs a x0 x1 x2 x3 x4 x5 x6 x7) (hB : B ≤ W.heap.size) {W' : World}
  (hW' : W' = (((((((W.setCell ⟨hR, 0, none⟩ x0).setCell ⟨hR, 1, none⟩ x1).setCell ⟨hR, 2, none⟩ x2).setCell ⟨hR, 3, none⟩ x3).setCell ⟨hR, 4, none⟩ x4).setCell ⟨hR, 5, none⟩ x5).setCell ⟨hR, 6, none⟩ x6).setCell ⟨hR, 7, none⟩ x7) :
  Out B w.heap.size W W' ∧ Blk W' hR 29 #[x0, x1, x2, x3, x4, x5, x6, x7] ∧ Below w.heap.size w W' ∧ (∀ {e : TypeId} {size : Nat} {v : Value} {n : Nat} {xs : List Value}, w.heap.size + 4 ≤ B → W.ownsRow B e size v n xs → W'.ownsRow B e size v n xs) := by
 have e2 := h.eR
 have p : ∀ i : Nat, w.heap.size ≤ (⟨hR, i, none⟩ : Addr).block ∧ (⟨hR, i, none⟩ : Addr).block < w.heap.size + 4 := fun i => by simp; omega
 subst hW'
 refine ⟨?_, ?_, ?_, ?_⟩
 ·
  exact ((((((((Out.self hB).set (p 0).1 (p 0).2 x0).set (p 1).1 (p 1).2 x1).set (p 2).1 (p 2).2 x2).set (p 3).1 (p 3).2 x3).set (p 4).1 (p 4).2 x4).set (p 5).1 (p 5).2 x5).set (p 6).1 (p 6).2 x6).set (p 7).1 (p 7).2 x7
 ·
  have := (((((((h.rb.put 0 x0).put 1 x1).put 2 x2).put 3 x3).put 4 x4).put 5 x5).put 6 x6).put 7 x7
  simpa using this
 ·
  exact (((((((h.low.setCell (p 0).1 x0).setCell (p 1).1 x1).setCell (p 2).1 x2).setCell (p 3).1 x3).setCell (p 4).1 x4).setCell (p 5).1 x5).setCell (p 6).1 x6).setCell (p 7).1 x7
 intro e size v n xs hb hr
 have q : ∀ i : Nat, (⟨hR, i, none⟩ : Addr).block < B := fun i => by simp; omega
 exact row_set (row_set (row_set (row_set (row_set (row_set (row_set (row_set hr (q 0) x0) (q 1) x1) (q 2) x2) (q 3) x3) (q 4) x4) (q 5) x5) (q 6) x6) (q 7) x7
end Go.Proofs.YtpejilhdhkmcjaaGreatDoor
