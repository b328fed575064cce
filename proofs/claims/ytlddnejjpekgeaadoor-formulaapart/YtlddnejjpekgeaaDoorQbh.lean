/- Formulas: FormulaApart. -/
import Derived.Test.YtlddnejjpekgeaaDoorQbg
set_option linter.unusedSimpArgs false
set_option linter.unusedVariables false
namespace Go.Proofs.YtlddnejjpekgeaaDoor
open Go.RowKit

namespace Fm
theorem toks_ne (f : F) : f.okB = true → f.toks ≠ [] := by
  induction f using F.ind with
  | h k nm lit ks ih =>
    intro hok
    rw [F.toks]
    split
    · simp
    · rename_i h3
      rw [F.okB, Bool.and_eq_true] at hok
      by_cases hb : befT k = []
      · have hk : 5 ≤ k ∧ k ≤ 8 := by
          have hn := hok.1
          unfold nodeB at hn
          simp only [Bool.and_eq_true, decide_eq_true_eq] at hn
          have h1 := hn.1
          unfold kidsN at h1
          unfold befT at hb
          repeat' (split at hb)
          all_goals first | (cases hb; done) | skip
          repeat' (split at h1)
          all_goals first | omega | (cases h1; done)
        have hl : ks.length = 2 := by
          have hn := hok.1
          unfold nodeB at hn
          simp only [Bool.and_eq_true, decide_eq_true_eq] at hn
          have h1 := hn.1
          unfold kidsN at h1
          rw [if_neg (by omega), if_neg (by omega), if_pos (by omega)] at h1
          injection h1 with h1
          omega
        match ks, hl, ih, hok with
        | [a, b], _, ih, hok =>
          have ha := ih a (List.mem_cons_self ..) (okL_mem hok.2 a (List.mem_cons_self ..))
          intro he
          rw [hb, List.nil_append, toksL, if_pos rfl, List.nil_append] at he
          have h1 := (List.append_eq_nil_iff.1 (List.append_eq_nil_iff.1 he).1).1
          unfold parT at h1
          split at h1
          · cases h1
          · exact ha h1
      · intro he
        exact hb (List.append_eq_nil_iff.1 he).1
theorem lex_text {f : F} (h : validB f = true) (hl : f.text.length ≤ 20000) : ∃ ts, Tk.lexA f.text = (ts, 0, 0) ∧ 1 < ts.length := by
  have hok : f.okB = true := by
    unfold validB at h
    simp only [Bool.and_eq_true] at h
    exact h.1
  have hw := text_words hok
  rcases Tk.lexA_cases f.text hl with ⟨ts, h1, h2, _⟩ | ⟨a, _, h2, _⟩
  · refine ⟨ts, h1, ?_⟩
    rw [hw] at h2
    injection h2 with h2
    have h3 := congrArg List.length h2
    simp only [List.length_append, List.length_singleton, List.length_map] at h3
    have h4 : f.toks.length ≠ 0 := fun e => toks_ne f hok (List.length_eq_zero_iff.1 e)
    omega
  · rw [hw] at h2
    cases h2
theorem text_eq {f g : F} (hf : validB f = true) (hg : validB g = true) : (f.text == g.text) = f.eqB g := by
  rw [Bool.eq_iff_iff, beq_iff_eq, eqB_iff]
  exact ⟨fun h => text_inj hf hg h, fun h => by rw [h]⟩
end Fm
theorem valid_cnt2 {f : Fm.F} (h : Fm.validB f = true) : f.cnt ≤ 50000 := by
  unfold Fm.validB at h
  simp only [Bool.and_eq_true, decide_eq_true_eq] at h
  omega
set_option maxRecDepth 10000 in
set_option maxHeartbeats 8000000 in
theorem formulaApart_walk (A : Option Addr) (c : Nat) (zs : List Int) (A' : Option Addr) (c' : Nat) (zs' : List Int) (w : World) (hml : zs.length ≤ maxLen) (hU : Ub w w.heap.size A zs) (hml' : zs'.length ≤ maxLen) (hU' : Ub w w.heap.size A' zs') (hT : Tabs w) :
    Calls Tryd.prog 6 #[.slice A zs.length c, .slice A' zs'.length c'] w fun e w' => e = .returned (.bool true) ∧ Below w.heap.size w w' := by
  obtain ⟨hv, htl⟩ := made_valid zs
  obtain ⟨hv', htl'⟩ := made_valid zs'
  have H0 := Lib.hid (awake8_any w hT)
  go_enter Tryd.func6, Tryd.ntmps6
  go_wp2_with fail
  refine H0.out.mono ?_
  rintro e w1 ⟨rfl, hb1⟩
  have hU1 := (hU.below hb1 (Nat.le_refl _)).more hb1.size
  have hU1' := (hU'.below hb1 (Nat.le_refl _)).more hb1.size
  have hT1 := hT.below hb1
  have H1 := Lib.hid (made_reg A c zs w1 hml hU1)
  clear H0 hU hU' hU1 hT
  go_wp2_with fail
  refine H1.out.mono ?_
  rintro e w2 ⟨v, rfl, hF0, hb2⟩
  obtain ⟨k1, s1, l1, A1, n1, c1, rfl⟩ := hF0.four
  have hF2 : FV w2 (RB w2) (madeF zs) (.agg #[.int .i64 k1, .string s1, .int .i64 l1, .slice A1 n1 c1]) := hF0.more (fun b hb => ⟨hb.1.2, hb.2⟩)
  have hU2' := (hU1'.below hb2 (Nat.le_refl _)).more hb2.size
  have hT2 := hT1.below hb2
  have hlo2 := hb1.trans (hb2.mono hb1.size)
  have H2 := Lib.hid (made_reg A' c' zs' w2 hml' hU2')
  clear H1 hF0 hU1' hT1 hb1 hb2 hU2'
  go_wp2_with fail
  refine H2.out.mono ?_
  rintro e w3 ⟨v, rfl, hG0, hb3⟩
  obtain ⟨k2, s2, l2, A2, n2, c2, rfl⟩ := hG0.four
  have hG3 : FV w3 (RB w3) (madeF zs') (.agg #[.int .i64 k2, .string s2, .int .i64 l2, .slice A2 n2 c2]) := hG0.more (fun b hb => ⟨hb.1.2, hb.2⟩)
  have hF3 := hF2.onR hb3
  have hT3 := hT2.below hb3
  have hlo3 := hlo2.trans (hb3.mono hlo2.size)
  clear H2 hG0 hF2 hT2 hb3 hlo2
  have lx := lowAlloc w3 (Obj.cells #[.int .i64 k1, .string s1, .int .i64 l1, .slice A1 n1 c1] 24)
  have ly := lowAlloc (w3.alloc (Obj.cells #[.int .i64 k1, .string s1, .int .i64 l1, .slice A1 n1 c1] 24)) (Obj.cells #[.int .i64 k2, .string s2, .int .i64 l2, .slice A2 n2 c2] 24)
  have sx : (w3.alloc (Obj.cells #[.int .i64 k1, .string s1, .int .i64 l1, .slice A1 n1 c1] 24)).heap.size = w3.heap.size + 1 := by simp
  have bx0 := Blk.new w3 24 #[.int .i64 k1, .string s1, .int .i64 l1, .slice A1 n1 c1]
  have by0 := Blk.new (w3.alloc (Obj.cells #[.int .i64 k1, .string s1, .int .i64 l1, .slice A1 n1 c1] 24)) 24 #[.int .i64 k2, .string s2, .int .i64 l2, .slice A2 n2 c2]
  rw [sx] at by0
  have bx := bx0.below ly bx0.lt
  have hF4 := (hF3.onR lx).onR ly
  have hG4 := (hG3.onR lx).onR ly
  have hT4 := (hT3.below lx).below ly
  have hlo4 := (hlo3.trans (lx.mono hlo3.size)).trans (ly.mono (hlo3.trans (lx.mono hlo3.size)).size)
  clear hF3 hG3 hT3 hlo3 lx ly sx bx0
  go_upto_region 5 with fail
  generalize (w3.alloc (Obj.cells #[.int .i64 k1, .string s1, .int .i64 l1, .slice A1 n1 c1] 24)).alloc (Obj.cells #[.int .i64 k2, .string s2, .int .i64 l2, .slice A2 n2 c2] 24) = W4 at *
  have by1 := by0
  clear by0
  have HTE := Lib.hid (Fm.text_eq hv hv')
  have HLX := Lib.hid (Fm.lex_text hv (by omega))
  have x0 := bx.cell 0
  have x1 := bx.cell 1
  have x2 := bx.cell 2
  have x3 := bx.cell 3
  simp only [List.getElem?_toArray, List.getElem?_cons_zero, List.getElem?_cons_succ] at x0 x1 x2 x3
  have H3 := Lib.hid (print_good hv _ W4 hF4.lo hT4)
  go_wp2_with fail
  refine H3.out.mono ?_
  rintro e w5 ⟨rfl, hb5⟩
  have hF5 := hF4.onR hb5
  have hG5 := hG4.onR hb5
  have bx5 := bx.below hb5 bx.lt
  have by5 := by1.below hb5 by1.lt
  have hT5 := hT4.below hb5
  have hlo5 := hlo4.trans (hb5.mono hlo4.size)
  clear H3 hF4 hG4 bx by1 hT4 hb5 hlo4 x0 x1 x2 x3
  have y0 := by5.cell 0
  have y1 := by5.cell 1
  have y2 := by5.cell 2
  have y3 := by5.cell 3
  simp only [List.getElem?_toArray, List.getElem?_cons_zero, List.getElem?_cons_succ] at y0 y1 y2 y3
  have H4 := Lib.hid (print_good hv' _ w5 hG5.lo hT5)
  go_wp2_with fail
  refine H4.out.mono ?_
  rintro e w6 ⟨rfl, hb6⟩
  have hF6 := hF5.onR hb6
  have hG6 := hG5.onR hb6
  have bx6 := bx5.below hb6 bx5.lt
  have by6 := by5.below hb6 by5.lt
  have hT6 := hT5.below hb6
  have hlo6 := hlo5.trans (hb6.mono hlo5.size)
  clear H4 hF5 hG5 bx5 by5 hT5 hb6 hlo5 y0 y1 y2 y3
  obtain ⟨ts, hlx, htn⟩ := HLX.out
  have HL0 := lex_any (madeF zs).text w6 (by omega) hT6.sig hT6.lt
  unfold LexP at HL0
  rw [hlx] at HL0
  have HL : Hid (Calls Tryd.prog 22 #[.string (bsv (madeF zs).text)] w6 fun e w' => ∃ v, e = .returned (.tuple #[v, .int .i64 0, .int .i64 0]) ∧ w'.ownsRow w6.heap.size 53 3 v ts.length (flatT ts) ∧ Below w6.heap.size w6 w') := HL0
  clear HL0 hlx HLX
  have HSM := Lib.hid (fun w hf hg => same_r (f := madeF zs) (g := madeF zs') (valid_cnt2 hv) (v := .agg #[.int .i64 k1, .string s1, .int .i64 l1, .slice A1 n1 c1]) (u := .agg #[.int .i64 k2, .string s2, .int .i64 l2, .slice A2 n2 c2]) (w := w) hf hg)
  clear hv hv' htl htl'
  generalize (madeF zs).eqB (madeF zs') = b at *
  generalize madeF zs = f at *
  generalize madeF zs' = g at *
  generalize f.text = ft at *
  generalize g.text = gt at *
  go_wp2_with fail
  refine HL.out.mono ?_
  rintro e w7 ⟨v, rfl, hrow, hb7⟩
  obtain ⟨Al, cl, rfl, _⟩ := row_tr hrow
  have hgt : (1 : Int) < (ts.length : Int) := by omega
  have hF7 := hF6.onR hb7
  have hG7 := hG6.onR hb7
  have bx7 := bx6.below hb7 bx6.lt
  have by7 := by6.below hb7 by6.lt
  have hlo7 := hlo6.trans (hb7.mono hlo6.size)
  clear HL hrow hF6 hG6 bx6 by6 hT6 hb7 hlo6 htn
  have x0 := bx7.cell 0
  have x1 := bx7.cell 1
  have x2 := bx7.cell 2
  have x3 := bx7.cell 3
  simp only [List.getElem?_toArray, List.getElem?_cons_zero, List.getElem?_cons_succ] at x0 x1 x2 x3
  have y0 := by7.cell 0
  have y1 := by7.cell 1
  have y2 := by7.cell 2
  have y3 := by7.cell 3
  simp only [List.getElem?_toArray, List.getElem?_cons_zero, List.getElem?_cons_succ] at y0 y1 y2 y3
  have H5 := Lib.hid (HSM.out w7 hF7 hG7)
  have hst : ((bsv ft).toList == (bsv gt).toList) = b := (eq_bsv ft gt).trans HTE.out
  go_wp2_with fail
  refine H5.out.mono ?_
  rintro e w8 ⟨rfl, hb8⟩
  have hlo8 := hlo7.trans (hb8.mono hlo7.size)
  clear H5 hF7 hG7 bx7 by7 hb8 hlo7 x0 x1 x2 x3 y0 y1 y2 y3
  have hbb : (b == b) = true := by simp
  go_wp2
  go_ret
  exact ⟨rfl, hlo8⟩
end Go.Proofs.YtlddnejjpekgeaaDoor
