/- The reader of formulas: Parse. -/
import Derived.Test.YtlddnejjpekgeaaDoorQas
set_option linter.unusedSimpArgs false
set_option linter.unusedVariables false
namespace Go.Proofs.YtlddnejjpekgeaaDoor
open Go.RowKit

theorem scan_small (s : Tk.Bs) : ∀ (n a : Nat), ∀ t ∈ (Tk.scan s n a).1, t.t.length ≤ s.length
  | 0, a => by intro t ht; cases ht
  | n + 1, a => by
    intro t ht
    rw [Tk.scan] at ht
    split at ht
    · simp only [List.mem_singleton] at ht
      subst ht
      exact Nat.zero_le _
    · split at ht
      · cases ht
      · rcases List.mem_cons.1 ht with rfl | ht
        · show (List.take _ _).length ≤ _
          rw [List.length_take, List.length_drop]
          omega
        · exact scan_small s n _ t ht
theorem lex_ways (s : Tk.Bs) : Tk.lexA s = ([], 2, 0) ∨ (∃ a, Tk.lexA s = ([], 40, a)) ∨ ∃ ts, Tk.lexA s = (ts, 0, 0) ∧ ShapeL ts ∧ ts.length ≤ 20001 := by
  by_cases hl : 20000 < s.length
  · exact Or.inl (by unfold Tk.lexA; rw [if_pos hl])
  · cases he : (Tk.lexS s).2 with
    | some a => exact Or.inr (Or.inl ⟨a, by unfold Tk.lexA; rw [if_neg hl, he]⟩)
    | none =>
      have e : Tk.lexA s = ((Tk.lexS s).1, 0, 0) := by unfold Tk.lexA; rw [if_neg hl, he]
      obtain ⟨h1, h2⟩ := Fm.lex_shape e
      exact Or.inr (Or.inr ⟨_, e, ⟨h1, fun t ht => by have := scan_small s _ _ t ht; omega⟩, h2⟩)
theorem row_TL {W : World} {base : Nat} {v : Value} {ts : List Tk.Tok} (h : W.ownsRow base 53 3 v ts.length (flatT ts)) (hne : 0 < ts.length) : ∃ b c, v = .slice (some ⟨b, 0, none⟩) ts.length c ∧ ts.length ≤ c ∧ TL W W.heap.size b 0 ts := by
  have h' := h
  obtain ⟨_, h2⟩ := h
  rcases h2 with ⟨rfl, h0⟩ | ⟨g, cap, cur, rfl, _, hh, hn, _⟩
  · omega
  · obtain ⟨A, c, e, ht⟩ := row_tr h'
    cases e
    refine ⟨g, cap, rfl, hn, ?_⟩
    obtain ⟨b, off, e, hl, _⟩ := ht 0 hne
    cases e
    exact ⟨hl, hl, fun k hk => by
      obtain ⟨b, off, e, _, h0, h1, h2⟩ := ht k hk
      cases e
      exact ⟨h0, h1, h2⟩⟩

set_option maxRecDepth 10000 in
set_option maxHeartbeats 4000000 in
theorem parse_e2 (s : Tk.Bs) (w : World) (hs : s.length ≤ 9223372036854775807) (hg : Sig w) (h0 : 0 < w.heap.size) (hA : Tk.lexA s = ([], 2, 0)) :
    Calls Tryd.prog 28 #[.string (bsv s)] w (ReadQ w (Fm.parseS s)) := by
  have HPE : Hid (Fm.parseS s = .error (2, 0)) := by
    unfold Hid Fm.parseS
    rw [hA]
    rfl
  have hgA : Sig (w.alloc (Obj.cells #[.int .i64 0, .string ⟨#[]⟩, .int .i64 0, .slice none 0 0] 24)) := hg.below (lowAlloc w (Obj.cells #[.int .i64 0, .string ⟨#[]⟩, .int .i64 0, .slice none 0 0] 24)) h0
  have HSG := Lib.hid hgA
  clear hgA hg
  have lo := lowAlloc w (Obj.cells #[.int .i64 0, .string ⟨#[]⟩, .int .i64 0, .slice none 0 0] 24)
  have hb0 := Blk.new w 24 #[.int .i64 0, .string ⟨#[]⟩, .int .i64 0, .slice none 0 0]
  go_enter Tryd.func28, Tryd.ntmps28
  go_upto_region 1 with fail
  have hgW : Sig (w.alloc (Obj.cells #[.int .i64 0, .string ⟨#[]⟩, .int .i64 0, .slice none 0 0] 24)) := HSG.out
  have h0W : 0 < (w.alloc (Obj.cells #[.int .i64 0, .string ⟨#[]⟩, .int .i64 0, .slice none 0 0] 24)).heap.size := Nat.lt_of_lt_of_le h0 lo.size
  generalize w.alloc (Obj.cells #[.int .i64 0, .string ⟨#[]⟩, .int .i64 0, .slice none 0 0] 24) = W at *
  have hWw : w.heap.size < W.heap.size := hb0.lt
  have HLX := Lib.hid (lex_any s W hs hgW h0W)
  clear hgW h0W HSG
  go_wp2_with fail
  refine HLX.out.mono ?_
  intro e w1 hQ
  unfold LexP at hQ
  rw [hA] at hQ
  obtain ⟨v, rfl, hrow, hb1⟩ := hQ
  have hbb := hb0.below hb1 hb0.lt
  have hlo1 := lo.trans (hb1.mono (Nat.le_of_lt hWw))
  clear HLX lo hb0
  have hb := hbb
  have hlo := hlo1
  clear hbb hlo1 hrow hb1
  have hC9 : Blk (((((w1).setCell ⟨w.heap.size, 0, none⟩ (.int .i64 0)).setCell ⟨w.heap.size, 1, none⟩ (.string ⟨#[]⟩)).setCell ⟨w.heap.size, 2, none⟩ (.int .i64 0)).setCell ⟨w.heap.size, 3, none⟩ (.slice none 0 0)) w.heap.size 24 #[.int .i64 0, .string ⟨#[]⟩, .int .i64 0, .slice none 0 0] := by simpa using (((hb.put 0 (.int .i64 0)).put 1 (.string ⟨#[]⟩)).put 2 (.int .i64 0)).put 3 (.slice none 0 0)
  have hK9 := ((((hlo.setCell (p := ⟨w.heap.size, 0, none⟩) (Nat.le_refl _) (.int .i64 0)).setCell (p := ⟨w.heap.size, 1, none⟩) (Nat.le_refl _) (.string ⟨#[]⟩)).setCell (p := ⟨w.heap.size, 2, none⟩) (Nat.le_refl _) (.int .i64 0)).setCell (p := ⟨w.heap.size, 3, none⟩) (Nat.le_refl _) (.slice none 0 0))
  have HC9 := Lib.hid hC9
  have HK9 := Lib.hid hK9
  have r0 := hb.cell 0
  have r1 := hb.cell 1
  have r2 := hb.cell 2
  have r3 := hb.cell 3
  simp only [List.getElem?_toArray, List.getElem?_cons_zero, List.getElem?_cons_succ] at r0 r1 r2 r3
  have q0 := hb.frozen 0
  have q1 := hb.frozen 1
  have q2 := hb.frozen 2
  have q3 := hb.frozen 3
  clear hC9 hK9 hb hlo
  go_wp2
  clear r0 r1 r2 r3 q0 q1 q2 q3
  generalize ((((w1).setCell ⟨w.heap.size, 0, none⟩ (.int .i64 0)).setCell ⟨w.heap.size, 1, none⟩ (.string ⟨#[]⟩)).setCell ⟨w.heap.size, 2, none⟩ (.int .i64 0)).setCell ⟨w.heap.size, 3, none⟩ (.slice none 0 0) = V9 at *
  have t0 := HC9.out.cell 0
  have t1 := HC9.out.cell 1
  have t2 := HC9.out.cell 2
  have t3 := HC9.out.cell 3
  simp only [List.getElem?_toArray, List.getElem?_cons_zero, List.getElem?_cons_succ] at t0 t1 t2 t3
  refine bodyPost_ret (v := .tuple #[.agg #[.int .i64 0, .string ⟨#[]⟩, .int .i64 0, .slice none 0 0], .int .i64 (2 : Int), .int .i64 ((0 : Nat) : Int)]) (by simp [results, Tryd.results28, go_sem, t0, t1, t2, t3]) rfl ?_
  rw [HPE.out]
  exact ⟨rfl, HK9.out⟩

set_option maxRecDepth 10000 in
set_option maxHeartbeats 4000000 in
theorem parse_e40 (s : Tk.Bs) (a : Nat) (w : World) (hs : s.length ≤ 9223372036854775807) (hg : Sig w) (h0 : 0 < w.heap.size) (hA : Tk.lexA s = ([], 40, a)) :
    Calls Tryd.prog 28 #[.string (bsv s)] w (ReadQ w (Fm.parseS s)) := by
  have HPE : Hid (Fm.parseS s = .error (40, a)) := by
    unfold Hid Fm.parseS
    rw [hA]
    rfl
  have hgA : Sig (w.alloc (Obj.cells #[.int .i64 0, .string ⟨#[]⟩, .int .i64 0, .slice none 0 0] 24)) := hg.below (lowAlloc w (Obj.cells #[.int .i64 0, .string ⟨#[]⟩, .int .i64 0, .slice none 0 0] 24)) h0
  have HSG := Lib.hid hgA
  clear hgA hg
  have lo := lowAlloc w (Obj.cells #[.int .i64 0, .string ⟨#[]⟩, .int .i64 0, .slice none 0 0] 24)
  have hb0 := Blk.new w 24 #[.int .i64 0, .string ⟨#[]⟩, .int .i64 0, .slice none 0 0]
  go_enter Tryd.func28, Tryd.ntmps28
  go_upto_region 1 with fail
  have hgW : Sig (w.alloc (Obj.cells #[.int .i64 0, .string ⟨#[]⟩, .int .i64 0, .slice none 0 0] 24)) := HSG.out
  have h0W : 0 < (w.alloc (Obj.cells #[.int .i64 0, .string ⟨#[]⟩, .int .i64 0, .slice none 0 0] 24)).heap.size := Nat.lt_of_lt_of_le h0 lo.size
  generalize w.alloc (Obj.cells #[.int .i64 0, .string ⟨#[]⟩, .int .i64 0, .slice none 0 0] 24) = W at *
  have hWw : w.heap.size < W.heap.size := hb0.lt
  have HLX := Lib.hid (lex_any s W hs hgW h0W)
  clear hgW h0W HSG
  go_wp2_with fail
  refine HLX.out.mono ?_
  intro e w1 hQ
  unfold LexP at hQ
  rw [hA] at hQ
  obtain ⟨v, rfl, hrow, hb1⟩ := hQ
  have hbb := hb0.below hb1 hb0.lt
  have hlo1 := lo.trans (hb1.mono (Nat.le_of_lt hWw))
  clear HLX lo hb0
  have hb := hbb
  have hlo := hlo1
  clear hbb hlo1 hrow hb1
  have hC9 : Blk (((((w1).setCell ⟨w.heap.size, 0, none⟩ (.int .i64 0)).setCell ⟨w.heap.size, 1, none⟩ (.string ⟨#[]⟩)).setCell ⟨w.heap.size, 2, none⟩ (.int .i64 0)).setCell ⟨w.heap.size, 3, none⟩ (.slice none 0 0)) w.heap.size 24 #[.int .i64 0, .string ⟨#[]⟩, .int .i64 0, .slice none 0 0] := by simpa using (((hb.put 0 (.int .i64 0)).put 1 (.string ⟨#[]⟩)).put 2 (.int .i64 0)).put 3 (.slice none 0 0)
  have hK9 := ((((hlo.setCell (p := ⟨w.heap.size, 0, none⟩) (Nat.le_refl _) (.int .i64 0)).setCell (p := ⟨w.heap.size, 1, none⟩) (Nat.le_refl _) (.string ⟨#[]⟩)).setCell (p := ⟨w.heap.size, 2, none⟩) (Nat.le_refl _) (.int .i64 0)).setCell (p := ⟨w.heap.size, 3, none⟩) (Nat.le_refl _) (.slice none 0 0))
  have HC9 := Lib.hid hC9
  have HK9 := Lib.hid hK9
  have r0 := hb.cell 0
  have r1 := hb.cell 1
  have r2 := hb.cell 2
  have r3 := hb.cell 3
  simp only [List.getElem?_toArray, List.getElem?_cons_zero, List.getElem?_cons_succ] at r0 r1 r2 r3
  have q0 := hb.frozen 0
  have q1 := hb.frozen 1
  have q2 := hb.frozen 2
  have q3 := hb.frozen 3
  clear hC9 hK9 hb hlo
  go_wp2
  clear r0 r1 r2 r3 q0 q1 q2 q3
  generalize ((((w1).setCell ⟨w.heap.size, 0, none⟩ (.int .i64 0)).setCell ⟨w.heap.size, 1, none⟩ (.string ⟨#[]⟩)).setCell ⟨w.heap.size, 2, none⟩ (.int .i64 0)).setCell ⟨w.heap.size, 3, none⟩ (.slice none 0 0) = V9 at *
  have t0 := HC9.out.cell 0
  have t1 := HC9.out.cell 1
  have t2 := HC9.out.cell 2
  have t3 := HC9.out.cell 3
  simp only [List.getElem?_toArray, List.getElem?_cons_zero, List.getElem?_cons_succ] at t0 t1 t2 t3
  refine bodyPost_ret (v := .tuple #[.agg #[.int .i64 0, .string ⟨#[]⟩, .int .i64 0, .slice none 0 0], .int .i64 (40 : Int), .int .i64 ((a : Nat) : Int)]) (by simp [results, Tryd.results28, go_sem, t0, t1, t2, t3]) rfl ?_
  rw [HPE.out]
  exact ⟨rfl, HK9.out⟩

set_option maxRecDepth 10000 in
set_option maxHeartbeats 4000000 in
theorem parse_go (HRT0 : RightC) (HAT0 : ∀ R, AtomC R) (s : Tk.Bs) (ts : List Tk.Tok) (w : World) (hs : s.length ≤ 9223372036854775807) (hg : Sig w) (h0 : 0 < w.heap.size) (hA : Tk.lexA s = (ts, 0, 0)) (hS : ShapeL ts) (hl : ts.length ≤ 20001) :
    Calls Tryd.prog 28 #[.string (bsv s)] w (ReadQ w (Fm.parseS s)) := by
  have HRT := Lib.hid HRT0
  have HAT := Lib.hid HAT0
  clear HRT0 HAT0
  have HPE : Hid (Fm.parseS s = Fm.parseT ts) := by
    unfold Hid Fm.parseS
    rw [hA]
    rfl
  have hgA : Sig (w.alloc (Obj.cells #[.int .i64 0, .string ⟨#[]⟩, .int .i64 0, .slice none 0 0] 24)) := hg.below (lowAlloc w (Obj.cells #[.int .i64 0, .string ⟨#[]⟩, .int .i64 0, .slice none 0 0] 24)) h0
  have HSG := Lib.hid hgA
  clear hgA hg
  have lo := lowAlloc w (Obj.cells #[.int .i64 0, .string ⟨#[]⟩, .int .i64 0, .slice none 0 0] 24)
  have hb0 := Blk.new w 24 #[.int .i64 0, .string ⟨#[]⟩, .int .i64 0, .slice none 0 0]
  go_enter Tryd.func28, Tryd.ntmps28
  go_upto_region 1 with fail
  have hgW : Sig (w.alloc (Obj.cells #[.int .i64 0, .string ⟨#[]⟩, .int .i64 0, .slice none 0 0] 24)) := HSG.out
  have h0W : 0 < (w.alloc (Obj.cells #[.int .i64 0, .string ⟨#[]⟩, .int .i64 0, .slice none 0 0] 24)).heap.size := Nat.lt_of_lt_of_le h0 lo.size
  generalize w.alloc (Obj.cells #[.int .i64 0, .string ⟨#[]⟩, .int .i64 0, .slice none 0 0] 24) = W at *
  have hWw : w.heap.size < W.heap.size := hb0.lt
  have HLX := Lib.hid (lex_any s W hs hgW h0W)
  clear hgW h0W HSG
  go_wp2_with fail
  refine HLX.out.mono ?_
  intro e w1 hQ
  unfold LexP at hQ
  rw [hA] at hQ
  obtain ⟨v, rfl, hrow, hb1⟩ := hQ
  have hbb := hb0.below hb1 hb0.lt
  have hlo1 := lo.trans (hb1.mono (Nat.le_of_lt hWw))
  clear HLX lo hb0
  have hne : 0 < ts.length := by
    obtain ⟨t, r, rfl⟩ := shape_ne hS
    simp
  obtain ⟨b, c, rfl, hc, hTL⟩ := row_TL hrow hne
  have HRD := Lib.hid (read_any HRT.out HAT.out b 0 c ts w1 hTL hS hl hc)
  clear hrow hTL hS hl hc hne HRT HAT
  have hW1 : W.heap.size ≤ w1.heap.size := hb1.size
  clear hb1
  go_wp2_with fail
  refine HRD.out.mono ?_
  intro e w2 hQ
  clear HRD
  rcases hq : Fm.parseT ts with ⟨ka, aa⟩ | f
  · rw [hq] at hQ
    obtain ⟨rfl, hb2⟩ := hQ
    have hb := hbb.below hb2 hbb.lt
    have hlo := hlo1.trans (hb2.mono (by omega))
    clear hbb hlo1 hb2
    have hC9 : Blk (((((w2).setCell ⟨w.heap.size, 0, none⟩ (.int .i64 0)).setCell ⟨w.heap.size, 1, none⟩ (.string ⟨#[]⟩)).setCell ⟨w.heap.size, 2, none⟩ (.int .i64 0)).setCell ⟨w.heap.size, 3, none⟩ (.slice none 0 0)) w.heap.size 24 #[.int .i64 0, .string ⟨#[]⟩, .int .i64 0, .slice none 0 0] := by simpa using (((hb.put 0 (.int .i64 0)).put 1 (.string ⟨#[]⟩)).put 2 (.int .i64 0)).put 3 (.slice none 0 0)
    have hK9 := ((((hlo.setCell (p := ⟨w.heap.size, 0, none⟩) (Nat.le_refl _) (.int .i64 0)).setCell (p := ⟨w.heap.size, 1, none⟩) (Nat.le_refl _) (.string ⟨#[]⟩)).setCell (p := ⟨w.heap.size, 2, none⟩) (Nat.le_refl _) (.int .i64 0)).setCell (p := ⟨w.heap.size, 3, none⟩) (Nat.le_refl _) (.slice none 0 0))
    have HC9 := Lib.hid hC9
    have HK9 := Lib.hid hK9
    have r0 := hb.cell 0
    have r1 := hb.cell 1
    have r2 := hb.cell 2
    have r3 := hb.cell 3
    simp only [List.getElem?_toArray, List.getElem?_cons_zero, List.getElem?_cons_succ] at r0 r1 r2 r3
    have q0 := hb.frozen 0
    have q1 := hb.frozen 1
    have q2 := hb.frozen 2
    have q3 := hb.frozen 3
    clear hC9 hK9 hb hlo
    go_wp2
    clear r0 r1 r2 r3 q0 q1 q2 q3
    generalize ((((w2).setCell ⟨w.heap.size, 0, none⟩ (.int .i64 0)).setCell ⟨w.heap.size, 1, none⟩ (.string ⟨#[]⟩)).setCell ⟨w.heap.size, 2, none⟩ (.int .i64 0)).setCell ⟨w.heap.size, 3, none⟩ (.slice none 0 0) = V9 at *
    have t0 := HC9.out.cell 0
    have t1 := HC9.out.cell 1
    have t2 := HC9.out.cell 2
    have t3 := HC9.out.cell 3
    simp only [List.getElem?_toArray, List.getElem?_cons_zero, List.getElem?_cons_succ] at t0 t1 t2 t3
    refine bodyPost_ret (v := .tuple #[.agg #[.int .i64 0, .string ⟨#[]⟩, .int .i64 0, .slice none 0 0], .int .i64 (ka : Int), .int .i64 (aa : Int)]) (by simp [results, Tryd.results28, go_sem, t0, t1, t2, t3]) rfl ?_
    rw [HPE.out, hq]
    exact ⟨rfl, HK9.out⟩
  · rw [hq] at hQ
    obtain ⟨v, rfl, hF, hb2⟩ := hQ
    obtain ⟨k1, s1, l1, A1, n1, c1, rfl⟩ := hF.four
    have hb := hbb.below hb2 hbb.lt
    have hlo := hlo1.trans (hb2.mono (by omega))
    have hw2 : w1.heap.size ≤ w2.heap.size := hb2.size
    have hKn : ¬ (w1.heap.size ≤ w.heap.size ∧ w.heap.size < w2.heap.size) := by omega
    have hF1 : FV w2 (Fr w1.heap.size w2.heap.size) f (.agg #[.int .i64 k1, .string s1, .int .i64 l1, .slice A1 n1 c1]) := hF
    have hF9 := (((hF1.far (p := ⟨w.heap.size, 0, none⟩) hKn (.int .i64 k1)).far (p := ⟨w.heap.size, 1, none⟩) hKn (.string s1)).far (p := ⟨w.heap.size, 2, none⟩) hKn (.int .i64 l1)).far (p := ⟨w.heap.size, 3, none⟩) hKn (.slice A1 n1 c1)
    have hF9b := hF9.more (K' := Fr w.heap.size (((((w2).setCell ⟨w.heap.size, 0, none⟩ (.int .i64 k1)).setCell ⟨w.heap.size, 1, none⟩ (.string s1)).setCell ⟨w.heap.size, 2, none⟩ (.int .i64 l1)).setCell ⟨w.heap.size, 3, none⟩ (.slice A1 n1 c1)).heap.size) (fun b hb => ⟨by have := hb.1; omega, by have := hb.2; simp; omega⟩)
    have HF9 := Lib.hid hF9b
    clear hbb hlo1 hb2 hF hF1 hF9 hF9b hKn
    have hC9 : Blk (((((w2).setCell ⟨w.heap.size, 0, none⟩ (.int .i64 k1)).setCell ⟨w.heap.size, 1, none⟩ (.string s1)).setCell ⟨w.heap.size, 2, none⟩ (.int .i64 l1)).setCell ⟨w.heap.size, 3, none⟩ (.slice A1 n1 c1)) w.heap.size 24 #[.int .i64 k1, .string s1, .int .i64 l1, .slice A1 n1 c1] := by simpa using (((hb.put 0 (.int .i64 k1)).put 1 (.string s1)).put 2 (.int .i64 l1)).put 3 (.slice A1 n1 c1)
    have hK9 := ((((hlo.setCell (p := ⟨w.heap.size, 0, none⟩) (Nat.le_refl _) (.int .i64 k1)).setCell (p := ⟨w.heap.size, 1, none⟩) (Nat.le_refl _) (.string s1)).setCell (p := ⟨w.heap.size, 2, none⟩) (Nat.le_refl _) (.int .i64 l1)).setCell (p := ⟨w.heap.size, 3, none⟩) (Nat.le_refl _) (.slice A1 n1 c1))
    have HC9 := Lib.hid hC9
    have HK9 := Lib.hid hK9
    have r0 := hb.cell 0
    have r1 := hb.cell 1
    have r2 := hb.cell 2
    have r3 := hb.cell 3
    simp only [List.getElem?_toArray, List.getElem?_cons_zero, List.getElem?_cons_succ] at r0 r1 r2 r3
    have q0 := hb.frozen 0
    have q1 := hb.frozen 1
    have q2 := hb.frozen 2
    have q3 := hb.frozen 3
    clear hC9 hK9 hb hlo
    go_wp2
    clear r0 r1 r2 r3 q0 q1 q2 q3
    generalize ((((w2).setCell ⟨w.heap.size, 0, none⟩ (.int .i64 k1)).setCell ⟨w.heap.size, 1, none⟩ (.string s1)).setCell ⟨w.heap.size, 2, none⟩ (.int .i64 l1)).setCell ⟨w.heap.size, 3, none⟩ (.slice A1 n1 c1) = V9 at *
    have t0 := HC9.out.cell 0
    have t1 := HC9.out.cell 1
    have t2 := HC9.out.cell 2
    have t3 := HC9.out.cell 3
    simp only [List.getElem?_toArray, List.getElem?_cons_zero, List.getElem?_cons_succ] at t0 t1 t2 t3
    refine bodyPost_ret (v := .tuple #[.agg #[.int .i64 k1, .string s1, .int .i64 l1, .slice A1 n1 c1], .int .i64 0, .int .i64 0]) (by simp [results, Tryd.results28, go_sem, t0, t1, t2, t3]) rfl ?_
    rw [HPE.out, hq]
    exact ⟨_, rfl, HF9.out, HK9.out⟩
theorem parse_any (HRT : RightC) (HAT : ∀ R, AtomC R) (s : Tk.Bs) (w : World) (hs : s.length ≤ 9223372036854775807) (hg : Sig w) (h0 : 0 < w.heap.size) :
    Calls Tryd.prog 28 #[.string (bsv s)] w (ReadQ w (Fm.parseS s)) := by
  rcases lex_ways s with h | ⟨a, h⟩ | ⟨ts, h, hS, hl⟩
  · exact parse_e2 s w hs hg h0 h
  · exact parse_e40 s a w hs hg h0 h
  · exact parse_go HRT HAT s ts w hs hg h0 h hS hl

end Go.Proofs.YtlddnejjpekgeaaDoor
/- Formulas in memory: a name. -/
namespace Go.Proofs.YtlddnejjpekgeaaDoor
open Go.RowKit

theorem wordB_short {s : Tk.Bs} (h : s.length < 1) : Fm.wordB s = false := by
  unfold Fm.wordB
  rw [decide_eq_false (by omega)]
  rfl
theorem wordB_long {s : Tk.Bs} (h : 20 < s.length) : Fm.wordB s = false := by
  unfold Fm.wordB
  rw [decide_eq_false (p := s.length ≤ 20) (by omega)]
  simp
theorem wordB_mid {s : Tk.Bs} (h1 : 1 ≤ s.length) (h2 : s.length ≤ 20) : Fm.wordB s = s.all Tk.quotB := by
  unfold Fm.wordB
  rw [decide_eq_true h1, decide_eq_true h2]
  simp
theorem quot_cases (b : UInt8) : (Tk.quotB b = true ∧ ¬ b.toNat < 33 ∧ ¬ 126 < b.toNat ∧ b.toNat ≠ 34) ∨ (Tk.quotB b = false ∧ (b.toNat < 33 ∨ 126 < b.toNat ∨ b.toNat = 34)) := by
  unfold Tk.quotB
  by_cases h : 33 ≤ b.toNat ∧ b.toNat ≤ 126 ∧ b.toNat ≠ 34
  · exact Or.inl ⟨decide_eq_true h, by omega, by omega, h.2.2⟩
  · exact Or.inr ⟨decide_eq_false h, by omega⟩
set_option maxHeartbeats 4000000 in
theorem isname_any (s : Tk.Bs) (w : World) : Calls Tryd.prog 66 #[.string (bsv s)] w fun e w' => e = .returned (.bool (Fm.wordB s)) ∧ w = w' := by
  have hsz : (bsv s).size = s.length := bsv_size s
  by_cases h1 : s.length < 1
  · have HW := Lib.hid (wordB_short h1)
    have d1 : (s.length : Int) < 1 := by omega
    go_enter Tryd.func66, Tryd.ntmps66
    go_wp2
    go_ret
    exact ⟨by rw [HW.out]; rfl, rfl⟩
  by_cases h2 : 20 < s.length
  · have HW := Lib.hid (wordB_long h2)
    have d1 : ¬ (s.length : Int) < 1 := by omega
    have d2 : (20 : Int) < (s.length : Int) := by omega
    clear h1 h2
    go_enter Tryd.func66, Tryd.ntmps66
    go_wp2
    go_ret
    exact ⟨by rw [HW.out]; rfl, rfl⟩
  have HW := Lib.hid (wordB_mid (s := s) (by omega) (by omega))
  have d1 : ¬ (s.length : Int) < 1 := by omega
  have d2 : ¬ (20 : Int) < (s.length : Int) := by omega
  have hs : s.length ≤ 100000 := by omega
  clear h1 h2
  go_enter Tryd.func66, Tryd.ntmps66
  go_wp2
  go_loopw [14] (fun i wr => ∃ k : Nat, k ≤ s.length ∧ i = .int .i64 (k : Int) ∧ (∀ j (hj : j < s.length), j < k → Tk.quotB (s[j]) = true) ∧ w = wr) (fun i _ => s.length - (intOf i).toNat)
  case atStart => exact ⟨0, Nat.zero_le _, rfl, fun _ _ h => absurd h (Nat.not_lt_zero _), rfl⟩
  case round =>
    obtain ⟨k, hk, rfl, hj, rfl⟩ := hrel
    by_cases hlt : k < s.length
    · have hix := ix_bsv s k hlt
      have HJ := Lib.hid hj
      clear hj
      rcases quot_cases (s[k]) with ⟨hq, a1, a2, a3⟩ | ⟨hq, a⟩
      · have HQ := Lib.hid hq
        have HA3 := Lib.hid a3
        clear hq a3
        go_wp2
        case roundEnd =>
          refine ⟨⟨k + 1, by omega, by go_num, fun j hj h => ?_, trivial⟩, by simp [intOf]; omega⟩
          by_cases hjk : j = k
          · subst hjk
            exact HQ.out
          · exact HJ.out j hj (by omega)
        exfalso
        rename_i hh
        have h34 := HA3.out
        rcases hh with h | h
        · omega
        · rw [beq_iff_eq] at h
          omega
      · have HQ : Hid (s.all Tk.quotB = false) := by
          unfold Hid
          cases h : s.all Tk.quotB with
          | false => rfl
          | true =>
            have := List.all_eq_true.mp h (s[k]) (List.getElem_mem _)
            rw [hq] at this
            cases this
        clear hq HJ
        by_cases a1 : (s[k]).toNat < 33
        · have b1 : ((s[k]).toNat : Int) < 33 := by omega
          clear a
          go_wp2
          go_ret
          exact ⟨by rw [HW.out, HQ.out]; rfl, rfl⟩
        · by_cases a2 : 126 < (s[k]).toNat
          · have b1 : ¬ ((s[k]).toNat : Int) < 33 := by omega
            have b2 : (126 : Int) < ((s[k]).toNat : Int) := by omega
            clear a
            go_wp2
            go_ret
            exact ⟨by rw [HW.out, HQ.out]; rfl, rfl⟩
          · have a3 : (s[k]).toNat = 34 := by omega
            have b1 : ¬ ((s[k]).toNat : Int) < 33 := by omega
            have b2 : ¬ (126 : Int) < ((s[k]).toNat : Int) := by omega
            have b3 : (((s[k]).toNat : Int) == 34) = true := by rw [beq_iff_eq]; omega
            clear a
            go_wp2
            go_ret
            exact ⟨by rw [HW.out, HQ.out]; rfl, rfl⟩
    · obtain rfl : k = s.length := by omega
      have HQ : Hid (s.all Tk.quotB = true) := by
        unfold Hid
        refine List.all_eq_true.mpr (fun x hx => ?_)
        obtain ⟨j, hjl, rfl⟩ := List.mem_iff_getElem.mp hx
        exact hj j hjl hjl
      clear hj
      go_wp2
      go_ret
      exact ⟨by rw [HW.out, HQ.out]; rfl, rfl⟩
end Go.Proofs.YtlddnejjpekgeaaDoor
/- Formulas in memory: fits. -/
namespace Go.Proofs.YtlddnejjpekgeaaDoor
open Go.RowKit

/-- How many subformulas a kind has; zero for no kind. -/
def kidsI (k : Int) : Int := match Fm.kidsN k with | some n => (n : Int) | none => 0
/-- What a table of the kinds answers, from a world on. -/
def KM (w : World) (m : Value) : Prop := ∀ w', Below w.heap.size w w' → ∀ k : Int, ∃ b1 b2 b3 l, (Instr.lookup 65 m (.int .i64 k) true).run Tryd.prog w' = .ok (.tuple #[.agg #[.int .i64 (kidsI k), .string b1, .string b2, .string b3, .bool l], .bool (Fm.kidsN k).isSome]) w'
theorem KM.on {w w' : World} {m : Value} (h : KM w m) (hb : Below w.heap.size w w') : KM w' m := fun w2 h2 => h w2 (hb.trans (h2.mono hb.size))
set_option maxRecDepth 10000 in
set_option maxHeartbeats 4000000 in
theorem fits_any (k : Int) (nm : Tk.Bs) (lit : Int) (A : Option Addr) (n c : Nat) (m : Value) (w : World) (hm : KM w m) :
    Calls Tryd.prog 51 #[m, .agg #[.int .i64 k, .string (bsv nm), .int .i64 lit, .slice A n c]] w fun e w' => e = .returned (.bool (Fm.nodeB k nm lit n)) ∧ Below w.heap.size w w' := by
  have lo := lowAlloc w (Obj.cells #[.int .i64 k, .string (bsv nm), .int .i64 lit, .slice A n c] 24)
  have hb0 := Blk.new w 24 #[.int .i64 k, .string (bsv nm), .int .i64 lit, .slice A n c]
  obtain ⟨b1, b2, b3, l, hlk⟩ := hm _ lo k
  go_enter Tryd.func51, Tryd.ntmps51
  go_upto_region 1 with fail
  generalize w.alloc (Obj.cells #[.int .i64 k, .string (bsv nm), .int .i64 lit, .slice A n c] 24) = W at *
  have k0 := hb0.cell 0
  have k1 := hb0.cell 1
  have k2 := hb0.cell 2
  have k3 := hb0.cell 3
  simp only [List.getElem?_toArray, List.getElem?_cons_zero, List.getElem?_cons_succ] at k0 k1 k2 k3
  go_upto_region 2 with fail
  have lo2 := lowAlloc W (Obj.cells #[.int .i64 (kidsI k), .string b1, .string b2, .string b3, .bool l] 77)
  have hbp := Blk.new W 77 #[.int .i64 (kidsI k), .string b1, .string b2, .string b3, .bool l]
  have hb2 := hb0.below lo2 hb0.lt
  have hlo := lo.trans (lo2.mono lo.size)
  clear k0 k1 k2 k3 lo lo2 hb0 hlk hm
  generalize W.alloc (Obj.cells #[.int .i64 (kidsI k), .string b1, .string b2, .string b3, .bool l] 77) = W2 at *
  have k0 := hb2.cell 0
  have k1 := hb2.cell 1
  have k2 := hb2.cell 2
  have k3 := hb2.cell 3
  have p0 := hbp.cell 0
  simp only [List.getElem?_toArray, List.getElem?_cons_zero, List.getElem?_cons_succ] at k0 k1 k2 k3 p0
  clear hb2 hbp
  cases hn : Fm.kidsN k with
  | none =>
    have HW : Hid (Fm.nodeB k nm lit n = false) := by unfold Hid Fm.nodeB; rw [hn]; rfl
    clear hn
    go_wp2
    go_ret
    exact ⟨by rw [HW.out]; rfl, hlo⟩
  | some j =>
    have hki : kidsI k = (j : Int) := by unfold kidsI; rw [hn]
    rw [hki] at p0
    by_cases h1 : n = j
    · subst h1
      by_cases h2 : lit = 0
      · subst h2
        have HW : Hid (Fm.nodeB k nm 0 n = if k = 3 then Fm.wordB nm else nm.isEmpty) := by unfold Hid Fm.nodeB; rw [hn]; simp
        clear hn
        by_cases h3 : k = 3
        · subst h3
          have HI := Lib.hid (isname_any nm W2)
          go_wp2_with fail
          refine HI.out.mono ?_
          rintro e w3 ⟨rfl, rfl⟩
          go_wp2
          go_ret
          exact ⟨by rw [HW.out]; rfl, hlo⟩
        · have q3 : (k == 3) = false := by rw [beq_eq_false_iff_ne]; exact h3
          have qe : ((bsv nm).toList == ([] : List UInt8)) = nm.isEmpty := by rw [eq_lit]; cases nm <;> rfl
          have HK := Lib.hid h3
          clear h3
          go_wp2
          go_ret
          exact ⟨by rw [HW.out, if_neg HK.out]; rfl, hlo⟩
      · have HW : Hid (Fm.nodeB k nm lit n = false) := by unfold Hid Fm.nodeB; rw [decide_eq_false h2]; simp
        have q2 : (lit == 0) = false := by rw [beq_eq_false_iff_ne]; exact h2
        clear hn h2
        go_wp2
        go_ret
        exact ⟨by rw [HW.out]; rfl, hlo⟩
    · have HW : Hid (Fm.nodeB k nm lit n = false) := by unfold Hid Fm.nodeB; rw [hn, decide_eq_false (by simpa using fun e => h1 e.symm)]; rfl
      have q1 : ((n : Int) == (j : Int)) = false := by rw [beq_eq_false_iff_ne]; omega
      clear hn h1
      go_wp2
      go_ret
      exact ⟨by rw [HW.out]; rfl, hlo⟩
end Go.Proofs.YtlddnejjpekgeaaDoor
