/- The reader of formulas: Parse. -/
import Derived.Test.YtlddnejjpekgeaaDoorQaj
import Derived.MapKept
namespace Go.Proofs.YtlddnejjpekgeaaDoor
open Go.RowKit

theorem scan_small (s : Tk.Bs) : ∀ (n a : Nat), ∀ t ∈ (Tk.scan s n a).1, t.t.length ≤ s.length
  | 0, a => by intro t ht; cases ht
  | n + 1, a => by
    intro t ht
    rw [Tk.scan] at ht
    split at ht
    · simp only [List.mem_singleton] at ht
      subst ht
      exact Nat.zero_le _
    · split at ht
      · cases ht
      · rcases List.mem_cons.1 ht with rfl | ht
        · show (List.take _ _).length ≤ _
          rw [List.length_take, List.length_drop]
          omega
        · exact scan_small s n _ t ht
theorem lex_ways (s : Tk.Bs) : Tk.lexA s = ([], 2, 0) ∨ (∃ a, Tk.lexA s = ([], 40, a)) ∨ ∃ ts, Tk.lexA s = (ts, 0, 0) ∧ ShapeL ts ∧ ts.length ≤ 20001 := by
  by_cases hl : 20000 < s.length
  · exact Or.inl (by unfold Tk.lexA; rw [if_pos hl])
  · cases he : (Tk.lexS s).2 with
    | some a => exact Or.inr (Or.inl ⟨a, by unfold Tk.lexA; rw [if_neg hl, he]⟩)
    | none =>
      have e : Tk.lexA s = ((Tk.lexS s).1, 0, 0) := by unfold Tk.lexA; rw [if_neg hl, he]
      obtain ⟨h1, h2⟩ := Fm.lex_shape e
      exact Or.inr (Or.inr ⟨_, e, ⟨h1, fun t ht => by have := scan_small s _ _ t ht; omega⟩, h2⟩)
theorem row_TL {W : World} {base : Nat} {v : Value} {ts : List Tk.Tok} (h : W.ownsRow base 53 3 v ts.length (flatT ts)) (hne : 0 < ts.length) : ∃ b c, v = .slice (some ⟨b, 0, none⟩) ts.length c ∧ ts.length ≤ c ∧ TL W W.heap.size b 0 ts := by
  have h' := h
  obtain ⟨_, h2⟩ := h
  rcases h2 with ⟨rfl, h0⟩ | ⟨g, cap, cur, rfl, _, hh, hn, _⟩
  · omega
  · obtain ⟨A, c, e, ht⟩ := row_tr h'
    cases e
    refine ⟨g, cap, rfl, hn, ?_⟩
    obtain ⟨b, off, e, hl, _⟩ := ht 0 hne
    cases e
    exact ⟨hl, hl, fun k hk => by
      obtain ⟨b, off, e, _, h0, h1, h2⟩ := ht k hk
      cases e
      exact ⟨h0, h1, h2⟩⟩

set_option maxRecDepth 10000 in
set_option maxHeartbeats 4000000 in
theorem parse_e2 (s : Tk.Bs) (w : World) (hs : s.length ≤ 9223372036854775807) (hg : Sig w) (h0 : 0 < w.heap.size) (hA : Tk.lexA s = ([], 2, 0)) :
    Calls Tryd.prog 28 #[.string (bsv s)] w (ReadQ w (Fm.parseS s)) := by
  have HPE : Hid (Fm.parseS s = .error (2, 0)) := by
    unfold Hid Fm.parseS
    rw [hA]
    rfl
  have hgA : Sig (w.alloc (Obj.cells #[.int .i64 0, .string ⟨#[]⟩, .int .i64 0, .slice none 0 0] 24)) := hg.below (lowAlloc w (Obj.cells #[.int .i64 0, .string ⟨#[]⟩, .int .i64 0, .slice none 0 0] 24)) h0
  have HSG := Lib.hid hgA
  clear hgA hg
  have lo := lowAlloc w (Obj.cells #[.int .i64 0, .string ⟨#[]⟩, .int .i64 0, .slice none 0 0] 24)
  have hb0 := Blk.new w 24 #[.int .i64 0, .string ⟨#[]⟩, .int .i64 0, .slice none 0 0]
  go_enter Tryd.func28, Tryd.ntmps28
  go_upto_region 1 with fail
  have hgW : Sig (w.alloc (Obj.cells #[.int .i64 0, .string ⟨#[]⟩, .int .i64 0, .slice none 0 0] 24)) := HSG.out
  have h0W : 0 < (w.alloc (Obj.cells #[.int .i64 0, .string ⟨#[]⟩, .int .i64 0, .slice none 0 0] 24)).heap.size := Nat.lt_of_lt_of_le h0 lo.size
  generalize w.alloc (Obj.cells #[.int .i64 0, .string ⟨#[]⟩, .int .i64 0, .slice none 0 0] 24) = W at *
  have hWw : w.heap.size < W.heap.size := hb0.lt
  have HLX := Lib.hid (lex_any s W hs hgW h0W)
  clear hgW h0W HSG
  go_wp2_with fail
  refine HLX.out.mono ?_
  intro e w1 hQ
  unfold LexP at hQ
  rw [hA] at hQ
  obtain ⟨v, rfl, hrow, hb1⟩ := hQ
  have hbb := hb0.below hb1 hb0.lt
  have hlo1 := lo.trans (hb1.mono (Nat.le_of_lt hWw))
  clear HLX lo hb0
  have hb := hbb
  have hlo := hlo1
  clear hbb hlo1 hrow hb1
  have hC9 : Blk (((((w1).setCell ⟨w.heap.size, 0, none⟩ (.int .i64 0)).setCell ⟨w.heap.size, 1, none⟩ (.string ⟨#[]⟩)).setCell ⟨w.heap.size, 2, none⟩ (.int .i64 0)).setCell ⟨w.heap.size, 3, none⟩ (.slice none 0 0)) w.heap.size 24 #[.int .i64 0, .string ⟨#[]⟩, .int .i64 0, .slice none 0 0] := by simpa using (((hb.put 0 (.int .i64 0)).put 1 (.string ⟨#[]⟩)).put 2 (.int .i64 0)).put 3 (.slice none 0 0)
  have hK9 := ((((hlo.setCell (p := ⟨w.heap.size, 0, none⟩) (Nat.le_refl _) (.int .i64 0)).setCell (p := ⟨w.heap.size, 1, none⟩) (Nat.le_refl _) (.string ⟨#[]⟩)).setCell (p := ⟨w.heap.size, 2, none⟩) (Nat.le_refl _) (.int .i64 0)).setCell (p := ⟨w.heap.size, 3, none⟩) (Nat.le_refl _) (.slice none 0 0))
  have HC9 := Lib.hid hC9
  have HK9 := Lib.hid hK9
  have r0 := hb.cell 0
  have r1 := hb.cell 1
  have r2 := hb.cell 2
  have r3 := hb.cell 3
  simp only [List.getElem?_toArray, List.getElem?_cons_zero, List.getElem?_cons_succ] at r0 r1 r2 r3
  have q0 := hb.frozen 0
  have q1 := hb.frozen 1
  have q2 := hb.frozen 2
  have q3 := hb.frozen 3
  clear hC9 hK9 hb hlo
  go_wp2
  clear r0 r1 r2 r3 q0 q1 q2 q3
  generalize ((((w1).setCell ⟨w.heap.size, 0, none⟩ (.int .i64 0)).setCell ⟨w.heap.size, 1, none⟩ (.string ⟨#[]⟩)).setCell ⟨w.heap.size, 2, none⟩ (.int .i64 0)).setCell ⟨w.heap.size, 3, none⟩ (.slice none 0 0) = V9 at *
  have t0 := HC9.out.cell 0
  have t1 := HC9.out.cell 1
  have t2 := HC9.out.cell 2
  have t3 := HC9.out.cell 3
  simp only [List.getElem?_toArray, List.getElem?_cons_zero, List.getElem?_cons_succ] at t0 t1 t2 t3
  refine bodyPost_ret (v := .tuple #[.agg #[.int .i64 0, .string ⟨#[]⟩, .int .i64 0, .slice none 0 0], .int .i64 (2 : Int), .int .i64 ((0 : Nat) : Int)]) (by simp [results, Tryd.results28, go_sem, t0, t1, t2, t3]) rfl ?_
  rw [HPE.out]
  exact ⟨rfl, HK9.out⟩

set_option maxRecDepth 10000 in
set_option maxHeartbeats 4000000 in
theorem parse_e40 (s : Tk.Bs) (a : Nat) (w : World) (hs : s.length ≤ 9223372036854775807) (hg : Sig w) (h0 : 0 < w.heap.size) (hA : Tk.lexA s = ([], 40, a)) :
    Calls Tryd.prog 28 #[.string (bsv s)] w (ReadQ w (Fm.parseS s)) := by
  have HPE : Hid (Fm.parseS s = .error (40, a)) := by
    unfold Hid Fm.parseS
    rw [hA]
    rfl
  have hgA : Sig (w.alloc (Obj.cells #[.int .i64 0, .string ⟨#[]⟩, .int .i64 0, .slice none 0 0] 24)) := hg.below (lowAlloc w (Obj.cells #[.int .i64 0, .string ⟨#[]⟩, .int .i64 0, .slice none 0 0] 24)) h0
  have HSG := Lib.hid hgA
  clear hgA hg
  have lo := lowAlloc w (Obj.cells #[.int .i64 0, .string ⟨#[]⟩, .int .i64 0, .slice none 0 0] 24)
  have hb0 := Blk.new w 24 #[.int .i64 0, .string ⟨#[]⟩, .int .i64 0, .slice none 0 0]
  go_enter Tryd.func28, Tryd.ntmps28
  go_upto_region 1 with fail
  have hgW : Sig (w.alloc (Obj.cells #[.int .i64 0, .string ⟨#[]⟩, .int .i64 0, .slice none 0 0] 24)) := HSG.out
  have h0W : 0 < (w.alloc (Obj.cells #[.int .i64 0, .string ⟨#[]⟩, .int .i64 0, .slice none 0 0] 24)).heap.size := Nat.lt_of_lt_of_le h0 lo.size
  generalize w.alloc (Obj.cells #[.int .i64 0, .string ⟨#[]⟩, .int .i64 0, .slice none 0 0] 24) = W at *
  have hWw : w.heap.size < W.heap.size := hb0.lt
  have HLX := Lib.hid (lex_any s W hs hgW h0W)
  clear hgW h0W HSG
  go_wp2_with fail
  refine HLX.out.mono ?_
  intro e w1 hQ
  unfold LexP at hQ
  rw [hA] at hQ
  obtain ⟨v, rfl, hrow, hb1⟩ := hQ
  have hbb := hb0.below hb1 hb0.lt
  have hlo1 := lo.trans (hb1.mono (Nat.le_of_lt hWw))
  clear HLX lo hb0
  have hb := hbb
  have hlo := hlo1
  clear hbb hlo1 hrow hb1
  have hC9 : Blk (((((w1).setCell ⟨w.heap.size, 0, none⟩ (.int .i64 0)).setCell ⟨w.heap.size, 1, none⟩ (.string ⟨#[]⟩)).setCell ⟨w.heap.size, 2, none⟩ (.int .i64 0)).setCell ⟨w.heap.size, 3, none⟩ (.slice none 0 0)) w.heap.size 24 #[.int .i64 0, .string ⟨#[]⟩, .int .i64 0, .slice none 0 0] := by simpa using (((hb.put 0 (.int .i64 0)).put 1 (.string ⟨#[]⟩)).put 2 (.int .i64 0)).put 3 (.slice none 0 0)
  have hK9 := ((((hlo.setCell (p := ⟨w.heap.size, 0, none⟩) (Nat.le_refl _) (.int .i64 0)).setCell (p := ⟨w.heap.size, 1, none⟩) (Nat.le_refl _) (.string ⟨#[]⟩)).setCell (p := ⟨w.heap.size, 2, none⟩) (Nat.le_refl _) (.int .i64 0)).setCell (p := ⟨w.heap.size, 3, none⟩) (Nat.le_refl _) (.slice none 0 0))
  have HC9 := Lib.hid hC9
  have HK9 := Lib.hid hK9
  have r0 := hb.cell 0
  have r1 := hb.cell 1
  have r2 := hb.cell 2
  have r3 := hb.cell 3
  simp only [List.getElem?_toArray, List.getElem?_cons_zero, List.getElem?_cons_succ] at r0 r1 r2 r3
  have q0 := hb.frozen 0
  have q1 := hb.frozen 1
  have q2 := hb.frozen 2
  have q3 := hb.frozen 3
  clear hC9 hK9 hb hlo
  go_wp2
  clear r0 r1 r2 r3 q0 q1 q2 q3
  generalize ((((w1).setCell ⟨w.heap.size, 0, none⟩ (.int .i64 0)).setCell ⟨w.heap.size, 1, none⟩ (.string ⟨#[]⟩)).setCell ⟨w.heap.size, 2, none⟩ (.int .i64 0)).setCell ⟨w.heap.size, 3, none⟩ (.slice none 0 0) = V9 at *
  have t0 := HC9.out.cell 0
  have t1 := HC9.out.cell 1
  have t2 := HC9.out.cell 2
  have t3 := HC9.out.cell 3
  simp only [List.getElem?_toArray, List.getElem?_cons_zero, List.getElem?_cons_succ] at t0 t1 t2 t3
  refine bodyPost_ret (v := .tuple #[.agg #[.int .i64 0, .string ⟨#[]⟩, .int .i64 0, .slice none 0 0], .int .i64 (40 : Int), .int .i64 ((a : Nat) : Int)]) (by simp [results, Tryd.results28, go_sem, t0, t1, t2, t3]) rfl ?_
  rw [HPE.out]
  exact ⟨rfl, HK9.out⟩

set_option maxRecDepth 10000 in
set_option maxHeartbeats 4000000 in
theorem parse_go (HRT0 : RightC) (HAT0 : ∀ R, AtomC R) (s : Tk.Bs) (ts : List Tk.Tok) (w : World) (hs : s.length ≤ 9223372036854775807) (hg : Sig w) (h0 : 0 < w.heap.size) (hA : Tk.lexA s = (ts, 0, 0)) (hS : ShapeL ts) (hl : ts.length ≤ 20001) :
    Calls Tryd.prog 28 #[.string (bsv s)] w (ReadQ w (Fm.parseS s)) := by
  have HRT := Lib.hid HRT0
  have HAT := Lib.hid HAT0
  clear HRT0 HAT0
  have HPE : Hid (Fm.parseS s = Fm.parseT ts) := by
    unfold Hid Fm.parseS
    rw [hA]
    rfl
  have hgA : Sig (w.alloc (Obj.cells #[.int .i64 0, .string ⟨#[]⟩, .int .i64 0, .slice none 0 0] 24)) := hg.below (lowAlloc w (Obj.cells #[.int .i64 0, .string ⟨#[]⟩, .int .i64 0, .slice none 0 0] 24)) h0
  have HSG := Lib.hid hgA
  clear hgA hg
  have lo := lowAlloc w (Obj.cells #[.int .i64 0, .string ⟨#[]⟩, .int .i64 0, .slice none 0 0] 24)
  have hb0 := Blk.new w 24 #[.int .i64 0, .string ⟨#[]⟩, .int .i64 0, .slice none 0 0]
  go_enter Tryd.func28, Tryd.ntmps28
  go_upto_region 1 with fail
  have hgW : Sig (w.alloc (Obj.cells #[.int .i64 0, .string ⟨#[]⟩, .int .i64 0, .slice none 0 0] 24)) := HSG.out
  have h0W : 0 < (w.alloc (Obj.cells #[.int .i64 0, .string ⟨#[]⟩, .int .i64 0, .slice none 0 0] 24)).heap.size := Nat.lt_of_lt_of_le h0 lo.size
  generalize w.alloc (Obj.cells #[.int .i64 0, .string ⟨#[]⟩, .int .i64 0, .slice none 0 0] 24) = W at *
  have hWw : w.heap.size < W.heap.size := hb0.lt
  have HLX := Lib.hid (lex_any s W hs hgW h0W)
  clear hgW h0W HSG
  go_wp2_with fail
  refine HLX.out.mono ?_
  intro e w1 hQ
  unfold LexP at hQ
  rw [hA] at hQ
  obtain ⟨v, rfl, hrow, hb1⟩ := hQ
  have hbb := hb0.below hb1 hb0.lt
  have hlo1 := lo.trans (hb1.mono (Nat.le_of_lt hWw))
  clear HLX lo hb0
  have hne : 0 < ts.length := by
    obtain ⟨t, r, rfl⟩ := shape_ne hS
    simp
  obtain ⟨b, c, rfl, hc, hTL⟩ := row_TL hrow hne
  have HRD := Lib.hid (read_any HRT.out HAT.out b 0 c ts w1 hTL hS hl hc)
  clear hrow hTL hS hl hc hne HRT HAT
  have hW1 : W.heap.size ≤ w1.heap.size := hb1.size
  clear hb1
  go_wp2_with fail
  refine HRD.out.mono ?_
  intro e w2 hQ
  clear HRD
  rcases hq : Fm.parseT ts with ⟨ka, aa⟩ | f
  · rw [hq] at hQ
    obtain ⟨rfl, hb2⟩ := hQ
    have hb := hbb.below hb2 hbb.lt
    have hlo := hlo1.trans (hb2.mono (by omega))
    clear hbb hlo1 hb2
    have hC9 : Blk (((((w2).setCell ⟨w.heap.size, 0, none⟩ (.int .i64 0)).setCell ⟨w.heap.size, 1, none⟩ (.string ⟨#[]⟩)).setCell ⟨w.heap.size, 2, none⟩ (.int .i64 0)).setCell ⟨w.heap.size, 3, none⟩ (.slice none 0 0)) w.heap.size 24 #[.int .i64 0, .string ⟨#[]⟩, .int .i64 0, .slice none 0 0] := by simpa using (((hb.put 0 (.int .i64 0)).put 1 (.string ⟨#[]⟩)).put 2 (.int .i64 0)).put 3 (.slice none 0 0)
    have hK9 := ((((hlo.setCell (p := ⟨w.heap.size, 0, none⟩) (Nat.le_refl _) (.int .i64 0)).setCell (p := ⟨w.heap.size, 1, none⟩) (Nat.le_refl _) (.string ⟨#[]⟩)).setCell (p := ⟨w.heap.size, 2, none⟩) (Nat.le_refl _) (.int .i64 0)).setCell (p := ⟨w.heap.size, 3, none⟩) (Nat.le_refl _) (.slice none 0 0))
    have HC9 := Lib.hid hC9
    have HK9 := Lib.hid hK9
    have r0 := hb.cell 0
    have r1 := hb.cell 1
    have r2 := hb.cell 2
    have r3 := hb.cell 3
    simp only [List.getElem?_toArray, List.getElem?_cons_zero, List.getElem?_cons_succ] at r0 r1 r2 r3
    have q0 := hb.frozen 0
    have q1 := hb.frozen 1
    have q2 := hb.frozen 2
    have q3 := hb.frozen 3
    clear hC9 hK9 hb hlo
    go_wp2
    clear r0 r1 r2 r3 q0 q1 q2 q3
    generalize ((((w2).setCell ⟨w.heap.size, 0, none⟩ (.int .i64 0)).setCell ⟨w.heap.size, 1, none⟩ (.string ⟨#[]⟩)).setCell ⟨w.heap.size, 2, none⟩ (.int .i64 0)).setCell ⟨w.heap.size, 3, none⟩ (.slice none 0 0) = V9 at *
    have t0 := HC9.out.cell 0
    have t1 := HC9.out.cell 1
    have t2 := HC9.out.cell 2
    have t3 := HC9.out.cell 3
    simp only [List.getElem?_toArray, List.getElem?_cons_zero, List.getElem?_cons_succ] at t0 t1 t2 t3
    refine bodyPost_ret (v := .tuple #[.agg #[.int .i64 0, .string ⟨#[]⟩, .int .i64 0, .slice none 0 0], .int .i64 (ka : Int), .int .i64 (aa : Int)]) (by simp [results, Tryd.results28, go_sem, t0, t1, t2, t3]) rfl ?_
    rw [HPE.out, hq]
    exact ⟨rfl, HK9.out⟩
  · rw [hq] at hQ
    obtain ⟨v, rfl, hF, hb2⟩ := hQ
    obtain ⟨k1, s1, l1, A1, n1, c1, rfl⟩ := hF.four
    have hb := hbb.below hb2 hbb.lt
    have hlo := hlo1.trans (hb2.mono (by omega))
    have hw2 : w1.heap.size ≤ w2.heap.size := hb2.size
    have hKn : ¬ (w1.heap.size ≤ w.heap.size ∧ w.heap.size < w2.heap.size) := by omega
    have hF1 : FV w2 (Fr w1.heap.size w2.heap.size) f (.agg #[.int .i64 k1, .string s1, .int .i64 l1, .slice A1 n1 c1]) := hF
    have hF9 := (((hF1.far (p := ⟨w.heap.size, 0, none⟩) hKn (.int .i64 k1)).far (p := ⟨w.heap.size, 1, none⟩) hKn (.string s1)).far (p := ⟨w.heap.size, 2, none⟩) hKn (.int .i64 l1)).far (p := ⟨w.heap.size, 3, none⟩) hKn (.slice A1 n1 c1)
    have hF9b := hF9.more (K' := Fr w.heap.size (((((w2).setCell ⟨w.heap.size, 0, none⟩ (.int .i64 k1)).setCell ⟨w.heap.size, 1, none⟩ (.string s1)).setCell ⟨w.heap.size, 2, none⟩ (.int .i64 l1)).setCell ⟨w.heap.size, 3, none⟩ (.slice A1 n1 c1)).heap.size) (fun b hb => ⟨by have := hb.1; omega, by have := hb.2; simp; omega⟩)
    have HF9 := Lib.hid hF9b
    clear hbb hlo1 hb2 hF hF1 hF9 hF9b hKn
    have hC9 : Blk (((((w2).setCell ⟨w.heap.size, 0, none⟩ (.int .i64 k1)).setCell ⟨w.heap.size, 1, none⟩ (.string s1)).setCell ⟨w.heap.size, 2, none⟩ (.int .i64 l1)).setCell ⟨w.heap.size, 3, none⟩ (.slice A1 n1 c1)) w.heap.size 24 #[.int .i64 k1, .string s1, .int .i64 l1, .slice A1 n1 c1] := by simpa using (((hb.put 0 (.int .i64 k1)).put 1 (.string s1)).put 2 (.int .i64 l1)).put 3 (.slice A1 n1 c1)
    have hK9 := ((((hlo.setCell (p := ⟨w.heap.size, 0, none⟩) (Nat.le_refl _) (.int .i64 k1)).setCell (p := ⟨w.heap.size, 1, none⟩) (Nat.le_refl _) (.string s1)).setCell (p := ⟨w.heap.size, 2, none⟩) (Nat.le_refl _) (.int .i64 l1)).setCell (p := ⟨w.heap.size, 3, none⟩) (Nat.le_refl _) (.slice A1 n1 c1))
    have HC9 := Lib.hid hC9
    have HK9 := Lib.hid hK9
    have r0 := hb.cell 0
    have r1 := hb.cell 1
    have r2 := hb.cell 2
    have r3 := hb.cell 3
    simp only [List.getElem?_toArray, List.getElem?_cons_zero, List.getElem?_cons_succ] at r0 r1 r2 r3
    have q0 := hb.frozen 0
    have q1 := hb.frozen 1
    have q2 := hb.frozen 2
    have q3 := hb.frozen 3
    clear hC9 hK9 hb hlo
    go_wp2
    clear r0 r1 r2 r3 q0 q1 q2 q3
    generalize ((((w2).setCell ⟨w.heap.size, 0, none⟩ (.int .i64 k1)).setCell ⟨w.heap.size, 1, none⟩ (.string s1)).setCell ⟨w.heap.size, 2, none⟩ (.int .i64 l1)).setCell ⟨w.heap.size, 3, none⟩ (.slice A1 n1 c1) = V9 at *
    have t0 := HC9.out.cell 0
    have t1 := HC9.out.cell 1
    have t2 := HC9.out.cell 2
    have t3 := HC9.out.cell 3
    simp only [List.getElem?_toArray, List.getElem?_cons_zero, List.getElem?_cons_succ] at t0 t1 t2 t3
    refine bodyPost_ret (v := .tuple #[.agg #[.int .i64 k1, .string s1, .int .i64 l1, .slice A1 n1 c1], .int .i64 0, .int .i64 0]) (by simp [results, Tryd.results28, go_sem, t0, t1, t2, t3]) rfl ?_
    rw [HPE.out, hq]
    exact ⟨_, rfl, HF9.out, HK9.out⟩
theorem parse_any (HRT : RightC) (HAT : ∀ R, AtomC R) (s : Tk.Bs) (w : World) (hs : s.length ≤ 9223372036854775807) (hg : Sig w) (h0 : 0 < w.heap.size) :
    Calls Tryd.prog 28 #[.string (bsv s)] w (ReadQ w (Fm.parseS s)) := by
  rcases lex_ways s with h | ⟨a, h⟩ | ⟨ts, h, hS, hl⟩
  · exact parse_e2 s w hs hg h0 h
  · exact parse_e40 s a w hs hg h0 h
  · exact parse_go HRT HAT s ts w hs hg h0 h hS hl

end Go.Proofs.YtlddnejjpekgeaaDoor
/- Formulas in memory: a name. -/
namespace Go.Proofs.YtlddnejjpekgeaaDoor
open Go.RowKit

theorem wordB_short {s : Tk.Bs} (h : s.length < 1) : Fm.wordB s = false := by
  unfold Fm.wordB
  rw [decide_eq_false (by omega)]
  rfl
theorem wordB_long {s : Tk.Bs} (h : 20 < s.length) : Fm.wordB s = false := by
  unfold Fm.wordB
  rw [decide_eq_false (p := s.length ≤ 20) (by omega)]
  simp
theorem wordB_mid {s : Tk.Bs} (h1 : 1 ≤ s.length) (h2 : s.length ≤ 20) : Fm.wordB s = s.all Tk.quotB := by
  unfold Fm.wordB
  rw [decide_eq_true h1, decide_eq_true h2]
  simp
theorem quot_cases (b : UInt8) : (Tk.quotB b = true ∧ ¬ b.toNat < 33 ∧ ¬ 126 < b.toNat ∧ b.toNat ≠ 34) ∨ (Tk.quotB b = false ∧ (b.toNat < 33 ∨ 126 < b.toNat ∨ b.toNat = 34)) := by
  unfold Tk.quotB
  by_cases h : 33 ≤ b.toNat ∧ b.toNat ≤ 126 ∧ b.toNat ≠ 34
  · exact Or.inl ⟨decide_eq_true h, by omega, by omega, h.2.2⟩
  · exact Or.inr ⟨decide_eq_false h, by omega⟩
set_option maxHeartbeats 4000000 in
theorem isname_any (s : Tk.Bs) (w : World) : Calls Tryd.prog 66 #[.string (bsv s)] w fun e w' => e = .returned (.bool (Fm.wordB s)) ∧ w = w' := by
  have hsz : (bsv s).size = s.length := bsv_size s
  by_cases h1 : s.length < 1
  · have HW := Lib.hid (wordB_short h1)
    have d1 : (s.length : Int) < 1 := by omega
    go_enter Tryd.func66, Tryd.ntmps66
    go_wp2
    go_ret
    exact ⟨by rw [HW.out]; rfl, rfl⟩
  by_cases h2 : 20 < s.length
  · have HW := Lib.hid (wordB_long h2)
    have d1 : ¬ (s.length : Int) < 1 := by omega
    have d2 : (20 : Int) < (s.length : Int) := by omega
    clear h1 h2
    go_enter Tryd.func66, Tryd.ntmps66
    go_wp2
    go_ret
    exact ⟨by rw [HW.out]; rfl, rfl⟩
  have HW := Lib.hid (wordB_mid (s := s) (by omega) (by omega))
  have d1 : ¬ (s.length : Int) < 1 := by omega
  have d2 : ¬ (20 : Int) < (s.length : Int) := by omega
  have hs : s.length ≤ 100000 := by omega
  clear h1 h2
  go_enter Tryd.func66, Tryd.ntmps66
  go_wp2
  go_loopw [14] (fun i wr => ∃ k : Nat, k ≤ s.length ∧ i = .int .i64 (k : Int) ∧ (∀ j (hj : j < s.length), j < k → Tk.quotB (s[j]) = true) ∧ w = wr) (fun i _ => s.length - (intOf i).toNat)
  case atStart => exact ⟨0, Nat.zero_le _, rfl, fun _ _ h => absurd h (Nat.not_lt_zero _), rfl⟩
  case round =>
    obtain ⟨k, hk, rfl, hj, rfl⟩ := hrel
    by_cases hlt : k < s.length
    · have hix := ix_bsv s k hlt
      have HJ := Lib.hid hj
      clear hj
      rcases quot_cases (s[k]) with ⟨hq, a1, a2, a3⟩ | ⟨hq, a⟩
      · have HQ := Lib.hid hq
        have HA3 := Lib.hid a3
        clear hq a3
        go_wp2
        case roundEnd =>
          refine ⟨⟨k + 1, by omega, by go_num, fun j hj h => ?_, trivial⟩, by simp [intOf]; omega⟩
          by_cases hjk : j = k
          · subst hjk
            exact HQ.out
          · exact HJ.out j hj (by omega)
        exfalso
        rename_i hh
        have h34 := HA3.out
        rcases hh with h | h
        · omega
        · rw [beq_iff_eq] at h
          omega
      · have HQ : Hid (s.all Tk.quotB = false) := by
          unfold Hid
          cases h : s.all Tk.quotB with
          | false => rfl
          | true =>
            have := List.all_eq_true.mp h (s[k]) (List.getElem_mem _)
            rw [hq] at this
            cases this
        clear hq HJ
        by_cases a1 : (s[k]).toNat < 33
        · have b1 : ((s[k]).toNat : Int) < 33 := by omega
          clear a
          go_wp2
          go_ret
          exact ⟨by rw [HW.out, HQ.out]; rfl, rfl⟩
        · by_cases a2 : 126 < (s[k]).toNat
          · have b1 : ¬ ((s[k]).toNat : Int) < 33 := by omega
            have b2 : (126 : Int) < ((s[k]).toNat : Int) := by omega
            clear a
            go_wp2
            go_ret
            exact ⟨by rw [HW.out, HQ.out]; rfl, rfl⟩
          · have a3 : (s[k]).toNat = 34 := by omega
            have b1 : ¬ ((s[k]).toNat : Int) < 33 := by omega
            have b2 : ¬ (126 : Int) < ((s[k]).toNat : Int) := by omega
            have b3 : (((s[k]).toNat : Int) == 34) = true := by rw [beq_iff_eq]; omega
            clear a
            go_wp2
            go_ret
            exact ⟨by rw [HW.out, HQ.out]; rfl, rfl⟩
    · obtain rfl : k = s.length := by omega
      have HQ : Hid (s.all Tk.quotB = true) := by
        unfold Hid
        refine List.all_eq_true.mpr (fun x hx => ?_)
        obtain ⟨j, hjl, rfl⟩ := List.mem_iff_getElem.mp hx
        exact hj j hjl hjl
      clear hj
      go_wp2
      go_ret
      exact ⟨by rw [HW.out, HQ.out]; rfl, rfl⟩
end Go.Proofs.YtlddnejjpekgeaaDoor
/- Formulas in memory: fits. -/
namespace Go.Proofs.YtlddnejjpekgeaaDoor
open Go.RowKit

/-- How many subformulas a kind has; zero for no kind. -/
def kidsI (k : Int) : Int := match Fm.kidsN k with | some n => (n : Int) | none => 0
/-- What a table of the kinds answers, from a world on. -/
def KM (w : World) (m : Value) : Prop := ∀ w', Below w.heap.size w w' → ∀ k : Int, ∃ b1 b2 b3 l, (Instr.lookup 65 m (.int .i64 k) true).run Tryd.prog w' = .ok (.tuple #[.agg #[.int .i64 (kidsI k), .string b1, .string b2, .string b3, .bool l], .bool (Fm.kidsN k).isSome]) w'
theorem KM.on {w w' : World} {m : Value} (h : KM w m) (hb : Below w.heap.size w w') : KM w' m := fun w2 h2 => h w2 (hb.trans (h2.mono hb.size))
set_option maxRecDepth 10000 in
set_option maxHeartbeats 4000000 in
theorem fits_any (k : Int) (nm : Tk.Bs) (lit : Int) (A : Option Addr) (n c : Nat) (m : Value) (w : World) (hm : KM w m) :
    Calls Tryd.prog 51 #[m, .agg #[.int .i64 k, .string (bsv nm), .int .i64 lit, .slice A n c]] w fun e w' => e = .returned (.bool (Fm.nodeB k nm lit n)) ∧ Below w.heap.size w w' := by
  have lo := lowAlloc w (Obj.cells #[.int .i64 k, .string (bsv nm), .int .i64 lit, .slice A n c] 24)
  have hb0 := Blk.new w 24 #[.int .i64 k, .string (bsv nm), .int .i64 lit, .slice A n c]
  obtain ⟨b1, b2, b3, l, hlk⟩ := hm _ lo k
  go_enter Tryd.func51, Tryd.ntmps51
  go_upto_region 1 with fail
  generalize w.alloc (Obj.cells #[.int .i64 k, .string (bsv nm), .int .i64 lit, .slice A n c] 24) = W at *
  have k0 := hb0.cell 0
  have k1 := hb0.cell 1
  have k2 := hb0.cell 2
  have k3 := hb0.cell 3
  simp only [List.getElem?_toArray, List.getElem?_cons_zero, List.getElem?_cons_succ] at k0 k1 k2 k3
  go_upto_region 2 with fail
  have lo2 := lowAlloc W (Obj.cells #[.int .i64 (kidsI k), .string b1, .string b2, .string b3, .bool l] 77)
  have hbp := Blk.new W 77 #[.int .i64 (kidsI k), .string b1, .string b2, .string b3, .bool l]
  have hb2 := hb0.below lo2 hb0.lt
  have hlo := lo.trans (lo2.mono lo.size)
  clear k0 k1 k2 k3 lo lo2 hb0 hlk hm
  generalize W.alloc (Obj.cells #[.int .i64 (kidsI k), .string b1, .string b2, .string b3, .bool l] 77) = W2 at *
  have k0 := hb2.cell 0
  have k1 := hb2.cell 1
  have k2 := hb2.cell 2
  have k3 := hb2.cell 3
  have p0 := hbp.cell 0
  simp only [List.getElem?_toArray, List.getElem?_cons_zero, List.getElem?_cons_succ] at k0 k1 k2 k3 p0
  clear hb2 hbp
  cases hn : Fm.kidsN k with
  | none =>
    have HW : Hid (Fm.nodeB k nm lit n = false) := by unfold Hid Fm.nodeB; rw [hn]; rfl
    clear hn
    go_wp2
    go_ret
    exact ⟨by rw [HW.out]; rfl, hlo⟩
  | some j =>
    have hki : kidsI k = (j : Int) := by unfold kidsI; rw [hn]
    rw [hki] at p0
    by_cases h1 : n = j
    · subst h1
      by_cases h2 : lit = 0
      · subst h2
        have HW : Hid (Fm.nodeB k nm 0 n = if k = 3 then Fm.wordB nm else nm.isEmpty) := by unfold Hid Fm.nodeB; rw [hn]; simp
        clear hn
        by_cases h3 : k = 3
        · subst h3
          have HI := Lib.hid (isname_any nm W2)
          go_wp2_with fail
          refine HI.out.mono ?_
          rintro e w3 ⟨rfl, rfl⟩
          go_wp2
          go_ret
          exact ⟨by rw [HW.out]; rfl, hlo⟩
        · have q3 : (k == 3) = false := by rw [beq_eq_false_iff_ne]; exact h3
          have qe : ((bsv nm).toList == ([] : List UInt8)) = nm.isEmpty := by rw [eq_lit]; cases nm <;> rfl
          have HK := Lib.hid h3
          clear h3
          go_wp2
          go_ret
          exact ⟨by rw [HW.out, if_neg HK.out]; rfl, hlo⟩
      · have HW : Hid (Fm.nodeB k nm lit n = false) := by unfold Hid Fm.nodeB; rw [decide_eq_false h2]; simp
        have q2 : (lit == 0) = false := by rw [beq_eq_false_iff_ne]; exact h2
        clear hn h2
        go_wp2
        go_ret
        exact ⟨by rw [HW.out]; rfl, hlo⟩
    · have HW : Hid (Fm.nodeB k nm lit n = false) := by unfold Hid Fm.nodeB; rw [hn, decide_eq_false (by simpa using fun e => h1 e.symm)]; rfl
      have q1 : ((n : Int) == (j : Int)) = false := by rw [beq_eq_false_iff_ne]; omega
      clear hn h1
      go_wp2
      go_ret
      exact ⟨by rw [HW.out]; rfl, hlo⟩
end Go.Proofs.YtlddnejjpekgeaaDoor
/- Formulas in memory: the table of the kinds. -/
namespace Go.Proofs.YtlddnejjpekgeaaDoor
open Go.RowKit

/-- Block b of w is o. -/
def Hq (w : World) (b : Nat) (o : Obj) : Prop := w.heap[b]? = some o
theorem Hq.lt {w : World} {b : Nat} {o : Obj} (h : Hq w b o) : b < w.heap.size := (Array.getElem?_eq_some_iff.1 h).1
theorem Hq.below {w w' : World} {b B : Nat} {o : Obj} (h : Hq w b o) (hb : Below B w w') (hB : b < B) : Hq w' b o := (hb.block b hB).trans h
theorem Hq.grown {w w' : World} {b : Nat} {o : Obj} {row : Option Nat} (h : Hq w b o) (hg : w.grownBy w' row) (hne : some b ≠ row) : Hq w' b o := (hg.block b h.lt hne).trans h
theorem Hq.new (w : World) (o : Obj) : Hq (w.alloc o) w.heap.size o := heap_alloc_new w o
theorem Hq.drew {w : World} {b : Nat} {o : Obj} (h : Hq w b o) : Hq w.drew b o := h
theorem setq_grown {w : World} {b : Nat} {o : Obj} (h : Hq w b o) (o' : Obj) : Hq { w with heap := w.heap.setIfInBounds b o' } b o' ∧ w.grownBy { w with heap := w.heap.setIfInBounds b o' } (some b) := by
  have hlt := h.lt
  refine ⟨by simp [Hq, hlt], rfl, rfl, rfl, by simp, fun i _ hne => ?_⟩
  have : b ≠ i := fun e => hne (by rw [e])
  simp [this]
theorem belowq_grown {w V V' : World} {B b : Nat} (h : Below B w V) (hg : V.grownBy V' (some b)) (hB : B ≤ b) (hs : B ≤ V.heap.size) : Below B w V' :=
  h.grown hg hs (fun k e => by injection e with e; omega)
/-- What the table holds of a kind. -/
def kV : Nat → Value
  | 0 => .agg #[.int .i64 0, .string ⟨#[102, 97, 108, 115, 101]⟩, .string ⟨#[]⟩, .string ⟨#[]⟩, .bool false]
  | 1 => .agg #[.int .i64 0, .string ⟨#[116, 114, 117, 101]⟩, .string ⟨#[]⟩, .string ⟨#[]⟩, .bool false]
  | 2 => .agg #[.int .i64 0, .string ⟨#[]⟩, .string ⟨#[]⟩, .string ⟨#[]⟩, .bool false]
  | 3 => .agg #[.int .i64 1, .string ⟨#[33]⟩, .string ⟨#[]⟩, .string ⟨#[]⟩, .bool false]
  | 4 => .agg #[.int .i64 2, .string ⟨#[]⟩, .string ⟨#[32, 38, 32]⟩, .string ⟨#[]⟩, .bool true]
  | 5 => .agg #[.int .i64 2, .string ⟨#[]⟩, .string ⟨#[32, 124, 32]⟩, .string ⟨#[]⟩, .bool true]
  | 6 => .agg #[.int .i64 2, .string ⟨#[]⟩, .string ⟨#[32, 45, 62, 32]⟩, .string ⟨#[]⟩, .bool true]
  | 7 => .agg #[.int .i64 2, .string ⟨#[]⟩, .string ⟨#[32, 60, 45, 62, 32]⟩, .string ⟨#[]⟩, .bool true]
  | 8 => .agg #[.int .i64 1, .string ⟨#[69, 88, 32]⟩, .string ⟨#[]⟩, .string ⟨#[]⟩, .bool false]
  | 9 => .agg #[.int .i64 1, .string ⟨#[65, 88, 32]⟩, .string ⟨#[]⟩, .string ⟨#[]⟩, .bool false]
  | 10 => .agg #[.int .i64 1, .string ⟨#[69, 70, 32]⟩, .string ⟨#[]⟩, .string ⟨#[]⟩, .bool false]
  | 11 => .agg #[.int .i64 1, .string ⟨#[65, 70, 32]⟩, .string ⟨#[]⟩, .string ⟨#[]⟩, .bool false]
  | 12 => .agg #[.int .i64 1, .string ⟨#[69, 71, 32]⟩, .string ⟨#[]⟩, .string ⟨#[]⟩, .bool false]
  | 13 => .agg #[.int .i64 1, .string ⟨#[65, 71, 32]⟩, .string ⟨#[]⟩, .string ⟨#[]⟩, .bool false]
  | 14 => .agg #[.int .i64 2, .string ⟨#[69, 32, 91]⟩, .string ⟨#[32, 85, 32]⟩, .string ⟨#[93]⟩, .bool false]
  | 15 => .agg #[.int .i64 2, .string ⟨#[65, 32, 91]⟩, .string ⟨#[32, 85, 32]⟩, .string ⟨#[93]⟩, .bool false]
  | 16 => .agg #[.int .i64 2, .string ⟨#[69, 32, 91]⟩, .string ⟨#[32, 82, 32]⟩, .string ⟨#[93]⟩, .bool false]
  | 17 => .agg #[.int .i64 2, .string ⟨#[65, 32, 91]⟩, .string ⟨#[32, 82, 32]⟩, .string ⟨#[93]⟩, .bool false]
  | _ => .agg #[.int .i64 0, .string ⟨#[]⟩, .string ⟨#[]⟩, .string ⟨#[]⟩, .bool false]
def kE (i : Nat) : MapEntry := ⟨.int .i64 ((i : Int) + 1), kV i, i⟩
def kEs (n : Nat) : List MapEntry := (List.range n).map kE
theorem kEs_succ (n : Nat) : kEs (n + 1) = kEs n ++ [MapEntry.mk (.int .i64 ((n : Int) + 1)) (kV n) n] := by
  unfold kEs
  rw [List.range_succ, List.map_append]
  rfl
theorem keyI (j : Int) : MapKept.IsKey (.int .i64) (.int .i64 j) := by simp [MapKept.IsKey]
theorem kEs_keys (n : Nat) : ∀ x ∈ kEs n, MapKept.IsKey (.int .i64) x.key := by
  intro x hx
  obtain ⟨i, _, rfl⟩ := List.mem_map.1 hx
  exact keyI _
theorem kEs_get (n i : Nat) (h : i < n) : (kEs n)[i]? = some (kE i) := by
  unfold kEs
  rw [List.getElem?_map, List.getElem?_range h]
  rfl
theorem kfind_none (n : Nat) (k : Int) (h : ¬ (1 ≤ k ∧ k ≤ n)) : Instr.findNow (.int .i64) (.int .i64 k) (kEs n) 0 = some none := by
  rcases MapKept.findNow_spec (keyI k) (kEs n) 0 (kEs_keys n) with ⟨h1, _⟩ | ⟨j, e, _, h2, h3⟩
  · exact h1
  · exfalso
    obtain ⟨i, hi, rfl⟩ := List.mem_map.1 (List.mem_of_getElem? h2)
    have hi := List.mem_range.1 hi
    simp only [kE, Value.int.injEq, true_and] at h3
    omega
theorem kfind_some (n i : Nat) (h : i < n) : Instr.findNow (.int .i64) (.int .i64 ((i : Int) + 1)) (kEs n) 0 = some (some (i, kV i)) := by
  rcases MapKept.findNow_spec (keyI ((i : Int) + 1)) (kEs n) 0 (kEs_keys n) with ⟨_, h2⟩ | ⟨j, e, h1, h2, h3⟩
  · exact absurd rfl (h2 (kE i) (List.mem_of_getElem? (kEs_get n i h)))
  · have hj : j < n := by
      have := (List.getElem?_eq_some_iff.1 h2).1
      simpa [kEs] using this
    rw [kEs_get n j hj] at h2
    injection h2 with h2
    subst h2
    simp only [kE, Value.int.injEq, true_and] at h3
    obtain rfl : j = i := by omega
    rw [h1, Nat.zero_add]
    rfl
theorem kstore (w : World) (b n : Nat) (hb : Hq w b (.map (kEs n).toArray n)) :
    ∃ wn, (Instr.mapUpdate 64 (.map (some b)) (.int .i64 ((n : Int) + 1)) (kV n)).run Tryd.prog w = .ok () wn ∧ Hq wn b (.map (kEs (n + 1)).toArray (n + 1)) ∧ w.grownBy wn (some b) := by
  have hs := setq_grown hb (.map (kEs (n + 1)).toArray (n + 1))
  have hf := kfind_none n ((n : Int) + 1) (by omega)
  refine ⟨_, ?_, hs.1, hs.2⟩
  simp only [Instr.mapUpdate, Sem.run_bind, run_underlying Tryd.underlying64, Result.andThen, MapKept.run_getObj_map hb, MapKept.run_checkKey Tryd.underlying3 (keyI ((n : Int) + 1)), MapKept.run_findKey Tryd.underlying3 hf]
  rw [MapKept.run_setObj_map _ hb, kEs_succ]
  simp
/-- The value m is the table of the kinds. -/
def KT (w : World) (m : Value) : Prop := ∃ b, m = .map (some b) ∧ Hq w b (.map (kEs 18).toArray 18)
theorem KT.on {w w' : World} {m : Value} (h : KT w m) (hb : Below w.heap.size w w') : KT w' m := by
  obtain ⟨b, e, hm⟩ := h
  exact ⟨b, e, hm.below hb hm.lt⟩
def kOf (k : Int) : Value := if 1 ≤ k ∧ k ≤ 18 then kV (k.toNat - 1) else kV 18
theorem klook {w : World} {m : Value} (h : KT w m) (k : Int) (ok : Bool) :
    (Instr.lookup 65 m (.int .i64 k) ok).run Tryd.prog w = .ok (if ok = true then .tuple #[kOf k, .bool (decide (1 ≤ k ∧ k ≤ 18))] else kOf k) w := by
  obtain ⟨b, rfl, hb⟩ := h
  have hz : (zeroValue 77).run Tryd.prog w = .ok (kV 18) w := by kernel_rfl
  by_cases hk : 1 ≤ k ∧ k ≤ 18
  · obtain ⟨i, rfl⟩ : ∃ i : Nat, k = (i : Int) + 1 := ⟨k.toNat - 1, by omega⟩
    have hf := kfind_some 18 i (by omega)
    simp only [Instr.lookup, Sem.run_bind, run_underlying Tryd.underlying65, Result.andThen, MapKept.run_getObj_map hb, Sem.run_pure, MapKept.run_checkKey Tryd.underlying3 (keyI ((i : Int) + 1)), MapKept.run_findKey Tryd.underlying3 hf]
    have e : kOf ((i : Int) + 1) = kV i := by
      unfold kOf
      rw [if_pos hk]
      congr 1
    rw [e, decide_eq_true hk]
  · have hf := kfind_none 18 k hk
    simp only [Instr.lookup, Sem.run_bind, run_underlying Tryd.underlying65, Result.andThen, MapKept.run_getObj_map hb, Sem.run_pure, MapKept.run_checkKey Tryd.underlying3 (keyI k), MapKept.run_findKey Tryd.underlying3 hf, hz]
    have e : kOf k = kV 18 := by
      unfold kOf
      rw [if_neg hk]
    rw [e, decide_eq_false hk]
/-- What is told of a kind, in the words of the mathematics. -/
theorem kOf_is (k : Int) : kOf k = .agg #[.int .i64 (kidsI k), .string (bsv (Fm.befS k)), .string (bsv (Fm.betS k)), .string (bsv (Fm.behS k)), .bool (Fm.looseB k)] := by
  by_cases hk : 1 ≤ k ∧ k ≤ 18
  · obtain ⟨i, rfl⟩ : ∃ i : Nat, k = (i : Int) + 1 := ⟨k.toNat - 1, by omega⟩
    have hi : i < 18 := by omega
    have e : kOf ((i : Int) + 1) = kV i := by
      unfold kOf
      rw [if_pos hk]
      congr 1
    rw [e]
    match i, hi with
    | 0, _ => rfl
    | 1, _ => rfl
    | 2, _ => rfl
    | 3, _ => rfl
    | 4, _ => rfl
    | 5, _ => rfl
    | 6, _ => rfl
    | 7, _ => rfl
    | 8, _ => rfl
    | 9, _ => rfl
    | 10, _ => rfl
    | 11, _ => rfl
    | 12, _ => rfl
    | 13, _ => rfl
    | 14, _ => rfl
    | 15, _ => rfl
    | 16, _ => rfl
    | 17, _ => rfl
  · unfold kOf
    rw [if_neg hk]
    have e1 : kidsI k = 0 := by
      unfold kidsI Fm.kidsN
      rw [if_neg (by omega), if_neg (by omega), if_neg (by omega)]
    have e2 : Fm.befS k = [] := by
      unfold Fm.befS
      repeat rw [if_neg (by omega)]
    have e3 : Fm.betS k = [] := by
      unfold Fm.betS
      repeat rw [if_neg (by omega)]
    have e4 : Fm.behS k = [] := by
      unfold Fm.behS
      rw [if_neg (by omega)]
    have e5 : Fm.looseB k = false := by
      unfold Fm.looseB
      exact decide_eq_false (by omega)
    rw [e1, e2, e3, e4, e5]
    rfl
theorem kids_some (k : Int) : decide (1 ≤ k ∧ k ≤ 18) = (Fm.kidsN k).isSome := by
  unfold Fm.kidsN
  by_cases h1 : 1 ≤ k ∧ k ≤ 3
  · rw [if_pos h1, decide_eq_true (by omega)]
    rfl
  · rw [if_neg h1]
    by_cases h2 : k = 4 ∨ (9 ≤ k ∧ k ≤ 14)
    · rw [if_pos h2, decide_eq_true (by omega)]
      rfl
    · rw [if_neg h2]
      by_cases h3 : (5 ≤ k ∧ k ≤ 8) ∨ (15 ≤ k ∧ k ≤ 18)
      · rw [if_pos h3, decide_eq_true (by omega)]
        rfl
      · rw [if_neg h3, decide_eq_false (by omega)]
        rfl
theorem KT.km {w : World} {m : Value} (h : KT w m) : KM w m := by
  intro w' hb k
  refine ⟨bsv (Fm.befS k), bsv (Fm.betS k), bsv (Fm.behS k), Fm.looseB k, (klook (h.on hb) k true).trans ?_⟩
  rw [kOf_is, kids_some]
  rfl
set_option maxRecDepth 20000 in
set_option maxHeartbeats 4000000 in
theorem kinds_any (w : World) : Calls Tryd.prog 37 #[] w fun e w' => ∃ m, e = .returned m ∧ KT w' m ∧ Below w.heap.size w w' := by
  have hb0 : Hq (w.alloc (.map #[] 0)) w.heap.size (.map (kEs 0).toArray 0) := Hq.new w _
  have lo0 := lowAlloc w (.map #[] 0)
  obtain ⟨w1, h1, hb1, hg1⟩ := kstore _ _ 0 hb0
  have lo1 := belowq_grown lo0 hg1 (Nat.le_refl _) lo0.size
  have u1 : (Instr.mapUpdate 64 (.map (some w.heap.size)) (.int .i64 1) (.agg #[.int .i64 0, .string ⟨#[102, 97, 108, 115, 101]⟩, .string ⟨#[]⟩, .string ⟨#[]⟩, .bool false])).run Tryd.prog (w.alloc (.map #[] 0)) = .ok () w1 := h1
  clear h1 hg1 hb0 lo0
  obtain ⟨w2, h2, hb2, hg2⟩ := kstore _ _ 1 hb1
  have lo2 := belowq_grown lo1 hg2 (Nat.le_refl _) lo1.size
  have u2 : (Instr.mapUpdate 64 (.map (some w.heap.size)) (.int .i64 2) (.agg #[.int .i64 0, .string ⟨#[116, 114, 117, 101]⟩, .string ⟨#[]⟩, .string ⟨#[]⟩, .bool false])).run Tryd.prog w1 = .ok () w2 := h2
  clear h2 hg2 hb1 lo1
  obtain ⟨w3, h3, hb3, hg3⟩ := kstore _ _ 2 hb2
  have lo3 := belowq_grown lo2 hg3 (Nat.le_refl _) lo2.size
  have u3 : (Instr.mapUpdate 64 (.map (some w.heap.size)) (.int .i64 3) (.agg #[.int .i64 0, .string ⟨#[]⟩, .string ⟨#[]⟩, .string ⟨#[]⟩, .bool false])).run Tryd.prog w2 = .ok () w3 := h3
  clear h3 hg3 hb2 lo2
  obtain ⟨w4, h4, hb4, hg4⟩ := kstore _ _ 3 hb3
  have lo4 := belowq_grown lo3 hg4 (Nat.le_refl _) lo3.size
  have u4 : (Instr.mapUpdate 64 (.map (some w.heap.size)) (.int .i64 4) (.agg #[.int .i64 1, .string ⟨#[33]⟩, .string ⟨#[]⟩, .string ⟨#[]⟩, .bool false])).run Tryd.prog w3 = .ok () w4 := h4
  clear h4 hg4 hb3 lo3
  obtain ⟨w5, h5, hb5, hg5⟩ := kstore _ _ 4 hb4
  have lo5 := belowq_grown lo4 hg5 (Nat.le_refl _) lo4.size
  have u5 : (Instr.mapUpdate 64 (.map (some w.heap.size)) (.int .i64 5) (.agg #[.int .i64 2, .string ⟨#[]⟩, .string ⟨#[32, 38, 32]⟩, .string ⟨#[]⟩, .bool true])).run Tryd.prog w4 = .ok () w5 := h5
  clear h5 hg5 hb4 lo4
  obtain ⟨w6, h6, hb6, hg6⟩ := kstore _ _ 5 hb5
  have lo6 := belowq_grown lo5 hg6 (Nat.le_refl _) lo5.size
  have u6 : (Instr.mapUpdate 64 (.map (some w.heap.size)) (.int .i64 6) (.agg #[.int .i64 2, .string ⟨#[]⟩, .string ⟨#[32, 124, 32]⟩, .string ⟨#[]⟩, .bool true])).run Tryd.prog w5 = .ok () w6 := h6
  clear h6 hg6 hb5 lo5
  obtain ⟨w7, h7, hb7, hg7⟩ := kstore _ _ 6 hb6
  have lo7 := belowq_grown lo6 hg7 (Nat.le_refl _) lo6.size
  have u7 : (Instr.mapUpdate 64 (.map (some w.heap.size)) (.int .i64 7) (.agg #[.int .i64 2, .string ⟨#[]⟩, .string ⟨#[32, 45, 62, 32]⟩, .string ⟨#[]⟩, .bool true])).run Tryd.prog w6 = .ok () w7 := h7
  clear h7 hg7 hb6 lo6
  obtain ⟨w8, h8, hb8, hg8⟩ := kstore _ _ 7 hb7
  have lo8 := belowq_grown lo7 hg8 (Nat.le_refl _) lo7.size
  have u8 : (Instr.mapUpdate 64 (.map (some w.heap.size)) (.int .i64 8) (.agg #[.int .i64 2, .string ⟨#[]⟩, .string ⟨#[32, 60, 45, 62, 32]⟩, .string ⟨#[]⟩, .bool true])).run Tryd.prog w7 = .ok () w8 := h8
  clear h8 hg8 hb7 lo7
  obtain ⟨w9, h9, hb9, hg9⟩ := kstore _ _ 8 hb8
  have lo9 := belowq_grown lo8 hg9 (Nat.le_refl _) lo8.size
  have u9 : (Instr.mapUpdate 64 (.map (some w.heap.size)) (.int .i64 9) (.agg #[.int .i64 1, .string ⟨#[69, 88, 32]⟩, .string ⟨#[]⟩, .string ⟨#[]⟩, .bool false])).run Tryd.prog w8 = .ok () w9 := h9
  clear h9 hg9 hb8 lo8
  obtain ⟨w10, h10, hb10, hg10⟩ := kstore _ _ 9 hb9
  have lo10 := belowq_grown lo9 hg10 (Nat.le_refl _) lo9.size
  have u10 : (Instr.mapUpdate 64 (.map (some w.heap.size)) (.int .i64 10) (.agg #[.int .i64 1, .string ⟨#[65, 88, 32]⟩, .string ⟨#[]⟩, .string ⟨#[]⟩, .bool false])).run Tryd.prog w9 = .ok () w10 := h10
  clear h10 hg10 hb9 lo9
  obtain ⟨w11, h11, hb11, hg11⟩ := kstore _ _ 10 hb10
  have lo11 := belowq_grown lo10 hg11 (Nat.le_refl _) lo10.size
  have u11 : (Instr.mapUpdate 64 (.map (some w.heap.size)) (.int .i64 11) (.agg #[.int .i64 1, .string ⟨#[69, 70, 32]⟩, .string ⟨#[]⟩, .string ⟨#[]⟩, .bool false])).run Tryd.prog w10 = .ok () w11 := h11
  clear h11 hg11 hb10 lo10
  obtain ⟨w12, h12, hb12, hg12⟩ := kstore _ _ 11 hb11
  have lo12 := belowq_grown lo11 hg12 (Nat.le_refl _) lo11.size
  have u12 : (Instr.mapUpdate 64 (.map (some w.heap.size)) (.int .i64 12) (.agg #[.int .i64 1, .string ⟨#[65, 70, 32]⟩, .string ⟨#[]⟩, .string ⟨#[]⟩, .bool false])).run Tryd.prog w11 = .ok () w12 := h12
  clear h12 hg12 hb11 lo11
  obtain ⟨w13, h13, hb13, hg13⟩ := kstore _ _ 12 hb12
  have lo13 := belowq_grown lo12 hg13 (Nat.le_refl _) lo12.size
  have u13 : (Instr.mapUpdate 64 (.map (some w.heap.size)) (.int .i64 13) (.agg #[.int .i64 1, .string ⟨#[69, 71, 32]⟩, .string ⟨#[]⟩, .string ⟨#[]⟩, .bool false])).run Tryd.prog w12 = .ok () w13 := h13
  clear h13 hg13 hb12 lo12
  obtain ⟨w14, h14, hb14, hg14⟩ := kstore _ _ 13 hb13
  have lo14 := belowq_grown lo13 hg14 (Nat.le_refl _) lo13.size
  have u14 : (Instr.mapUpdate 64 (.map (some w.heap.size)) (.int .i64 14) (.agg #[.int .i64 1, .string ⟨#[65, 71, 32]⟩, .string ⟨#[]⟩, .string ⟨#[]⟩, .bool false])).run Tryd.prog w13 = .ok () w14 := h14
  clear h14 hg14 hb13 lo13
  obtain ⟨w15, h15, hb15, hg15⟩ := kstore _ _ 14 hb14
  have lo15 := belowq_grown lo14 hg15 (Nat.le_refl _) lo14.size
  have u15 : (Instr.mapUpdate 64 (.map (some w.heap.size)) (.int .i64 15) (.agg #[.int .i64 2, .string ⟨#[69, 32, 91]⟩, .string ⟨#[32, 85, 32]⟩, .string ⟨#[93]⟩, .bool false])).run Tryd.prog w14 = .ok () w15 := h15
  clear h15 hg15 hb14 lo14
  obtain ⟨w16, h16, hb16, hg16⟩ := kstore _ _ 15 hb15
  have lo16 := belowq_grown lo15 hg16 (Nat.le_refl _) lo15.size
  have u16 : (Instr.mapUpdate 64 (.map (some w.heap.size)) (.int .i64 16) (.agg #[.int .i64 2, .string ⟨#[65, 32, 91]⟩, .string ⟨#[32, 85, 32]⟩, .string ⟨#[93]⟩, .bool false])).run Tryd.prog w15 = .ok () w16 := h16
  clear h16 hg16 hb15 lo15
  obtain ⟨w17, h17, hb17, hg17⟩ := kstore _ _ 16 hb16
  have lo17 := belowq_grown lo16 hg17 (Nat.le_refl _) lo16.size
  have u17 : (Instr.mapUpdate 64 (.map (some w.heap.size)) (.int .i64 17) (.agg #[.int .i64 2, .string ⟨#[69, 32, 91]⟩, .string ⟨#[32, 82, 32]⟩, .string ⟨#[93]⟩, .bool false])).run Tryd.prog w16 = .ok () w17 := h17
  clear h17 hg17 hb16 lo16
  obtain ⟨w18, h18, hb18, hg18⟩ := kstore _ _ 17 hb17
  have lo18 := belowq_grown lo17 hg18 (Nat.le_refl _) lo17.size
  have u18 : (Instr.mapUpdate 64 (.map (some w.heap.size)) (.int .i64 18) (.agg #[.int .i64 2, .string ⟨#[65, 32, 91]⟩, .string ⟨#[32, 82, 32]⟩, .string ⟨#[93]⟩, .bool false])).run Tryd.prog w17 = .ok () w18 := h18
  clear h18 hg18 hb17 lo17
  have hmk : (Instr.makeMap 64 none).run Tryd.prog w = .ok (.map (some w.heap.size)) (w.alloc (.map #[] 0)) := by simp [Instr.makeMap, Result.andThen]
  go_enter Tryd.func37, Tryd.ntmps37
  go_wp2
  go_ret
  exact ⟨_, rfl, ⟨_, rfl, hb18⟩, lo18⟩
end Go.Proofs.YtlddnejjpekgeaaDoor
/- Formulas in memory: size. -/
namespace Go.Proofs.YtlddnejjpekgeaaDoor
open Go.RowKit

theorem ixF (b off n c r : Nat) (hn : n ≤ 1000000) (hr : r < n) (w : World) : (Instr.indexAt 22 (.slice (some ⟨b, off, none⟩) n c) (.int .i64 (r : Int))).run Tryd.prog w = .ok (.pointer (some ⟨b, off + r * 4, none⟩)) w := by go_simp
theorem node_small {k : Int} {nm : Tk.Bs} {lit : Int} {n : Nat} (h : Fm.nodeB k nm lit n = true) : n ≤ 2 := by
  unfold Fm.nodeB at h
  simp only [Bool.and_eq_true, decide_eq_true_eq] at h
  have h1 := h.1
  unfold Fm.kidsN at h1
  split at h1
  · injection h1 with h1; omega
  · split at h1
    · injection h1 with h1; omega
    · split at h1
      · injection h1 with h1; omega
      · cases h1
theorem sizeP_le (d m : Nat) (f : Fm.F) : Fm.sizeP d m f ≤ m := by
  rw [Fm.sizeP_is]
  split
  · rename_i h; exact h.2.2
  · omega
def SizeC (d : Nat) : Prop := ∀ (f : Fm.F) (v T : Value) (m : Nat) (z y : Int) (w : World), FV w (Lo w.heap.size) f v → KM w T → m ≤ 2000 → z = (d : Int) → y = (m : Int) →
  Calls Tryd.prog 40 #[T, v, .int .i64 z, .int .i64 y] w fun e w' => e = .returned (.int .i64 (Fm.sizeP d m f : Nat)) ∧ Below w.heap.size w w'
theorem size_0 : SizeC 0 := by
  intro f v T m z y w hf hT hm hz hy
  subst hz hy
  cases f with
  | mk k nm lit ks =>
    rw [FV] at hf
    obtain ⟨A, c, rfl, hl⟩ := hf
    have lo := lowAlloc w (Obj.cells #[.int .i64 k, .string ⟨nm.toArray⟩, .int .i64 lit, .slice A ks.length c] 24)
    clear hl hT
    go_enter Tryd.func40, Tryd.ntmps40
    go_wp2
    go_ret
    exact ⟨rfl, lo⟩
set_option maxRecDepth 10000 in
set_option maxHeartbeats 4000000 in
theorem size_step (d : Nat) (hd : d < 60) (ih0 : SizeC d) : SizeC (d + 1) := by
  have ih := Lib.hid ih0
  clear ih0
  intro f v T m z y w hf hT hm hz hy
  subst hz hy
  cases f with
  | mk k nm lit ks =>
    rw [FV] at hf
    obtain ⟨A, c, rfl, hl⟩ := hf
    have lo := lowAlloc w (Obj.cells #[.int .i64 k, .string ⟨nm.toArray⟩, .int .i64 lit, .slice A ks.length c] 24)
    have hb0 := Blk.new w 24 #[.int .i64 k, .string ⟨nm.toArray⟩, .int .i64 lit, .slice A ks.length c]
    have hd0 : (((d : Int) + 1) == 0) = false := by rw [beq_eq_false_iff_ne]; omega
    by_cases hm0 : m = 0
    · subst hm0
      have HW : Hid (Fm.sizeP (d + 1) 0 (.mk k nm lit ks) = 0) := by unfold Hid; rw [Fm.sizeP, if_pos (Or.inl rfl)]
      clear hl hT hm hb0
      go_enter Tryd.func40, Tryd.ntmps40
      go_wp2
      go_ret
      exact ⟨by rw [HW.out]; rfl, lo⟩
    have hm1 : ((m : Int) == 0) = false := by rw [beq_eq_false_iff_ne]; omega
    have hlA := hl.on lo
    have hTA := hT.on lo
    have HF := Lib.hid (fits_any k nm lit A ks.length c T _ hTA)
    clear hl hT
    go_enter Tryd.func40, Tryd.ntmps40
    go_upto_region 1 with fail
    generalize w.alloc (Obj.cells #[.int .i64 k, .string ⟨nm.toArray⟩, .int .i64 lit, .slice A ks.length c] 24) = W at *
    have hWw : w.heap.size < W.heap.size := hb0.lt
    have k0 := hb0.cell 0
    have k1 := hb0.cell 1
    have k2 := hb0.cell 2
    have k3 := hb0.cell 3
    simp only [List.getElem?_toArray, List.getElem?_cons_zero, List.getElem?_cons_succ] at k0 k1 k2 k3
    go_wp2_with fail
    refine HF.out.mono ?_
    rintro e w2 ⟨rfl, hb2⟩
    clear HF k0 k1 k2 k3
    have hbF := hb0.below hb2 hb0.lt
    have hlo := lo.trans (hb2.mono lo.size)
    have hl2 := hlA.on hb2
    have hT2 := hTA.on hb2
    clear lo hlA hTA hb0 hb2
    cases hn : Fm.nodeB k nm lit ks.length with
    | false =>
      have HW : Hid (Fm.sizeP (d + 1) m (.mk k nm lit ks) = 0) := by unfold Hid; rw [Fm.sizeP, if_pos (Or.inr hn)]
      clear hn hl2 hT2 hbF
      go_wp2
      go_ret
      exact ⟨by rw [HW.out]; rfl, hlo⟩
    | true =>
      have hk2 := node_small hn
      have HW : Hid (Fm.sizeP (d + 1) m (.mk k nm lit ks) = Fm.sizeK (Fm.sizeP d) m 1 ks) := by unfold Hid; rw [Fm.sizeP, if_neg (by rw [hn]; simp [hm0])]
      clear hn
      have k3 := hbF.cell 3
      simp only [List.getElem?_toArray, List.getElem?_cons_zero, List.getElem?_cons_succ] at k3
      go_wp2
      clear k3 hd0 hm1
      have HL := Lib.hid hl2
      have HT := Lib.hid hT2
      clear hl2 hT2 hbF
      go_loopw [9, 28] (fun a i wr => ∃ (j acc : Nat), j ≤ ks.length ∧ i = .int .i64 (j : Int) ∧ a = .int .i64 (acc : Int) ∧ 1 ≤ acc ∧ acc ≤ m ∧ Fm.sizeK (Fm.sizeP d) m 1 ks = Fm.sizeK (Fm.sizeP d) m acc (ks.drop j) ∧ Below w2.heap.size w2 wr) (fun _ i _ => ks.length - (intOf i).toNat)
      case atStart => exact ⟨0, 1, Nat.zero_le _, rfl, rfl, Nat.le_refl _, by omega, rfl, Below.refl _ _⟩
      case round =>
        obtain ⟨j, acc, hj, rfl, rfl, ha1, ham, hE, hbw⟩ := hrel
        have HE := Lib.hid hE
        clear hE
        have hBW := hlo.trans (hbw.mono hlo.size)
        by_cases hlt : j < ks.length
        · obtain ⟨b, off, A', c', hA, hK, g0, g1, g2, g3, hfv⟩ := FL.at ks A 0 (HL.out.on hbw) j hlt
          subst hA
          have hix := ixF b off ks.length c j (by omega) hlt
          rw [Nat.zero_add] at g0 g1 g2 g3
          have hlB := lowAlloc wr (Obj.cells #[.int .i64 ks[j].k, .string ⟨ks[j].nm.toArray⟩, .int .i64 ks[j].lit, .slice A' ks[j].ks.length c'] 24)
          have hbB := Blk.new wr 24 #[.int .i64 ks[j].k, .string ⟨ks[j].nm.toArray⟩, .int .i64 ks[j].lit, .slice A' ks[j].ks.length c']
          have hfB := hfv.on hlB
          have hTB := (HT.out.on hbw).on hlB
          have hBB := hBW.trans (hlB.mono hBW.size)
          have hbB2 := hbw.trans (hlB.mono hbw.size)
          go_upto_region 7 with fail
          clear hix g0 g1 g2 g3 hfv hlB hK hbw hBW
          generalize wr.alloc (Obj.cells #[.int .i64 ks[j].k, .string ⟨ks[j].nm.toArray⟩, .int .i64 ks[j].lit, .slice A' ks[j].ks.length c'] 24) = W3 at *
          have q0 := hbB.cell 0
          have q1 := hbB.cell 1
          have q2 := hbB.cell 2
          have q3 := hbB.cell 3
          simp only [List.getElem?_toArray, List.getElem?_cons_zero, List.getElem?_cons_succ] at q0 q1 q2 q3
          have hle := sizeP_le d (m - acc) ks[j]
          have HS := Lib.hid (fun z y => ih.out ks[j] _ T (m - acc) z y W3 hfB hTB (by omega))
          clear hfB hTB hbB
          go_wp2_with fail
          refine (HS.out _ _ (by first | omega | (simp only [IntKind.wrap_i64]; omega)) (by first | omega | (simp only [IntKind.wrap_i64]; omega))).mono ?_
          rintro e w4 ⟨rfl, hb4⟩
          have hBn := hBB.trans (hb4.mono hBB.size)
          have hbn := hbB2.trans (hb4.mono hbB2.size)
          clear HS q0 q1 q2 q3 hb4 hBB hbB2
          have hdr : ks.drop j = ks[j] :: ks.drop (j + 1) := List.drop_eq_getElem_cons hlt
          generalize hx : Fm.sizeP d (m - acc) ks[j] = x at *
          by_cases hx0 : x = 0
          · subst hx0
            have HZ : Hid (Fm.sizeK (Fm.sizeP d) m 1 ks = 0) := by
              unfold Hid
              rw [HE.out, hdr, Fm.sizeK, if_pos hx]
            clear hdr hx
            go_wp2
            go_ret
            refine ⟨?_, hBn⟩
            rw [HW.out, HZ.out]
            rfl
          · have hx1 : ((x : Int) == 0) = false := by rw [beq_eq_false_iff_ne]; omega
            have HZ : Hid (Fm.sizeK (Fm.sizeP d) m 1 ks = Fm.sizeK (Fm.sizeP d) m (acc + x) (ks.drop (j + 1))) := by
              unfold Hid
              rw [HE.out, hdr, Fm.sizeK, hx, if_neg hx0]
            clear hdr hx
            go_wp2
            go_roundw
            case rel => exact ⟨j + 1, acc + x, by omega, by go_num, by go_num, by omega, by omega, HZ.out, hbn⟩
            case measure => simp [intOf]; omega
        · obtain rfl : j = ks.length := by omega
          go_wp2
          go_ret
          refine ⟨?_, hBW⟩
          rw [HW.out, HE.out, List.drop_length]
          rfl
theorem size_all : ∀ d, d ≤ 60 → SizeC d
  | 0, _ => size_0
  | d + 1, h => size_step d (by omega) (size_all d (by omega))
end Go.Proofs.YtlddnejjpekgeaaDoor
/- Formulas in memory: Size and Right. -/
namespace Go.Proofs.YtlddnejjpekgeaaDoor
open Go.RowKit

theorem KT.drew {w : World} {m : Value} (h : KT w m) : KT w.drew m := h
set_option maxRecDepth 10000 in
set_option maxHeartbeats 4000000 in
theorem Size_any (f : Fm.F) (v : Value) (w : World) (hf : FV w (Lo w.heap.size) f v) :
    Calls Tryd.prog 23 #[v] w fun e w' => e = .returned (.int .i64 (Fm.sizeS f : Nat)) ∧ Below w.heap.size w w' := by
  cases f with
  | mk k nm lit ks =>
    have hf0 := hf
    rw [FV] at hf
    obtain ⟨A, c, rfl, hl⟩ := hf
    have lo := lowAlloc w (Obj.cells #[.int .i64 k, .string ⟨nm.toArray⟩, .int .i64 lit, .slice A ks.length c] 24)
    have hb0 := Blk.new w 24 #[.int .i64 k, .string ⟨nm.toArray⟩, .int .i64 lit, .slice A ks.length c]
    have hfA := hf0.on lo
    clear hl hf0
    go_enter Tryd.func23, Tryd.ntmps23
    go_upto_region 1 with fail
    generalize w.alloc (Obj.cells #[.int .i64 k, .string ⟨nm.toArray⟩, .int .i64 lit, .slice A ks.length c] 24) = W at *
    have HS : Hid (∀ V T, KT V T → Below W.heap.size W V → Calls Tryd.prog 40 #[T, .agg #[.int .i64 k, .string ⟨nm.toArray⟩, .int .i64 lit, .slice A ks.length c], .int .i64 60, .int .i64 2000] V fun e w' => e = .returned (.int .i64 (Fm.sizeS (.mk k nm lit ks) : Nat)) ∧ Below V.heap.size V w') := by
      intro V T hT hb
      have := size_all 60 (Nat.le_refl _) (.mk k nm lit ks) _ T 2000 60 2000 V (hfA.on hb) hT.km (Nat.le_refl _) rfl rfl
      rw [Fm.size_is] at this
      exact this
    have HK : Hid (∀ V, Below W.heap.size W V → (V.cell? ⟨w.heap.size, 0, none⟩ = some (.int .i64 k) ∧ V.cell? ⟨w.heap.size, 1, none⟩ = some (.string ⟨nm.toArray⟩) ∧ V.cell? ⟨w.heap.size, 2, none⟩ = some (.int .i64 lit) ∧ V.cell? ⟨w.heap.size, 3, none⟩ = some (.slice A ks.length c))) := fun V hV => by
      have hb := hb0.below hV hb0.lt
      exact ⟨hb.cell 0, hb.cell 1, hb.cell 2, hb.cell 3⟩
    have HN := Lib.hid kinds_any
    have lx := Below.refl W.heap.size W
    clear hfA hb0
    go_region_held3 (fun V => V.cell? ⟨w.heap.size, 0, none⟩ = some (.int .i64 k) ∧ V.cell? ⟨w.heap.size, 1, none⟩ = some (.string ⟨nm.toArray⟩) ∧ V.cell? ⟨w.heap.size, 2, none⟩ = some (.int .i64 lit) ∧ V.cell? ⟨w.heap.size, 3, none⟩ = some (.slice A ks.length c))
      (first | exact HK.out _ lx | exact HK.out _ lx.drew)
      (first | (go_at_call 37; (with_reducible refine (HN.out _).mono ?_); rintro e w1 ⟨T, rfl, hT, hb1⟩; have hT1 := hT; replace lx := lx.drew.trans (hb1.mono lx.size))
             | (go_at_call 40; (with_reducible refine (HS.out _ _ hT1.drew lx.drew).mono ?_); rintro e w2 ⟨rfl, hb2⟩; replace lx := lx.drew.trans (hb2.mono lx.size))
             | (go_at_call 40; (with_reducible refine (HS.out _ _ hT1 lx).mono ?_); rintro e w2 ⟨rfl, hb2⟩; replace lx := lx.trans (hb2.mono lx.size)))
    go_wp2
    go_ret
    exact ⟨rfl, lo.trans (lx.mono lo.size)⟩
set_option maxRecDepth 10000 in
set_option maxHeartbeats 4000000 in
theorem Right_any (f : Fm.F) (v : Value) (w : World) (hf : FV w (Lo w.heap.size) f v) :
    Calls Tryd.prog 29 #[v] w fun e w' => e = .returned (.bool (Fm.validB f)) ∧ Below w.heap.size w w' := by
  cases f with
  | mk k nm lit ks =>
    have hf0 := hf
    rw [FV] at hf
    obtain ⟨A, c, rfl, hl⟩ := hf
    have lo := lowAlloc w (Obj.cells #[.int .i64 k, .string ⟨nm.toArray⟩, .int .i64 lit, .slice A ks.length c] 24)
    have hb0 := Blk.new w 24 #[.int .i64 k, .string ⟨nm.toArray⟩, .int .i64 lit, .slice A ks.length c]
    have HS := Lib.hid (Size_any (.mk k nm lit ks) _ _ (hf0.on lo))
    have HP := Lib.hid (Fm.size_pos (.mk k nm lit ks))
    clear hl hf0
    go_enter Tryd.func29, Tryd.ntmps29
    go_upto_region 1 with fail
    generalize w.alloc (Obj.cells #[.int .i64 k, .string ⟨nm.toArray⟩, .int .i64 lit, .slice A ks.length c] 24) = W at *
    have k0 := hb0.cell 0
    have k1 := hb0.cell 1
    have k2 := hb0.cell 2
    have k3 := hb0.cell 3
    simp only [List.getElem?_toArray, List.getElem?_cons_zero, List.getElem?_cons_succ] at k0 k1 k2 k3
    go_wp2_with fail
    refine HS.out.mono ?_
    rintro e w2 ⟨rfl, hb2⟩
    clear HS k0 k1 k2 k3
    generalize Fm.sizeS (.mk k nm lit ks) = x at *
    have hx : decide ((0 : Int) < (x : Int)) = Fm.validB (.mk k nm lit ks) := by rw [← HP.out]; simp
    have hx2 : decide (0 < x) = Fm.validB (.mk k nm lit ks) := HP.out
    clear HP
    generalize hv : Fm.validB (.mk k nm lit ks) = b at *
    have HV := Lib.hid hv
    clear hv
    go_wp2
    go_ret
    exact ⟨by rw [HV.out]; rfl, lo.trans (hb2.mono lo.size)⟩
theorem rightC : RightC := fun _ f v W hf hK => Right_any f v W (hf.more hK)
end Go.Proofs.YtlddnejjpekgeaaDoor
