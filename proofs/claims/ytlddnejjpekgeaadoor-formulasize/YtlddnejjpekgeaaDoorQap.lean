/- The reader of formulas: constant, unary, enclosed, path. -/
import Derived.Test.YtlddnejjpekgeaaDoorQao
set_option linter.unusedSimpArgs false
set_option linter.unusedVariables false
namespace Go.Proofs.YtlddnejjpekgeaaDoor
open Go.RowKit

theorem ResP.bad {R : Nat} {w w' : World} {k a : Nat} (h : RKeep R w w') : ResP R w (.error (k, a)) (FaultE k a) w' := ⟨rfl, h⟩

set_option maxRecDepth 10000 in
set_option maxHeartbeats 4000000 in
theorem constant_any (R : Nat) (k : Int) (t : Tk.Tok) (ts : List Tk.Tok) (w : World) (h : PR w R (t :: ts)) (hk : t.k ≠ 0) :
    Calls Tryd.prog 99 #[.pointer (some ⟨R, 0, none⟩), .int .i64 k] w (ResP R w (.ok (Fm.leaf k, ts))) := by
  have hR0 := h.lt
  have lo := lowAlloc w (Obj.cells #[.int .i64 0, .string ⟨#[]⟩, .int .i64 0, .slice none 0 0] 24)
  have hk0 := (RKeep.refl R w).below lo
  have hb0 := Blk.new w 24 #[.int .i64 0, .string ⟨#[]⟩, .int .i64 0, .slice none 0 0]
  have h1 := h.below lo
  have hg0R : w.heap.size ≠ R := by omega
  clear h lo
  go_enter Tryd.func99, Tryd.ntmps99
  go_upto_region 1 with fail
  generalize w.alloc (Obj.cells #[.int .i64 0, .string ⟨#[]⟩, .int .i64 0, .slice none 0 0] 24) = W at *
  have hWw : w.heap.size < W.heap.size := hb0.lt
  have HSK := Lib.hid (skip_any R t ts W h1 hk)
  go_wp2_with fail
  refine HSK.out.mono ?_
  rintro e w1 ⟨rfl, hR1, hk1⟩
  clear HSK
  go_wp2_with fail
  refine (of_any k none 0 0 w1).mono ?_
  rintro e w2 ⟨rfl, hb5⟩
  have hW1 : W.heap.size ≤ w1.heap.size := hk1.size
  have hF : FV w2 (Fr W.heap.size w2.heap.size) (Fm.leaf k) (.agg #[.int .i64 k, .string ⟨#[]⟩, .int .i64 0, .slice none 0 0]) := FV.mk (FL.nil ..)
  have hR := hR1.below hb5
  have hk := (hk0.trans hk1).below hb5
  have hb := (hk1.blkOf hb0 hg0R).below hb5 (hk1.blkOf hb0 hg0R).lt
  clear hb5 hR1 hk1 hk0 hb0 h1
  have hRg : R < w.heap.size := hR0
  have hKn : ¬ (W.heap.size ≤ w.heap.size ∧ w.heap.size < w2.heap.size) := by omega
  have hF1 : FV w2 (Fr W.heap.size w2.heap.size) _ (.agg #[.int .i64 k, .string ⟨#[]⟩, .int .i64 0, .slice none 0 0]) := hF
  have hF9 := (((hF1.far (p := ⟨w.heap.size, 0, none⟩) hKn (.int .i64 k)).far (p := ⟨w.heap.size, 1, none⟩) hKn (.string ⟨#[]⟩)).far (p := ⟨w.heap.size, 2, none⟩) hKn (.int .i64 0)).far (p := ⟨w.heap.size, 3, none⟩) hKn (.slice none 0 0)
  have hF9b := hF9.more (K' := Fr w.heap.size (((((w2).setCell ⟨w.heap.size, 0, none⟩ (.int .i64 k)).setCell ⟨w.heap.size, 1, none⟩ (.string ⟨#[]⟩)).setCell ⟨w.heap.size, 2, none⟩ (.int .i64 0)).setCell ⟨w.heap.size, 3, none⟩ (.slice none 0 0)).heap.size) (fun b hb => ⟨by have := hb.1; omega, by have := hb.2; simp; omega⟩)
  have hR9 : PR (((((w2).setCell ⟨w.heap.size, 0, none⟩ (.int .i64 k)).setCell ⟨w.heap.size, 1, none⟩ (.string ⟨#[]⟩)).setCell ⟨w.heap.size, 2, none⟩ (.int .i64 0)).setCell ⟨w.heap.size, 3, none⟩ (.slice none 0 0)) R _ := (((hR.far (p := ⟨w.heap.size, 0, none⟩) hRg _).far (p := ⟨w.heap.size, 1, none⟩) hRg _).far (p := ⟨w.heap.size, 2, none⟩) hRg _).far (p := ⟨w.heap.size, 3, none⟩) hRg _
  have hk9 : RKeep R w (((((w2).setCell ⟨w.heap.size, 0, none⟩ (.int .i64 k)).setCell ⟨w.heap.size, 1, none⟩ (.string ⟨#[]⟩)).setCell ⟨w.heap.size, 2, none⟩ (.int .i64 0)).setCell ⟨w.heap.size, 3, none⟩ (.slice none 0 0)) := (((hk.far (p := ⟨w.heap.size, 0, none⟩) (Nat.le_refl _) _).far (p := ⟨w.heap.size, 1, none⟩) (Nat.le_refl _) _).far (p := ⟨w.heap.size, 2, none⟩) (Nat.le_refl _) _).far (p := ⟨w.heap.size, 3, none⟩) (Nat.le_refl _) _
  have hC9 : Blk (((((w2).setCell ⟨w.heap.size, 0, none⟩ (.int .i64 k)).setCell ⟨w.heap.size, 1, none⟩ (.string ⟨#[]⟩)).setCell ⟨w.heap.size, 2, none⟩ (.int .i64 0)).setCell ⟨w.heap.size, 3, none⟩ (.slice none 0 0)) w.heap.size 24 #[.int .i64 k, .string ⟨#[]⟩, .int .i64 0, .slice none 0 0] := by simpa using (((hb.put 0 (.int .i64 k)).put 1 (.string ⟨#[]⟩)).put 2 (.int .i64 0)).put 3 (.slice none 0 0)
  have HC9 := Lib.hid hC9
  have HR9 := Lib.hid hR9
  have HK9 := Lib.hid hk9
  have HF9 := Lib.hid hF9b
  have r0 := hb.cell 0
  have r1 := hb.cell 1
  have r2 := hb.cell 2
  have r3 := hb.cell 3
  simp only [List.getElem?_toArray, List.getElem?_cons_zero, List.getElem?_cons_succ] at r0 r1 r2 r3
  have q0 := hb.frozen 0
  have q1 := hb.frozen 1
  have q2 := hb.frozen 2
  have q3 := hb.frozen 3
  clear hF hF1 hF9 hF9b hR hR9 hk hk9 hC9 hb hKn
  go_wp2
  clear r0 r1 r2 r3 q0 q1 q2 q3
  generalize ((((w2).setCell ⟨w.heap.size, 0, none⟩ (.int .i64 k)).setCell ⟨w.heap.size, 1, none⟩ (.string ⟨#[]⟩)).setCell ⟨w.heap.size, 2, none⟩ (.int .i64 0)).setCell ⟨w.heap.size, 3, none⟩ (.slice none 0 0) = V9 at *
  have t0 := HC9.out.cell 0
  have t1 := HC9.out.cell 1
  have t2 := HC9.out.cell 2
  have t3 := HC9.out.cell 3
  simp only [List.getElem?_toArray, List.getElem?_cons_zero, List.getElem?_cons_succ] at t0 t1 t2 t3
  refine bodyPost_ret (v := .agg #[.int .i64 k, .string ⟨#[]⟩, .int .i64 0, .slice none 0 0]) (by simp [results, Tryd.results99, go_sem, t0, t1, t2, t3]) rfl ?_
  skip
  exact ⟨_, rfl, HF9.out, HR9.out, HK9.out⟩

set_option maxRecDepth 10000 in
set_option maxHeartbeats 4000000 in
theorem unary_any (R n : Nat) (HP : PrimC R n) (k : Int) (d : Nat) (t : Tk.Tok) (ts : List Tk.Tok) (w : World) (hn : ts.length ≤ n) (hd : d + 1 + ts.length ≤ 1000000) (h : PR w R (t :: ts)) (hk : t.k ≠ 0) :
    Calls Tryd.prog 100 #[.pointer (some ⟨R, 0, none⟩), .int .i64 k, .int .i64 (d : Int)] w (ResP R w (Fm.unaS (Fm.pP n) k d ts)) := by
  have hR0 := h.lt
  have lo := lowAlloc w (Obj.cells #[.int .i64 0, .string ⟨#[]⟩, .int .i64 0, .slice none 0 0] 24)
  have hk0 := (RKeep.refl R w).below lo
  have hb0 := Blk.new w 24 #[.int .i64 0, .string ⟨#[]⟩, .int .i64 0, .slice none 0 0]
  have h1 := h.below lo
  have hg0R : w.heap.size ≠ R := by omega
  clear h lo
  go_enter Tryd.func100, Tryd.ntmps100
  go_upto_region 1 with fail
  generalize w.alloc (Obj.cells #[.int .i64 0, .string ⟨#[]⟩, .int .i64 0, .slice none 0 0] 24) = W at *
  have hWw : w.heap.size < W.heap.size := hb0.lt
  have hw : IntKind.i64.wrap ((d : Int) + 1) = (d : Int) + 1 := by rw [IntKind.wrap_i64]; omega
  have HSK := Lib.hid (skip_any R t ts W h1 hk)
  go_wp2_with fail
  refine HSK.out.mono ?_
  rintro e w1 ⟨rfl, hR1, hk1⟩
  clear HSK
  have HFO : Hid (Calls Tryd.prog 98 #[.pointer (some ⟨R, 0, none⟩), .int .i64 ((d : Int) + 1)] w1 (ResP R w1 (Fm.pP n (d + 1) ts))) := by
    have := HP (d + 1) ts w1 hn hd hR1
    rwa [Int.natCast_add, Int.natCast_one] at this
  go_wp2_with fail
  refine HFO.out.mono ?_
  intro e w2 hQ
  rcases hq : Fm.pP n (d + 1) ts with ⟨ka, aa⟩ | ⟨f, r⟩
  · rw [hq] at hQ
    obtain ⟨rfl, hk2⟩ := hQ
    refine ⟨rfl, ?_⟩
    rw [Fm.unaS, hq]
    exact ⟨rfl, (hk0.trans hk1).trans hk2⟩
  rw [hq] at hQ
  obtain ⟨v, rfl, hF2, hR2, hk2⟩ := hQ
  obtain ⟨k1, s1, l1, A1, n1, c1, rfl⟩ := hF2.four
  have HQE : Hid (Fm.unaS (Fm.pP n) k d ts = .ok (Fm.un k f, r)) := by unfold Hid; rw [Fm.unaS, hq]
  have hW1 : W.heap.size ≤ w1.heap.size := hk1.size
  have hW2 : w1.heap.size ≤ w2.heap.size := hk2.size
  have hkA := (hk0.trans hk1).trans hk2
  have hbA := hk2.blkOf (hk1.blkOf hb0 hg0R) hg0R
  have hbx := Blk.new w2 24 #[.int .i64 k1, .string s1, .int .i64 l1, .slice A1 n1 c1]
  have lo3 := lowAlloc w2 (Obj.cells #[.int .i64 k1, .string s1, .int .i64 l1, .slice A1 n1 c1] 24)
  have hF3 := hF2.low (fun b hb => hb.2) lo3
  have hR3 := hR2.below lo3
  have hk3 := hkA.below lo3
  have hb3 := hbA.below lo3 hbA.lt
  have hw3 : w2.heap.size < (w2.alloc (Obj.cells #[.int .i64 k1, .string s1, .int .i64 l1, .slice A1 n1 c1] 24)).heap.size := by simp
  clear hq HFO HP hF2 hR2 hk2 hkA hbA lo3 hk0 hk1 hb0 h1 hR1
  go_wp2_with fail
  generalize w2.alloc (Obj.cells #[.int .i64 k1, .string s1, .int .i64 l1, .slice A1 n1 c1] 24) = W3 at *
  refine (of_any k _ 1 1 W3).mono ?_
  rintro e w4 ⟨rfl, hb5⟩
  have hw4 : W3.heap.size ≤ w4.heap.size := hb5.size
  have hb14 := hbx.below hb5 hbx.lt
  have hF4 := hF3.low (fun b hb => by have := hb.2; omega) hb5
  have hFL : FL w4 (Fr W.heap.size w4.heap.size) [f] (some ⟨w2.heap.size, 0, none⟩) 0 := FL.one hb14 ⟨by omega, by omega⟩ (hF4.more (fun b hb => by have h1 := hb.1; have h2 := hb.2; exact ⟨by omega, by omega⟩))
  have hF : FV w4 (Fr W.heap.size w4.heap.size) (Fm.un k f) (.agg #[.int .i64 k, .string ⟨#[]⟩, .int .i64 0, .slice (some ⟨w2.heap.size, 0, none⟩) 1 1]) := FV.mk hFL
  have hR := hR3.below hb5
  have hk := hk3.below hb5
  have hb := hb3.below hb5 hb3.lt
  clear hb5 hb14 hF4 hFL hF3 hR3 hk3 hb3 hbx
  have hRg : R < w.heap.size := hR0
  have hKn : ¬ (W.heap.size ≤ w.heap.size ∧ w.heap.size < w4.heap.size) := by omega
  have hF1 : FV w4 (Fr W.heap.size w4.heap.size) _ (.agg #[.int .i64 k, .string ⟨#[]⟩, .int .i64 0, .slice (some ⟨w2.heap.size, 0, none⟩) 1 1]) := hF
  have hF9 := (((hF1.far (p := ⟨w.heap.size, 0, none⟩) hKn (.int .i64 k)).far (p := ⟨w.heap.size, 1, none⟩) hKn (.string ⟨#[]⟩)).far (p := ⟨w.heap.size, 2, none⟩) hKn (.int .i64 0)).far (p := ⟨w.heap.size, 3, none⟩) hKn (.slice (some ⟨w2.heap.size, 0, none⟩) 1 1)
  have hF9b := hF9.more (K' := Fr w.heap.size (((((w4).setCell ⟨w.heap.size, 0, none⟩ (.int .i64 k)).setCell ⟨w.heap.size, 1, none⟩ (.string ⟨#[]⟩)).setCell ⟨w.heap.size, 2, none⟩ (.int .i64 0)).setCell ⟨w.heap.size, 3, none⟩ (.slice (some ⟨w2.heap.size, 0, none⟩) 1 1)).heap.size) (fun b hb => ⟨by have := hb.1; omega, by have := hb.2; simp; omega⟩)
  have hR9 : PR (((((w4).setCell ⟨w.heap.size, 0, none⟩ (.int .i64 k)).setCell ⟨w.heap.size, 1, none⟩ (.string ⟨#[]⟩)).setCell ⟨w.heap.size, 2, none⟩ (.int .i64 0)).setCell ⟨w.heap.size, 3, none⟩ (.slice (some ⟨w2.heap.size, 0, none⟩) 1 1)) R _ := (((hR.far (p := ⟨w.heap.size, 0, none⟩) hRg _).far (p := ⟨w.heap.size, 1, none⟩) hRg _).far (p := ⟨w.heap.size, 2, none⟩) hRg _).far (p := ⟨w.heap.size, 3, none⟩) hRg _
  have hk9 : RKeep R w (((((w4).setCell ⟨w.heap.size, 0, none⟩ (.int .i64 k)).setCell ⟨w.heap.size, 1, none⟩ (.string ⟨#[]⟩)).setCell ⟨w.heap.size, 2, none⟩ (.int .i64 0)).setCell ⟨w.heap.size, 3, none⟩ (.slice (some ⟨w2.heap.size, 0, none⟩) 1 1)) := (((hk.far (p := ⟨w.heap.size, 0, none⟩) (Nat.le_refl _) _).far (p := ⟨w.heap.size, 1, none⟩) (Nat.le_refl _) _).far (p := ⟨w.heap.size, 2, none⟩) (Nat.le_refl _) _).far (p := ⟨w.heap.size, 3, none⟩) (Nat.le_refl _) _
  have hC9 : Blk (((((w4).setCell ⟨w.heap.size, 0, none⟩ (.int .i64 k)).setCell ⟨w.heap.size, 1, none⟩ (.string ⟨#[]⟩)).setCell ⟨w.heap.size, 2, none⟩ (.int .i64 0)).setCell ⟨w.heap.size, 3, none⟩ (.slice (some ⟨w2.heap.size, 0, none⟩) 1 1)) w.heap.size 24 #[.int .i64 k, .string ⟨#[]⟩, .int .i64 0, .slice (some ⟨w2.heap.size, 0, none⟩) 1 1] := by simpa using (((hb.put 0 (.int .i64 k)).put 1 (.string ⟨#[]⟩)).put 2 (.int .i64 0)).put 3 (.slice (some ⟨w2.heap.size, 0, none⟩) 1 1)
  have HC9 := Lib.hid hC9
  have HR9 := Lib.hid hR9
  have HK9 := Lib.hid hk9
  have HF9 := Lib.hid hF9b
  have r0 := hb.cell 0
  have r1 := hb.cell 1
  have r2 := hb.cell 2
  have r3 := hb.cell 3
  simp only [List.getElem?_toArray, List.getElem?_cons_zero, List.getElem?_cons_succ] at r0 r1 r2 r3
  have q0 := hb.frozen 0
  have q1 := hb.frozen 1
  have q2 := hb.frozen 2
  have q3 := hb.frozen 3
  clear hF hF1 hF9 hF9b hR hR9 hk hk9 hC9 hb hKn
  go_wp2
  clear r0 r1 r2 r3 q0 q1 q2 q3
  generalize ((((w4).setCell ⟨w.heap.size, 0, none⟩ (.int .i64 k)).setCell ⟨w.heap.size, 1, none⟩ (.string ⟨#[]⟩)).setCell ⟨w.heap.size, 2, none⟩ (.int .i64 0)).setCell ⟨w.heap.size, 3, none⟩ (.slice (some ⟨w2.heap.size, 0, none⟩) 1 1) = V9 at *
  have t0 := HC9.out.cell 0
  have t1 := HC9.out.cell 1
  have t2 := HC9.out.cell 2
  have t3 := HC9.out.cell 3
  simp only [List.getElem?_toArray, List.getElem?_cons_zero, List.getElem?_cons_succ] at t0 t1 t2 t3
  refine bodyPost_ret (v := .agg #[.int .i64 k, .string ⟨#[]⟩, .int .i64 0, .slice (some ⟨w2.heap.size, 0, none⟩) 1 1]) (by simp [results, Tryd.results100, go_sem, t0, t1, t2, t3]) rfl ?_
  rw [HQE.out]
  exact ⟨_, rfl, HF9.out, HR9.out, HK9.out⟩

set_option maxRecDepth 10000 in
set_option maxHeartbeats 4000000 in
theorem enclosed_any (R n : Nat) (HP0 : PrimC R n) (d : Nat) (t : Tk.Tok) (ts : List Tk.Tok) (w : World) (hn : ts.length ≤ n) (hd : d + 1 + ts.length ≤ 1000000) (h : PR w R (t :: ts)) (hk : t.k ≠ 0) :
    Calls Tryd.prog 102 #[.pointer (some ⟨R, 0, none⟩), .int .i64 (d : Int)] w (ResP R w (Fm.encS (Fm.wholeG (Fm.pP n)) d ts)) := by
  have HP := Lib.hid HP0
  clear HP0
  have hR0 := h.lt
  have lo := lowAlloc w (Obj.cells #[.int .i64 0, .string ⟨#[]⟩, .int .i64 0, .slice none 0 0] 24)
  have hk0 := (RKeep.refl R w).below lo
  have hb0 := Blk.new w 24 #[.int .i64 0, .string ⟨#[]⟩, .int .i64 0, .slice none 0 0]
  have h1 := h.below lo
  have hg0R : w.heap.size ≠ R := by omega
  clear h lo
  go_enter Tryd.func102, Tryd.ntmps102
  go_upto_region 1 with fail
  generalize w.alloc (Obj.cells #[.int .i64 0, .string ⟨#[]⟩, .int .i64 0, .slice none 0 0] 24) = W at *
  have hWw : w.heap.size < W.heap.size := hb0.lt
  have hw : IntKind.i64.wrap ((d : Int) + 1) = (d : Int) + 1 := by rw [IntKind.wrap_i64]; omega
  have HSK := Lib.hid (skip_any R t ts W h1 hk)
  go_wp2_with fail
  refine HSK.out.mono ?_
  rintro e w1 ⟨rfl, hR1, hk1⟩
  clear HSK
  have HB : Hid (Calls Tryd.prog 74 #[.pointer (some ⟨R, 0, none⟩), .int .i64 ((d : Int) + 1)] w1 (ResP R w1 (Fm.wholeG (Fm.pP n) (d + 1) ts))) := by
    have := formula_any R n HP.out (d + 1) ts w1 (by omega) (by omega) hR1
    rwa [Int.natCast_add, Int.natCast_one] at this
  go_wp2_with fail
  refine HB.out.mono ?_
  intro e w2 hQ
  rcases hqB : Fm.wholeG (Fm.pP n) (d + 1) ts with ⟨ka, aa⟩ | ⟨f, r⟩
  · rw [hqB] at hQ
    obtain ⟨rfl, hQ⟩ := hQ
    refine ⟨rfl, ?_⟩
    rw [Fm.encS, hqB]
    exact ⟨rfl, (hk0.trans hk1).trans hQ⟩
  rw [hqB] at hQ
  obtain ⟨v, rfl, hFB, hRB, hkB⟩ := hQ
  obtain ⟨k1, s1, l1, A1, n1, c1, rfl⟩ := hFB.four
  have hlB : r.length + 1 ≤ ts.length := by
    have := Fm.whole_eats (Fm.pP_eats n) (d + 1) _ _ _ hqB
    have := Fm.cnt_pos f
    omega
  clear HB
  have hW1 : W.heap.size ≤ w1.heap.size := hk1.size
  have hW2 : w1.heap.size ≤ w2.heap.size := hkB.size
  have HEE : Hid (Fm.encS (Fm.wholeG (Fm.pP n)) d ts = match Fm.mustT [41] r with | .error e => .error e | .ok r' => .ok (f, r')) := by
    unfold Hid
    rw [Fm.encS, hqB]
    rfl
  have hkb := (hk0.trans hk1).trans hkB
  have hbb := hkB.blkOf (hk1.blkOf hb0 hg0R) hg0R
  have loC := lowAlloc w2 (Obj.cells #[.int .i64 k1, .string s1, .int .i64 l1, .slice A1 n1 c1] 24)
  have hbxC := Blk.new w2 24 #[.int .i64 k1, .string s1, .int .i64 l1, .slice A1 n1 c1]
  have hRC := hRB.below loC
  have hkC := hkb.below loC
  have hbC := hbb.below loC hbb.lt
  have hFC := hFB.low (fun b hb => by have := hb.2; omega) loC
  have hgCR : w2.heap.size ≠ R := by omega
  have hgCl : w2.heap.size < (w2.alloc (Obj.cells #[.int .i64 k1, .string s1, .int .i64 l1, .slice A1 n1 c1] 24)).heap.size := by simp
  clear loC hRB hkB hk1 hk0 hb0 h1 hR1 hkb hbb hFB hqB
  go_upto_region 3 with fail
  generalize w2.alloc (Obj.cells #[.int .i64 k1, .string s1, .int .i64 l1, .slice A1 n1 c1] 24) = W2 at *
  generalize w2.heap.size = g5 at *
  have HD := Lib.hid (must_any R [41] r W2 hRC (by decide))
  go_wp2_with fail
  refine HD.out.mono ?_
  intro e w3 hQ
  rcases hqD : Fm.mustT [41] r with ⟨ka, aa⟩ | r'
  · rw [hqD] at hQ
    obtain ⟨rfl, hQ⟩ := hQ
    refine ⟨rfl, ?_⟩
    rw [HEE.out, hqD]
    exact ⟨rfl, hkC.trans hQ⟩
  rw [hqD] at hQ
  obtain ⟨rfl, hRD, hkD⟩ := hQ
  have hlD := Fm.must_len (by decide) hqD
  clear HD
  have HQE : Hid (Fm.encS (Fm.wholeG (Fm.pP n)) d ts = .ok (f, r')) := by unfold Hid; rw [HEE.out, hqD]
  have hW3 : W2.heap.size ≤ w3.heap.size := hkD.size
  have hbx3 := hkD.blkOf hbxC hgCR
  have y0 := hbx3.cell 0
  have y1 := hbx3.cell 1
  have y2 := hbx3.cell 2
  have y3 := hbx3.cell 3
  simp only [List.getElem?_toArray, List.getElem?_cons_zero, List.getElem?_cons_succ] at y0 y1 y2 y3
  have hF := (hFC.rk (fun b hb => ⟨by have := hb.2; omega, by have := hb.1; omega⟩) hkD).more (K' := Fr W.heap.size w3.heap.size) (fun b hb => ⟨by have := hb.1; omega, by have := hb.2; omega⟩)
  have hR := hRD
  have hk := hkC.trans hkD
  have hb := hkD.blkOf hbC hg0R
  clear hFC hRC hRD hkC hkD hbC hbxC hbx3 hqD HEE
  have hRg : R < w.heap.size := hR0
  have hKn : ¬ (W.heap.size ≤ w.heap.size ∧ w.heap.size < w3.heap.size) := by omega
  have hF1 : FV w3 (Fr W.heap.size w3.heap.size) _ (.agg #[.int .i64 k1, .string s1, .int .i64 l1, .slice A1 n1 c1]) := hF
  have hF9 := (((hF1.far (p := ⟨w.heap.size, 0, none⟩) hKn (.int .i64 k1)).far (p := ⟨w.heap.size, 1, none⟩) hKn (.string s1)).far (p := ⟨w.heap.size, 2, none⟩) hKn (.int .i64 l1)).far (p := ⟨w.heap.size, 3, none⟩) hKn (.slice A1 n1 c1)
  have hF9b := hF9.more (K' := Fr w.heap.size (((((w3).setCell ⟨w.heap.size, 0, none⟩ (.int .i64 k1)).setCell ⟨w.heap.size, 1, none⟩ (.string s1)).setCell ⟨w.heap.size, 2, none⟩ (.int .i64 l1)).setCell ⟨w.heap.size, 3, none⟩ (.slice A1 n1 c1)).heap.size) (fun b hb => ⟨by have := hb.1; omega, by have := hb.2; simp; omega⟩)
  have hR9 : PR (((((w3).setCell ⟨w.heap.size, 0, none⟩ (.int .i64 k1)).setCell ⟨w.heap.size, 1, none⟩ (.string s1)).setCell ⟨w.heap.size, 2, none⟩ (.int .i64 l1)).setCell ⟨w.heap.size, 3, none⟩ (.slice A1 n1 c1)) R _ := (((hR.far (p := ⟨w.heap.size, 0, none⟩) hRg _).far (p := ⟨w.heap.size, 1, none⟩) hRg _).far (p := ⟨w.heap.size, 2, none⟩) hRg _).far (p := ⟨w.heap.size, 3, none⟩) hRg _
  have hk9 : RKeep R w (((((w3).setCell ⟨w.heap.size, 0, none⟩ (.int .i64 k1)).setCell ⟨w.heap.size, 1, none⟩ (.string s1)).setCell ⟨w.heap.size, 2, none⟩ (.int .i64 l1)).setCell ⟨w.heap.size, 3, none⟩ (.slice A1 n1 c1)) := (((hk.far (p := ⟨w.heap.size, 0, none⟩) (Nat.le_refl _) _).far (p := ⟨w.heap.size, 1, none⟩) (Nat.le_refl _) _).far (p := ⟨w.heap.size, 2, none⟩) (Nat.le_refl _) _).far (p := ⟨w.heap.size, 3, none⟩) (Nat.le_refl _) _
  have hC9 : Blk (((((w3).setCell ⟨w.heap.size, 0, none⟩ (.int .i64 k1)).setCell ⟨w.heap.size, 1, none⟩ (.string s1)).setCell ⟨w.heap.size, 2, none⟩ (.int .i64 l1)).setCell ⟨w.heap.size, 3, none⟩ (.slice A1 n1 c1)) w.heap.size 24 #[.int .i64 k1, .string s1, .int .i64 l1, .slice A1 n1 c1] := by simpa using (((hb.put 0 (.int .i64 k1)).put 1 (.string s1)).put 2 (.int .i64 l1)).put 3 (.slice A1 n1 c1)
  have HC9 := Lib.hid hC9
  have HR9 := Lib.hid hR9
  have HK9 := Lib.hid hk9
  have HF9 := Lib.hid hF9b
  have r0 := hb.cell 0
  have r1 := hb.cell 1
  have r2 := hb.cell 2
  have r3 := hb.cell 3
  simp only [List.getElem?_toArray, List.getElem?_cons_zero, List.getElem?_cons_succ] at r0 r1 r2 r3
  have q0 := hb.frozen 0
  have q1 := hb.frozen 1
  have q2 := hb.frozen 2
  have q3 := hb.frozen 3
  clear hF hF1 hF9 hF9b hR hR9 hk hk9 hC9 hb hKn
  go_wp2
  clear r0 r1 r2 r3 q0 q1 q2 q3
  generalize ((((w3).setCell ⟨w.heap.size, 0, none⟩ (.int .i64 k1)).setCell ⟨w.heap.size, 1, none⟩ (.string s1)).setCell ⟨w.heap.size, 2, none⟩ (.int .i64 l1)).setCell ⟨w.heap.size, 3, none⟩ (.slice A1 n1 c1) = V9 at *
  have t0 := HC9.out.cell 0
  have t1 := HC9.out.cell 1
  have t2 := HC9.out.cell 2
  have t3 := HC9.out.cell 3
  simp only [List.getElem?_toArray, List.getElem?_cons_zero, List.getElem?_cons_succ] at t0 t1 t2 t3
  refine bodyPost_ret (v := .agg #[.int .i64 k1, .string s1, .int .i64 l1, .slice A1 n1 c1]) (by simp [results, Tryd.results102, go_sem, t0, t1, t2, t3]) rfl ?_
  rw [HQE.out]
  exact ⟨_, rfl, HF9.out, HR9.out, HK9.out⟩

set_option maxRecDepth 10000 in
set_option maxHeartbeats 4000000 in
theorem path_any (R n : Nat) (HP0 : PrimC R n) (u v0 : Int) (d : Nat) (t : Tk.Tok) (ts : List Tk.Tok) (w : World) (hn : ts.length ≤ n) (hd : d + 1 + ts.length ≤ 1000000) (h : PR w R (t :: ts)) (hk : t.k ≠ 0) :
    Calls Tryd.prog 101 #[.pointer (some ⟨R, 0, none⟩), .int .i64 u, .int .i64 v0, .int .i64 (d : Int)] w (ResP R w (Fm.pathS (Fm.wholeG (Fm.pP n)) u v0 d ts)) := by
  have HP := Lib.hid HP0
  clear HP0
  have hnot : ∀ (x : Bool) (w : World), (Op.unary .not (.bool x)).run Tryd.prog w = .ok (.bool (!x)) w := fun _ _ => rfl
  have hR0 := h.lt
  have lo := lowAlloc w (Obj.cells #[.int .i64 0, .string ⟨#[]⟩, .int .i64 0, .slice none 0 0] 24)
  have hk0 := (RKeep.refl R w).below lo
  have hb0 := Blk.new w 24 #[.int .i64 0, .string ⟨#[]⟩, .int .i64 0, .slice none 0 0]
  have h1 := h.below lo
  have hg0R : w.heap.size ≠ R := by omega
  clear h lo
  go_enter Tryd.func101, Tryd.ntmps101
  go_upto_region 1 with fail
  generalize w.alloc (Obj.cells #[.int .i64 0, .string ⟨#[]⟩, .int .i64 0, .slice none 0 0] 24) = W at *
  have hWw : w.heap.size < W.heap.size := hb0.lt
  have hw : IntKind.i64.wrap ((d : Int) + 1) = (d : Int) + 1 := by rw [IntKind.wrap_i64]; omega
  have HSK := Lib.hid (skip_any R t ts W h1 hk)
  go_wp2_with fail
  refine HSK.out.mono ?_
  rintro e w1 ⟨rfl, hR1, hk1⟩
  clear HSK
  have HA := Lib.hid (must_any R [91] ts w1 hR1 (by decide))
  go_wp2_with fail
  refine HA.out.mono ?_
  intro e w2 hQ
  rcases hqA : Fm.mustT [91] ts with ⟨ka, aa⟩ | r1
  · rw [hqA] at hQ
    obtain ⟨rfl, hQ⟩ := hQ
    refine ⟨rfl, ?_⟩
    rw [Fm.pathS, hqA]
    exact ⟨rfl, (hk0.trans hk1).trans hQ⟩
  rw [hqA] at hQ
  obtain ⟨rfl, hRA, hkA⟩ := hQ
  have hlA := Fm.must_len (by decide) hqA
  clear HA
  have HB : Hid (Calls Tryd.prog 74 #[.pointer (some ⟨R, 0, none⟩), .int .i64 ((d : Int) + 1)] w2 (ResP R w2 (Fm.wholeG (Fm.pP n) (d + 1) r1))) := by
    have := formula_any R n HP.out (d + 1) r1 w2 (by omega) (by omega) hRA
    rwa [Int.natCast_add, Int.natCast_one] at this
  go_wp2_with fail
  refine HB.out.mono ?_
  intro e w3 hQ
  rcases hqB : Fm.wholeG (Fm.pP n) (d + 1) r1 with ⟨ka, aa⟩ | ⟨f, r2⟩
  · rw [hqB] at hQ
    obtain ⟨rfl, hQ⟩ := hQ
    refine ⟨rfl, ?_⟩
    rw [Fm.pathS, hqA]; dsimp only; rw [hqB]
    exact ⟨rfl, ((hk0.trans hk1).trans hkA).trans hQ⟩
  rw [hqB] at hQ
  obtain ⟨v, rfl, hFB, hRB, hkB⟩ := hQ
  obtain ⟨k1, s1, l1, A1, n1, c1, rfl⟩ := hFB.four
  have hlB : r2.length + 1 ≤ r1.length := by
    have := Fm.whole_eats (Fm.pP_eats n) (d + 1) _ _ _ hqB
    have := Fm.cnt_pos f
    omega
  clear HB
  have hW1 : W.heap.size ≤ w1.heap.size := hk1.size
  have hW2 : w1.heap.size ≤ w2.heap.size := hkA.size
  have hW3 : w2.heap.size ≤ w3.heap.size := hkB.size
  have HEE : Hid (Fm.pathS (Fm.wholeG (Fm.pP n)) u v0 d ts = if Fm.hdT r2 = [85] then Fm.secS (Fm.wholeG (Fm.pP n)) u f d r2.tail else match Fm.mustT [82] r2 with | .error e => .error e | .ok r3 => Fm.secS (Fm.wholeG (Fm.pP n)) v0 f d r3) := by
    unfold Hid
    rw [Fm.pathS, hqA]
    dsimp only
    rw [hqB]
    rfl
  have hkb := ((hk0.trans hk1).trans hkA).trans hkB
  have hbb := hkB.blkOf (hkA.blkOf (hk1.blkOf hb0 hg0R) hg0R) hg0R
  have loC := lowAlloc w3 (Obj.cells #[.int .i64 k1, .string s1, .int .i64 l1, .slice A1 n1 c1] 24)
  have hbxC := Blk.new w3 24 #[.int .i64 k1, .string s1, .int .i64 l1, .slice A1 n1 c1]
  have hRC := hRB.below loC
  have hkC := hkb.below loC
  have hbC := hbb.below loC hbb.lt
  have hFC := hFB.low (fun b hb => by have := hb.2; omega) loC
  have hgCR : w3.heap.size ≠ R := by omega
  have hgCl : w3.heap.size < (w3.alloc (Obj.cells #[.int .i64 k1, .string s1, .int .i64 l1, .slice A1 n1 c1] 24)).heap.size := by simp
  clear loC hRB hkB hkA hk1 hk0 hb0 h1 hR1 hRA hkb hbb hFB hqB hqA
  go_upto_region 5 with fail
  generalize w3.alloc (Obj.cells #[.int .i64 k1, .string s1, .int .i64 l1, .slice A1 n1 c1] 24) = W4 at *
  generalize w3.heap.size = g5 at *
  have HTK := Lib.hid (take_any R [85] r2 W4 hRC (by decide))
  go_wp2_with fail
  refine HTK.out.mono ?_
  rintro e w5 ⟨rfl, hRT, hkT⟩
  clear HTK hRC
  have hW5 : W4.heap.size ≤ w5.heap.size := hkT.size
  have hbx5 := hkT.blkOf hbxC hgCR
  have hF5 := (hFC.rk (fun b hb => ⟨by have := hb.2; omega, by have := hb.1; omega⟩) hkT).more (K' := Fr W.heap.size w5.heap.size) (fun b hb => ⟨by have := hb.1; omega, by have := hb.2; omega⟩)
  have hb5 := hkT.blkOf hbC hg0R
  have hk5 := hkC.trans hkT
  clear hkT hbxC hFC hbC hkC
  by_cases e : Fm.hdT r2 = [85]
  · rw [takeT_yes e] at hRT
    have hlt := Fm.tail_len (ts := r2) (by rw [e]; decide)
    have dd : decide (Fm.hdT r2 = [85]) = true := decide_eq_true e
    rw [dd]
    have HPE : Hid (Fm.pathS (Fm.wholeG (Fm.pP n)) u v0 d ts = Fm.secS (Fm.wholeG (Fm.pP n)) u f d r2.tail) := by unfold Hid; rw [HEE.out, if_pos e]
    clear e dd HEE
    have HG : Hid (Calls Tryd.prog 74 #[.pointer (some ⟨R, 0, none⟩), .int .i64 ((d : Int) + 1)] w5 (ResP R w5 (Fm.wholeG (Fm.pP n) (d + 1) r2.tail))) := by
      have := formula_any R n HP.out (d + 1) r2.tail w5 (by omega) (by omega) hRT
      rwa [Int.natCast_add, Int.natCast_one] at this
    go_wp2_with fail
    refine HG.out.mono ?_
    intro e w6 hQ
    rcases hqG : Fm.wholeG (Fm.pP n) (d + 1) r2.tail with ⟨ka, aa⟩ | ⟨g, r4⟩
    · rw [hqG] at hQ
      obtain ⟨rfl, hQ⟩ := hQ
      refine ⟨rfl, ?_⟩
      rw [HPE.out, Fm.secS, hqG]
      exact ⟨rfl, hk5.trans hQ⟩
    rw [hqG] at hQ
    obtain ⟨v, rfl, hFG, hRG, hkG⟩ := hQ
    obtain ⟨k2, s2, l2, A2, n2, c2, rfl⟩ := hFG.four
    have hlG : r4.length + 1 ≤ r2.tail.length := by
      have := Fm.whole_eats (Fm.pP_eats n) (d + 1) _ _ _ hqG
      have := Fm.cnt_pos g
      omega
    clear HG
    have HSE : Hid (Fm.pathS (Fm.wholeG (Fm.pP n)) u v0 d ts = match Fm.mustT [93] r4 with | .error e => .error e | .ok r' => .ok (Fm.two u f g, r')) := by
      unfold Hid
      rw [HPE.out, Fm.secS, hqG]
      rfl
    have hW6 : w5.heap.size ≤ w6.heap.size := hkG.size
    have hbx6 := hkG.blkOf hbx5 hgCR
    have hF6 := (hF5.rk (fun b hb => ⟨by have := hb.2; omega, by have := hb.1; omega⟩) hkG).more (K' := Fr W.heap.size w6.heap.size) (fun b hb => ⟨by have := hb.1; omega, by have := hb.2; omega⟩)
    have hb6 := hkG.blkOf hb5 hg0R
    have hk6 := hk5.trans hkG
    clear HPE hqG
    have loH := lowAlloc w6 (Obj.cells #[.int .i64 k2, .string s2, .int .i64 l2, .slice A2 n2 c2] 24)
    have hbxH := Blk.new w6 24 #[.int .i64 k2, .string s2, .int .i64 l2, .slice A2 n2 c2]
    have hRH := hRG.below loH
    have hkH := hk6.below loH
    have hbH := hb6.below loH hb6.lt
    have hFH := hFG.low (fun b hb => by have := hb.2; omega) loH
    have hbx7 := hbx6.below loH hbx6.lt
    have hF7 := hF6.low (fun b hb => hb.2) loH
    have hgHR : w6.heap.size ≠ R := by omega
    have hgHl : w6.heap.size < (w6.alloc (Obj.cells #[.int .i64 k2, .string s2, .int .i64 l2, .slice A2 n2 c2] 24)).heap.size := by simp
    clear loH hFG hRG hkG hk6 hb6 hbx6 hF6 hRT hF5 hk5 hb5 hbx5
    go_upto_region 9 with fail
    generalize w6.alloc (Obj.cells #[.int .i64 k2, .string s2, .int .i64 l2, .slice A2 n2 c2] 24) = W7 at *
    generalize w6.heap.size = g11 at *
    have HI := Lib.hid (must_any R [93] r4 W7 hRH (by decide))
    go_wp2_with fail
    refine HI.out.mono ?_
    intro e w8 hQ
    rcases hqI : Fm.mustT [93] r4 with ⟨ka, aa⟩ | r5
    · rw [hqI] at hQ
      obtain ⟨rfl, hQ⟩ := hQ
      refine ⟨rfl, ?_⟩
      rw [HSE.out, hqI]
      exact ⟨rfl, hkH.trans hQ⟩
    rw [hqI] at hQ
    obtain ⟨rfl, hRI, hkI⟩ := hQ
    have hlI := Fm.must_len (by decide) hqI
    clear HI
    have HQE : Hid (Fm.pathS (Fm.wholeG (Fm.pP n)) u v0 d ts = .ok (Fm.two u f g, r5)) := by unfold Hid; rw [HSE.out, hqI]
    have hW8 : W7.heap.size ≤ w8.heap.size := hkI.size
    have hx8 := hkI.blkOf hbx7 hgCR
    have hz8 := hkI.blkOf hbxH hgHR
    have hF8 := (hF7.rk (fun b hb => ⟨by have := hb.2; omega, by have := hb.1; omega⟩) hkI).more (K' := Fr W.heap.size w8.heap.size) (fun b hb => ⟨by have := hb.1; omega, by have := hb.2; omega⟩)
    have hG8 := (hFH.rk (fun b hb => ⟨by have := hb.2; omega, by have := hb.1; omega⟩) hkI).more (K' := Fr W.heap.size w8.heap.size) (fun b hb => ⟨by have := hb.1; omega, by have := hb.2; omega⟩)
    have hb8 := hkI.blkOf hbH hg0R
    have hk8 := hkH.trans hkI
    have y0 := hx8.cell 0
    have y1 := hx8.cell 1
    have y2 := hx8.cell 2
    have y3 := hx8.cell 3
    simp only [List.getElem?_toArray, List.getElem?_cons_zero, List.getElem?_cons_succ] at y0 y1 y2 y3
    have z0 := hz8.cell 0
    have z1 := hz8.cell 1
    have z2 := hz8.cell 2
    have z3 := hz8.cell 3
    simp only [List.getElem?_toArray, List.getElem?_cons_zero, List.getElem?_cons_succ] at z0 z1 z2 z3
    have hn8 := Blk.new w8 24 #[.int .i64 k1, .string s1, .int .i64 l1, .slice A1 n1 c1, .int .i64 k2, .string s2, .int .i64 l2, .slice A2 n2 c2]
    have lo9 := lowAlloc w8 (Obj.cells #[.int .i64 k1, .string s1, .int .i64 l1, .slice A1 n1 c1, .int .i64 k2, .string s2, .int .i64 l2, .slice A2 n2 c2] 24)
    have hF9a := hF8.low (fun b hb => hb.2) lo9
    have hG9a := hG8.low (fun b hb => hb.2) lo9
    have hR9a := hRI.below lo9
    have hb9a := hb8.below lo9 hb8.lt
    have hk9a := hk8.below lo9
    have hw9 : w8.heap.size < (w8.alloc (Obj.cells #[.int .i64 k1, .string s1, .int .i64 l1, .slice A1 n1 c1, .int .i64 k2, .string s2, .int .i64 l2, .slice A2 n2 c2] 24)).heap.size := by simp
    clear HSE hqI hF7 hFH hRH hRI hkH hkI hbx7 hbxH hbH hF8 hG8 hb8 hk8 lo9 hx8 hz8 HP
    go_wp2_with fail
    generalize w8.alloc (Obj.cells #[.int .i64 k1, .string s1, .int .i64 l1, .slice A1 n1 c1, .int .i64 k2, .string s2, .int .i64 l2, .slice A2 n2 c2] 24) = W9 at *
    refine (of_any u _ 2 2 W9).mono ?_
    rintro e wa ⟨rfl, hbA⟩
    have hwa : W9.heap.size ≤ wa.heap.size := hbA.size
    have hFL : FL wa (Fr W.heap.size wa.heap.size) [f, g] (some ⟨w8.heap.size, 0, none⟩) 0 :=
      FL.two (hn8.below hbA hn8.lt) ⟨by omega, by omega⟩ ((hF9a.low (fun b hb => by have := hb.2; omega) hbA).more (fun b hb => ⟨hb.1, by have := hb.2; omega⟩)) ((hG9a.low (fun b hb => by have := hb.2; omega) hbA).more (fun b hb => ⟨hb.1, by have := hb.2; omega⟩))
    have hF : FV wa (Fr W.heap.size wa.heap.size) (Fm.two u f g) (.agg #[.int .i64 u, .string ⟨#[]⟩, .int .i64 0, .slice (some ⟨w8.heap.size, 0, none⟩) 2 2]) := FV.mk hFL
    have hR := hR9a.below hbA
    have hk := hk9a.below hbA
    have hb := hb9a.below hbA hb9a.lt
    clear hFL hF9a hG9a hR9a hb9a hk9a hn8 hbA y0 y1 y2 y3 z0 z1 z2 z3
    have hRg : R < w.heap.size := hR0
    have hKn : ¬ (W.heap.size ≤ w.heap.size ∧ w.heap.size < wa.heap.size) := by omega
    have hF1 : FV wa (Fr W.heap.size wa.heap.size) _ (.agg #[.int .i64 u, .string ⟨#[]⟩, .int .i64 0, .slice (some ⟨w8.heap.size, 0, none⟩) 2 2]) := hF
    have hF9 := (((hF1.far (p := ⟨w.heap.size, 0, none⟩) hKn (.int .i64 u)).far (p := ⟨w.heap.size, 1, none⟩) hKn (.string ⟨#[]⟩)).far (p := ⟨w.heap.size, 2, none⟩) hKn (.int .i64 0)).far (p := ⟨w.heap.size, 3, none⟩) hKn (.slice (some ⟨w8.heap.size, 0, none⟩) 2 2)
    have hF9b := hF9.more (K' := Fr w.heap.size (((((wa).setCell ⟨w.heap.size, 0, none⟩ (.int .i64 u)).setCell ⟨w.heap.size, 1, none⟩ (.string ⟨#[]⟩)).setCell ⟨w.heap.size, 2, none⟩ (.int .i64 0)).setCell ⟨w.heap.size, 3, none⟩ (.slice (some ⟨w8.heap.size, 0, none⟩) 2 2)).heap.size) (fun b hb => ⟨by have := hb.1; omega, by have := hb.2; simp; omega⟩)
    have hR9 : PR (((((wa).setCell ⟨w.heap.size, 0, none⟩ (.int .i64 u)).setCell ⟨w.heap.size, 1, none⟩ (.string ⟨#[]⟩)).setCell ⟨w.heap.size, 2, none⟩ (.int .i64 0)).setCell ⟨w.heap.size, 3, none⟩ (.slice (some ⟨w8.heap.size, 0, none⟩) 2 2)) R _ := (((hR.far (p := ⟨w.heap.size, 0, none⟩) hRg _).far (p := ⟨w.heap.size, 1, none⟩) hRg _).far (p := ⟨w.heap.size, 2, none⟩) hRg _).far (p := ⟨w.heap.size, 3, none⟩) hRg _
    have hk9 : RKeep R w (((((wa).setCell ⟨w.heap.size, 0, none⟩ (.int .i64 u)).setCell ⟨w.heap.size, 1, none⟩ (.string ⟨#[]⟩)).setCell ⟨w.heap.size, 2, none⟩ (.int .i64 0)).setCell ⟨w.heap.size, 3, none⟩ (.slice (some ⟨w8.heap.size, 0, none⟩) 2 2)) := (((hk.far (p := ⟨w.heap.size, 0, none⟩) (Nat.le_refl _) _).far (p := ⟨w.heap.size, 1, none⟩) (Nat.le_refl _) _).far (p := ⟨w.heap.size, 2, none⟩) (Nat.le_refl _) _).far (p := ⟨w.heap.size, 3, none⟩) (Nat.le_refl _) _
    have hC9 : Blk (((((wa).setCell ⟨w.heap.size, 0, none⟩ (.int .i64 u)).setCell ⟨w.heap.size, 1, none⟩ (.string ⟨#[]⟩)).setCell ⟨w.heap.size, 2, none⟩ (.int .i64 0)).setCell ⟨w.heap.size, 3, none⟩ (.slice (some ⟨w8.heap.size, 0, none⟩) 2 2)) w.heap.size 24 #[.int .i64 u, .string ⟨#[]⟩, .int .i64 0, .slice (some ⟨w8.heap.size, 0, none⟩) 2 2] := by simpa using (((hb.put 0 (.int .i64 u)).put 1 (.string ⟨#[]⟩)).put 2 (.int .i64 0)).put 3 (.slice (some ⟨w8.heap.size, 0, none⟩) 2 2)
    have HC9 := Lib.hid hC9
    have HR9 := Lib.hid hR9
    have HK9 := Lib.hid hk9
    have HF9 := Lib.hid hF9b
    have r0 := hb.cell 0
    have r1 := hb.cell 1
    have r2 := hb.cell 2
    have r3 := hb.cell 3
    simp only [List.getElem?_toArray, List.getElem?_cons_zero, List.getElem?_cons_succ] at r0 r1 r2 r3
    have q0 := hb.frozen 0
    have q1 := hb.frozen 1
    have q2 := hb.frozen 2
    have q3 := hb.frozen 3
    clear hF hF1 hF9 hF9b hR hR9 hk hk9 hC9 hb hKn
    go_wp2
    clear r0 r1 r2 r3 q0 q1 q2 q3
    generalize ((((wa).setCell ⟨w.heap.size, 0, none⟩ (.int .i64 u)).setCell ⟨w.heap.size, 1, none⟩ (.string ⟨#[]⟩)).setCell ⟨w.heap.size, 2, none⟩ (.int .i64 0)).setCell ⟨w.heap.size, 3, none⟩ (.slice (some ⟨w8.heap.size, 0, none⟩) 2 2) = V9 at *
    have t0 := HC9.out.cell 0
    have t1 := HC9.out.cell 1
    have t2 := HC9.out.cell 2
    have t3 := HC9.out.cell 3
    simp only [List.getElem?_toArray, List.getElem?_cons_zero, List.getElem?_cons_succ] at t0 t1 t2 t3
    refine bodyPost_ret (v := .agg #[.int .i64 u, .string ⟨#[]⟩, .int .i64 0, .slice (some ⟨w8.heap.size, 0, none⟩) 2 2]) (by simp [results, Tryd.results101, go_sem, t0, t1, t2, t3]) rfl ?_
    rw [HQE.out]
    exact ⟨_, rfl, HF9.out, HR9.out, HK9.out⟩
  · rw [takeT_no e] at hRT
    have dd : decide (Fm.hdT r2 = [85]) = false := decide_eq_false e
    rw [dd]
    have HEF : Hid (Fm.pathS (Fm.wholeG (Fm.pP n)) u v0 d ts = match Fm.mustT [82] r2 with | .error e => .error e | .ok r3 => Fm.secS (Fm.wholeG (Fm.pP n)) v0 f d r3) := by unfold Hid; rw [HEE.out, if_neg e]
    clear e dd HEE
    have HJ := Lib.hid (must_any R [82] r2 w5 hRT (by decide))
    go_wp2_with fail
    refine HJ.out.mono ?_
    intro e w5b hQ
    rcases hqJ : Fm.mustT [82] r2 with ⟨ka, aa⟩ | r3
    · rw [hqJ] at hQ
      obtain ⟨rfl, hQ⟩ := hQ
      refine ⟨rfl, ?_⟩
      rw [HEF.out, hqJ]
      exact ⟨rfl, hk5.trans hQ⟩
    rw [hqJ] at hQ
    obtain ⟨rfl, hRJ, hkJ⟩ := hQ
    have hlJ := Fm.must_len (by decide) hqJ
    clear HJ
    have HPE : Hid (Fm.pathS (Fm.wholeG (Fm.pP n)) u v0 d ts = Fm.secS (Fm.wholeG (Fm.pP n)) v0 f d r3) := by unfold Hid; rw [HEF.out, hqJ]
    have hW5b : w5.heap.size ≤ w5b.heap.size := hkJ.size
    have hbxb := hkJ.blkOf hbx5 hgCR
    have hFb := (hF5.rk (fun b hb => ⟨by have := hb.2; omega, by have := hb.1; omega⟩) hkJ).more (K' := Fr W.heap.size w5b.heap.size) (fun b hb => ⟨by have := hb.1; omega, by have := hb.2; omega⟩)
    have hbb := hkJ.blkOf hb5 hg0R
    have hkb := hk5.trans hkJ
    clear hkJ hbx5 hF5 hb5 hk5 HEF hqJ
    have HG : Hid (Calls Tryd.prog 74 #[.pointer (some ⟨R, 0, none⟩), .int .i64 ((d : Int) + 1)] w5b (ResP R w5b (Fm.wholeG (Fm.pP n) (d + 1) r3))) := by
      have := formula_any R n HP.out (d + 1) r3 w5b (by omega) (by omega) hRJ
      rwa [Int.natCast_add, Int.natCast_one] at this
    go_wp2_with fail
    refine HG.out.mono ?_
    intro e w6 hQ
    rcases hqG : Fm.wholeG (Fm.pP n) (d + 1) r3 with ⟨ka, aa⟩ | ⟨g, r4⟩
    · rw [hqG] at hQ
      obtain ⟨rfl, hQ⟩ := hQ
      refine ⟨rfl, ?_⟩
      rw [HPE.out, Fm.secS, hqG]
      exact ⟨rfl, hkb.trans hQ⟩
    rw [hqG] at hQ
    obtain ⟨v, rfl, hFG, hRG, hkG⟩ := hQ
    obtain ⟨k2, s2, l2, A2, n2, c2, rfl⟩ := hFG.four
    have hlG : r4.length + 1 ≤ r3.length := by
      have := Fm.whole_eats (Fm.pP_eats n) (d + 1) _ _ _ hqG
      have := Fm.cnt_pos g
      omega
    clear HG
    have HSE : Hid (Fm.pathS (Fm.wholeG (Fm.pP n)) u v0 d ts = match Fm.mustT [93] r4 with | .error e => .error e | .ok r' => .ok (Fm.two v0 f g, r')) := by
      unfold Hid
      rw [HPE.out, Fm.secS, hqG]
      rfl
    have hW6 : w5b.heap.size ≤ w6.heap.size := hkG.size
    have hbx6 := hkG.blkOf hbxb hgCR
    have hF6 := (hFb.rk (fun b hb => ⟨by have := hb.2; omega, by have := hb.1; omega⟩) hkG).more (K' := Fr W.heap.size w6.heap.size) (fun b hb => ⟨by have := hb.1; omega, by have := hb.2; omega⟩)
    have hb6 := hkG.blkOf hbb hg0R
    have hk6 := hkb.trans hkG
    clear HPE hqG
    have loH := lowAlloc w6 (Obj.cells #[.int .i64 k2, .string s2, .int .i64 l2, .slice A2 n2 c2] 24)
    have hbxH := Blk.new w6 24 #[.int .i64 k2, .string s2, .int .i64 l2, .slice A2 n2 c2]
    have hRH := hRG.below loH
    have hkH := hk6.below loH
    have hbH := hb6.below loH hb6.lt
    have hFH := hFG.low (fun b hb => by have := hb.2; omega) loH
    have hbx7 := hbx6.below loH hbx6.lt
    have hF7 := hF6.low (fun b hb => hb.2) loH
    have hgHR : w6.heap.size ≠ R := by omega
    have hgHl : w6.heap.size < (w6.alloc (Obj.cells #[.int .i64 k2, .string s2, .int .i64 l2, .slice A2 n2 c2] 24)).heap.size := by simp
    clear loH hFG hRG hkG hk6 hb6 hbx6 hF6 hRJ hFb hkb hbb hbxb
    go_upto_region 9 with fail
    generalize w6.alloc (Obj.cells #[.int .i64 k2, .string s2, .int .i64 l2, .slice A2 n2 c2] 24) = W7 at *
    generalize w6.heap.size = g11 at *
    have HI := Lib.hid (must_any R [93] r4 W7 hRH (by decide))
    go_wp2_with fail
    refine HI.out.mono ?_
    intro e w8 hQ
    rcases hqI : Fm.mustT [93] r4 with ⟨ka, aa⟩ | r5
    · rw [hqI] at hQ
      obtain ⟨rfl, hQ⟩ := hQ
      refine ⟨rfl, ?_⟩
      rw [HSE.out, hqI]
      exact ⟨rfl, hkH.trans hQ⟩
    rw [hqI] at hQ
    obtain ⟨rfl, hRI, hkI⟩ := hQ
    have hlI := Fm.must_len (by decide) hqI
    clear HI
    have HQE : Hid (Fm.pathS (Fm.wholeG (Fm.pP n)) u v0 d ts = .ok (Fm.two v0 f g, r5)) := by unfold Hid; rw [HSE.out, hqI]
    have hW8 : W7.heap.size ≤ w8.heap.size := hkI.size
    have hx8 := hkI.blkOf hbx7 hgCR
    have hz8 := hkI.blkOf hbxH hgHR
    have hF8 := (hF7.rk (fun b hb => ⟨by have := hb.2; omega, by have := hb.1; omega⟩) hkI).more (K' := Fr W.heap.size w8.heap.size) (fun b hb => ⟨by have := hb.1; omega, by have := hb.2; omega⟩)
    have hG8 := (hFH.rk (fun b hb => ⟨by have := hb.2; omega, by have := hb.1; omega⟩) hkI).more (K' := Fr W.heap.size w8.heap.size) (fun b hb => ⟨by have := hb.1; omega, by have := hb.2; omega⟩)
    have hb8 := hkI.blkOf hbH hg0R
    have hk8 := hkH.trans hkI
    have y0 := hx8.cell 0
    have y1 := hx8.cell 1
    have y2 := hx8.cell 2
    have y3 := hx8.cell 3
    simp only [List.getElem?_toArray, List.getElem?_cons_zero, List.getElem?_cons_succ] at y0 y1 y2 y3
    have z0 := hz8.cell 0
    have z1 := hz8.cell 1
    have z2 := hz8.cell 2
    have z3 := hz8.cell 3
    simp only [List.getElem?_toArray, List.getElem?_cons_zero, List.getElem?_cons_succ] at z0 z1 z2 z3
    have hn8 := Blk.new w8 24 #[.int .i64 k1, .string s1, .int .i64 l1, .slice A1 n1 c1, .int .i64 k2, .string s2, .int .i64 l2, .slice A2 n2 c2]
    have lo9 := lowAlloc w8 (Obj.cells #[.int .i64 k1, .string s1, .int .i64 l1, .slice A1 n1 c1, .int .i64 k2, .string s2, .int .i64 l2, .slice A2 n2 c2] 24)
    have hF9a := hF8.low (fun b hb => hb.2) lo9
    have hG9a := hG8.low (fun b hb => hb.2) lo9
    have hR9a := hRI.below lo9
    have hb9a := hb8.below lo9 hb8.lt
    have hk9a := hk8.below lo9
    have hw9 : w8.heap.size < (w8.alloc (Obj.cells #[.int .i64 k1, .string s1, .int .i64 l1, .slice A1 n1 c1, .int .i64 k2, .string s2, .int .i64 l2, .slice A2 n2 c2] 24)).heap.size := by simp
    clear HSE hqI hF7 hFH hRH hRI hkH hkI hbx7 hbxH hbH hF8 hG8 hb8 hk8 lo9 hx8 hz8 HP
    go_wp2_with fail
    generalize w8.alloc (Obj.cells #[.int .i64 k1, .string s1, .int .i64 l1, .slice A1 n1 c1, .int .i64 k2, .string s2, .int .i64 l2, .slice A2 n2 c2] 24) = W9 at *
    refine (of_any v0 _ 2 2 W9).mono ?_
    rintro e wa ⟨rfl, hbA⟩
    have hwa : W9.heap.size ≤ wa.heap.size := hbA.size
    have hFL : FL wa (Fr W.heap.size wa.heap.size) [f, g] (some ⟨w8.heap.size, 0, none⟩) 0 :=
      FL.two (hn8.below hbA hn8.lt) ⟨by omega, by omega⟩ ((hF9a.low (fun b hb => by have := hb.2; omega) hbA).more (fun b hb => ⟨hb.1, by have := hb.2; omega⟩)) ((hG9a.low (fun b hb => by have := hb.2; omega) hbA).more (fun b hb => ⟨hb.1, by have := hb.2; omega⟩))
    have hF : FV wa (Fr W.heap.size wa.heap.size) (Fm.two v0 f g) (.agg #[.int .i64 v0, .string ⟨#[]⟩, .int .i64 0, .slice (some ⟨w8.heap.size, 0, none⟩) 2 2]) := FV.mk hFL
    have hR := hR9a.below hbA
    have hk := hk9a.below hbA
    have hb := hb9a.below hbA hb9a.lt
    clear hFL hF9a hG9a hR9a hb9a hk9a hn8 hbA y0 y1 y2 y3 z0 z1 z2 z3
    have hRg : R < w.heap.size := hR0
    have hKn : ¬ (W.heap.size ≤ w.heap.size ∧ w.heap.size < wa.heap.size) := by omega
    have hF1 : FV wa (Fr W.heap.size wa.heap.size) _ (.agg #[.int .i64 v0, .string ⟨#[]⟩, .int .i64 0, .slice (some ⟨w8.heap.size, 0, none⟩) 2 2]) := hF
    have hF9 := (((hF1.far (p := ⟨w.heap.size, 0, none⟩) hKn (.int .i64 v0)).far (p := ⟨w.heap.size, 1, none⟩) hKn (.string ⟨#[]⟩)).far (p := ⟨w.heap.size, 2, none⟩) hKn (.int .i64 0)).far (p := ⟨w.heap.size, 3, none⟩) hKn (.slice (some ⟨w8.heap.size, 0, none⟩) 2 2)
    have hF9b := hF9.more (K' := Fr w.heap.size (((((wa).setCell ⟨w.heap.size, 0, none⟩ (.int .i64 v0)).setCell ⟨w.heap.size, 1, none⟩ (.string ⟨#[]⟩)).setCell ⟨w.heap.size, 2, none⟩ (.int .i64 0)).setCell ⟨w.heap.size, 3, none⟩ (.slice (some ⟨w8.heap.size, 0, none⟩) 2 2)).heap.size) (fun b hb => ⟨by have := hb.1; omega, by have := hb.2; simp; omega⟩)
    have hR9 : PR (((((wa).setCell ⟨w.heap.size, 0, none⟩ (.int .i64 v0)).setCell ⟨w.heap.size, 1, none⟩ (.string ⟨#[]⟩)).setCell ⟨w.heap.size, 2, none⟩ (.int .i64 0)).setCell ⟨w.heap.size, 3, none⟩ (.slice (some ⟨w8.heap.size, 0, none⟩) 2 2)) R _ := (((hR.far (p := ⟨w.heap.size, 0, none⟩) hRg _).far (p := ⟨w.heap.size, 1, none⟩) hRg _).far (p := ⟨w.heap.size, 2, none⟩) hRg _).far (p := ⟨w.heap.size, 3, none⟩) hRg _
    have hk9 : RKeep R w (((((wa).setCell ⟨w.heap.size, 0, none⟩ (.int .i64 v0)).setCell ⟨w.heap.size, 1, none⟩ (.string ⟨#[]⟩)).setCell ⟨w.heap.size, 2, none⟩ (.int .i64 0)).setCell ⟨w.heap.size, 3, none⟩ (.slice (some ⟨w8.heap.size, 0, none⟩) 2 2)) := (((hk.far (p := ⟨w.heap.size, 0, none⟩) (Nat.le_refl _) _).far (p := ⟨w.heap.size, 1, none⟩) (Nat.le_refl _) _).far (p := ⟨w.heap.size, 2, none⟩) (Nat.le_refl _) _).far (p := ⟨w.heap.size, 3, none⟩) (Nat.le_refl _) _
    have hC9 : Blk (((((wa).setCell ⟨w.heap.size, 0, none⟩ (.int .i64 v0)).setCell ⟨w.heap.size, 1, none⟩ (.string ⟨#[]⟩)).setCell ⟨w.heap.size, 2, none⟩ (.int .i64 0)).setCell ⟨w.heap.size, 3, none⟩ (.slice (some ⟨w8.heap.size, 0, none⟩) 2 2)) w.heap.size 24 #[.int .i64 v0, .string ⟨#[]⟩, .int .i64 0, .slice (some ⟨w8.heap.size, 0, none⟩) 2 2] := by simpa using (((hb.put 0 (.int .i64 v0)).put 1 (.string ⟨#[]⟩)).put 2 (.int .i64 0)).put 3 (.slice (some ⟨w8.heap.size, 0, none⟩) 2 2)
    have HC9 := Lib.hid hC9
    have HR9 := Lib.hid hR9
    have HK9 := Lib.hid hk9
    have HF9 := Lib.hid hF9b
    have r0 := hb.cell 0
    have r1 := hb.cell 1
    have r2 := hb.cell 2
    have r3 := hb.cell 3
    simp only [List.getElem?_toArray, List.getElem?_cons_zero, List.getElem?_cons_succ] at r0 r1 r2 r3
    have q0 := hb.frozen 0
    have q1 := hb.frozen 1
    have q2 := hb.frozen 2
    have q3 := hb.frozen 3
    clear hF hF1 hF9 hF9b hR hR9 hk hk9 hC9 hb hKn
    go_wp2
    clear r0 r1 r2 r3 q0 q1 q2 q3
    generalize ((((wa).setCell ⟨w.heap.size, 0, none⟩ (.int .i64 v0)).setCell ⟨w.heap.size, 1, none⟩ (.string ⟨#[]⟩)).setCell ⟨w.heap.size, 2, none⟩ (.int .i64 0)).setCell ⟨w.heap.size, 3, none⟩ (.slice (some ⟨w8.heap.size, 0, none⟩) 2 2) = V9 at *
    have t0 := HC9.out.cell 0
    have t1 := HC9.out.cell 1
    have t2 := HC9.out.cell 2
    have t3 := HC9.out.cell 3
    simp only [List.getElem?_toArray, List.getElem?_cons_zero, List.getElem?_cons_succ] at t0 t1 t2 t3
    refine bodyPost_ret (v := .agg #[.int .i64 v0, .string ⟨#[]⟩, .int .i64 0, .slice (some ⟨w8.heap.size, 0, none⟩) 2 2]) (by simp [results, Tryd.results101, go_sem, t0, t1, t2, t3]) rfl ?_
    rw [HQE.out]
    exact ⟨_, rfl, HF9.out, HR9.out, HK9.out⟩

end Go.Proofs.YtlddnejjpekgeaaDoor
