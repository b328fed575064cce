/- The reader of formulas: a name's quotes; primary. -/
import Derived.Test.YtlddnejjpekgeaaDoorQap
import Derived.Lib.TrimByte
set_option linter.unusedSimpArgs false
set_option linter.unusedVariables false
namespace Go.Proofs.YtlddnejjpekgeaaDoor
open Go.RowKit

theorem eq_lit (x y : Tk.Bs) : ((bsv x).toList == y) = (x == y) := by rw [Lib.toList_data]; rfl
theorem drop_none (l : List UInt8) (h : ∀ x ∈ l, x ≠ 34) : l.dropWhile (· == 34) = l := by
  cases l with
  | nil => rfl
  | cons a l => rw [List.dropWhile_cons, if_neg (by simpa using h a (List.mem_cons_self ..))]
theorem trim_none (l : List UInt8) (h : ∀ x ∈ l, x ≠ 34) : Lib.trimB l 34 = l := by
  unfold Lib.trimB Lib.trimLeftB Lib.trimRightB
  rw [drop_none l.reverse (fun x hx => h x (List.mem_reverse.mp hx)), List.reverse_reverse, drop_none l h]
theorem trim_quot (l : List UInt8) (h : ∀ x ∈ l, x ≠ 34) (hn : l ≠ []) : Lib.trimB (34 :: (l ++ [34])) 34 = l := by
  unfold Lib.trimB Lib.trimLeftB Lib.trimRightB
  have e : (34 :: (l ++ [34])).reverse = 34 :: (l.reverse ++ [(34 : UInt8)]) := by simp
  rw [e, List.dropWhile_cons, if_pos (by rfl)]
  have e2 : (l.reverse ++ [(34 : UInt8)]).dropWhile (· == 34) = l.reverse ++ [34] := by
    cases hr : l.reverse with
    | nil => exact absurd (List.reverse_eq_nil_iff.mp hr) hn
    | cons a r =>
      rw [List.cons_append, List.dropWhile_cons, if_neg]
      have := h a (List.mem_reverse.mp (by rw [hr]; exact List.mem_cons_self ..))
      simpa using this
  rw [e2, List.reverse_append, List.reverse_reverse, List.reverse_singleton, List.singleton_append, List.dropWhile_cons, if_pos (by rfl), drop_none l h]
theorem trim_name {t : Tk.Bs} (h : Fm.NameT t) : Lib.trimB t 34 = Fm.trimQ t := by
  rcases Fm.name_trim h with ⟨e, hp, _⟩ | ⟨w, hw, hq, e, e2⟩
  · rw [e]
    refine trim_none t (fun x hx => ?_)
    have := List.all_eq_true.mp hp x hx
    rintro rfl
    revert this
    decide
  · rw [e2, e]
    refine trim_quot w (fun x hx => ?_) hw
    have := List.all_eq_true.mp hq x hx
    rintro rfl
    revert this
    decide
/-- What is asked of the reading of a name. -/
def AtomC (R : Nat) : Prop := ∀ (ts : List Tk.Tok) (w : World), PR w R ts → Calls Tryd.prog 103 #[.pointer (some ⟨R, 0, none⟩)] w (ResP R w (Fm.atomT ts))

set_option maxRecDepth 10000 in
set_option maxHeartbeats 4000000 in
theorem primary_0 (R n : Nat) (HP0 : PrimC R n) (d : Nat) (t : Tk.Tok) (r : List Tk.Tok) (w : World) (hn : r.length ≤ n) (hd : d + 1 + r.length ≤ 1000000) (hdd : d ≤ 200) (h : PR w R (t :: r)) (ht : t.t = [116, 114, 117, 101]) :
    Calls Tryd.prog 98 #[.pointer (some ⟨R, 0, none⟩), .int .i64 (d : Int)] w (ResP R w (Fm.pP (n + 1) d (t :: r))) := by
  have HP := Lib.hid HP0
  skip
  clear HP0 
  have HPE : Hid (Fm.pP (n + 1) d (t :: r) = (Except.ok (Fm.leaf 2, r) : Fm.Res)) := by
    unfold Hid
    rw [Fm.pP, Fm.prim, if_neg (by omega), show Fm.hdT (t :: r) = [116, 114, 117, 101] from ht]
    rfl
  have hk : t.k ≠ 0 := by
    obtain ⟨_, _, _, _, _, hS, _⟩ := h
    exact shape_text hS (by rw [ht]; decide)
  have q0 : ((bsv t.t).toList == ([116, 114, 117, 101] : List UInt8)) = true := (eq_lit t.t [116, 114, 117, 101]).trans (by rw [ht]; rfl)
  clear ht
  have hR0 := h.lt
  have lo := lowAlloc w (Obj.cells #[.int .i64 0, .string ⟨#[]⟩, .int .i64 0, .slice none 0 0] 24)
  have hk0 := (RKeep.refl R w).below lo
  have hb0 := Blk.new w 24 #[.int .i64 0, .string ⟨#[]⟩, .int .i64 0, .slice none 0 0]
  have h1 := h.below lo
  have hg0R : w.heap.size ≠ R := by omega
  clear h lo
  go_enter Tryd.func98, Tryd.ntmps98
  go_upto_region 1 with fail
  generalize w.alloc (Obj.cells #[.int .i64 0, .string ⟨#[]⟩, .int .i64 0, .slice none 0 0] 24) = W at *
  have hWw : w.heap.size < W.heap.size := hb0.lt
  have hgt : ¬ (200 : Int) < (d : Int) := by omega
  have HCA := Lib.hid (constant_any R 2 t r W h1 hk)
  obtain ⟨b, off, cap, hbp, hT, hS, hl, hc⟩ := h1
  obtain ⟨_, t1, _⟩ := hT.2.2 0 (by simp)
  simp only [List.getElem_cons_zero, Nat.zero_mul, Nat.add_zero] at t1
  have c0 := hbp.cell 0
  simp only [List.getElem?_toArray, List.getElem?_cons_zero] at c0
  have hix := ix0 b off (t :: r).length cap (by simp)
  clear hbp hT hS hl hc HP
  go_wp2_with fail
  refine (HCA.out).mono ?_
  intro e w1 hQ
  rcases hq : (Except.ok (Fm.leaf 2, r) : Fm.Res) with ⟨ka, aa⟩ | ⟨f, r⟩
  · rw [hq] at hQ
    obtain ⟨rfl, hk1⟩ := hQ
    refine ⟨rfl, ?_⟩
    rw [HPE.out, hq]
    exact ⟨rfl, hk0.trans hk1⟩
  rw [hq] at hQ
  obtain ⟨v, rfl, hF, hR, hk1⟩ := hQ
  obtain ⟨k1, s1, l1, A1, n1, c1, rfl⟩ := hF.four
  have HQE := Lib.hid hq
  clear hq
  have hk := hk0.trans hk1
  have hb := hk1.blkOf hb0 hg0R
  have hlo : W.heap.size ≤ W.heap.size := Nat.le_refl _
  clear c0 t1 hix
  have hRg : R < w.heap.size := hR0
  have hKn : ¬ (W.heap.size ≤ w.heap.size ∧ w.heap.size < w1.heap.size) := by omega
  have hF1 : FV w1 (Fr W.heap.size w1.heap.size) _ (.agg #[.int .i64 k1, .string s1, .int .i64 l1, .slice A1 n1 c1]) := hF
  have hF9 := (((hF1.far (p := ⟨w.heap.size, 0, none⟩) hKn (.int .i64 k1)).far (p := ⟨w.heap.size, 1, none⟩) hKn (.string s1)).far (p := ⟨w.heap.size, 2, none⟩) hKn (.int .i64 l1)).far (p := ⟨w.heap.size, 3, none⟩) hKn (.slice A1 n1 c1)
  have hF9b := hF9.more (K' := Fr w.heap.size (((((w1).setCell ⟨w.heap.size, 0, none⟩ (.int .i64 k1)).setCell ⟨w.heap.size, 1, none⟩ (.string s1)).setCell ⟨w.heap.size, 2, none⟩ (.int .i64 l1)).setCell ⟨w.heap.size, 3, none⟩ (.slice A1 n1 c1)).heap.size) (fun b hb => ⟨by have := hb.1; omega, by have := hb.2; simp; omega⟩)
  have hR9 : PR (((((w1).setCell ⟨w.heap.size, 0, none⟩ (.int .i64 k1)).setCell ⟨w.heap.size, 1, none⟩ (.string s1)).setCell ⟨w.heap.size, 2, none⟩ (.int .i64 l1)).setCell ⟨w.heap.size, 3, none⟩ (.slice A1 n1 c1)) R _ := (((hR.far (p := ⟨w.heap.size, 0, none⟩) hRg _).far (p := ⟨w.heap.size, 1, none⟩) hRg _).far (p := ⟨w.heap.size, 2, none⟩) hRg _).far (p := ⟨w.heap.size, 3, none⟩) hRg _
  have hk9 : RKeep R w (((((w1).setCell ⟨w.heap.size, 0, none⟩ (.int .i64 k1)).setCell ⟨w.heap.size, 1, none⟩ (.string s1)).setCell ⟨w.heap.size, 2, none⟩ (.int .i64 l1)).setCell ⟨w.heap.size, 3, none⟩ (.slice A1 n1 c1)) := (((hk.far (p := ⟨w.heap.size, 0, none⟩) (Nat.le_refl _) _).far (p := ⟨w.heap.size, 1, none⟩) (Nat.le_refl _) _).far (p := ⟨w.heap.size, 2, none⟩) (Nat.le_refl _) _).far (p := ⟨w.heap.size, 3, none⟩) (Nat.le_refl _) _
  have hC9 : Blk (((((w1).setCell ⟨w.heap.size, 0, none⟩ (.int .i64 k1)).setCell ⟨w.heap.size, 1, none⟩ (.string s1)).setCell ⟨w.heap.size, 2, none⟩ (.int .i64 l1)).setCell ⟨w.heap.size, 3, none⟩ (.slice A1 n1 c1)) w.heap.size 24 #[.int .i64 k1, .string s1, .int .i64 l1, .slice A1 n1 c1] := by simpa using (((hb.put 0 (.int .i64 k1)).put 1 (.string s1)).put 2 (.int .i64 l1)).put 3 (.slice A1 n1 c1)
  have HC9 := Lib.hid hC9
  have HR9 := Lib.hid hR9
  have HK9 := Lib.hid hk9
  have HF9 := Lib.hid hF9b
  have r0 := hb.cell 0
  have r1 := hb.cell 1
  have r2 := hb.cell 2
  have r3 := hb.cell 3
  simp only [List.getElem?_toArray, List.getElem?_cons_zero, List.getElem?_cons_succ] at r0 r1 r2 r3
  have q0 := hb.frozen 0
  have q1 := hb.frozen 1
  have q2 := hb.frozen 2
  have q3 := hb.frozen 3
  clear hF hF1 hF9 hF9b hR hR9 hk hk9 hC9 hb hKn
  go_wp2
  clear r0 r1 r2 r3 q0 q1 q2 q3
  generalize ((((w1).setCell ⟨w.heap.size, 0, none⟩ (.int .i64 k1)).setCell ⟨w.heap.size, 1, none⟩ (.string s1)).setCell ⟨w.heap.size, 2, none⟩ (.int .i64 l1)).setCell ⟨w.heap.size, 3, none⟩ (.slice A1 n1 c1) = V9 at *
  have t0 := HC9.out.cell 0
  have t1 := HC9.out.cell 1
  have t2 := HC9.out.cell 2
  have t3 := HC9.out.cell 3
  simp only [List.getElem?_toArray, List.getElem?_cons_zero, List.getElem?_cons_succ] at t0 t1 t2 t3
  refine bodyPost_ret (v := .agg #[.int .i64 k1, .string s1, .int .i64 l1, .slice A1 n1 c1]) (by simp [results, Tryd.results98, go_sem, t0, t1, t2, t3]) rfl ?_
  rw [HPE.out, HQE.out]
  exact ⟨_, rfl, HF9.out, HR9.out, HK9.out⟩

set_option maxRecDepth 10000 in
set_option maxHeartbeats 4000000 in
theorem primary_1 (R n : Nat) (HP0 : PrimC R n) (d : Nat) (t : Tk.Tok) (r : List Tk.Tok) (w : World) (hn : r.length ≤ n) (hd : d + 1 + r.length ≤ 1000000) (hdd : d ≤ 200) (h : PR w R (t :: r)) (ht : t.t = [102, 97, 108, 115, 101]) :
    Calls Tryd.prog 98 #[.pointer (some ⟨R, 0, none⟩), .int .i64 (d : Int)] w (ResP R w (Fm.pP (n + 1) d (t :: r))) := by
  have HP := Lib.hid HP0
  skip
  clear HP0 
  have HPE : Hid (Fm.pP (n + 1) d (t :: r) = (Except.ok (Fm.leaf 1, r) : Fm.Res)) := by
    unfold Hid
    rw [Fm.pP, Fm.prim, if_neg (by omega), show Fm.hdT (t :: r) = [102, 97, 108, 115, 101] from ht]
    rfl
  have hk : t.k ≠ 0 := by
    obtain ⟨_, _, _, _, _, hS, _⟩ := h
    exact shape_text hS (by rw [ht]; decide)
  have q0 : ((bsv t.t).toList == ([116, 114, 117, 101] : List UInt8)) = false := (eq_lit t.t [116, 114, 117, 101]).trans (by rw [ht]; rfl)
  have q1 : ((bsv t.t).toList == ([102, 97, 108, 115, 101] : List UInt8)) = true := (eq_lit t.t [102, 97, 108, 115, 101]).trans (by rw [ht]; rfl)
  clear ht
  have hR0 := h.lt
  have lo := lowAlloc w (Obj.cells #[.int .i64 0, .string ⟨#[]⟩, .int .i64 0, .slice none 0 0] 24)
  have hk0 := (RKeep.refl R w).below lo
  have hb0 := Blk.new w 24 #[.int .i64 0, .string ⟨#[]⟩, .int .i64 0, .slice none 0 0]
  have h1 := h.below lo
  have hg0R : w.heap.size ≠ R := by omega
  clear h lo
  go_enter Tryd.func98, Tryd.ntmps98
  go_upto_region 1 with fail
  generalize w.alloc (Obj.cells #[.int .i64 0, .string ⟨#[]⟩, .int .i64 0, .slice none 0 0] 24) = W at *
  have hWw : w.heap.size < W.heap.size := hb0.lt
  have hgt : ¬ (200 : Int) < (d : Int) := by omega
  have HCA := Lib.hid (constant_any R 1 t r W h1 hk)
  obtain ⟨b, off, cap, hbp, hT, hS, hl, hc⟩ := h1
  obtain ⟨_, t1, _⟩ := hT.2.2 0 (by simp)
  simp only [List.getElem_cons_zero, Nat.zero_mul, Nat.add_zero] at t1
  have c0 := hbp.cell 0
  simp only [List.getElem?_toArray, List.getElem?_cons_zero] at c0
  have hix := ix0 b off (t :: r).length cap (by simp)
  clear hbp hT hS hl hc HP
  go_wp2_with fail
  refine (HCA.out).mono ?_
  intro e w1 hQ
  rcases hq : (Except.ok (Fm.leaf 1, r) : Fm.Res) with ⟨ka, aa⟩ | ⟨f, r⟩
  · rw [hq] at hQ
    obtain ⟨rfl, hk1⟩ := hQ
    refine ⟨rfl, ?_⟩
    rw [HPE.out, hq]
    exact ⟨rfl, hk0.trans hk1⟩
  rw [hq] at hQ
  obtain ⟨v, rfl, hF, hR, hk1⟩ := hQ
  obtain ⟨k1, s1, l1, A1, n1, c1, rfl⟩ := hF.four
  have HQE := Lib.hid hq
  clear hq
  have hk := hk0.trans hk1
  have hb := hk1.blkOf hb0 hg0R
  have hlo : W.heap.size ≤ W.heap.size := Nat.le_refl _
  clear c0 t1 hix
  have hRg : R < w.heap.size := hR0
  have hKn : ¬ (W.heap.size ≤ w.heap.size ∧ w.heap.size < w1.heap.size) := by omega
  have hF1 : FV w1 (Fr W.heap.size w1.heap.size) _ (.agg #[.int .i64 k1, .string s1, .int .i64 l1, .slice A1 n1 c1]) := hF
  have hF9 := (((hF1.far (p := ⟨w.heap.size, 0, none⟩) hKn (.int .i64 k1)).far (p := ⟨w.heap.size, 1, none⟩) hKn (.string s1)).far (p := ⟨w.heap.size, 2, none⟩) hKn (.int .i64 l1)).far (p := ⟨w.heap.size, 3, none⟩) hKn (.slice A1 n1 c1)
  have hF9b := hF9.more (K' := Fr w.heap.size (((((w1).setCell ⟨w.heap.size, 0, none⟩ (.int .i64 k1)).setCell ⟨w.heap.size, 1, none⟩ (.string s1)).setCell ⟨w.heap.size, 2, none⟩ (.int .i64 l1)).setCell ⟨w.heap.size, 3, none⟩ (.slice A1 n1 c1)).heap.size) (fun b hb => ⟨by have := hb.1; omega, by have := hb.2; simp; omega⟩)
  have hR9 : PR (((((w1).setCell ⟨w.heap.size, 0, none⟩ (.int .i64 k1)).setCell ⟨w.heap.size, 1, none⟩ (.string s1)).setCell ⟨w.heap.size, 2, none⟩ (.int .i64 l1)).setCell ⟨w.heap.size, 3, none⟩ (.slice A1 n1 c1)) R _ := (((hR.far (p := ⟨w.heap.size, 0, none⟩) hRg _).far (p := ⟨w.heap.size, 1, none⟩) hRg _).far (p := ⟨w.heap.size, 2, none⟩) hRg _).far (p := ⟨w.heap.size, 3, none⟩) hRg _
  have hk9 : RKeep R w (((((w1).setCell ⟨w.heap.size, 0, none⟩ (.int .i64 k1)).setCell ⟨w.heap.size, 1, none⟩ (.string s1)).setCell ⟨w.heap.size, 2, none⟩ (.int .i64 l1)).setCell ⟨w.heap.size, 3, none⟩ (.slice A1 n1 c1)) := (((hk.far (p := ⟨w.heap.size, 0, none⟩) (Nat.le_refl _) _).far (p := ⟨w.heap.size, 1, none⟩) (Nat.le_refl _) _).far (p := ⟨w.heap.size, 2, none⟩) (Nat.le_refl _) _).far (p := ⟨w.heap.size, 3, none⟩) (Nat.le_refl _) _
  have hC9 : Blk (((((w1).setCell ⟨w.heap.size, 0, none⟩ (.int .i64 k1)).setCell ⟨w.heap.size, 1, none⟩ (.string s1)).setCell ⟨w.heap.size, 2, none⟩ (.int .i64 l1)).setCell ⟨w.heap.size, 3, none⟩ (.slice A1 n1 c1)) w.heap.size 24 #[.int .i64 k1, .string s1, .int .i64 l1, .slice A1 n1 c1] := by simpa using (((hb.put 0 (.int .i64 k1)).put 1 (.string s1)).put 2 (.int .i64 l1)).put 3 (.slice A1 n1 c1)
  have HC9 := Lib.hid hC9
  have HR9 := Lib.hid hR9
  have HK9 := Lib.hid hk9
  have HF9 := Lib.hid hF9b
  have r0 := hb.cell 0
  have r1 := hb.cell 1
  have r2 := hb.cell 2
  have r3 := hb.cell 3
  simp only [List.getElem?_toArray, List.getElem?_cons_zero, List.getElem?_cons_succ] at r0 r1 r2 r3
  have q0 := hb.frozen 0
  have q1 := hb.frozen 1
  have q2 := hb.frozen 2
  have q3 := hb.frozen 3
  clear hF hF1 hF9 hF9b hR hR9 hk hk9 hC9 hb hKn
  go_wp2
  clear r0 r1 r2 r3 q0 q1 q2 q3
  generalize ((((w1).setCell ⟨w.heap.size, 0, none⟩ (.int .i64 k1)).setCell ⟨w.heap.size, 1, none⟩ (.string s1)).setCell ⟨w.heap.size, 2, none⟩ (.int .i64 l1)).setCell ⟨w.heap.size, 3, none⟩ (.slice A1 n1 c1) = V9 at *
  have t0 := HC9.out.cell 0
  have t1 := HC9.out.cell 1
  have t2 := HC9.out.cell 2
  have t3 := HC9.out.cell 3
  simp only [List.getElem?_toArray, List.getElem?_cons_zero, List.getElem?_cons_succ] at t0 t1 t2 t3
  refine bodyPost_ret (v := .agg #[.int .i64 k1, .string s1, .int .i64 l1, .slice A1 n1 c1]) (by simp [results, Tryd.results98, go_sem, t0, t1, t2, t3]) rfl ?_
  rw [HPE.out, HQE.out]
  exact ⟨_, rfl, HF9.out, HR9.out, HK9.out⟩

set_option maxRecDepth 10000 in
set_option maxHeartbeats 4000000 in
theorem primary_2 (R n : Nat) (HP0 : PrimC R n) (d : Nat) (t : Tk.Tok) (r : List Tk.Tok) (w : World) (hn : r.length ≤ n) (hd : d + 1 + r.length ≤ 1000000) (hdd : d ≤ 200) (h : PR w R (t :: r)) (ht : t.t = [33]) :
    Calls Tryd.prog 98 #[.pointer (some ⟨R, 0, none⟩), .int .i64 (d : Int)] w (ResP R w (Fm.pP (n + 1) d (t :: r))) := by
  have HP := Lib.hid HP0
  skip
  clear HP0 
  have HPE : Hid (Fm.pP (n + 1) d (t :: r) = Fm.unaS (Fm.pP n) 4 d r) := by
    unfold Hid
    rw [Fm.pP, Fm.prim, if_neg (by omega), show Fm.hdT (t :: r) = [33] from ht]
    rfl
  have hk : t.k ≠ 0 := by
    obtain ⟨_, _, _, _, _, hS, _⟩ := h
    exact shape_text hS (by rw [ht]; decide)
  have q0 : ((bsv t.t).toList == ([116, 114, 117, 101] : List UInt8)) = false := (eq_lit t.t [116, 114, 117, 101]).trans (by rw [ht]; rfl)
  have q1 : ((bsv t.t).toList == ([102, 97, 108, 115, 101] : List UInt8)) = false := (eq_lit t.t [102, 97, 108, 115, 101]).trans (by rw [ht]; rfl)
  have q2 : ((bsv t.t).toList == ([33] : List UInt8)) = true := (eq_lit t.t [33]).trans (by rw [ht]; rfl)
  clear ht
  have hR0 := h.lt
  have lo := lowAlloc w (Obj.cells #[.int .i64 0, .string ⟨#[]⟩, .int .i64 0, .slice none 0 0] 24)
  have hk0 := (RKeep.refl R w).below lo
  have hb0 := Blk.new w 24 #[.int .i64 0, .string ⟨#[]⟩, .int .i64 0, .slice none 0 0]
  have h1 := h.below lo
  have hg0R : w.heap.size ≠ R := by omega
  clear h lo
  go_enter Tryd.func98, Tryd.ntmps98
  go_upto_region 1 with fail
  generalize w.alloc (Obj.cells #[.int .i64 0, .string ⟨#[]⟩, .int .i64 0, .slice none 0 0] 24) = W at *
  have hWw : w.heap.size < W.heap.size := hb0.lt
  have hgt : ¬ (200 : Int) < (d : Int) := by omega
  have HCA := Lib.hid (unary_any R n HP.out 4 d t r W hn (by omega) h1 hk)
  obtain ⟨b, off, cap, hbp, hT, hS, hl, hc⟩ := h1
  obtain ⟨_, t1, _⟩ := hT.2.2 0 (by simp)
  simp only [List.getElem_cons_zero, Nat.zero_mul, Nat.add_zero] at t1
  have c0 := hbp.cell 0
  simp only [List.getElem?_toArray, List.getElem?_cons_zero] at c0
  have hix := ix0 b off (t :: r).length cap (by simp)
  clear hbp hT hS hl hc HP
  go_wp2_with fail
  refine (HCA.out).mono ?_
  intro e w1 hQ
  rcases hq : Fm.unaS (Fm.pP n) 4 d r with ⟨ka, aa⟩ | ⟨f, r⟩
  · rw [hq] at hQ
    obtain ⟨rfl, hk1⟩ := hQ
    refine ⟨rfl, ?_⟩
    rw [HPE.out, hq]
    exact ⟨rfl, hk0.trans hk1⟩
  rw [hq] at hQ
  obtain ⟨v, rfl, hF, hR, hk1⟩ := hQ
  obtain ⟨k1, s1, l1, A1, n1, c1, rfl⟩ := hF.four
  have HQE := Lib.hid hq
  clear hq
  have hk := hk0.trans hk1
  have hb := hk1.blkOf hb0 hg0R
  have hlo : W.heap.size ≤ W.heap.size := Nat.le_refl _
  clear c0 t1 hix
  have hRg : R < w.heap.size := hR0
  have hKn : ¬ (W.heap.size ≤ w.heap.size ∧ w.heap.size < w1.heap.size) := by omega
  have hF1 : FV w1 (Fr W.heap.size w1.heap.size) _ (.agg #[.int .i64 k1, .string s1, .int .i64 l1, .slice A1 n1 c1]) := hF
  have hF9 := (((hF1.far (p := ⟨w.heap.size, 0, none⟩) hKn (.int .i64 k1)).far (p := ⟨w.heap.size, 1, none⟩) hKn (.string s1)).far (p := ⟨w.heap.size, 2, none⟩) hKn (.int .i64 l1)).far (p := ⟨w.heap.size, 3, none⟩) hKn (.slice A1 n1 c1)
  have hF9b := hF9.more (K' := Fr w.heap.size (((((w1).setCell ⟨w.heap.size, 0, none⟩ (.int .i64 k1)).setCell ⟨w.heap.size, 1, none⟩ (.string s1)).setCell ⟨w.heap.size, 2, none⟩ (.int .i64 l1)).setCell ⟨w.heap.size, 3, none⟩ (.slice A1 n1 c1)).heap.size) (fun b hb => ⟨by have := hb.1; omega, by have := hb.2; simp; omega⟩)
  have hR9 : PR (((((w1).setCell ⟨w.heap.size, 0, none⟩ (.int .i64 k1)).setCell ⟨w.heap.size, 1, none⟩ (.string s1)).setCell ⟨w.heap.size, 2, none⟩ (.int .i64 l1)).setCell ⟨w.heap.size, 3, none⟩ (.slice A1 n1 c1)) R _ := (((hR.far (p := ⟨w.heap.size, 0, none⟩) hRg _).far (p := ⟨w.heap.size, 1, none⟩) hRg _).far (p := ⟨w.heap.size, 2, none⟩) hRg _).far (p := ⟨w.heap.size, 3, none⟩) hRg _
  have hk9 : RKeep R w (((((w1).setCell ⟨w.heap.size, 0, none⟩ (.int .i64 k1)).setCell ⟨w.heap.size, 1, none⟩ (.string s1)).setCell ⟨w.heap.size, 2, none⟩ (.int .i64 l1)).setCell ⟨w.heap.size, 3, none⟩ (.slice A1 n1 c1)) := (((hk.far (p := ⟨w.heap.size, 0, none⟩) (Nat.le_refl _) _).far (p := ⟨w.heap.size, 1, none⟩) (Nat.le_refl _) _).far (p := ⟨w.heap.size, 2, none⟩) (Nat.le_refl _) _).far (p := ⟨w.heap.size, 3, none⟩) (Nat.le_refl _) _
  have hC9 : Blk (((((w1).setCell ⟨w.heap.size, 0, none⟩ (.int .i64 k1)).setCell ⟨w.heap.size, 1, none⟩ (.string s1)).setCell ⟨w.heap.size, 2, none⟩ (.int .i64 l1)).setCell ⟨w.heap.size, 3, none⟩ (.slice A1 n1 c1)) w.heap.size 24 #[.int .i64 k1, .string s1, .int .i64 l1, .slice A1 n1 c1] := by simpa using (((hb.put 0 (.int .i64 k1)).put 1 (.string s1)).put 2 (.int .i64 l1)).put 3 (.slice A1 n1 c1)
  have HC9 := Lib.hid hC9
  have HR9 := Lib.hid hR9
  have HK9 := Lib.hid hk9
  have HF9 := Lib.hid hF9b
  have r0 := hb.cell 0
  have r1 := hb.cell 1
  have r2 := hb.cell 2
  have r3 := hb.cell 3
  simp only [List.getElem?_toArray, List.getElem?_cons_zero, List.getElem?_cons_succ] at r0 r1 r2 r3
  have q0 := hb.frozen 0
  have q1 := hb.frozen 1
  have q2 := hb.frozen 2
  have q3 := hb.frozen 3
  clear hF hF1 hF9 hF9b hR hR9 hk hk9 hC9 hb hKn
  go_wp2
  clear r0 r1 r2 r3 q0 q1 q2 q3
  generalize ((((w1).setCell ⟨w.heap.size, 0, none⟩ (.int .i64 k1)).setCell ⟨w.heap.size, 1, none⟩ (.string s1)).setCell ⟨w.heap.size, 2, none⟩ (.int .i64 l1)).setCell ⟨w.heap.size, 3, none⟩ (.slice A1 n1 c1) = V9 at *
  have t0 := HC9.out.cell 0
  have t1 := HC9.out.cell 1
  have t2 := HC9.out.cell 2
  have t3 := HC9.out.cell 3
  simp only [List.getElem?_toArray, List.getElem?_cons_zero, List.getElem?_cons_succ] at t0 t1 t2 t3
  refine bodyPost_ret (v := .agg #[.int .i64 k1, .string s1, .int .i64 l1, .slice A1 n1 c1]) (by simp [results, Tryd.results98, go_sem, t0, t1, t2, t3]) rfl ?_
  rw [HPE.out, HQE.out]
  exact ⟨_, rfl, HF9.out, HR9.out, HK9.out⟩

set_option maxRecDepth 10000 in
set_option maxHeartbeats 4000000 in
theorem primary_3 (R n : Nat) (HP0 : PrimC R n) (d : Nat) (t : Tk.Tok) (r : List Tk.Tok) (w : World) (hn : r.length ≤ n) (hd : d + 1 + r.length ≤ 1000000) (hdd : d ≤ 200) (h : PR w R (t :: r)) (ht : t.t = [69, 88]) :
    Calls Tryd.prog 98 #[.pointer (some ⟨R, 0, none⟩), .int .i64 (d : Int)] w (ResP R w (Fm.pP (n + 1) d (t :: r))) := by
  have HP := Lib.hid HP0
  skip
  clear HP0 
  have HPE : Hid (Fm.pP (n + 1) d (t :: r) = Fm.unaS (Fm.pP n) 9 d r) := by
    unfold Hid
    rw [Fm.pP, Fm.prim, if_neg (by omega), show Fm.hdT (t :: r) = [69, 88] from ht]
    rfl
  have hk : t.k ≠ 0 := by
    obtain ⟨_, _, _, _, _, hS, _⟩ := h
    exact shape_text hS (by rw [ht]; decide)
  have q0 : ((bsv t.t).toList == ([116, 114, 117, 101] : List UInt8)) = false := (eq_lit t.t [116, 114, 117, 101]).trans (by rw [ht]; rfl)
  have q1 : ((bsv t.t).toList == ([102, 97, 108, 115, 101] : List UInt8)) = false := (eq_lit t.t [102, 97, 108, 115, 101]).trans (by rw [ht]; rfl)
  have q2 : ((bsv t.t).toList == ([33] : List UInt8)) = false := (eq_lit t.t [33]).trans (by rw [ht]; rfl)
  have q3 : ((bsv t.t).toList == ([69, 88] : List UInt8)) = true := (eq_lit t.t [69, 88]).trans (by rw [ht]; rfl)
  clear ht
  have hR0 := h.lt
  have lo := lowAlloc w (Obj.cells #[.int .i64 0, .string ⟨#[]⟩, .int .i64 0, .slice none 0 0] 24)
  have hk0 := (RKeep.refl R w).below lo
  have hb0 := Blk.new w 24 #[.int .i64 0, .string ⟨#[]⟩, .int .i64 0, .slice none 0 0]
  have h1 := h.below lo
  have hg0R : w.heap.size ≠ R := by omega
  clear h lo
  go_enter Tryd.func98, Tryd.ntmps98
  go_upto_region 1 with fail
  generalize w.alloc (Obj.cells #[.int .i64 0, .string ⟨#[]⟩, .int .i64 0, .slice none 0 0] 24) = W at *
  have hWw : w.heap.size < W.heap.size := hb0.lt
  have hgt : ¬ (200 : Int) < (d : Int) := by omega
  have HCA := Lib.hid (unary_any R n HP.out 9 d t r W hn (by omega) h1 hk)
  obtain ⟨b, off, cap, hbp, hT, hS, hl, hc⟩ := h1
  obtain ⟨_, t1, _⟩ := hT.2.2 0 (by simp)
  simp only [List.getElem_cons_zero, Nat.zero_mul, Nat.add_zero] at t1
  have c0 := hbp.cell 0
  simp only [List.getElem?_toArray, List.getElem?_cons_zero] at c0
  have hix := ix0 b off (t :: r).length cap (by simp)
  clear hbp hT hS hl hc HP
  go_wp2_with fail
  refine (HCA.out).mono ?_
  intro e w1 hQ
  rcases hq : Fm.unaS (Fm.pP n) 9 d r with ⟨ka, aa⟩ | ⟨f, r⟩
  · rw [hq] at hQ
    obtain ⟨rfl, hk1⟩ := hQ
    refine ⟨rfl, ?_⟩
    rw [HPE.out, hq]
    exact ⟨rfl, hk0.trans hk1⟩
  rw [hq] at hQ
  obtain ⟨v, rfl, hF, hR, hk1⟩ := hQ
  obtain ⟨k1, s1, l1, A1, n1, c1, rfl⟩ := hF.four
  have HQE := Lib.hid hq
  clear hq
  have hk := hk0.trans hk1
  have hb := hk1.blkOf hb0 hg0R
  have hlo : W.heap.size ≤ W.heap.size := Nat.le_refl _
  clear c0 t1 hix
  have hRg : R < w.heap.size := hR0
  have hKn : ¬ (W.heap.size ≤ w.heap.size ∧ w.heap.size < w1.heap.size) := by omega
  have hF1 : FV w1 (Fr W.heap.size w1.heap.size) _ (.agg #[.int .i64 k1, .string s1, .int .i64 l1, .slice A1 n1 c1]) := hF
  have hF9 := (((hF1.far (p := ⟨w.heap.size, 0, none⟩) hKn (.int .i64 k1)).far (p := ⟨w.heap.size, 1, none⟩) hKn (.string s1)).far (p := ⟨w.heap.size, 2, none⟩) hKn (.int .i64 l1)).far (p := ⟨w.heap.size, 3, none⟩) hKn (.slice A1 n1 c1)
  have hF9b := hF9.more (K' := Fr w.heap.size (((((w1).setCell ⟨w.heap.size, 0, none⟩ (.int .i64 k1)).setCell ⟨w.heap.size, 1, none⟩ (.string s1)).setCell ⟨w.heap.size, 2, none⟩ (.int .i64 l1)).setCell ⟨w.heap.size, 3, none⟩ (.slice A1 n1 c1)).heap.size) (fun b hb => ⟨by have := hb.1; omega, by have := hb.2; simp; omega⟩)
  have hR9 : PR (((((w1).setCell ⟨w.heap.size, 0, none⟩ (.int .i64 k1)).setCell ⟨w.heap.size, 1, none⟩ (.string s1)).setCell ⟨w.heap.size, 2, none⟩ (.int .i64 l1)).setCell ⟨w.heap.size, 3, none⟩ (.slice A1 n1 c1)) R _ := (((hR.far (p := ⟨w.heap.size, 0, none⟩) hRg _).far (p := ⟨w.heap.size, 1, none⟩) hRg _).far (p := ⟨w.heap.size, 2, none⟩) hRg _).far (p := ⟨w.heap.size, 3, none⟩) hRg _
  have hk9 : RKeep R w (((((w1).setCell ⟨w.heap.size, 0, none⟩ (.int .i64 k1)).setCell ⟨w.heap.size, 1, none⟩ (.string s1)).setCell ⟨w.heap.size, 2, none⟩ (.int .i64 l1)).setCell ⟨w.heap.size, 3, none⟩ (.slice A1 n1 c1)) := (((hk.far (p := ⟨w.heap.size, 0, none⟩) (Nat.le_refl _) _).far (p := ⟨w.heap.size, 1, none⟩) (Nat.le_refl _) _).far (p := ⟨w.heap.size, 2, none⟩) (Nat.le_refl _) _).far (p := ⟨w.heap.size, 3, none⟩) (Nat.le_refl _) _
  have hC9 : Blk (((((w1).setCell ⟨w.heap.size, 0, none⟩ (.int .i64 k1)).setCell ⟨w.heap.size, 1, none⟩ (.string s1)).setCell ⟨w.heap.size, 2, none⟩ (.int .i64 l1)).setCell ⟨w.heap.size, 3, none⟩ (.slice A1 n1 c1)) w.heap.size 24 #[.int .i64 k1, .string s1, .int .i64 l1, .slice A1 n1 c1] := by simpa using (((hb.put 0 (.int .i64 k1)).put 1 (.string s1)).put 2 (.int .i64 l1)).put 3 (.slice A1 n1 c1)
  have HC9 := Lib.hid hC9
  have HR9 := Lib.hid hR9
  have HK9 := Lib.hid hk9
  have HF9 := Lib.hid hF9b
  have r0 := hb.cell 0
  have r1 := hb.cell 1
  have r2 := hb.cell 2
  have r3 := hb.cell 3
  simp only [List.getElem?_toArray, List.getElem?_cons_zero, List.getElem?_cons_succ] at r0 r1 r2 r3
  have q0 := hb.frozen 0
  have q1 := hb.frozen 1
  have q2 := hb.frozen 2
  have q3 := hb.frozen 3
  clear hF hF1 hF9 hF9b hR hR9 hk hk9 hC9 hb hKn
  go_wp2
  clear r0 r1 r2 r3 q0 q1 q2 q3
  generalize ((((w1).setCell ⟨w.heap.size, 0, none⟩ (.int .i64 k1)).setCell ⟨w.heap.size, 1, none⟩ (.string s1)).setCell ⟨w.heap.size, 2, none⟩ (.int .i64 l1)).setCell ⟨w.heap.size, 3, none⟩ (.slice A1 n1 c1) = V9 at *
  have t0 := HC9.out.cell 0
  have t1 := HC9.out.cell 1
  have t2 := HC9.out.cell 2
  have t3 := HC9.out.cell 3
  simp only [List.getElem?_toArray, List.getElem?_cons_zero, List.getElem?_cons_succ] at t0 t1 t2 t3
  refine bodyPost_ret (v := .agg #[.int .i64 k1, .string s1, .int .i64 l1, .slice A1 n1 c1]) (by simp [results, Tryd.results98, go_sem, t0, t1, t2, t3]) rfl ?_
  rw [HPE.out, HQE.out]
  exact ⟨_, rfl, HF9.out, HR9.out, HK9.out⟩

set_option maxRecDepth 10000 in
set_option maxHeartbeats 4000000 in
theorem primary_4 (R n : Nat) (HP0 : PrimC R n) (d : Nat) (t : Tk.Tok) (r : List Tk.Tok) (w : World) (hn : r.length ≤ n) (hd : d + 1 + r.length ≤ 1000000) (hdd : d ≤ 200) (h : PR w R (t :: r)) (ht : t.t = [65, 88]) :
    Calls Tryd.prog 98 #[.pointer (some ⟨R, 0, none⟩), .int .i64 (d : Int)] w (ResP R w (Fm.pP (n + 1) d (t :: r))) := by
  have HP := Lib.hid HP0
  skip
  clear HP0 
  have HPE : Hid (Fm.pP (n + 1) d (t :: r) = Fm.unaS (Fm.pP n) 10 d r) := by
    unfold Hid
    rw [Fm.pP, Fm.prim, if_neg (by omega), show Fm.hdT (t :: r) = [65, 88] from ht]
    rfl
  have hk : t.k ≠ 0 := by
    obtain ⟨_, _, _, _, _, hS, _⟩ := h
    exact shape_text hS (by rw [ht]; decide)
  have q0 : ((bsv t.t).toList == ([116, 114, 117, 101] : List UInt8)) = false := (eq_lit t.t [116, 114, 117, 101]).trans (by rw [ht]; rfl)
  have q1 : ((bsv t.t).toList == ([102, 97, 108, 115, 101] : List UInt8)) = false := (eq_lit t.t [102, 97, 108, 115, 101]).trans (by rw [ht]; rfl)
  have q2 : ((bsv t.t).toList == ([33] : List UInt8)) = false := (eq_lit t.t [33]).trans (by rw [ht]; rfl)
  have q3 : ((bsv t.t).toList == ([69, 88] : List UInt8)) = false := (eq_lit t.t [69, 88]).trans (by rw [ht]; rfl)
  have q4 : ((bsv t.t).toList == ([65, 88] : List UInt8)) = true := (eq_lit t.t [65, 88]).trans (by rw [ht]; rfl)
  clear ht
  have hR0 := h.lt
  have lo := lowAlloc w (Obj.cells #[.int .i64 0, .string ⟨#[]⟩, .int .i64 0, .slice none 0 0] 24)
  have hk0 := (RKeep.refl R w).below lo
  have hb0 := Blk.new w 24 #[.int .i64 0, .string ⟨#[]⟩, .int .i64 0, .slice none 0 0]
  have h1 := h.below lo
  have hg0R : w.heap.size ≠ R := by omega
  clear h lo
  go_enter Tryd.func98, Tryd.ntmps98
  go_upto_region 1 with fail
  generalize w.alloc (Obj.cells #[.int .i64 0, .string ⟨#[]⟩, .int .i64 0, .slice none 0 0] 24) = W at *
  have hWw : w.heap.size < W.heap.size := hb0.lt
  have hgt : ¬ (200 : Int) < (d : Int) := by omega
  have HCA := Lib.hid (unary_any R n HP.out 10 d t r W hn (by omega) h1 hk)
  obtain ⟨b, off, cap, hbp, hT, hS, hl, hc⟩ := h1
  obtain ⟨_, t1, _⟩ := hT.2.2 0 (by simp)
  simp only [List.getElem_cons_zero, Nat.zero_mul, Nat.add_zero] at t1
  have c0 := hbp.cell 0
  simp only [List.getElem?_toArray, List.getElem?_cons_zero] at c0
  have hix := ix0 b off (t :: r).length cap (by simp)
  clear hbp hT hS hl hc HP
  go_wp2_with fail
  refine (HCA.out).mono ?_
  intro e w1 hQ
  rcases hq : Fm.unaS (Fm.pP n) 10 d r with ⟨ka, aa⟩ | ⟨f, r⟩
  · rw [hq] at hQ
    obtain ⟨rfl, hk1⟩ := hQ
    refine ⟨rfl, ?_⟩
    rw [HPE.out, hq]
    exact ⟨rfl, hk0.trans hk1⟩
  rw [hq] at hQ
  obtain ⟨v, rfl, hF, hR, hk1⟩ := hQ
  obtain ⟨k1, s1, l1, A1, n1, c1, rfl⟩ := hF.four
  have HQE := Lib.hid hq
  clear hq
  have hk := hk0.trans hk1
  have hb := hk1.blkOf hb0 hg0R
  have hlo : W.heap.size ≤ W.heap.size := Nat.le_refl _
  clear c0 t1 hix
  have hRg : R < w.heap.size := hR0
  have hKn : ¬ (W.heap.size ≤ w.heap.size ∧ w.heap.size < w1.heap.size) := by omega
  have hF1 : FV w1 (Fr W.heap.size w1.heap.size) _ (.agg #[.int .i64 k1, .string s1, .int .i64 l1, .slice A1 n1 c1]) := hF
  have hF9 := (((hF1.far (p := ⟨w.heap.size, 0, none⟩) hKn (.int .i64 k1)).far (p := ⟨w.heap.size, 1, none⟩) hKn (.string s1)).far (p := ⟨w.heap.size, 2, none⟩) hKn (.int .i64 l1)).far (p := ⟨w.heap.size, 3, none⟩) hKn (.slice A1 n1 c1)
  have hF9b := hF9.more (K' := Fr w.heap.size (((((w1).setCell ⟨w.heap.size, 0, none⟩ (.int .i64 k1)).setCell ⟨w.heap.size, 1, none⟩ (.string s1)).setCell ⟨w.heap.size, 2, none⟩ (.int .i64 l1)).setCell ⟨w.heap.size, 3, none⟩ (.slice A1 n1 c1)).heap.size) (fun b hb => ⟨by have := hb.1; omega, by have := hb.2; simp; omega⟩)
  have hR9 : PR (((((w1).setCell ⟨w.heap.size, 0, none⟩ (.int .i64 k1)).setCell ⟨w.heap.size, 1, none⟩ (.string s1)).setCell ⟨w.heap.size, 2, none⟩ (.int .i64 l1)).setCell ⟨w.heap.size, 3, none⟩ (.slice A1 n1 c1)) R _ := (((hR.far (p := ⟨w.heap.size, 0, none⟩) hRg _).far (p := ⟨w.heap.size, 1, none⟩) hRg _).far (p := ⟨w.heap.size, 2, none⟩) hRg _).far (p := ⟨w.heap.size, 3, none⟩) hRg _
  have hk9 : RKeep R w (((((w1).setCell ⟨w.heap.size, 0, none⟩ (.int .i64 k1)).setCell ⟨w.heap.size, 1, none⟩ (.string s1)).setCell ⟨w.heap.size, 2, none⟩ (.int .i64 l1)).setCell ⟨w.heap.size, 3, none⟩ (.slice A1 n1 c1)) := (((hk.far (p := ⟨w.heap.size, 0, none⟩) (Nat.le_refl _) _).far (p := ⟨w.heap.size, 1, none⟩) (Nat.le_refl _) _).far (p := ⟨w.heap.size, 2, none⟩) (Nat.le_refl _) _).far (p := ⟨w.heap.size, 3, none⟩) (Nat.le_refl _) _
  have hC9 : Blk (((((w1).setCell ⟨w.heap.size, 0, none⟩ (.int .i64 k1)).setCell ⟨w.heap.size, 1, none⟩ (.string s1)).setCell ⟨w.heap.size, 2, none⟩ (.int .i64 l1)).setCell ⟨w.heap.size, 3, none⟩ (.slice A1 n1 c1)) w.heap.size 24 #[.int .i64 k1, .string s1, .int .i64 l1, .slice A1 n1 c1] := by simpa using (((hb.put 0 (.int .i64 k1)).put 1 (.string s1)).put 2 (.int .i64 l1)).put 3 (.slice A1 n1 c1)
  have HC9 := Lib.hid hC9
  have HR9 := Lib.hid hR9
  have HK9 := Lib.hid hk9
  have HF9 := Lib.hid hF9b
  have r0 := hb.cell 0
  have r1 := hb.cell 1
  have r2 := hb.cell 2
  have r3 := hb.cell 3
  simp only [List.getElem?_toArray, List.getElem?_cons_zero, List.getElem?_cons_succ] at r0 r1 r2 r3
  have q0 := hb.frozen 0
  have q1 := hb.frozen 1
  have q2 := hb.frozen 2
  have q3 := hb.frozen 3
  clear hF hF1 hF9 hF9b hR hR9 hk hk9 hC9 hb hKn
  go_wp2
  clear r0 r1 r2 r3 q0 q1 q2 q3
  generalize ((((w1).setCell ⟨w.heap.size, 0, none⟩ (.int .i64 k1)).setCell ⟨w.heap.size, 1, none⟩ (.string s1)).setCell ⟨w.heap.size, 2, none⟩ (.int .i64 l1)).setCell ⟨w.heap.size, 3, none⟩ (.slice A1 n1 c1) = V9 at *
  have t0 := HC9.out.cell 0
  have t1 := HC9.out.cell 1
  have t2 := HC9.out.cell 2
  have t3 := HC9.out.cell 3
  simp only [List.getElem?_toArray, List.getElem?_cons_zero, List.getElem?_cons_succ] at t0 t1 t2 t3
  refine bodyPost_ret (v := .agg #[.int .i64 k1, .string s1, .int .i64 l1, .slice A1 n1 c1]) (by simp [results, Tryd.results98, go_sem, t0, t1, t2, t3]) rfl ?_
  rw [HPE.out, HQE.out]
  exact ⟨_, rfl, HF9.out, HR9.out, HK9.out⟩

set_option maxRecDepth 10000 in
set_option maxHeartbeats 4000000 in
theorem primary_5 (R n : Nat) (HP0 : PrimC R n) (d : Nat) (t : Tk.Tok) (r : List Tk.Tok) (w : World) (hn : r.length ≤ n) (hd : d + 1 + r.length ≤ 1000000) (hdd : d ≤ 200) (h : PR w R (t :: r)) (ht : t.t = [69, 70]) :
    Calls Tryd.prog 98 #[.pointer (some ⟨R, 0, none⟩), .int .i64 (d : Int)] w (ResP R w (Fm.pP (n + 1) d (t :: r))) := by
  have HP := Lib.hid HP0
  skip
  clear HP0 
  have HPE : Hid (Fm.pP (n + 1) d (t :: r) = Fm.unaS (Fm.pP n) 11 d r) := by
    unfold Hid
    rw [Fm.pP, Fm.prim, if_neg (by omega), show Fm.hdT (t :: r) = [69, 70] from ht]
    rfl
  have hk : t.k ≠ 0 := by
    obtain ⟨_, _, _, _, _, hS, _⟩ := h
    exact shape_text hS (by rw [ht]; decide)
  have q0 : ((bsv t.t).toList == ([116, 114, 117, 101] : List UInt8)) = false := (eq_lit t.t [116, 114, 117, 101]).trans (by rw [ht]; rfl)
  have q1 : ((bsv t.t).toList == ([102, 97, 108, 115, 101] : List UInt8)) = false := (eq_lit t.t [102, 97, 108, 115, 101]).trans (by rw [ht]; rfl)
  have q2 : ((bsv t.t).toList == ([33] : List UInt8)) = false := (eq_lit t.t [33]).trans (by rw [ht]; rfl)
  have q3 : ((bsv t.t).toList == ([69, 88] : List UInt8)) = false := (eq_lit t.t [69, 88]).trans (by rw [ht]; rfl)
  have q4 : ((bsv t.t).toList == ([65, 88] : List UInt8)) = false := (eq_lit t.t [65, 88]).trans (by rw [ht]; rfl)
  have q5 : ((bsv t.t).toList == ([69, 70] : List UInt8)) = true := (eq_lit t.t [69, 70]).trans (by rw [ht]; rfl)
  clear ht
  have hR0 := h.lt
  have lo := lowAlloc w (Obj.cells #[.int .i64 0, .string ⟨#[]⟩, .int .i64 0, .slice none 0 0] 24)
  have hk0 := (RKeep.refl R w).below lo
  have hb0 := Blk.new w 24 #[.int .i64 0, .string ⟨#[]⟩, .int .i64 0, .slice none 0 0]
  have h1 := h.below lo
  have hg0R : w.heap.size ≠ R := by omega
  clear h lo
  go_enter Tryd.func98, Tryd.ntmps98
  go_upto_region 1 with fail
  generalize w.alloc (Obj.cells #[.int .i64 0, .string ⟨#[]⟩, .int .i64 0, .slice none 0 0] 24) = W at *
  have hWw : w.heap.size < W.heap.size := hb0.lt
  have hgt : ¬ (200 : Int) < (d : Int) := by omega
  have HCA := Lib.hid (unary_any R n HP.out 11 d t r W hn (by omega) h1 hk)
  obtain ⟨b, off, cap, hbp, hT, hS, hl, hc⟩ := h1
  obtain ⟨_, t1, _⟩ := hT.2.2 0 (by simp)
  simp only [List.getElem_cons_zero, Nat.zero_mul, Nat.add_zero] at t1
  have c0 := hbp.cell 0
  simp only [List.getElem?_toArray, List.getElem?_cons_zero] at c0
  have hix := ix0 b off (t :: r).length cap (by simp)
  clear hbp hT hS hl hc HP
  go_wp2_with fail
  refine (HCA.out).mono ?_
  intro e w1 hQ
  rcases hq : Fm.unaS (Fm.pP n) 11 d r with ⟨ka, aa⟩ | ⟨f, r⟩
  · rw [hq] at hQ
    obtain ⟨rfl, hk1⟩ := hQ
    refine ⟨rfl, ?_⟩
    rw [HPE.out, hq]
    exact ⟨rfl, hk0.trans hk1⟩
  rw [hq] at hQ
  obtain ⟨v, rfl, hF, hR, hk1⟩ := hQ
  obtain ⟨k1, s1, l1, A1, n1, c1, rfl⟩ := hF.four
  have HQE := Lib.hid hq
  clear hq
  have hk := hk0.trans hk1
  have hb := hk1.blkOf hb0 hg0R
  have hlo : W.heap.size ≤ W.heap.size := Nat.le_refl _
  clear c0 t1 hix
  have hRg : R < w.heap.size := hR0
  have hKn : ¬ (W.heap.size ≤ w.heap.size ∧ w.heap.size < w1.heap.size) := by omega
  have hF1 : FV w1 (Fr W.heap.size w1.heap.size) _ (.agg #[.int .i64 k1, .string s1, .int .i64 l1, .slice A1 n1 c1]) := hF
  have hF9 := (((hF1.far (p := ⟨w.heap.size, 0, none⟩) hKn (.int .i64 k1)).far (p := ⟨w.heap.size, 1, none⟩) hKn (.string s1)).far (p := ⟨w.heap.size, 2, none⟩) hKn (.int .i64 l1)).far (p := ⟨w.heap.size, 3, none⟩) hKn (.slice A1 n1 c1)
  have hF9b := hF9.more (K' := Fr w.heap.size (((((w1).setCell ⟨w.heap.size, 0, none⟩ (.int .i64 k1)).setCell ⟨w.heap.size, 1, none⟩ (.string s1)).setCell ⟨w.heap.size, 2, none⟩ (.int .i64 l1)).setCell ⟨w.heap.size, 3, none⟩ (.slice A1 n1 c1)).heap.size) (fun b hb => ⟨by have := hb.1; omega, by have := hb.2; simp; omega⟩)
  have hR9 : PR (((((w1).setCell ⟨w.heap.size, 0, none⟩ (.int .i64 k1)).setCell ⟨w.heap.size, 1, none⟩ (.string s1)).setCell ⟨w.heap.size, 2, none⟩ (.int .i64 l1)).setCell ⟨w.heap.size, 3, none⟩ (.slice A1 n1 c1)) R _ := (((hR.far (p := ⟨w.heap.size, 0, none⟩) hRg _).far (p := ⟨w.heap.size, 1, none⟩) hRg _).far (p := ⟨w.heap.size, 2, none⟩) hRg _).far (p := ⟨w.heap.size, 3, none⟩) hRg _
  have hk9 : RKeep R w (((((w1).setCell ⟨w.heap.size, 0, none⟩ (.int .i64 k1)).setCell ⟨w.heap.size, 1, none⟩ (.string s1)).setCell ⟨w.heap.size, 2, none⟩ (.int .i64 l1)).setCell ⟨w.heap.size, 3, none⟩ (.slice A1 n1 c1)) := (((hk.far (p := ⟨w.heap.size, 0, none⟩) (Nat.le_refl _) _).far (p := ⟨w.heap.size, 1, none⟩) (Nat.le_refl _) _).far (p := ⟨w.heap.size, 2, none⟩) (Nat.le_refl _) _).far (p := ⟨w.heap.size, 3, none⟩) (Nat.le_refl _) _
  have hC9 : Blk (((((w1).setCell ⟨w.heap.size, 0, none⟩ (.int .i64 k1)).setCell ⟨w.heap.size, 1, none⟩ (.string s1)).setCell ⟨w.heap.size, 2, none⟩ (.int .i64 l1)).setCell ⟨w.heap.size, 3, none⟩ (.slice A1 n1 c1)) w.heap.size 24 #[.int .i64 k1, .string s1, .int .i64 l1, .slice A1 n1 c1] := by simpa using (((hb.put 0 (.int .i64 k1)).put 1 (.string s1)).put 2 (.int .i64 l1)).put 3 (.slice A1 n1 c1)
  have HC9 := Lib.hid hC9
  have HR9 := Lib.hid hR9
  have HK9 := Lib.hid hk9
  have HF9 := Lib.hid hF9b
  have r0 := hb.cell 0
  have r1 := hb.cell 1
  have r2 := hb.cell 2
  have r3 := hb.cell 3
  simp only [List.getElem?_toArray, List.getElem?_cons_zero, List.getElem?_cons_succ] at r0 r1 r2 r3
  have q0 := hb.frozen 0
  have q1 := hb.frozen 1
  have q2 := hb.frozen 2
  have q3 := hb.frozen 3
  clear hF hF1 hF9 hF9b hR hR9 hk hk9 hC9 hb hKn
  go_wp2
  clear r0 r1 r2 r3 q0 q1 q2 q3
  generalize ((((w1).setCell ⟨w.heap.size, 0, none⟩ (.int .i64 k1)).setCell ⟨w.heap.size, 1, none⟩ (.string s1)).setCell ⟨w.heap.size, 2, none⟩ (.int .i64 l1)).setCell ⟨w.heap.size, 3, none⟩ (.slice A1 n1 c1) = V9 at *
  have t0 := HC9.out.cell 0
  have t1 := HC9.out.cell 1
  have t2 := HC9.out.cell 2
  have t3 := HC9.out.cell 3
  simp only [List.getElem?_toArray, List.getElem?_cons_zero, List.getElem?_cons_succ] at t0 t1 t2 t3
  refine bodyPost_ret (v := .agg #[.int .i64 k1, .string s1, .int .i64 l1, .slice A1 n1 c1]) (by simp [results, Tryd.results98, go_sem, t0, t1, t2, t3]) rfl ?_
  rw [HPE.out, HQE.out]
  exact ⟨_, rfl, HF9.out, HR9.out, HK9.out⟩

set_option maxRecDepth 10000 in
set_option maxHeartbeats 4000000 in
theorem primary_6 (R n : Nat) (HP0 : PrimC R n) (d : Nat) (t : Tk.Tok) (r : List Tk.Tok) (w : World) (hn : r.length ≤ n) (hd : d + 1 + r.length ≤ 1000000) (hdd : d ≤ 200) (h : PR w R (t :: r)) (ht : t.t = [65, 70]) :
    Calls Tryd.prog 98 #[.pointer (some ⟨R, 0, none⟩), .int .i64 (d : Int)] w (ResP R w (Fm.pP (n + 1) d (t :: r))) := by
  have HP := Lib.hid HP0
  skip
  clear HP0 
  have HPE : Hid (Fm.pP (n + 1) d (t :: r) = Fm.unaS (Fm.pP n) 12 d r) := by
    unfold Hid
    rw [Fm.pP, Fm.prim, if_neg (by omega), show Fm.hdT (t :: r) = [65, 70] from ht]
    rfl
  have hk : t.k ≠ 0 := by
    obtain ⟨_, _, _, _, _, hS, _⟩ := h
    exact shape_text hS (by rw [ht]; decide)
  have q0 : ((bsv t.t).toList == ([116, 114, 117, 101] : List UInt8)) = false := (eq_lit t.t [116, 114, 117, 101]).trans (by rw [ht]; rfl)
  have q1 : ((bsv t.t).toList == ([102, 97, 108, 115, 101] : List UInt8)) = false := (eq_lit t.t [102, 97, 108, 115, 101]).trans (by rw [ht]; rfl)
  have q2 : ((bsv t.t).toList == ([33] : List UInt8)) = false := (eq_lit t.t [33]).trans (by rw [ht]; rfl)
  have q3 : ((bsv t.t).toList == ([69, 88] : List UInt8)) = false := (eq_lit t.t [69, 88]).trans (by rw [ht]; rfl)
  have q4 : ((bsv t.t).toList == ([65, 88] : List UInt8)) = false := (eq_lit t.t [65, 88]).trans (by rw [ht]; rfl)
  have q5 : ((bsv t.t).toList == ([69, 70] : List UInt8)) = false := (eq_lit t.t [69, 70]).trans (by rw [ht]; rfl)
  have q6 : ((bsv t.t).toList == ([65, 70] : List UInt8)) = true := (eq_lit t.t [65, 70]).trans (by rw [ht]; rfl)
  clear ht
  have hR0 := h.lt
  have lo := lowAlloc w (Obj.cells #[.int .i64 0, .string ⟨#[]⟩, .int .i64 0, .slice none 0 0] 24)
  have hk0 := (RKeep.refl R w).below lo
  have hb0 := Blk.new w 24 #[.int .i64 0, .string ⟨#[]⟩, .int .i64 0, .slice none 0 0]
  have h1 := h.below lo
  have hg0R : w.heap.size ≠ R := by omega
  clear h lo
  go_enter Tryd.func98, Tryd.ntmps98
  go_upto_region 1 with fail
  generalize w.alloc (Obj.cells #[.int .i64 0, .string ⟨#[]⟩, .int .i64 0, .slice none 0 0] 24) = W at *
  have hWw : w.heap.size < W.heap.size := hb0.lt
  have hgt : ¬ (200 : Int) < (d : Int) := by omega
  have HCA := Lib.hid (unary_any R n HP.out 12 d t r W hn (by omega) h1 hk)
  obtain ⟨b, off, cap, hbp, hT, hS, hl, hc⟩ := h1
  obtain ⟨_, t1, _⟩ := hT.2.2 0 (by simp)
  simp only [List.getElem_cons_zero, Nat.zero_mul, Nat.add_zero] at t1
  have c0 := hbp.cell 0
  simp only [List.getElem?_toArray, List.getElem?_cons_zero] at c0
  have hix := ix0 b off (t :: r).length cap (by simp)
  clear hbp hT hS hl hc HP
  go_wp2_with fail
  refine (HCA.out).mono ?_
  intro e w1 hQ
  rcases hq : Fm.unaS (Fm.pP n) 12 d r with ⟨ka, aa⟩ | ⟨f, r⟩
  · rw [hq] at hQ
    obtain ⟨rfl, hk1⟩ := hQ
    refine ⟨rfl, ?_⟩
    rw [HPE.out, hq]
    exact ⟨rfl, hk0.trans hk1⟩
  rw [hq] at hQ
  obtain ⟨v, rfl, hF, hR, hk1⟩ := hQ
  obtain ⟨k1, s1, l1, A1, n1, c1, rfl⟩ := hF.four
  have HQE := Lib.hid hq
  clear hq
  have hk := hk0.trans hk1
  have hb := hk1.blkOf hb0 hg0R
  have hlo : W.heap.size ≤ W.heap.size := Nat.le_refl _
  clear c0 t1 hix
  have hRg : R < w.heap.size := hR0
  have hKn : ¬ (W.heap.size ≤ w.heap.size ∧ w.heap.size < w1.heap.size) := by omega
  have hF1 : FV w1 (Fr W.heap.size w1.heap.size) _ (.agg #[.int .i64 k1, .string s1, .int .i64 l1, .slice A1 n1 c1]) := hF
  have hF9 := (((hF1.far (p := ⟨w.heap.size, 0, none⟩) hKn (.int .i64 k1)).far (p := ⟨w.heap.size, 1, none⟩) hKn (.string s1)).far (p := ⟨w.heap.size, 2, none⟩) hKn (.int .i64 l1)).far (p := ⟨w.heap.size, 3, none⟩) hKn (.slice A1 n1 c1)
  have hF9b := hF9.more (K' := Fr w.heap.size (((((w1).setCell ⟨w.heap.size, 0, none⟩ (.int .i64 k1)).setCell ⟨w.heap.size, 1, none⟩ (.string s1)).setCell ⟨w.heap.size, 2, none⟩ (.int .i64 l1)).setCell ⟨w.heap.size, 3, none⟩ (.slice A1 n1 c1)).heap.size) (fun b hb => ⟨by have := hb.1; omega, by have := hb.2; simp; omega⟩)
  have hR9 : PR (((((w1).setCell ⟨w.heap.size, 0, none⟩ (.int .i64 k1)).setCell ⟨w.heap.size, 1, none⟩ (.string s1)).setCell ⟨w.heap.size, 2, none⟩ (.int .i64 l1)).setCell ⟨w.heap.size, 3, none⟩ (.slice A1 n1 c1)) R _ := (((hR.far (p := ⟨w.heap.size, 0, none⟩) hRg _).far (p := ⟨w.heap.size, 1, none⟩) hRg _).far (p := ⟨w.heap.size, 2, none⟩) hRg _).far (p := ⟨w.heap.size, 3, none⟩) hRg _
  have hk9 : RKeep R w (((((w1).setCell ⟨w.heap.size, 0, none⟩ (.int .i64 k1)).setCell ⟨w.heap.size, 1, none⟩ (.string s1)).setCell ⟨w.heap.size, 2, none⟩ (.int .i64 l1)).setCell ⟨w.heap.size, 3, none⟩ (.slice A1 n1 c1)) := (((hk.far (p := ⟨w.heap.size, 0, none⟩) (Nat.le_refl _) _).far (p := ⟨w.heap.size, 1, none⟩) (Nat.le_refl _) _).far (p := ⟨w.heap.size, 2, none⟩) (Nat.le_refl _) _).far (p := ⟨w.heap.size, 3, none⟩) (Nat.le_refl _) _
  have hC9 : Blk (((((w1).setCell ⟨w.heap.size, 0, none⟩ (.int .i64 k1)).setCell ⟨w.heap.size, 1, none⟩ (.string s1)).setCell ⟨w.heap.size, 2, none⟩ (.int .i64 l1)).setCell ⟨w.heap.size, 3, none⟩ (.slice A1 n1 c1)) w.heap.size 24 #[.int .i64 k1, .string s1, .int .i64 l1, .slice A1 n1 c1] := by simpa using (((hb.put 0 (.int .i64 k1)).put 1 (.string s1)).put 2 (.int .i64 l1)).put 3 (.slice A1 n1 c1)
  have HC9 := Lib.hid hC9
  have HR9 := Lib.hid hR9
  have HK9 := Lib.hid hk9
  have HF9 := Lib.hid hF9b
  have r0 := hb.cell 0
  have r1 := hb.cell 1
  have r2 := hb.cell 2
  have r3 := hb.cell 3
  simp only [List.getElem?_toArray, List.getElem?_cons_zero, List.getElem?_cons_succ] at r0 r1 r2 r3
  have q0 := hb.frozen 0
  have q1 := hb.frozen 1
  have q2 := hb.frozen 2
  have q3 := hb.frozen 3
  clear hF hF1 hF9 hF9b hR hR9 hk hk9 hC9 hb hKn
  go_wp2
  clear r0 r1 r2 r3 q0 q1 q2 q3
  generalize ((((w1).setCell ⟨w.heap.size, 0, none⟩ (.int .i64 k1)).setCell ⟨w.heap.size, 1, none⟩ (.string s1)).setCell ⟨w.heap.size, 2, none⟩ (.int .i64 l1)).setCell ⟨w.heap.size, 3, none⟩ (.slice A1 n1 c1) = V9 at *
  have t0 := HC9.out.cell 0
  have t1 := HC9.out.cell 1
  have t2 := HC9.out.cell 2
  have t3 := HC9.out.cell 3
  simp only [List.getElem?_toArray, List.getElem?_cons_zero, List.getElem?_cons_succ] at t0 t1 t2 t3
  refine bodyPost_ret (v := .agg #[.int .i64 k1, .string s1, .int .i64 l1, .slice A1 n1 c1]) (by simp [results, Tryd.results98, go_sem, t0, t1, t2, t3]) rfl ?_
  rw [HPE.out, HQE.out]
  exact ⟨_, rfl, HF9.out, HR9.out, HK9.out⟩

set_option maxRecDepth 10000 in
set_option maxHeartbeats 4000000 in
theorem primary_7 (R n : Nat) (HP0 : PrimC R n) (d : Nat) (t : Tk.Tok) (r : List Tk.Tok) (w : World) (hn : r.length ≤ n) (hd : d + 1 + r.length ≤ 1000000) (hdd : d ≤ 200) (h : PR w R (t :: r)) (ht : t.t = [69, 71]) :
    Calls Tryd.prog 98 #[.pointer (some ⟨R, 0, none⟩), .int .i64 (d : Int)] w (ResP R w (Fm.pP (n + 1) d (t :: r))) := by
  have HP := Lib.hid HP0
  skip
  clear HP0 
  have HPE : Hid (Fm.pP (n + 1) d (t :: r) = Fm.unaS (Fm.pP n) 13 d r) := by
    unfold Hid
    rw [Fm.pP, Fm.prim, if_neg (by omega), show Fm.hdT (t :: r) = [69, 71] from ht]
    rfl
  have hk : t.k ≠ 0 := by
    obtain ⟨_, _, _, _, _, hS, _⟩ := h
    exact shape_text hS (by rw [ht]; decide)
  have q0 : ((bsv t.t).toList == ([116, 114, 117, 101] : List UInt8)) = false := (eq_lit t.t [116, 114, 117, 101]).trans (by rw [ht]; rfl)
  have q1 : ((bsv t.t).toList == ([102, 97, 108, 115, 101] : List UInt8)) = false := (eq_lit t.t [102, 97, 108, 115, 101]).trans (by rw [ht]; rfl)
  have q2 : ((bsv t.t).toList == ([33] : List UInt8)) = false := (eq_lit t.t [33]).trans (by rw [ht]; rfl)
  have q3 : ((bsv t.t).toList == ([69, 88] : List UInt8)) = false := (eq_lit t.t [69, 88]).trans (by rw [ht]; rfl)
  have q4 : ((bsv t.t).toList == ([65, 88] : List UInt8)) = false := (eq_lit t.t [65, 88]).trans (by rw [ht]; rfl)
  have q5 : ((bsv t.t).toList == ([69, 70] : List UInt8)) = false := (eq_lit t.t [69, 70]).trans (by rw [ht]; rfl)
  have q6 : ((bsv t.t).toList == ([65, 70] : List UInt8)) = false := (eq_lit t.t [65, 70]).trans (by rw [ht]; rfl)
  have q7 : ((bsv t.t).toList == ([69, 71] : List UInt8)) = true := (eq_lit t.t [69, 71]).trans (by rw [ht]; rfl)
  clear ht
  have hR0 := h.lt
  have lo := lowAlloc w (Obj.cells #[.int .i64 0, .string ⟨#[]⟩, .int .i64 0, .slice none 0 0] 24)
  have hk0 := (RKeep.refl R w).below lo
  have hb0 := Blk.new w 24 #[.int .i64 0, .string ⟨#[]⟩, .int .i64 0, .slice none 0 0]
  have h1 := h.below lo
  have hg0R : w.heap.size ≠ R := by omega
  clear h lo
  go_enter Tryd.func98, Tryd.ntmps98
  go_upto_region 1 with fail
  generalize w.alloc (Obj.cells #[.int .i64 0, .string ⟨#[]⟩, .int .i64 0, .slice none 0 0] 24) = W at *
  have hWw : w.heap.size < W.heap.size := hb0.lt
  have hgt : ¬ (200 : Int) < (d : Int) := by omega
  have HCA := Lib.hid (unary_any R n HP.out 13 d t r W hn (by omega) h1 hk)
  obtain ⟨b, off, cap, hbp, hT, hS, hl, hc⟩ := h1
  obtain ⟨_, t1, _⟩ := hT.2.2 0 (by simp)
  simp only [List.getElem_cons_zero, Nat.zero_mul, Nat.add_zero] at t1
  have c0 := hbp.cell 0
  simp only [List.getElem?_toArray, List.getElem?_cons_zero] at c0
  have hix := ix0 b off (t :: r).length cap (by simp)
  clear hbp hT hS hl hc HP
  go_wp2_with fail
  refine (HCA.out).mono ?_
  intro e w1 hQ
  rcases hq : Fm.unaS (Fm.pP n) 13 d r with ⟨ka, aa⟩ | ⟨f, r⟩
  · rw [hq] at hQ
    obtain ⟨rfl, hk1⟩ := hQ
    refine ⟨rfl, ?_⟩
    rw [HPE.out, hq]
    exact ⟨rfl, hk0.trans hk1⟩
  rw [hq] at hQ
  obtain ⟨v, rfl, hF, hR, hk1⟩ := hQ
  obtain ⟨k1, s1, l1, A1, n1, c1, rfl⟩ := hF.four
  have HQE := Lib.hid hq
  clear hq
  have hk := hk0.trans hk1
  have hb := hk1.blkOf hb0 hg0R
  have hlo : W.heap.size ≤ W.heap.size := Nat.le_refl _
  clear c0 t1 hix
  have hRg : R < w.heap.size := hR0
  have hKn : ¬ (W.heap.size ≤ w.heap.size ∧ w.heap.size < w1.heap.size) := by omega
  have hF1 : FV w1 (Fr W.heap.size w1.heap.size) _ (.agg #[.int .i64 k1, .string s1, .int .i64 l1, .slice A1 n1 c1]) := hF
  have hF9 := (((hF1.far (p := ⟨w.heap.size, 0, none⟩) hKn (.int .i64 k1)).far (p := ⟨w.heap.size, 1, none⟩) hKn (.string s1)).far (p := ⟨w.heap.size, 2, none⟩) hKn (.int .i64 l1)).far (p := ⟨w.heap.size, 3, none⟩) hKn (.slice A1 n1 c1)
  have hF9b := hF9.more (K' := Fr w.heap.size (((((w1).setCell ⟨w.heap.size, 0, none⟩ (.int .i64 k1)).setCell ⟨w.heap.size, 1, none⟩ (.string s1)).setCell ⟨w.heap.size, 2, none⟩ (.int .i64 l1)).setCell ⟨w.heap.size, 3, none⟩ (.slice A1 n1 c1)).heap.size) (fun b hb => ⟨by have := hb.1; omega, by have := hb.2; simp; omega⟩)
  have hR9 : PR (((((w1).setCell ⟨w.heap.size, 0, none⟩ (.int .i64 k1)).setCell ⟨w.heap.size, 1, none⟩ (.string s1)).setCell ⟨w.heap.size, 2, none⟩ (.int .i64 l1)).setCell ⟨w.heap.size, 3, none⟩ (.slice A1 n1 c1)) R _ := (((hR.far (p := ⟨w.heap.size, 0, none⟩) hRg _).far (p := ⟨w.heap.size, 1, none⟩) hRg _).far (p := ⟨w.heap.size, 2, none⟩) hRg _).far (p := ⟨w.heap.size, 3, none⟩) hRg _
  have hk9 : RKeep R w (((((w1).setCell ⟨w.heap.size, 0, none⟩ (.int .i64 k1)).setCell ⟨w.heap.size, 1, none⟩ (.string s1)).setCell ⟨w.heap.size, 2, none⟩ (.int .i64 l1)).setCell ⟨w.heap.size, 3, none⟩ (.slice A1 n1 c1)) := (((hk.far (p := ⟨w.heap.size, 0, none⟩) (Nat.le_refl _) _).far (p := ⟨w.heap.size, 1, none⟩) (Nat.le_refl _) _).far (p := ⟨w.heap.size, 2, none⟩) (Nat.le_refl _) _).far (p := ⟨w.heap.size, 3, none⟩) (Nat.le_refl _) _
  have hC9 : Blk (((((w1).setCell ⟨w.heap.size, 0, none⟩ (.int .i64 k1)).setCell ⟨w.heap.size, 1, none⟩ (.string s1)).setCell ⟨w.heap.size, 2, none⟩ (.int .i64 l1)).setCell ⟨w.heap.size, 3, none⟩ (.slice A1 n1 c1)) w.heap.size 24 #[.int .i64 k1, .string s1, .int .i64 l1, .slice A1 n1 c1] := by simpa using (((hb.put 0 (.int .i64 k1)).put 1 (.string s1)).put 2 (.int .i64 l1)).put 3 (.slice A1 n1 c1)
  have HC9 := Lib.hid hC9
  have HR9 := Lib.hid hR9
  have HK9 := Lib.hid hk9
  have HF9 := Lib.hid hF9b
  have r0 := hb.cell 0
  have r1 := hb.cell 1
  have r2 := hb.cell 2
  have r3 := hb.cell 3
  simp only [List.getElem?_toArray, List.getElem?_cons_zero, List.getElem?_cons_succ] at r0 r1 r2 r3
  have q0 := hb.frozen 0
  have q1 := hb.frozen 1
  have q2 := hb.frozen 2
  have q3 := hb.frozen 3
  clear hF hF1 hF9 hF9b hR hR9 hk hk9 hC9 hb hKn
  go_wp2
  clear r0 r1 r2 r3 q0 q1 q2 q3
  generalize ((((w1).setCell ⟨w.heap.size, 0, none⟩ (.int .i64 k1)).setCell ⟨w.heap.size, 1, none⟩ (.string s1)).setCell ⟨w.heap.size, 2, none⟩ (.int .i64 l1)).setCell ⟨w.heap.size, 3, none⟩ (.slice A1 n1 c1) = V9 at *
  have t0 := HC9.out.cell 0
  have t1 := HC9.out.cell 1
  have t2 := HC9.out.cell 2
  have t3 := HC9.out.cell 3
  simp only [List.getElem?_toArray, List.getElem?_cons_zero, List.getElem?_cons_succ] at t0 t1 t2 t3
  refine bodyPost_ret (v := .agg #[.int .i64 k1, .string s1, .int .i64 l1, .slice A1 n1 c1]) (by simp [results, Tryd.results98, go_sem, t0, t1, t2, t3]) rfl ?_
  rw [HPE.out, HQE.out]
  exact ⟨_, rfl, HF9.out, HR9.out, HK9.out⟩

set_option maxRecDepth 10000 in
set_option maxHeartbeats 4000000 in
theorem primary_8 (R n : Nat) (HP0 : PrimC R n) (d : Nat) (t : Tk.Tok) (r : List Tk.Tok) (w : World) (hn : r.length ≤ n) (hd : d + 1 + r.length ≤ 1000000) (hdd : d ≤ 200) (h : PR w R (t :: r)) (ht : t.t = [65, 71]) :
    Calls Tryd.prog 98 #[.pointer (some ⟨R, 0, none⟩), .int .i64 (d : Int)] w (ResP R w (Fm.pP (n + 1) d (t :: r))) := by
  have HP := Lib.hid HP0
  skip
  clear HP0 
  have HPE : Hid (Fm.pP (n + 1) d (t :: r) = Fm.unaS (Fm.pP n) 14 d r) := by
    unfold Hid
    rw [Fm.pP, Fm.prim, if_neg (by omega), show Fm.hdT (t :: r) = [65, 71] from ht]
    rfl
  have hk : t.k ≠ 0 := by
    obtain ⟨_, _, _, _, _, hS, _⟩ := h
    exact shape_text hS (by rw [ht]; decide)
  have q0 : ((bsv t.t).toList == ([116, 114, 117, 101] : List UInt8)) = false := (eq_lit t.t [116, 114, 117, 101]).trans (by rw [ht]; rfl)
  have q1 : ((bsv t.t).toList == ([102, 97, 108, 115, 101] : List UInt8)) = false := (eq_lit t.t [102, 97, 108, 115, 101]).trans (by rw [ht]; rfl)
  have q2 : ((bsv t.t).toList == ([33] : List UInt8)) = false := (eq_lit t.t [33]).trans (by rw [ht]; rfl)
  have q3 : ((bsv t.t).toList == ([69, 88] : List UInt8)) = false := (eq_lit t.t [69, 88]).trans (by rw [ht]; rfl)
  have q4 : ((bsv t.t).toList == ([65, 88] : List UInt8)) = false := (eq_lit t.t [65, 88]).trans (by rw [ht]; rfl)
  have q5 : ((bsv t.t).toList == ([69, 70] : List UInt8)) = false := (eq_lit t.t [69, 70]).trans (by rw [ht]; rfl)
  have q6 : ((bsv t.t).toList == ([65, 70] : List UInt8)) = false := (eq_lit t.t [65, 70]).trans (by rw [ht]; rfl)
  have q7 : ((bsv t.t).toList == ([69, 71] : List UInt8)) = false := (eq_lit t.t [69, 71]).trans (by rw [ht]; rfl)
  have q8 : ((bsv t.t).toList == ([65, 71] : List UInt8)) = true := (eq_lit t.t [65, 71]).trans (by rw [ht]; rfl)
  clear ht
  have hR0 := h.lt
  have lo := lowAlloc w (Obj.cells #[.int .i64 0, .string ⟨#[]⟩, .int .i64 0, .slice none 0 0] 24)
  have hk0 := (RKeep.refl R w).below lo
  have hb0 := Blk.new w 24 #[.int .i64 0, .string ⟨#[]⟩, .int .i64 0, .slice none 0 0]
  have h1 := h.below lo
  have hg0R : w.heap.size ≠ R := by omega
  clear h lo
  go_enter Tryd.func98, Tryd.ntmps98
  go_upto_region 1 with fail
  generalize w.alloc (Obj.cells #[.int .i64 0, .string ⟨#[]⟩, .int .i64 0, .slice none 0 0] 24) = W at *
  have hWw : w.heap.size < W.heap.size := hb0.lt
  have hgt : ¬ (200 : Int) < (d : Int) := by omega
  have HCA := Lib.hid (unary_any R n HP.out 14 d t r W hn (by omega) h1 hk)
  obtain ⟨b, off, cap, hbp, hT, hS, hl, hc⟩ := h1
  obtain ⟨_, t1, _⟩ := hT.2.2 0 (by simp)
  simp only [List.getElem_cons_zero, Nat.zero_mul, Nat.add_zero] at t1
  have c0 := hbp.cell 0
  simp only [List.getElem?_toArray, List.getElem?_cons_zero] at c0
  have hix := ix0 b off (t :: r).length cap (by simp)
  clear hbp hT hS hl hc HP
  go_wp2_with fail
  refine (HCA.out).mono ?_
  intro e w1 hQ
  rcases hq : Fm.unaS (Fm.pP n) 14 d r with ⟨ka, aa⟩ | ⟨f, r⟩
  · rw [hq] at hQ
    obtain ⟨rfl, hk1⟩ := hQ
    refine ⟨rfl, ?_⟩
    rw [HPE.out, hq]
    exact ⟨rfl, hk0.trans hk1⟩
  rw [hq] at hQ
  obtain ⟨v, rfl, hF, hR, hk1⟩ := hQ
  obtain ⟨k1, s1, l1, A1, n1, c1, rfl⟩ := hF.four
  have HQE := Lib.hid hq
  clear hq
  have hk := hk0.trans hk1
  have hb := hk1.blkOf hb0 hg0R
  have hlo : W.heap.size ≤ W.heap.size := Nat.le_refl _
  clear c0 t1 hix
  have hRg : R < w.heap.size := hR0
  have hKn : ¬ (W.heap.size ≤ w.heap.size ∧ w.heap.size < w1.heap.size) := by omega
  have hF1 : FV w1 (Fr W.heap.size w1.heap.size) _ (.agg #[.int .i64 k1, .string s1, .int .i64 l1, .slice A1 n1 c1]) := hF
  have hF9 := (((hF1.far (p := ⟨w.heap.size, 0, none⟩) hKn (.int .i64 k1)).far (p := ⟨w.heap.size, 1, none⟩) hKn (.string s1)).far (p := ⟨w.heap.size, 2, none⟩) hKn (.int .i64 l1)).far (p := ⟨w.heap.size, 3, none⟩) hKn (.slice A1 n1 c1)
  have hF9b := hF9.more (K' := Fr w.heap.size (((((w1).setCell ⟨w.heap.size, 0, none⟩ (.int .i64 k1)).setCell ⟨w.heap.size, 1, none⟩ (.string s1)).setCell ⟨w.heap.size, 2, none⟩ (.int .i64 l1)).setCell ⟨w.heap.size, 3, none⟩ (.slice A1 n1 c1)).heap.size) (fun b hb => ⟨by have := hb.1; omega, by have := hb.2; simp; omega⟩)
  have hR9 : PR (((((w1).setCell ⟨w.heap.size, 0, none⟩ (.int .i64 k1)).setCell ⟨w.heap.size, 1, none⟩ (.string s1)).setCell ⟨w.heap.size, 2, none⟩ (.int .i64 l1)).setCell ⟨w.heap.size, 3, none⟩ (.slice A1 n1 c1)) R _ := (((hR.far (p := ⟨w.heap.size, 0, none⟩) hRg _).far (p := ⟨w.heap.size, 1, none⟩) hRg _).far (p := ⟨w.heap.size, 2, none⟩) hRg _).far (p := ⟨w.heap.size, 3, none⟩) hRg _
  have hk9 : RKeep R w (((((w1).setCell ⟨w.heap.size, 0, none⟩ (.int .i64 k1)).setCell ⟨w.heap.size, 1, none⟩ (.string s1)).setCell ⟨w.heap.size, 2, none⟩ (.int .i64 l1)).setCell ⟨w.heap.size, 3, none⟩ (.slice A1 n1 c1)) := (((hk.far (p := ⟨w.heap.size, 0, none⟩) (Nat.le_refl _) _).far (p := ⟨w.heap.size, 1, none⟩) (Nat.le_refl _) _).far (p := ⟨w.heap.size, 2, none⟩) (Nat.le_refl _) _).far (p := ⟨w.heap.size, 3, none⟩) (Nat.le_refl _) _
  have hC9 : Blk (((((w1).setCell ⟨w.heap.size, 0, none⟩ (.int .i64 k1)).setCell ⟨w.heap.size, 1, none⟩ (.string s1)).setCell ⟨w.heap.size, 2, none⟩ (.int .i64 l1)).setCell ⟨w.heap.size, 3, none⟩ (.slice A1 n1 c1)) w.heap.size 24 #[.int .i64 k1, .string s1, .int .i64 l1, .slice A1 n1 c1] := by simpa using (((hb.put 0 (.int .i64 k1)).put 1 (.string s1)).put 2 (.int .i64 l1)).put 3 (.slice A1 n1 c1)
  have HC9 := Lib.hid hC9
  have HR9 := Lib.hid hR9
  have HK9 := Lib.hid hk9
  have HF9 := Lib.hid hF9b
  have r0 := hb.cell 0
  have r1 := hb.cell 1
  have r2 := hb.cell 2
  have r3 := hb.cell 3
  simp only [List.getElem?_toArray, List.getElem?_cons_zero, List.getElem?_cons_succ] at r0 r1 r2 r3
  have q0 := hb.frozen 0
  have q1 := hb.frozen 1
  have q2 := hb.frozen 2
  have q3 := hb.frozen 3
  clear hF hF1 hF9 hF9b hR hR9 hk hk9 hC9 hb hKn
  go_wp2
  clear r0 r1 r2 r3 q0 q1 q2 q3
  generalize ((((w1).setCell ⟨w.heap.size, 0, none⟩ (.int .i64 k1)).setCell ⟨w.heap.size, 1, none⟩ (.string s1)).setCell ⟨w.heap.size, 2, none⟩ (.int .i64 l1)).setCell ⟨w.heap.size, 3, none⟩ (.slice A1 n1 c1) = V9 at *
  have t0 := HC9.out.cell 0
  have t1 := HC9.out.cell 1
  have t2 := HC9.out.cell 2
  have t3 := HC9.out.cell 3
  simp only [List.getElem?_toArray, List.getElem?_cons_zero, List.getElem?_cons_succ] at t0 t1 t2 t3
  refine bodyPost_ret (v := .agg #[.int .i64 k1, .string s1, .int .i64 l1, .slice A1 n1 c1]) (by simp [results, Tryd.results98, go_sem, t0, t1, t2, t3]) rfl ?_
  rw [HPE.out, HQE.out]
  exact ⟨_, rfl, HF9.out, HR9.out, HK9.out⟩

set_option maxRecDepth 10000 in
set_option maxHeartbeats 4000000 in
theorem primary_9 (R n : Nat) (HP0 : PrimC R n) (d : Nat) (t : Tk.Tok) (r : List Tk.Tok) (w : World) (hn : r.length ≤ n) (hd : d + 1 + r.length ≤ 1000000) (hdd : d ≤ 200) (h : PR w R (t :: r)) (ht : t.t = [69]) :
    Calls Tryd.prog 98 #[.pointer (some ⟨R, 0, none⟩), .int .i64 (d : Int)] w (ResP R w (Fm.pP (n + 1) d (t :: r))) := by
  have HP := Lib.hid HP0
  skip
  clear HP0 
  have HPE : Hid (Fm.pP (n + 1) d (t :: r) = Fm.pathS (Fm.wholeG (Fm.pP n)) 15 17 d r) := by
    unfold Hid
    rw [Fm.pP, Fm.prim, if_neg (by omega), show Fm.hdT (t :: r) = [69] from ht]
    rfl
  have hk : t.k ≠ 0 := by
    obtain ⟨_, _, _, _, _, hS, _⟩ := h
    exact shape_text hS (by rw [ht]; decide)
  have q0 : ((bsv t.t).toList == ([116, 114, 117, 101] : List UInt8)) = false := (eq_lit t.t [116, 114, 117, 101]).trans (by rw [ht]; rfl)
  have q1 : ((bsv t.t).toList == ([102, 97, 108, 115, 101] : List UInt8)) = false := (eq_lit t.t [102, 97, 108, 115, 101]).trans (by rw [ht]; rfl)
  have q2 : ((bsv t.t).toList == ([33] : List UInt8)) = false := (eq_lit t.t [33]).trans (by rw [ht]; rfl)
  have q3 : ((bsv t.t).toList == ([69, 88] : List UInt8)) = false := (eq_lit t.t [69, 88]).trans (by rw [ht]; rfl)
  have q4 : ((bsv t.t).toList == ([65, 88] : List UInt8)) = false := (eq_lit t.t [65, 88]).trans (by rw [ht]; rfl)
  have q5 : ((bsv t.t).toList == ([69, 70] : List UInt8)) = false := (eq_lit t.t [69, 70]).trans (by rw [ht]; rfl)
  have q6 : ((bsv t.t).toList == ([65, 70] : List UInt8)) = false := (eq_lit t.t [65, 70]).trans (by rw [ht]; rfl)
  have q7 : ((bsv t.t).toList == ([69, 71] : List UInt8)) = false := (eq_lit t.t [69, 71]).trans (by rw [ht]; rfl)
  have q8 : ((bsv t.t).toList == ([65, 71] : List UInt8)) = false := (eq_lit t.t [65, 71]).trans (by rw [ht]; rfl)
  have q9 : ((bsv t.t).toList == ([69] : List UInt8)) = true := (eq_lit t.t [69]).trans (by rw [ht]; rfl)
  clear ht
  have hR0 := h.lt
  have lo := lowAlloc w (Obj.cells #[.int .i64 0, .string ⟨#[]⟩, .int .i64 0, .slice none 0 0] 24)
  have hk0 := (RKeep.refl R w).below lo
  have hb0 := Blk.new w 24 #[.int .i64 0, .string ⟨#[]⟩, .int .i64 0, .slice none 0 0]
  have h1 := h.below lo
  have hg0R : w.heap.size ≠ R := by omega
  clear h lo
  go_enter Tryd.func98, Tryd.ntmps98
  go_upto_region 1 with fail
  generalize w.alloc (Obj.cells #[.int .i64 0, .string ⟨#[]⟩, .int .i64 0, .slice none 0 0] 24) = W at *
  have hWw : w.heap.size < W.heap.size := hb0.lt
  have hgt : ¬ (200 : Int) < (d : Int) := by omega
  have HCA := Lib.hid (path_any R n HP.out 15 17 d t r W hn (by omega) h1 hk)
  obtain ⟨b, off, cap, hbp, hT, hS, hl, hc⟩ := h1
  obtain ⟨_, t1, _⟩ := hT.2.2 0 (by simp)
  simp only [List.getElem_cons_zero, Nat.zero_mul, Nat.add_zero] at t1
  have c0 := hbp.cell 0
  simp only [List.getElem?_toArray, List.getElem?_cons_zero] at c0
  have hix := ix0 b off (t :: r).length cap (by simp)
  clear hbp hT hS hl hc HP
  go_wp2_with fail
  refine (HCA.out).mono ?_
  intro e w1 hQ
  rcases hq : Fm.pathS (Fm.wholeG (Fm.pP n)) 15 17 d r with ⟨ka, aa⟩ | ⟨f, r⟩
  · rw [hq] at hQ
    obtain ⟨rfl, hk1⟩ := hQ
    refine ⟨rfl, ?_⟩
    rw [HPE.out, hq]
    exact ⟨rfl, hk0.trans hk1⟩
  rw [hq] at hQ
  obtain ⟨v, rfl, hF, hR, hk1⟩ := hQ
  obtain ⟨k1, s1, l1, A1, n1, c1, rfl⟩ := hF.four
  have HQE := Lib.hid hq
  clear hq
  have hk := hk0.trans hk1
  have hb := hk1.blkOf hb0 hg0R
  have hlo : W.heap.size ≤ W.heap.size := Nat.le_refl _
  clear c0 t1 hix
  have hRg : R < w.heap.size := hR0
  have hKn : ¬ (W.heap.size ≤ w.heap.size ∧ w.heap.size < w1.heap.size) := by omega
  have hF1 : FV w1 (Fr W.heap.size w1.heap.size) _ (.agg #[.int .i64 k1, .string s1, .int .i64 l1, .slice A1 n1 c1]) := hF
  have hF9 := (((hF1.far (p := ⟨w.heap.size, 0, none⟩) hKn (.int .i64 k1)).far (p := ⟨w.heap.size, 1, none⟩) hKn (.string s1)).far (p := ⟨w.heap.size, 2, none⟩) hKn (.int .i64 l1)).far (p := ⟨w.heap.size, 3, none⟩) hKn (.slice A1 n1 c1)
  have hF9b := hF9.more (K' := Fr w.heap.size (((((w1).setCell ⟨w.heap.size, 0, none⟩ (.int .i64 k1)).setCell ⟨w.heap.size, 1, none⟩ (.string s1)).setCell ⟨w.heap.size, 2, none⟩ (.int .i64 l1)).setCell ⟨w.heap.size, 3, none⟩ (.slice A1 n1 c1)).heap.size) (fun b hb => ⟨by have := hb.1; omega, by have := hb.2; simp; omega⟩)
  have hR9 : PR (((((w1).setCell ⟨w.heap.size, 0, none⟩ (.int .i64 k1)).setCell ⟨w.heap.size, 1, none⟩ (.string s1)).setCell ⟨w.heap.size, 2, none⟩ (.int .i64 l1)).setCell ⟨w.heap.size, 3, none⟩ (.slice A1 n1 c1)) R _ := (((hR.far (p := ⟨w.heap.size, 0, none⟩) hRg _).far (p := ⟨w.heap.size, 1, none⟩) hRg _).far (p := ⟨w.heap.size, 2, none⟩) hRg _).far (p := ⟨w.heap.size, 3, none⟩) hRg _
  have hk9 : RKeep R w (((((w1).setCell ⟨w.heap.size, 0, none⟩ (.int .i64 k1)).setCell ⟨w.heap.size, 1, none⟩ (.string s1)).setCell ⟨w.heap.size, 2, none⟩ (.int .i64 l1)).setCell ⟨w.heap.size, 3, none⟩ (.slice A1 n1 c1)) := (((hk.far (p := ⟨w.heap.size, 0, none⟩) (Nat.le_refl _) _).far (p := ⟨w.heap.size, 1, none⟩) (Nat.le_refl _) _).far (p := ⟨w.heap.size, 2, none⟩) (Nat.le_refl _) _).far (p := ⟨w.heap.size, 3, none⟩) (Nat.le_refl _) _
  have hC9 : Blk (((((w1).setCell ⟨w.heap.size, 0, none⟩ (.int .i64 k1)).setCell ⟨w.heap.size, 1, none⟩ (.string s1)).setCell ⟨w.heap.size, 2, none⟩ (.int .i64 l1)).setCell ⟨w.heap.size, 3, none⟩ (.slice A1 n1 c1)) w.heap.size 24 #[.int .i64 k1, .string s1, .int .i64 l1, .slice A1 n1 c1] := by simpa using (((hb.put 0 (.int .i64 k1)).put 1 (.string s1)).put 2 (.int .i64 l1)).put 3 (.slice A1 n1 c1)
  have HC9 := Lib.hid hC9
  have HR9 := Lib.hid hR9
  have HK9 := Lib.hid hk9
  have HF9 := Lib.hid hF9b
  have r0 := hb.cell 0
  have r1 := hb.cell 1
  have r2 := hb.cell 2
  have r3 := hb.cell 3
  simp only [List.getElem?_toArray, List.getElem?_cons_zero, List.getElem?_cons_succ] at r0 r1 r2 r3
  have q0 := hb.frozen 0
  have q1 := hb.frozen 1
  have q2 := hb.frozen 2
  have q3 := hb.frozen 3
  clear hF hF1 hF9 hF9b hR hR9 hk hk9 hC9 hb hKn
  go_wp2
  clear r0 r1 r2 r3 q0 q1 q2 q3
  generalize ((((w1).setCell ⟨w.heap.size, 0, none⟩ (.int .i64 k1)).setCell ⟨w.heap.size, 1, none⟩ (.string s1)).setCell ⟨w.heap.size, 2, none⟩ (.int .i64 l1)).setCell ⟨w.heap.size, 3, none⟩ (.slice A1 n1 c1) = V9 at *
  have t0 := HC9.out.cell 0
  have t1 := HC9.out.cell 1
  have t2 := HC9.out.cell 2
  have t3 := HC9.out.cell 3
  simp only [List.getElem?_toArray, List.getElem?_cons_zero, List.getElem?_cons_succ] at t0 t1 t2 t3
  refine bodyPost_ret (v := .agg #[.int .i64 k1, .string s1, .int .i64 l1, .slice A1 n1 c1]) (by simp [results, Tryd.results98, go_sem, t0, t1, t2, t3]) rfl ?_
  rw [HPE.out, HQE.out]
  exact ⟨_, rfl, HF9.out, HR9.out, HK9.out⟩

set_option maxRecDepth 10000 in
set_option maxHeartbeats 4000000 in
theorem primary_10 (R n : Nat) (HP0 : PrimC R n) (d : Nat) (t : Tk.Tok) (r : List Tk.Tok) (w : World) (hn : r.length ≤ n) (hd : d + 1 + r.length ≤ 1000000) (hdd : d ≤ 200) (h : PR w R (t :: r)) (ht : t.t = [65]) :
    Calls Tryd.prog 98 #[.pointer (some ⟨R, 0, none⟩), .int .i64 (d : Int)] w (ResP R w (Fm.pP (n + 1) d (t :: r))) := by
  have HP := Lib.hid HP0
  skip
  clear HP0 
  have HPE : Hid (Fm.pP (n + 1) d (t :: r) = Fm.pathS (Fm.wholeG (Fm.pP n)) 16 18 d r) := by
    unfold Hid
    rw [Fm.pP, Fm.prim, if_neg (by omega), show Fm.hdT (t :: r) = [65] from ht]
    rfl
  have hk : t.k ≠ 0 := by
    obtain ⟨_, _, _, _, _, hS, _⟩ := h
    exact shape_text hS (by rw [ht]; decide)
  have q0 : ((bsv t.t).toList == ([116, 114, 117, 101] : List UInt8)) = false := (eq_lit t.t [116, 114, 117, 101]).trans (by rw [ht]; rfl)
  have q1 : ((bsv t.t).toList == ([102, 97, 108, 115, 101] : List UInt8)) = false := (eq_lit t.t [102, 97, 108, 115, 101]).trans (by rw [ht]; rfl)
  have q2 : ((bsv t.t).toList == ([33] : List UInt8)) = false := (eq_lit t.t [33]).trans (by rw [ht]; rfl)
  have q3 : ((bsv t.t).toList == ([69, 88] : List UInt8)) = false := (eq_lit t.t [69, 88]).trans (by rw [ht]; rfl)
  have q4 : ((bsv t.t).toList == ([65, 88] : List UInt8)) = false := (eq_lit t.t [65, 88]).trans (by rw [ht]; rfl)
  have q5 : ((bsv t.t).toList == ([69, 70] : List UInt8)) = false := (eq_lit t.t [69, 70]).trans (by rw [ht]; rfl)
  have q6 : ((bsv t.t).toList == ([65, 70] : List UInt8)) = false := (eq_lit t.t [65, 70]).trans (by rw [ht]; rfl)
  have q7 : ((bsv t.t).toList == ([69, 71] : List UInt8)) = false := (eq_lit t.t [69, 71]).trans (by rw [ht]; rfl)
  have q8 : ((bsv t.t).toList == ([65, 71] : List UInt8)) = false := (eq_lit t.t [65, 71]).trans (by rw [ht]; rfl)
  have q9 : ((bsv t.t).toList == ([69] : List UInt8)) = false := (eq_lit t.t [69]).trans (by rw [ht]; rfl)
  have q10 : ((bsv t.t).toList == ([65] : List UInt8)) = true := (eq_lit t.t [65]).trans (by rw [ht]; rfl)
  clear ht
  have hR0 := h.lt
  have lo := lowAlloc w (Obj.cells #[.int .i64 0, .string ⟨#[]⟩, .int .i64 0, .slice none 0 0] 24)
  have hk0 := (RKeep.refl R w).below lo
  have hb0 := Blk.new w 24 #[.int .i64 0, .string ⟨#[]⟩, .int .i64 0, .slice none 0 0]
  have h1 := h.below lo
  have hg0R : w.heap.size ≠ R := by omega
  clear h lo
  go_enter Tryd.func98, Tryd.ntmps98
  go_upto_region 1 with fail
  generalize w.alloc (Obj.cells #[.int .i64 0, .string ⟨#[]⟩, .int .i64 0, .slice none 0 0] 24) = W at *
  have hWw : w.heap.size < W.heap.size := hb0.lt
  have hgt : ¬ (200 : Int) < (d : Int) := by omega
  have HCA := Lib.hid (path_any R n HP.out 16 18 d t r W hn (by omega) h1 hk)
  obtain ⟨b, off, cap, hbp, hT, hS, hl, hc⟩ := h1
  obtain ⟨_, t1, _⟩ := hT.2.2 0 (by simp)
  simp only [List.getElem_cons_zero, Nat.zero_mul, Nat.add_zero] at t1
  have c0 := hbp.cell 0
  simp only [List.getElem?_toArray, List.getElem?_cons_zero] at c0
  have hix := ix0 b off (t :: r).length cap (by simp)
  clear hbp hT hS hl hc HP
  go_wp2_with fail
  refine (HCA.out).mono ?_
  intro e w1 hQ
  rcases hq : Fm.pathS (Fm.wholeG (Fm.pP n)) 16 18 d r with ⟨ka, aa⟩ | ⟨f, r⟩
  · rw [hq] at hQ
    obtain ⟨rfl, hk1⟩ := hQ
    refine ⟨rfl, ?_⟩
    rw [HPE.out, hq]
    exact ⟨rfl, hk0.trans hk1⟩
  rw [hq] at hQ
  obtain ⟨v, rfl, hF, hR, hk1⟩ := hQ
  obtain ⟨k1, s1, l1, A1, n1, c1, rfl⟩ := hF.four
  have HQE := Lib.hid hq
  clear hq
  have hk := hk0.trans hk1
  have hb := hk1.blkOf hb0 hg0R
  have hlo : W.heap.size ≤ W.heap.size := Nat.le_refl _
  clear c0 t1 hix
  have hRg : R < w.heap.size := hR0
  have hKn : ¬ (W.heap.size ≤ w.heap.size ∧ w.heap.size < w1.heap.size) := by omega
  have hF1 : FV w1 (Fr W.heap.size w1.heap.size) _ (.agg #[.int .i64 k1, .string s1, .int .i64 l1, .slice A1 n1 c1]) := hF
  have hF9 := (((hF1.far (p := ⟨w.heap.size, 0, none⟩) hKn (.int .i64 k1)).far (p := ⟨w.heap.size, 1, none⟩) hKn (.string s1)).far (p := ⟨w.heap.size, 2, none⟩) hKn (.int .i64 l1)).far (p := ⟨w.heap.size, 3, none⟩) hKn (.slice A1 n1 c1)
  have hF9b := hF9.more (K' := Fr w.heap.size (((((w1).setCell ⟨w.heap.size, 0, none⟩ (.int .i64 k1)).setCell ⟨w.heap.size, 1, none⟩ (.string s1)).setCell ⟨w.heap.size, 2, none⟩ (.int .i64 l1)).setCell ⟨w.heap.size, 3, none⟩ (.slice A1 n1 c1)).heap.size) (fun b hb => ⟨by have := hb.1; omega, by have := hb.2; simp; omega⟩)
  have hR9 : PR (((((w1).setCell ⟨w.heap.size, 0, none⟩ (.int .i64 k1)).setCell ⟨w.heap.size, 1, none⟩ (.string s1)).setCell ⟨w.heap.size, 2, none⟩ (.int .i64 l1)).setCell ⟨w.heap.size, 3, none⟩ (.slice A1 n1 c1)) R _ := (((hR.far (p := ⟨w.heap.size, 0, none⟩) hRg _).far (p := ⟨w.heap.size, 1, none⟩) hRg _).far (p := ⟨w.heap.size, 2, none⟩) hRg _).far (p := ⟨w.heap.size, 3, none⟩) hRg _
  have hk9 : RKeep R w (((((w1).setCell ⟨w.heap.size, 0, none⟩ (.int .i64 k1)).setCell ⟨w.heap.size, 1, none⟩ (.string s1)).setCell ⟨w.heap.size, 2, none⟩ (.int .i64 l1)).setCell ⟨w.heap.size, 3, none⟩ (.slice A1 n1 c1)) := (((hk.far (p := ⟨w.heap.size, 0, none⟩) (Nat.le_refl _) _).far (p := ⟨w.heap.size, 1, none⟩) (Nat.le_refl _) _).far (p := ⟨w.heap.size, 2, none⟩) (Nat.le_refl _) _).far (p := ⟨w.heap.size, 3, none⟩) (Nat.le_refl _) _
  have hC9 : Blk (((((w1).setCell ⟨w.heap.size, 0, none⟩ (.int .i64 k1)).setCell ⟨w.heap.size, 1, none⟩ (.string s1)).setCell ⟨w.heap.size, 2, none⟩ (.int .i64 l1)).setCell ⟨w.heap.size, 3, none⟩ (.slice A1 n1 c1)) w.heap.size 24 #[.int .i64 k1, .string s1, .int .i64 l1, .slice A1 n1 c1] := by simpa using (((hb.put 0 (.int .i64 k1)).put 1 (.string s1)).put 2 (.int .i64 l1)).put 3 (.slice A1 n1 c1)
  have HC9 := Lib.hid hC9
  have HR9 := Lib.hid hR9
  have HK9 := Lib.hid hk9
  have HF9 := Lib.hid hF9b
  have r0 := hb.cell 0
  have r1 := hb.cell 1
  have r2 := hb.cell 2
  have r3 := hb.cell 3
  simp only [List.getElem?_toArray, List.getElem?_cons_zero, List.getElem?_cons_succ] at r0 r1 r2 r3
  have q0 := hb.frozen 0
  have q1 := hb.frozen 1
  have q2 := hb.frozen 2
  have q3 := hb.frozen 3
  clear hF hF1 hF9 hF9b hR hR9 hk hk9 hC9 hb hKn
  go_wp2
  clear r0 r1 r2 r3 q0 q1 q2 q3
  generalize ((((w1).setCell ⟨w.heap.size, 0, none⟩ (.int .i64 k1)).setCell ⟨w.heap.size, 1, none⟩ (.string s1)).setCell ⟨w.heap.size, 2, none⟩ (.int .i64 l1)).setCell ⟨w.heap.size, 3, none⟩ (.slice A1 n1 c1) = V9 at *
  have t0 := HC9.out.cell 0
  have t1 := HC9.out.cell 1
  have t2 := HC9.out.cell 2
  have t3 := HC9.out.cell 3
  simp only [List.getElem?_toArray, List.getElem?_cons_zero, List.getElem?_cons_succ] at t0 t1 t2 t3
  refine bodyPost_ret (v := .agg #[.int .i64 k1, .string s1, .int .i64 l1, .slice A1 n1 c1]) (by simp [results, Tryd.results98, go_sem, t0, t1, t2, t3]) rfl ?_
  rw [HPE.out, HQE.out]
  exact ⟨_, rfl, HF9.out, HR9.out, HK9.out⟩

set_option maxRecDepth 10000 in
set_option maxHeartbeats 4000000 in
theorem primary_11 (R n : Nat) (HP0 : PrimC R n) (d : Nat) (t : Tk.Tok) (r : List Tk.Tok) (w : World) (hn : r.length ≤ n) (hd : d + 1 + r.length ≤ 1000000) (hdd : d ≤ 200) (h : PR w R (t :: r)) (ht : t.t = [40]) :
    Calls Tryd.prog 98 #[.pointer (some ⟨R, 0, none⟩), .int .i64 (d : Int)] w (ResP R w (Fm.pP (n + 1) d (t :: r))) := by
  have HP := Lib.hid HP0
  skip
  clear HP0 
  have HPE : Hid (Fm.pP (n + 1) d (t :: r) = Fm.encS (Fm.wholeG (Fm.pP n)) d r) := by
    unfold Hid
    rw [Fm.pP, Fm.prim, if_neg (by omega), show Fm.hdT (t :: r) = [40] from ht]
    rfl
  have hk : t.k ≠ 0 := by
    obtain ⟨_, _, _, _, _, hS, _⟩ := h
    exact shape_text hS (by rw [ht]; decide)
  have q0 : ((bsv t.t).toList == ([116, 114, 117, 101] : List UInt8)) = false := (eq_lit t.t [116, 114, 117, 101]).trans (by rw [ht]; rfl)
  have q1 : ((bsv t.t).toList == ([102, 97, 108, 115, 101] : List UInt8)) = false := (eq_lit t.t [102, 97, 108, 115, 101]).trans (by rw [ht]; rfl)
  have q2 : ((bsv t.t).toList == ([33] : List UInt8)) = false := (eq_lit t.t [33]).trans (by rw [ht]; rfl)
  have q3 : ((bsv t.t).toList == ([69, 88] : List UInt8)) = false := (eq_lit t.t [69, 88]).trans (by rw [ht]; rfl)
  have q4 : ((bsv t.t).toList == ([65, 88] : List UInt8)) = false := (eq_lit t.t [65, 88]).trans (by rw [ht]; rfl)
  have q5 : ((bsv t.t).toList == ([69, 70] : List UInt8)) = false := (eq_lit t.t [69, 70]).trans (by rw [ht]; rfl)
  have q6 : ((bsv t.t).toList == ([65, 70] : List UInt8)) = false := (eq_lit t.t [65, 70]).trans (by rw [ht]; rfl)
  have q7 : ((bsv t.t).toList == ([69, 71] : List UInt8)) = false := (eq_lit t.t [69, 71]).trans (by rw [ht]; rfl)
  have q8 : ((bsv t.t).toList == ([65, 71] : List UInt8)) = false := (eq_lit t.t [65, 71]).trans (by rw [ht]; rfl)
  have q9 : ((bsv t.t).toList == ([69] : List UInt8)) = false := (eq_lit t.t [69]).trans (by rw [ht]; rfl)
  have q10 : ((bsv t.t).toList == ([65] : List UInt8)) = false := (eq_lit t.t [65]).trans (by rw [ht]; rfl)
  have q11 : ((bsv t.t).toList == ([40] : List UInt8)) = true := (eq_lit t.t [40]).trans (by rw [ht]; rfl)
  clear ht
  have hR0 := h.lt
  have lo := lowAlloc w (Obj.cells #[.int .i64 0, .string ⟨#[]⟩, .int .i64 0, .slice none 0 0] 24)
  have hk0 := (RKeep.refl R w).below lo
  have hb0 := Blk.new w 24 #[.int .i64 0, .string ⟨#[]⟩, .int .i64 0, .slice none 0 0]
  have h1 := h.below lo
  have hg0R : w.heap.size ≠ R := by omega
  clear h lo
  go_enter Tryd.func98, Tryd.ntmps98
  go_upto_region 1 with fail
  generalize w.alloc (Obj.cells #[.int .i64 0, .string ⟨#[]⟩, .int .i64 0, .slice none 0 0] 24) = W at *
  have hWw : w.heap.size < W.heap.size := hb0.lt
  have hgt : ¬ (200 : Int) < (d : Int) := by omega
  have HCA := Lib.hid (enclosed_any R n HP.out d t r W hn (by omega) h1 hk)
  obtain ⟨b, off, cap, hbp, hT, hS, hl, hc⟩ := h1
  obtain ⟨_, t1, _⟩ := hT.2.2 0 (by simp)
  simp only [List.getElem_cons_zero, Nat.zero_mul, Nat.add_zero] at t1
  have c0 := hbp.cell 0
  simp only [List.getElem?_toArray, List.getElem?_cons_zero] at c0
  have hix := ix0 b off (t :: r).length cap (by simp)
  clear hbp hT hS hl hc HP
  go_wp2_with fail
  refine (HCA.out).mono ?_
  intro e w1 hQ
  rcases hq : Fm.encS (Fm.wholeG (Fm.pP n)) d r with ⟨ka, aa⟩ | ⟨f, r⟩
  · rw [hq] at hQ
    obtain ⟨rfl, hk1⟩ := hQ
    refine ⟨rfl, ?_⟩
    rw [HPE.out, hq]
    exact ⟨rfl, hk0.trans hk1⟩
  rw [hq] at hQ
  obtain ⟨v, rfl, hF, hR, hk1⟩ := hQ
  obtain ⟨k1, s1, l1, A1, n1, c1, rfl⟩ := hF.four
  have HQE := Lib.hid hq
  clear hq
  have hk := hk0.trans hk1
  have hb := hk1.blkOf hb0 hg0R
  have hlo : W.heap.size ≤ W.heap.size := Nat.le_refl _
  clear c0 t1 hix
  have hRg : R < w.heap.size := hR0
  have hKn : ¬ (W.heap.size ≤ w.heap.size ∧ w.heap.size < w1.heap.size) := by omega
  have hF1 : FV w1 (Fr W.heap.size w1.heap.size) _ (.agg #[.int .i64 k1, .string s1, .int .i64 l1, .slice A1 n1 c1]) := hF
  have hF9 := (((hF1.far (p := ⟨w.heap.size, 0, none⟩) hKn (.int .i64 k1)).far (p := ⟨w.heap.size, 1, none⟩) hKn (.string s1)).far (p := ⟨w.heap.size, 2, none⟩) hKn (.int .i64 l1)).far (p := ⟨w.heap.size, 3, none⟩) hKn (.slice A1 n1 c1)
  have hF9b := hF9.more (K' := Fr w.heap.size (((((w1).setCell ⟨w.heap.size, 0, none⟩ (.int .i64 k1)).setCell ⟨w.heap.size, 1, none⟩ (.string s1)).setCell ⟨w.heap.size, 2, none⟩ (.int .i64 l1)).setCell ⟨w.heap.size, 3, none⟩ (.slice A1 n1 c1)).heap.size) (fun b hb => ⟨by have := hb.1; omega, by have := hb.2; simp; omega⟩)
  have hR9 : PR (((((w1).setCell ⟨w.heap.size, 0, none⟩ (.int .i64 k1)).setCell ⟨w.heap.size, 1, none⟩ (.string s1)).setCell ⟨w.heap.size, 2, none⟩ (.int .i64 l1)).setCell ⟨w.heap.size, 3, none⟩ (.slice A1 n1 c1)) R _ := (((hR.far (p := ⟨w.heap.size, 0, none⟩) hRg _).far (p := ⟨w.heap.size, 1, none⟩) hRg _).far (p := ⟨w.heap.size, 2, none⟩) hRg _).far (p := ⟨w.heap.size, 3, none⟩) hRg _
  have hk9 : RKeep R w (((((w1).setCell ⟨w.heap.size, 0, none⟩ (.int .i64 k1)).setCell ⟨w.heap.size, 1, none⟩ (.string s1)).setCell ⟨w.heap.size, 2, none⟩ (.int .i64 l1)).setCell ⟨w.heap.size, 3, none⟩ (.slice A1 n1 c1)) := (((hk.far (p := ⟨w.heap.size, 0, none⟩) (Nat.le_refl _) _).far (p := ⟨w.heap.size, 1, none⟩) (Nat.le_refl _) _).far (p := ⟨w.heap.size, 2, none⟩) (Nat.le_refl _) _).far (p := ⟨w.heap.size, 3, none⟩) (Nat.le_refl _) _
  have hC9 : Blk (((((w1).setCell ⟨w.heap.size, 0, none⟩ (.int .i64 k1)).setCell ⟨w.heap.size, 1, none⟩ (.string s1)).setCell ⟨w.heap.size, 2, none⟩ (.int .i64 l1)).setCell ⟨w.heap.size, 3, none⟩ (.slice A1 n1 c1)) w.heap.size 24 #[.int .i64 k1, .string s1, .int .i64 l1, .slice A1 n1 c1] := by simpa using (((hb.put 0 (.int .i64 k1)).put 1 (.string s1)).put 2 (.int .i64 l1)).put 3 (.slice A1 n1 c1)
  have HC9 := Lib.hid hC9
  have HR9 := Lib.hid hR9
  have HK9 := Lib.hid hk9
  have HF9 := Lib.hid hF9b
  have r0 := hb.cell 0
  have r1 := hb.cell 1
  have r2 := hb.cell 2
  have r3 := hb.cell 3
  simp only [List.getElem?_toArray, List.getElem?_cons_zero, List.getElem?_cons_succ] at r0 r1 r2 r3
  have q0 := hb.frozen 0
  have q1 := hb.frozen 1
  have q2 := hb.frozen 2
  have q3 := hb.frozen 3
  clear hF hF1 hF9 hF9b hR hR9 hk hk9 hC9 hb hKn
  go_wp2
  clear r0 r1 r2 r3 q0 q1 q2 q3
  generalize ((((w1).setCell ⟨w.heap.size, 0, none⟩ (.int .i64 k1)).setCell ⟨w.heap.size, 1, none⟩ (.string s1)).setCell ⟨w.heap.size, 2, none⟩ (.int .i64 l1)).setCell ⟨w.heap.size, 3, none⟩ (.slice A1 n1 c1) = V9 at *
  have t0 := HC9.out.cell 0
  have t1 := HC9.out.cell 1
  have t2 := HC9.out.cell 2
  have t3 := HC9.out.cell 3
  simp only [List.getElem?_toArray, List.getElem?_cons_zero, List.getElem?_cons_succ] at t0 t1 t2 t3
  refine bodyPost_ret (v := .agg #[.int .i64 k1, .string s1, .int .i64 l1, .slice A1 n1 c1]) (by simp [results, Tryd.results98, go_sem, t0, t1, t2, t3]) rfl ?_
  rw [HPE.out, HQE.out]
  exact ⟨_, rfl, HF9.out, HR9.out, HK9.out⟩

set_option maxRecDepth 10000 in
set_option maxHeartbeats 4000000 in
theorem primary_12 (R n : Nat) (HP0 : PrimC R n) (HA0 : AtomC R) (d : Nat) (t : Tk.Tok) (r : List Tk.Tok) (w : World) (hn : r.length ≤ n) (hd : d + 1 + r.length ≤ 1000000) (hdd : d ≤ 200) (h : PR w R (t :: r)) (hn0 : t.t ≠ [116, 114, 117, 101]) (hn1 : t.t ≠ [102, 97, 108, 115, 101]) (hn2 : t.t ≠ [33]) (hn3 : t.t ≠ [69, 88]) (hn4 : t.t ≠ [65, 88]) (hn5 : t.t ≠ [69, 70]) (hn6 : t.t ≠ [65, 70]) (hn7 : t.t ≠ [69, 71]) (hn8 : t.t ≠ [65, 71]) (hn9 : t.t ≠ [69]) (hn10 : t.t ≠ [65]) (hn11 : t.t ≠ [40]) :
    Calls Tryd.prog 98 #[.pointer (some ⟨R, 0, none⟩), .int .i64 (d : Int)] w (ResP R w (Fm.pP (n + 1) d (t :: r))) := by
  have HP := Lib.hid HP0
  have HA := Lib.hid HA0
  clear HP0 HA0
  have HPE : Hid (Fm.pP (n + 1) d (t :: r) = Fm.atomT (t :: r)) := by
    unfold Hid
    rw [Fm.pP, Fm.prim, if_neg (by omega)]
    show Fm.primT _ _ d t.t _ = _
    unfold Fm.primT Fm.unKind
    simp only [hn0, hn1, hn2, hn3, hn4, hn5, hn6, hn7, hn8, hn9, hn10, hn11, if_false]
  have q0 : ((bsv t.t).toList == ([116, 114, 117, 101] : List UInt8)) = false := (eq_lit t.t [116, 114, 117, 101]).trans (by simpa using hn0)
  have q1 : ((bsv t.t).toList == ([102, 97, 108, 115, 101] : List UInt8)) = false := (eq_lit t.t [102, 97, 108, 115, 101]).trans (by simpa using hn1)
  have q2 : ((bsv t.t).toList == ([33] : List UInt8)) = false := (eq_lit t.t [33]).trans (by simpa using hn2)
  have q3 : ((bsv t.t).toList == ([69, 88] : List UInt8)) = false := (eq_lit t.t [69, 88]).trans (by simpa using hn3)
  have q4 : ((bsv t.t).toList == ([65, 88] : List UInt8)) = false := (eq_lit t.t [65, 88]).trans (by simpa using hn4)
  have q5 : ((bsv t.t).toList == ([69, 70] : List UInt8)) = false := (eq_lit t.t [69, 70]).trans (by simpa using hn5)
  have q6 : ((bsv t.t).toList == ([65, 70] : List UInt8)) = false := (eq_lit t.t [65, 70]).trans (by simpa using hn6)
  have q7 : ((bsv t.t).toList == ([69, 71] : List UInt8)) = false := (eq_lit t.t [69, 71]).trans (by simpa using hn7)
  have q8 : ((bsv t.t).toList == ([65, 71] : List UInt8)) = false := (eq_lit t.t [65, 71]).trans (by simpa using hn8)
  have q9 : ((bsv t.t).toList == ([69] : List UInt8)) = false := (eq_lit t.t [69]).trans (by simpa using hn9)
  have q10 : ((bsv t.t).toList == ([65] : List UInt8)) = false := (eq_lit t.t [65]).trans (by simpa using hn10)
  have q11 : ((bsv t.t).toList == ([40] : List UInt8)) = false := (eq_lit t.t [40]).trans (by simpa using hn11)
  clear hn0 hn1 hn2 hn3 hn4 hn5 hn6 hn7 hn8 hn9 hn10 hn11
  have hR0 := h.lt
  have lo := lowAlloc w (Obj.cells #[.int .i64 0, .string ⟨#[]⟩, .int .i64 0, .slice none 0 0] 24)
  have hk0 := (RKeep.refl R w).below lo
  have hb0 := Blk.new w 24 #[.int .i64 0, .string ⟨#[]⟩, .int .i64 0, .slice none 0 0]
  have h1 := h.below lo
  have hg0R : w.heap.size ≠ R := by omega
  clear h lo
  go_enter Tryd.func98, Tryd.ntmps98
  go_upto_region 1 with fail
  generalize w.alloc (Obj.cells #[.int .i64 0, .string ⟨#[]⟩, .int .i64 0, .slice none 0 0] 24) = W at *
  have hWw : w.heap.size < W.heap.size := hb0.lt
  have hgt : ¬ (200 : Int) < (d : Int) := by omega
  have HCA := Lib.hid (HA.out (t :: r) W h1)
  obtain ⟨b, off, cap, hbp, hT, hS, hl, hc⟩ := h1
  obtain ⟨_, t1, _⟩ := hT.2.2 0 (by simp)
  simp only [List.getElem_cons_zero, Nat.zero_mul, Nat.add_zero] at t1
  have c0 := hbp.cell 0
  simp only [List.getElem?_toArray, List.getElem?_cons_zero] at c0
  have hix := ix0 b off (t :: r).length cap (by simp)
  clear hbp hT hS hl hc HP
  go_wp2_with fail
  refine (HCA.out).mono ?_
  intro e w1 hQ
  rcases hq : Fm.atomT (t :: r) with ⟨ka, aa⟩ | ⟨f, r⟩
  · rw [hq] at hQ
    obtain ⟨rfl, hk1⟩ := hQ
    refine ⟨rfl, ?_⟩
    rw [HPE.out, hq]
    exact ⟨rfl, hk0.trans hk1⟩
  rw [hq] at hQ
  obtain ⟨v, rfl, hF, hR, hk1⟩ := hQ
  obtain ⟨k1, s1, l1, A1, n1, c1, rfl⟩ := hF.four
  have HQE := Lib.hid hq
  clear hq
  have hk := hk0.trans hk1
  have hb := hk1.blkOf hb0 hg0R
  have hlo : W.heap.size ≤ W.heap.size := Nat.le_refl _
  clear c0 t1 hix
  have hRg : R < w.heap.size := hR0
  have hKn : ¬ (W.heap.size ≤ w.heap.size ∧ w.heap.size < w1.heap.size) := by omega
  have hF1 : FV w1 (Fr W.heap.size w1.heap.size) _ (.agg #[.int .i64 k1, .string s1, .int .i64 l1, .slice A1 n1 c1]) := hF
  have hF9 := (((hF1.far (p := ⟨w.heap.size, 0, none⟩) hKn (.int .i64 k1)).far (p := ⟨w.heap.size, 1, none⟩) hKn (.string s1)).far (p := ⟨w.heap.size, 2, none⟩) hKn (.int .i64 l1)).far (p := ⟨w.heap.size, 3, none⟩) hKn (.slice A1 n1 c1)
  have hF9b := hF9.more (K' := Fr w.heap.size (((((w1).setCell ⟨w.heap.size, 0, none⟩ (.int .i64 k1)).setCell ⟨w.heap.size, 1, none⟩ (.string s1)).setCell ⟨w.heap.size, 2, none⟩ (.int .i64 l1)).setCell ⟨w.heap.size, 3, none⟩ (.slice A1 n1 c1)).heap.size) (fun b hb => ⟨by have := hb.1; omega, by have := hb.2; simp; omega⟩)
  have hR9 : PR (((((w1).setCell ⟨w.heap.size, 0, none⟩ (.int .i64 k1)).setCell ⟨w.heap.size, 1, none⟩ (.string s1)).setCell ⟨w.heap.size, 2, none⟩ (.int .i64 l1)).setCell ⟨w.heap.size, 3, none⟩ (.slice A1 n1 c1)) R _ := (((hR.far (p := ⟨w.heap.size, 0, none⟩) hRg _).far (p := ⟨w.heap.size, 1, none⟩) hRg _).far (p := ⟨w.heap.size, 2, none⟩) hRg _).far (p := ⟨w.heap.size, 3, none⟩) hRg _
  have hk9 : RKeep R w (((((w1).setCell ⟨w.heap.size, 0, none⟩ (.int .i64 k1)).setCell ⟨w.heap.size, 1, none⟩ (.string s1)).setCell ⟨w.heap.size, 2, none⟩ (.int .i64 l1)).setCell ⟨w.heap.size, 3, none⟩ (.slice A1 n1 c1)) := (((hk.far (p := ⟨w.heap.size, 0, none⟩) (Nat.le_refl _) _).far (p := ⟨w.heap.size, 1, none⟩) (Nat.le_refl _) _).far (p := ⟨w.heap.size, 2, none⟩) (Nat.le_refl _) _).far (p := ⟨w.heap.size, 3, none⟩) (Nat.le_refl _) _
  have hC9 : Blk (((((w1).setCell ⟨w.heap.size, 0, none⟩ (.int .i64 k1)).setCell ⟨w.heap.size, 1, none⟩ (.string s1)).setCell ⟨w.heap.size, 2, none⟩ (.int .i64 l1)).setCell ⟨w.heap.size, 3, none⟩ (.slice A1 n1 c1)) w.heap.size 24 #[.int .i64 k1, .string s1, .int .i64 l1, .slice A1 n1 c1] := by simpa using (((hb.put 0 (.int .i64 k1)).put 1 (.string s1)).put 2 (.int .i64 l1)).put 3 (.slice A1 n1 c1)
  have HC9 := Lib.hid hC9
  have HR9 := Lib.hid hR9
  have HK9 := Lib.hid hk9
  have HF9 := Lib.hid hF9b
  have r0 := hb.cell 0
  have r1 := hb.cell 1
  have r2 := hb.cell 2
  have r3 := hb.cell 3
  simp only [List.getElem?_toArray, List.getElem?_cons_zero, List.getElem?_cons_succ] at r0 r1 r2 r3
  have q0 := hb.frozen 0
  have q1 := hb.frozen 1
  have q2 := hb.frozen 2
  have q3 := hb.frozen 3
  clear hF hF1 hF9 hF9b hR hR9 hk hk9 hC9 hb hKn
  go_wp2
  clear r0 r1 r2 r3 q0 q1 q2 q3
  generalize ((((w1).setCell ⟨w.heap.size, 0, none⟩ (.int .i64 k1)).setCell ⟨w.heap.size, 1, none⟩ (.string s1)).setCell ⟨w.heap.size, 2, none⟩ (.int .i64 l1)).setCell ⟨w.heap.size, 3, none⟩ (.slice A1 n1 c1) = V9 at *
  have t0 := HC9.out.cell 0
  have t1 := HC9.out.cell 1
  have t2 := HC9.out.cell 2
  have t3 := HC9.out.cell 3
  simp only [List.getElem?_toArray, List.getElem?_cons_zero, List.getElem?_cons_succ] at t0 t1 t2 t3
  refine bodyPost_ret (v := .agg #[.int .i64 k1, .string s1, .int .i64 l1, .slice A1 n1 c1]) (by simp [results, Tryd.results98, go_sem, t0, t1, t2, t3]) rfl ?_
  rw [HPE.out, HQE.out]
  exact ⟨_, rfl, HF9.out, HR9.out, HK9.out⟩

set_option maxRecDepth 10000 in
set_option maxHeartbeats 4000000 in
theorem primary_deep (R : Nat) (d : Nat) (ts : List Tk.Tok) (w : World) (hdd : 200 < d) (h : PR w R ts) :
    Calls Tryd.prog 98 #[.pointer (some ⟨R, 0, none⟩), .int .i64 (d : Int)] w (ResP R w (.error (2, 0))) := by
  have hR0 := h.lt
  have lo := lowAlloc w (Obj.cells #[.int .i64 0, .string ⟨#[]⟩, .int .i64 0, .slice none 0 0] 24)
  have hk0 := (RKeep.refl R w).below lo
  have hb0 := Blk.new w 24 #[.int .i64 0, .string ⟨#[]⟩, .int .i64 0, .slice none 0 0]
  have h1 := h.below lo
  have hg0R : w.heap.size ≠ R := by omega
  clear h lo
  go_enter Tryd.func98, Tryd.ntmps98
  go_upto_region 1 with fail
  generalize w.alloc (Obj.cells #[.int .i64 0, .string ⟨#[]⟩, .int .i64 0, .slice none 0 0] 24) = W at *
  have hWw : w.heap.size < W.heap.size := hb0.lt
  have hgt : (200 : Int) < (d : Int) := by omega
  go_wp2_with fail
  refine (toolong_any W).mono ?_
  rintro e w1 ⟨rfl, rfl⟩
  exact ⟨rfl, rfl, hk0⟩

theorem primary_step (R n : Nat) (HP : PrimC R n) (HA : AtomC R) : PrimC R (n + 1) := by
  intro d ts w hn hd h
  by_cases hdd : 200 < d
  · have e : Fm.pP (n + 1) d ts = .error (2, 0) := by rw [Fm.pP, Fm.prim, if_pos hdd]
    rw [e]
    exact primary_deep R d ts w hdd h
  · have hS : ShapeL ts := by
      obtain ⟨_, _, _, _, _, hS, _⟩ := h
      exact hS
    obtain ⟨t, r, rfl⟩ := shape_ne hS
    rw [List.length_cons] at hn hd
    by_cases e0 : t.t = [116, 114, 117, 101]
    · exact primary_0 R n HP d t r w (by omega) (by omega) (by omega) h e0
    by_cases e1 : t.t = [102, 97, 108, 115, 101]
    · exact primary_1 R n HP d t r w (by omega) (by omega) (by omega) h e1
    by_cases e2 : t.t = [33]
    · exact primary_2 R n HP d t r w (by omega) (by omega) (by omega) h e2
    by_cases e3 : t.t = [69, 88]
    · exact primary_3 R n HP d t r w (by omega) (by omega) (by omega) h e3
    by_cases e4 : t.t = [65, 88]
    · exact primary_4 R n HP d t r w (by omega) (by omega) (by omega) h e4
    by_cases e5 : t.t = [69, 70]
    · exact primary_5 R n HP d t r w (by omega) (by omega) (by omega) h e5
    by_cases e6 : t.t = [65, 70]
    · exact primary_6 R n HP d t r w (by omega) (by omega) (by omega) h e6
    by_cases e7 : t.t = [69, 71]
    · exact primary_7 R n HP d t r w (by omega) (by omega) (by omega) h e7
    by_cases e8 : t.t = [65, 71]
    · exact primary_8 R n HP d t r w (by omega) (by omega) (by omega) h e8
    by_cases e9 : t.t = [69]
    · exact primary_9 R n HP d t r w (by omega) (by omega) (by omega) h e9
    by_cases e10 : t.t = [65]
    · exact primary_10 R n HP d t r w (by omega) (by omega) (by omega) h e10
    by_cases e11 : t.t = [40]
    · exact primary_11 R n HP d t r w (by omega) (by omega) (by omega) h e11
    exact primary_12 R n HP HA d t r w (by omega) (by omega) (by omega) h e0 e1 e2 e3 e4 e5 e6 e7 e8 e9 e10 e11
theorem prim_all (R : Nat) (HA : AtomC R) : ∀ n, PrimC R n
  | 0 => by
    intro d ts w hn hd h
    obtain ⟨_, _, _, _, _, hS, _⟩ := h
    obtain ⟨t, r, rfl⟩ := shape_ne hS
    cases hn
  | n + 1 => primary_step R n (prim_all R HA n) HA

end Go.Proofs.YtlddnejjpekgeaaDoor
