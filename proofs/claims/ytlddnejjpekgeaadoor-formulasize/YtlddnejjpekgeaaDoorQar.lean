/- The reader of formulas: a name. -/
import Derived.Test.YtlddnejjpekgeaaDoorQaq
import Derived.Test.YtlddnejjpekgeaaDoorShelf
set_option linter.unusedSimpArgs false
set_option linter.unusedVariables false
namespace Go.Proofs.YtlddnejjpekgeaaDoor
open Go.RowKit

set_option maxRecDepth 10000 in
set_option maxHeartbeats 4000000 in
theorem atom_k0 (R : Nat) (t : Tk.Tok) (r : List Tk.Tok) (w : World) (h : PR w R (t :: r)) (hkk : t.k = 0)  :
    Calls Tryd.prog 103 #[.pointer (some ⟨R, 0, none⟩)] w (ResP R w (.error (41, t.a))) := by
  skip
  have hR0 := h.lt
  have lo := lowAlloc w (Obj.cells #[.int .i64 0, .string ⟨#[]⟩, .int .i64 0, .slice none 0 0] 24)
  have hk0 := (RKeep.refl R w).below lo
  have hb0 := Blk.new w 24 #[.int .i64 0, .string ⟨#[]⟩, .int .i64 0, .slice none 0 0]
  have h1 := h.below lo
  have hg0R : w.heap.size ≠ R := by omega
  clear h lo
  go_enter Tryd.func103, Tryd.ntmps103
  go_upto_region 1 with fail
  generalize w.alloc (Obj.cells #[.int .i64 0, .string ⟨#[]⟩, .int .i64 0, .slice none 0 0] 24) = W at *
  have hWw : w.heap.size < W.heap.size := hb0.lt
  have HPP := Lib.hid h1
  obtain ⟨b, off, cap, hbp, hT, hS, hl, hc⟩ := h1
  obtain ⟨t0, t1, t2⟩ := hT.2.2 0 (by simp)
  simp only [List.getElem_cons_zero, Nat.zero_mul, Nat.add_zero] at t0 t1 t2
  rw [hkk] at t0
  have c0 := hbp.cell 0
  simp only [List.getElem?_toArray, List.getElem?_cons_zero] at c0
  have hix := ix0 b off (t :: r).length cap (by simp)
  have lo2 := lowAlloc W (Obj.cells #[.int .i64 (0 : Int), .string (bsv t.t), .int .i64 (t.a : Int)] 53)
  have hbt := Blk.new W 53 #[.int .i64 (0 : Int), .string (bsv t.t), .int .i64 (t.a : Int)]
  have hP2 := HPP.out.below lo2
  have hk2 := hk0.below lo2
  have hb2 := hb0.below lo2 hb0.lt
  have hg5l : W.heap.size < (W.alloc (Obj.cells #[.int .i64 (0 : Int), .string (bsv t.t), .int .i64 (t.a : Int)] 53)).heap.size := by simp
  have hg5R : W.heap.size ≠ R := by omega
  clear hbp hT hS hl hc HPP lo2 hk0 hb0 hkk
  go_upto_region 2 with fail
  clear c0 t0 t1 t2 hix
  generalize W.alloc (Obj.cells #[.int .i64 (0 : Int), .string (bsv t.t), .int .i64 (t.a : Int)] 53) = W2 at *
  generalize W.heap.size = g5 at *
  have b0 := hbt.cell 0
  have b1 := hbt.cell 1
  have b2 := hbt.cell 2
  simp only [List.getElem?_toArray, List.getElem?_cons_zero, List.getElem?_cons_succ] at b0 b1 b2
  have HND := Lib.hid (need_bad R (t :: r) W2 hP2)
  go_wp2_with fail
  refine HND.out.mono ?_
  rintro e w3 ⟨rfl, rfl⟩
  exact ⟨rfl, rfl, hk2⟩

set_option maxRecDepth 10000 in
set_option maxHeartbeats 4000000 in
theorem atom_k2 (R : Nat) (t : Tk.Tok) (r : List Tk.Tok) (w : World) (h : PR w R (t :: r)) (hkk : t.k = 2)  :
    Calls Tryd.prog 103 #[.pointer (some ⟨R, 0, none⟩)] w (ResP R w (.error (41, t.a))) := by
  skip
  have hR0 := h.lt
  have lo := lowAlloc w (Obj.cells #[.int .i64 0, .string ⟨#[]⟩, .int .i64 0, .slice none 0 0] 24)
  have hk0 := (RKeep.refl R w).below lo
  have hb0 := Blk.new w 24 #[.int .i64 0, .string ⟨#[]⟩, .int .i64 0, .slice none 0 0]
  have h1 := h.below lo
  have hg0R : w.heap.size ≠ R := by omega
  clear h lo
  go_enter Tryd.func103, Tryd.ntmps103
  go_upto_region 1 with fail
  generalize w.alloc (Obj.cells #[.int .i64 0, .string ⟨#[]⟩, .int .i64 0, .slice none 0 0] 24) = W at *
  have hWw : w.heap.size < W.heap.size := hb0.lt
  have HPP := Lib.hid h1
  obtain ⟨b, off, cap, hbp, hT, hS, hl, hc⟩ := h1
  obtain ⟨t0, t1, t2⟩ := hT.2.2 0 (by simp)
  simp only [List.getElem_cons_zero, Nat.zero_mul, Nat.add_zero] at t0 t1 t2
  rw [hkk] at t0
  have c0 := hbp.cell 0
  simp only [List.getElem?_toArray, List.getElem?_cons_zero] at c0
  have hix := ix0 b off (t :: r).length cap (by simp)
  have lo2 := lowAlloc W (Obj.cells #[.int .i64 (2 : Int), .string (bsv t.t), .int .i64 (t.a : Int)] 53)
  have hbt := Blk.new W 53 #[.int .i64 (2 : Int), .string (bsv t.t), .int .i64 (t.a : Int)]
  have hP2 := HPP.out.below lo2
  have hk2 := hk0.below lo2
  have hb2 := hb0.below lo2 hb0.lt
  have hg5l : W.heap.size < (W.alloc (Obj.cells #[.int .i64 (2 : Int), .string (bsv t.t), .int .i64 (t.a : Int)] 53)).heap.size := by simp
  have hg5R : W.heap.size ≠ R := by omega
  clear hbp hT hS hl hc HPP lo2 hk0 hb0 hkk
  go_upto_region 2 with fail
  clear c0 t0 t1 t2 hix
  generalize W.alloc (Obj.cells #[.int .i64 (2 : Int), .string (bsv t.t), .int .i64 (t.a : Int)] 53) = W2 at *
  generalize W.heap.size = g5 at *
  have b0 := hbt.cell 0
  have b1 := hbt.cell 1
  have b2 := hbt.cell 2
  simp only [List.getElem?_toArray, List.getElem?_cons_zero, List.getElem?_cons_succ] at b0 b1 b2
  have HND := Lib.hid (need_bad R (t :: r) W2 hP2)
  go_wp2_with fail
  refine HND.out.mono ?_
  rintro e w3 ⟨rfl, rfl⟩
  exact ⟨rfl, rfl, hk2⟩

set_option maxRecDepth 10000 in
set_option maxHeartbeats 4000000 in
theorem atom_U (R : Nat) (t : Tk.Tok) (r : List Tk.Tok) (w : World) (h : PR w R (t :: r)) (hkk : t.k = 1) (ht : t.t = [85]) :
    Calls Tryd.prog 103 #[.pointer (some ⟨R, 0, none⟩)] w (ResP R w (.error (41, t.a))) := by
  have q85 : ((bsv t.t).toList == ([85] : List UInt8)) = true := (eq_lit t.t [85]).trans (by rw [ht]; rfl)
  clear ht
  have hR0 := h.lt
  have lo := lowAlloc w (Obj.cells #[.int .i64 0, .string ⟨#[]⟩, .int .i64 0, .slice none 0 0] 24)
  have hk0 := (RKeep.refl R w).below lo
  have hb0 := Blk.new w 24 #[.int .i64 0, .string ⟨#[]⟩, .int .i64 0, .slice none 0 0]
  have h1 := h.below lo
  have hg0R : w.heap.size ≠ R := by omega
  clear h lo
  go_enter Tryd.func103, Tryd.ntmps103
  go_upto_region 1 with fail
  generalize w.alloc (Obj.cells #[.int .i64 0, .string ⟨#[]⟩, .int .i64 0, .slice none 0 0] 24) = W at *
  have hWw : w.heap.size < W.heap.size := hb0.lt
  have HPP := Lib.hid h1
  obtain ⟨b, off, cap, hbp, hT, hS, hl, hc⟩ := h1
  obtain ⟨t0, t1, t2⟩ := hT.2.2 0 (by simp)
  simp only [List.getElem_cons_zero, Nat.zero_mul, Nat.add_zero] at t0 t1 t2
  rw [hkk] at t0
  have c0 := hbp.cell 0
  simp only [List.getElem?_toArray, List.getElem?_cons_zero] at c0
  have hix := ix0 b off (t :: r).length cap (by simp)
  have lo2 := lowAlloc W (Obj.cells #[.int .i64 (1 : Int), .string (bsv t.t), .int .i64 (t.a : Int)] 53)
  have hbt := Blk.new W 53 #[.int .i64 (1 : Int), .string (bsv t.t), .int .i64 (t.a : Int)]
  have hP2 := HPP.out.below lo2
  have hk2 := hk0.below lo2
  have hb2 := hb0.below lo2 hb0.lt
  have hg5l : W.heap.size < (W.alloc (Obj.cells #[.int .i64 (1 : Int), .string (bsv t.t), .int .i64 (t.a : Int)] 53)).heap.size := by simp
  have hg5R : W.heap.size ≠ R := by omega
  clear hbp hT hS hl hc HPP lo2 hk0 hb0 hkk
  go_upto_region 2 with fail
  clear c0 t0 t1 t2 hix
  generalize W.alloc (Obj.cells #[.int .i64 (1 : Int), .string (bsv t.t), .int .i64 (t.a : Int)] 53) = W2 at *
  generalize W.heap.size = g5 at *
  have b0 := hbt.cell 0
  have b1 := hbt.cell 1
  have b2 := hbt.cell 2
  simp only [List.getElem?_toArray, List.getElem?_cons_zero, List.getElem?_cons_succ] at b0 b1 b2
  have HND := Lib.hid (need_bad R (t :: r) W2 hP2)
  go_wp2_with fail
  refine HND.out.mono ?_
  rintro e w3 ⟨rfl, rfl⟩
  exact ⟨rfl, rfl, hk2⟩

set_option maxRecDepth 10000 in
set_option maxHeartbeats 4000000 in
theorem atom_R (R : Nat) (t : Tk.Tok) (r : List Tk.Tok) (w : World) (h : PR w R (t :: r)) (hkk : t.k = 1) (ht : t.t = [82]) :
    Calls Tryd.prog 103 #[.pointer (some ⟨R, 0, none⟩)] w (ResP R w (.error (41, t.a))) := by
  have q85 : ((bsv t.t).toList == ([85] : List UInt8)) = false := (eq_lit t.t [85]).trans (by rw [ht]; rfl)
  have q82 : ((bsv t.t).toList == ([82] : List UInt8)) = true := (eq_lit t.t [82]).trans (by rw [ht]; rfl)
  clear ht
  have hR0 := h.lt
  have lo := lowAlloc w (Obj.cells #[.int .i64 0, .string ⟨#[]⟩, .int .i64 0, .slice none 0 0] 24)
  have hk0 := (RKeep.refl R w).below lo
  have hb0 := Blk.new w 24 #[.int .i64 0, .string ⟨#[]⟩, .int .i64 0, .slice none 0 0]
  have h1 := h.below lo
  have hg0R : w.heap.size ≠ R := by omega
  clear h lo
  go_enter Tryd.func103, Tryd.ntmps103
  go_upto_region 1 with fail
  generalize w.alloc (Obj.cells #[.int .i64 0, .string ⟨#[]⟩, .int .i64 0, .slice none 0 0] 24) = W at *
  have hWw : w.heap.size < W.heap.size := hb0.lt
  have HPP := Lib.hid h1
  obtain ⟨b, off, cap, hbp, hT, hS, hl, hc⟩ := h1
  obtain ⟨t0, t1, t2⟩ := hT.2.2 0 (by simp)
  simp only [List.getElem_cons_zero, Nat.zero_mul, Nat.add_zero] at t0 t1 t2
  rw [hkk] at t0
  have c0 := hbp.cell 0
  simp only [List.getElem?_toArray, List.getElem?_cons_zero] at c0
  have hix := ix0 b off (t :: r).length cap (by simp)
  have lo2 := lowAlloc W (Obj.cells #[.int .i64 (1 : Int), .string (bsv t.t), .int .i64 (t.a : Int)] 53)
  have hbt := Blk.new W 53 #[.int .i64 (1 : Int), .string (bsv t.t), .int .i64 (t.a : Int)]
  have hP2 := HPP.out.below lo2
  have hk2 := hk0.below lo2
  have hb2 := hb0.below lo2 hb0.lt
  have hg5l : W.heap.size < (W.alloc (Obj.cells #[.int .i64 (1 : Int), .string (bsv t.t), .int .i64 (t.a : Int)] 53)).heap.size := by simp
  have hg5R : W.heap.size ≠ R := by omega
  clear hbp hT hS hl hc HPP lo2 hk0 hb0 hkk
  go_upto_region 2 with fail
  clear c0 t0 t1 t2 hix
  generalize W.alloc (Obj.cells #[.int .i64 (1 : Int), .string (bsv t.t), .int .i64 (t.a : Int)] 53) = W2 at *
  generalize W.heap.size = g5 at *
  have b0 := hbt.cell 0
  have b1 := hbt.cell 1
  have b2 := hbt.cell 2
  simp only [List.getElem?_toArray, List.getElem?_cons_zero, List.getElem?_cons_succ] at b0 b1 b2
  have HND := Lib.hid (need_bad R (t :: r) W2 hP2)
  go_wp2_with fail
  refine HND.out.mono ?_
  rintro e w3 ⟨rfl, rfl⟩
  exact ⟨rfl, rfl, hk2⟩

set_option maxRecDepth 10000 in
set_option maxHeartbeats 4000000 in
theorem atom_ok (R : Nat) (t : Tk.Tok) (r : List Tk.Tok) (w : World) (h : PR w R (t :: r)) (hkk : t.k = 1) (h85 : t.t ≠ [85]) (h82 : t.t ≠ [82]) (hnm : Fm.NameT t.t) (hsz : (bsv t.t).size ≤ 9223372036854775807) :
    Calls Tryd.prog 103 #[.pointer (some ⟨R, 0, none⟩)] w (ResP R w (.ok (.mk 3 (Fm.trimQ t.t) 0 [], r))) := by
  have q85 : ((bsv t.t).toList == ([85] : List UInt8)) = false := (eq_lit t.t [85]).trans (by simpa using h85)
  have q82 : ((bsv t.t).toList == ([82] : List UInt8)) = false := (eq_lit t.t [82]).trans (by simpa using h82)
  have htk : t.k ≠ 0 := by omega
  have htr : Hid (Lib.trimB (bsv t.t).data.toList 34 = Fm.trimQ t.t) := trim_name hnm
  clear h85 h82 hnm
  have hR0 := h.lt
  have lo := lowAlloc w (Obj.cells #[.int .i64 0, .string ⟨#[]⟩, .int .i64 0, .slice none 0 0] 24)
  have hk0 := (RKeep.refl R w).below lo
  have hb0 := Blk.new w 24 #[.int .i64 0, .string ⟨#[]⟩, .int .i64 0, .slice none 0 0]
  have h1 := h.below lo
  have hg0R : w.heap.size ≠ R := by omega
  clear h lo
  go_enter Tryd.func103, Tryd.ntmps103
  go_upto_region 1 with fail
  generalize w.alloc (Obj.cells #[.int .i64 0, .string ⟨#[]⟩, .int .i64 0, .slice none 0 0] 24) = W at *
  have hWw : w.heap.size < W.heap.size := hb0.lt
  have HPP := Lib.hid h1
  obtain ⟨b, off, cap, hbp, hT, hS, hl, hc⟩ := h1
  obtain ⟨t0, t1, t2⟩ := hT.2.2 0 (by simp)
  simp only [List.getElem_cons_zero, Nat.zero_mul, Nat.add_zero] at t0 t1 t2
  rw [hkk] at t0
  have c0 := hbp.cell 0
  simp only [List.getElem?_toArray, List.getElem?_cons_zero] at c0
  have hix := ix0 b off (t :: r).length cap (by simp)
  have lo2 := lowAlloc W (Obj.cells #[.int .i64 (1 : Int), .string (bsv t.t), .int .i64 (t.a : Int)] 53)
  have hbt := Blk.new W 53 #[.int .i64 (1 : Int), .string (bsv t.t), .int .i64 (t.a : Int)]
  have hP2 := HPP.out.below lo2
  have hk2 := hk0.below lo2
  have hb2 := hb0.below lo2 hb0.lt
  have hg5l : W.heap.size < (W.alloc (Obj.cells #[.int .i64 (1 : Int), .string (bsv t.t), .int .i64 (t.a : Int)] 53)).heap.size := by simp
  have hg5R : W.heap.size ≠ R := by omega
  clear hbp hT hS hl hc HPP lo2 hk0 hb0 hkk
  go_upto_region 2 with fail
  clear c0 t0 t1 t2 hix
  generalize W.alloc (Obj.cells #[.int .i64 (1 : Int), .string (bsv t.t), .int .i64 (t.a : Int)] 53) = W2 at *
  generalize W.heap.size = g5 at *
  have b0 := hbt.cell 0
  have b1 := hbt.cell 1
  have b2 := hbt.cell 2
  simp only [List.getElem?_toArray, List.getElem?_cons_zero, List.getElem?_cons_succ] at b0 b1 b2
  have HND := Lib.hid (need_ok R W2)
  have HSK := Lib.hid (skip_any R t r W2 hP2 htk)
  clear hP2
  go_wp2_with fail
  refine HND.out.mono ?_
  rintro e w3 ⟨rfl, rfl⟩
  go_wp2_with fail
  refine HSK.out.mono ?_
  rintro e w4 ⟨rfl, hR4, hk4⟩
  have hbt4 := hk4.blkOf hbt hg5R
  have hb4 := hk4.blkOf hb2 hg0R
  have hk4' := hk2.trans hk4
  have hW4 : W2.heap.size ≤ w4.heap.size := hk4.size
  clear HND HSK hbt hb2 hk2 hk4 b0 b1 b2 q85 q82
  have b1 := hbt4.cell 1
  simp only [List.getElem?_toArray, List.getElem?_cons_zero, List.getElem?_cons_succ] at b1
  have HTR := Lib.hid (Tryd.strings_Trim_one (bsv t.t) 34 (by decide) w4 hsz)
  go_wp2_with fail
  refine HTR.out.mono ?_
  rintro e w5 ⟨rfl, h5⟩
  have hb5 : Below w4.heap.size w4 w5 := by
    rcases h5 with rfl | rfl
    · exact Below.refl _ _
    · exact ⟨rfl, rfl, rfl, Nat.le_refl _, fun _ _ => rfl⟩
  rw [htr.out]
  have hF : FV w5 (Fr g5 w5.heap.size) (.mk 3 (Fm.trimQ t.t) 0 []) (.agg #[.int .i64 3, .string ⟨(Fm.trimQ t.t).toArray⟩, .int .i64 0, .slice none 0 0]) := FV.mk (FL.nil ..)
  have hR := hR4.below hb5
  have hk := hk4'.below hb5
  have hb := hb4.below hb5 hb4.lt
  clear h5 hb5 hR4 hk4' hb4 hbt4 b1 HTR
  have hRg : R < w.heap.size := hR0
  have hKn : ¬ (g5 ≤ w.heap.size ∧ w.heap.size < w5.heap.size) := by omega
  have hF1 : FV w5 (Fr g5 w5.heap.size) _ (.agg #[.int .i64 3, .string ⟨(Fm.trimQ t.t).toArray⟩, .int .i64 0, .slice none 0 0]) := hF
  have hF9 := (((hF1.far (p := ⟨w.heap.size, 0, none⟩) hKn (.int .i64 3)).far (p := ⟨w.heap.size, 1, none⟩) hKn (.string ⟨(Fm.trimQ t.t).toArray⟩)).far (p := ⟨w.heap.size, 2, none⟩) hKn (.int .i64 0)).far (p := ⟨w.heap.size, 3, none⟩) hKn (.slice none 0 0)
  have hF9b := hF9.more (K' := Fr w.heap.size (((((w5).setCell ⟨w.heap.size, 0, none⟩ (.int .i64 3)).setCell ⟨w.heap.size, 1, none⟩ (.string ⟨(Fm.trimQ t.t).toArray⟩)).setCell ⟨w.heap.size, 2, none⟩ (.int .i64 0)).setCell ⟨w.heap.size, 3, none⟩ (.slice none 0 0)).heap.size) (fun b hb => ⟨by have := hb.1; omega, by have := hb.2; simp; omega⟩)
  have hR9 : PR (((((w5).setCell ⟨w.heap.size, 0, none⟩ (.int .i64 3)).setCell ⟨w.heap.size, 1, none⟩ (.string ⟨(Fm.trimQ t.t).toArray⟩)).setCell ⟨w.heap.size, 2, none⟩ (.int .i64 0)).setCell ⟨w.heap.size, 3, none⟩ (.slice none 0 0)) R _ := (((hR.far (p := ⟨w.heap.size, 0, none⟩) hRg _).far (p := ⟨w.heap.size, 1, none⟩) hRg _).far (p := ⟨w.heap.size, 2, none⟩) hRg _).far (p := ⟨w.heap.size, 3, none⟩) hRg _
  have hk9 : RKeep R w (((((w5).setCell ⟨w.heap.size, 0, none⟩ (.int .i64 3)).setCell ⟨w.heap.size, 1, none⟩ (.string ⟨(Fm.trimQ t.t).toArray⟩)).setCell ⟨w.heap.size, 2, none⟩ (.int .i64 0)).setCell ⟨w.heap.size, 3, none⟩ (.slice none 0 0)) := (((hk.far (p := ⟨w.heap.size, 0, none⟩) (Nat.le_refl _) _).far (p := ⟨w.heap.size, 1, none⟩) (Nat.le_refl _) _).far (p := ⟨w.heap.size, 2, none⟩) (Nat.le_refl _) _).far (p := ⟨w.heap.size, 3, none⟩) (Nat.le_refl _) _
  have hC9 : Blk (((((w5).setCell ⟨w.heap.size, 0, none⟩ (.int .i64 3)).setCell ⟨w.heap.size, 1, none⟩ (.string ⟨(Fm.trimQ t.t).toArray⟩)).setCell ⟨w.heap.size, 2, none⟩ (.int .i64 0)).setCell ⟨w.heap.size, 3, none⟩ (.slice none 0 0)) w.heap.size 24 #[.int .i64 3, .string ⟨(Fm.trimQ t.t).toArray⟩, .int .i64 0, .slice none 0 0] := by simpa using (((hb.put 0 (.int .i64 3)).put 1 (.string ⟨(Fm.trimQ t.t).toArray⟩)).put 2 (.int .i64 0)).put 3 (.slice none 0 0)
  have HC9 := Lib.hid hC9
  have HR9 := Lib.hid hR9
  have HK9 := Lib.hid hk9
  have HF9 := Lib.hid hF9b
  have r0 := hb.cell 0
  have r1 := hb.cell 1
  have r2 := hb.cell 2
  have r3 := hb.cell 3
  simp only [List.getElem?_toArray, List.getElem?_cons_zero, List.getElem?_cons_succ] at r0 r1 r2 r3
  have q0 := hb.frozen 0
  have q1 := hb.frozen 1
  have q2 := hb.frozen 2
  have q3 := hb.frozen 3
  clear hF hF1 hF9 hF9b hR hR9 hk hk9 hC9 hb hKn
  go_wp2
  clear r0 r1 r2 r3 q0 q1 q2 q3
  generalize ((((w5).setCell ⟨w.heap.size, 0, none⟩ (.int .i64 3)).setCell ⟨w.heap.size, 1, none⟩ (.string ⟨(Fm.trimQ t.t).toArray⟩)).setCell ⟨w.heap.size, 2, none⟩ (.int .i64 0)).setCell ⟨w.heap.size, 3, none⟩ (.slice none 0 0) = V9 at *
  have t0 := HC9.out.cell 0
  have t1 := HC9.out.cell 1
  have t2 := HC9.out.cell 2
  have t3 := HC9.out.cell 3
  simp only [List.getElem?_toArray, List.getElem?_cons_zero, List.getElem?_cons_succ] at t0 t1 t2 t3
  refine bodyPost_ret (v := .agg #[.int .i64 3, .string ⟨(Fm.trimQ t.t).toArray⟩, .int .i64 0, .slice none 0 0]) (by simp [results, Tryd.results103, go_sem, t0, t1, t2, t3]) rfl ?_
  skip
  exact ⟨_, rfl, HF9.out, HR9.out, HK9.out⟩

theorem atom_any (R : Nat) : AtomC R := by
  intro ts w h
  have hS : ShapeL ts := by
    obtain ⟨_, _, _, _, _, hS, _⟩ := h
    exact hS
  obtain ⟨t, r, rfl⟩ := shape_ne hS
  have hbad : ¬ (t.k = 1 ∧ t.t ≠ [85] ∧ t.t ≠ [82]) → Fm.atomT (t :: r) = .error (41, t.a) := fun e => if_neg e
  rcases shape_head hS with ⟨hk, _⟩ | ⟨hk, hn⟩ | ⟨hk, _⟩
  · rw [hbad (by omega)]
    exact atom_k0 R t r w h hk
  · by_cases h85 : t.t = [85]
    · rw [hbad (fun e => e.2.1 h85)]
      exact atom_U R t r w h hk h85
    · by_cases h82 : t.t = [82]
      · rw [hbad (fun e => e.2.2 h82)]
        exact atom_R R t r w h hk h82
      · have e : Fm.atomT (t :: r) = .ok (.mk 3 (Fm.trimQ t.t) 0 [], r) := if_pos ⟨hk, h85, h82⟩
        rw [e]
        exact atom_ok R t r w h hk h85 h82 hn (by have := hS.2 t (List.mem_cons_self ..); show (t.t.toArray).size ≤ _; rw [List.size_toArray]; omega)
  · rw [hbad (by omega)]
    exact atom_k2 R t r w h hk

end Go.Proofs.YtlddnejjpekgeaaDoor
/- The reader of formulas: whole. -/
namespace Go.Proofs.YtlddnejjpekgeaaDoor
open Go.RowKit

/-- What is asked of Right. -/
def RightC : Prop := ∀ (K : Nat → Prop) (f : Fm.F) (v : Value) (W : World), FV W K f v → (∀ b, K b → b < W.heap.size) → Calls Tryd.prog 29 #[v] W fun e w' => e = .returned (.bool (Fm.validB f)) ∧ Below W.heap.size W w'
/-- A whole text read. -/
def WholeP (R : Nat) (w : World) (o : Except (Nat × Nat) Fm.F) (e : Ending) (w' : World) : Prop :=
  match o with
  | .error (k, a) => e = FaultE k a ∧ RKeep R w w'
  | .ok f => ∃ v, e = .returned v ∧ FV w' (Fr w.heap.size w'.heap.size) f v ∧ RKeep R w w'

set_option maxRecDepth 10000 in
set_option maxHeartbeats 4000000 in
theorem whole_any (R : Nat) (HRT0 : RightC) (HA : AtomC R) (ts : List Tk.Tok) (w : World) (h : PR w R ts) :
    Calls Tryd.prog 57 #[.pointer (some ⟨R, 0, none⟩)] w (WholeP R w (Fm.parseT ts)) := by
  have HRT := Lib.hid HRT0
  have hts : ts.length ≤ 20001 := by
    obtain ⟨_, _, _, _, _, _, hl, _⟩ := h
    exact hl
  have hnot : ∀ (x : Bool) (w : World), (Op.unary .not (.bool x)).run Tryd.prog w = .ok (.bool (!x)) w := fun _ _ => rfl
  clear HRT0
  have hR0 := h.lt
  have lo := lowAlloc w (Obj.cells #[.int .i64 0, .string ⟨#[]⟩, .int .i64 0, .slice none 0 0] 24)
  have hk0 := (RKeep.refl R w).below lo
  have hb0 := Blk.new w 24 #[.int .i64 0, .string ⟨#[]⟩, .int .i64 0, .slice none 0 0]
  have h1 := h.below lo
  have hg0R : w.heap.size ≠ R := by omega
  clear h lo
  go_enter Tryd.func57, Tryd.ntmps57
  go_upto_region 1 with fail
  generalize w.alloc (Obj.cells #[.int .i64 0, .string ⟨#[]⟩, .int .i64 0, .slice none 0 0] 24) = W at *
  have hWw : w.heap.size < W.heap.size := hb0.lt
  have HFO : Hid (Calls Tryd.prog 74 #[.pointer (some ⟨R, 0, none⟩), .int .i64 0] W (ResP R W (Fm.wholeG (Fm.pP (ts.length + 1)) 0 ts))) := formula_any R (ts.length + 1) (prim_all R HA _) 0 ts W (by omega) (by omega) h1
  clear HA
  go_wp2_with fail
  refine HFO.out.mono ?_
  intro e w1 hQ
  rcases hq : Fm.wholeG (Fm.pP (ts.length + 1)) 0 ts with ⟨ka, aa⟩ | ⟨f, r⟩
  · rw [hq] at hQ
    obtain ⟨rfl, hQ⟩ := hQ
    refine ⟨rfl, ?_⟩
    rw [Fm.parseT, hq]
    exact ⟨rfl, hk0.trans hQ⟩
  rw [hq] at hQ
  obtain ⟨v, rfl, hFB, hRB, hkB⟩ := hQ
  obtain ⟨k1, s1, l1, A1, n1, c1, rfl⟩ := hFB.four
  have HEE : Hid (Fm.parseT ts = if Fm.hdK r = 0 then (if Fm.validB f = true then .ok f else .error (2, 0)) else .error (41, Fm.hdA r)) := by
    unfold Hid
    rw [Fm.parseT, hq]
  have hW1 : W.heap.size ≤ w1.heap.size := hkB.size
  have hkb := hk0.trans hkB
  have hbb := hkB.blkOf hb0 hg0R
  have loC := lowAlloc w1 (Obj.cells #[.int .i64 k1, .string s1, .int .i64 l1, .slice A1 n1 c1] 24)
  have hbxC := Blk.new w1 24 #[.int .i64 k1, .string s1, .int .i64 l1, .slice A1 n1 c1]
  have hRC := hRB.below loC
  have hkC := hkb.below loC
  have hbC := hbb.below loC hbb.lt
  have hFC := hFB.low (fun b hb => by have := hb.2; omega) loC
  have hgCR : w1.heap.size ≠ R := by omega
  have hgCl : w1.heap.size < (w1.alloc (Obj.cells #[.int .i64 k1, .string s1, .int .i64 l1, .slice A1 n1 c1] 24)).heap.size := by simp
  clear loC hRB hkB hk0 hb0 h1 hkb hbb hFB hq HFO
  go_upto_region 2 with fail
  generalize w1.alloc (Obj.cells #[.int .i64 k1, .string s1, .int .i64 l1, .slice A1 n1 c1] 24) = W2 at *
  generalize w1.heap.size = g5 at *
  have hRC' := hRC
  obtain ⟨b, off, cap, hbp, hT, hS, hl, hc⟩ := hRC'
  obtain ⟨t, r', rfl⟩ := shape_ne hS
  obtain ⟨t0, _, _⟩ := hT.2.2 0 (by simp)
  simp only [List.getElem_cons_zero, Nat.zero_mul, Nat.add_zero] at t0
  have c0 := hbp.cell 0
  simp only [List.getElem?_toArray, List.getElem?_cons_zero] at c0
  have hix := ix0 b off (t :: r').length cap (by simp)
  have hS3 : t.k = 0 ∨ t.k = 1 ∨ t.k = 2 := by
    rcases shape_head hS with ⟨hk, _⟩ | ⟨hk, _⟩ | ⟨hk, _⟩ <;> omega
  clear hbp hT hS hl hc
  rcases hS3 with hkk | hkk | hkk
  rotate_left
  · rw [hkk] at t0
    have HND := Lib.hid (need_bad R (t :: r') W2 hRC)
    have HPE : Hid (Fm.parseT ts = .error (41, t.a)) := by
      unfold Hid
      rw [HEE.out, if_neg (by show ¬ t.k = 0; omega)]
      rfl
    clear HEE hkk
    go_wp2_with fail
    refine HND.out.mono ?_
    rintro e w3 ⟨rfl, rfl⟩
    refine ⟨rfl, ?_⟩
    rw [HPE.out]
    exact ⟨rfl, hkC⟩
  · rw [hkk] at t0
    have HND := Lib.hid (need_bad R (t :: r') W2 hRC)
    have HPE : Hid (Fm.parseT ts = .error (41, t.a)) := by
      unfold Hid
      rw [HEE.out, if_neg (by show ¬ t.k = 0; omega)]
      rfl
    clear HEE hkk
    go_wp2_with fail
    refine HND.out.mono ?_
    rintro e w3 ⟨rfl, rfl⟩
    refine ⟨rfl, ?_⟩
    rw [HPE.out]
    exact ⟨rfl, hkC⟩
  rw [hkk] at t0
  have HND := Lib.hid (need_ok R W2)
  have HEF : Hid (Fm.parseT ts = if Fm.validB f = true then .ok f else .error (2, 0)) := by
    unfold Hid
    rw [HEE.out, if_pos (show Fm.hdK (t :: r') = 0 from hkk)]
  clear HEE hkk
  go_wp2_with fail
  refine HND.out.mono ?_
  rintro e w3 ⟨rfl, rfl⟩
  clear HND c0 t0 hix
  have HRF := Lib.hid (HRT.out _ f _ W2 hFC (fun b hb => by have := hb.2; omega))
  have y0 := hbxC.cell 0
  have y1 := hbxC.cell 1
  have y2 := hbxC.cell 2
  have y3 := hbxC.cell 3
  simp only [List.getElem?_toArray, List.getElem?_cons_zero, List.getElem?_cons_succ] at y0 y1 y2 y3
  go_wp2_with fail
  refine HRF.out.mono ?_
  rintro e w4 ⟨rfl, hb4⟩
  clear y0 y1 y2 y3 HRF HRT
  have hW4 : W2.heap.size ≤ w4.heap.size := hb4.size
  have hbx4 := hbxC.below hb4 hbxC.lt
  have y0 := hbx4.cell 0
  have y1 := hbx4.cell 1
  have y2 := hbx4.cell 2
  have y3 := hbx4.cell 3
  simp only [List.getElem?_toArray, List.getElem?_cons_zero, List.getElem?_cons_succ] at y0 y1 y2 y3
  have hk := hkC.below hb4
  have hR := hRC.below hb4
  have hb := hbC.below hb4 hbC.lt
  have hF := (hFC.low (fun b hb => by have := hb.2; omega) hb4).more (K' := Fr W.heap.size w4.heap.size) (fun b hb => ⟨by have := hb.1; omega, by have := hb.2; omega⟩)
  clear hb4 hbx4 hbxC hkC hRC hbC hFC
  cases hv : Fm.validB f with
  | false =>
    have HPE : Hid (Fm.parseT ts = .error (2, 0)) := by
      unfold Hid
      rw [HEF.out, hv]
      rfl
    go_wp2_with fail
    refine (toolong_any w4).mono ?_
    rintro e w5 ⟨rfl, rfl⟩
    refine ⟨rfl, ?_⟩
    rw [HPE.out]
    exact ⟨rfl, hk⟩
  | true =>
    have HQE : Hid (Fm.parseT ts = .ok f) := by
      unfold Hid
      rw [HEF.out, hv]
      rfl
    clear hv HEF
    have hRg : R < w.heap.size := hR0
    have hKn : ¬ (W.heap.size ≤ w.heap.size ∧ w.heap.size < w4.heap.size) := by omega
    have hF1 : FV w4 (Fr W.heap.size w4.heap.size) _ (.agg #[.int .i64 k1, .string s1, .int .i64 l1, .slice A1 n1 c1]) := hF
    have hF9 := (((hF1.far (p := ⟨w.heap.size, 0, none⟩) hKn (.int .i64 k1)).far (p := ⟨w.heap.size, 1, none⟩) hKn (.string s1)).far (p := ⟨w.heap.size, 2, none⟩) hKn (.int .i64 l1)).far (p := ⟨w.heap.size, 3, none⟩) hKn (.slice A1 n1 c1)
    have hF9b := hF9.more (K' := Fr w.heap.size (((((w4).setCell ⟨w.heap.size, 0, none⟩ (.int .i64 k1)).setCell ⟨w.heap.size, 1, none⟩ (.string s1)).setCell ⟨w.heap.size, 2, none⟩ (.int .i64 l1)).setCell ⟨w.heap.size, 3, none⟩ (.slice A1 n1 c1)).heap.size) (fun b hb => ⟨by have := hb.1; omega, by have := hb.2; simp; omega⟩)
    have hR9 : PR (((((w4).setCell ⟨w.heap.size, 0, none⟩ (.int .i64 k1)).setCell ⟨w.heap.size, 1, none⟩ (.string s1)).setCell ⟨w.heap.size, 2, none⟩ (.int .i64 l1)).setCell ⟨w.heap.size, 3, none⟩ (.slice A1 n1 c1)) R _ := (((hR.far (p := ⟨w.heap.size, 0, none⟩) hRg _).far (p := ⟨w.heap.size, 1, none⟩) hRg _).far (p := ⟨w.heap.size, 2, none⟩) hRg _).far (p := ⟨w.heap.size, 3, none⟩) hRg _
    have hk9 : RKeep R w (((((w4).setCell ⟨w.heap.size, 0, none⟩ (.int .i64 k1)).setCell ⟨w.heap.size, 1, none⟩ (.string s1)).setCell ⟨w.heap.size, 2, none⟩ (.int .i64 l1)).setCell ⟨w.heap.size, 3, none⟩ (.slice A1 n1 c1)) := (((hk.far (p := ⟨w.heap.size, 0, none⟩) (Nat.le_refl _) _).far (p := ⟨w.heap.size, 1, none⟩) (Nat.le_refl _) _).far (p := ⟨w.heap.size, 2, none⟩) (Nat.le_refl _) _).far (p := ⟨w.heap.size, 3, none⟩) (Nat.le_refl _) _
    have hC9 : Blk (((((w4).setCell ⟨w.heap.size, 0, none⟩ (.int .i64 k1)).setCell ⟨w.heap.size, 1, none⟩ (.string s1)).setCell ⟨w.heap.size, 2, none⟩ (.int .i64 l1)).setCell ⟨w.heap.size, 3, none⟩ (.slice A1 n1 c1)) w.heap.size 24 #[.int .i64 k1, .string s1, .int .i64 l1, .slice A1 n1 c1] := by simpa using (((hb.put 0 (.int .i64 k1)).put 1 (.string s1)).put 2 (.int .i64 l1)).put 3 (.slice A1 n1 c1)
    have HC9 := Lib.hid hC9
    have HR9 := Lib.hid hR9
    have HK9 := Lib.hid hk9
    have HF9 := Lib.hid hF9b
    have r0 := hb.cell 0
    have r1 := hb.cell 1
    have r2 := hb.cell 2
    have r3 := hb.cell 3
    simp only [List.getElem?_toArray, List.getElem?_cons_zero, List.getElem?_cons_succ] at r0 r1 r2 r3
    have q0 := hb.frozen 0
    have q1 := hb.frozen 1
    have q2 := hb.frozen 2
    have q3 := hb.frozen 3
    clear hF hF1 hF9 hF9b hR hR9 hk hk9 hC9 hb hKn
    go_wp2
    clear r0 r1 r2 r3 q0 q1 q2 q3
    generalize ((((w4).setCell ⟨w.heap.size, 0, none⟩ (.int .i64 k1)).setCell ⟨w.heap.size, 1, none⟩ (.string s1)).setCell ⟨w.heap.size, 2, none⟩ (.int .i64 l1)).setCell ⟨w.heap.size, 3, none⟩ (.slice A1 n1 c1) = V9 at *
    have t0 := HC9.out.cell 0
    have t1 := HC9.out.cell 1
    have t2 := HC9.out.cell 2
    have t3 := HC9.out.cell 3
    simp only [List.getElem?_toArray, List.getElem?_cons_zero, List.getElem?_cons_succ] at t0 t1 t2 t3
    refine bodyPost_ret (v := .agg #[.int .i64 k1, .string s1, .int .i64 l1, .slice A1 n1 c1]) (by simp [results, Tryd.results57, go_sem, t0, t1, t2, t3]) rfl ?_
    rw [HQE.out]
    exact ⟨_, rfl, HF9.out, HK9.out⟩

end Go.Proofs.YtlddnejjpekgeaaDoor
