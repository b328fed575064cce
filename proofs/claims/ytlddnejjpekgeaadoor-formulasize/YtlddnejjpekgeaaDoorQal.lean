/- The reader of formulas: skip, take, need, must, of. -/
import Derived.Test.YtlddnejjpekgeaaDoorQak
import Derived.Laws.Pointers
set_option linter.unusedSimpArgs false
set_option linter.unusedVariables false
namespace Go.Proofs.YtlddnejjpekgeaaDoor
open Go.RowKit

theorem slice_tail (b off n c : Nat) (h1 : 2 ≤ n) (hc : n ≤ c) (w : World) : (Instr.slice 39 (.slice (some ⟨b, off, none⟩) n c) (some (.int .i64 1)) none none).run Tryd.prog w = .ok (.slice (some ⟨b, off + 3, none⟩) (n - 1) (c - 1)) w := by
  have e1 : (1 : Int) ≤ (n : Int) := by omega
  have e2 : ¬ c = 1 := by omega
  go_simp
theorem ix0 (b off n c : Nat) (h1 : 1 ≤ n) (w : World) : (Instr.indexAt 39 (.slice (some ⟨b, off, none⟩) n c) (.int .i64 0)).run Tryd.prog w = .ok (.pointer (some ⟨b, off, none⟩)) w := by
  have e1 : (0 : Int) < (n : Int) := by omega
  have e2 : ¬ n = 0 := by omega
  go_simp
  all_goals (intro h; omega)
/-- What a skip does. -/
theorem PR.skip {w : World} {R b off cap : Nat} {t : Tk.Tok} {ts : List Tk.Tok} (hb : Blk w R 89 #[.slice (some ⟨b, off, none⟩) (ts.length + 1) cap]) (hT : TL w R b off (t :: ts)) (hS : ShapeL (t :: ts)) (hl : ts.length + 1 ≤ 20001) (hc : ts.length + 1 ≤ cap) (hk : t.k ≠ 0) :
    PR (w.setCell ⟨R, 0, none⟩ (.slice (some ⟨b, off + 3, none⟩) ts.length (cap - 1))) R ts := by
  have hp := hb.put 0 (.slice (some ⟨b, off + 3, none⟩) ts.length (cap - 1))
  refine ⟨b, off + 3, cap - 1, by simpa using hp, (hT.tail).rk ((RKeep.refl R w).set rfl _), (shape_cons hS hk).1, by omega, by omega⟩
set_option maxHeartbeats 2000000 in
theorem skip_any (R : Nat) (t : Tk.Tok) (ts : List Tk.Tok) (w : World) (h : PR w R (t :: ts)) (hk : t.k ≠ 0) :
    Calls Tryd.prog 96 #[.pointer (some ⟨R, 0, none⟩)] w fun e w' => e = .returned (.tuple #[]) ∧ PR w' R ts ∧ RKeep R w w' := by
  obtain ⟨b, off, cap, hb, hT, hS, hl, hc⟩ := h
  rw [List.length_cons] at hb hl hc
  have hq := Lib.hid (PR.skip hb hT hS hl hc hk)
  have hr := (RKeep.refl R w).set (p := ⟨R, 0, none⟩) rfl (.slice (some ⟨b, off + 3, none⟩) ts.length (cap - 1))
  have HR := Lib.hid hr
  have c0 := hb.cell 0
  have f0 := hb.frozen 0
  simp only [List.getElem?_toArray, List.getElem?_cons_zero] at c0
  have hne : 1 ≤ ts.length := by
    have := (shape_cons hS hk).2
    cases ts with
    | nil => exact absurd rfl this
    | cons _ _ => simp
  have hs := slice_tail b off (ts.length + 1) cap (by omega) hc
  rw [Nat.add_sub_cancel] at hs
  clear hb hT hS hr hne
  go_enter Tryd.func96, Tryd.ntmps96
  go_wp2
  go_end0
  exact ⟨rfl, hq.out, HR.out⟩
/-- The tokens behind a text, if it stands here. -/
def takeT (x : Tk.Bs) (ts : List Tk.Tok) : List Tk.Tok := if Fm.hdT ts = x then ts.tail else ts
theorem takeT_yes {x : Tk.Bs} {ts : List Tk.Tok} (h : Fm.hdT ts = x) : takeT x ts = ts.tail := if_pos h
theorem takeT_no {x : Tk.Bs} {ts : List Tk.Tok} (h : ¬ Fm.hdT ts = x) : takeT x ts = ts := if_neg h
set_option maxHeartbeats 2000000 in
theorem take_any (R : Nat) (x : Tk.Bs) (ts : List Tk.Tok) (w : World) (h : PR w R ts) (hx : x ≠ []) :
    Calls Tryd.prog 89 #[.pointer (some ⟨R, 0, none⟩), .string (bsv x)] w fun e w' => e = .returned (.bool (decide (Fm.hdT ts = x))) ∧ PR w' R (takeT x ts) ∧ RKeep R w w' := by
  have h' := h
  obtain ⟨b, off, cap, hb, hT, hS, hl, hc⟩ := h
  obtain ⟨t, r, rfl⟩ := shape_ne hS
  obtain ⟨_, t1, _⟩ := hT.2.2 0 (by simp)
  simp only [List.getElem_cons_zero, Nat.zero_mul, Nat.add_zero] at t1
  have c0 := hb.cell 0
  simp only [List.getElem?_toArray, List.getElem?_cons_zero] at c0
  have hix := ix0 b off (t :: r).length cap (by simp)
  have he := eq_bsv t.t x
  have HP := Lib.hid h'
  by_cases e : t.t = x
  · have hk : t.k ≠ 0 := shape_text hS (by rw [e]; exact hx)
    have HSK := Lib.hid (skip_any R t r w h' hk)
    have HE : Hid (Fm.hdT (t :: r) = x) := e
    have he2 : (t.t == x) = true := by simp [e]
    rw [he2] at he
    clear hb hT hS hl hc h' he2 e
    go_enter Tryd.func89, Tryd.ntmps89
    go_wp2_with fail
    refine HSK.out.mono ?_
    rintro e w1 ⟨rfl, h1, h2⟩
    clear c0 t1 hix HSK
    go_wp2
    go_ret
    exact ⟨by rw [decide_eq_true HE.out]; rfl, by rw [takeT_yes HE.out]; exact h1, h2⟩
  · have HE : Hid (¬ Fm.hdT (t :: r) = x) := e
    have he2 : (t.t == x) = false := by simp [e]
    rw [he2] at he
    clear hb hT hS hl hc h' he2 e
    go_enter Tryd.func89, Tryd.ntmps89
    go_wp2
    go_ret
    exact ⟨by rw [decide_eq_false HE.out]; rfl, by rw [takeT_no HE.out]; exact HP.out, RKeep.refl R _⟩
set_option maxHeartbeats 2000000 in
theorem need_ok (R : Nat) (w : World) : Calls Tryd.prog 75 #[.pointer (some ⟨R, 0, none⟩), .bool true] w fun e w' => e = .returned (.tuple #[]) ∧ w = w' := by
  have hnot : ∀ (x : Bool) (w : World), (Op.unary .not (.bool x)).run Tryd.prog w = .ok (.bool (!x)) w := fun _ _ => rfl
  go_enter Tryd.func75, Tryd.ntmps75
  go_wp2
  go_end0
  exact ⟨rfl, rfl⟩
set_option maxHeartbeats 2000000 in
theorem need_bad (R : Nat) (ts : List Tk.Tok) (w : World) (h : PR w R ts) : Calls Tryd.prog 75 #[.pointer (some ⟨R, 0, none⟩), .bool false] w fun e w' => e = FaultE 41 (Fm.hdA ts) ∧ w = w' := by
  have hnot : ∀ (x : Bool) (w : World), (Op.unary .not (.bool x)).run Tryd.prog w = .ok (.bool (!x)) w := fun _ _ => rfl
  obtain ⟨b, off, cap, hb, hT, hS, hl, hc⟩ := h
  obtain ⟨t, r, rfl⟩ := shape_ne hS
  obtain ⟨_, _, t2⟩ := hT.2.2 0 (by simp)
  simp only [List.getElem_cons_zero, Nat.zero_mul, Nat.add_zero] at t2
  have c0 := hb.cell 0
  simp only [List.getElem?_toArray, List.getElem?_cons_zero] at c0
  have hix := ix0 b off (t :: r).length cap (by simp)
  clear hb hT hS hl hc
  go_enter Tryd.func75, Tryd.ntmps75
  go_wp2
  exact ⟨rfl, rfl, rfl⟩
/-- A text must stand here. -/
def MustP (R : Nat) (w : World) (o : Except (Nat × Nat) (List Tk.Tok)) (e : Ending) (w' : World) : Prop :=
  match o with
  | .error (k, a) => e = FaultE k a ∧ RKeep R w w'
  | .ok ts => e = .returned (.tuple #[]) ∧ PR w' R ts ∧ RKeep R w w'
set_option maxHeartbeats 2000000 in
theorem must_any (R : Nat) (x : Tk.Bs) (ts : List Tk.Tok) (w : World) (h : PR w R ts) (hx : x ≠ []) :
    Calls Tryd.prog 104 #[.pointer (some ⟨R, 0, none⟩), .string (bsv x)] w (MustP R w (Fm.mustT x ts)) := by
  have HT := Lib.hid (take_any R x ts w h hx)
  clear h
  go_enter Tryd.func104, Tryd.ntmps104
  go_wp2_with fail
  refine HT.out.mono ?_
  rintro e w1 ⟨rfl, h1, h2⟩
  clear HT
  by_cases e : Fm.hdT ts = x
  · rw [takeT_yes e] at h1
    have d : decide (Fm.hdT ts = x) = true := decide_eq_true e
    have HE : Hid (Fm.mustT x ts = .ok ts.tail) := by unfold Hid Fm.mustT; rw [if_pos e]
    rw [d]
    clear e d
    go_wp2_with fail
    refine (need_ok R w1).mono ?_
    rintro e w2 ⟨rfl, rfl⟩
    go_wp2
    go_end0
    rw [HE.out]
    exact ⟨rfl, h1, h2⟩
  · rw [takeT_no e] at h1
    have d : decide (Fm.hdT ts = x) = false := decide_eq_false e
    have HE : Hid (Fm.mustT x ts = .error (41, Fm.hdA ts)) := by unfold Hid Fm.mustT; rw [if_neg e]
    rw [d]
    clear e d
    go_wp2_with fail
    refine (need_bad R ts w1 h1).mono ?_
    rintro e w2 ⟨rfl, rfl⟩
    refine ⟨rfl, ?_⟩
    rw [HE.out]
    exact ⟨rfl, h2⟩
theorem toolong_any (w : World) : Calls Tryd.prog 76 #[] w fun e w' => e = FaultE 2 0 ∧ w = w' := by
  go_enter Tryd.func76, Tryd.ntmps76
  go_wp2
  exact ⟨rfl, rfl, rfl⟩
set_option maxHeartbeats 2000000 in
theorem of_any (k : Int) (A : Option Addr) (n c : Nat) (w : World) : Calls Tryd.prog 90 #[.int .i64 k, .slice A n c] w fun e w' => e = .returned (.agg #[.int .i64 k, .string ⟨#[]⟩, .int .i64 0, .slice A n c]) ∧ Below w.heap.size w w' := by
  have hbx := Blk.new w 24 #[.int .i64 0, .string ⟨#[]⟩, .int .i64 0, .slice none 0 0]
  have lo := lowAlloc w (Obj.cells #[.int .i64 0, .string ⟨#[]⟩, .int .i64 0, .slice none 0 0] 24)
  go_enter Tryd.func90, Tryd.ntmps90
  go_upto_region 1 with fail
  have hlt : w.heap.size < (w.alloc (Obj.cells #[.int .i64 0, .string ⟨#[]⟩, .int .i64 0, .slice none 0 0] 24)).heap.size := by simp
  generalize w.alloc (Obj.cells #[.int .i64 0, .string ⟨#[]⟩, .int .i64 0, .slice none 0 0] 24) = W at *
  have k0 := hbx.cell 0
  have k1 := hbx.cell 1
  have k2 := hbx.cell 2
  have k3 := hbx.cell 3
  have q0 := hbx.frozen 0
  have q1 := hbx.frozen 1
  have q2 := hbx.frozen 2
  have q3 := hbx.frozen 3
  simp only [List.getElem?_toArray, List.getElem?_cons_zero, List.getElem?_cons_succ] at k0 k1 k2 k3
  have hC9 := (((hbx.put 0 (.int .i64 k)).put 1 (.string ⟨#[]⟩)).put 2 (.int .i64 0)).put 3 (.slice A n c)
  have hlo9 := (((lo.setCell (p := ⟨w.heap.size, 0, none⟩) (Nat.le_refl _) (.int .i64 k)).setCell (p := ⟨w.heap.size, 1, none⟩) (Nat.le_refl _) (.string ⟨#[]⟩)).setCell (p := ⟨w.heap.size, 2, none⟩) (Nat.le_refl _) (.int .i64 0)).setCell (p := ⟨w.heap.size, 3, none⟩) (Nat.le_refl _) (.slice A n c)
  have HC9 := Lib.hid hC9
  have HLO := Lib.hid hlo9
  clear hC9 hlo9 hbx lo
  go_wp2
  clear k0 k1 k2 k3 q0 q1 q2 q3
  generalize (((W.setCell ⟨w.heap.size, 0, none⟩ (.int .i64 k)).setCell ⟨w.heap.size, 1, none⟩ (.string ⟨#[]⟩)).setCell ⟨w.heap.size, 2, none⟩ (.int .i64 0)).setCell ⟨w.heap.size, 3, none⟩ (.slice A n c) = W9 at *
  have r0 := HC9.out.cell 0
  have r1 := HC9.out.cell 1
  have r2 := HC9.out.cell 2
  have r3 := HC9.out.cell 3
  simp only [List.getElem?_toArray, List.getElem?_cons_zero, List.getElem?_cons_succ, List.setIfInBounds_toArray, List.set_cons_zero, List.set_cons_succ] at r0 r1 r2 r3
  exact bodyPost_ret (v := .agg #[.int .i64 k, .string ⟨#[]⟩, .int .i64 0, .slice A n c]) (by simp [results, Tryd.results90, go_sem, r0, r1, r2, r3]) rfl ⟨rfl, HLO.out⟩
end Go.Proofs.YtlddnejjpekgeaaDoor
