/- The reader of formulas: and, or, formula. -/
import Derived.Test.YtlddnejjpekgeaaDoorQam
set_option linter.unusedSimpArgs false
set_option linter.unusedVariables false
namespace Go.Proofs.YtlddnejjpekgeaaDoor
open Go.RowKit

/-- What is known of primary formulas of at most so many tokens. -/
def PrimC (R n : Nat) : Prop := ∀ (d : Nat) (ts : List Tk.Tok) (V : World), ts.length ≤ n → d + ts.length ≤ 1000000 → PR V R ts → Calls Tryd.prog 98 #[.pointer (some ⟨R, 0, none⟩), .int .i64 (d : Int)] V (ResP R V (Fm.pP n d ts))
theorem call_primary (args : Array Value) (W : World) : (callFunc 98 args).run Tryd.prog W = .ok (.enter 98 args) W := by go_simp
theorem call_and (args : Array Value) (W : World) : (callFunc 97 args).run Tryd.prog W = .ok (.enter 97 args) W := by go_simp
theorem call_imply (args : Array Value) (W : World) : (callFunc 84 args).run Tryd.prog W = .ok (.enter 84 args) W := by go_simp

set_option maxRecDepth 10000 in
set_option maxHeartbeats 4000000 in
theorem and_any (R n : Nat) (HP : PrimC R n) (d : Nat) (ts : List Tk.Tok) (w : World) (hn : ts.length ≤ n) (hd : d + ts.length ≤ 1000000) (h : PR w R ts) :
    Calls Tryd.prog 97 #[.pointer (some ⟨R, 0, none⟩), .int .i64 (d : Int)] w (ResP R w (Fm.andG (Fm.pP n) d ts)) := by
  have hmf : ∀ (fn : Fn) (first cap : Array Value) (w : World), (Instr.makeFunc fn first cap).run Tryd.prog w = .ok (.func fn first cap) w := fun _ _ _ _ => rfl
  have hR0 := h.lt
  have lo := lowAlloc w (Obj.cells #[.int .i64 0, .string ⟨#[]⟩, .int .i64 0, .slice none 0 0] 24)
  have hk0 := (RKeep.refl R w).below lo
  have hb0 := Blk.new w 24 #[.int .i64 0, .string ⟨#[]⟩, .int .i64 0, .slice none 0 0]
  have h1 := h.below lo
  have hg0R : w.heap.size ≠ R := by omega
  clear h lo
  go_enter Tryd.func97, Tryd.ntmps97
  go_upto_region 1 with fail
  generalize w.alloc (Obj.cells #[.int .i64 0, .string ⟨#[]⟩, .int .i64 0, .slice none 0 0] 24) = W at *
  have hWw : w.heap.size < W.heap.size := hb0.lt
  have HCH := Lib.hid (show Calls Tryd.prog 83 _ W (ResP R W (Fm.andG (Fm.pP n) d ts)) from chain_any R 98 [38] (by decide) 5 (d : Int) (Fm.pP n d) (Fm.pP_eats n d) ts W h1 call_primary (fun us V hl hV => HP d us V (by omega) (by omega) hV))
  clear hmf
  have hmf : ∀ (fn : Fn) (first cap : Array Value) (w : World), (Instr.makeFunc fn first cap).run Tryd.prog w = .ok (.func fn first cap) w := fun _ _ _ _ => rfl
  go_wp2_with fail
  refine (HCH.out).mono ?_
  intro e w1 hQ
  rcases hq : Fm.andG (Fm.pP n) d ts with ⟨ka, aa⟩ | ⟨f, r⟩
  · rw [hq] at hQ
    obtain ⟨rfl, hk1⟩ := hQ
    exact ⟨rfl, rfl, hk0.trans hk1⟩
  rw [hq] at hQ
  obtain ⟨v, rfl, hF, hR, hk1⟩ := hQ
  obtain ⟨k1, s1, l1, A1, n1, c1, rfl⟩ := hF.four
  have HQE := Lib.hid hq
  clear hq
  have hk := hk0.trans hk1
  have hb := hk1.blkOf hb0 hg0R
  have hlo : W.heap.size ≤ W.heap.size := Nat.le_refl _
  have hRg : R < w.heap.size := hR0
  have hKn : ¬ (W.heap.size ≤ w.heap.size ∧ w.heap.size < w1.heap.size) := by omega
  have hF1 : FV w1 (Fr W.heap.size w1.heap.size) _ (.agg #[.int .i64 k1, .string s1, .int .i64 l1, .slice A1 n1 c1]) := hF
  have hF9 := (((hF1.far (p := ⟨w.heap.size, 0, none⟩) hKn (.int .i64 k1)).far (p := ⟨w.heap.size, 1, none⟩) hKn (.string s1)).far (p := ⟨w.heap.size, 2, none⟩) hKn (.int .i64 l1)).far (p := ⟨w.heap.size, 3, none⟩) hKn (.slice A1 n1 c1)
  have hF9b := hF9.more (K' := Fr w.heap.size (((((w1).setCell ⟨w.heap.size, 0, none⟩ (.int .i64 k1)).setCell ⟨w.heap.size, 1, none⟩ (.string s1)).setCell ⟨w.heap.size, 2, none⟩ (.int .i64 l1)).setCell ⟨w.heap.size, 3, none⟩ (.slice A1 n1 c1)).heap.size) (fun b hb => ⟨by have := hb.1; omega, by have := hb.2; simp; omega⟩)
  have hR9 : PR (((((w1).setCell ⟨w.heap.size, 0, none⟩ (.int .i64 k1)).setCell ⟨w.heap.size, 1, none⟩ (.string s1)).setCell ⟨w.heap.size, 2, none⟩ (.int .i64 l1)).setCell ⟨w.heap.size, 3, none⟩ (.slice A1 n1 c1)) R _ := (((hR.far (p := ⟨w.heap.size, 0, none⟩) hRg _).far (p := ⟨w.heap.size, 1, none⟩) hRg _).far (p := ⟨w.heap.size, 2, none⟩) hRg _).far (p := ⟨w.heap.size, 3, none⟩) hRg _
  have hk9 : RKeep R w (((((w1).setCell ⟨w.heap.size, 0, none⟩ (.int .i64 k1)).setCell ⟨w.heap.size, 1, none⟩ (.string s1)).setCell ⟨w.heap.size, 2, none⟩ (.int .i64 l1)).setCell ⟨w.heap.size, 3, none⟩ (.slice A1 n1 c1)) := (((hk.far (p := ⟨w.heap.size, 0, none⟩) (Nat.le_refl _) _).far (p := ⟨w.heap.size, 1, none⟩) (Nat.le_refl _) _).far (p := ⟨w.heap.size, 2, none⟩) (Nat.le_refl _) _).far (p := ⟨w.heap.size, 3, none⟩) (Nat.le_refl _) _
  have hC9 : Blk (((((w1).setCell ⟨w.heap.size, 0, none⟩ (.int .i64 k1)).setCell ⟨w.heap.size, 1, none⟩ (.string s1)).setCell ⟨w.heap.size, 2, none⟩ (.int .i64 l1)).setCell ⟨w.heap.size, 3, none⟩ (.slice A1 n1 c1)) w.heap.size 24 #[.int .i64 k1, .string s1, .int .i64 l1, .slice A1 n1 c1] := by simpa using (((hb.put 0 (.int .i64 k1)).put 1 (.string s1)).put 2 (.int .i64 l1)).put 3 (.slice A1 n1 c1)
  have HC9 := Lib.hid hC9
  have HR9 := Lib.hid hR9
  have HK9 := Lib.hid hk9
  have HF9 := Lib.hid hF9b
  have r0 := hb.cell 0
  have r1 := hb.cell 1
  have r2 := hb.cell 2
  have r3 := hb.cell 3
  simp only [List.getElem?_toArray, List.getElem?_cons_zero, List.getElem?_cons_succ] at r0 r1 r2 r3
  have q0 := hb.frozen 0
  have q1 := hb.frozen 1
  have q2 := hb.frozen 2
  have q3 := hb.frozen 3
  clear hF hF1 hF9 hF9b hR hR9 hk hk9 hC9 hb hKn
  go_wp2
  clear r0 r1 r2 r3 q0 q1 q2 q3
  generalize ((((w1).setCell ⟨w.heap.size, 0, none⟩ (.int .i64 k1)).setCell ⟨w.heap.size, 1, none⟩ (.string s1)).setCell ⟨w.heap.size, 2, none⟩ (.int .i64 l1)).setCell ⟨w.heap.size, 3, none⟩ (.slice A1 n1 c1) = V9 at *
  have t0 := HC9.out.cell 0
  have t1 := HC9.out.cell 1
  have t2 := HC9.out.cell 2
  have t3 := HC9.out.cell 3
  simp only [List.getElem?_toArray, List.getElem?_cons_zero, List.getElem?_cons_succ] at t0 t1 t2 t3
  refine bodyPost_ret (v := .agg #[.int .i64 k1, .string s1, .int .i64 l1, .slice A1 n1 c1]) (by simp [results, Tryd.results97, go_sem, t0, t1, t2, t3]) rfl ?_
  rw [HQE.out]
  exact ⟨_, rfl, HF9.out, HR9.out, HK9.out⟩

set_option maxRecDepth 10000 in
set_option maxHeartbeats 4000000 in
theorem or_any (R n : Nat) (HP : PrimC R n) (d : Nat) (ts : List Tk.Tok) (w : World) (hn : ts.length ≤ n) (hd : d + ts.length ≤ 1000000) (h : PR w R ts) :
    Calls Tryd.prog 91 #[.pointer (some ⟨R, 0, none⟩), .int .i64 (d : Int)] w (ResP R w (Fm.orG (Fm.pP n) d ts)) := by
  have hmf : ∀ (fn : Fn) (first cap : Array Value) (w : World), (Instr.makeFunc fn first cap).run Tryd.prog w = .ok (.func fn first cap) w := fun _ _ _ _ => rfl
  have hR0 := h.lt
  have lo := lowAlloc w (Obj.cells #[.int .i64 0, .string ⟨#[]⟩, .int .i64 0, .slice none 0 0] 24)
  have hk0 := (RKeep.refl R w).below lo
  have hb0 := Blk.new w 24 #[.int .i64 0, .string ⟨#[]⟩, .int .i64 0, .slice none 0 0]
  have h1 := h.below lo
  have hg0R : w.heap.size ≠ R := by omega
  clear h lo
  go_enter Tryd.func91, Tryd.ntmps91
  go_upto_region 1 with fail
  generalize w.alloc (Obj.cells #[.int .i64 0, .string ⟨#[]⟩, .int .i64 0, .slice none 0 0] 24) = W at *
  have hWw : w.heap.size < W.heap.size := hb0.lt
  have HCH := Lib.hid (show Calls Tryd.prog 83 _ W (ResP R W (Fm.orG (Fm.pP n) d ts)) from chain_any R 97 [124] (by decide) 6 (d : Int) (Fm.andG (Fm.pP n) d) (Fm.chain_eats (by decide) (Fm.pP_eats n d)) ts W h1 call_and (fun us V hl hV => and_any R n HP d us V (by omega) (by omega) hV))
  clear hmf
  have hmf : ∀ (fn : Fn) (first cap : Array Value) (w : World), (Instr.makeFunc fn first cap).run Tryd.prog w = .ok (.func fn first cap) w := fun _ _ _ _ => rfl
  go_wp2_with fail
  refine (HCH.out).mono ?_
  intro e w1 hQ
  rcases hq : Fm.orG (Fm.pP n) d ts with ⟨ka, aa⟩ | ⟨f, r⟩
  · rw [hq] at hQ
    obtain ⟨rfl, hk1⟩ := hQ
    exact ⟨rfl, rfl, hk0.trans hk1⟩
  rw [hq] at hQ
  obtain ⟨v, rfl, hF, hR, hk1⟩ := hQ
  obtain ⟨k1, s1, l1, A1, n1, c1, rfl⟩ := hF.four
  have HQE := Lib.hid hq
  clear hq
  have hk := hk0.trans hk1
  have hb := hk1.blkOf hb0 hg0R
  have hlo : W.heap.size ≤ W.heap.size := Nat.le_refl _
  have hRg : R < w.heap.size := hR0
  have hKn : ¬ (W.heap.size ≤ w.heap.size ∧ w.heap.size < w1.heap.size) := by omega
  have hF1 : FV w1 (Fr W.heap.size w1.heap.size) _ (.agg #[.int .i64 k1, .string s1, .int .i64 l1, .slice A1 n1 c1]) := hF
  have hF9 := (((hF1.far (p := ⟨w.heap.size, 0, none⟩) hKn (.int .i64 k1)).far (p := ⟨w.heap.size, 1, none⟩) hKn (.string s1)).far (p := ⟨w.heap.size, 2, none⟩) hKn (.int .i64 l1)).far (p := ⟨w.heap.size, 3, none⟩) hKn (.slice A1 n1 c1)
  have hF9b := hF9.more (K' := Fr w.heap.size (((((w1).setCell ⟨w.heap.size, 0, none⟩ (.int .i64 k1)).setCell ⟨w.heap.size, 1, none⟩ (.string s1)).setCell ⟨w.heap.size, 2, none⟩ (.int .i64 l1)).setCell ⟨w.heap.size, 3, none⟩ (.slice A1 n1 c1)).heap.size) (fun b hb => ⟨by have := hb.1; omega, by have := hb.2; simp; omega⟩)
  have hR9 : PR (((((w1).setCell ⟨w.heap.size, 0, none⟩ (.int .i64 k1)).setCell ⟨w.heap.size, 1, none⟩ (.string s1)).setCell ⟨w.heap.size, 2, none⟩ (.int .i64 l1)).setCell ⟨w.heap.size, 3, none⟩ (.slice A1 n1 c1)) R _ := (((hR.far (p := ⟨w.heap.size, 0, none⟩) hRg _).far (p := ⟨w.heap.size, 1, none⟩) hRg _).far (p := ⟨w.heap.size, 2, none⟩) hRg _).far (p := ⟨w.heap.size, 3, none⟩) hRg _
  have hk9 : RKeep R w (((((w1).setCell ⟨w.heap.size, 0, none⟩ (.int .i64 k1)).setCell ⟨w.heap.size, 1, none⟩ (.string s1)).setCell ⟨w.heap.size, 2, none⟩ (.int .i64 l1)).setCell ⟨w.heap.size, 3, none⟩ (.slice A1 n1 c1)) := (((hk.far (p := ⟨w.heap.size, 0, none⟩) (Nat.le_refl _) _).far (p := ⟨w.heap.size, 1, none⟩) (Nat.le_refl _) _).far (p := ⟨w.heap.size, 2, none⟩) (Nat.le_refl _) _).far (p := ⟨w.heap.size, 3, none⟩) (Nat.le_refl _) _
  have hC9 : Blk (((((w1).setCell ⟨w.heap.size, 0, none⟩ (.int .i64 k1)).setCell ⟨w.heap.size, 1, none⟩ (.string s1)).setCell ⟨w.heap.size, 2, none⟩ (.int .i64 l1)).setCell ⟨w.heap.size, 3, none⟩ (.slice A1 n1 c1)) w.heap.size 24 #[.int .i64 k1, .string s1, .int .i64 l1, .slice A1 n1 c1] := by simpa using (((hb.put 0 (.int .i64 k1)).put 1 (.string s1)).put 2 (.int .i64 l1)).put 3 (.slice A1 n1 c1)
  have HC9 := Lib.hid hC9
  have HR9 := Lib.hid hR9
  have HK9 := Lib.hid hk9
  have HF9 := Lib.hid hF9b
  have r0 := hb.cell 0
  have r1 := hb.cell 1
  have r2 := hb.cell 2
  have r3 := hb.cell 3
  simp only [List.getElem?_toArray, List.getElem?_cons_zero, List.getElem?_cons_succ] at r0 r1 r2 r3
  have q0 := hb.frozen 0
  have q1 := hb.frozen 1
  have q2 := hb.frozen 2
  have q3 := hb.frozen 3
  clear hF hF1 hF9 hF9b hR hR9 hk hk9 hC9 hb hKn
  go_wp2
  clear r0 r1 r2 r3 q0 q1 q2 q3
  generalize ((((w1).setCell ⟨w.heap.size, 0, none⟩ (.int .i64 k1)).setCell ⟨w.heap.size, 1, none⟩ (.string s1)).setCell ⟨w.heap.size, 2, none⟩ (.int .i64 l1)).setCell ⟨w.heap.size, 3, none⟩ (.slice A1 n1 c1) = V9 at *
  have t0 := HC9.out.cell 0
  have t1 := HC9.out.cell 1
  have t2 := HC9.out.cell 2
  have t3 := HC9.out.cell 3
  simp only [List.getElem?_toArray, List.getElem?_cons_zero, List.getElem?_cons_succ] at t0 t1 t2 t3
  refine bodyPost_ret (v := .agg #[.int .i64 k1, .string s1, .int .i64 l1, .slice A1 n1 c1]) (by simp [results, Tryd.results91, go_sem, t0, t1, t2, t3]) rfl ?_
  rw [HQE.out]
  exact ⟨_, rfl, HF9.out, HR9.out, HK9.out⟩

set_option maxRecDepth 10000 in
set_option maxHeartbeats 4000000 in
theorem formula_of (R n : Nat) (HI : ∀ (d : Nat) (ts : List Tk.Tok) (V : World), ts.length ≤ n → d + ts.length ≤ 1000000 → PR V R ts → Calls Tryd.prog 84 #[.pointer (some ⟨R, 0, none⟩), .int .i64 (d : Int)] V (ResP R V (Fm.impG (Fm.pP n) (ts.length + 1) d ts))) : True := trivial

end Go.Proofs.YtlddnejjpekgeaaDoor
