/- Formulas: the law's awake. -/
import Derived.Test.YtlddnejjpekgeaaDoorQbf
import Derived.Test.YtlddnejjpekgeaaDoorQbb
set_option linter.unusedSimpArgs false
set_option linter.unusedVariables false
namespace Go.Proofs.YtlddnejjpekgeaaDoor
open Go.RowKit

/-- Blocks of cells below the heap's end. -/
abbrev RB (w : World) : Nat → Prop := fun b => b < w.heap.size ∧ Reg w b
theorem FV.onR {w w' : World} {f : Fm.F} {v : Value} (h : FV w (RB w) f v) (hb : Below w.heap.size w w') : FV w' (RB w') f v :=
  FV.keep (fun _ hp => hb.cell hp.1) (fun _ h => ⟨Nat.lt_of_lt_of_le h.1 hb.size, h.2.below hb h.1⟩) f v h
theorem FV.lo {w : World} {f : Fm.F} {v : Value} (h : FV w (RB w) f v) : FV w (Lo w.heap.size) f v := h.more (fun _ hb => hb.1)
theorem same_r {f g : Fm.F} (hc : f.cnt ≤ 50000) {v u : Value} {w : World} (hf : FV w (RB w) f v) (hg : FV w (RB w) g u) :
    Calls Tryd.prog 17 #[v, u] w fun e w' => e = .returned (.bool (f.eqB g)) ∧ Below w.heap.size w w' := Same_any f g v u w (RB w) hf hg (fun _ h => h) hc
theorem Blk.rb {w : World} {b : Nat} {t : TypeId} {cs : Array Value} (h : Blk w b t cs) : RB w b := ⟨h.lt, t, cs, h⟩
theorem size_good {f : Fm.F} (h : Fm.validB f = true) (v : Value) (w : World) (hf : FV w (RB w) f v) :
    Calls Tryd.prog 23 #[v] w fun e w' => e = .returned (.int .i64 (f.cnt : Int)) ∧ Below w.heap.size w w' := by
  have := Size_any f v w hf.lo
  have e : Fm.sizeS f = f.cnt := by unfold Fm.sizeS; rw [if_pos h]
  rw [e] at this
  exact this
theorem print_bad {f : Fm.F} (h : Fm.validB f = false) (v : Value) (w : World) (hF : FV w (Lo w.heap.size) f v) (hT : Tabs w) :
    Calls Tryd.prog 21 #[v] w fun e w' => e = .returned (.tuple #[.string ⟨#[]⟩, .int .i64 1]) ∧ Below w.heap.size w w' := by
  have hp := Print_any f v w hF hT.sig hT.lt
  rw [printV_bad h] at hp
  exact hp
set_option maxRecDepth 10000 in
set_option maxHeartbeats 4000000 in
theorem atomL_any (s : ByteArray) (w : World) : Calls Tryd.prog 20 #[.string s] w fun e w' => e = .returned (.agg #[.int .i64 3, .string s, .int .i64 0, .slice none 0 0]) ∧ Below w.heap.size w w' := by
  have lo := lowAlloc w (Obj.cells #[.int .i64 0, .string ⟨#[]⟩, .int .i64 0, .slice none 0 0] 24)
  have hb := Blk.new w 24 #[.int .i64 0, .string ⟨#[]⟩, .int .i64 0, .slice none 0 0]
  go_enter Tryd.func20, Tryd.ntmps20
  go_upto_region 1 with fail
  generalize w.alloc (Obj.cells #[.int .i64 0, .string ⟨#[]⟩, .int .i64 0, .slice none 0 0] 24) = W at *
  have r0 := hb.cell 0
  have r1 := hb.cell 1
  have r2 := hb.cell 2
  have r3 := hb.cell 3
  simp only [List.getElem?_toArray, List.getElem?_cons_zero, List.getElem?_cons_succ] at r0 r1 r2 r3
  have q0 := hb.frozen 0
  have q1 := hb.frozen 1
  have q2 := hb.frozen 2
  have q3 := hb.frozen 3
  have hC9 : Blk ((((W.setCell ⟨w.heap.size, 0, none⟩ (.int .i64 3)).setCell ⟨w.heap.size, 1, none⟩ (.string s)).setCell ⟨w.heap.size, 2, none⟩ (.int .i64 0)).setCell ⟨w.heap.size, 3, none⟩ (.slice none 0 0)) w.heap.size 24 #[.int .i64 3, .string s, .int .i64 0, .slice none 0 0] := by simpa using (((hb.put 0 (.int .i64 3)).put 1 (.string s)).put 2 (.int .i64 0)).put 3 (.slice none 0 0)
  have hL9 := (((lo.setCell (p := ⟨w.heap.size, 0, none⟩) (Nat.le_refl _) (.int .i64 3)).setCell (p := ⟨w.heap.size, 1, none⟩) (Nat.le_refl _) (.string s)).setCell (p := ⟨w.heap.size, 2, none⟩) (Nat.le_refl _) (.int .i64 0)).setCell (p := ⟨w.heap.size, 3, none⟩) (Nat.le_refl _) (.slice none 0 0)
  have HC9 := Lib.hid hC9
  have HL9 := Lib.hid hL9
  clear hC9 hL9 lo hb
  go_wp2
  clear r0 r1 r2 r3 q0 q1 q2 q3
  generalize (((W.setCell ⟨w.heap.size, 0, none⟩ (.int .i64 3)).setCell ⟨w.heap.size, 1, none⟩ (.string s)).setCell ⟨w.heap.size, 2, none⟩ (.int .i64 0)).setCell ⟨w.heap.size, 3, none⟩ (.slice none 0 0) = V9 at *
  have t0 := HC9.out.cell 0
  have t1 := HC9.out.cell 1
  have t2 := HC9.out.cell 2
  have t3 := HC9.out.cell 3
  simp only [List.getElem?_toArray, List.getElem?_cons_zero, List.getElem?_cons_succ] at t0 t1 t2 t3
  refine bodyPost_ret (v := .agg #[.int .i64 3, .string s, .int .i64 0, .slice none 0 0]) (by simp [results, Tryd.results20, go_sem, t0, t1, t2, t3]) rfl ?_
  exact ⟨rfl, HL9.out⟩
namespace Fm
def atF (s : Tk.Bs) : F := .mk 3 s 0 []
def aw8F : F := .mk 14 [] 0 [.mk 7 [] 0 [atF [114, 101, 113], .mk 12 [] 0 [atF [97, 99, 107]]]]
def aw8G : F := .mk 15 [] 0 [atF [69], atF [97, 46, 98]]
theorem aw8F_ok : validB aw8F = true := by rfl
theorem aw8G_ok : validB aw8G = true := by rfl
theorem aw8Z_bad : validB (.mk 0 [] 0 []) = false := by rfl
theorem aw8F_text : aw8F.text = [65, 71, 32, 40, 114, 101, 113, 32, 45, 62, 32, 65, 70, 32, 97, 99, 107, 41] := by rfl
theorem aw8G_text : aw8G.text = [69, 32, 91, 34, 69, 34, 32, 85, 32, 34, 97, 46, 98, 34, 93] := by rfl
theorem aw8F_cnt : aw8F.cnt = 5 := by rfl
theorem aw8_lex : ∃ ts, Tk.lexA [65, 71, 32, 40, 114, 101, 113, 32, 45, 62, 32, 65, 70, 32, 97, 99, 107, 41] = (ts, 0, 0) ∧ ts.length = 8 := ⟨_, rfl, rfl⟩
end Fm
theorem atF_fv (s : Tk.Bs) (w : World) (K : Nat → Prop) : FV w K (Fm.atF s) (.agg #[.int .i64 3, .string ⟨s.toArray⟩, .int .i64 0, .slice none 0 0]) := FV.mk (A := none) (c := 0) (FL.nil _ _ _ _)
theorem aw8_mem (w2 : World) : FV ((((w2.alloc (Obj.cells #[.int .i64 3, .string ⟨#[97, 99, 107]⟩, .int .i64 0, .slice none 0 0] 24)).alloc (Obj.cells #[.int .i64 3, .string ⟨#[114, 101, 113]⟩, .int .i64 0, .slice none 0 0, .int .i64 12, .string ⟨#[]⟩, .int .i64 0, .slice (some ⟨w2.heap.size, 0, none⟩) 1 1] 24)).alloc (Obj.cells #[.int .i64 7, .string ⟨#[]⟩, .int .i64 0, .slice (some ⟨w2.heap.size + 1, 0, none⟩) 2 2] 24)).alloc (Obj.cells #[.int .i64 14, .string ⟨#[]⟩, .int .i64 0, .slice (some ⟨w2.heap.size + 1 + 1, 0, none⟩) 1 1] 24)) (RB ((((w2.alloc (Obj.cells #[.int .i64 3, .string ⟨#[97, 99, 107]⟩, .int .i64 0, .slice none 0 0] 24)).alloc (Obj.cells #[.int .i64 3, .string ⟨#[114, 101, 113]⟩, .int .i64 0, .slice none 0 0, .int .i64 12, .string ⟨#[]⟩, .int .i64 0, .slice (some ⟨w2.heap.size, 0, none⟩) 1 1] 24)).alloc (Obj.cells #[.int .i64 7, .string ⟨#[]⟩, .int .i64 0, .slice (some ⟨w2.heap.size + 1, 0, none⟩) 2 2] 24)).alloc (Obj.cells #[.int .i64 14, .string ⟨#[]⟩, .int .i64 0, .slice (some ⟨w2.heap.size + 1 + 1, 0, none⟩) 1 1] 24))) Fm.aw8F (.agg #[.int .i64 14, .string ⟨#[]⟩, .int .i64 0, .slice (some ⟨w2.heap.size + 1 + 1, 0, none⟩) 1 1]) ∧ Blk ((((w2.alloc (Obj.cells #[.int .i64 3, .string ⟨#[97, 99, 107]⟩, .int .i64 0, .slice none 0 0] 24)).alloc (Obj.cells #[.int .i64 3, .string ⟨#[114, 101, 113]⟩, .int .i64 0, .slice none 0 0, .int .i64 12, .string ⟨#[]⟩, .int .i64 0, .slice (some ⟨w2.heap.size, 0, none⟩) 1 1] 24)).alloc (Obj.cells #[.int .i64 7, .string ⟨#[]⟩, .int .i64 0, .slice (some ⟨w2.heap.size + 1, 0, none⟩) 2 2] 24)).alloc (Obj.cells #[.int .i64 14, .string ⟨#[]⟩, .int .i64 0, .slice (some ⟨w2.heap.size + 1 + 1, 0, none⟩) 1 1] 24)) (w2.heap.size + 1 + 1 + 1) 24 #[.int .i64 14, .string ⟨#[]⟩, .int .i64 0, .slice (some ⟨w2.heap.size + 1 + 1, 0, none⟩) 1 1] ∧ Below w2.heap.size w2 ((((w2.alloc (Obj.cells #[.int .i64 3, .string ⟨#[97, 99, 107]⟩, .int .i64 0, .slice none 0 0] 24)).alloc (Obj.cells #[.int .i64 3, .string ⟨#[114, 101, 113]⟩, .int .i64 0, .slice none 0 0, .int .i64 12, .string ⟨#[]⟩, .int .i64 0, .slice (some ⟨w2.heap.size, 0, none⟩) 1 1] 24)).alloc (Obj.cells #[.int .i64 7, .string ⟨#[]⟩, .int .i64 0, .slice (some ⟨w2.heap.size + 1, 0, none⟩) 2 2] 24)).alloc (Obj.cells #[.int .i64 14, .string ⟨#[]⟩, .int .i64 0, .slice (some ⟨w2.heap.size + 1 + 1, 0, none⟩) 1 1] 24)) := by
  have s1 : (w2.alloc (Obj.cells #[.int .i64 3, .string ⟨#[97, 99, 107]⟩, .int .i64 0, .slice none 0 0] 24)).heap.size = w2.heap.size + 1 := by simp
  have b0 := Blk.new w2 24 #[.int .i64 3, .string ⟨#[97, 99, 107]⟩, .int .i64 0, .slice none 0 0]
  have l0 := lowAlloc w2 (Obj.cells #[.int .i64 3, .string ⟨#[97, 99, 107]⟩, .int .i64 0, .slice none 0 0] 24)
  have s2 : ((w2.alloc (Obj.cells #[.int .i64 3, .string ⟨#[97, 99, 107]⟩, .int .i64 0, .slice none 0 0] 24)).alloc (Obj.cells #[.int .i64 3, .string ⟨#[114, 101, 113]⟩, .int .i64 0, .slice none 0 0, .int .i64 12, .string ⟨#[]⟩, .int .i64 0, .slice (some ⟨w2.heap.size, 0, none⟩) 1 1] 24)).heap.size = w2.heap.size + 1 + 1 := by simp
  have b1 := Blk.new (w2.alloc (Obj.cells #[.int .i64 3, .string ⟨#[97, 99, 107]⟩, .int .i64 0, .slice none 0 0] 24)) 24 #[.int .i64 3, .string ⟨#[114, 101, 113]⟩, .int .i64 0, .slice none 0 0, .int .i64 12, .string ⟨#[]⟩, .int .i64 0, .slice (some ⟨w2.heap.size, 0, none⟩) 1 1]
  have l1 := lowAlloc (w2.alloc (Obj.cells #[.int .i64 3, .string ⟨#[97, 99, 107]⟩, .int .i64 0, .slice none 0 0] 24)) (Obj.cells #[.int .i64 3, .string ⟨#[114, 101, 113]⟩, .int .i64 0, .slice none 0 0, .int .i64 12, .string ⟨#[]⟩, .int .i64 0, .slice (some ⟨w2.heap.size, 0, none⟩) 1 1] 24)
  rw [s1] at b1
  have s3 : (((w2.alloc (Obj.cells #[.int .i64 3, .string ⟨#[97, 99, 107]⟩, .int .i64 0, .slice none 0 0] 24)).alloc (Obj.cells #[.int .i64 3, .string ⟨#[114, 101, 113]⟩, .int .i64 0, .slice none 0 0, .int .i64 12, .string ⟨#[]⟩, .int .i64 0, .slice (some ⟨w2.heap.size, 0, none⟩) 1 1] 24)).alloc (Obj.cells #[.int .i64 7, .string ⟨#[]⟩, .int .i64 0, .slice (some ⟨w2.heap.size + 1, 0, none⟩) 2 2] 24)).heap.size = w2.heap.size + 1 + 1 + 1 := by simp
  have b2 := Blk.new ((w2.alloc (Obj.cells #[.int .i64 3, .string ⟨#[97, 99, 107]⟩, .int .i64 0, .slice none 0 0] 24)).alloc (Obj.cells #[.int .i64 3, .string ⟨#[114, 101, 113]⟩, .int .i64 0, .slice none 0 0, .int .i64 12, .string ⟨#[]⟩, .int .i64 0, .slice (some ⟨w2.heap.size, 0, none⟩) 1 1] 24)) 24 #[.int .i64 7, .string ⟨#[]⟩, .int .i64 0, .slice (some ⟨w2.heap.size + 1, 0, none⟩) 2 2]
  have l2 := lowAlloc ((w2.alloc (Obj.cells #[.int .i64 3, .string ⟨#[97, 99, 107]⟩, .int .i64 0, .slice none 0 0] 24)).alloc (Obj.cells #[.int .i64 3, .string ⟨#[114, 101, 113]⟩, .int .i64 0, .slice none 0 0, .int .i64 12, .string ⟨#[]⟩, .int .i64 0, .slice (some ⟨w2.heap.size, 0, none⟩) 1 1] 24)) (Obj.cells #[.int .i64 7, .string ⟨#[]⟩, .int .i64 0, .slice (some ⟨w2.heap.size + 1, 0, none⟩) 2 2] 24)
  rw [s2] at b2
  have s4 : ((((w2.alloc (Obj.cells #[.int .i64 3, .string ⟨#[97, 99, 107]⟩, .int .i64 0, .slice none 0 0] 24)).alloc (Obj.cells #[.int .i64 3, .string ⟨#[114, 101, 113]⟩, .int .i64 0, .slice none 0 0, .int .i64 12, .string ⟨#[]⟩, .int .i64 0, .slice (some ⟨w2.heap.size, 0, none⟩) 1 1] 24)).alloc (Obj.cells #[.int .i64 7, .string ⟨#[]⟩, .int .i64 0, .slice (some ⟨w2.heap.size + 1, 0, none⟩) 2 2] 24)).alloc (Obj.cells #[.int .i64 14, .string ⟨#[]⟩, .int .i64 0, .slice (some ⟨w2.heap.size + 1 + 1, 0, none⟩) 1 1] 24)).heap.size = w2.heap.size + 1 + 1 + 1 + 1 := by simp
  have b3 := Blk.new (((w2.alloc (Obj.cells #[.int .i64 3, .string ⟨#[97, 99, 107]⟩, .int .i64 0, .slice none 0 0] 24)).alloc (Obj.cells #[.int .i64 3, .string ⟨#[114, 101, 113]⟩, .int .i64 0, .slice none 0 0, .int .i64 12, .string ⟨#[]⟩, .int .i64 0, .slice (some ⟨w2.heap.size, 0, none⟩) 1 1] 24)).alloc (Obj.cells #[.int .i64 7, .string ⟨#[]⟩, .int .i64 0, .slice (some ⟨w2.heap.size + 1, 0, none⟩) 2 2] 24)) 24 #[.int .i64 14, .string ⟨#[]⟩, .int .i64 0, .slice (some ⟨w2.heap.size + 1 + 1, 0, none⟩) 1 1]
  have l3 := lowAlloc (((w2.alloc (Obj.cells #[.int .i64 3, .string ⟨#[97, 99, 107]⟩, .int .i64 0, .slice none 0 0] 24)).alloc (Obj.cells #[.int .i64 3, .string ⟨#[114, 101, 113]⟩, .int .i64 0, .slice none 0 0, .int .i64 12, .string ⟨#[]⟩, .int .i64 0, .slice (some ⟨w2.heap.size, 0, none⟩) 1 1] 24)).alloc (Obj.cells #[.int .i64 7, .string ⟨#[]⟩, .int .i64 0, .slice (some ⟨w2.heap.size + 1, 0, none⟩) 2 2] 24)) (Obj.cells #[.int .i64 14, .string ⟨#[]⟩, .int .i64 0, .slice (some ⟨w2.heap.size + 1 + 1, 0, none⟩) 1 1] 24)
  rw [s3] at b3
  have c0 := (((b0.below l1 b0.lt).below l2 (b0.below l1 b0.lt).lt).below l3 ((b0.below l1 b0.lt).below l2 (b0.below l1 b0.lt).lt).lt)
  have c1 := ((b1.below l2 b1.lt).below l3 (b1.below l2 b1.lt).lt)
  have c2 := (b2.below l3 b2.lt)
  have c3 := b3
  have m0 := l0
  have m1 := m0.trans (l1.mono m0.size)
  have m2 := m1.trans (l2.mono m1.size)
  have m3 := m2.trans (l3.mono m2.size)
  have f0 : FV ((((w2.alloc (Obj.cells #[.int .i64 3, .string ⟨#[97, 99, 107]⟩, .int .i64 0, .slice none 0 0] 24)).alloc (Obj.cells #[.int .i64 3, .string ⟨#[114, 101, 113]⟩, .int .i64 0, .slice none 0 0, .int .i64 12, .string ⟨#[]⟩, .int .i64 0, .slice (some ⟨w2.heap.size, 0, none⟩) 1 1] 24)).alloc (Obj.cells #[.int .i64 7, .string ⟨#[]⟩, .int .i64 0, .slice (some ⟨w2.heap.size + 1, 0, none⟩) 2 2] 24)).alloc (Obj.cells #[.int .i64 14, .string ⟨#[]⟩, .int .i64 0, .slice (some ⟨w2.heap.size + 1 + 1, 0, none⟩) 1 1] 24)) (RB ((((w2.alloc (Obj.cells #[.int .i64 3, .string ⟨#[97, 99, 107]⟩, .int .i64 0, .slice none 0 0] 24)).alloc (Obj.cells #[.int .i64 3, .string ⟨#[114, 101, 113]⟩, .int .i64 0, .slice none 0 0, .int .i64 12, .string ⟨#[]⟩, .int .i64 0, .slice (some ⟨w2.heap.size, 0, none⟩) 1 1] 24)).alloc (Obj.cells #[.int .i64 7, .string ⟨#[]⟩, .int .i64 0, .slice (some ⟨w2.heap.size + 1, 0, none⟩) 2 2] 24)).alloc (Obj.cells #[.int .i64 14, .string ⟨#[]⟩, .int .i64 0, .slice (some ⟨w2.heap.size + 1 + 1, 0, none⟩) 1 1] 24))) (.mk 12 [] 0 [Fm.atF [97, 99, 107]]) (.agg #[.int .i64 12, .string ⟨#[]⟩, .int .i64 0, .slice (some ⟨w2.heap.size, 0, none⟩) 1 1]) := FV.mk (c := 1) (FL.one c0 c0.rb (atF_fv _ _ _))
  have f1 : FV ((((w2.alloc (Obj.cells #[.int .i64 3, .string ⟨#[97, 99, 107]⟩, .int .i64 0, .slice none 0 0] 24)).alloc (Obj.cells #[.int .i64 3, .string ⟨#[114, 101, 113]⟩, .int .i64 0, .slice none 0 0, .int .i64 12, .string ⟨#[]⟩, .int .i64 0, .slice (some ⟨w2.heap.size, 0, none⟩) 1 1] 24)).alloc (Obj.cells #[.int .i64 7, .string ⟨#[]⟩, .int .i64 0, .slice (some ⟨w2.heap.size + 1, 0, none⟩) 2 2] 24)).alloc (Obj.cells #[.int .i64 14, .string ⟨#[]⟩, .int .i64 0, .slice (some ⟨w2.heap.size + 1 + 1, 0, none⟩) 1 1] 24)) (RB ((((w2.alloc (Obj.cells #[.int .i64 3, .string ⟨#[97, 99, 107]⟩, .int .i64 0, .slice none 0 0] 24)).alloc (Obj.cells #[.int .i64 3, .string ⟨#[114, 101, 113]⟩, .int .i64 0, .slice none 0 0, .int .i64 12, .string ⟨#[]⟩, .int .i64 0, .slice (some ⟨w2.heap.size, 0, none⟩) 1 1] 24)).alloc (Obj.cells #[.int .i64 7, .string ⟨#[]⟩, .int .i64 0, .slice (some ⟨w2.heap.size + 1, 0, none⟩) 2 2] 24)).alloc (Obj.cells #[.int .i64 14, .string ⟨#[]⟩, .int .i64 0, .slice (some ⟨w2.heap.size + 1 + 1, 0, none⟩) 1 1] 24))) (.mk 7 [] 0 [Fm.atF [114, 101, 113], .mk 12 [] 0 [Fm.atF [97, 99, 107]]]) (.agg #[.int .i64 7, .string ⟨#[]⟩, .int .i64 0, .slice (some ⟨w2.heap.size + 1, 0, none⟩) 2 2]) := FV.mk (c := 2) (FL.two c1 c1.rb (atF_fv _ _ _) f0)
  exact ⟨FV.mk (c := 1) (FL.one c2 c2.rb f1), c3, m3⟩
set_option maxRecDepth 10000 in
set_option maxHeartbeats 8000000 in
theorem awake8_any (w : World) (hT : Tabs w) : Calls Tryd.prog 15 #[] w fun e w' => e = .returned (.bool true) ∧ Below w.heap.size w w' := by
  have H1 := Lib.hid (atomL_any ⟨#[114, 101, 113]⟩ w)
  go_enter Tryd.func15, Tryd.ntmps15
  go_wp2_with fail
  refine H1.out.mono ?_
  rintro e w1 ⟨rfl, hb1⟩
  have H2 := Lib.hid (atomL_any ⟨#[97, 99, 107]⟩ w1)
  clear H1
  go_wp2_with fail
  refine H2.out.mono ?_
  rintro e w2 ⟨rfl, hb2⟩
  have hlo := hb1.trans (hb2.mono hb1.size)
  have hT2 := (hT.below hb1).below hb2
  clear H2 hb1 hb2 hT
  obtain ⟨hF, hX, hlw⟩ := aw8_mem w2
  go_upto_region 2 with fail
  generalize ((((w2.alloc (Obj.cells #[.int .i64 3, .string ⟨#[97, 99, 107]⟩, .int .i64 0, .slice none 0 0] 24)).alloc (Obj.cells #[.int .i64 3, .string ⟨#[114, 101, 113]⟩, .int .i64 0, .slice none 0 0, .int .i64 12, .string ⟨#[]⟩, .int .i64 0, .slice (some ⟨w2.heap.size, 0, none⟩) 1 1] 24)).alloc (Obj.cells #[.int .i64 7, .string ⟨#[]⟩, .int .i64 0, .slice (some ⟨w2.heap.size + 1, 0, none⟩) 2 2] 24)).alloc (Obj.cells #[.int .i64 14, .string ⟨#[]⟩, .int .i64 0, .slice (some ⟨w2.heap.size + 1 + 1, 0, none⟩) 1 1] 24)) = W at *
  have hlo2 := hlo.trans (hlw.mono hlo.size)
  have hT3 := hT2.below hlw
  clear hlo hT2 hlw
  have x0 := hX.cell 0
  have x1 := hX.cell 1
  have x2 := hX.cell 2
  have x3 := hX.cell 3
  simp only [List.getElem?_toArray, List.getElem?_cons_zero, List.getElem?_cons_succ] at x0 x1 x2 x3
  have H3 : Hid (Calls Tryd.prog 21 #[.agg #[.int .i64 14, .string ⟨#[]⟩, .int .i64 0, .slice (some ⟨w2.heap.size + 1 + 1, 0, none⟩) 1 1]] W fun e w' => e = .returned (.tuple #[.string ⟨#[65, 71, 32, 40, 114, 101, 113, 32, 45, 62, 32, 65, 70, 32, 97, 99, 107, 41]⟩, .int .i64 0]) ∧ Below W.heap.size W w') := print_good Fm.aw8F_ok _ W hF.lo hT3
  go_wp2_with fail
  refine H3.out.mono ?_
  rintro e w3 ⟨rfl, hb3⟩
  have hF3 := hF.onR hb3
  have hX3 := hX.below hb3 hX.lt
  have hT4 := hT3.below hb3
  have hlo3 := hlo2.trans (hb3.mono hlo2.size)
  clear H3 hF hX hT3 hb3 hlo2 x0 x1 x2 x3
  have H4 := Lib.hid (atomL_any ⟨#[69]⟩ w3)
  go_wp2_with fail
  refine H4.out.mono ?_
  rintro e w4 ⟨rfl, hb4⟩
  have H5 := Lib.hid (atomL_any ⟨#[97, 46, 98]⟩ w4)
  clear H4
  go_wp2_with fail
  refine H5.out.mono ?_
  rintro e w5 ⟨rfl, hb5⟩
  have hF5 := (hF3.onR hb4).onR hb5
  have hX5 := (hX3.below hb4 hX3.lt).below hb5 (hX3.below hb4 hX3.lt).lt
  have hT5 := (hT4.below hb4).below hb5
  have hlo4 := hlo3.trans (hb4.mono hlo3.size)
  have hlo5 := hlo4.trans (hb5.mono hlo4.size)
  clear H5 hF3 hX3 hT4 hb4 hb5 hlo3 hlo4
  have l6 := lowAlloc w5 (Obj.cells #[.int .i64 3, .string ⟨#[69]⟩, .int .i64 0, .slice none 0 0, .int .i64 3, .string ⟨#[97, 46, 98]⟩, .int .i64 0, .slice none 0 0] 24)
  have y6 := Blk.new w5 24 #[.int .i64 3, .string ⟨#[69]⟩, .int .i64 0, .slice none 0 0, .int .i64 3, .string ⟨#[97, 46, 98]⟩, .int .i64 0, .slice none 0 0]
  have hF6 := hF5.onR l6
  have hX6 := hX5.below l6 hX5.lt
  have hT6 := hT5.below l6
  have hlo6 := hlo5.trans (l6.mono hlo5.size)
  have hG6 : FV (w5.alloc (Obj.cells #[.int .i64 3, .string ⟨#[69]⟩, .int .i64 0, .slice none 0 0, .int .i64 3, .string ⟨#[97, 46, 98]⟩, .int .i64 0, .slice none 0 0] 24)) (RB (w5.alloc (Obj.cells #[.int .i64 3, .string ⟨#[69]⟩, .int .i64 0, .slice none 0 0, .int .i64 3, .string ⟨#[97, 46, 98]⟩, .int .i64 0, .slice none 0 0] 24))) Fm.aw8G (.agg #[.int .i64 15, .string ⟨#[]⟩, .int .i64 0, .slice (some ⟨w5.heap.size, 0, none⟩) 2 2]) := FV.mk (c := 2) (FL.two y6 y6.rb (atF_fv _ _ _) (atF_fv _ _ _))
  have H6 : Hid (Calls Tryd.prog 21 #[.agg #[.int .i64 15, .string ⟨#[]⟩, .int .i64 0, .slice (some ⟨w5.heap.size, 0, none⟩) 2 2]] (w5.alloc (Obj.cells #[.int .i64 3, .string ⟨#[69]⟩, .int .i64 0, .slice none 0 0, .int .i64 3, .string ⟨#[97, 46, 98]⟩, .int .i64 0, .slice none 0 0] 24)) fun e w' => e = .returned (.tuple #[.string ⟨#[69, 32, 91, 34, 69, 34, 32, 85, 32, 34, 97, 46, 98, 34, 93]⟩, .int .i64 0]) ∧ Below (w5.alloc (Obj.cells #[.int .i64 3, .string ⟨#[69]⟩, .int .i64 0, .slice none 0 0, .int .i64 3, .string ⟨#[97, 46, 98]⟩, .int .i64 0, .slice none 0 0] 24)).heap.size (w5.alloc (Obj.cells #[.int .i64 3, .string ⟨#[69]⟩, .int .i64 0, .slice none 0 0, .int .i64 3, .string ⟨#[97, 46, 98]⟩, .int .i64 0, .slice none 0 0] 24)) w') := print_good Fm.aw8G_ok _ _ hG6.lo hT6
  clear hF5 hX5 hT5 hlo5 l6 y6 hG6
  go_wp2_with fail
  refine H6.out.mono ?_
  rintro e w7 ⟨rfl, hb7⟩
  clear H6
  generalize w5.alloc (Obj.cells #[.int .i64 3, .string ⟨#[69]⟩, .int .i64 0, .slice none 0 0, .int .i64 3, .string ⟨#[97, 46, 98]⟩, .int .i64 0, .slice none 0 0] 24) = W6 at *
  have hF7 := hF6.onR hb7
  have hX7 := hX6.below hb7 hX6.lt
  have hT7 := hT6.below hb7
  have hlo7 := hlo6.trans (hb7.mono hlo6.size)
  have H7 := Lib.hid (print_bad Fm.aw8Z_bad (.agg #[.int .i64 0, .string ⟨#[]⟩, .int .i64 0, .slice none 0 0]) w7 (FV.mk (A := none) (c := 0) (FL.nil _ _ _ _)) hT7)
  clear hF6 hX6 hT6 hb7 hlo6
  go_wp2_with fail
  refine H7.out.mono ?_
  rintro e w8 ⟨rfl, hb8⟩
  have hF8 := hF7.onR hb8
  have hX8 := hX7.below hb8 hX7.lt
  have hT8 := hT7.below hb8
  have hlo8 := hlo7.trans (hb8.mono hlo7.size)
  clear H7 hF7 hX7 hT7 hb8 hlo7
  obtain ⟨ts, hlx, htl⟩ := Fm.aw8_lex
  have HL0 := lex_any [65, 71, 32, 40, 114, 101, 113, 32, 45, 62, 32, 65, 70, 32, 97, 99, 107, 41] w8 (by decide) hT8.sig hT8.lt
  unfold LexP at HL0
  rw [hlx] at HL0
  have HL : Hid (Calls Tryd.prog 22 #[.string ⟨#[65, 71, 32, 40, 114, 101, 113, 32, 45, 62, 32, 65, 70, 32, 97, 99, 107, 41]⟩] w8 fun e w' => ∃ v, e = .returned (.tuple #[v, .int .i64 0, .int .i64 0]) ∧ w'.ownsRow w8.heap.size 53 3 v ts.length (flatT ts) ∧ Below w8.heap.size w8 w') := HL0
  have HTL := Lib.hid htl
  clear HL0 hlx htl
  go_wp2_with fail
  refine HL.out.mono ?_
  rintro e w9 ⟨v, rfl, hrow, hb9⟩
  obtain ⟨A, c, rfl, _⟩ := row_tr hrow
  rw [HTL.out]
  have hF9 := hF8.onR hb9
  have hX9 := hX8.below hb9 hX8.lt
  have hlo9 := hlo8.trans (hb9.mono hlo8.size)
  clear HL hrow hF8 hX8 hT8 hb9 hlo8
  have x0 := hX9.cell 0
  have x1 := hX9.cell 1
  have x2 := hX9.cell 2
  have x3 := hX9.cell 3
  simp only [List.getElem?_toArray, List.getElem?_cons_zero, List.getElem?_cons_succ] at x0 x1 x2 x3
  have H8 : Hid (Calls Tryd.prog 23 #[.agg #[.int .i64 14, .string ⟨#[]⟩, .int .i64 0, .slice (some ⟨w2.heap.size + 1 + 1, 0, none⟩) 1 1]] w9 fun e w' => e = .returned (.int .i64 5) ∧ Below w9.heap.size w9 w') := size_good Fm.aw8F_ok _ w9 hF9
  go_wp2_with fail
  refine H8.out.mono ?_
  rintro e w10 ⟨rfl, hb10⟩
  have hF10 := hF9.onR hb10
  have hX10 := hX9.below hb10 hX9.lt
  have hlo10 := hlo9.trans (hb10.mono hlo9.size)
  clear H8 hF9 hX9 hb10 hlo9 x0 x1 x2 x3
  have x0 := hX10.cell 0
  have x1 := hX10.cell 1
  have x2 := hX10.cell 2
  have x3 := hX10.cell 3
  simp only [List.getElem?_toArray, List.getElem?_cons_zero, List.getElem?_cons_succ] at x0 x1 x2 x3
  have H90 := same_r (by decide : Fm.aw8F.cnt ≤ 50000) hF10 hF10
  rw [Fm.eqB_self] at H90
  have H9 := Lib.hid H90
  clear H90
  go_wp2_with fail
  refine H9.out.mono ?_
  rintro e w11 ⟨rfl, hb11⟩
  have hlo11 := hlo10.trans (hb11.mono hlo10.size)
  clear H9 hF10 hX10 hb11 hlo10 x0 x1 x2 x3
  go_wp2
  go_ret
  exact ⟨rfl, hlo11⟩
end Go.Proofs.YtlddnejjpekgeaaDoor
