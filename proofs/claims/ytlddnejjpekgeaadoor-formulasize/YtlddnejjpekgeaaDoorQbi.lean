/- Formulas: FormulaSize. -/
import Derived.Test.YtlddnejjpekgeaaDoorQbh
set_option linter.unusedSimpArgs false
set_option linter.unusedVariables false
namespace Go.Proofs.YtlddnejjpekgeaaDoor
open Go.RowKit

theorem made_small (zs : List Int) : (madeF zs).okB = true ∧ (madeF zs).dep ≤ 7 ∧ (madeF zs).cnt + 1 ≤ 128 := Fm.make_ok _ 6 0
namespace Fm
theorem valid_two {k : Int} {f g : F} (hk : (5 ≤ k ∧ k ≤ 8) ∨ (15 ≤ k ∧ k ≤ 18)) (hf : f.okB = true ∧ f.dep ≤ 59 ∧ f.cnt ≤ 900) (hg : g.okB = true ∧ g.dep ≤ 59 ∧ g.cnt ≤ 900) : validB (.mk k [] 0 [f, g]) = true ∧ (F.mk k [] 0 [f, g]).cnt = 1 + f.cnt + g.cnt := by
  have hn : kidsN k = some 2 := by
    unfold kidsN
    rw [if_neg (by omega), if_neg (by omega), if_pos hk]
  have hc : (F.mk k [] 0 [f, g]).cnt = 1 + f.cnt + g.cnt := by simp only [F.cnt, cntL]; omega
  have hd : (F.mk k [] 0 [f, g]).dep ≤ 60 := by simp only [F.dep, depL]; omega
  have ho : (F.mk k [] 0 [f, g]).okB = true := by
    rw [F.okB]
    unfold nodeB
    rw [if_neg (by omega)]
    simp [hn, okL, hf.1, hg.1]
  refine ⟨?_, hc⟩
  unfold validB
  rw [ho, decide_eq_true hd, decide_eq_true (by omega)]
  rfl
theorem valid_one {k : Int} {f : F} (hk : k = 4 ∨ (9 ≤ k ∧ k ≤ 14)) (hf : f.okB = true ∧ f.dep ≤ 59 ∧ f.cnt ≤ 1900) : validB (.mk k [] 0 [f]) = true ∧ (F.mk k [] 0 [f]).cnt = 1 + f.cnt := by
  have hn : kidsN k = some 1 := by
    unfold kidsN
    rw [if_neg (by omega), if_pos hk]
  have hc : (F.mk k [] 0 [f]).cnt = 1 + f.cnt := by simp only [F.cnt, cntL]; omega
  have hd : (F.mk k [] 0 [f]).dep ≤ 60 := by simp only [F.dep, depL]; omega
  have ho : (F.mk k [] 0 [f]).okB = true := by
    rw [F.okB]
    unfold nodeB
    rw [if_neg (by omega)]
    simp [hn, okL, hf.1]
  refine ⟨?_, hc⟩
  unfold validB
  rw [ho, decide_eq_true hd, decide_eq_true (by omega)]
  rfl
theorem eqB_symm (f g : F) : g.eqB f = f.eqB g := by
  rw [Bool.eq_iff_iff, eqB_iff, eqB_iff]
  exact eq_comm
end Fm
theorem sizeS_mem {k1 : Int} {s1 : ByteArray} {l1 : Int} {A1 : Option Addr} {n1 c1 : Nat} {k2 : Int} {s2 : ByteArray} {l2 : Int} {A2 : Option Addr} {n2 c2 : Nat} (W4 : World) (a : Int) (f g : Fm.F) (hF : FV W4 (RB W4) f (.agg #[.int .i64 k1, .string s1, .int .i64 l1, .slice A1 n1 c1])) (hG : FV W4 (RB W4) g (.agg #[.int .i64 k2, .string s2, .int .i64 l2, .slice A2 n2 c2])) :
    FV ((((W4.alloc (Obj.cells #[.int .i64 k1, .string s1, .int .i64 l1, .slice A1 n1 c1, .int .i64 k2, .string s2, .int .i64 l2, .slice A2 n2 c2] 24)).alloc (Obj.cells #[.int .i64 (5 + a % 4), .string ⟨#[]⟩, .int .i64 0, .slice (some ⟨W4.heap.size, 0, none⟩) 2 2] 24)).alloc (Obj.cells #[.int .i64 k1, .string s1, .int .i64 l1, .slice A1 n1 c1] 24)).alloc (Obj.cells #[.int .i64 (9 + a % 6), .string ⟨#[]⟩, .int .i64 0, .slice (some ⟨W4.heap.size + 1 + 1, 0, none⟩) 1 1] 24)) (RB ((((W4.alloc (Obj.cells #[.int .i64 k1, .string s1, .int .i64 l1, .slice A1 n1 c1, .int .i64 k2, .string s2, .int .i64 l2, .slice A2 n2 c2] 24)).alloc (Obj.cells #[.int .i64 (5 + a % 4), .string ⟨#[]⟩, .int .i64 0, .slice (some ⟨W4.heap.size, 0, none⟩) 2 2] 24)).alloc (Obj.cells #[.int .i64 k1, .string s1, .int .i64 l1, .slice A1 n1 c1] 24)).alloc (Obj.cells #[.int .i64 (9 + a % 6), .string ⟨#[]⟩, .int .i64 0, .slice (some ⟨W4.heap.size + 1 + 1, 0, none⟩) 1 1] 24))) f (.agg #[.int .i64 k1, .string s1, .int .i64 l1, .slice A1 n1 c1]) ∧ FV ((((W4.alloc (Obj.cells #[.int .i64 k1, .string s1, .int .i64 l1, .slice A1 n1 c1, .int .i64 k2, .string s2, .int .i64 l2, .slice A2 n2 c2] 24)).alloc (Obj.cells #[.int .i64 (5 + a % 4), .string ⟨#[]⟩, .int .i64 0, .slice (some ⟨W4.heap.size, 0, none⟩) 2 2] 24)).alloc (Obj.cells #[.int .i64 k1, .string s1, .int .i64 l1, .slice A1 n1 c1] 24)).alloc (Obj.cells #[.int .i64 (9 + a % 6), .string ⟨#[]⟩, .int .i64 0, .slice (some ⟨W4.heap.size + 1 + 1, 0, none⟩) 1 1] 24)) (RB ((((W4.alloc (Obj.cells #[.int .i64 k1, .string s1, .int .i64 l1, .slice A1 n1 c1, .int .i64 k2, .string s2, .int .i64 l2, .slice A2 n2 c2] 24)).alloc (Obj.cells #[.int .i64 (5 + a % 4), .string ⟨#[]⟩, .int .i64 0, .slice (some ⟨W4.heap.size, 0, none⟩) 2 2] 24)).alloc (Obj.cells #[.int .i64 k1, .string s1, .int .i64 l1, .slice A1 n1 c1] 24)).alloc (Obj.cells #[.int .i64 (9 + a % 6), .string ⟨#[]⟩, .int .i64 0, .slice (some ⟨W4.heap.size + 1 + 1, 0, none⟩) 1 1] 24))) g (.agg #[.int .i64 k2, .string s2, .int .i64 l2, .slice A2 n2 c2]) ∧ FV ((((W4.alloc (Obj.cells #[.int .i64 k1, .string s1, .int .i64 l1, .slice A1 n1 c1, .int .i64 k2, .string s2, .int .i64 l2, .slice A2 n2 c2] 24)).alloc (Obj.cells #[.int .i64 (5 + a % 4), .string ⟨#[]⟩, .int .i64 0, .slice (some ⟨W4.heap.size, 0, none⟩) 2 2] 24)).alloc (Obj.cells #[.int .i64 k1, .string s1, .int .i64 l1, .slice A1 n1 c1] 24)).alloc (Obj.cells #[.int .i64 (9 + a % 6), .string ⟨#[]⟩, .int .i64 0, .slice (some ⟨W4.heap.size + 1 + 1, 0, none⟩) 1 1] 24)) (RB ((((W4.alloc (Obj.cells #[.int .i64 k1, .string s1, .int .i64 l1, .slice A1 n1 c1, .int .i64 k2, .string s2, .int .i64 l2, .slice A2 n2 c2] 24)).alloc (Obj.cells #[.int .i64 (5 + a % 4), .string ⟨#[]⟩, .int .i64 0, .slice (some ⟨W4.heap.size, 0, none⟩) 2 2] 24)).alloc (Obj.cells #[.int .i64 k1, .string s1, .int .i64 l1, .slice A1 n1 c1] 24)).alloc (Obj.cells #[.int .i64 (9 + a % 6), .string ⟨#[]⟩, .int .i64 0, .slice (some ⟨W4.heap.size + 1 + 1, 0, none⟩) 1 1] 24))) (.mk (5 + a % 4) [] 0 [f, g]) (.agg #[.int .i64 (5 + a % 4), .string ⟨#[]⟩, .int .i64 0, .slice (some ⟨W4.heap.size, 0, none⟩) 2 2]) ∧ FV ((((W4.alloc (Obj.cells #[.int .i64 k1, .string s1, .int .i64 l1, .slice A1 n1 c1, .int .i64 k2, .string s2, .int .i64 l2, .slice A2 n2 c2] 24)).alloc (Obj.cells #[.int .i64 (5 + a % 4), .string ⟨#[]⟩, .int .i64 0, .slice (some ⟨W4.heap.size, 0, none⟩) 2 2] 24)).alloc (Obj.cells #[.int .i64 k1, .string s1, .int .i64 l1, .slice A1 n1 c1] 24)).alloc (Obj.cells #[.int .i64 (9 + a % 6), .string ⟨#[]⟩, .int .i64 0, .slice (some ⟨W4.heap.size + 1 + 1, 0, none⟩) 1 1] 24)) (RB ((((W4.alloc (Obj.cells #[.int .i64 k1, .string s1, .int .i64 l1, .slice A1 n1 c1, .int .i64 k2, .string s2, .int .i64 l2, .slice A2 n2 c2] 24)).alloc (Obj.cells #[.int .i64 (5 + a % 4), .string ⟨#[]⟩, .int .i64 0, .slice (some ⟨W4.heap.size, 0, none⟩) 2 2] 24)).alloc (Obj.cells #[.int .i64 k1, .string s1, .int .i64 l1, .slice A1 n1 c1] 24)).alloc (Obj.cells #[.int .i64 (9 + a % 6), .string ⟨#[]⟩, .int .i64 0, .slice (some ⟨W4.heap.size + 1 + 1, 0, none⟩) 1 1] 24))) (.mk (9 + a % 6) [] 0 [f]) (.agg #[.int .i64 (9 + a % 6), .string ⟨#[]⟩, .int .i64 0, .slice (some ⟨W4.heap.size + 1 + 1, 0, none⟩) 1 1]) ∧
    Blk ((((W4.alloc (Obj.cells #[.int .i64 k1, .string s1, .int .i64 l1, .slice A1 n1 c1, .int .i64 k2, .string s2, .int .i64 l2, .slice A2 n2 c2] 24)).alloc (Obj.cells #[.int .i64 (5 + a % 4), .string ⟨#[]⟩, .int .i64 0, .slice (some ⟨W4.heap.size, 0, none⟩) 2 2] 24)).alloc (Obj.cells #[.int .i64 k1, .string s1, .int .i64 l1, .slice A1 n1 c1] 24)).alloc (Obj.cells #[.int .i64 (9 + a % 6), .string ⟨#[]⟩, .int .i64 0, .slice (some ⟨W4.heap.size + 1 + 1, 0, none⟩) 1 1] 24)) (W4.heap.size + 1) 24 #[.int .i64 (5 + a % 4), .string ⟨#[]⟩, .int .i64 0, .slice (some ⟨W4.heap.size, 0, none⟩) 2 2] ∧ Blk ((((W4.alloc (Obj.cells #[.int .i64 k1, .string s1, .int .i64 l1, .slice A1 n1 c1, .int .i64 k2, .string s2, .int .i64 l2, .slice A2 n2 c2] 24)).alloc (Obj.cells #[.int .i64 (5 + a % 4), .string ⟨#[]⟩, .int .i64 0, .slice (some ⟨W4.heap.size, 0, none⟩) 2 2] 24)).alloc (Obj.cells #[.int .i64 k1, .string s1, .int .i64 l1, .slice A1 n1 c1] 24)).alloc (Obj.cells #[.int .i64 (9 + a % 6), .string ⟨#[]⟩, .int .i64 0, .slice (some ⟨W4.heap.size + 1 + 1, 0, none⟩) 1 1] 24)) (W4.heap.size + 1 + 1 + 1) 24 #[.int .i64 (9 + a % 6), .string ⟨#[]⟩, .int .i64 0, .slice (some ⟨W4.heap.size + 1 + 1, 0, none⟩) 1 1] ∧ Below W4.heap.size W4 ((((W4.alloc (Obj.cells #[.int .i64 k1, .string s1, .int .i64 l1, .slice A1 n1 c1, .int .i64 k2, .string s2, .int .i64 l2, .slice A2 n2 c2] 24)).alloc (Obj.cells #[.int .i64 (5 + a % 4), .string ⟨#[]⟩, .int .i64 0, .slice (some ⟨W4.heap.size, 0, none⟩) 2 2] 24)).alloc (Obj.cells #[.int .i64 k1, .string s1, .int .i64 l1, .slice A1 n1 c1] 24)).alloc (Obj.cells #[.int .i64 (9 + a % 6), .string ⟨#[]⟩, .int .i64 0, .slice (some ⟨W4.heap.size + 1 + 1, 0, none⟩) 1 1] 24)) := by
  have s1' : (W4.alloc (Obj.cells #[.int .i64 k1, .string s1, .int .i64 l1, .slice A1 n1 c1, .int .i64 k2, .string s2, .int .i64 l2, .slice A2 n2 c2] 24)).heap.size = W4.heap.size + 1 := by simp
  have b0 := Blk.new W4 24 #[.int .i64 k1, .string s1, .int .i64 l1, .slice A1 n1 c1, .int .i64 k2, .string s2, .int .i64 l2, .slice A2 n2 c2]
  have l0' := lowAlloc W4 (Obj.cells #[.int .i64 k1, .string s1, .int .i64 l1, .slice A1 n1 c1, .int .i64 k2, .string s2, .int .i64 l2, .slice A2 n2 c2] 24)
  have s2' : ((W4.alloc (Obj.cells #[.int .i64 k1, .string s1, .int .i64 l1, .slice A1 n1 c1, .int .i64 k2, .string s2, .int .i64 l2, .slice A2 n2 c2] 24)).alloc (Obj.cells #[.int .i64 (5 + a % 4), .string ⟨#[]⟩, .int .i64 0, .slice (some ⟨W4.heap.size, 0, none⟩) 2 2] 24)).heap.size = W4.heap.size + 1 + 1 := by simp
  have b1 := Blk.new (W4.alloc (Obj.cells #[.int .i64 k1, .string s1, .int .i64 l1, .slice A1 n1 c1, .int .i64 k2, .string s2, .int .i64 l2, .slice A2 n2 c2] 24)) 24 #[.int .i64 (5 + a % 4), .string ⟨#[]⟩, .int .i64 0, .slice (some ⟨W4.heap.size, 0, none⟩) 2 2]
  have l1' := lowAlloc (W4.alloc (Obj.cells #[.int .i64 k1, .string s1, .int .i64 l1, .slice A1 n1 c1, .int .i64 k2, .string s2, .int .i64 l2, .slice A2 n2 c2] 24)) (Obj.cells #[.int .i64 (5 + a % 4), .string ⟨#[]⟩, .int .i64 0, .slice (some ⟨W4.heap.size, 0, none⟩) 2 2] 24)
  rw [s1'] at b1
  have s3' : (((W4.alloc (Obj.cells #[.int .i64 k1, .string s1, .int .i64 l1, .slice A1 n1 c1, .int .i64 k2, .string s2, .int .i64 l2, .slice A2 n2 c2] 24)).alloc (Obj.cells #[.int .i64 (5 + a % 4), .string ⟨#[]⟩, .int .i64 0, .slice (some ⟨W4.heap.size, 0, none⟩) 2 2] 24)).alloc (Obj.cells #[.int .i64 k1, .string s1, .int .i64 l1, .slice A1 n1 c1] 24)).heap.size = W4.heap.size + 1 + 1 + 1 := by simp
  have b2 := Blk.new ((W4.alloc (Obj.cells #[.int .i64 k1, .string s1, .int .i64 l1, .slice A1 n1 c1, .int .i64 k2, .string s2, .int .i64 l2, .slice A2 n2 c2] 24)).alloc (Obj.cells #[.int .i64 (5 + a % 4), .string ⟨#[]⟩, .int .i64 0, .slice (some ⟨W4.heap.size, 0, none⟩) 2 2] 24)) 24 #[.int .i64 k1, .string s1, .int .i64 l1, .slice A1 n1 c1]
  have l2' := lowAlloc ((W4.alloc (Obj.cells #[.int .i64 k1, .string s1, .int .i64 l1, .slice A1 n1 c1, .int .i64 k2, .string s2, .int .i64 l2, .slice A2 n2 c2] 24)).alloc (Obj.cells #[.int .i64 (5 + a % 4), .string ⟨#[]⟩, .int .i64 0, .slice (some ⟨W4.heap.size, 0, none⟩) 2 2] 24)) (Obj.cells #[.int .i64 k1, .string s1, .int .i64 l1, .slice A1 n1 c1] 24)
  rw [s2'] at b2
  have s4' : ((((W4.alloc (Obj.cells #[.int .i64 k1, .string s1, .int .i64 l1, .slice A1 n1 c1, .int .i64 k2, .string s2, .int .i64 l2, .slice A2 n2 c2] 24)).alloc (Obj.cells #[.int .i64 (5 + a % 4), .string ⟨#[]⟩, .int .i64 0, .slice (some ⟨W4.heap.size, 0, none⟩) 2 2] 24)).alloc (Obj.cells #[.int .i64 k1, .string s1, .int .i64 l1, .slice A1 n1 c1] 24)).alloc (Obj.cells #[.int .i64 (9 + a % 6), .string ⟨#[]⟩, .int .i64 0, .slice (some ⟨W4.heap.size + 1 + 1, 0, none⟩) 1 1] 24)).heap.size = W4.heap.size + 1 + 1 + 1 + 1 := by simp
  have b3 := Blk.new (((W4.alloc (Obj.cells #[.int .i64 k1, .string s1, .int .i64 l1, .slice A1 n1 c1, .int .i64 k2, .string s2, .int .i64 l2, .slice A2 n2 c2] 24)).alloc (Obj.cells #[.int .i64 (5 + a % 4), .string ⟨#[]⟩, .int .i64 0, .slice (some ⟨W4.heap.size, 0, none⟩) 2 2] 24)).alloc (Obj.cells #[.int .i64 k1, .string s1, .int .i64 l1, .slice A1 n1 c1] 24)) 24 #[.int .i64 (9 + a % 6), .string ⟨#[]⟩, .int .i64 0, .slice (some ⟨W4.heap.size + 1 + 1, 0, none⟩) 1 1]
  have l3' := lowAlloc (((W4.alloc (Obj.cells #[.int .i64 k1, .string s1, .int .i64 l1, .slice A1 n1 c1, .int .i64 k2, .string s2, .int .i64 l2, .slice A2 n2 c2] 24)).alloc (Obj.cells #[.int .i64 (5 + a % 4), .string ⟨#[]⟩, .int .i64 0, .slice (some ⟨W4.heap.size, 0, none⟩) 2 2] 24)).alloc (Obj.cells #[.int .i64 k1, .string s1, .int .i64 l1, .slice A1 n1 c1] 24)) (Obj.cells #[.int .i64 (9 + a % 6), .string ⟨#[]⟩, .int .i64 0, .slice (some ⟨W4.heap.size + 1 + 1, 0, none⟩) 1 1] 24)
  rw [s3'] at b3
  have c0' := (((b0.below l1' b0.lt).below l2' (b0.below l1' b0.lt).lt).below l3' ((b0.below l1' b0.lt).below l2' (b0.below l1' b0.lt).lt).lt)
  have c1' := ((b1.below l2' b1.lt).below l3' (b1.below l2' b1.lt).lt)
  have c2' := (b2.below l3' b2.lt)
  have c3' := b3
  have m0 := l0'
  have m1 := m0.trans (l1'.mono m0.size)
  have m2 := m1.trans (l2'.mono m1.size)
  have m3 := m2.trans (l3'.mono m2.size)
  have f9 := hF.onR m3
  have g9 := hG.onR m3
  exact ⟨f9, g9, FV.mk (c := 2) (FL.two c0' c0'.rb f9 g9), FV.mk (c := 1) (FL.one c2' c2'.rb f9), c1', c3', m3⟩
set_option maxRecDepth 10000 in
set_option maxHeartbeats 16000000 in
theorem formulaSize_walk (A : Option Addr) (c : Nat) (zs : List Int) (A' : Option Addr) (c' : Nat) (zs' : List Int) (a : Int) (w : World) (hml : zs.length ≤ maxLen) (hU : Ub w w.heap.size A zs) (hml' : zs'.length ≤ maxLen) (hU' : Ub w w.heap.size A' zs') (ha0 : 0 ≤ a) (ha1 : a ≤ 255) (hT : Tabs w) :
    Calls Tryd.prog 7 #[.slice A zs.length c, .slice A' zs'.length c', .int .u8 a] w fun e w' => e = .returned (.bool true) ∧ Below w.heap.size w w' := by
  have hsf := made_small zs
  have hsg := made_small zs'
  have H0 := Lib.hid (awake8_any w hT)
  go_enter Tryd.func7, Tryd.ntmps7
  go_wp2_with fail
  refine H0.out.mono ?_
  rintro e w1 ⟨rfl, hb1⟩
  have hU1 := (hU.below hb1 (Nat.le_refl _)).more hb1.size
  have hU1' := (hU'.below hb1 (Nat.le_refl _)).more hb1.size
  have hT1 := hT.below hb1
  have H1 := Lib.hid (made_reg A c zs w1 hml hU1)
  clear H0 hU hU' hU1 hT
  go_wp2_with fail
  refine H1.out.mono ?_
  rintro e w2 ⟨v, rfl, hF0, hb2⟩
  obtain ⟨k1, s1, l1, A1, n1, c1, rfl⟩ := hF0.four
  have hF2 : FV w2 (RB w2) (madeF zs) (.agg #[.int .i64 k1, .string s1, .int .i64 l1, .slice A1 n1 c1]) := hF0.more (fun b hb => ⟨hb.1.2, hb.2⟩)
  have hU2' := (hU1'.below hb2 (Nat.le_refl _)).more hb2.size
  have hT2 := hT1.below hb2
  have hlo2 := hb1.trans (hb2.mono hb1.size)
  have H2 := Lib.hid (made_reg A' c' zs' w2 hml' hU2')
  clear H1 hF0 hU1' hT1 hb1 hb2 hU2'
  go_wp2_with fail
  refine H2.out.mono ?_
  rintro e w3 ⟨v, rfl, hG0, hb3⟩
  obtain ⟨k2, s2, l2, A2, n2, c2, rfl⟩ := hG0.four
  have hG3 : FV w3 (RB w3) (madeF zs') (.agg #[.int .i64 k2, .string s2, .int .i64 l2, .slice A2 n2 c2]) := hG0.more (fun b hb => ⟨hb.1.2, hb.2⟩)
  have hF3 := hF2.onR hb3
  have hT3 := hT2.below hb3
  have hlo3 := hlo2.trans (hb3.mono hlo2.size)
  clear H2 hG0 hF2 hT2 hb3 hlo2
  have lx := lowAlloc w3 (Obj.cells #[.int .i64 k1, .string s1, .int .i64 l1, .slice A1 n1 c1] 24)
  have ly := lowAlloc (w3.alloc (Obj.cells #[.int .i64 k1, .string s1, .int .i64 l1, .slice A1 n1 c1] 24)) (Obj.cells #[.int .i64 k2, .string s2, .int .i64 l2, .slice A2 n2 c2] 24)
  have sx : (w3.alloc (Obj.cells #[.int .i64 k1, .string s1, .int .i64 l1, .slice A1 n1 c1] 24)).heap.size = w3.heap.size + 1 := by simp
  have bx0 := Blk.new w3 24 #[.int .i64 k1, .string s1, .int .i64 l1, .slice A1 n1 c1]
  have by0 := Blk.new (w3.alloc (Obj.cells #[.int .i64 k1, .string s1, .int .i64 l1, .slice A1 n1 c1] 24)) 24 #[.int .i64 k2, .string s2, .int .i64 l2, .slice A2 n2 c2]
  rw [sx] at by0
  have bx := bx0.below ly bx0.lt
  have hF4 := (hF3.onR lx).onR ly
  have hG4 := (hG3.onR lx).onR ly
  have hT4 := (hT3.below lx).below ly
  have hlo4 := (hlo3.trans (lx.mono hlo3.size)).trans (ly.mono (hlo3.trans (lx.mono hlo3.size)).size)
  clear hF3 hG3 hT3 hlo3 lx ly sx bx0
  go_upto_region 5 with fail
  generalize (w3.alloc (Obj.cells #[.int .i64 k1, .string s1, .int .i64 l1, .slice A1 n1 c1] 24)).alloc (Obj.cells #[.int .i64 k2, .string s2, .int .i64 l2, .slice A2 n2 c2] 24) = W4 at *
  have by1 := by0
  clear by0
  have ht4 : a.tmod 4 = a % 4 := Int.tmod_eq_emod_of_nonneg ha0
  have ht6 : a.tmod 6 = a % 6 := Int.tmod_eq_emod_of_nonneg ha0
  have h45 : 0 ≤ a % 4 ∧ a % 4 ≤ 3 := by omega
  have h65 : 0 ≤ a % 6 ∧ a % 6 ≤ 5 := by omega
  obtain ⟨hvh, hch⟩ := Fm.valid_two (k := 5 + a % 4) (f := madeF zs) (g := madeF zs') (by omega) ⟨hsf.1, by omega, by omega⟩ ⟨hsg.1, by omega, by omega⟩
  obtain ⟨hvi, hci⟩ := Fm.valid_one (k := 9 + a % 6) (f := madeF zs) (by omega) ⟨hsf.1, by omega, by omega⟩
  obtain ⟨hF8, hG8, hH8, hI8, bh, bi, hlw⟩ := sizeS_mem W4 a _ _ hF4 hG4
  have x0 := bx.cell 0
  have x1 := bx.cell 1
  have x2 := bx.cell 2
  have x3 := bx.cell 3
  simp only [List.getElem?_toArray, List.getElem?_cons_zero, List.getElem?_cons_succ] at x0 x1 x2 x3
  have y0 := by1.cell 0
  have y1 := by1.cell 1
  have y2 := by1.cell 2
  have y3 := by1.cell 3
  simp only [List.getElem?_toArray, List.getElem?_cons_zero, List.getElem?_cons_succ] at y0 y1 y2 y3
  go_upto_region 6 with fail
  go_upto_region 7 with fail
  have bx1 := bx.below (lowAlloc W4 (Obj.cells #[.int .i64 k1, .string s1, .int .i64 l1, .slice A1 n1 c1, .int .i64 k2, .string s2, .int .i64 l2, .slice A2 n2 c2] 24)) bx.lt
  have bx2 := bx1.below (lowAlloc (W4.alloc (Obj.cells #[.int .i64 k1, .string s1, .int .i64 l1, .slice A1 n1 c1, .int .i64 k2, .string s2, .int .i64 l2, .slice A2 n2 c2] 24)) (Obj.cells #[.int .i64 (5 + a % 4), .string ⟨#[]⟩, .int .i64 0, .slice (some ⟨W4.heap.size, 0, none⟩) 2 2] 24)) bx1.lt
  clear x0 x1 x2 x3 y0 y1 y2 y3
  have x0 := bx2.cell 0
  have x1 := bx2.cell 1
  have x2 := bx2.cell 2
  have x3 := bx2.cell 3
  simp only [List.getElem?_toArray, List.getElem?_cons_zero, List.getElem?_cons_succ] at x0 x1 x2 x3
  go_upto_region 8 with fail
  clear x0 x1 x2 x3
  have bx3 := bx.below hlw bx.lt
  have by3 := by1.below hlw by1.lt
  have hlo8 := hlo4.trans (hlw.mono hlo4.size)
  clear bx1 bx2 bx by1 hF4 hG4 hT4 hlw hlo4
  generalize ((((W4.alloc (Obj.cells #[.int .i64 k1, .string s1, .int .i64 l1, .slice A1 n1 c1, .int .i64 k2, .string s2, .int .i64 l2, .slice A2 n2 c2] 24)).alloc (Obj.cells #[.int .i64 (5 + a % 4), .string ⟨#[]⟩, .int .i64 0, .slice (some ⟨W4.heap.size, 0, none⟩) 2 2] 24)).alloc (Obj.cells #[.int .i64 k1, .string s1, .int .i64 l1, .slice A1 n1 c1] 24)).alloc (Obj.cells #[.int .i64 (9 + a % 6), .string ⟨#[]⟩, .int .i64 0, .slice (some ⟨W4.heap.size + 1 + 1, 0, none⟩) 1 1] 24)) = W8 at *
  generalize W4.heap.size + 1 + 1 + 1 = b3 at *
  generalize W4.heap.size + 1 + 1 = b2 at *
  generalize W4.heap.size + 1 = b1 at *
  generalize W4.heap.size = b0 at *
  have HZh : Hid (∀ U, Below W8.heap.size W8 U → Calls Tryd.prog 23 #[.agg #[.int .i64 (5 + a % 4), .string ⟨#[]⟩, .int .i64 0, .slice (some ⟨b0, 0, none⟩) 2 2]] U fun e w' => e = .returned (.int .i64 (1 + ((madeF zs).cnt : Int) + ((madeF zs').cnt : Int))) ∧ Below U.heap.size U w') := fun U hU => by
    have := size_good hvh _ U (hH8.onR hU)
    rw [hch] at this
    have e : (((1 + (madeF zs).cnt + (madeF zs').cnt : Nat)) : Int) = 1 + ((madeF zs).cnt : Int) + ((madeF zs').cnt : Int) := by omega
    rw [e] at this
    exact this
  have HZi : Hid (∀ U, Below W8.heap.size W8 U → Calls Tryd.prog 23 #[.agg #[.int .i64 (9 + a % 6), .string ⟨#[]⟩, .int .i64 0, .slice (some ⟨b2, 0, none⟩) 1 1]] U fun e w' => e = .returned (.int .i64 (1 + ((madeF zs).cnt : Int))) ∧ Below U.heap.size U w') := fun U hU => by
    have := size_good hvi _ U (hI8.onR hU)
    rw [hci] at this
    have e : (((1 + (madeF zs).cnt : Nat)) : Int) = 1 + ((madeF zs).cnt : Int) := by omega
    rw [e] at this
    exact this
  have HZf := Lib.hid (fun (U : World) (hU : Below W8.heap.size W8 U) => size_good (made_valid zs).1 (.agg #[.int .i64 k1, .string s1, .int .i64 l1, .slice A1 n1 c1]) U (hF8.onR hU))
  have HZg := Lib.hid (fun (U : World) (hU : Below W8.heap.size W8 U) => size_good (made_valid zs').1 (.agg #[.int .i64 k2, .string s2, .int .i64 l2, .slice A2 n2 c2]) U (hG8.onR hU))
  have HSfg := Lib.hid (fun (U : World) (hU : Below W8.heap.size W8 U) => same_r (valid_cnt2 (made_valid zs).1) (hF8.onR hU) (hG8.onR hU))
  have HSgf : Hid (∀ U, Below W8.heap.size W8 U → Calls Tryd.prog 17 #[.agg #[.int .i64 k2, .string s2, .int .i64 l2, .slice A2 n2 c2], .agg #[.int .i64 k1, .string s1, .int .i64 l1, .slice A1 n1 c1]] U fun e w' => e = .returned (.bool ((madeF zs).eqB (madeF zs'))) ∧ Below U.heap.size U w') := fun U hU => by
    have := same_r (valid_cnt2 (made_valid zs').1) (hG8.onR hU) (hF8.onR hU)
    rw [Fm.eqB_symm] at this
    exact this
  have HSfi : Hid (∀ U, Below W8.heap.size W8 U → Calls Tryd.prog 17 #[.agg #[.int .i64 k1, .string s1, .int .i64 l1, .slice A1 n1 c1], .agg #[.int .i64 (9 + a % 6), .string ⟨#[]⟩, .int .i64 0, .slice (some ⟨b2, 0, none⟩) 1 1]] U fun e w' => e = .returned (.bool false) ∧ Below U.heap.size U w') := fun U hU => by
    have := same_r (valid_cnt2 (made_valid zs).1) (hF8.onR hU) (hI8.onR hU)
    rw [eqb_false (fun e => by have := congrArg Fm.F.cnt e; omega)] at this
    exact this
  have HK : Hid (∀ U, Below W8.heap.size W8 U → ((U.cell? ⟨w3.heap.size, 0, none⟩ = some (.int .i64 k1) ∧ U.cell? ⟨w3.heap.size, 1, none⟩ = some (.string s1) ∧ U.cell? ⟨w3.heap.size, 2, none⟩ = some (.int .i64 l1) ∧ U.cell? ⟨w3.heap.size, 3, none⟩ = some (.slice A1 n1 c1)) ∧ (U.cell? ⟨w3.heap.size + 1, 0, none⟩ = some (.int .i64 k2) ∧ U.cell? ⟨w3.heap.size + 1, 1, none⟩ = some (.string s2) ∧ U.cell? ⟨w3.heap.size + 1, 2, none⟩ = some (.int .i64 l2) ∧ U.cell? ⟨w3.heap.size + 1, 3, none⟩ = some (.slice A2 n2 c2)) ∧ (U.cell? ⟨b1, 0, none⟩ = some (.int .i64 (5 + a % 4)) ∧ U.cell? ⟨b1, 1, none⟩ = some (.string ⟨#[]⟩) ∧ U.cell? ⟨b1, 2, none⟩ = some (.int .i64 0) ∧ U.cell? ⟨b1, 3, none⟩ = some (.slice (some ⟨b0, 0, none⟩) 2 2)) ∧ (U.cell? ⟨b3, 0, none⟩ = some (.int .i64 (9 + a % 6)) ∧ U.cell? ⟨b3, 1, none⟩ = some (.string ⟨#[]⟩) ∧ U.cell? ⟨b3, 2, none⟩ = some (.int .i64 0) ∧ U.cell? ⟨b3, 3, none⟩ = some (.slice (some ⟨b2, 0, none⟩) 1 1)))) := fun U hU => by
    have e1 := bx3.below hU bx3.lt
    have e2 := by3.below hU by3.lt
    have e3 := bh.below hU bh.lt
    have e4 := bi.below hU bi.lt
    exact ⟨⟨e1.cell 0, e1.cell 1, e1.cell 2, e1.cell 3⟩, ⟨e2.cell 0, e2.cell 1, e2.cell 2, e2.cell 3⟩, ⟨e3.cell 0, e3.cell 1, e3.cell 2, e3.cell 3⟩, e4.cell 0, e4.cell 1, e4.cell 2, e4.cell 3⟩
  have hnf : (madeF zs).cnt ≤ 127 := by omega
  have hng : (madeF zs').cnt ≤ 127 := by omega
  generalize (madeF zs).eqB (madeF zs') = b at *
  generalize (madeF zs).cnt = nf at *
  generalize (madeF zs').cnt = ng at *
  clear hF8 hG8 hH8 hI8 bx3 by3 bh bi hvh hvi hch hci hsf hsg
  have hwa : IntKind.i64.wrap (1 + (nf : Int)) = 1 + (nf : Int) := by rw [IntKind.wrap_i64]; omega
  have hwb : IntKind.i64.wrap (1 + (nf : Int) + (ng : Int)) = 1 + (nf : Int) + (ng : Int) := by rw [IntKind.wrap_i64]; omega
  have lx := Below.refl W8.heap.size W8
  go_region_held3 (fun U => (U.cell? ⟨w3.heap.size, 0, none⟩ = some (.int .i64 k1) ∧ U.cell? ⟨w3.heap.size, 1, none⟩ = some (.string s1) ∧ U.cell? ⟨w3.heap.size, 2, none⟩ = some (.int .i64 l1) ∧ U.cell? ⟨w3.heap.size, 3, none⟩ = some (.slice A1 n1 c1)) ∧ (U.cell? ⟨w3.heap.size + 1, 0, none⟩ = some (.int .i64 k2) ∧ U.cell? ⟨w3.heap.size + 1, 1, none⟩ = some (.string s2) ∧ U.cell? ⟨w3.heap.size + 1, 2, none⟩ = some (.int .i64 l2) ∧ U.cell? ⟨w3.heap.size + 1, 3, none⟩ = some (.slice A2 n2 c2)) ∧ (U.cell? ⟨b1, 0, none⟩ = some (.int .i64 (5 + a % 4)) ∧ U.cell? ⟨b1, 1, none⟩ = some (.string ⟨#[]⟩) ∧ U.cell? ⟨b1, 2, none⟩ = some (.int .i64 0) ∧ U.cell? ⟨b1, 3, none⟩ = some (.slice (some ⟨b0, 0, none⟩) 2 2)) ∧ (U.cell? ⟨b3, 0, none⟩ = some (.int .i64 (9 + a % 6)) ∧ U.cell? ⟨b3, 1, none⟩ = some (.string ⟨#[]⟩) ∧ U.cell? ⟨b3, 2, none⟩ = some (.int .i64 0) ∧ U.cell? ⟨b3, 3, none⟩ = some (.slice (some ⟨b2, 0, none⟩) 1 1)))
    (first | exact HK.out _ lx | exact HK.out _ lx.drew)
    (first | (go_at_call 23; (with_reducible refine (HZh.out _ lx.drew).mono ?_); rintro e w9 ⟨rfl, hb9⟩; replace lx := lx.drew.trans (hb9.mono lx.size); clear hb9)
           | (go_at_call 23; (with_reducible refine (HZh.out _ lx).mono ?_); rintro e w9 ⟨rfl, hb9⟩; replace lx := lx.trans (hb9.mono lx.size); clear hb9)
           | (go_at_call 23; (with_reducible refine (HZf.out _ lx.drew).mono ?_); rintro e w9 ⟨rfl, hb9⟩; replace lx := lx.drew.trans (hb9.mono lx.size); clear hb9)
           | (go_at_call 23; (with_reducible refine (HZf.out _ lx).mono ?_); rintro e w9 ⟨rfl, hb9⟩; replace lx := lx.trans (hb9.mono lx.size); clear hb9)
           | (go_at_call 23; (with_reducible refine (HZg.out _ lx.drew).mono ?_); rintro e w9 ⟨rfl, hb9⟩; replace lx := lx.drew.trans (hb9.mono lx.size); clear hb9)
           | (go_at_call 23; (with_reducible refine (HZg.out _ lx).mono ?_); rintro e w9 ⟨rfl, hb9⟩; replace lx := lx.trans (hb9.mono lx.size); clear hb9)
           | (go_at_call 23; (with_reducible refine (HZi.out _ lx.drew).mono ?_); rintro e w9 ⟨rfl, hb9⟩; replace lx := lx.drew.trans (hb9.mono lx.size); clear hb9)
           | (go_at_call 23; (with_reducible refine (HZi.out _ lx).mono ?_); rintro e w9 ⟨rfl, hb9⟩; replace lx := lx.trans (hb9.mono lx.size); clear hb9)
           | (go_at_call 17; (with_reducible refine (HSfg.out _ lx.drew).mono ?_); rintro e w9 ⟨rfl, hb9⟩; replace lx := lx.drew.trans (hb9.mono lx.size); clear hb9)
           | (go_at_call 17; (with_reducible refine (HSfg.out _ lx).mono ?_); rintro e w9 ⟨rfl, hb9⟩; replace lx := lx.trans (hb9.mono lx.size); clear hb9)
           | (go_at_call 17; (with_reducible refine (HSgf.out _ lx.drew).mono ?_); rintro e w9 ⟨rfl, hb9⟩; replace lx := lx.drew.trans (hb9.mono lx.size); clear hb9)
           | (go_at_call 17; (with_reducible refine (HSgf.out _ lx).mono ?_); rintro e w9 ⟨rfl, hb9⟩; replace lx := lx.trans (hb9.mono lx.size); clear hb9)
           | (go_at_call 17; (with_reducible refine (HSfi.out _ lx.drew).mono ?_); rintro e w9 ⟨rfl, hb9⟩; replace lx := lx.drew.trans (hb9.mono lx.size); clear hb9)
           | (go_at_call 17; (with_reducible refine (HSfi.out _ lx).mono ?_); rintro e w9 ⟨rfl, hb9⟩; replace lx := lx.trans (hb9.mono lx.size); clear hb9))
  go_wp2
  go_ret
  exact ⟨rfl, hlo8.trans (lx.mono hlo8.size)⟩
end Go.Proofs.YtlddnejjpekgeaaDoor
