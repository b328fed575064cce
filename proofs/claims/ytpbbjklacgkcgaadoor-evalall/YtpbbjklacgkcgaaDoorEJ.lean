/- The laws' awake. -/
import Derived.Test.YtpbbjklacgkcgaaDoorEG
namespace Go.Proofs.YtpbbjklacgkcgaaDoor
open Go.RowKit

theorem av1 : Em.allB 2 [(4, 2)] [true, true] = [false, true, true, true] := by decide +kernel
theorem av2 : Em.evalB 2 [(4, 2)] 6 [true, true] = true := by decide +kernel
theorem av3 : Em.evalB 2 [(4, 2)] 7 [true, true] = false := by decide +kernel
theorem av4 : Em.threeS 2 [(4, 2)] 6 [0, 2] = 0 := by decide +kernel
theorem av5 : Em.threeS 2 [(4, 2)] 7 [0, 2] = 1 := by decide +kernel
theorem av6 : Em.threeS 2 [(4, 2)] 6 [] = 2 := by decide +kernel
theorem vs_two (w : World) (e : TypeId) (x y : Value) : Vs (w.alloc (.cells #[x, y] e)) (w.alloc (.cells #[x, y] e)).heap.size (some ⟨w.heap.size, 0, none⟩) [x, y] := (show Blk _ _ e [x, y].toArray from Blk.new w e #[x, y]).vs
theorem gr_one (w : World) (t : TypeId) : Gr (w.alloc (.cells #[.int .i64 4, .int .i64 2] t)) (w.alloc (.cells #[.int .i64 4, .int .i64 2] t)).heap.size (some ⟨w.heap.size, 0, none⟩) [(4, 2)] := by
  intro k hk
  have : k = 0 := by simp at hk; omega
  subst this
  have hb := Blk.new w t #[.int .i64 4, .int .i64 2]
  exact ⟨w.heap.size, 0, rfl, by simp, hb.cell 0, hb.cell 1⟩

set_option maxRecDepth 100000 in
set_option maxHeartbeats 8000000 in
theorem awake2_any (w : World) (hT : Tabs w) : Calls Tryd.prog 9 #[] w fun e w' => e = .returned (.bool true) ∧ Below w.heap.size w w' := by
  have hnot : ∀ (x : Bool) (w : World), (Op.unary .not (.bool x)).run Tryd.prog w = .ok (.bool (!x)) w := fun _ _ => rfl
  go_enter Tryd.func9, Tryd.ntmps9
  go_upto_region 2 with fail
  have hg := gr_one w 46
  have g0 := GX.new (n := 2) (c := 1) (l := 1) hg 24
  have lo : Below w.heap.size w ((w.alloc (Obj.cells #[.int .i64 4, .int .i64 2] 46)).alloc (Obj.cells #[.int .i64 2, .slice (some ⟨w.heap.size, 0, none⟩) 1 1] 24)) := ((Below.refl _ _).alloc (Nat.le_refl _) _).alloc (by simp) _
  replace hT := hT.below lo hT.sz
  rw [show (w.alloc (Obj.cells #[.int .i64 4, .int .i64 2] 46)).heap.size = w.heap.size + 1 by simp] at g0
  clear hg
  generalize (w.alloc (Obj.cells #[.int .i64 4, .int .i64 2] 46)).alloc (Obj.cells #[.int .i64 2, .slice (some ⟨w.heap.size, 0, none⟩) 1 1] 24) = V at *
  have k0 := g0.c0
  have k1 := g0.c1
  have HA := Lib.hid (all_any 2 (some ⟨w.heap.size, 0, none⟩) 1 [(4, 2)] (some ⟨V.heap.size, 0, none⟩) 2 [true, true] (V.alloc (Obj.cells #[.bool true, .bool true] 4)) (by simp) (by simp) (g0.alloc _).gr wf_42 (vs_two V 4 _ _))
  rw [av1] at HA
  go_wp2_with fail
  refine HA.out.mono ?_
  rintro e w1 ⟨A1, c1, rfl, hV1, hb1⟩
  replace lo := (lo.alloc lo.size (Obj.cells #[.bool true, .bool true] 4)).trans ((hb1).mono (Nat.le_trans lo.size (by simp)))
  replace hT := (hT.below ((Below.refl _ _).alloc (Nat.le_refl _) (Obj.cells #[.bool true, .bool true] 4)) hT.sz).below hb1 (Nat.le_trans hT.sz (by simp))
  replace g0 := (g0.alloc (Obj.cells #[.bool true, .bool true] 4)).below hb1
  clear k0 k1 HA
  obtain ⟨b, off, hA, _, q0⟩ := hV1.bool 0 (by simp)
  obtain ⟨b', off', hA', _, q3⟩ := hV1.bool 3 (by simp)
  subst hA
  obtain ⟨rfl, rfl⟩ : b = b' ∧ off = off' := by simpa using hA'
  have k0 := g0.c0
  have k1 := g0.c1
  simp only [List.getD_cons_zero, List.getD_cons_succ, Nat.add_zero] at q0 q3
  have HE := Lib.hid (eval_any 2 (some ⟨w.heap.size, 0, none⟩) 1 [(4, 2)] 6 (some ⟨w1.heap.size, 0, none⟩) 2 [true, true] (w1.alloc (Obj.cells #[.bool true, .bool true] 4)) (by simp) (by simp) (g0.alloc _).gr wf_42 (vs_two w1 4 _ _))
  rw [av2] at HE
  simp only [List.length_cons, List.length_nil]
  go_wp2_with fail
  refine HE.out.mono ?_
  rintro e w2 ⟨rfl, hb2⟩
  replace lo := (lo.alloc lo.size (Obj.cells #[.bool true, .bool true] 4)).trans ((hb2).mono (Nat.le_trans lo.size (by simp)))
  replace hT := (hT.below ((Below.refl _ _).alloc (Nat.le_refl _) (Obj.cells #[.bool true, .bool true] 4)) hT.sz).below hb2 (Nat.le_trans hT.sz (by simp))
  replace g0 := (g0.alloc (Obj.cells #[.bool true, .bool true] 4)).below hb2
  clear k0 k1 HE
  have k0 := g0.c0
  have k1 := g0.c1
  have HE := Lib.hid (eval_any 2 (some ⟨w.heap.size, 0, none⟩) 1 [(4, 2)] 7 (some ⟨w2.heap.size, 0, none⟩) 2 [true, true] (w2.alloc (Obj.cells #[.bool true, .bool true] 4)) (by simp) (by simp) (g0.alloc _).gr wf_42 (vs_two w2 4 _ _))
  rw [av3] at HE
  go_wp2_with fail
  refine HE.out.mono ?_
  rintro e w3 ⟨rfl, hb3⟩
  replace lo := (lo.alloc lo.size (Obj.cells #[.bool true, .bool true] 4)).trans ((hb3).mono (Nat.le_trans lo.size (by simp)))
  replace hT := (hT.below ((Below.refl _ _).alloc (Nat.le_refl _) (Obj.cells #[.bool true, .bool true] 4)) hT.sz).below hb3 (Nat.le_trans hT.sz (by simp))
  replace g0 := (g0.alloc (Obj.cells #[.bool true, .bool true] 4)).below hb3
  clear k0 k1 HE
  have k0 := g0.c0
  have k1 := g0.c1
  have HE := Lib.hid (Three_any 2 (some ⟨w.heap.size, 0, none⟩) 1 [(4, 2)] 6 (some ⟨w3.heap.size, 0, none⟩) 2 [0, 2] (w3.alloc (Obj.cells #[.int .i64 0, .int .i64 2] 3)) (by simp) (by simp) (g0.alloc _).gr wf_42 (vs_two w3 3 _ _) (hT.below ((Below.refl _ _).alloc (Nat.le_refl _) _) hT.sz))
  rw [av4] at HE
  go_wp2_with fail
  refine HE.out.mono ?_
  rintro e w4 ⟨rfl, hb4⟩
  replace lo := (lo.alloc lo.size (Obj.cells #[.int .i64 0, .int .i64 2] 3)).trans ((hb4).mono (Nat.le_trans lo.size (by simp)))
  replace hT := (hT.below ((Below.refl _ _).alloc (Nat.le_refl _) (Obj.cells #[.int .i64 0, .int .i64 2] 3)) hT.sz).below hb4 (Nat.le_trans hT.sz (by simp))
  replace g0 := (g0.alloc (Obj.cells #[.int .i64 0, .int .i64 2] 3)).below hb4
  clear k0 k1 HE
  have k0 := g0.c0
  have k1 := g0.c1
  have HE := Lib.hid (Three_any 2 (some ⟨w.heap.size, 0, none⟩) 1 [(4, 2)] 7 (some ⟨w4.heap.size, 0, none⟩) 2 [0, 2] (w4.alloc (Obj.cells #[.int .i64 0, .int .i64 2] 3)) (by simp) (by simp) (g0.alloc _).gr wf_42 (vs_two w4 3 _ _) (hT.below ((Below.refl _ _).alloc (Nat.le_refl _) _) hT.sz))
  rw [av5] at HE
  go_wp2_with fail
  refine HE.out.mono ?_
  rintro e w5 ⟨rfl, hb5⟩
  replace lo := (lo.alloc lo.size (Obj.cells #[.int .i64 0, .int .i64 2] 3)).trans ((hb5).mono (Nat.le_trans lo.size (by simp)))
  replace hT := (hT.below ((Below.refl _ _).alloc (Nat.le_refl _) (Obj.cells #[.int .i64 0, .int .i64 2] 3)) hT.sz).below hb5 (Nat.le_trans hT.sz (by simp))
  replace g0 := (g0.alloc (Obj.cells #[.int .i64 0, .int .i64 2] 3)).below hb5
  clear k0 k1 HE
  have k0 := g0.c0
  have k1 := g0.c1
  have HE := Lib.hid (Three_any 2 (some ⟨w.heap.size, 0, none⟩) 1 [(4, 2)] 6 none 0 [] w5 (by simp) (by simp) g0.gr wf_42 vs_nil hT)
  rw [av6] at HE
  go_wp2_with fail
  refine HE.out.mono ?_
  rintro e w6 ⟨rfl, hb6⟩
  go_wp2_with fail
  go_ret
  exact ⟨rfl, lo.trans (hb6.mono lo.size)⟩
theorem allB_len {n : Int} {gs : List (Int × Int)} {ins : List Bool} (h1 : gs.length ≤ 100000) (h2 : ins.length ≤ 100000) : (Em.allB n gs ins).length ≤ 1000000 := by
  unfold Em.allB
  split
  · rw [Em.vals_length, List.length_cons]; omega
  · simp

end Go.Proofs.YtpbbjklacgkcgaaDoor
