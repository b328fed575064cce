/- The laws' awake. -/
import Derived.Test.YtjjdgiondpnpcaaCI
namespace Go.Proofs.Ytjjdgiondpnpcaa
open Go.RowKit

theorem av1 : Cm.supportS 2 [(4, 2)] 7 = [1, 2] := by decide +kernel
theorem av2 : Cm.fixS 2 [(4, 2)] 6 1 true = ((2, [(4, 2)]), 4, 0) := by decide +kernel
theorem av3 : Cm.fixS 2 [(4, 2)] 6 3 true = Gm.bad 1 := by decide +kernel
theorem av4 : Cm.copyS 3 [] 2 [(4, 2)] 7 [3, 6] = ((3, [(6, 3)]), 9, 0) := by decide +kernel
theorem av5 : Cm.gatesS 2 [(4, 2)] 7 = 1 := by decide +kernel
theorem vs_two (w : World) (e : TypeId) (x y : Value) : Vs (w.alloc (.cells #[x, y] e)) (w.alloc (.cells #[x, y] e)).heap.size (some ⟨w.heap.size, 0, none⟩) [x, y] := (show Blk _ _ e [x, y].toArray from Blk.new w e #[x, y]).vs
theorem gr_one (w : World) (t : TypeId) : Gr (w.alloc (.cells #[.int .i64 4, .int .i64 2] t)) (w.alloc (.cells #[.int .i64 4, .int .i64 2] t)).heap.size (some ⟨w.heap.size, 0, none⟩) [(4, 2)] := by
  intro k hk
  have : k = 0 := by simp at hk; omega
  subst this
  have hb := Blk.new w t #[.int .i64 4, .int .i64 2]
  exact ⟨w.heap.size, 0, rfl, by simp, hb.cell 0, hb.cell 1⟩

set_option maxRecDepth 100000 in
set_option maxHeartbeats 8000000 in
theorem awake3_any (w : World) : Calls Try.prog 7 #[] w fun e w' => e = .returned (.bool true) ∧ Below w.heap.size w w' := by
  go_enter Try.func7, Try.ntmps7
  go_upto_region 2 with fail
  have hg := gr_one w 44
  have g0 := GX.new (n := 2) (c := 1) (l := 1) hg 26
  have lo : Below w.heap.size w ((w.alloc (Obj.cells #[.int .i64 4, .int .i64 2] 44)).alloc (Obj.cells #[.int .i64 2, .slice (some ⟨w.heap.size, 0, none⟩) 1 1] 26)) := ((Below.refl _ _).alloc (Nat.le_refl _) _).alloc (by simp) _
  rw [show (w.alloc (Obj.cells #[.int .i64 4, .int .i64 2] 44)).heap.size = w.heap.size + 1 by simp] at g0
  clear hg
  generalize (w.alloc (Obj.cells #[.int .i64 4, .int .i64 2] 44)).alloc (Obj.cells #[.int .i64 2, .slice (some ⟨w.heap.size, 0, none⟩) 1 1] 26) = V at *
  have k0 := g0.c0
  have k1 := g0.c1
  have HA := Lib.hid (support_any 2 (some ⟨w.heap.size, 0, none⟩) 1 [(4, 2)] 7 V (by simp) g0.gr wf_42)
  rw [av1] at HA
  go_wp2_with fail
  refine HA.out.mono ?_
  rintro e w1 ⟨A1, c1, rfl, hV1, hb1⟩
  replace lo := lo.trans (hb1.mono lo.size)
  replace g0 := g0.below hb1
  clear k0 k1 HA
  obtain ⟨b, off, hA, hbl, q0⟩ := hV1.int 0 (by simp)
  obtain ⟨b', off', hA', _, q1⟩ := hV1.int 1 (by simp)
  subst hA
  obtain ⟨rfl, rfl⟩ : b = b' ∧ off = off' := by simpa using hA'
  have k0 := g0.c0
  have k1 := g0.c1
  simp only [List.getD_cons_zero, List.getD_cons_succ, Nat.add_zero] at q0 q1
  clear hV1
  have HE := Lib.hid (fix_any 2 (some ⟨w.heap.size, 0, none⟩) 1 [(4, 2)] 6 1 true w1 (by simp) g0.gr wf_42)
  rw [av2] at HE
  simp only [List.length_cons, List.length_nil]
  go_wp2_with fail
  refine HE.out.mono ?_
  rintro e w2 ⟨A2, c2, rfl, hG2, hs2, hb2⟩
  have lx := hb2.alloc hb2.size (Obj.cells #[.int .i64 2, .slice A2 1 c2] 26)
  replace lo := lo.trans (lx.mono lo.size)
  replace g0 := g0.below lx
  replace q0 := (lx.cell (p := ⟨b, off, none⟩) hbl).trans q0
  replace q1 := (lx.cell (p := ⟨b, off + 1, none⟩) hbl).trans q1
  replace hbl := Nat.lt_of_lt_of_le hbl lx.size
  clear k0 k1 HE lx hb2 hG2 hs2
  simp only [List.length_cons, List.length_nil]
  go_upto_region 4 with fail
  generalize w2.alloc (Obj.cells #[.int .i64 2, .slice A2 1 c2] 26) = V2 at *
  have k0 := g0.c0
  have k1 := g0.c1
  have HE := Lib.hid (fix_any 2 (some ⟨w.heap.size, 0, none⟩) 1 [(4, 2)] 6 3 true V2 (by simp) g0.gr wf_42)
  rw [av3] at HE
  go_wp2_with fail
  refine HE.out.mono ?_
  rintro e w3 ⟨A3, c3, rfl, hG3, hs3, hb3⟩
  simp only [Gm.bad, List.length_nil]
  have lx := hb3.alloc hb3.size (Obj.cells #[.int .i64 0, .slice A3 0 c3] 26)
  replace lo := lo.trans (lx.mono lo.size)
  replace g0 := g0.below lx
  replace q0 := (lx.cell (p := ⟨b, off, none⟩) hbl).trans q0
  replace q1 := (lx.cell (p := ⟨b, off + 1, none⟩) hbl).trans q1
  replace hbl := Nat.lt_of_lt_of_le hbl lx.size
  clear k0 k1 HE lx hb3 hG3 hs3
  go_upto_region 5 with fail
  generalize w3.alloc (Obj.cells #[.int .i64 0, .slice A3 0 c3] 26) = V3 at *
  have k0 := g0.c0
  have k1 := g0.c1
  have HE := Lib.hid (copy_any 3 none 0 [] 2 (some ⟨w.heap.size, 0, none⟩) 1 [(4, 2)] 7 (some ⟨V3.heap.size, 0, none⟩) 2 [3, 6] (V3.alloc (Obj.cells #[.int .i64 3, .int .i64 6] 3)) (by simp) (by simp) (by simp) gr_nil (g0.alloc _).gr (vs_two V3 3 _ _) wf_nil wf_42)
  rw [av4] at HE
  go_wp2_with fail
  refine HE.out.mono ?_
  rintro e w4 ⟨A4, c4, rfl, hG4, hs4, hb4⟩
  simp only [List.length_cons, List.length_nil]
  have lz := (Below.refl V3.heap.size V3).alloc (Nat.le_refl _) (Obj.cells #[.int .i64 3, .int .i64 6] 3)
  have ly := lz.trans (hb4.mono lz.size)
  have lx := ly.alloc ly.size (Obj.cells #[.int .i64 3, .slice A4 1 c4] 26)
  obtain ⟨b4, o4, hA4, hb4l, p0, p1⟩ := hG4 0 (by simp)
  subst hA4
  have hk4 := Blk.new w4 26 #[.int .i64 3, .slice (some ⟨b4, o4, none⟩) 1 c4]
  have l4 := (Below.refl w4.heap.size w4).alloc (Nat.le_refl _) (Obj.cells #[.int .i64 3, .slice (some ⟨b4, o4, none⟩) 1 c4] 26)
  replace lo := lo.trans (lx.mono lo.size)
  replace g0 := g0.below lx
  replace q0 := (lx.cell (p := ⟨b, off, none⟩) hbl).trans q0
  replace q1 := (lx.cell (p := ⟨b, off + 1, none⟩) hbl).trans q1
  replace p0 := (l4.cell (p := ⟨b4, o4, none⟩) hb4l).trans (by simpa using p0)
  replace p1 := (l4.cell (p := ⟨b4, o4 + 1, none⟩) hb4l).trans (by simpa using p1)
  replace hbl := Nat.lt_of_lt_of_le hbl lx.size
  replace hb4l := Nat.lt_of_lt_of_le hb4l l4.size
  have j1 := hk4.cell 1
  simp only [List.getElem?_toArray, List.getElem?_cons_zero, List.getElem?_cons_succ] at j1
  have jl := hk4.lt
  clear k0 k1 HE lx ly lz hb4 hG4 hs4 l4
  go_upto_region 6 with fail
  generalize w4.alloc (Obj.cells #[.int .i64 3, .slice (some ⟨b4, o4, none⟩) 1 c4] 26) = V4 at *
  have k0 := g0.c0
  have k1 := g0.c1
  have HE := Lib.hid (countgates_any 2 (some ⟨w.heap.size, 0, none⟩) 1 [(4, 2)] 7 V4 (by simp) g0.gr wf_42)
  rw [av5] at HE
  have hel := eql_arr2 6 3 6 3
  have hgu := eqGuard2
  go_wp2_with (go_at_call 12; refine HE.out.mono ?_; rintro e w5 ⟨rfl, hb5⟩; replace p0 := (hb5.cell (p := ⟨b4, o4, none⟩) hb4l).trans p0; replace p1 := (hb5.cell (p := ⟨b4, o4 + 1, none⟩) hb4l).trans p1; replace j1 := (hb5.cell (p := ⟨w4.heap.size, 1, none⟩) jl).trans j1)
  go_ret
  exact ⟨rfl, lo.trans (hb5.mono lo.size)⟩
end Go.Proofs.Ytjjdgiondpnpcaa
