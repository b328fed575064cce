/- awake of layer 5. -/
import Derived.Test.YtpejilhdhkmcjaaGreatDoorJaAl
import Derived.Test.YtpejilhdhkmcjaaGreatDoorJaat
import Derived.Test.YtpejilhdhkmcjaaGreatDoorJabk
import Derived.Test.YtpejilhdhkmcjaaGreatDoorJabo
namespace Go.Proofs.YtpejilhdhkmcjaaGreatDoor
open Go.RowKit

def awBad : Cir := Ag.mk (-1) [] [] [] [] [] [] []
theorem awBad_right : Cm.rightC awBad = false := by rfl
theorem awBad_wf : CirW awBad := by constructor <;> simp [awBad, Ag.mk, I64, Wf, IWf, maxLen]
theorem awBad_mem (w : World) : CirM w w.heap.size awBad :=
 ⟨fun k hk => by simp [awBad, Ag.mk] at hk, fun k hk => by simp [awBad, Ag.mk] at hk, fun k hk => by simp [awBad, Ag.mk] at hk, fun k hk => by simp [awBad, Ag.mk] at hk, fun k hk => by simp [awBad, Ag.mk] at hk, fun k hk => by simp [awBad, Ag.mk] at hk, fun k hk => by simp [awBad, Ag.mk] at hk⟩

set_option maxRecDepth 100000 in
set_option maxHeartbeats 8000000 in
theorem awake5_any (B : Nat) (w : World) (hA : Amb B w) : Calls Tryz.prog 11 #[] w fun e w' => e = .returned (.bool true) ∧ Below w.heap.size w w' := by
 have H1 := Lib.hid (rparse_any awT1 B w (by simp [awT1]) hA)
 rw [aw1] at H1
 go_enter Tryz.func11, Tryz.ntmps11
 go_wp2_with fail
 refine H1.out.mono ?_
 clear H1
 rintro e w1 ⟨c, hst, rfl, hM, hS, hcap, lo⟩
 obtain ⟨hps, hri⟩ := aw5 hst
 have hn : c.n = 0 := congrArg Cir.n hst
 have hls : c.ls = [(3, 0)] := congrArg Cir.ls hst
 have hbx := Blk.new w1 29 #[.int .i64 0, .slice c.aL 1 c.cL, .slice c.aG c.gs.length c.cG, .slice c.aO c.os.length c.cO, .slice c.aB c.bs.length c.cB, .slice c.aC c.cs.length c.cC, .slice c.aF c.fs.length c.cF, .slice c.aN c.ns.length c.cN]
 have lx := lowAlloc w1 (Obj.cells #[.int .i64 0, .slice c.aL 1 c.cL, .slice c.aG c.gs.length c.cG, .slice c.aO c.os.length c.cO, .slice c.aB c.bs.length c.cB, .slice c.aC c.cs.length c.cC, .slice c.aF c.fs.length c.cF, .slice c.aN c.ns.length c.cN] 29)
 replace hM := (hM.below lx (Nat.le_refl _)).more lx.size
 have hk := hM.hl 0 (by simp [hls])
 replace lo := lo.trans (lx.mono lo.size)
 have A1 := hA.on (lo.mono hA.le)
 have hHb : w1.heap.size < (w1.alloc (Obj.cells #[.int .i64 0, .slice c.aL 1 c.cL, .slice c.aG c.gs.length c.cG, .slice c.aO c.os.length c.cO, .slice c.aB c.bs.length c.cB, .slice c.aC c.cs.length c.cC, .slice c.aF c.fs.length c.cF, .slice c.aN c.ns.length c.cN] 29)).heap.size := by simp
 go_wp2_with fail
 generalize w1.alloc (Obj.cells #[.int .i64 0, .slice c.aL 1 c.cL, .slice c.aG c.gs.length c.cG, .slice c.aO c.os.length c.cO, .slice c.aB c.bs.length c.cB, .slice c.aC c.cs.length c.cC, .slice c.aF c.fs.length c.cF, .slice c.aN c.ns.length c.cN] 29) = W1 at *
 have H2 := Lib.hid (aagPrint_any c B W1 hM hS.wf hcap (fun _ => by rw [hps]; simp [awP]) A1)
 simp only [hn, hls, List.length_cons, List.length_nil, Nat.zero_add] at H2
 refine H2.out.mono ?_
 rintro e w2 ⟨he, hb2⟩
 rw [if_pos hri, hps] at he
 subst he
 clear H2 lx
 replace lo := lo.trans (hb2.mono lo.size)
 replace hbx := hbx.below hb2 hHb
 replace hM := hM.below hb2 (Nat.le_refl _)
 replace hHb := Nat.lt_of_lt_of_le hHb hb2.size
 have hLE : W1.heap.size ≤ w2.heap.size := hb2.size
 have A2 := hA.on (lo.mono hA.le)
 have H3 := Lib.hid (rparse_any awT2 B w2 (by simp [awT2]) A2)
 rw [aw2] at H3
 go_wp2_with fail
 refine H3.out.mono ?_
 rintro e w3 ⟨rfl, hb3⟩
 replace hb3 := hb3.alloc hb3.size (Obj.cells #[.int .i64 0, .slice none 0 0, .slice none 0 0, .slice none 0 0, .slice none 0 0, .slice none 0 0, .slice none 0 0, .slice none 0 0] 29)

 clear H3
 replace lo := lo.trans (hb3.mono lo.size)
 replace hbx := hbx.below hb3 hHb
 replace hM := hM.below hb3 hLE
 replace hHb := Nat.lt_of_lt_of_le hHb hb3.size
 replace hLE := Nat.le_trans hLE hb3.size
 have A3 := hA.on (lo.mono hA.le)
 have H4 := Lib.hid (rparse_any awT3 B (w3.alloc (Obj.cells #[.int .i64 0, .slice none 0 0, .slice none 0 0, .slice none 0 0, .slice none 0 0, .slice none 0 0, .slice none 0 0, .slice none 0 0] 29)) (by simp [awT3]) A3)
 rw [aw3] at H4
 go_wp2_with fail
 generalize w3.alloc (Obj.cells #[.int .i64 0, .slice none 0 0, .slice none 0 0, .slice none 0 0, .slice none 0 0, .slice none 0 0, .slice none 0 0, .slice none 0 0] 29) = V3 at *
 refine H4.out.mono ?_
 rintro e w4 ⟨rfl, hb4⟩
 replace hb4 := hb4.alloc hb4.size (Obj.cells #[.int .i64 0, .slice none 0 0, .slice none 0 0, .slice none 0 0, .slice none 0 0, .slice none 0 0, .slice none 0 0, .slice none 0 0] 29)

 clear H4
 replace lo := lo.trans (hb4.mono lo.size)
 replace hbx := hbx.below hb4 hHb
 replace hM := hM.below hb4 hLE
 replace hHb := Nat.lt_of_lt_of_le hHb hb4.size
 replace hLE := Nat.le_trans hLE hb4.size
 have A4 := hA.on (lo.mono hA.le)
 have H5 := Lib.hid (rparse_any awT4 B (w4.alloc (Obj.cells #[.int .i64 0, .slice none 0 0, .slice none 0 0, .slice none 0 0, .slice none 0 0, .slice none 0 0, .slice none 0 0, .slice none 0 0] 29)) (by simp [awT4]) A4)
 rw [aw4] at H5
 go_wp2_with fail
 generalize w4.alloc (Obj.cells #[.int .i64 0, .slice none 0 0, .slice none 0 0, .slice none 0 0, .slice none 0 0, .slice none 0 0, .slice none 0 0, .slice none 0 0] 29) = V4 at *
 refine H5.out.mono ?_
 rintro e w5 ⟨rfl, hb5⟩
 replace hb5 := hb5.alloc hb5.size (Obj.cells #[.int .i64 0, .slice none 0 0, .slice none 0 0, .slice none 0 0, .slice none 0 0, .slice none 0 0, .slice none 0 0, .slice none 0 0] 29)

 clear H5
 replace lo := lo.trans (hb5.mono lo.size)
 replace hbx := hbx.below hb5 hHb
 replace hM := hM.below hb5 hLE
 replace hHb := Nat.lt_of_lt_of_le hHb hb5.size
 replace hLE := Nat.le_trans hLE hb5.size
 have A5 := hA.on (lo.mono hA.le)
 have H6 := Lib.hid (aagPrint_any awBad B (w5.alloc (Obj.cells #[.int .i64 0, .slice none 0 0, .slice none 0 0, .slice none 0 0, .slice none 0 0, .slice none 0 0, .slice none 0 0, .slice none 0 0] 29)) (awBad_mem _) awBad_wf (Nat.le_refl _) (fun h => by rw [awBad_right] at h; cases h) A5)
 have k1 := hbx.cell 1
 simp only [zD, zE, zF] at k1
 go_wp2_with fail
 generalize w5.alloc (Obj.cells #[.int .i64 0, .slice none 0 0, .slice none 0 0, .slice none 0 0, .slice none 0 0, .slice none 0 0, .slice none 0 0, .slice none 0 0] 29) = V5 at *
 refine H6.out.mono ?_
 rintro e w6 ⟨he, hb6⟩
 rw [if_neg (by rw [awBad_right]; simp)] at he
 subst he

 clear H6
 replace lo := lo.trans (hb6.mono lo.size)
 replace hbx := hbx.below hb6 hHb
 replace hM := hM.below hb6 hLE
 replace hHb := Nat.lt_of_lt_of_le hHb hb6.size
 replace hLE := Nat.le_trans hLE hb6.size
 have A6 := hA.on (lo.mono hA.le)
 have k1 := hbx.cell 1
 simp only [zD, zE, zF] at k1
 obtain ⟨b, off, hAL, hbl, q0, q1⟩ := hM.hl 0 (by simp [hls])
 simp only [hls, List.getElem_cons_zero, Nat.zero_mul, Nat.add_zero] at q0 q1
 rw [hAL] at k1
 go_wp2_with fail
 go_ret
 exact ⟨rfl, lo⟩
end Go.Proofs.YtpejilhdhkmcjaaGreatDoor
