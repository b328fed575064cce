/- awake of layer 5. -/
import Derived.Test.YtpejilhdhkmcjaaGreatDoorJbAl
import Derived.Test.YtpejilhdhkmcjaaGreatDoorJbav
import Derived.Test.YtpejilhdhkmcjaaGreatDoorJbbf
import Derived.Test.YtpejilhdhkmcjaaGreatDoorJbbi
import Derived.Test.YtpejilhdhkmcjaaGreatDoorJbaz
import Derived.Test.YtpejilhdhkmcjaaGreatDoorJbba
import Derived.Test.YtpejilhdhkmcjaaGreatDoorJbbq
import Derived.Test.YtpejilhdhkmcjaaGreatDoorJbbt
namespace Go.Proofs.YtpejilhdhkmcjaaGreatDoor
open Go.RowKit

def awBad : Cir := Ag.mk (-1) [] [] [] [] [] [] []
theorem awBad_right : Cm.rightC awBad = false := by rfl
theorem awBad_wf : CirW awBad := by constructor <;> simp [awBad, Ag.mk, I64, Wf, IWf, maxLen]
theorem awBad_mem (w : World) : CirM w w.heap.size awBad :=
 ⟨fun k hk => by simp [awBad, Ag.mk] at hk, fun k hk => by simp [awBad, Ag.mk] at hk, fun k hk => by simp [awBad, Ag.mk] at hk, fun k hk => by simp [awBad, Ag.mk] at hk, fun k hk => by simp [awBad, Ag.mk] at hk, fun k hk => by simp [awBad, Ag.mk] at hk, fun k hk => by simp [awBad, Ag.mk] at hk⟩

set_option maxRecDepth 100000 in
set_option maxHeartbeats 8000000 in
theorem awake5_any (B : Nat) (w : World) (hA : Amb B w) : Calls Tryz.prog 11 #[] w fun e w' => e = .returned (.bool true) ∧ Below w.heap.size w w' := by
 have H1 := Lib.hid (rparse_any awT1 B w (by simp [awT1]) hA)
 rw [aw1] at H1
 go_enter Tryz.func11, Tryz.ntmps11
 go_wp2_with fail
 refine H1.out.mono ?_
 clear H1
 rintro e w1 ⟨c, hst, rfl, hM, hS, hcap, lo⟩
 obtain ⟨hps, hri⟩ := aw5 hst
 have hn : c.n = 0 := congrArg Cir.n hst
 have hls : c.ls = [(3, 0)] := congrArg Cir.ls hst
 have hbx := Blk.new w1 29 #[.int .i64 0, .slice c.aL 1 c.cL, .slice c.aG c.gs.length c.cG, .slice c.aO c.os.length c.cO, .slice c.aB c.bs.length c.cB, .slice c.aC c.cs.length c.cC, .slice c.aF c.fs.length c.cF, .slice c.aN c.ns.length c.cN]
 have lx := lowAlloc w1 (Obj.cells #[.int .i64 0, .slice c.aL 1 c.cL, .slice c.aG c.gs.length c.cG, .slice c.aO c.os.length c.cO, .slice c.aB c.bs.length c.cB, .slice c.aC c.cs.length c.cC, .slice c.aF c.fs.length c.cF, .slice c.aN c.ns.length c.cN] 29)
 replace hM := (hM.below lx (Nat.le_refl _)).more lx.size
 have hk := hM.hl 0 (by simp [hls])
 replace lo := lo.trans (lx.mono lo.size)
 have A1 := hA.on (lo.mono hA.le)
 have hHb : w1.heap.size < (w1.alloc (Obj.cells #[.int .i64 0, .slice c.aL 1 c.cL, .slice c.aG c.gs.length c.cG, .slice c.aO c.os.length c.cO, .slice c.aB c.bs.length c.cB, .slice c.aC c.cs.length c.cC, .slice c.aF c.fs.length c.cF, .slice c.aN c.ns.length c.cN] 29)).heap.size := by simp
 go_wp2_with fail
 generalize w1.alloc (Obj.cells #[.int .i64 0, .slice c.aL 1 c.cL, .slice c.aG c.gs.length c.cG, .slice c.aO c.os.length c.cO, .slice c.aB c.bs.length c.cB, .slice c.aC c.cs.length c.cC, .slice c.aF c.fs.length c.cF, .slice c.aN c.ns.length c.cN] 29) = W1 at *
 have H2 := Lib.hid (aagPrint_any c B W1 hM hS.wf hcap (fun _ => by rw [hps]; simp [awP]) A1)
 simp only [hn, hls, List.length_cons, List.length_nil, Nat.zero_add] at H2
 refine H2.out.mono ?_
 rintro e w2 ⟨he, hb2⟩
 rw [if_pos hri, hps] at he
 subst he
 clear H2 lx
 replace lo := lo.trans (hb2.mono lo.size)
 replace hbx := hbx.below hb2 hHb
 replace hM := hM.below hb2 (Nat.le_refl _)
 replace hHb := Nat.lt_of_lt_of_le hHb hb2.size
 have hLE : W1.heap.size ≤ w2.heap.size := hb2.size
 have A2 := hA.on (lo.mono hA.le)
 have H3 := Lib.hid (rparse_any awT2 B w2 (by simp [awT2]) A2)
 rw [aw2] at H3
 go_wp2_with fail
 refine H3.out.mono ?_
 rintro e w3 ⟨rfl, hb3⟩
 replace hb3 := hb3.alloc hb3.size (Obj.cells #[.int .i64 0, .slice none 0 0, .slice none 0 0, .slice none 0 0, .slice none 0 0, .slice none 0 0, .slice none 0 0, .slice none 0 0] 29)

 clear H3
 replace lo := lo.trans (hb3.mono lo.size)
 replace hbx := hbx.below hb3 hHb
 replace hM := hM.below hb3 hLE
 replace hHb := Nat.lt_of_lt_of_le hHb hb3.size
 replace hLE := Nat.le_trans hLE hb3.size
 have A3 := hA.on (lo.mono hA.le)
 have H4 := Lib.hid (rparse_any awT3 B (w3.alloc (Obj.cells #[.int .i64 0, .slice none 0 0, .slice none 0 0, .slice none 0 0, .slice none 0 0, .slice none 0 0, .slice none 0 0, .slice none 0 0] 29)) (by simp [awT3]) A3)
 rw [aw3] at H4
 go_wp2_with fail
 generalize w3.alloc (Obj.cells #[.int .i64 0, .slice none 0 0, .slice none 0 0, .slice none 0 0, .slice none 0 0, .slice none 0 0, .slice none 0 0, .slice none 0 0] 29) = V3 at *
 refine H4.out.mono ?_
 rintro e w4 ⟨rfl, hb4⟩
 replace hb4 := hb4.alloc hb4.size (Obj.cells #[.int .i64 0, .slice none 0 0, .slice none 0 0, .slice none 0 0, .slice none 0 0, .slice none 0 0, .slice none 0 0, .slice none 0 0] 29)

 clear H4
 replace lo := lo.trans (hb4.mono lo.size)
 replace hbx := hbx.below hb4 hHb
 replace hM := hM.below hb4 hLE
 replace hHb := Nat.lt_of_lt_of_le hHb hb4.size
 replace hLE := Nat.le_trans hLE hb4.size
 have A4 := hA.on (lo.mono hA.le)
 have H5 := Lib.hid (rparse_any awT4 B (w4.alloc (Obj.cells #[.int .i64 0, .slice none 0 0, .slice none 0 0, .slice none 0 0, .slice none 0 0, .slice none 0 0, .slice none 0 0, .slice none 0 0] 29)) (by simp [awT4]) A4)
 rw [aw4] at H5
 go_wp2_with fail
 generalize w4.alloc (Obj.cells #[.int .i64 0, .slice none 0 0, .slice none 0 0, .slice none 0 0, .slice none 0 0, .slice none 0 0, .slice none 0 0, .slice none 0 0] 29) = V4 at *
 refine H5.out.mono ?_
 rintro e w5 ⟨rfl, hb5⟩
 replace hb5 := hb5.alloc hb5.size (Obj.cells #[.int .i64 0, .slice none 0 0, .slice none 0 0, .slice none 0 0, .slice none 0 0, .slice none 0 0, .slice none 0 0, .slice none 0 0] 29)

 clear H5
 replace lo := lo.trans (hb5.mono lo.size)
 replace hbx := hbx.below hb5 hHb
 replace hM := hM.below hb5 hLE
 replace hHb := Nat.lt_of_lt_of_le hHb hb5.size
 replace hLE := Nat.le_trans hLE hb5.size
 have A5 := hA.on (lo.mono hA.le)
 have H6 := Lib.hid (aagPrint_any awBad B (w5.alloc (Obj.cells #[.int .i64 0, .slice none 0 0, .slice none 0 0, .slice none 0 0, .slice none 0 0, .slice none 0 0, .slice none 0 0, .slice none 0 0] 29)) (awBad_mem _) awBad_wf (Nat.le_refl _) (fun h => by rw [awBad_right] at h; cases h) A5)
 have k1 := hbx.cell 1
 simp only [zD, zE, zF] at k1
 go_wp2_with fail
 generalize w5.alloc (Obj.cells #[.int .i64 0, .slice none 0 0, .slice none 0 0, .slice none 0 0, .slice none 0 0, .slice none 0 0, .slice none 0 0, .slice none 0 0] 29) = V5 at *
 refine H6.out.mono ?_
 rintro e w6 ⟨he, hb6⟩
 rw [if_neg (by rw [awBad_right]; simp)] at he
 subst he

 clear H6
 replace lo := lo.trans (hb6.mono lo.size)
 replace hbx := hbx.below hb6 hHb
 replace hM := hM.below hb6 hLE
 replace hHb := Nat.lt_of_lt_of_le hHb hb6.size
 replace hLE := Nat.le_trans hLE hb6.size
 have A6 := hA.on (lo.mono hA.le)
 have k1 := hbx.cell 1
 simp only [zD, zE, zF] at k1
 obtain ⟨b, off, hAL, hbl, q0, q1⟩ := hM.hl 0 (by simp [hls])
 simp only [hls, List.getElem_cons_zero, Nat.zero_mul, Nat.add_zero] at q0 q1
 rw [hAL] at k1
 go_wp2_with fail
 go_ret
 exact ⟨rfl, lo⟩
end Go.Proofs.YtpejilhdhkmcjaaGreatDoor
/- AagAgain, walked. -/
namespace Go.Proofs.YtpejilhdhkmcjaaGreatDoor
open Go.RowKit

theorem CirM.on2 {w w' : World} {c : Cir} (h : CirM w w.heap.size c) (hb : Below w.heap.size w w') : CirM w' w'.heap.size c := (h.below hb (Nat.le_refl _)).more hb.size
end Go.Proofs.YtpejilhdhkmcjaaGreatDoor
/- same of layer 5: the program's circuit of a text is the document's. -/
namespace Go.Proofs.YtpejilhdhkmcjaaGreatDoor
open Go.RowKit

theorem zero_mem (w : World) : CirM w w.heap.size (Ag.mk 0 [] [] [] [] [] [] []) :=
 ⟨fun k hk => by simp [Ag.mk] at hk, fun k hk => by simp [Ag.mk] at hk, fun k hk => by simp [Ag.mk, iv] at hk, fun k hk => by simp [Ag.mk, iv] at hk, fun k hk => by simp [Ag.mk, iv] at hk, fun k hk => by simp [Ag.mk, iv] at hk, fun k hk => by simp [Ag.mk] at hk⟩
theorem zero_wf : CirW (Ag.mk 0 [] [] [] [] [] [] []) := by constructor <;> simp [Ag.mk, I64, Wf, IWf]
set_option maxRecDepth 100000 in
set_option maxHeartbeats 8000000 in
theorem same5_any (s : Ag.Bs) {B : Nat} (w : World) (hs : s.length ≤ maxLen) (hA : Amb B w) :
  Calls Tryz.prog 12 #[.string (bsv s)] w fun e w' => e = .returned (.bool true) ∧ Below w.heap.size w w' := by
 have hml2 : maxLen ≤ 9223372036854775807 := by decide
 have HPA := Lib.hid (rparse_any s B w (by omega) hA)
 rw [show (⟨s.toArray⟩ : ByteArray) = bsv s from rfl] at HPA
 have HPB := Lib.hid (fun V => tparse_any s V hs)
 generalize Ag.parseS s = o at *
 clear hA hml2
 go_enter Tryz.func12, Tryz.ntmps12
 go_wp2_with fail
 refine HPA.out.mono ?_
 intro e w1 hP
 unfold ParseP at hP
 clear HPA
 cases o with
 | error k =>
  obtain ⟨rfl, hb1⟩ := hP
  have hbx := Blk.new w1 29 #[.int .i64 0, .slice none 0 0, .slice none 0 0, .slice none 0 0, .slice none 0 0, .slice none 0 0, .slice none 0 0, .slice none 0 0]
  have la := lowAlloc w1 (Obj.cells #[.int .i64 0, .slice none 0 0, .slice none 0 0, .slice none 0 0, .slice none 0 0, .slice none 0 0, .slice none 0 0, .slice none 0 0] 29)
  have lo := hb1.trans (la.mono hb1.size)
  clear hb1 la
  go_upto_region 2 with fail
  generalize w1.alloc (Obj.cells #[.int .i64 0, .slice none 0 0, .slice none 0 0, .slice none 0 0, .slice none 0 0, .slice none 0 0, .slice none 0 0, .slice none 0 0] 29) = W1 at *
  generalize w1.heap.size = B1 at *
  go_wp2_with fail
  refine (HPB.out _).mono ?_
  intro e w2 hQ
  unfold RParseP zeroC at hQ
  obtain ⟨rfl, hb2⟩ := hQ
  have hdx := Blk.new w2 29 #[.int .i64 0, .slice none 0 0, .slice none 0 0, .slice none 0 0, .slice none 0 0, .slice none 0 0, .slice none 0 0, .slice none 0 0]
  have la := lowAlloc w2 (Obj.cells #[.int .i64 0, .slice none 0 0, .slice none 0 0, .slice none 0 0, .slice none 0 0, .slice none 0 0, .slice none 0 0, .slice none 0 0] 29)
  have lb : Below W1.heap.size W1 _ := hb2.trans (la.mono hb2.size)
  replace hbx := hbx.below lb hbx.lt
  replace lo := lo.trans (lb.mono lo.size)
  clear hb2 la lb
  go_upto_region 3 with fail
  generalize w2.alloc (Obj.cells #[.int .i64 0, .slice none 0 0, .slice none 0 0, .slice none 0 0, .slice none 0 0, .slice none 0 0, .slice none 0 0, .slice none 0 0] 29) = W2 at *
  generalize w2.heap.size = B2 at *
  have HSM := Lib.hid (refSame4_any (Ag.mk 0 [] [] [] [] [] [] []) (Ag.mk 0 [] [] [] [] [] [] []) W2 rfl (zero_mem W2) (zero_mem W2) zero_wf)
  simp only [Ag.mk, List.length_nil] at HSM
  have c0 := hbx.cell 0
  have c1 := hbx.cell 1
  have c2 := hbx.cell 2
  have c3 := hbx.cell 3
  have c4 := hbx.cell 4
  have c5 := hbx.cell 5
  have c6 := hbx.cell 6
  have c7 := hbx.cell 7
  simp only [zD, zE, zF] at c0 c1 c2 c3 c4 c5 c6 c7
  have d0 := hdx.cell 0
  have d1 := hdx.cell 1
  have d2 := hdx.cell 2
  have d3 := hdx.cell 3
  have d4 := hdx.cell 4
  have d5 := hdx.cell 5
  have d6 := hdx.cell 6
  have d7 := hdx.cell 7
  simp only [zD, zE, zF] at d0 d1 d2 d3 d4 d5 d6 d7
  have hkk : ((k : Int) == (k : Int)) = true := by simp
  clear hbx hdx
  go_wp2_with fail
  refine HSM.out.mono ?_
  rintro e w3 ⟨rfl, hb3⟩
  replace lo := lo.trans (hb3.mono lo.size)
  clear c0 c1 c2 c3 c4 c5 c6 c7
  clear d0 d1 d2 d3 d4 d5 d6 d7
  clear HSM hb3
  go_wp2
  go_ret
  exact ⟨rfl, lo⟩
 | ok c0 =>
  obtain ⟨c, hsc, rfl, hM, hS, hcap, hb1⟩ := hP
  have hbx := Blk.new w1 29 #[.int .i64 c.n, .slice c.aL c.ls.length c.cL, .slice c.aG c.gs.length c.cG, .slice c.aO c.os.length c.cO, .slice c.aB c.bs.length c.cB, .slice c.aC c.cs.length c.cC, .slice c.aF c.fs.length c.cF, .slice c.aN c.ns.length c.cN]
  have la := lowAlloc w1 (Obj.cells #[.int .i64 c.n, .slice c.aL c.ls.length c.cL, .slice c.aG c.gs.length c.cG, .slice c.aO c.os.length c.cO, .slice c.aB c.bs.length c.cB, .slice c.aC c.cs.length c.cC, .slice c.aF c.fs.length c.cF, .slice c.aN c.ns.length c.cN] 29)
  replace hM := hM.on2 la
  have lo := hb1.trans (la.mono hb1.size)
  clear hb1 la
  go_upto_region 2 with fail
  generalize w1.alloc (Obj.cells #[.int .i64 c.n, .slice c.aL c.ls.length c.cL, .slice c.aG c.gs.length c.cG, .slice c.aO c.os.length c.cO, .slice c.aB c.bs.length c.cB, .slice c.aC c.cs.length c.cC, .slice c.aF c.fs.length c.cF, .slice c.aN c.ns.length c.cN] 29) = W1 at *
  generalize w1.heap.size = B1 at *
  have HS := Lib.hid hsc
  clear hsc
  go_wp2_with fail
  refine (HPB.out _).mono ?_
  intro e w2 hQ
  unfold RParseP at hQ
  obtain ⟨d, hsd, rfl, hMd, hb2⟩ := hQ
  have hdx := Blk.new w2 29 #[.int .i64 d.n, .slice d.aL d.ls.length d.cL, .slice d.aG d.gs.length d.cG, .slice d.aO d.os.length d.cO, .slice d.aB d.bs.length d.cB, .slice d.aC d.cs.length d.cC, .slice d.aF d.fs.length d.cF, .slice d.aN d.ns.length d.cN]
  have la := lowAlloc w2 (Obj.cells #[.int .i64 d.n, .slice d.aL d.ls.length d.cL, .slice d.aG d.gs.length d.cG, .slice d.aO d.os.length d.cO, .slice d.aB d.bs.length d.cB, .slice d.aC d.cs.length d.cC, .slice d.aF d.fs.length d.cF, .slice d.aN d.ns.length d.cN] 29)
  replace hMd := hMd.on2 la
  have lb : Below W1.heap.size W1 _ := hb2.trans (la.mono hb2.size)
  replace hM := hM.on2 lb
  replace hbx := hbx.below lb hbx.lt
  replace lo := lo.trans (lb.mono lo.size)
  clear hb2 la lb
  go_upto_region 3 with fail
  generalize w2.alloc (Obj.cells #[.int .i64 d.n, .slice d.aL d.ls.length d.cL, .slice d.aG d.gs.length d.cG, .slice d.aO d.os.length d.cO, .slice d.aB d.bs.length d.cB, .slice d.aC d.cs.length d.cC, .slice d.aF d.fs.length d.cF, .slice d.aN d.ns.length d.cN] 29) = W2 at *
  generalize w2.heap.size = B2 at *
  have HSM := Lib.hid (refSame4_any c d W2 (hsd.trans HS.out.symm) hM hMd hS.wf)
  clear hM hMd hsd
  have c0 := hbx.cell 0
  have c1 := hbx.cell 1
  have c2 := hbx.cell 2
  have c3 := hbx.cell 3
  have c4 := hbx.cell 4
  have c5 := hbx.cell 5
  have c6 := hbx.cell 6
  have c7 := hbx.cell 7
  simp only [zD, zE, zF] at c0 c1 c2 c3 c4 c5 c6 c7
  have d0 := hdx.cell 0
  have d1 := hdx.cell 1
  have d2 := hdx.cell 2
  have d3 := hdx.cell 3
  have d4 := hdx.cell 4
  have d5 := hdx.cell 5
  have d6 := hdx.cell 6
  have d7 := hdx.cell 7
  simp only [zD, zE, zF] at d0 d1 d2 d3 d4 d5 d6 d7
  clear hbx hdx
  go_wp2_with fail
  refine HSM.out.mono ?_
  rintro e w3 ⟨rfl, hb3⟩
  replace lo := lo.trans (hb3.mono lo.size)
  clear c0 c1 c2 c3 c4 c5 c6 c7
  clear d0 d1 d2 d3 d4 d5 d6 d7
  clear HSM hb3
  go_wp2
  go_ret
  exact ⟨rfl, lo⟩
end Go.Proofs.YtpejilhdhkmcjaaGreatDoor
/- AagBack, walked. -/
namespace Go.Proofs.YtpejilhdhkmcjaaGreatDoor
open Go.RowKit

theorem txt_small {k : Nat} (hk : k < 3) : (txt3 k).size ≤ 20 := by
 rcases three_cases hk with rfl | rfl | rfl <;> decide
theorem made_text {c : Cir} (h : MadeC c) : (Ag.printS c).length ≤ 5000 := by
 have hn : c.ns.length ≤ 2 ∧ ∀ x ∈ c.ns, x.2.2.size ≤ 20 := by
  rcases names_list h.names with e | e | ⟨_, k, hk, e | e⟩
  ·
   rw [e]; simp
  ·
   rw [e]; refine ⟨by simp, fun x hx => ?_⟩
   simp at hx; subst hx; decide
  ·
   rw [e]; refine ⟨by simp, fun x hx => ?_⟩
   simp at hx; subst hx
   exact txt_small hk
  rw [e]; refine ⟨by simp, fun x hx => ?_⟩
  simp at hx
  rcases hx with rfl | rfl
  ·
   decide
  exact txt_small hk
 have := Ag.print_len (Ag.right_ok h.right) hn.2
 have h1 := h.n3
 have h0 := h.n0
 have h2 := h.l3
 have h3 := h.g40
 have h4 := h.o3
 have h5 := h.b3
 have h6 := h.c3
 have h7 := h.f3
 have h8 := hn.1
 omega
theorem CirM.on {w w' : World} {c : Cir} (h : CirM w w.heap.size c) (hb : Below w.heap.size w w') : CirM w' w'.heap.size c := (h.below hb (Nat.le_refl _)).more hb.size
end Go.Proofs.YtpejilhdhkmcjaaGreatDoor
