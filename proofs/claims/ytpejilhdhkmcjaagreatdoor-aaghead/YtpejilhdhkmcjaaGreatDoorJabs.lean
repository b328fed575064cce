/- AagAgain, walked. -/
import Derived.Test.YtpejilhdhkmcjaaGreatDoorJaAl
import Derived.Test.YtpejilhdhkmcjaaGreatDoorJabp
import Derived.Test.YtpejilhdhkmcjaaGreatDoorJabq
import Derived.Test.YtpejilhdhkmcjaaGreatDoorJabr
import Derived.Test.YtpejilhdhkmcjaaGreatDoorJabi
namespace Go.Proofs.YtpejilhdhkmcjaaGreatDoor
open Go.RowKit

theorem CirM.on2 {w w' : World} {c : Cir} (h : CirM w w.heap.size c) (hb : Below w.heap.size w w') : CirM w' w'.heap.size c := (h.below hb (Nat.le_refl _)).more hb.size
end Go.Proofs.YtpejilhdhkmcjaaGreatDoor
/- same of layer 5: the program's circuit of a text is the document's. -/
namespace Go.Proofs.YtpejilhdhkmcjaaGreatDoor
open Go.RowKit

theorem zero_mem (w : World) : CirM w w.heap.size (Ag.mk 0 [] [] [] [] [] [] []) :=
 ⟨fun k hk => by simp [Ag.mk] at hk, fun k hk => by simp [Ag.mk] at hk, fun k hk => by simp [Ag.mk, iv] at hk, fun k hk => by simp [Ag.mk, iv] at hk, fun k hk => by simp [Ag.mk, iv] at hk, fun k hk => by simp [Ag.mk, iv] at hk, fun k hk => by simp [Ag.mk] at hk⟩
theorem zero_wf : CirW (Ag.mk 0 [] [] [] [] [] [] []) := by constructor <;> simp [Ag.mk, I64, Wf, IWf]
set_option maxRecDepth 100000 in
set_option maxHeartbeats 8000000 in
theorem same5_any (s : Ag.Bs) {B : Nat} (w : World) (hs : s.length ≤ maxLen) (hA : Amb B w) :
  Calls Tryz.prog 12 #[.string (bsv s)] w fun e w' => e = .returned (.bool true) ∧ Below w.heap.size w w' := by
 have hml2 : maxLen ≤ 9223372036854775807 := by decide
 have HPA := Lib.hid (rparse_any s B w (by omega) hA)
 rw [show (⟨s.toArray⟩ : ByteArray) = bsv s from rfl] at HPA
 have HPB := Lib.hid (fun V => tparse_any s V hs)
 generalize Ag.parseS s = o at *
 clear hA hml2
 go_enter Tryz.func12, Tryz.ntmps12
 go_wp2_with fail
 refine HPA.out.mono ?_
 intro e w1 hP
 unfold ParseP at hP
 clear HPA
 cases o with
 | error k =>
  obtain ⟨rfl, hb1⟩ := hP
  have hbx := Blk.new w1 29 #[.int .i64 0, .slice none 0 0, .slice none 0 0, .slice none 0 0, .slice none 0 0, .slice none 0 0, .slice none 0 0, .slice none 0 0]
  have la := lowAlloc w1 (Obj.cells #[.int .i64 0, .slice none 0 0, .slice none 0 0, .slice none 0 0, .slice none 0 0, .slice none 0 0, .slice none 0 0, .slice none 0 0] 29)
  have lo := hb1.trans (la.mono hb1.size)
  clear hb1 la
  go_upto_region 2 with fail
  generalize w1.alloc (Obj.cells #[.int .i64 0, .slice none 0 0, .slice none 0 0, .slice none 0 0, .slice none 0 0, .slice none 0 0, .slice none 0 0, .slice none 0 0] 29) = W1 at *
  generalize w1.heap.size = B1 at *
  go_wp2_with fail
  refine (HPB.out _).mono ?_
  intro e w2 hQ
  unfold RParseP zeroC at hQ
  obtain ⟨rfl, hb2⟩ := hQ
  have hdx := Blk.new w2 29 #[.int .i64 0, .slice none 0 0, .slice none 0 0, .slice none 0 0, .slice none 0 0, .slice none 0 0, .slice none 0 0, .slice none 0 0]
  have la := lowAlloc w2 (Obj.cells #[.int .i64 0, .slice none 0 0, .slice none 0 0, .slice none 0 0, .slice none 0 0, .slice none 0 0, .slice none 0 0, .slice none 0 0] 29)
  have lb : Below W1.heap.size W1 _ := hb2.trans (la.mono hb2.size)
  replace hbx := hbx.below lb hbx.lt
  replace lo := lo.trans (lb.mono lo.size)
  clear hb2 la lb
  go_upto_region 3 with fail
  generalize w2.alloc (Obj.cells #[.int .i64 0, .slice none 0 0, .slice none 0 0, .slice none 0 0, .slice none 0 0, .slice none 0 0, .slice none 0 0, .slice none 0 0] 29) = W2 at *
  generalize w2.heap.size = B2 at *
  have HSM := Lib.hid (refSame4_any (Ag.mk 0 [] [] [] [] [] [] []) (Ag.mk 0 [] [] [] [] [] [] []) W2 rfl (zero_mem W2) (zero_mem W2) zero_wf)
  simp only [Ag.mk, List.length_nil] at HSM
  have c0 := hbx.cell 0
  have c1 := hbx.cell 1
  have c2 := hbx.cell 2
  have c3 := hbx.cell 3
  have c4 := hbx.cell 4
  have c5 := hbx.cell 5
  have c6 := hbx.cell 6
  have c7 := hbx.cell 7
  simp only [zD, zE, zF] at c0 c1 c2 c3 c4 c5 c6 c7
  have d0 := hdx.cell 0
  have d1 := hdx.cell 1
  have d2 := hdx.cell 2
  have d3 := hdx.cell 3
  have d4 := hdx.cell 4
  have d5 := hdx.cell 5
  have d6 := hdx.cell 6
  have d7 := hdx.cell 7
  simp only [zD, zE, zF] at d0 d1 d2 d3 d4 d5 d6 d7
  have hkk : ((k : Int) == (k : Int)) = true := by simp
  clear hbx hdx
  go_wp2_with fail
  refine HSM.out.mono ?_
  rintro e w3 ⟨rfl, hb3⟩
  replace lo := lo.trans (hb3.mono lo.size)
  clear c0 c1 c2 c3 c4 c5 c6 c7
  clear d0 d1 d2 d3 d4 d5 d6 d7
  clear HSM hb3
  go_wp2
  go_ret
  exact ⟨rfl, lo⟩
 | ok c0 =>
  obtain ⟨c, hsc, rfl, hM, hS, hcap, hb1⟩ := hP
  have hbx := Blk.new w1 29 #[.int .i64 c.n, .slice c.aL c.ls.length c.cL, .slice c.aG c.gs.length c.cG, .slice c.aO c.os.length c.cO, .slice c.aB c.bs.length c.cB, .slice c.aC c.cs.length c.cC, .slice c.aF c.fs.length c.cF, .slice c.aN c.ns.length c.cN]
  have la := lowAlloc w1 (Obj.cells #[.int .i64 c.n, .slice c.aL c.ls.length c.cL, .slice c.aG c.gs.length c.cG, .slice c.aO c.os.length c.cO, .slice c.aB c.bs.length c.cB, .slice c.aC c.cs.length c.cC, .slice c.aF c.fs.length c.cF, .slice c.aN c.ns.length c.cN] 29)
  replace hM := hM.on2 la
  have lo := hb1.trans (la.mono hb1.size)
  clear hb1 la
  go_upto_region 2 with fail
  generalize w1.alloc (Obj.cells #[.int .i64 c.n, .slice c.aL c.ls.length c.cL, .slice c.aG c.gs.length c.cG, .slice c.aO c.os.length c.cO, .slice c.aB c.bs.length c.cB, .slice c.aC c.cs.length c.cC, .slice c.aF c.fs.length c.cF, .slice c.aN c.ns.length c.cN] 29) = W1 at *
  generalize w1.heap.size = B1 at *
  have HS := Lib.hid hsc
  clear hsc
  go_wp2_with fail
  refine (HPB.out _).mono ?_
  intro e w2 hQ
  unfold RParseP at hQ
  obtain ⟨d, hsd, rfl, hMd, hb2⟩ := hQ
  have hdx := Blk.new w2 29 #[.int .i64 d.n, .slice d.aL d.ls.length d.cL, .slice d.aG d.gs.length d.cG, .slice d.aO d.os.length d.cO, .slice d.aB d.bs.length d.cB, .slice d.aC d.cs.length d.cC, .slice d.aF d.fs.length d.cF, .slice d.aN d.ns.length d.cN]
  have la := lowAlloc w2 (Obj.cells #[.int .i64 d.n, .slice d.aL d.ls.length d.cL, .slice d.aG d.gs.length d.cG, .slice d.aO d.os.length d.cO, .slice d.aB d.bs.length d.cB, .slice d.aC d.cs.length d.cC, .slice d.aF d.fs.length d.cF, .slice d.aN d.ns.length d.cN] 29)
  replace hMd := hMd.on2 la
  have lb : Below W1.heap.size W1 _ := hb2.trans (la.mono hb2.size)
  replace hM := hM.on2 lb
  replace hbx := hbx.below lb hbx.lt
  replace lo := lo.trans (lb.mono lo.size)
  clear hb2 la lb
  go_upto_region 3 with fail
  generalize w2.alloc (Obj.cells #[.int .i64 d.n, .slice d.aL d.ls.length d.cL, .slice d.aG d.gs.length d.cG, .slice d.aO d.os.length d.cO, .slice d.aB d.bs.length d.cB, .slice d.aC d.cs.length d.cC, .slice d.aF d.fs.length d.cF, .slice d.aN d.ns.length d.cN] 29) = W2 at *
  generalize w2.heap.size = B2 at *
  have HSM := Lib.hid (refSame4_any c d W2 (hsd.trans HS.out.symm) hM hMd hS.wf)
  clear hM hMd hsd
  have c0 := hbx.cell 0
  have c1 := hbx.cell 1
  have c2 := hbx.cell 2
  have c3 := hbx.cell 3
  have c4 := hbx.cell 4
  have c5 := hbx.cell 5
  have c6 := hbx.cell 6
  have c7 := hbx.cell 7
  simp only [zD, zE, zF] at c0 c1 c2 c3 c4 c5 c6 c7
  have d0 := hdx.cell 0
  have d1 := hdx.cell 1
  have d2 := hdx.cell 2
  have d3 := hdx.cell 3
  have d4 := hdx.cell 4
  have d5 := hdx.cell 5
  have d6 := hdx.cell 6
  have d7 := hdx.cell 7
  simp only [zD, zE, zF] at d0 d1 d2 d3 d4 d5 d6 d7
  clear hbx hdx
  go_wp2_with fail
  refine HSM.out.mono ?_
  rintro e w3 ⟨rfl, hb3⟩
  replace lo := lo.trans (hb3.mono lo.size)
  clear c0 c1 c2 c3 c4 c5 c6 c7
  clear d0 d1 d2 d3 d4 d5 d6 d7
  clear HSM hb3
  go_wp2
  go_ret
  exact ⟨rfl, lo⟩
set_option maxRecDepth 100000 in
set_option maxHeartbeats 4000000 in
theorem aagSmall_walk (A : Option Addr) (c : Nat) (zs : List Int) (w : World) (hml : zs.length ≤ maxLen) (hU : Ub w w.heap.size A zs) (hA : Amb w.heap.size w) :
  Calls Tryz.prog 6 #[.slice A zs.length c] w fun e w' => e = .returned (.bool true) ∧ Below w.heap.size w w' := by
 have HAW := Lib.hid (awake5_any w.heap.size w hA)
 have hpl := textS_len zs
 have hmx : 308 ≤ maxLen := by decide
 go_enter Tryz.func6, Tryz.ntmps6
 go_wp2_with fail
 refine HAW.out.mono ?_
 rintro e w1 ⟨rfl, lo⟩
 have HPC := Lib.hid (pieces5_any A c zs w1 hml ((hU.below lo (Nat.le_refl _)).more lo.size))
 clear HAW hU hml
 go_wp2_with fail
 refine HPC.out.mono ?_
 rintro e w2 ⟨rfl, hb2⟩
 replace lo := lo.trans (hb2.mono lo.size)
 have HSA := Lib.hid (same5_any (textS zs) w2 (by omega) (hA.on lo))
 clear HPC hb2 hpl hmx
 generalize textS zs = T at *
 go_wp2_with fail
 refine HSA.out.mono ?_
 rintro e w3 ⟨rfl, hb3⟩
 replace lo := lo.trans (hb3.mono lo.size)
 clear HSA hb3
 go_wp2
 go_ret
 exact ⟨rfl, lo⟩
set_option maxRecDepth 100000 in
set_option maxHeartbeats 4000000 in
theorem aagParse_list (s : Ag.Bs) (w : World) (hs : s.length ≤ maxLen) (hA : Amb w.heap.size w) :
  Calls Tryz.prog 3 #[.string (bsv s)] w fun e w' => e = .returned (.bool true) ∧ Below w.heap.size w w' := by
 have HAW := Lib.hid (awake5_any w.heap.size w hA)
 have hz := bsv_size s
 go_enter Tryz.func3, Tryz.ntmps3
 go_wp2_with fail
 refine HAW.out.mono ?_
 rintro e w1 ⟨rfl, lo⟩
 have HSA := Lib.hid (same5_any s w1 hs (hA.on lo))
 clear HAW hs
 by_cases h6 : 600 < s.length
 ·
  have d1 : decide ((600 : Int) < ((bsv s).size : Int)) = true := decide_eq_true (by omega)
  have d2 : decide ((600 : Int) < (s.length : Int)) = true := decide_eq_true (by omega)
  by_cases h20 : s.length ≤ 20000
  ·
   have d3 : decide (((bsv s).size : Int) ≤ 20000) = true := decide_eq_true (by omega)
   have d4 : decide ((s.length : Int) ≤ 20000) = true := decide_eq_true (by omega)
   clear HSA
   go_wp2
   go_ret
   exact ⟨rfl, lo⟩
  have d3 : decide (((bsv s).size : Int) ≤ 20000) = false := decide_eq_false (by omega)
  have d4 : decide ((s.length : Int) ≤ 20000) = false := decide_eq_false (by omega)
  go_wp2_with fail
  refine HSA.out.mono ?_
  rintro e w3 ⟨rfl, hb3⟩
  replace lo := lo.trans (hb3.mono lo.size)
  clear HSA hb3
  go_wp2
  go_ret
  exact ⟨rfl, lo⟩
 have d1 : decide ((600 : Int) < ((bsv s).size : Int)) = false := decide_eq_false (by omega)
 have d2 : decide ((600 : Int) < (s.length : Int)) = false := decide_eq_false (by omega)
 go_wp2_with fail
 refine HSA.out.mono ?_
 rintro e w3 ⟨rfl, hb3⟩
 replace lo := lo.trans (hb3.mono lo.size)
 clear HSA hb3
 go_wp2
 go_ret
 exact ⟨rfl, lo⟩
theorem aagParse_walk (s : ByteArray) (w : World) (hs : s.size ≤ maxLen) (hA : Amb w.heap.size w) :
  Calls Tryz.prog 3 #[.string s] w fun e w' => e = .returned (.bool true) ∧ Below w.heap.size w w' := by
 obtain ⟨⟨l⟩⟩ := s
 exact aagParse_list l w hs hA
end Go.Proofs.YtpejilhdhkmcjaaGreatDoor
