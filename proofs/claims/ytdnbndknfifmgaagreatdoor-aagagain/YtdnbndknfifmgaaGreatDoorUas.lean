/- AagAgain, walked. -/
import Derived.Test.YtdnbndknfifmgaaGreatDoorUaq
import Derived.Test.YtdnbndknfifmgaaGreatDoorUar
namespace Go.Proofs.YtdnbndknfifmgaaGreatDoor
open Go.RowKit

theorem CirM.on2 {w w' : World} {c : Cir} (h : CirM w w.heap.size c) (hb : Below w.heap.size w w') : CirM w' w'.heap.size c := (h.below hb (Nat.le_refl _)).more hb.size
theorem parse_err {s : Ag.Bs} {k : Nat} (h : Ag.parseS s = .error k) : 2 ≤ k ∧ k ≤ 22 := by
  unfold Ag.parseS at h
  split at h
  · injection h with h; omega
  · split at h
    · injection h with h; omega
    · split at h
      · injection h with h; omega
      · split at h
        · cases h
        · injection h with h; omega
set_option maxRecDepth 100000 in
set_option maxHeartbeats 8000000 in
theorem aagAgain_list (s : Ag.Bs) (A : Option Addr) (c : Nat) (zs : List Int) (small : Bool) {B : Nat} (w : World) (hsl : s.length ≤ maxLen) (hml : zs.length ≤ maxLen) (hU : Ub w w.heap.size A zs) (hA : Amb B w) :
    Calls Tryz.prog 9 #[.string ⟨s.toArray⟩, .slice A zs.length c, .bool small] w fun e w' => e = .returned (.bool true) ∧ Below w.heap.size w w' := by
  have hz : (⟨s.toArray⟩ : ByteArray).size = s.length := by simp [ByteArray.size]
  have hml2 : maxLen ≤ 9223372036854775807 := by decide
  have HAW := Lib.hid (awake5_any B w hA)
  go_enter Tryz.func9, Tryz.ntmps9
  go_wp2_with fail
  refine HAW.out.mono ?_
  rintro e w1 ⟨rfl, lo⟩
  have HPC := Lib.hid (pieces5_any A c zs w1 hml ((hU.below lo (Nat.le_refl _)).more lo.size))
  clear hU HAW
  by_cases hsm : small = true
  · subst hsm
    clear hz hsl hml2
    go_wp2_with fail
    refine HPC.out.mono ?_
    rintro e w2 ⟨rfl, hb2⟩
    replace lo := lo.trans (hb2.mono lo.size)
    clear HPC hb2 hml
    have hTL : (textS zs).length ≤ 600 := by first | exact hs | exact Nat.le_trans (textS_len _) (by omega)
    have AW := hA.on (lo.mono hA.le)
    have HPA := Lib.hid (rparse_any (textS zs) B w2 (by omega) AW)
    cases ho : Ag.parseS (textS zs) with
    | error k =>
      rw [ho] at HPA
      have hk0 : ((k : Int) != 0) = true := by
        have := parse_err ho
        simp
        omega
      clear AW ho
      go_wp2_with fail
      refine HPA.out.mono ?_
      rintro e w2 ⟨rfl, hb2⟩
      have lo2 := lo.trans (hb2.mono lo.size)
      replace lo2 := lo2.alloc lo2.size (Obj.cells #[.int .i64 0, .slice none 0 0, .slice none 0 0, .slice none 0 0, .slice none 0 0, .slice none 0 0, .slice none 0 0, .slice none 0 0] 29)
      clear HPA hb2
      go_wp2
      go_ret
      exact ⟨rfl, lo2⟩
    | ok c0 =>
      rw [ho] at HPA
      have hpa := Ag.parse_again ho (by omega)
      obtain ⟨hri, hpl, hst⟩ := Ag.print_short ho
      clear AW ho
      go_wp2_with fail
      refine HPA.out.mono ?_
      rintro e w2 ⟨c, hsc, rfl, hM, hS, hcap, hb2⟩
      have lo2 := lo.trans (hb2.mono lo.size)
      have hbx := Blk.new w2 29 #[.int .i64 c.n, .slice c.aL c.ls.length c.cL, .slice c.aG c.gs.length c.cG, .slice c.aO c.os.length c.cO, .slice c.aB c.bs.length c.cB, .slice c.aC c.cs.length c.cC, .slice c.aF c.fs.length c.cF, .slice c.aN c.ns.length c.cN]
      have la := lowAlloc w2 (Obj.cells #[.int .i64 c.n, .slice c.aL c.ls.length c.cL, .slice c.aG c.gs.length c.cG, .slice c.aO c.os.length c.cO, .slice c.aB c.bs.length c.cB, .slice c.aC c.cs.length c.cC, .slice c.aF c.fs.length c.cF, .slice c.aN c.ns.length c.cN] 29)
      replace hM := hM.on2 la
      replace lo2 := lo2.trans (la.mono lo2.size)
      have e1 : Ag.printS c0 = Ag.printS c := by rw [← hsc]; rfl
      have e2 : Cm.rightC c = true := by rw [← hri, ← hsc]; exact (Ag.right_strip c).symm
      rw [e1] at hpa hpl
      clear HPA hb2 la hri e1
      go_upto_region 9 with fail
      generalize w2.alloc (Obj.cells #[.int .i64 c.n, .slice c.aL c.ls.length c.cL, .slice c.aG c.gs.length c.cG, .slice c.aO c.os.length c.cO, .slice c.aB c.bs.length c.cB, .slice c.aC c.cs.length c.cC, .slice c.aF c.fs.length c.cF, .slice c.aN c.ns.length c.cN] 29) = W3 at *
      generalize w2.heap.size = B0 at *
      have A3 := hA.on (lo2.mono hA.le)
      have HPR := Lib.hid (aagPrint_any c B W3 hM hS.wf hcap (fun _ => by omega) A3)
      unfold PrintP at HPR
      rw [if_pos e2] at HPR
      generalize Ag.printS c = P at *
      have HP1 := Lib.hid hpa
      have HPL := Lib.hid hpl
      have HTL := Lib.hid hTL
      clear hpa hpl hTL A3
      have c0 := hbx.cell 0
      have c1 := hbx.cell 1
      have c2 := hbx.cell 2
      have c3 := hbx.cell 3
      have c4 := hbx.cell 4
      have c5 := hbx.cell 5
      have c6 := hbx.cell 6
      have c7 := hbx.cell 7
      simp only [List.getElem?_toArray, List.getElem?_cons_zero, List.getElem?_cons_succ] at c0 c1 c2 c3 c4 c5 c6 c7
      go_wp2_with fail
      refine HPR.out.mono ?_
      rintro e w4 ⟨rfl, hb4⟩
      clear c0 c1 c2 c3 c4 c5 c6 c7
      replace hM := hM.on2 hb4
      replace hbx := hbx.below hb4 hbx.lt
      replace lo2 := lo2.trans (hb4.mono lo2.size)
      clear hb4 HPR
      have A4 := hA.on (lo2.mono hA.le)
      have HPB := Lib.hid (rparse_any P B w4 (by have := HPL.out; have := HTL.out; omega) A4)
      rw [HP1.out] at HPB
      clear A4
      go_wp2_with fail
      refine HPB.out.mono ?_
      rintro e w5 ⟨d, hsd, rfl, hMd, hSd, hcd, hb5⟩
      have hdx := Blk.new w5 29 #[.int .i64 d.n, .slice d.aL d.ls.length d.cL, .slice d.aG d.gs.length d.cG, .slice d.aO d.os.length d.cO, .slice d.aB d.bs.length d.cB, .slice d.aC d.cs.length d.cC, .slice d.aF d.fs.length d.cF, .slice d.aN d.ns.length d.cN]
      have la := lowAlloc w5 (Obj.cells #[.int .i64 d.n, .slice d.aL d.ls.length d.cL, .slice d.aG d.gs.length d.cG, .slice d.aO d.os.length d.cO, .slice d.aB d.bs.length d.cB, .slice d.aC d.cs.length d.cC, .slice d.aF d.fs.length d.cF, .slice d.aN d.ns.length d.cN] 29)
      replace hMd := hMd.on2 la
      have lb : Below w4.heap.size w4 _ := hb5.trans (la.mono hb5.size)
      replace hM := hM.on2 lb
      replace hbx := hbx.below lb hbx.lt
      replace lo2 := lo2.trans (lb.mono lo2.size)
      clear HPB hb5 la
      go_upto_region 11 with fail
      generalize w5.alloc (Obj.cells #[.int .i64 d.n, .slice d.aL d.ls.length d.cL, .slice d.aG d.gs.length d.cG, .slice d.aO d.os.length d.cO, .slice d.aB d.bs.length d.cB, .slice d.aC d.cs.length d.cC, .slice d.aF d.fs.length d.cF, .slice d.aN d.ns.length d.cN] 29) = W5 at *
      generalize w5.heap.size = B1 at *
      have HSM := Lib.hid (refSame4_any c d W5 (hsd.trans hsc.symm) hM hMd hS.wf)
      clear lb hM hMd hsd hsc hst
      have c0 := hbx.cell 0
      have c1 := hbx.cell 1
      have c2 := hbx.cell 2
      have c3 := hbx.cell 3
      have c4 := hbx.cell 4
      have c5 := hbx.cell 5
      have c6 := hbx.cell 6
      have c7 := hbx.cell 7
      simp only [List.getElem?_toArray, List.getElem?_cons_zero, List.getElem?_cons_succ] at c0 c1 c2 c3 c4 c5 c6 c7
      have d0 := hdx.cell 0
      have d1 := hdx.cell 1
      have d2 := hdx.cell 2
      have d3 := hdx.cell 3
      have d4 := hdx.cell 4
      have d5 := hdx.cell 5
      have d6 := hdx.cell 6
      have d7 := hdx.cell 7
      simp only [List.getElem?_toArray, List.getElem?_cons_zero, List.getElem?_cons_succ] at d0 d1 d2 d3 d4 d5 d6 d7
      go_wp2_with fail
      refine HSM.out.mono ?_
      rintro e w6 ⟨rfl, hb6⟩
      replace lo2 := lo2.trans (hb6.mono lo2.size)
      clear HSM hb6 c0 c1 c2 c3 c4 c5 c6 c7 d0 d1 d2 d3 d4 d5 d6 d7
      go_wp2
      go_ret
      exact ⟨rfl, lo2⟩
  · obtain rfl : small = false := by simpa using hsm
    clear hsm
    by_cases hs : s.length ≤ 600
    · have dl : decide (((⟨s.toArray⟩ : ByteArray).size : Int) > 600) = false := decide_eq_false (by omega)
      have dl2 : decide ((600 : Int) < ((⟨s.toArray⟩ : ByteArray).size : Int)) = false := decide_eq_false (by omega)
      clear HPC hml hml2
      have hTL : s.length ≤ 600 := by first | exact hs | exact Nat.le_trans (textS_len _) (by omega)
      have AW := hA.on (lo.mono hA.le)
      have HPA := Lib.hid (rparse_any s B w1 (by omega) AW)
      cases ho : Ag.parseS s with
      | error k =>
        rw [ho] at HPA
        have hk0 : ((k : Int) != 0) = true := by
          have := parse_err ho
          simp
          omega
        clear AW ho
        go_wp2_with fail
        refine HPA.out.mono ?_
        rintro e w2 ⟨rfl, hb2⟩
        have lo2 := lo.trans (hb2.mono lo.size)
        replace lo2 := lo2.alloc lo2.size (Obj.cells #[.int .i64 0, .slice none 0 0, .slice none 0 0, .slice none 0 0, .slice none 0 0, .slice none 0 0, .slice none 0 0, .slice none 0 0] 29)
        clear HPA hb2
        go_wp2
        go_ret
        exact ⟨rfl, lo2⟩
      | ok c0 =>
        rw [ho] at HPA
        have hpa := Ag.parse_again ho (by omega)
        obtain ⟨hri, hpl, hst⟩ := Ag.print_short ho
        clear AW ho
        go_wp2_with fail
        refine HPA.out.mono ?_
        rintro e w2 ⟨c, hsc, rfl, hM, hS, hcap, hb2⟩
        have lo2 := lo.trans (hb2.mono lo.size)
        have hbx := Blk.new w2 29 #[.int .i64 c.n, .slice c.aL c.ls.length c.cL, .slice c.aG c.gs.length c.cG, .slice c.aO c.os.length c.cO, .slice c.aB c.bs.length c.cB, .slice c.aC c.cs.length c.cC, .slice c.aF c.fs.length c.cF, .slice c.aN c.ns.length c.cN]
        have la := lowAlloc w2 (Obj.cells #[.int .i64 c.n, .slice c.aL c.ls.length c.cL, .slice c.aG c.gs.length c.cG, .slice c.aO c.os.length c.cO, .slice c.aB c.bs.length c.cB, .slice c.aC c.cs.length c.cC, .slice c.aF c.fs.length c.cF, .slice c.aN c.ns.length c.cN] 29)
        replace hM := hM.on2 la
        replace lo2 := lo2.trans (la.mono lo2.size)
        have e1 : Ag.printS c0 = Ag.printS c := by rw [← hsc]; rfl
        have e2 : Cm.rightC c = true := by rw [← hri, ← hsc]; exact (Ag.right_strip c).symm
        rw [e1] at hpa hpl
        clear HPA hb2 la hri e1
        go_upto_region 9 with fail
        generalize w2.alloc (Obj.cells #[.int .i64 c.n, .slice c.aL c.ls.length c.cL, .slice c.aG c.gs.length c.cG, .slice c.aO c.os.length c.cO, .slice c.aB c.bs.length c.cB, .slice c.aC c.cs.length c.cC, .slice c.aF c.fs.length c.cF, .slice c.aN c.ns.length c.cN] 29) = W3 at *
        generalize w2.heap.size = B0 at *
        have A3 := hA.on (lo2.mono hA.le)
        have HPR := Lib.hid (aagPrint_any c B W3 hM hS.wf hcap (fun _ => by omega) A3)
        unfold PrintP at HPR
        rw [if_pos e2] at HPR
        generalize Ag.printS c = P at *
        have HP1 := Lib.hid hpa
        have HPL := Lib.hid hpl
        have HTL := Lib.hid hTL
        clear hpa hpl hTL A3
        have c0 := hbx.cell 0
        have c1 := hbx.cell 1
        have c2 := hbx.cell 2
        have c3 := hbx.cell 3
        have c4 := hbx.cell 4
        have c5 := hbx.cell 5
        have c6 := hbx.cell 6
        have c7 := hbx.cell 7
        simp only [List.getElem?_toArray, List.getElem?_cons_zero, List.getElem?_cons_succ] at c0 c1 c2 c3 c4 c5 c6 c7
        go_wp2_with fail
        refine HPR.out.mono ?_
        rintro e w4 ⟨rfl, hb4⟩
        clear c0 c1 c2 c3 c4 c5 c6 c7
        replace hM := hM.on2 hb4
        replace hbx := hbx.below hb4 hbx.lt
        replace lo2 := lo2.trans (hb4.mono lo2.size)
        clear hb4 HPR
        have A4 := hA.on (lo2.mono hA.le)
        have HPB := Lib.hid (rparse_any P B w4 (by have := HPL.out; have := HTL.out; omega) A4)
        rw [HP1.out] at HPB
        clear A4
        go_wp2_with fail
        refine HPB.out.mono ?_
        rintro e w5 ⟨d, hsd, rfl, hMd, hSd, hcd, hb5⟩
        have hdx := Blk.new w5 29 #[.int .i64 d.n, .slice d.aL d.ls.length d.cL, .slice d.aG d.gs.length d.cG, .slice d.aO d.os.length d.cO, .slice d.aB d.bs.length d.cB, .slice d.aC d.cs.length d.cC, .slice d.aF d.fs.length d.cF, .slice d.aN d.ns.length d.cN]
        have la := lowAlloc w5 (Obj.cells #[.int .i64 d.n, .slice d.aL d.ls.length d.cL, .slice d.aG d.gs.length d.cG, .slice d.aO d.os.length d.cO, .slice d.aB d.bs.length d.cB, .slice d.aC d.cs.length d.cC, .slice d.aF d.fs.length d.cF, .slice d.aN d.ns.length d.cN] 29)
        replace hMd := hMd.on2 la
        have lb : Below w4.heap.size w4 _ := hb5.trans (la.mono hb5.size)
        replace hM := hM.on2 lb
        replace hbx := hbx.below lb hbx.lt
        replace lo2 := lo2.trans (lb.mono lo2.size)
        clear HPB hb5 la
        go_upto_region 11 with fail
        generalize w5.alloc (Obj.cells #[.int .i64 d.n, .slice d.aL d.ls.length d.cL, .slice d.aG d.gs.length d.cG, .slice d.aO d.os.length d.cO, .slice d.aB d.bs.length d.cB, .slice d.aC d.cs.length d.cC, .slice d.aF d.fs.length d.cF, .slice d.aN d.ns.length d.cN] 29) = W5 at *
        generalize w5.heap.size = B1 at *
        have HSM := Lib.hid (refSame4_any c d W5 (hsd.trans hsc.symm) hM hMd hS.wf)
        clear lb hM hMd hsd hsc hst
        have c0 := hbx.cell 0
        have c1 := hbx.cell 1
        have c2 := hbx.cell 2
        have c3 := hbx.cell 3
        have c4 := hbx.cell 4
        have c5 := hbx.cell 5
        have c6 := hbx.cell 6
        have c7 := hbx.cell 7
        simp only [List.getElem?_toArray, List.getElem?_cons_zero, List.getElem?_cons_succ] at c0 c1 c2 c3 c4 c5 c6 c7
        have d0 := hdx.cell 0
        have d1 := hdx.cell 1
        have d2 := hdx.cell 2
        have d3 := hdx.cell 3
        have d4 := hdx.cell 4
        have d5 := hdx.cell 5
        have d6 := hdx.cell 6
        have d7 := hdx.cell 7
        simp only [List.getElem?_toArray, List.getElem?_cons_zero, List.getElem?_cons_succ] at d0 d1 d2 d3 d4 d5 d6 d7
        go_wp2_with fail
        refine HSM.out.mono ?_
        rintro e w6 ⟨rfl, hb6⟩
        replace lo2 := lo2.trans (hb6.mono lo2.size)
        clear HSM hb6 c0 c1 c2 c3 c4 c5 c6 c7 d0 d1 d2 d3 d4 d5 d6 d7
        go_wp2
        go_ret
        exact ⟨rfl, lo2⟩
    · have dl : decide (((⟨s.toArray⟩ : ByteArray).size : Int) > 600) = true := decide_eq_true (by omega)
      have dl2 : decide ((600 : Int) < ((⟨s.toArray⟩ : ByteArray).size : Int)) = true := decide_eq_true (by omega)
      go_wp2_with fail
      refine HPC.out.mono ?_
      rintro e w2 ⟨rfl, hb2⟩
      replace lo := lo.trans (hb2.mono lo.size)
      clear HPC hb2 hml hz hsl hml2 dl dl2 hs
      have hTL : (textS zs).length ≤ 600 := by first | exact hs | exact Nat.le_trans (textS_len _) (by omega)
      have AW := hA.on (lo.mono hA.le)
      have HPA := Lib.hid (rparse_any (textS zs) B w2 (by omega) AW)
      cases ho : Ag.parseS (textS zs) with
      | error k =>
        rw [ho] at HPA
        have hk0 : ((k : Int) != 0) = true := by
          have := parse_err ho
          simp
          omega
        clear AW ho
        go_wp2_with fail
        refine HPA.out.mono ?_
        rintro e w2 ⟨rfl, hb2⟩
        have lo2 := lo.trans (hb2.mono lo.size)
        replace lo2 := lo2.alloc lo2.size (Obj.cells #[.int .i64 0, .slice none 0 0, .slice none 0 0, .slice none 0 0, .slice none 0 0, .slice none 0 0, .slice none 0 0, .slice none 0 0] 29)
        clear HPA hb2
        go_wp2
        go_ret
        exact ⟨rfl, lo2⟩
      | ok c0 =>
        rw [ho] at HPA
        have hpa := Ag.parse_again ho (by omega)
        obtain ⟨hri, hpl, hst⟩ := Ag.print_short ho
        clear AW ho
        go_wp2_with fail
        refine HPA.out.mono ?_
        rintro e w2 ⟨c, hsc, rfl, hM, hS, hcap, hb2⟩
        have lo2 := lo.trans (hb2.mono lo.size)
        have hbx := Blk.new w2 29 #[.int .i64 c.n, .slice c.aL c.ls.length c.cL, .slice c.aG c.gs.length c.cG, .slice c.aO c.os.length c.cO, .slice c.aB c.bs.length c.cB, .slice c.aC c.cs.length c.cC, .slice c.aF c.fs.length c.cF, .slice c.aN c.ns.length c.cN]
        have la := lowAlloc w2 (Obj.cells #[.int .i64 c.n, .slice c.aL c.ls.length c.cL, .slice c.aG c.gs.length c.cG, .slice c.aO c.os.length c.cO, .slice c.aB c.bs.length c.cB, .slice c.aC c.cs.length c.cC, .slice c.aF c.fs.length c.cF, .slice c.aN c.ns.length c.cN] 29)
        replace hM := hM.on2 la
        replace lo2 := lo2.trans (la.mono lo2.size)
        have e1 : Ag.printS c0 = Ag.printS c := by rw [← hsc]; rfl
        have e2 : Cm.rightC c = true := by rw [← hri, ← hsc]; exact (Ag.right_strip c).symm
        rw [e1] at hpa hpl
        clear HPA hb2 la hri e1
        go_upto_region 9 with fail
        generalize w2.alloc (Obj.cells #[.int .i64 c.n, .slice c.aL c.ls.length c.cL, .slice c.aG c.gs.length c.cG, .slice c.aO c.os.length c.cO, .slice c.aB c.bs.length c.cB, .slice c.aC c.cs.length c.cC, .slice c.aF c.fs.length c.cF, .slice c.aN c.ns.length c.cN] 29) = W3 at *
        generalize w2.heap.size = B0 at *
        have A3 := hA.on (lo2.mono hA.le)
        have HPR := Lib.hid (aagPrint_any c B W3 hM hS.wf hcap (fun _ => by omega) A3)
        unfold PrintP at HPR
        rw [if_pos e2] at HPR
        generalize Ag.printS c = P at *
        have HP1 := Lib.hid hpa
        have HPL := Lib.hid hpl
        have HTL := Lib.hid hTL
        clear hpa hpl hTL A3
        have c0 := hbx.cell 0
        have c1 := hbx.cell 1
        have c2 := hbx.cell 2
        have c3 := hbx.cell 3
        have c4 := hbx.cell 4
        have c5 := hbx.cell 5
        have c6 := hbx.cell 6
        have c7 := hbx.cell 7
        simp only [List.getElem?_toArray, List.getElem?_cons_zero, List.getElem?_cons_succ] at c0 c1 c2 c3 c4 c5 c6 c7
        go_wp2_with fail
        refine HPR.out.mono ?_
        rintro e w4 ⟨rfl, hb4⟩
        clear c0 c1 c2 c3 c4 c5 c6 c7
        replace hM := hM.on2 hb4
        replace hbx := hbx.below hb4 hbx.lt
        replace lo2 := lo2.trans (hb4.mono lo2.size)
        clear hb4 HPR
        have A4 := hA.on (lo2.mono hA.le)
        have HPB := Lib.hid (rparse_any P B w4 (by have := HPL.out; have := HTL.out; omega) A4)
        rw [HP1.out] at HPB
        clear A4
        go_wp2_with fail
        refine HPB.out.mono ?_
        rintro e w5 ⟨d, hsd, rfl, hMd, hSd, hcd, hb5⟩
        have hdx := Blk.new w5 29 #[.int .i64 d.n, .slice d.aL d.ls.length d.cL, .slice d.aG d.gs.length d.cG, .slice d.aO d.os.length d.cO, .slice d.aB d.bs.length d.cB, .slice d.aC d.cs.length d.cC, .slice d.aF d.fs.length d.cF, .slice d.aN d.ns.length d.cN]
        have la := lowAlloc w5 (Obj.cells #[.int .i64 d.n, .slice d.aL d.ls.length d.cL, .slice d.aG d.gs.length d.cG, .slice d.aO d.os.length d.cO, .slice d.aB d.bs.length d.cB, .slice d.aC d.cs.length d.cC, .slice d.aF d.fs.length d.cF, .slice d.aN d.ns.length d.cN] 29)
        replace hMd := hMd.on2 la
        have lb : Below w4.heap.size w4 _ := hb5.trans (la.mono hb5.size)
        replace hM := hM.on2 lb
        replace hbx := hbx.below lb hbx.lt
        replace lo2 := lo2.trans (lb.mono lo2.size)
        clear HPB hb5 la
        go_upto_region 11 with fail
        generalize w5.alloc (Obj.cells #[.int .i64 d.n, .slice d.aL d.ls.length d.cL, .slice d.aG d.gs.length d.cG, .slice d.aO d.os.length d.cO, .slice d.aB d.bs.length d.cB, .slice d.aC d.cs.length d.cC, .slice d.aF d.fs.length d.cF, .slice d.aN d.ns.length d.cN] 29) = W5 at *
        generalize w5.heap.size = B1 at *
        have HSM := Lib.hid (refSame4_any c d W5 (hsd.trans hsc.symm) hM hMd hS.wf)
        clear lb hM hMd hsd hsc hst
        have c0 := hbx.cell 0
        have c1 := hbx.cell 1
        have c2 := hbx.cell 2
        have c3 := hbx.cell 3
        have c4 := hbx.cell 4
        have c5 := hbx.cell 5
        have c6 := hbx.cell 6
        have c7 := hbx.cell 7
        simp only [List.getElem?_toArray, List.getElem?_cons_zero, List.getElem?_cons_succ] at c0 c1 c2 c3 c4 c5 c6 c7
        have d0 := hdx.cell 0
        have d1 := hdx.cell 1
        have d2 := hdx.cell 2
        have d3 := hdx.cell 3
        have d4 := hdx.cell 4
        have d5 := hdx.cell 5
        have d6 := hdx.cell 6
        have d7 := hdx.cell 7
        simp only [List.getElem?_toArray, List.getElem?_cons_zero, List.getElem?_cons_succ] at d0 d1 d2 d3 d4 d5 d6 d7
        go_wp2_with fail
        refine HSM.out.mono ?_
        rintro e w6 ⟨rfl, hb6⟩
        replace lo2 := lo2.trans (hb6.mono lo2.size)
        clear HSM hb6 c0 c1 c2 c3 c4 c5 c6 c7 d0 d1 d2 d3 d4 d5 d6 d7
        go_wp2
        go_ret
        exact ⟨rfl, lo2⟩
theorem aagAgain_walk (s : ByteArray) (A : Option Addr) (c : Nat) (zs : List Int) (small : Bool) (w : World) (hsl : s.size ≤ maxLen) (hml : zs.length ≤ maxLen) (hU : Ub w w.heap.size A zs) (hA : Amb w.heap.size w) :
    Calls Tryz.prog 9 #[.string s, .slice A zs.length c, .bool small] w fun e w' => e = .returned (.bool true) ∧ Below w.heap.size w w' := by
  obtain ⟨⟨l⟩⟩ := s
  exact aagAgain_list l A c zs small w hsl hml hU hA
end Go.Proofs.YtdnbndknfifmgaaGreatDoor
