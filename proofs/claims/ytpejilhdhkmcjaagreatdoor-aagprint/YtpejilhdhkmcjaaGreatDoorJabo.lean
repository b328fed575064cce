/- The writer of texts: Print. -/
import Derived.Test.YtpejilhdhkmcjaaGreatDoorJaAl
import Derived.Test.YtpejilhdhkmcjaaGreatDoorJabn
namespace Go.Proofs.YtpejilhdhkmcjaaGreatDoor
open Go.RowKit

theorem insP_snoc (k i : Nat) : Ag.insP (k + 1) i = Ag.insP k i ++ Ag.lineOf [2 * (i + k + 1)] := by
 induction k generalizing i with
 | zero => simp [Ag.insP]
 | succ k ih =>
  rw [Ag.insP, ih (i + 1), Ag.insP, List.append_assoc, show i + 1 + k + 1 = i + (k + 1) + 1 by omega]
theorem latsP_snoc (b : Bool) (ls : List (Int × Int)) (q : Int × Int) (i : Nat) : Ag.latsP b (ls ++ [q]) i = Ag.latsP b ls i ++ Ag.latP (if b then [2 * (i + ls.length + 1)] else []) (2 * (i + ls.length + 1)) q := by
 induction ls generalizing i with
 | nil => simp [Ag.latsP]
 | cons a t ih =>
  rw [List.cons_append, Ag.latsP, ih (i + 1), Ag.latsP, List.append_assoc, List.length_cons, show i + 1 + t.length + 1 = i + (t.length + 1) + 1 by omega]
theorem latsP_take (ls : List (Int × Int)) (i j : Nat) (h : j < ls.length) : Ag.latsP true (ls.take (j + 1)) i = Ag.latsP true (ls.take j) i ++ Ag.latP [2 * (i + j + 1)] (2 * (i + j + 1)) ls[j] := by
 rw [List.take_succ_eq_append_getElem h, latsP_snoc]
 have e : (ls.take j).length = j := by rw [List.length_take]; omega
 rw [e]
 rfl
theorem gatP_snoc (gs : List (Int × Int)) (g : Int × Int) (i : Nat) : Ag.gatP (gs ++ [g]) i = Ag.gatP gs i ++ Ag.lineOf [2 * (i + gs.length + 1), g.1.toNat, g.2.toNat] := by
 induction gs generalizing i with
 | nil => simp [Ag.gatP]
 | cons a t ih =>
  rw [List.cons_append, Ag.gatP, ih (i + 1), Ag.gatP, List.append_assoc, List.length_cons, show i + 1 + t.length + 1 = i + (t.length + 1) + 1 by omega]
theorem gatP_take (gs : List (Int × Int)) (i j : Nat) (h : j < gs.length) : Ag.gatP (gs.take (j + 1)) i = Ag.gatP (gs.take j) i ++ Ag.lineOf [2 * (i + j + 1), (gs[j]).1.toNat, (gs[j]).2.toNat] := by
 rw [List.take_succ_eq_append_getElem h, gatP_snoc]
 have e : (gs.take j).length = j := by rw [List.length_take]; omega
 rw [e]
theorem WK.drw {R : Nat} {a b : World} (h : WK R a b) : WK R a b.drew := ⟨h.low.drew, h.oth.drew⟩
theorem WB.drw {w : World} {R : Nat} {bs : Ag.Bs} (h : WB w R bs) : WB w.drew R bs := h
theorem arg_three (w : World) (R o x y : Nat) (hR : w.heap.size ≠ R) : Arg ((w.alloc (Obj.cells #[.int .i64 (o : Int), .int .i64 (x : Int), .int .i64 (y : Int)] 3)).drew) R w.heap.size 0 [o, x, y] := by
 refine ⟨_, _, Blk.dr (Blk.new w 3 #[.int .i64 (o : Int), .int .i64 (x : Int), .int .i64 (y : Int)]), hR, by decide, fun j hj => ?_⟩
 have h3 : j < 3 := hj
 have : j = 0 ∨ j = 1 ∨ j = 2 := by omega
 rcases this with rfl | rfl | rfl <;> rfl
theorem ixGt (A : Option Addr) (b off n c r : Nat) (hA : A = some ⟨b, off, none⟩) (_hn : n ≤ 1000000) (hr : r < n) (w : World) : (Instr.indexAt 25 (.slice A n c) (.int .i64 (r : Int))).run Tryz.prog w = .ok (.pointer (some ⟨b, off + r * 2, none⟩)) w := by
 subst hA
 go_simp
theorem latP_nat (own m k : Nat) : Ag.latP [own] own ((m : Int), (k : Int)) = Ag.lineOf (own :: m :: (if k = 1 then [1] else if k = 2 then [own] else [])) := by
 unfold Ag.latP
 simp only [Int.toNat_natCast, List.cons_append, List.nil_append]
 have e1 : ((k : Int) = 1) ↔ k = 1 := by omega
 have e2 : ((k : Int) = 2) ↔ k = 2 := by omega
 simp only [e1, e2]
theorem ixLt (A : Option Addr) (b off n c r : Nat) (hA : A = some ⟨b, off, none⟩) (_hn : n ≤ 1000000) (hr : r < n) (w : World) : (Instr.indexAt 24 (.slice A n c) (.int .i64 (r : Int))).run Tryz.prog w = .ok (.pointer (some ⟨b, off + r * 2, none⟩)) w := by
 subst hA
 go_simp
/-- A circuit is printed, or refused. -/
def PrintP (w : World) (c : Cir) (e : Ending) (w' : World) : Prop :=
 (e = .returned (if Cm.rightC c = true then .tuple #[.string ⟨(Ag.printS c).toArray⟩, .int .i64 0] else .tuple #[.string ⟨#[]⟩, .int .i64 1])) ∧ Below w.heap.size w w'
set_option maxRecDepth 10000 in
set_option maxHeartbeats 4000000 in
theorem aagPrint_any (c : Cir) (B : Nat) (w : World) (hM : CirM w w.heap.size c) (hCW : CirW c) (hcap : c.ns.length ≤ c.cN) (hL : Cm.rightC c = true → (Ag.printS c).length ≤ 800000000) (hA : Amb B w) :
  Calls Tryz.prog 13 #[.agg #[.int .i64 c.n, .slice c.aL c.ls.length c.cL, .slice c.aG c.gs.length c.cG, .slice c.aO c.os.length c.cO, .slice c.aB c.bs.length c.cB, .slice c.aC c.cs.length c.cC, .slice c.aF c.fs.length c.cF, .slice c.aN c.ns.length c.cN]] w (PrintP w c) := by
 have hbx := Blk.new w 29 #[.int .i64 c.n, .slice c.aL c.ls.length c.cL, .slice c.aG c.gs.length c.cG, .slice c.aO c.os.length c.cO, .slice c.aB c.bs.length c.cB, .slice c.aC c.cs.length c.cC, .slice c.aF c.fs.length c.cF, .slice c.aN c.ns.length c.cN]
 have lo1 := lowAlloc w (Obj.cells #[.int .i64 c.n, .slice c.aL c.ls.length c.cL, .slice c.aG c.gs.length c.cG, .slice c.aO c.os.length c.cO, .slice c.aB c.bs.length c.cB, .slice c.aC c.cs.length c.cC, .slice c.aF c.fs.length c.cF, .slice c.aN c.ns.length c.cN] 29)
 have hM1 := (hM.below lo1 (Nat.le_refl _)).more lo1.size
 have hA1 := hA.on (lo1.mono hA.le)
 clear hA hM
 go_enter Tryz.func13, Tryz.ntmps13
 go_upto_region 1 with fail
 generalize w.alloc (Obj.cells #[.int .i64 c.n, .slice c.aL c.ls.length c.cL, .slice c.aG c.gs.length c.cG, .slice c.aO c.os.length c.cO, .slice c.aB c.bs.length c.cB, .slice c.aC c.cs.length c.cC, .slice c.aF c.fs.length c.cF, .slice c.aN c.ns.length c.cN] 29) = W1 at *
 have c0 := hbx.cell 0; have c1 := hbx.cell 1; have c2 := hbx.cell 2; have c3 := hbx.cell 3; have c4 := hbx.cell 4; have c5 := hbx.cell 5; have c6 := hbx.cell 6; have c7 := hbx.cell 7; simp only [zD, zE, zF] at c0 c1 c2 c3 c4 c5 c6 c7
 go_wp2_with fail
 refine (Right4_any c W1 hM1 hCW hcap).mono ?_
 rintro e w2 ⟨rfl, hb2⟩
 clear c0 c1 c2 c3 c4 c5 c6 c7
 have hbx2 := hbx.below hb2 hbx.lt
 have lo2 := lo1.trans (hb2.mono lo1.size)
 have hM2 := (hM1.below hb2 (Nat.le_refl _)).more hb2.size
 have hA2 := hA1.on (hb2.mono hA1.le)
 clear hbx lo1 hM1 hA1 hb2
 cases hr : Cm.rightC c with
 | false =>
  have HR := Lib.hid hr
  go_wp2
  go_ret2
  refine ⟨?_, lo2⟩
  rw [HR.out]
  rfl
 | true =>
  have HR := Lib.hid hr
  have hok := Ag.right_ok hr
  have HLL := Lib.hid (hL hr)
  clear hr hL
  have hw2 := hbx2.lt
  have lo3 := lowAlloc w2 (Obj.cells #[.slice none 0 0] 51)
  have hbx3 := hbx2.below lo3 hbx2.lt
  have hM3 : CirM (w2.alloc (Obj.cells #[.slice none 0 0] 51)) w2.heap.size c := hM2.below lo3 (Nat.le_refl _)
  have hA3 := hA2.on (lo3.mono hA2.le)
  have hW3 : WB (w2.alloc (Obj.cells #[.slice none 0 0] 51)) w2.heap.size [] := ⟨_, Blk.new w2 51 #[.slice none 0 0], World.ownsRow_nil _ _ _ _⟩
  have hlow := lo2.trans (lo3.mono lo2.size)
  have hBR := hA2.le
  clear hbx2 lo2 hM2 hA2 lo3
  go_upto_region 4 with fail
  generalize w2.alloc (Obj.cells #[.slice none 0 0] 51) = W3 at *
  generalize w2.heap.size = R at *
  have HAM : Hid (∀ V, WK R W3 V → Amb B V) := fun V k => hA3.on (k.low.mono hBR)
  have HBX : Hid (∀ V, WK R W3 V → Blk V w.heap.size 29 #[.int .i64 c.n, .slice c.aL c.ls.length c.cL, .slice c.aG c.gs.length c.cG, .slice c.aO c.os.length c.cO, .slice c.aB c.bs.length c.cB, .slice c.aC c.cs.length c.cC, .slice c.aF c.fs.length c.cF, .slice c.aN c.ns.length c.cN]) := fun V k => hbx3.below k.low hw2
  have HMM : Hid (∀ V, WK R W3 V → CirM V R c) := fun V k => hM3.below k.low (Nat.le_refl _)
  have HLO : Hid (∀ V, WK R W3 V → Below w.heap.size w V) := fun V k => hlow.trans (k.low.mono (by omega))
  have h1 := hok.n0
  have h2 := hok.all
  obtain ⟨N, hN⟩ : ∃ N : Nat, c.n = (N : Int) := ⟨c.n.toNat, by omega⟩
  have HN := Lib.hid hN
  have lN : N + c.ls.length + c.gs.length ≤ 2000 := by omega
  have HPR : Hid (Ag.printS c = (Ag.aagW ++ 32 :: Ag.lineOf (Ag.sizes c)) ++ (Ag.insP N 0 ++ (Ag.latsP true c.ls N ++ (Ag.sigsP c ++ (Ag.gatP c.gs (N + c.ls.length) ++ Ag.namesP c.ns))))) := by
   unfold Hid Ag.printS
   rw [show c.n.toNat = N by omega]
   simp
  have HHD := Lib.hid (whead_any R c [] Ag.aagW B W3 hW3 hok (by decide) (by simp) (HAM.out _ (WK.refl _ _)) hBR)
  generalize hP0 : Ag.aagW ++ 32 :: Ag.lineOf (Ag.sizes c) = P0 at *
  have hpl : P0.length + ((Ag.insP N 0).length + ((Ag.latsP true c.ls N).length + ((Ag.sigsP c).length + ((Ag.gatP c.gs (N + c.ls.length)).length + (Ag.namesP c.ns).length)))) ≤ 800000000 := by
   have := HLL.out
   rw [HPR.out] at this
   simpa only [List.length_append] using this
  rw [List.nil_append] at HHD
  have HOK := Lib.hid hok
  clear hP0 hW3 hM3 hA3 hlow h1 h2 hN hok
  have c0 := hbx3.cell 0; have c1 := hbx3.cell 1; have c2 := hbx3.cell 2; have c3 := hbx3.cell 3; have c4 := hbx3.cell 4; have c5 := hbx3.cell 5; have c6 := hbx3.cell 6; have c7 := hbx3.cell 7; simp only [zD, zE, zF] at c0 c1 c2 c3 c4 c5 c6 c7
  go_wp2_with fail
  refine HHD.out.mono ?_
  rintro e w4 ⟨rfl, hW4, hk4⟩
  clear c0 c1 c2 c3 c4 c5 c6 c7
  clear hbx3 HHD
  have hbx4 := HBX.out w4 hk4
  have c0 := hbx4.cell 0
  rw [HN.out] at c0
  simp only [zD, zE] at c0
  go_upto_region 6 with fail
  go_loopw [5, 18] (fun _ i wr => ∃ j : Nat, j ≤ N ∧ i = .int .i64 (j : Int) ∧ WB wr R (P0 ++ Ag.insP j 0) ∧ WK R W3 wr) (fun _ i _ => N - (intOf i).toNat)
  case atStart => exact ⟨0, Nat.zero_le _, rfl, by simpa [Ag.insP] using hW4, hk4⟩
  clear hW4 hk4 hbx4 c0
  obtain ⟨j, hj, rfl, hW, hk⟩ := hrel
  have hwR := hW.lt
  by_cases hlt : j < N
  ·
   have hjz : (j : Int) < (N : Int) := by omega
   have hil := Ag.ins_len j 0 (by omega)
   have hka := hk.alloc (Obj.cells #[.int .i64 ((2 * (j + 1) : Nat) : Int)] 3) (Nat.le_of_lt hwR)
   have HLN := Lib.hid (wline_any R wr.heap.size 0 1 (P0 ++ Ag.insP j 0) [2 * (j + 1)] B (wr.alloc (Obj.cells #[.int .i64 ((2 * (j + 1) : Nat) : Int)] 3)) (hW.alloc _) (arg_one wr R (2 * (j + 1)) (by omega) _ rfl) (by intro z hz; simp at hz; omega) (by simp only [List.length_append, List.length_cons, List.length_nil]; omega) (HAM.out _ hka) hBR)
   have HST := Lib.hid (insP_snoc j 0)
   clear hW hk hil
   go_wp2_with fail
   refine (aagLit_any j (by omega) wr).mono ?_
   rintro e w5 ⟨rfl, rfl⟩
   go_wp2_with fail
   refine HLN.out.mono ?_
   rintro e w5 ⟨rfl, hW5, hk5⟩
   go_wp2
   go_roundw
   case rel => exact ⟨j + 1, by omega, by go_num, by rw [HST.out, ← List.append_assoc, Nat.zero_add]; exact hW5, hka.trans hk5⟩
   case measure => simp [intOf]; omega
  obtain rfl : j = N := by omega
  have hil := Ag.ins_len j 0 (by omega)
  rw [← List.append_assoc] at HPR
  generalize hP1 : P0 ++ Ag.insP j 0 = P1 at *
  have hp1 : P1.length + ((Ag.latsP true c.ls j).length + ((Ag.sigsP c).length + ((Ag.gatP c.gs (j + c.ls.length)).length + (Ag.namesP c.ns).length))) ≤ 800000000 := by
   rw [← hP1, List.length_append]
   omega
  have hbx5 := HBX.out wr hk
  have c1 := hbx5.cell 1
  simp only [zD, zE, zF] at c1
  have HW5 := Lib.hid hW
  have HK5 := Lib.hid hk
  clear hP1 hpl hil hW hk hbx5
  have l1 : c.ls.length ≤ 2000 := by omega
  go_wp2
  clear c1
  go_loopw [6, 7, 8, 29] (fun _ _ _ i wr => ∃ i0 : Nat, i0 ≤ c.ls.length ∧ i = .int .i64 (i0 : Int) ∧ WB wr R (P1 ++ Ag.latsP true (c.ls.take i0) j) ∧ WK R W3 wr) (fun _ _ _ i _ => c.ls.length - (intOf i).toNat)
  case atStart => exact ⟨0, Nat.zero_le _, rfl, by simpa [Ag.latsP] using HW5.out, HK5.out⟩
  obtain ⟨i0, hi0, rfl, hW, hk⟩ := hrel
  have hwR := hW.lt
  by_cases hlt2 : i0 < c.ls.length
  ·
   have hjz : (i0 : Int) < (c.ls.length : Int) := by omega
   obtain ⟨b, off, hAe, _, p1, p2⟩ := (HMM.out wr hk).hl i0 hlt2
   have hix := ixLt c.aL b off c.ls.length c.cL i0 hAe (by omega) hlt2
   have hq := HOK.out.ls c.ls[i0] (List.getElem_mem hlt2)
   have HST := Lib.hid (latsP_take c.ls j i0 hlt2)
   have hll := Ag.lats_len true (c.ls.take i0) j (by rw [List.length_take]; omega) (fun q h => HOK.out.ls q (List.mem_of_mem_take h))
   rw [List.length_take] at hll
   clear hAe
   generalize c.ls[i0] = q at *
   obtain ⟨qa, qb⟩ := q
   simp only at p1 p2 hq
   obtain ⟨m, rfl⟩ : ∃ m : Nat, qa = (m : Int) := ⟨qa.toNat, by omega⟩
   obtain ⟨k, rfl⟩ : ∃ k : Nat, qb = (k : Int) := ⟨qb.toNat, by omega⟩
   rw [latP_nat] at HST
   have c0 := (HBX.out wr hk).cell 0
   rw [HN.out] at c0
   simp only [zD, zE] at c0
   have HLT : Hid (∀ w, Calls Tryz.prog 24 #[.int .i64 ((j : Int) + (i0 : Int))] w fun e w' => e = .returned (.int .i64 ((2 * (j + i0 + 1) : Nat) : Int)) ∧ w = w') := by
    intro w
    have := aagLit_any (j + i0) (by omega) w
    rwa [Int.natCast_add] at this
   have ho : 2 * (j + i0 + 1) ≤ 999999 := by omega
   generalize 2 * (j + i0 + 1) = own at *
   have c0b := (World.cell?_alloc_lt wr (Obj.cells #[.int .i64 (m : Int), .int .i64 (k : Int)] 49) ⟨w.heap.size, 0, none⟩ (by simp only; omega)).trans c0
   have hbl := Blk.new wr 49 #[.int .i64 (m : Int), .int .i64 (k : Int)]
   have hW1 := hW.alloc (Obj.cells #[.int .i64 (m : Int), .int .i64 (k : Int)] 49)
   have hk1 := hk.alloc (Obj.cells #[.int .i64 (m : Int), .int .i64 (k : Int)] 49) (Nat.le_of_lt hwR)
   clear hW hk c0
   go_upto_region 13 with fail
   clear p1 p2 hix
   generalize wr.alloc (Obj.cells #[.int .i64 (m : Int), .int .i64 (k : Int)] 49) = V1 at *
   have d0 := hbl.cell 0
   have d1 := hbl.cell 1
   simp only [zD, zE, zF] at d0 d1
   have hv1 := hW1.lt
   have hka := hk1.alloc (Obj.cells #[.int .i64 (own : Int)] 3) (Nat.le_of_lt hv1)
   have HLA := Lib.hid (wlatch_any R V1.heap.size 0 1 own m k own (P1 ++ Ag.latsP true (c.ls.take i0) j) B (V1.alloc (Obj.cells #[.int .i64 (own : Int)] 3)) (hW1.alloc _) (arg_one V1 R own (by omega) _ rfl) (by simp) ho (by omega) (by omega) ho (by simp only [List.length_append]; omega) (HAM.out _ hka) hBR)
   clear hbl hW1 hk1 hll
   go_wp2_with fail
   refine (HLT.out V1).mono ?_
   rintro e w5 ⟨rfl, rfl⟩
   clear HLT c0b
   go_wp2_with fail
   refine HLA.out.mono ?_
   rintro e w5 ⟨rfl, hW5, hk5⟩
   go_wp2
   go_roundw
   case rel => exact ⟨i0 + 1, by omega, by go_num, by rw [HST.out, ← List.append_assoc]; exact hW5, hka.trans hk5⟩
   case measure => simp [intOf]; omega
  obtain rfl : i0 = c.ls.length := by omega
  rw [List.take_length] at hW
  rw [← List.append_assoc] at HPR
  generalize hP2 : P1 ++ Ag.latsP true c.ls j = P2 at *
  have hp2 : P2.length + ((Ag.sigsP c).length + ((Ag.gatP c.gs (j + c.ls.length)).length + (Ag.namesP c.ns).length)) ≤ 800000000 := by
   rw [← hP2, List.length_append]
   omega
  clear hP2 hp1
  have HSG := Lib.hid (wsignals_any R c P2 B wr hW (HMM.out wr hk) HOK.out (by omega) (HAM.out wr hk) hBR)
  have hbx6 := HBX.out wr hk
  have c0 := hbx6.cell 0; have c1 := hbx6.cell 1; have c2 := hbx6.cell 2; have c3 := hbx6.cell 3; have c4 := hbx6.cell 4; have c5 := hbx6.cell 5; have c6 := hbx6.cell 6; have c7 := hbx6.cell 7; simp only [zD, zE, zF] at c0 c1 c2 c3 c4 c5 c6 c7
  clear hW HW5 HK5
  go_wp2_with fail
  refine HSG.out.mono ?_
  rintro e w5 ⟨rfl, hW5, hk5⟩
  clear c0 c1 c2 c3 c4 c5 c6 c7
  have hkt := hk.trans hk5
  rw [← List.append_assoc] at HPR
  generalize hP3 : P2 ++ Ag.sigsP c = P3 at *
  have hp3 : P3.length + ((Ag.gatP c.gs (j + c.ls.length)).length + (Ag.namesP c.ns).length) ≤ 800000000 := by
   rw [← hP3, List.length_append]
   omega
  have c2 := (HBX.out w5 hkt).cell 2
  simp only [zD, zE, zF] at c2
  have HW6 := Lib.hid hW5
  have HK6 := Lib.hid hkt
  have l2 : c.gs.length ≤ 2000 := by omega
  clear hP3 hp2 HSG hbx6 hW5 hkt hk hk5
  go_wp2
  clear c2
  go_loopw [9, 10, 50] (fun _ _ i wr => ∃ i1 : Nat, i1 ≤ c.gs.length ∧ i = .int .i64 (i1 : Int) ∧ WB wr R (P3 ++ Ag.gatP (c.gs.take i1) (j + c.ls.length)) ∧ WK R W3 wr) (fun _ _ i _ => c.gs.length - (intOf i).toNat)
  case atStart => exact ⟨0, Nat.zero_le _, rfl, by simpa [Ag.gatP] using HW6.out, HK6.out⟩
  obtain ⟨i1, hi1, rfl, hW, hk⟩ := hrel
  have hwR := hW.lt
  by_cases hlt3 : i1 < c.gs.length
  ·
   have hjz : (i1 : Int) < (c.gs.length : Int) := by omega
   obtain ⟨b, off, hAe, _, p1, p2⟩ := (HMM.out wr hk).hg i1 hlt3
   have hix := ixGt c.aG b off c.gs.length c.cG i1 hAe (by omega) hlt3
   have hq := HOK.out.gs c.gs[i1] (List.getElem_mem hlt3)
   have HST := Lib.hid (gatP_take c.gs (j + c.ls.length) i1 hlt3)
   have hgl := Ag.gat_len (c.gs.take i1) (j + c.ls.length) (by rw [List.length_take]; omega) (fun q h => HOK.out.gs q (List.mem_of_mem_take h))
   rw [List.length_take] at hgl
   clear hAe
   generalize c.gs[i1] = q at *
   obtain ⟨qa, qb⟩ := q
   simp only at p1 p2 hq HST
   obtain ⟨x, rfl⟩ : ∃ x : Nat, qa = (x : Int) := ⟨qa.toNat, by omega⟩
   obtain ⟨y, rfl⟩ : ∃ y : Nat, qb = (y : Int) := ⟨qb.toNat, by omega⟩
   rw [Int.toNat_natCast, Int.toNat_natCast] at HST
   have HLT : Hid (∀ w, Calls Tryz.prog 24 #[.int .i64 (IntKind.i64.wrap (IntKind.i64.wrap ((j : Int) + (c.ls.length : Int)) + (i1 : Int)))] w fun e w' => e = .returned (.int .i64 ((2 * (j + c.ls.length + i1 + 1) : Nat) : Int)) ∧ w = w') := by
    intro w
    have := aagLit_any (j + c.ls.length + i1) (by omega) w
    rw [Int.natCast_add, Int.natCast_add] at this
    have e1 : IntKind.i64.wrap ((j : Int) + (c.ls.length : Int)) = (j : Int) + (c.ls.length : Int) := by
     rw [IntKind.wrap_i64]
     omega
    have e2 : IntKind.i64.wrap ((j : Int) + (c.ls.length : Int) + (i1 : Int)) = (j : Int) + (c.ls.length : Int) + (i1 : Int) := by
     rw [IntKind.wrap_i64]
     omega
    rw [e1, e2]
    exact this
   have ho : 2 * (j + c.ls.length + i1 + 1) ≤ 999999 := by omega
   generalize 2 * (j + c.ls.length + i1 + 1) = own at *
   have hbg := Blk.new wr 57 #[.int .i64 (x : Int), .int .i64 (y : Int)]
   have hW1 := hW.alloc (Obj.cells #[.int .i64 (x : Int), .int .i64 (y : Int)] 57)
   have hk1 := hk.alloc (Obj.cells #[.int .i64 (x : Int), .int .i64 (y : Int)] 57) (Nat.le_of_lt hwR)
   have hGR : wr.heap.size ≠ R := by omega
   clear hW hk
   go_upto_region 20 with fail
   clear p1 p2 hix
   generalize wr.alloc (Obj.cells #[.int .i64 (x : Int), .int .i64 (y : Int)] 57) = V1 at *
   generalize wr.heap.size = G at *
   have hv1 := hW1.lt
   have HSV : Hid (∀ V, WK R V1 V → (fun V => V.cell? ⟨w.heap.size, 0, none⟩ = some (.int .i64 (j : Int)) ∧ V.cell? ⟨w.heap.size, 1, none⟩ = some (.slice c.aL c.ls.length c.cL) ∧ V.cell? ⟨G, 0, none⟩ = some (.int .i64 (x : Int)) ∧ V.cell? ⟨G, 1, none⟩ = some (.int .i64 (y : Int))) V) := fun V k => by
    have hb := HBX.out V (hk1.trans k)
    have hg := k.blkOf hbg hGR (by decide)
    have b0 := hb.cell 0
    rw [HN.out] at b0
    exact ⟨b0, hb.cell 1, hg.cell 0, hg.cell 1⟩
   have hkb : WK R V1 ((V1.alloc (Obj.cells #[.int .i64 (own : Int), .int .i64 (x : Int), .int .i64 (y : Int)] 3)).drew) := ((WK.refl R V1).alloc (Obj.cells #[.int .i64 (own : Int), .int .i64 (x : Int), .int .i64 (y : Int)] 3) (Nat.le_of_lt hv1)).drw
   have hWb : WB ((V1.alloc (Obj.cells #[.int .i64 (own : Int), .int .i64 (x : Int), .int .i64 (y : Int)] 3)).drew) R (P3 ++ Ag.gatP (c.gs.take i1) (j + c.ls.length)) := (hW1.alloc (Obj.cells #[.int .i64 (own : Int), .int .i64 (x : Int), .int .i64 (y : Int)] 3)).drw
   have hAr : Arg ((V1.alloc (Obj.cells #[.int .i64 (own : Int), .int .i64 (x : Int), .int .i64 (y : Int)] 3)).drew) R V1.heap.size 0 [own, x, y] := arg_three V1 R own x y (by omega)
   have HLN := Lib.hid (wline_any R V1.heap.size 0 3 (P3 ++ Ag.gatP (c.gs.take i1) (j + c.ls.length)) [own, x, y] B ((V1.alloc (Obj.cells #[.int .i64 (own : Int), .int .i64 (x : Int), .int .i64 (y : Int)] 3)).drew) hWb hAr (by intro z hz; simp at hz; omega) (by simp only [List.length_append, List.length_cons, List.length_nil]; omega) (HAM.out _ (hk1.trans hkb)) hBR)
   clear hbg hW1 hgl hWb hAr
   refine wp_region_held_drew (S := (fun V => V.cell? ⟨w.heap.size, 0, none⟩ = some (.int .i64 (j : Int)) ∧ V.cell? ⟨w.heap.size, 1, none⟩ = some (.slice c.aL c.ls.length c.cL) ∧ V.cell? ⟨G, 0, none⟩ = some (.int .i64 (x : Int)) ∧ V.cell? ⟨G, 1, none⟩ = some (.int .i64 (y : Int)))) (by kernel_rfl) (HSV.out V1.drew (WK.refl R V1).drw) (fun hHeld => ?_)
   refine wpAnyH_take (i := 0) (oi := ⟨some 55, _, _, _, _, _⟩) (v := ?_) rfl (by kernel_rfl) (by kernel_rfl) (by kernel_rfl) (fun _ _ _ h => h) (Or.inl ⟨by rfl, ?_⟩) hHeld ?_
   rotate_left
   ·
    intro w hSw
    (try dsimp only at hSw)
    obtain ⟨s0, s1, s2, s3⟩ := hSw
    first | (go_simp; done) | (go_simp; with_reducible rfl) | with_reducible rfl
   try simp only [Act.put, zA, zB, zC]
   refine wpAnyH_take (i := 1) (oi := ⟨some 56, _, _, _, _, _⟩) (v := ?_) rfl (by kernel_rfl) (by kernel_rfl) (by kernel_rfl) (fun _ _ _ h => h) (Or.inl ⟨by rfl, ?_⟩) hHeld ?_
   rotate_left
   ·
    intro w hSw
    (try dsimp only at hSw)
    obtain ⟨s0, s1, s2, s3⟩ := hSw
    first | (go_simp; done) | (go_simp; with_reducible rfl) | with_reducible rfl
   try simp only [Act.put, zA, zB, zC]
   refine wpAnyH_take (i := 2) (oi := ⟨some 57, _, _, _, _, _⟩) (v := ?_) rfl (by kernel_rfl) (by kernel_rfl) (by kernel_rfl) (fun _ _ _ h => h) (Or.inl ⟨by rfl, ?_⟩) hHeld ?_
   rotate_left
   ·
    intro w hSw
    (try dsimp only at hSw)
    obtain ⟨s0, s1, s2, s3⟩ := hSw
    first | (go_simp; done) | (go_simp; with_reducible rfl) | with_reducible rfl
   try simp only [Act.put, zA, zB, zC]
   refine wpAnyH_take (i := 3) (oi := ⟨some 58, _, _, _, _, _⟩) (v := ?_) rfl (by kernel_rfl) (by kernel_rfl) (by kernel_rfl) (fun _ _ _ h => h) (Or.inl ⟨by rfl, ?_⟩) hHeld ?_
   rotate_left
   ·
    intro w hSw
    (try dsimp only at hSw)
    obtain ⟨s0, s1, s2, s3⟩ := hSw
    first | (go_simp; done) | (go_simp; with_reducible rfl) | with_reducible rfl
   try simp only [Act.put, zA, zB, zC]
   refine wpAnyH_take (i := 4) (oi := ⟨some 59, _, _, _, _, _⟩) (v := ?_) rfl (by kernel_rfl) (by kernel_rfl) (by kernel_rfl) (fun _ _ _ h => h) (Or.inl ⟨by rfl, ?_⟩) hHeld ?_
   rotate_left
   ·
    intro w hSw
    (try dsimp only at hSw)
    obtain ⟨s0, s1, s2, s3⟩ := hSw
    first | (go_simp; done) | (go_simp; with_reducible rfl) | with_reducible rfl
   try simp only [Act.put, zA, zB, zC]
   refine wpAnyH_take (i := 5) (oi := ⟨some 60, _, _, _, _, _⟩) (v := ?_) rfl (by kernel_rfl) (by kernel_rfl) (by kernel_rfl) (fun _ _ _ h => h) (Or.inl ⟨by rfl, ?_⟩) hHeld ?_
   rotate_left
   ·
    intro w hSw
    (try dsimp only at hSw)
    obtain ⟨s0, s1, s2, s3⟩ := hSw
    first | (go_simp; done) | (go_simp; with_reducible rfl) | with_reducible rfl
   try simp only [Act.put, zA, zB, zC]
   refine wpAnyH_take (i := 6) (oi := ⟨some 61, _, _, _, _, _⟩) (v := ?_) rfl (by kernel_rfl) (by kernel_rfl) (by kernel_rfl) (fun _ _ _ h => h) (Or.inl ⟨by rfl, ?_⟩) hHeld ?_
   rotate_left
   ·
    intro w hSw
    (try dsimp only at hSw)
    obtain ⟨s0, s1, s2, s3⟩ := hSw
    first | (go_simp; done) | (go_simp; with_reducible rfl) | with_reducible rfl
   try simp only [Act.put, zA, zB, zC]
   refine wpAnyH_take (i := 7) (oi := ⟨some 62, _, _, _, _, _⟩) (v := ?_) rfl (by kernel_rfl) (by kernel_rfl) (by kernel_rfl) (fun _ _ _ h => h) (Or.inl ⟨by rfl, ?_⟩) hHeld ?_
   rotate_left
   ·
    intro w hSw
    (try dsimp only at hSw)
    obtain ⟨s0, s1, s2, s3⟩ := hSw
    first | (go_simp; done) | (go_simp; with_reducible rfl) | with_reducible rfl
   try simp only [Act.put, zA, zB, zC]
   refine wpAnyH_take (i := 9) (oi := ⟨some 64, _, _, _, _, _⟩) (v := ?_) rfl (by kernel_rfl) (by kernel_rfl) (by kernel_rfl) (fun _ _ _ h => h) (Or.inl ⟨by rfl, ?_⟩) hHeld ?_
   rotate_left
   ·
    intro w hSw
    (try dsimp only at hSw)
    obtain ⟨s0, s1, s2, s3⟩ := hSw
    first | (go_simp; done) | (go_simp; with_reducible rfl) | with_reducible rfl
   try simp only [Act.put, zA, zB, zC]
   refine wpAnyH_take (i := 10) (oi := ⟨some 65, _, _, _, _, _⟩) (v := ?_) rfl (by kernel_rfl) (by kernel_rfl) (by kernel_rfl) (fun _ _ _ h => h) (Or.inl ⟨by rfl, ?_⟩) hHeld ?_
   rotate_left
   ·
    intro w hSw
    (try dsimp only at hSw)
    obtain ⟨s0, s1, s2, s3⟩ := hSw
    first | (go_simp; done) | (go_simp; with_reducible rfl) | with_reducible rfl
   try simp only [Act.put, zA, zB, zC]
   refine wpAnyH_take (i := 11) (oi := ⟨some 66, _, _, _, _, _⟩) (v := ?_) rfl (by kernel_rfl) (by kernel_rfl) (by kernel_rfl) (fun _ _ _ h => h) (Or.inl ⟨by rfl, ?_⟩) hHeld ?_
   rotate_left
   ·
    intro w hSw
    (try dsimp only at hSw)
    obtain ⟨s0, s1, s2, s3⟩ := hSw
    first | (go_simp; done) | (go_simp; with_reducible rfl) | with_reducible rfl
   try simp only [Act.put, zA, zB, zC]
   refine wpAnyH_take (i := 12) (oi := ⟨some 67, _, _, _, _, _⟩) (v := ?_) rfl (by kernel_rfl) (by kernel_rfl) (by kernel_rfl) (fun _ _ _ h => h) (Or.inl ⟨by rfl, ?_⟩) hHeld ?_
   rotate_left
   ·
    intro w hSw
    (try dsimp only at hSw)
    obtain ⟨s0, s1, s2, s3⟩ := hSw
    first | (go_simp; done) | (go_simp; with_reducible rfl) | with_reducible rfl
   try simp only [Act.put, zA, zB, zC]
   refine wpAnyH_ready (rs := [8]) (by kernel_rfl) (by simp) ?_
   refine AllReadyH.cons (o := ⟨some 63, _, _, _, _, _⟩) rfl (fun K hK => ?_) AllReadyH.nil
   go_simp
   refine (HLT.out _).mono ?_
   rintro e w5 ⟨rfl, rfl⟩
   refine hK.out _ _ ?_ (fun hHeld => ?_)
   ·
    exact HSV.out V1.drew (WK.refl R V1).drw
   clear hK K
   try simp only [Act.put, zA, zB, zC]
   refine wpAnyH_ready (rs := [13]) (by kernel_rfl) (by simp) ?_
   refine AllReadyH.cons (o := ⟨some 68, _, _, _, _, _⟩) rfl (fun K hK => ?_) AllReadyH.nil
   go_simp
   generalize (V1.alloc (Obj.cells #[.int .i64 (own : Int), .int .i64 (x : Int), .int .i64 (y : Int)] 3)).drew = V2 at *
   refine hK.out _ _ ?_ (fun hHeld => ?_)
   ·
    exact HSV.out V2 hkb
   clear hK K
   try simp only [Act.put, zA, zB, zC]
   refine wpAnyH_ready (rs := [14]) (by kernel_rfl) (by simp) ?_
   refine AllReadyH.cons (o := ⟨some 69, _, _, _, _, _⟩) rfl (fun K hK => ?_) AllReadyH.nil
   go_simp
   refine HLN.out.mono ?_
   rintro e w6 ⟨rfl, hW6, hk6⟩
   refine hK.out _ _ ?_ (fun hHeld => ?_)
   ·
    exact HSV.out w6 (hkb.trans hk6)
   clear hK K
   try simp only [Act.put, zA, zB, zC]
   refine wpAnyH_done (by kernel_rfl) ?_ _
   go_wp2
   go_roundw
   case rel => exact ⟨i1 + 1, by omega, by go_num, by rw [HST.out, ← List.append_assoc]; exact hW6, hk1.trans (hkb.trans hk6)⟩
   case measure => simp [intOf]; omega
  obtain rfl : i1 = c.gs.length := by omega
  rw [List.take_length] at hW
  rw [← List.append_assoc] at HPR
  generalize hP4 : P3 ++ Ag.gatP c.gs (j + c.ls.length) = P4 at *
  have hp4 : P4.length + (Ag.namesP c.ns).length ≤ 800000000 := by
   rw [← hP4, List.length_append]
   omega
  have HNM := Lib.hid (wnames_any R c.aN c.cN P4 c.ns B wr hW (HMM.out wr hk).hn HOK.out.ns (by omega) hCW.ln (HAM.out wr hk) hBR)
  have c7 := (HBX.out wr hk).cell 7
  simp only [zD, zE, zF] at c7
  clear hP4 hp3 hW HW6 HK6
  go_wp2_with fail
  refine HNM.out.mono ?_
  rintro e w6 ⟨rfl, hW6, hk6⟩
  have hkt := hk.trans hk6
  clear c7 HNM
  go_wp2_with fail
  refine (wtext_any R _ w6 hW6).mono ?_
  rintro e w7 ⟨rfl, rfl⟩
  go_wp2
  go_ret2
  refine ⟨?_, HLO.out w6 hkt⟩
  rw [HR.out, HPR.out]
  rfl
end Go.Proofs.YtpejilhdhkmcjaaGreatDoor
