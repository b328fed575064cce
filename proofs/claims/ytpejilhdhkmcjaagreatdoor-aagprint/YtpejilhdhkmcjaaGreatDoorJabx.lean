/- The document's text of a circuit: Print. -/
import Derived.Test.YtpejilhdhkmcjaaGreatDoorJaAl
import Derived.Test.YtpejilhdhkmcjaaGreatDoorJabw
import Derived.Deep.CutBlock
namespace Go.Proofs.YtpejilhdhkmcjaaGreatDoor
open Go.RowKit

theorem latP_own (own : Nat) (q : Int × Int) : Ag.latP [own] own q = (Ag.num own ++ [32]) ++ Ag.latP [] own q := by
 unfold Ag.latP Ag.lineOf
 rw [List.nil_append, List.singleton_append, Ag.spell_two]
 simp
theorem line_one (n : Nat) : Ag.lineOf [n] = Ag.num n ++ [10] := by simp [Ag.lineOf, Ag.spell]
theorem line_three (o x y : Nat) : Ag.lineOf [o, x, y] = ((((Ag.num o ++ [32]) ++ Ag.num x) ++ [32]) ++ Ag.num y) ++ [10] := by
 unfold Ag.lineOf
 rw [Ag.spell_two, Ag.spell_two]
 simp [Ag.spell]
/-- The document prints a circuit, or refuses it. -/
def RPrintP (w : World) (c : Cir) (e : Ending) (w' : World) : Prop :=
 (e = .returned (if Cm.rightC c = true then .tuple #[.string (bsv (Ag.printS c)), .int .i64 0] else .tuple #[.string ⟨#[]⟩, .int .i64 1])) ∧ Below w.heap.size w w'
set_option maxRecDepth 100000 in
set_option maxHeartbeats 8000000 in
theorem rprint_text (c : Cir) (w : World) (hM : CirM w w.heap.size c) (hW : CirW c) (hL : Cm.rightC c = true → (Ag.printS c).length ≤ 800000000) :
  Calls Tryz.prog 14 #[.agg #[.int .i64 c.n, .slice c.aL c.ls.length c.cL, .slice c.aG c.gs.length c.cG, .slice c.aO c.os.length c.cO, .slice c.aB c.bs.length c.cB, .slice c.aC c.cs.length c.cC, .slice c.aF c.fs.length c.cF, .slice c.aN c.ns.length c.cN]] w (RPrintP w c) := by
 have hbx := Blk.new w 29 #[.int .i64 c.n, .slice c.aL c.ls.length c.cL, .slice c.aG c.gs.length c.cG, .slice c.aO c.os.length c.cO, .slice c.aB c.bs.length c.cB, .slice c.aC c.cs.length c.cC, .slice c.aF c.fs.length c.cF, .slice c.aN c.ns.length c.cN]
 have lo1 := lowAlloc w (Obj.cells #[.int .i64 c.n, .slice c.aL c.ls.length c.cL, .slice c.aG c.gs.length c.cG, .slice c.aO c.os.length c.cO, .slice c.aB c.bs.length c.cB, .slice c.aC c.cs.length c.cC, .slice c.aF c.fs.length c.cF, .slice c.aN c.ns.length c.cN] 29)
 have hM1 := (hM.below lo1 (Nat.le_refl _)).more lo1.size
 have HLN := Lib.hid hW.ln
 clear hM
 go_enter Tryz.func14, Tryz.ntmps14
 go_upto_region 1 with fail
 generalize w.alloc (Obj.cells #[.int .i64 c.n, .slice c.aL c.ls.length c.cL, .slice c.aG c.gs.length c.cG, .slice c.aO c.os.length c.cO, .slice c.aB c.bs.length c.cB, .slice c.aC c.cs.length c.cC, .slice c.aF c.fs.length c.cF, .slice c.aN c.ns.length c.cN] 29) = W1 at *
 have c0 := hbx.cell 0; have c1 := hbx.cell 1; have c2 := hbx.cell 2; have c3 := hbx.cell 3; have c4 := hbx.cell 4; have c5 := hbx.cell 5; have c6 := hbx.cell 6; have c7 := hbx.cell 7; simp only [zD, zE, zF] at c0 c1 c2 c3 c4 c5 c6 c7
 go_wp2_with fail
 refine (refRight4_any c W1 hM1 hW).mono ?_
 rintro e w2 ⟨rfl, hb2⟩
 clear c0 c1 c2 c3 c4 c5 c6 c7
 have hbx2 := hbx.below hb2 hbx.lt
 have lo2 := lo1.trans (hb2.mono lo1.size)
 have hM2 := (hM1.below hb2 (Nat.le_refl _)).more hb2.size
 clear hbx lo1 hM1 hb2
 cases hr : Cm.rightC c with
 | false =>
  have HR := Lib.hid hr
  clear hr
  go_wp2
  go_ret2
  refine ⟨?_, lo2⟩
  rw [HR.out]
  rfl
 | true =>
  have HR := Lib.hid hr
  have hok := Ag.right_ok hr
  have hll := hL hr
  have h1 := hok.n0
  have h2 := hok.all
  obtain ⟨N, hN⟩ : ∃ N : Nat, c.n = (N : Int) := ⟨c.n.toNat, by omega⟩
  have HN := Lib.hid hN
  have lN : N + c.ls.length + c.gs.length ≤ 2000 := by omega
  have HPR : Hid (Ag.printS c = (Ag.aagW ++ 32 :: Ag.lineOf (Ag.sizes c)) ++ (Ag.insP N 0 ++ (Ag.latsP true c.ls N ++ (Ag.sigsP c ++ (Ag.gatP c.gs (N + c.ls.length) ++ Ag.namesP c.ns))))) := by
   unfold Hid Ag.printS
   rw [show c.n.toNat = N by omega]
   simp
  have hpl : (Ag.aagW ++ 32 :: Ag.lineOf (Ag.sizes c)).length + ((Ag.insP N 0).length + ((Ag.latsP true c.ls N).length + ((Ag.sigsP c).length + ((Ag.gatP c.gs (N + c.ls.length)).length + (Ag.namesP c.ns).length)))) ≤ 800000000 := by
   rw [HPR.out] at hll
   simpa only [List.length_append] using hll
  have ha0 := add_bsv Ag.aagW (32 :: Ag.lineOf (Ag.sizes c)) (by simp only [List.length_append] at hpl; omega)
  rw [show bsv Ag.aagW = ⟨#[97, 97, 103]⟩ from rfl] at ha0
  have HHD := Lib.hid (rhead_text c w2 hok)
  generalize Ag.aagW ++ 32 :: Ag.lineOf (Ag.sizes c) = P0 at *
  generalize 32 :: Ag.lineOf (Ag.sizes c) = H0 at *
  have HOK := Lib.hid hok
  have hw2 := hbx2.lt
  clear hr hL hll h1 h2 hN hok
  have c0 := hbx2.cell 0; have c1 := hbx2.cell 1; have c2 := hbx2.cell 2; have c3 := hbx2.cell 3; have c4 := hbx2.cell 4; have c5 := hbx2.cell 5; have c6 := hbx2.cell 6; have c7 := hbx2.cell 7; simp only [zD, zE, zF] at c0 c1 c2 c3 c4 c5 c6 c7
  go_wp2_with fail
  refine HHD.out.mono ?_
  rintro e w3 ⟨rfl, hb3⟩
  clear c0 c1 c2 c3 c4 c5 c6 c7
  have hbx3 := hbx2.below hb3 hw2
  have lo3 := lo2.trans (hb3.mono lo2.size)
  have hM3 := (hM2.below hb3 (Nat.le_refl _)).more hb3.size
  have hw3 : w.heap.size < w3.heap.size := Nat.lt_of_lt_of_le hw2 hb3.size
  clear hbx2 lo2 hM2 HHD hb3
  have HBX : Hid (∀ V, Below w3.heap.size w3 V → Blk V w.heap.size 29 #[.int .i64 c.n, .slice c.aL c.ls.length c.cL, .slice c.aG c.gs.length c.cG, .slice c.aO c.os.length c.cO, .slice c.aB c.bs.length c.cB, .slice c.aC c.cs.length c.cC, .slice c.aF c.fs.length c.cF, .slice c.aN c.ns.length c.cN]) := fun V k => hbx3.below k hw3
  have HMM : Hid (∀ V, Below w3.heap.size w3 V → CirM V V.heap.size c) := fun V k => (hM3.below k (Nat.le_refl _)).more k.size
  have HLO : Hid (∀ V, Below w3.heap.size w3 V → Below w.heap.size w V) := fun V k => lo3.trans (k.mono lo3.size)
  clear hbx3 hM3 lo3
  go_wp2
  clear ha0
  go_loopw [4, 5] (fun t i wr => ∃ j : Nat, j ≤ N ∧ i = .int .i64 (j : Int) ∧ t = .string (bsv (P0 ++ Ag.insP j 0)) ∧ Below w3.heap.size w3 wr) (fun _ i _ => N - (intOf i).toNat)
  case atStart => exact ⟨0, Nat.zero_le _, rfl, by simp [Ag.insP], Below.refl _ _⟩
  obtain ⟨j, hj, rfl, rfl, lx⟩ := hrel
  have c0 := (HBX.out wr lx).cell 0
  simp only [zD, zE] at c0
  have hil := Ag.ins_len j 0 (by omega)
  by_cases hlt : j < N
  ·
   have dl : decide ((j : Int) < c.n) = true := decide_eq_true (by have := HN.out; omega)
   have HT : Hid (bsv (P0 ++ Ag.insP (j + 1) 0) = bsv (((P0 ++ Ag.insP j 0) ++ Ag.num (2 * (j + 1))) ++ [10])) := by
    unfold Hid
    rw [insP_snoc, line_one]
    simp
   have hnl := Ag.num_len 5 (2 * (j + 1)) (by omega)
   have ha1 := add_bsv (P0 ++ Ag.insP j 0) (Ag.num (2 * (j + 1))) (by simp only [List.length_append]; omega)
   have ha2 := add_bsv ((P0 ++ Ag.insP j 0) ++ Ag.num (2 * (j + 1))) [10] (by simp only [List.length_append, List.length_cons, List.length_nil]; omega)
   rw [show bsv [10] = ⟨#[10]⟩ from rfl] at ha2
   generalize ((P0 ++ Ag.insP j 0) ++ Ag.num (2 * (j + 1))) ++ [10] = U2 at *
   generalize (P0 ++ Ag.insP j 0) ++ Ag.num (2 * (j + 1)) = U1 at *
   generalize P0 ++ Ag.insP j 0 = U0 at *
   have HDG := Lib.hid (digits_any (2 * (j + 1)) wr (by omega))
   have hz : ((2 * (j + 1) : Nat) : Int) = 2 * ((j : Int) + 1) := by omega
   rw [hz] at HDG
   generalize Ag.num (2 * (j + 1)) = Dg at *
   clear hz hil hnl hpl
   go_wp2_with fail
   refine HDG.out.mono ?_
   rintro e w5 ⟨rfl, hb5⟩
   have lx5 := lx.trans (hb5.mono lx.size)
   clear HDG hb5
   go_wp2
   go_roundw
   case rel => exact ⟨j + 1, by omega, by go_num, by rw [HT.out], lx5⟩
   case measure => simp [intOf]; omega
  obtain rfl : j = N := by omega
  have dl : decide ((j : Int) < c.n) = false := decide_eq_false (by have := HN.out; omega)
  rw [← List.append_assoc] at HPR
  have hp1 : (P0 ++ Ag.insP j 0).length + ((Ag.latsP true c.ls j).length + ((Ag.sigsP c).length + ((Ag.gatP c.gs (j + c.ls.length)).length + (Ag.namesP c.ns).length))) ≤ 800000000 := by
   rw [List.length_append]
   omega
  generalize P0 ++ Ag.insP j 0 = P1 at *
  clear hpl hil
  have HLX := Lib.hid lx
  go_wp2
  clear c0 lx dl
  go_loopw [4, 6] (fun t i wr => ∃ i0 : Nat, i0 ≤ c.ls.length ∧ i = .int .i64 (i0 : Int) ∧ t = .string (bsv (P1 ++ Ag.latsP true (c.ls.take i0) j)) ∧ Below w3.heap.size w3 wr) (fun _ i _ => c.ls.length - (intOf i).toNat)
  case atStart => exact ⟨0, Nat.zero_le _, rfl, by simp [Ag.latsP], HLX.out⟩
  obtain ⟨i0, hi0, rfl, rfl, lx⟩ := hrel
  have c1 := (HBX.out wr lx).cell 1
  simp only [zD, zE, zF] at c1
  have hll := Ag.lats_len true (c.ls.take i0) j (by rw [List.length_take]; omega) (fun q h => HOK.out.ls q (List.mem_of_mem_take h))
  rw [List.length_take] at hll
  by_cases hlt2 : i0 < c.ls.length
  ·
   have dl : decide ((i0 : Int) < (c.ls.length : Int)) = true := decide_eq_true (by omega)
   obtain ⟨own, hown⟩ : ∃ own, own = 2 * (j + i0 + 1) := ⟨_, rfl⟩
   have HOWN := Lib.hid hown
   have HO9 : Hid (own ≤ 999999) := by unfold Hid; omega
   have hnl := Ag.num_len 5 own (by omega)
   have hq := HOK.out.ls c.ls[i0] (List.getElem_mem hlt2)
   have hlq := Ag.lats_len false [c.ls[i0]] (j + i0) (by simp; omega) (fun q h => by simp at h; subst h; exact hq)
   simp only [Ag.latsP, List.append_nil, List.length_singleton, Bool.false_eq_true, if_false] at hlq
   rw [← hown] at hlq
   have HT : Hid (bsv (P1 ++ Ag.latsP true (c.ls.take (i0 + 1)) j) = bsv ((((P1 ++ Ag.latsP true (c.ls.take i0) j) ++ Ag.num own) ++ [32]) ++ Ag.latP [] own c.ls[i0])) := by
    unfold Hid
    rw [latsP_take c.ls j i0 hlt2, ← hown, latP_own]
    simp
   have HLA : Hid (∀ V, Below wr.heap.size wr V → Calls Tryz.prog 31 #[.agg #[.int .i64 c.n, .slice c.aL c.ls.length c.cL, .slice c.aG c.gs.length c.cG, .slice c.aO c.os.length c.cO, .slice c.aB c.bs.length c.cB, .slice c.aC c.cs.length c.cC, .slice c.aF c.fs.length c.cF, .slice c.aN c.ns.length c.cN], .int .i64 (i0 : Int)] V fun e w' => e = .returned (.string (bsv (Ag.latP [] own c.ls[i0]))) ∧ Below V.heap.size V w') := by
    intro V ly
    have := rlat_text c i0 V (HMM.out V (lx.trans (ly.mono lx.size))) hlt2 (by omega) (by have := HN.out; omega) hq
    rwa [show c.n.toNat = j by have := HN.out; omega, ← hown] at this
   generalize Ag.latP [] own c.ls[i0] = Lt at *
   have hu0 : (P1 ++ Ag.latsP true (c.ls.take i0) j).length ≤ 800100000 := by
    rw [List.length_append]
    omega
   have ha1 := add_bsv (P1 ++ Ag.latsP true (c.ls.take i0) j) (Ag.num own) (by omega)
   have ha2 := add_bsv ((P1 ++ Ag.latsP true (c.ls.take i0) j) ++ Ag.num own) [32] (by rw [List.length_append]; simp only [List.length_cons, List.length_nil]; omega)
   have ha3 := add_bsv (((P1 ++ Ag.latsP true (c.ls.take i0) j) ++ Ag.num own) ++ [32]) Lt (by rw [List.length_append, List.length_append]; simp only [List.length_cons, List.length_nil]; omega)
   rw [show bsv [32] = ⟨#[32]⟩ from rfl] at ha2
   generalize (((P1 ++ Ag.latsP true (c.ls.take i0) j) ++ Ag.num own) ++ [32]) ++ Lt = U3 at *
   generalize ((P1 ++ Ag.latsP true (c.ls.take i0) j) ++ Ag.num own) ++ [32] = U2 at *
   generalize (P1 ++ Ag.latsP true (c.ls.take i0) j) ++ Ag.num own = U1 at *
   generalize P1 ++ Ag.latsP true (c.ls.take i0) j = U0 at *
   have hwc : w.heap.size < wr.heap.size := Nat.lt_of_lt_of_le hw3 lx.size
   have HK : Hid (∀ V, Below wr.heap.size wr V → (fun V => V.cell? ⟨w.heap.size, 0, none⟩ = some (.int .i64 c.n) ∧ V.cell? ⟨w.heap.size, 1, none⟩ = some (.slice c.aL c.ls.length c.cL) ∧ V.cell? ⟨w.heap.size, 2, none⟩ = some (.slice c.aG c.gs.length c.cG) ∧ V.cell? ⟨w.heap.size, 3, none⟩ = some (.slice c.aO c.os.length c.cO) ∧ V.cell? ⟨w.heap.size, 4, none⟩ = some (.slice c.aB c.bs.length c.cB) ∧ V.cell? ⟨w.heap.size, 5, none⟩ = some (.slice c.aC c.cs.length c.cC) ∧ V.cell? ⟨w.heap.size, 6, none⟩ = some (.slice c.aF c.fs.length c.cF) ∧ V.cell? ⟨w.heap.size, 7, none⟩ = some (.slice c.aN c.ns.length c.cN)) V) := fun V ly => by
    have h := HBX.out V (lx.trans (ly.mono lx.size))
    exact ⟨h.cell 0, h.cell 1, h.cell 2, h.cell 3, h.cell 4, h.cell 5, h.cell 6, h.cell 7⟩
   have HLY := Lib.hid lx
   clear hll hnl hq hlq hown hp1 hu0
   go_upto_region 11 with fail
   clear c1 lx
   refine wp_region_held_drew (S := (fun V => V.cell? ⟨w.heap.size, 0, none⟩ = some (.int .i64 c.n) ∧ V.cell? ⟨w.heap.size, 1, none⟩ = some (.slice c.aL c.ls.length c.cL) ∧ V.cell? ⟨w.heap.size, 2, none⟩ = some (.slice c.aG c.gs.length c.cG) ∧ V.cell? ⟨w.heap.size, 3, none⟩ = some (.slice c.aO c.os.length c.cO) ∧ V.cell? ⟨w.heap.size, 4, none⟩ = some (.slice c.aB c.bs.length c.cB) ∧ V.cell? ⟨w.heap.size, 5, none⟩ = some (.slice c.aC c.cs.length c.cC) ∧ V.cell? ⟨w.heap.size, 6, none⟩ = some (.slice c.aF c.fs.length c.cF) ∧ V.cell? ⟨w.heap.size, 7, none⟩ = some (.slice c.aN c.ns.length c.cN))) (by kernel_rfl) (HK.out _ (Below.refl _ _).drew) (fun hHeld => ?_)
   refine wpAnyH_take (i := 0) (oi := ⟨some 34, _, _, _, _, _⟩) (v := ?_) rfl (by kernel_rfl) (by kernel_rfl) (by kernel_rfl) (fun _ _ _ h => h) (Or.inl ⟨by rfl, ?_⟩) hHeld ?_
   rotate_left
   ·
    intro w hSw
    (try dsimp only at hSw)
    obtain ⟨s0, s1, s2, s3, s4, s5, s6, s7⟩ := hSw
    first | (go_simp; done) | (go_simp; with_reducible rfl) | with_reducible rfl
   try simp only [Act.put, zA, zB, zC]
   refine wpAnyH_take (i := 1) (oi := ⟨some 35, _, _, _, _, _⟩) (v := ?_) rfl (by kernel_rfl) (by kernel_rfl) (by kernel_rfl) (fun _ _ _ h => h) (Or.inl ⟨by rfl, ?_⟩) hHeld ?_
   rotate_left
   ·
    intro w hSw
    (try dsimp only at hSw)
    obtain ⟨s0, s1, s2, s3, s4, s5, s6, s7⟩ := hSw
    first | (go_simp; done) | (go_simp; with_reducible rfl) | with_reducible rfl
   try simp only [Act.put, zA, zB, zC]
   refine wpAnyH_take (i := 3) (oi := ⟨some 37, _, _, _, _, _⟩) (v := ?_) rfl (by kernel_rfl) (by kernel_rfl) (by kernel_rfl) (fun _ _ _ h => h) (Or.inl ⟨by rfl, ?_⟩) hHeld ?_
   rotate_left
   ·
    intro w hSw
    (try dsimp only at hSw)
    obtain ⟨s0, s1, s2, s3, s4, s5, s6, s7⟩ := hSw
    first | (go_simp; done) | (go_simp; with_reducible rfl) | with_reducible rfl
   try simp only [Act.put, zA, zB, zC]
   refine wpAnyH_take (i := 10) (oi := ⟨some 44, _, _, _, _, _⟩) (v := ?_) rfl (by kernel_rfl) (by kernel_rfl) (by kernel_rfl) (fun _ _ _ h => h) (Or.inl ⟨by rfl, ?_⟩) hHeld ?_
   rotate_left
   ·
    intro w hSw
    (try dsimp only at hSw)
    obtain ⟨s0, s1, s2, s3, s4, s5, s6, s7⟩ := hSw
    first | (go_simp; done) | (go_simp; with_reducible rfl) | with_reducible rfl
   try simp only [Act.put, zA, zB, zC]
   refine wpAnyH_take (i := 11) (oi := ⟨some 45, _, _, _, _, _⟩) (v := ?_) rfl (by kernel_rfl) (by kernel_rfl) (by kernel_rfl) (fun _ _ _ h => h) (Or.inl ⟨by rfl, ?_⟩) hHeld ?_
   rotate_left
   ·
    intro w hSw
    (try dsimp only at hSw)
    obtain ⟨s0, s1, s2, s3, s4, s5, s6, s7⟩ := hSw
    first | (go_simp; done) | (go_simp; with_reducible rfl) | with_reducible rfl
   try simp only [Act.put, zA, zB, zC]
   refine wpAnyH_take (i := 2) (oi := ⟨some 36, _, _, _, _, _⟩) (v := ?_) rfl (by kernel_rfl) (by kernel_rfl) (by kernel_rfl) (fun _ _ _ h => h) (Or.inl ⟨by rfl, ?_⟩) hHeld ?_
   rotate_left
   ·
    intro w hSw
    (try dsimp only at hSw)
    obtain ⟨s0, s1, s2, s3, s4, s5, s6, s7⟩ := hSw
    first | (go_simp; done) | (go_simp; with_reducible rfl) | with_reducible rfl
   try simp only [Act.put, zA, zB, zC]
   refine wpAnyH_take (i := 4) (oi := ⟨some 38, _, _, _, _, _⟩) (v := ?_) rfl (by kernel_rfl) (by kernel_rfl) (by kernel_rfl) (fun _ _ _ h => h) (Or.inl ⟨by rfl, ?_⟩) hHeld ?_
   rotate_left
   ·
    intro w hSw
    (try dsimp only at hSw)
    obtain ⟨s0, s1, s2, s3, s4, s5, s6, s7⟩ := hSw
    first | (go_simp; done) | (go_simp; with_reducible rfl) | with_reducible rfl
   try simp only [Act.put, zA, zB, zC]
   refine wpAnyH_take (i := 5) (oi := ⟨some 39, _, _, _, _, _⟩) (v := ?_) rfl (by kernel_rfl) (by kernel_rfl) (by kernel_rfl) (fun _ _ _ h => h) (Or.inl ⟨by rfl, ?_⟩) hHeld ?_
   rotate_left
   ·
    intro w hSw
    (try dsimp only at hSw)
    obtain ⟨s0, s1, s2, s3, s4, s5, s6, s7⟩ := hSw
    first | (go_simp; done) | (go_simp; with_reducible rfl) | with_reducible rfl
   try simp only [Act.put, zA, zB, zC]
   refine wpAnyH_take (i := 6) (oi := ⟨some 40, _, _, _, _, _⟩) (v := ?_) rfl (by kernel_rfl) (by kernel_rfl) (by kernel_rfl) (fun _ _ _ h => h) (Or.inl ⟨by rfl, ?_⟩) hHeld ?_
   rotate_left
   ·
    intro w hSw
    (try dsimp only at hSw)
    obtain ⟨s0, s1, s2, s3, s4, s5, s6, s7⟩ := hSw
    first | (go_simp; done) | (go_simp; with_reducible rfl) | with_reducible rfl
   try simp only [Act.put, zA, zB, zC]
   refine wpAnyH_ready (rs := [7]) (by kernel_rfl) (by simp) ?_
   refine AllReadyH.cons (o := ⟨some 41, _, _, _, _, _⟩) rfl (fun K hK => ?_) AllReadyH.nil
   go_simp
   refine (digits_z _ own _ (by have := HN.out; have := HOWN.out; first | omega | (simp only [IntKind.wrap_i64]; omega)) HO9.out).mono ?_
   rintro e w5 ⟨rfl, hb5⟩
   have ly5 : Below wr.heap.size wr w5 := (Below.refl wr.heap.size wr).drew.trans hb5
   refine hK.out _ _ ?_ (fun hHeld => ?_)
   ·
    exact HK.out w5 ly5
   clear hK K
   try simp only [Act.put, zA, zB, zC]
   refine wpAnyH_take (i := 8) (oi := ⟨some 42, _, _, _, _, _⟩) (v := ?_) rfl (by kernel_rfl) (by kernel_rfl) (by kernel_rfl) (fun _ _ _ h => h) (Or.inl ⟨by rfl, ?_⟩) hHeld ?_
   rotate_left
   ·
    intro w hSw
    (try dsimp only at hSw)
    obtain ⟨s0, s1, s2, s3, s4, s5, s6, s7⟩ := hSw
    first | (go_simp; done) | (go_simp; with_reducible rfl) | with_reducible rfl
   try simp only [Act.put, zA, zB, zC]
   refine wpAnyH_take (i := 9) (oi := ⟨some 43, _, _, _, _, _⟩) (v := ?_) rfl (by kernel_rfl) (by kernel_rfl) (by kernel_rfl) (fun _ _ _ h => h) (Or.inl ⟨by rfl, ?_⟩) hHeld ?_
   rotate_left
   ·
    intro w hSw
    (try dsimp only at hSw)
    obtain ⟨s0, s1, s2, s3, s4, s5, s6, s7⟩ := hSw
    first | (go_simp; done) | (go_simp; with_reducible rfl) | with_reducible rfl
   try simp only [Act.put, zA, zB, zC]
   refine wpAnyH_ready (rs := [12]) (by kernel_rfl) (by simp) ?_
   refine AllReadyH.cons (o := ⟨some 46, _, _, _, _, _⟩) rfl (fun K hK => ?_) AllReadyH.nil
   go_simp
   refine (HLA.out w5 ly5).mono ?_
   rintro e w6 ⟨rfl, hb6⟩
   have ly6 : Below wr.heap.size wr w6 := ly5.trans (hb6.mono ly5.size)
   refine hK.out _ _ ?_ (fun hHeld => ?_)
   ·
    exact HK.out w6 ly6
   clear hK K
   try simp only [Act.put, zA, zB, zC]
   refine wpAnyH_take (i := 13) (oi := ⟨some 47, _, _, _, _, _⟩) (v := ?_) rfl (by kernel_rfl) (by kernel_rfl) (by kernel_rfl) (fun _ _ _ h => h) (Or.inl ⟨by rfl, ?_⟩) hHeld ?_
   rotate_left
   ·
    intro w hSw
    (try dsimp only at hSw)
    obtain ⟨s0, s1, s2, s3, s4, s5, s6, s7⟩ := hSw
    first | (go_simp; done) | (go_simp; with_reducible rfl) | with_reducible rfl
   try simp only [Act.put, zA, zB, zC]
   refine wpAnyH_take (i := 14) (oi := ⟨some 4, _, _, _, _, _⟩) (v := ?_) rfl (by kernel_rfl) (by kernel_rfl) (by kernel_rfl) (fun _ _ _ h => h) (Or.inl ⟨by rfl, ?_⟩) hHeld ?_
   rotate_left
   ·
    intro w hSw
    (try dsimp only at hSw)
    obtain ⟨s0, s1, s2, s3, s4, s5, s6, s7⟩ := hSw
    first | (go_simp; done) | (go_simp; with_reducible rfl) | with_reducible rfl
   try simp only [Act.put, zA, zB, zC]
   refine wpAnyH_done (by kernel_rfl) ?_ _
   have lz := HLY.out.trans (ly6.mono HLY.out.size)
   go_wp2
   go_roundw
   case rel => exact ⟨i0 + 1, by omega, by go_num, by rw [HT.out], lz⟩
   case measure => simp [intOf]; omega
  obtain rfl : i0 = c.ls.length := by omega
  have dl : decide ((c.ls.length : Int) < (c.ls.length : Int)) = false := decide_eq_false (by omega)
  rw [List.take_length]
  rw [← List.append_assoc] at HPR
  have hp2 : (P1 ++ Ag.latsP true c.ls j).length + ((Ag.sigsP c).length + ((Ag.gatP c.gs (j + c.ls.length)).length + (Ag.namesP c.ns).length)) ≤ 800000000 := by
   rw [List.length_append]
   omega
  generalize P1 ++ Ag.latsP true c.ls j = P2 at *
  have HLW := Lib.hid lx
  have hsl : (Ag.sigsP c).length = (Ag.colP c.os).length + ((Ag.colP c.bs).length + ((Ag.colP c.cs).length + (Ag.colP c.fs).length)) := by simp only [Ag.sigsP, List.length_append]
  have ha1 := add_bsv P2 (Ag.colP c.os) (by omega)
  have ha2 := add_bsv (P2 ++ Ag.colP c.os) (Ag.colP c.bs) (by rw [List.length_append]; omega)
  have ha3 := add_bsv ((P2 ++ Ag.colP c.os) ++ Ag.colP c.bs) (Ag.colP c.cs) (by rw [List.length_append, List.length_append]; omega)
  have ha4 := add_bsv (((P2 ++ Ag.colP c.os) ++ Ag.colP c.bs) ++ Ag.colP c.cs) (Ag.colP c.fs) (by rw [List.length_append, List.length_append, List.length_append]; omega)
  have HCO : Hid (∀ V, Below wr.heap.size wr V → Calls Tryz.prog 32 #[.slice c.aO c.os.length c.cO] V fun e w' => e = .returned (.string (bsv (Ag.colP c.os))) ∧ Below V.heap.size V w') := fun V ly => rcol_any c.aO c.cO c.os V HOK.out.o HOK.out.os (HMM.out V (lx.trans (ly.mono lx.size))).ho
  have HCB : Hid (∀ V, Below wr.heap.size wr V → Calls Tryz.prog 32 #[.slice c.aB c.bs.length c.cB] V fun e w' => e = .returned (.string (bsv (Ag.colP c.bs))) ∧ Below V.heap.size V w') := fun V ly => rcol_any c.aB c.cB c.bs V HOK.out.b HOK.out.bs (HMM.out V (lx.trans (ly.mono lx.size))).hb
  have HCC : Hid (∀ V, Below wr.heap.size wr V → Calls Tryz.prog 32 #[.slice c.aC c.cs.length c.cC] V fun e w' => e = .returned (.string (bsv (Ag.colP c.cs))) ∧ Below V.heap.size V w') := fun V ly => rcol_any c.aC c.cC c.cs V HOK.out.c_ HOK.out.cs (HMM.out V (lx.trans (ly.mono lx.size))).hc
  have HCF : Hid (∀ V, Below wr.heap.size wr V → Calls Tryz.prog 32 #[.slice c.aF c.fs.length c.cF] V fun e w' => e = .returned (.string (bsv (Ag.colP c.fs))) ∧ Below V.heap.size V w') := fun V ly => rcol_any c.aF c.cF c.fs V HOK.out.f HOK.out.fs (HMM.out V (lx.trans (ly.mono lx.size))).hf
  have HK : Hid (∀ V, Below wr.heap.size wr V → (fun V => V.cell? ⟨w.heap.size, 3, none⟩ = some (.slice c.aO c.os.length c.cO) ∧ V.cell? ⟨w.heap.size, 4, none⟩ = some (.slice c.aB c.bs.length c.cB) ∧ V.cell? ⟨w.heap.size, 5, none⟩ = some (.slice c.aC c.cs.length c.cC) ∧ V.cell? ⟨w.heap.size, 6, none⟩ = some (.slice c.aF c.fs.length c.cF)) V) := fun V ly => by
   have h := HBX.out V (lx.trans (ly.mono lx.size))
   exact ⟨h.cell 3, h.cell 4, h.cell 5, h.cell 6⟩
  have hp3 : ((((P2 ++ Ag.colP c.os) ++ Ag.colP c.bs) ++ Ag.colP c.cs) ++ Ag.colP c.fs).length + ((Ag.gatP c.gs (j + c.ls.length)).length + (Ag.namesP c.ns).length) ≤ 800000000 := by
   simp only [List.length_append]
   omega
  have HPR3 : Hid (Ag.printS c = ((((P2 ++ Ag.colP c.os) ++ Ag.colP c.bs) ++ Ag.colP c.cs) ++ Ag.colP c.fs) ++ (Ag.gatP c.gs (j + c.ls.length) ++ Ag.namesP c.ns)) := by
   unfold Hid
   rw [HPR.out, Ag.sigsP]
   simp
  generalize (((P2 ++ Ag.colP c.os) ++ Ag.colP c.bs) ++ Ag.colP c.cs) ++ Ag.colP c.fs = P3 at *
  generalize ((P2 ++ Ag.colP c.os) ++ Ag.colP c.bs) ++ Ag.colP c.cs = U3 at *
  generalize (P2 ++ Ag.colP c.os) ++ Ag.colP c.bs = U2 at *
  generalize P2 ++ Ag.colP c.os = U1 at *
  generalize Ag.colP c.os = D1 at *
  generalize Ag.colP c.bs = D2 at *
  generalize Ag.colP c.cs = D3 at *
  generalize Ag.colP c.fs = D4 at *
  clear hsl hp2 hll HPR HLX hp1
  go_upto_region 12 with fail
  clear c1 lx dl
  refine wp_region_held_drew (S := (fun V => V.cell? ⟨w.heap.size, 3, none⟩ = some (.slice c.aO c.os.length c.cO) ∧ V.cell? ⟨w.heap.size, 4, none⟩ = some (.slice c.aB c.bs.length c.cB) ∧ V.cell? ⟨w.heap.size, 5, none⟩ = some (.slice c.aC c.cs.length c.cC) ∧ V.cell? ⟨w.heap.size, 6, none⟩ = some (.slice c.aF c.fs.length c.cF))) (by kernel_rfl) (HK.out _ (Below.refl _ _).drew) (fun hHeld => ?_)
  refine wpAnyH_take (i := 0) (oi := ⟨some 48, _, _, _, _, _⟩) (v := ?_) rfl (by kernel_rfl) (by kernel_rfl) (by kernel_rfl) (fun _ _ _ h => h) (Or.inl ⟨by rfl, ?_⟩) hHeld ?_
  rotate_left
  ·
   intro w hSw
   (try dsimp only at hSw)
   obtain ⟨s0, s1, s2, s3⟩ := hSw
   first | (go_simp; done) | (go_simp; with_reducible rfl) | with_reducible rfl
  try simp only [Act.put, zA, zB, zC]
  refine wpAnyH_take (i := 1) (oi := ⟨some 49, _, _, _, _, _⟩) (v := ?_) rfl (by kernel_rfl) (by kernel_rfl) (by kernel_rfl) (fun _ _ _ h => h) (Or.inl ⟨by rfl, ?_⟩) hHeld ?_
  rotate_left
  ·
   intro w hSw
   (try dsimp only at hSw)
   obtain ⟨s0, s1, s2, s3⟩ := hSw
   first | (go_simp; done) | (go_simp; with_reducible rfl) | with_reducible rfl
  try simp only [Act.put, zA, zB, zC]
  refine wpAnyH_take (i := 5) (oi := ⟨some 53, _, _, _, _, _⟩) (v := ?_) rfl (by kernel_rfl) (by kernel_rfl) (by kernel_rfl) (fun _ _ _ h => h) (Or.inl ⟨by rfl, ?_⟩) hHeld ?_
  rotate_left
  ·
   intro w hSw
   (try dsimp only at hSw)
   obtain ⟨s0, s1, s2, s3⟩ := hSw
   first | (go_simp; done) | (go_simp; with_reducible rfl) | with_reducible rfl
  try simp only [Act.put, zA, zB, zC]
  refine wpAnyH_take (i := 9) (oi := ⟨some 57, _, _, _, _, _⟩) (v := ?_) rfl (by kernel_rfl) (by kernel_rfl) (by kernel_rfl) (fun _ _ _ h => h) (Or.inl ⟨by rfl, ?_⟩) hHeld ?_
  rotate_left
  ·
   intro w hSw
   (try dsimp only at hSw)
   obtain ⟨s0, s1, s2, s3⟩ := hSw
   first | (go_simp; done) | (go_simp; with_reducible rfl) | with_reducible rfl
  try simp only [Act.put, zA, zB, zC]
  refine wpAnyH_take (i := 13) (oi := ⟨some 61, _, _, _, _, _⟩) (v := ?_) rfl (by kernel_rfl) (by kernel_rfl) (by kernel_rfl) (fun _ _ _ h => h) (Or.inl ⟨by rfl, ?_⟩) hHeld ?_
  rotate_left
  ·
   intro w hSw
   (try dsimp only at hSw)
   obtain ⟨s0, s1, s2, s3⟩ := hSw
   first | (go_simp; done) | (go_simp; with_reducible rfl) | with_reducible rfl
  try simp only [Act.put, zA, zB, zC]
  refine wpAnyH_take (i := 2) (oi := ⟨some 50, _, _, _, _, _⟩) (v := ?_) rfl (by kernel_rfl) (by kernel_rfl) (by kernel_rfl) (fun _ _ _ h => h) (Or.inl ⟨by rfl, ?_⟩) hHeld ?_
  rotate_left
  ·
   intro w hSw
   (try dsimp only at hSw)
   obtain ⟨s0, s1, s2, s3⟩ := hSw
   first | (go_simp; done) | (go_simp; with_reducible rfl) | with_reducible rfl
  try simp only [Act.put, zA, zB, zC]
  refine wpAnyH_take (i := 6) (oi := ⟨some 54, _, _, _, _, _⟩) (v := ?_) rfl (by kernel_rfl) (by kernel_rfl) (by kernel_rfl) (fun _ _ _ h => h) (Or.inl ⟨by rfl, ?_⟩) hHeld ?_
  rotate_left
  ·
   intro w hSw
   (try dsimp only at hSw)
   obtain ⟨s0, s1, s2, s3⟩ := hSw
   first | (go_simp; done) | (go_simp; with_reducible rfl) | with_reducible rfl
  try simp only [Act.put, zA, zB, zC]
  refine wpAnyH_take (i := 10) (oi := ⟨some 58, _, _, _, _, _⟩) (v := ?_) rfl (by kernel_rfl) (by kernel_rfl) (by kernel_rfl) (fun _ _ _ h => h) (Or.inl ⟨by rfl, ?_⟩) hHeld ?_
  rotate_left
  ·
   intro w hSw
   (try dsimp only at hSw)
   obtain ⟨s0, s1, s2, s3⟩ := hSw
   first | (go_simp; done) | (go_simp; with_reducible rfl) | with_reducible rfl
  try simp only [Act.put, zA, zB, zC]
  refine wpAnyH_take (i := 14) (oi := ⟨some 62, _, _, _, _, _⟩) (v := ?_) rfl (by kernel_rfl) (by kernel_rfl) (by kernel_rfl) (fun _ _ _ h => h) (Or.inl ⟨by rfl, ?_⟩) hHeld ?_
  rotate_left
  ·
   intro w hSw
   (try dsimp only at hSw)
   obtain ⟨s0, s1, s2, s3⟩ := hSw
   first | (go_simp; done) | (go_simp; with_reducible rfl) | with_reducible rfl
  try simp only [Act.put, zA, zB, zC]
  refine wpAnyH_ready (rs := [3]) (by kernel_rfl) (by simp) ?_
  refine AllReadyH.cons (o := ⟨some 51, _, _, _, _, _⟩) rfl (fun K hK => ?_) AllReadyH.nil
  go_simp
  refine (HCO.out wr.drew (Below.refl wr.heap.size wr).drew).mono ?_
  rintro e x1 ⟨rfl, hb1⟩
  have ly1 : Below wr.heap.size wr x1 := (Below.refl wr.heap.size wr).drew.trans (hb1.mono (Below.refl wr.heap.size wr).drew.size)
  refine hK.out _ _ ?_ (fun hHeld => ?_)
  ·
   exact HK.out x1 ly1
  clear hK K
  try simp only [Act.put, zA, zB, zC]
  refine wpAnyH_take (i := 4) (oi := ⟨some 52, _, _, _, _, _⟩) (v := ?_) rfl (by kernel_rfl) (by kernel_rfl) (by kernel_rfl) (fun _ _ _ h => h) (Or.inl ⟨by rfl, ?_⟩) hHeld ?_
  rotate_left
  ·
   intro w hSw
   (try dsimp only at hSw)
   obtain ⟨s0, s1, s2, s3⟩ := hSw
   first | (go_simp; done) | (go_simp; with_reducible rfl) | with_reducible rfl
  try simp only [Act.put, zA, zB, zC]
  refine wpAnyH_ready (rs := [7]) (by kernel_rfl) (by simp) ?_
  refine AllReadyH.cons (o := ⟨some 55, _, _, _, _, _⟩) rfl (fun K hK => ?_) AllReadyH.nil
  go_simp
  refine (HCB.out x1 ly1).mono ?_
  rintro e x2 ⟨rfl, hb2⟩
  have ly2 : Below wr.heap.size wr x2 := ly1.trans (hb2.mono ly1.size)
  refine hK.out _ _ ?_ (fun hHeld => ?_)
  ·
   exact HK.out x2 ly2
  clear hK K
  try simp only [Act.put, zA, zB, zC]
  refine wpAnyH_take (i := 8) (oi := ⟨some 56, _, _, _, _, _⟩) (v := ?_) rfl (by kernel_rfl) (by kernel_rfl) (by kernel_rfl) (fun _ _ _ h => h) (Or.inl ⟨by rfl, ?_⟩) hHeld ?_
  rotate_left
  ·
   intro w hSw
   (try dsimp only at hSw)
   obtain ⟨s0, s1, s2, s3⟩ := hSw
   first | (go_simp; done) | (go_simp; with_reducible rfl) | with_reducible rfl
  try simp only [Act.put, zA, zB, zC]
  refine wpAnyH_ready (rs := [11]) (by kernel_rfl) (by simp) ?_
  refine AllReadyH.cons (o := ⟨some 59, _, _, _, _, _⟩) rfl (fun K hK => ?_) AllReadyH.nil
  go_simp
  refine (HCC.out x2 ly2).mono ?_
  rintro e x3 ⟨rfl, hb3⟩
  have ly3 : Below wr.heap.size wr x3 := ly2.trans (hb3.mono ly2.size)
  refine hK.out _ _ ?_ (fun hHeld => ?_)
  ·
   exact HK.out x3 ly3
  clear hK K
  try simp only [Act.put, zA, zB, zC]
  refine wpAnyH_take (i := 12) (oi := ⟨some 60, _, _, _, _, _⟩) (v := ?_) rfl (by kernel_rfl) (by kernel_rfl) (by kernel_rfl) (fun _ _ _ h => h) (Or.inl ⟨by rfl, ?_⟩) hHeld ?_
  rotate_left
  ·
   intro w hSw
   (try dsimp only at hSw)
   obtain ⟨s0, s1, s2, s3⟩ := hSw
   first | (go_simp; done) | (go_simp; with_reducible rfl) | with_reducible rfl
  try simp only [Act.put, zA, zB, zC]
  refine wpAnyH_ready (rs := [15]) (by kernel_rfl) (by simp) ?_
  refine AllReadyH.cons (o := ⟨some 63, _, _, _, _, _⟩) rfl (fun K hK => ?_) AllReadyH.nil
  go_simp
  refine (HCF.out x3 ly3).mono ?_
  rintro e x4 ⟨rfl, hb4⟩
  have ly4 : Below wr.heap.size wr x4 := ly3.trans (hb4.mono ly3.size)
  refine hK.out _ _ ?_ (fun hHeld => ?_)
  ·
   exact HK.out x4 ly4
  clear hK K
  try simp only [Act.put, zA, zB, zC]
  refine wpAnyH_take (i := 16) (oi := ⟨some 64, _, _, _, _, _⟩) (v := ?_) rfl (by kernel_rfl) (by kernel_rfl) (by kernel_rfl) (fun _ _ _ h => h) (Or.inl ⟨by rfl, ?_⟩) hHeld ?_
  rotate_left
  ·
   intro w hSw
   (try dsimp only at hSw)
   obtain ⟨s0, s1, s2, s3⟩ := hSw
   first | (go_simp; done) | (go_simp; with_reducible rfl) | with_reducible rfl
  try simp only [Act.put, zA, zB, zC]
  refine wpAnyH_take (i := 17) (oi := ⟨some 4, _, _, _, _, _⟩) (v := ?_) rfl (by kernel_rfl) (by kernel_rfl) (by kernel_rfl) (fun _ _ _ h => h) (Or.inl ⟨by rfl, ?_⟩) hHeld ?_
  rotate_left
  ·
   intro w hSw
   (try dsimp only at hSw)
   obtain ⟨s0, s1, s2, s3⟩ := hSw
   first | (go_simp; done) | (go_simp; with_reducible rfl) | with_reducible rfl
  try simp only [Act.put, zA, zB, zC]
  refine wpAnyH_done (by kernel_rfl) ?_ _
  skip
  have HLZ := Lib.hid (HLW.out.trans (ly4.mono HLW.out.size))
  clear ly1 ly2 ly3 ly4 hb1 hb2 hb3 hb4 ha1 ha2 ha3 ha4 HCO HCB HCC HCF HK
  go_wp2
  go_loopw [4, 7] (fun t i wr => ∃ i1 : Nat, i1 ≤ c.gs.length ∧ i = .int .i64 (i1 : Int) ∧ t = .string (bsv (P3 ++ Ag.gatP (c.gs.take i1) (j + c.ls.length))) ∧ Below w3.heap.size w3 wr) (fun _ i _ => c.gs.length - (intOf i).toNat)
  case atStart => exact ⟨0, Nat.zero_le _, rfl, by simp [Ag.gatP], HLZ.out⟩
  obtain ⟨i1, hi1, rfl, rfl, lx⟩ := hrel
  have c2 := (HBX.out wr lx).cell 2
  simp only [zD, zE, zF] at c2
  have hgl := Ag.gat_len (c.gs.take i1) (j + c.ls.length) (by rw [List.length_take]; omega) (fun q h => HOK.out.gs q (List.mem_of_mem_take h))
  rw [List.length_take] at hgl
  by_cases hlt3 : i1 < c.gs.length
  ·
   have dl : decide ((i1 : Int) < (c.gs.length : Int)) = true := decide_eq_true (by omega)
   obtain ⟨own, hown⟩ : ∃ own, own = 2 * (j + c.ls.length + i1 + 1) := ⟨_, rfl⟩
   have HOWN := Lib.hid hown
   have HO9 : Hid (own ≤ 999999) := by unfold Hid; omega
   have hnl := Ag.num_len 5 own (by omega)
   obtain ⟨b, off, hA, hbl, p1, p2⟩ := (HMM.out wr lx).hg i1 hlt3
   have hix := ixGt (some ⟨b, off, none⟩) b off c.gs.length c.cG i1 rfl (by omega) hlt3
   have hq := HOK.out.gs c.gs[i1] (List.getElem_mem hlt3)
   have HT := Lib.hid (gatP_take c.gs (j + c.ls.length) i1 hlt3)
   rw [← hown] at HT
   rw [hA] at c2
   generalize c.gs[i1] = q at *
   obtain ⟨qa, qb⟩ := q
   simp only at p1 p2 hq HT
   obtain ⟨x, rfl⟩ : ∃ x : Nat, qa = (x : Int) := ⟨qa.toNat, by omega⟩
   obtain ⟨y, rfl⟩ : ∃ y : Nat, qb = (y : Int) := ⟨qb.toNat, by omega⟩
   rw [Int.toNat_natCast, Int.toNat_natCast, line_three] at HT
   have HX9 : Hid (x ≤ 999999) := by unfold Hid; omega
   have HY9 : Hid (y ≤ 999999) := by unfold Hid; omega
   have hnx := Ag.num_len 5 x (by omega)
   have hny := Ag.num_len 5 y (by omega)
   have HTB : Hid (bsv (P3 ++ Ag.gatP (c.gs.take (i1 + 1)) (j + c.ls.length)) = bsv ((((((P3 ++ Ag.gatP (c.gs.take i1) (j + c.ls.length)) ++ Ag.num own) ++ [32]) ++ Ag.num x ++ [32]) ++ Ag.num y) ++ [10])) := by
    unfold Hid
    rw [HT.out]
    simp
   have hu0 : (P3 ++ Ag.gatP (c.gs.take i1) (j + c.ls.length)).length ≤ 800100000 := by
    rw [List.length_append]
    omega
   generalize P3 ++ Ag.gatP (c.gs.take i1) (j + c.ls.length) = U0 at *
   have ha1 := add_bsv U0 (Ag.num own) (by omega)
   have ha2 := add_bsv (U0 ++ Ag.num own) [32] (by simp only [List.length_append, List.length_cons, List.length_nil]; omega)
   have ha3 := add_bsv ((U0 ++ Ag.num own) ++ [32]) (Ag.num x) (by simp only [List.length_append, List.length_cons, List.length_nil]; omega)
   have ha4 := add_bsv (((U0 ++ Ag.num own) ++ [32]) ++ Ag.num x) [32] (by simp only [List.length_append, List.length_cons, List.length_nil]; omega)
   have ha5 := add_bsv ((((U0 ++ Ag.num own) ++ [32]) ++ Ag.num x) ++ [32]) (Ag.num y) (by simp only [List.length_append, List.length_cons, List.length_nil]; omega)
   have ha6 := add_bsv (((((U0 ++ Ag.num own) ++ [32]) ++ Ag.num x) ++ [32]) ++ Ag.num y) [10] (by simp only [List.length_append, List.length_cons, List.length_nil]; omega)
   rw [show bsv [32] = ⟨#[32]⟩ from rfl] at ha2 ha4
   rw [show bsv [10] = ⟨#[10]⟩ from rfl] at ha6
   generalize (((((U0 ++ Ag.num own) ++ [32]) ++ Ag.num x) ++ [32]) ++ Ag.num y) ++ [10] = U6 at *
   generalize ((((U0 ++ Ag.num own) ++ [32]) ++ Ag.num x) ++ [32]) ++ Ag.num y = U5 at *
   generalize (((U0 ++ Ag.num own) ++ [32]) ++ Ag.num x) ++ [32] = U4 at *
   generalize ((U0 ++ Ag.num own) ++ [32]) ++ Ag.num x = U3 at *
   generalize (U0 ++ Ag.num own) ++ [32] = U2 at *
   generalize U0 ++ Ag.num own = U1 at *
   have hwb : b < wr.heap.size := hbl
   have HK : Hid (∀ V, Below wr.heap.size wr V → (fun V => V.cell? ⟨w.heap.size, 0, none⟩ = some (.int .i64 c.n) ∧ V.cell? ⟨w.heap.size, 1, none⟩ = some (.slice c.aL c.ls.length c.cL) ∧ V.cell? ⟨w.heap.size, 2, none⟩ = some (.slice (some ⟨b, off, none⟩) c.gs.length c.cG) ∧ V.cell? ⟨b, off + i1 * 2, none⟩ = some (.int .i64 (x : Int)) ∧ V.cell? ⟨b, off + i1 * 2 + 1, none⟩ = some (.int .i64 (y : Int))) V) := fun V ly => by
    have h := HBX.out V (lx.trans (ly.mono lx.size))
    have h2 := h.cell 2
    simp only [zD, zE, zF] at h2
    rw [hA] at h2
    exact ⟨h.cell 0, h.cell 1, h2, (ly.cell (p := ⟨b, off + i1 * 2, none⟩) hwb).trans p1, (ly.cell (p := ⟨b, off + i1 * 2 + 1, none⟩) hwb).trans p2⟩
   have HLY := Lib.hid lx
   clear hA HT hgl hnl hnx hny hq hown hp3 hu0
   go_upto_region 16 with fail
   clear c2 lx p1 p2
   refine wp_region_held_drew (S := (fun V => V.cell? ⟨w.heap.size, 0, none⟩ = some (.int .i64 c.n) ∧ V.cell? ⟨w.heap.size, 1, none⟩ = some (.slice c.aL c.ls.length c.cL) ∧ V.cell? ⟨w.heap.size, 2, none⟩ = some (.slice (some ⟨b, off, none⟩) c.gs.length c.cG) ∧ V.cell? ⟨b, off + i1 * 2, none⟩ = some (.int .i64 (x : Int)) ∧ V.cell? ⟨b, off + i1 * 2 + 1, none⟩ = some (.int .i64 (y : Int)))) (by kernel_rfl) (HK.out _ (Below.refl _ _).drew) (fun hHeld => ?_)
   refine wpAnyH_take (i := 0) (oi := ⟨some 72, _, _, _, _, _⟩) (v := ?_) rfl (by kernel_rfl) (by kernel_rfl) (by kernel_rfl) (fun _ _ _ h => h) (Or.inl ⟨by rfl, ?_⟩) hHeld ?_
   rotate_left
   ·
    intro w hSw
    (try dsimp only at hSw)
    obtain ⟨s0, s1, s2, s3, s4⟩ := hSw
    first | (go_simp; done) | (go_simp; with_reducible rfl) | with_reducible rfl
   try simp only [Act.put, zA, zB, zC]
   refine wpAnyH_take (i := 1) (oi := ⟨some 73, _, _, _, _, _⟩) (v := ?_) rfl (by kernel_rfl) (by kernel_rfl) (by kernel_rfl) (fun _ _ _ h => h) (Or.inl ⟨by rfl, ?_⟩) hHeld ?_
   rotate_left
   ·
    intro w hSw
    (try dsimp only at hSw)
    obtain ⟨s0, s1, s2, s3, s4⟩ := hSw
    first | (go_simp; done) | (go_simp; with_reducible rfl) | with_reducible rfl
   try simp only [Act.put, zA, zB, zC]
   refine wpAnyH_take (i := 3) (oi := ⟨some 75, _, _, _, _, _⟩) (v := ?_) rfl (by kernel_rfl) (by kernel_rfl) (by kernel_rfl) (fun _ _ _ h => h) (Or.inl ⟨by rfl, ?_⟩) hHeld ?_
   rotate_left
   ·
    intro w hSw
    (try dsimp only at hSw)
    obtain ⟨s0, s1, s2, s3, s4⟩ := hSw
    first | (go_simp; done) | (go_simp; with_reducible rfl) | with_reducible rfl
   try simp only [Act.put, zA, zB, zC]
   refine wpAnyH_take (i := 8) (oi := ⟨some 80, _, _, _, _, _⟩) (v := ?_) rfl (by kernel_rfl) (by kernel_rfl) (by kernel_rfl) (fun _ _ _ h => h) (Or.inl ⟨by rfl, ?_⟩) hHeld ?_
   rotate_left
   ·
    intro w hSw
    (try dsimp only at hSw)
    obtain ⟨s0, s1, s2, s3, s4⟩ := hSw
    first | (go_simp; done) | (go_simp; with_reducible rfl) | with_reducible rfl
   try simp only [Act.put, zA, zB, zC]
   refine wpAnyH_take (i := 14) (oi := ⟨some 86, _, _, _, _, _⟩) (v := ?_) rfl (by kernel_rfl) (by kernel_rfl) (by kernel_rfl) (fun _ _ _ h => h) (Or.inl ⟨by rfl, ?_⟩) hHeld ?_
   rotate_left
   ·
    intro w hSw
    (try dsimp only at hSw)
    obtain ⟨s0, s1, s2, s3, s4⟩ := hSw
    first | (go_simp; done) | (go_simp; with_reducible rfl) | with_reducible rfl
   try simp only [Act.put, zA, zB, zC]
   refine wpAnyH_take (i := 16) (oi := ⟨some 88, _, _, _, _, _⟩) (v := ?_) rfl (by kernel_rfl) (by kernel_rfl) (by kernel_rfl) (fun _ _ _ h => h) (Or.inl ⟨by rfl, ?_⟩) hHeld ?_
   rotate_left
   ·
    intro w hSw
    (try dsimp only at hSw)
    obtain ⟨s0, s1, s2, s3, s4⟩ := hSw
    first | (go_simp; done) | (go_simp; with_reducible rfl) | with_reducible rfl
   try simp only [Act.put, zA, zB, zC]
   refine wpAnyH_take (i := 23) (oi := ⟨some 95, _, _, _, _, _⟩) (v := ?_) rfl (by kernel_rfl) (by kernel_rfl) (by kernel_rfl) (fun _ _ _ h => h) (Or.inl ⟨by rfl, ?_⟩) hHeld ?_
   rotate_left
   ·
    intro w hSw
    (try dsimp only at hSw)
    obtain ⟨s0, s1, s2, s3, s4⟩ := hSw
    first | (go_simp; done) | (go_simp; with_reducible rfl) | with_reducible rfl
   try simp only [Act.put, zA, zB, zC]
   refine wpAnyH_take (i := 25) (oi := ⟨some 97, _, _, _, _, _⟩) (v := ?_) rfl (by kernel_rfl) (by kernel_rfl) (by kernel_rfl) (fun _ _ _ h => h) (Or.inl ⟨by rfl, ?_⟩) hHeld ?_
   rotate_left
   ·
    intro w hSw
    (try dsimp only at hSw)
    obtain ⟨s0, s1, s2, s3, s4⟩ := hSw
    first | (go_simp; done) | (go_simp; with_reducible rfl) | with_reducible rfl
   try simp only [Act.put, zA, zB, zC]
   refine wpAnyH_take (i := 2) (oi := ⟨some 74, _, _, _, _, _⟩) (v := ?_) rfl (by kernel_rfl) (by kernel_rfl) (by kernel_rfl) (fun _ _ _ h => h) (Or.inl ⟨by rfl, ?_⟩) hHeld ?_
   rotate_left
   ·
    intro w hSw
    (try dsimp only at hSw)
    obtain ⟨s0, s1, s2, s3, s4⟩ := hSw
    first | (go_simp; done) | (go_simp; with_reducible rfl) | with_reducible rfl
   try simp only [Act.put, zA, zB, zC]
   refine wpAnyH_take (i := 4) (oi := ⟨some 76, _, _, _, _, _⟩) (v := ?_) rfl (by kernel_rfl) (by kernel_rfl) (by kernel_rfl) (fun _ _ _ h => h) (Or.inl ⟨by rfl, ?_⟩) hHeld ?_
   rotate_left
   ·
    intro w hSw
    (try dsimp only at hSw)
    obtain ⟨s0, s1, s2, s3, s4⟩ := hSw
    first | (go_simp; done) | (go_simp; with_reducible rfl) | with_reducible rfl
   try simp only [Act.put, zA, zB, zC]
   refine wpAnyH_take (i := 15) (oi := ⟨some 87, _, _, _, _, _⟩) (v := ?_) rfl (by kernel_rfl) (by kernel_rfl) (by kernel_rfl) (fun _ _ _ h => h) (Or.inl ⟨by rfl, ?_⟩) hHeld ?_
   rotate_left
   ·
    intro w hSw
    (try dsimp only at hSw)
    obtain ⟨s0, s1, s2, s3, s4⟩ := hSw
    first | (go_simp; done) | (go_simp; with_reducible rfl) | with_reducible rfl
   try simp only [Act.put, zA, zB, zC]
   refine wpAnyH_take (i := 24) (oi := ⟨some 96, _, _, _, _, _⟩) (v := ?_) rfl (by kernel_rfl) (by kernel_rfl) (by kernel_rfl) (fun _ _ _ h => h) (Or.inl ⟨by rfl, ?_⟩) hHeld ?_
   rotate_left
   ·
    intro w hSw
    (try dsimp only at hSw)
    obtain ⟨s0, s1, s2, s3, s4⟩ := hSw
    first | (go_simp; done) | (go_simp; with_reducible rfl) | with_reducible rfl
   try simp only [Act.put, zA, zB, zC]
   refine wpAnyH_take (i := 5) (oi := ⟨some 77, _, _, _, _, _⟩) (v := ?_) rfl (by kernel_rfl) (by kernel_rfl) (by kernel_rfl) (fun _ _ _ h => h) (Or.inl ⟨by rfl, ?_⟩) hHeld ?_
   rotate_left
   ·
    intro w hSw
    (try dsimp only at hSw)
    obtain ⟨s0, s1, s2, s3, s4⟩ := hSw
    first | (go_simp; done) | (go_simp; with_reducible rfl) | with_reducible rfl
   try simp only [Act.put, zA, zB, zC]
   refine wpAnyH_take (i := 17) (oi := ⟨some 89, _, _, _, _, _⟩) (v := ?_) rfl (by kernel_rfl) (by kernel_rfl) (by kernel_rfl) (fun _ _ _ h => h) (Or.inl ⟨by rfl, ?_⟩) hHeld ?_
   rotate_left
   ·
    intro w hSw
    (try dsimp only at hSw)
    obtain ⟨s0, s1, s2, s3, s4⟩ := hSw
    first | (go_simp; done) | (go_simp; with_reducible rfl) | with_reducible rfl
   try simp only [Act.put, zA, zB, zC]
   refine wpAnyH_take (i := 26) (oi := ⟨some 98, _, _, _, _, _⟩) (v := ?_) rfl (by kernel_rfl) (by kernel_rfl) (by kernel_rfl) (fun _ _ _ h => h) (Or.inl ⟨by rfl, ?_⟩) hHeld ?_
   rotate_left
   ·
    intro w hSw
    (try dsimp only at hSw)
    obtain ⟨s0, s1, s2, s3, s4⟩ := hSw
    first | (go_simp; done) | (go_simp; with_reducible rfl) | with_reducible rfl
   try simp only [Act.put, zA, zB, zC]
   refine wpAnyH_take (i := 6) (oi := ⟨some 78, _, _, _, _, _⟩) (v := ?_) rfl (by kernel_rfl) (by kernel_rfl) (by kernel_rfl) (fun _ _ _ h => h) (Or.inl ⟨by rfl, ?_⟩) hHeld ?_
   rotate_left
   ·
    intro w hSw
    (try dsimp only at hSw)
    obtain ⟨s0, s1, s2, s3, s4⟩ := hSw
    first | (go_simp; done) | (go_simp; with_reducible rfl) | with_reducible rfl
   try simp only [Act.put, zA, zB, zC]
   refine wpAnyH_take (i := 18) (oi := ⟨some 90, _, _, _, _, _⟩) (v := ?_) rfl (by kernel_rfl) (by kernel_rfl) (by kernel_rfl) (fun _ _ _ h => h) (Or.inl ⟨by rfl, ?_⟩) hHeld ?_
   rotate_left
   ·
    intro w hSw
    (try dsimp only at hSw)
    obtain ⟨s0, s1, s2, s3, s4⟩ := hSw
    first | (go_simp; done) | (go_simp; with_reducible rfl) | with_reducible rfl
   try simp only [Act.put, zA, zB, zC]
   refine wpAnyH_take (i := 27) (oi := ⟨some 99, _, _, _, _, _⟩) (v := ?_) rfl (by kernel_rfl) (by kernel_rfl) (by kernel_rfl) (fun _ _ _ h => h) (Or.inl ⟨by rfl, ?_⟩) hHeld ?_
   rotate_left
   ·
    intro w hSw
    (try dsimp only at hSw)
    obtain ⟨s0, s1, s2, s3, s4⟩ := hSw
    first | (go_simp; done) | (go_simp; with_reducible rfl) | with_reducible rfl
   try simp only [Act.put, zA, zB, zC]
   refine wpAnyH_take (i := 7) (oi := ⟨some 79, _, _, _, _, _⟩) (v := ?_) rfl (by kernel_rfl) (by kernel_rfl) (by kernel_rfl) (fun _ _ _ h => h) (Or.inl ⟨by rfl, ?_⟩) hHeld ?_
   rotate_left
   ·
    intro w hSw
    (try dsimp only at hSw)
    obtain ⟨s0, s1, s2, s3, s4⟩ := hSw
    first | (go_simp; done) | (go_simp; with_reducible rfl) | with_reducible rfl
   try simp only [Act.put, zA, zB, zC]
   refine wpAnyH_take (i := 19) (oi := ⟨some 91, _, _, _, _, _⟩) (v := ?_) rfl (by kernel_rfl) (by kernel_rfl) (by kernel_rfl) (fun _ _ _ h => h) (Or.inl ⟨by rfl, ?_⟩) hHeld ?_
   rotate_left
   ·
    intro w hSw
    (try dsimp only at hSw)
    obtain ⟨s0, s1, s2, s3, s4⟩ := hSw
    first | (go_simp; done) | (go_simp; with_reducible rfl) | with_reducible rfl
   try simp only [Act.put, zA, zB, zC]
   refine wpAnyH_take (i := 28) (oi := ⟨some 100, _, _, _, _, _⟩) (v := ?_) rfl (by kernel_rfl) (by kernel_rfl) (by kernel_rfl) (fun _ _ _ h => h) (Or.inl ⟨by rfl, ?_⟩) hHeld ?_
   rotate_left
   ·
    intro w hSw
    (try dsimp only at hSw)
    obtain ⟨s0, s1, s2, s3, s4⟩ := hSw
    first | (go_simp; done) | (go_simp; with_reducible rfl) | with_reducible rfl
   try simp only [Act.put, zA, zB, zC]
   refine wpAnyH_take (i := 9) (oi := ⟨some 81, _, _, _, _, _⟩) (v := ?_) rfl (by kernel_rfl) (by kernel_rfl) (by kernel_rfl) (fun _ _ _ h => h) (Or.inl ⟨by rfl, ?_⟩) hHeld ?_
   rotate_left
   ·
    intro w hSw
    (try dsimp only at hSw)
    obtain ⟨s0, s1, s2, s3, s4⟩ := hSw
    first | (go_simp; done) | (go_simp; with_reducible rfl) | with_reducible rfl
   try simp only [Act.put, zA, zB, zC]
   refine wpAnyH_take (i := 10) (oi := ⟨some 82, _, _, _, _, _⟩) (v := ?_) rfl (by kernel_rfl) (by kernel_rfl) (by kernel_rfl) (fun _ _ _ h => h) (Or.inl ⟨by rfl, ?_⟩) hHeld ?_
   rotate_left
   ·
    intro w hSw
    (try dsimp only at hSw)
    obtain ⟨s0, s1, s2, s3, s4⟩ := hSw
    first | (go_simp; done) | (go_simp; with_reducible rfl) | with_reducible rfl
   try simp only [Act.put, zA, zB, zC]
   refine wpAnyH_ready (rs := [11]) (by kernel_rfl) (by simp) ?_
   refine AllReadyH.cons (o := ⟨some 83, _, _, _, _, _⟩) rfl (fun K hK => ?_) AllReadyH.nil
   go_simp
   refine (digits_z _ own _ (by have := HN.out; have := HOWN.out; first | omega | (simp only [IntKind.wrap_i64]; omega)) HO9.out).mono ?_
   rintro e x1 ⟨rfl, hb1⟩
   have ly1 : Below wr.heap.size wr x1 := (Below.refl wr.heap.size wr).drew.trans (hb1.mono (Below.refl wr.heap.size wr).drew.size)
   refine hK.out _ _ ?_ (fun hHeld => ?_)
   ·
    exact HK.out x1 ly1
   clear hK K
   try simp only [Act.put, zA, zB, zC]
   refine wpAnyH_take (i := 12) (oi := ⟨some 84, _, _, _, _, _⟩) (v := ?_) rfl (by kernel_rfl) (by kernel_rfl) (by kernel_rfl) (fun _ _ _ h => h) (Or.inl ⟨by rfl, ?_⟩) hHeld ?_
   rotate_left
   ·
    intro w hSw
    (try dsimp only at hSw)
    obtain ⟨s0, s1, s2, s3, s4⟩ := hSw
    first | (go_simp; done) | (go_simp; with_reducible rfl) | with_reducible rfl
   try simp only [Act.put, zA, zB, zC]
   refine wpAnyH_take (i := 13) (oi := ⟨some 85, _, _, _, _, _⟩) (v := ?_) rfl (by kernel_rfl) (by kernel_rfl) (by kernel_rfl) (fun _ _ _ h => h) (Or.inl ⟨by rfl, ?_⟩) hHeld ?_
   rotate_left
   ·
    intro w hSw
    (try dsimp only at hSw)
    obtain ⟨s0, s1, s2, s3, s4⟩ := hSw
    first | (go_simp; done) | (go_simp; with_reducible rfl) | with_reducible rfl
   try simp only [Act.put, zA, zB, zC]
   refine wpAnyH_ready (rs := [20]) (by kernel_rfl) (by simp) ?_
   refine AllReadyH.cons (o := ⟨some 92, _, _, _, _, _⟩) rfl (fun K hK => ?_) AllReadyH.nil
   go_simp
   refine (digits_z _ x _ rfl HX9.out).mono ?_
   rintro e x2 ⟨rfl, hb2⟩
   have ly2 : Below wr.heap.size wr x2 := ly1.trans (hb2.mono ly1.size)
   refine hK.out _ _ ?_ (fun hHeld => ?_)
   ·
    exact HK.out x2 ly2
   clear hK K
   try simp only [Act.put, zA, zB, zC]
   refine wpAnyH_take (i := 21) (oi := ⟨some 93, _, _, _, _, _⟩) (v := ?_) rfl (by kernel_rfl) (by kernel_rfl) (by kernel_rfl) (fun _ _ _ h => h) (Or.inl ⟨by rfl, ?_⟩) hHeld ?_
   rotate_left
   ·
    intro w hSw
    (try dsimp only at hSw)
    obtain ⟨s0, s1, s2, s3, s4⟩ := hSw
    first | (go_simp; done) | (go_simp; with_reducible rfl) | with_reducible rfl
   try simp only [Act.put, zA, zB, zC]
   refine wpAnyH_take (i := 22) (oi := ⟨some 94, _, _, _, _, _⟩) (v := ?_) rfl (by kernel_rfl) (by kernel_rfl) (by kernel_rfl) (fun _ _ _ h => h) (Or.inl ⟨by rfl, ?_⟩) hHeld ?_
   rotate_left
   ·
    intro w hSw
    (try dsimp only at hSw)
    obtain ⟨s0, s1, s2, s3, s4⟩ := hSw
    first | (go_simp; done) | (go_simp; with_reducible rfl) | with_reducible rfl
   try simp only [Act.put, zA, zB, zC]
   refine wpAnyH_ready (rs := [29]) (by kernel_rfl) (by simp) ?_
   refine AllReadyH.cons (o := ⟨some 101, _, _, _, _, _⟩) rfl (fun K hK => ?_) AllReadyH.nil
   go_simp
   refine (digits_z _ y _ rfl HY9.out).mono ?_
   rintro e x3 ⟨rfl, hb3⟩
   have ly3 : Below wr.heap.size wr x3 := ly2.trans (hb3.mono ly2.size)
   refine hK.out _ _ ?_ (fun hHeld => ?_)
   ·
    exact HK.out x3 ly3
   clear hK K
   try simp only [Act.put, zA, zB, zC]
   refine wpAnyH_take (i := 30) (oi := ⟨some 102, _, _, _, _, _⟩) (v := ?_) rfl (by kernel_rfl) (by kernel_rfl) (by kernel_rfl) (fun _ _ _ h => h) (Or.inl ⟨by rfl, ?_⟩) hHeld ?_
   rotate_left
   ·
    intro w hSw
    (try dsimp only at hSw)
    obtain ⟨s0, s1, s2, s3, s4⟩ := hSw
    first | (go_simp; done) | (go_simp; with_reducible rfl) | with_reducible rfl
   try simp only [Act.put, zA, zB, zC]
   refine wpAnyH_take (i := 31) (oi := ⟨some 103, _, _, _, _, _⟩) (v := ?_) rfl (by kernel_rfl) (by kernel_rfl) (by kernel_rfl) (fun _ _ _ h => h) (Or.inl ⟨by rfl, ?_⟩) hHeld ?_
   rotate_left
   ·
    intro w hSw
    (try dsimp only at hSw)
    obtain ⟨s0, s1, s2, s3, s4⟩ := hSw
    first | (go_simp; done) | (go_simp; with_reducible rfl) | with_reducible rfl
   try simp only [Act.put, zA, zB, zC]
   refine wpAnyH_take (i := 32) (oi := ⟨some 4, _, _, _, _, _⟩) (v := ?_) rfl (by kernel_rfl) (by kernel_rfl) (by kernel_rfl) (fun _ _ _ h => h) (Or.inl ⟨by rfl, ?_⟩) hHeld ?_
   rotate_left
   ·
    intro w hSw
    (try dsimp only at hSw)
    obtain ⟨s0, s1, s2, s3, s4⟩ := hSw
    first | (go_simp; done) | (go_simp; with_reducible rfl) | with_reducible rfl
   try simp only [Act.put, zA, zB, zC]
   refine wpAnyH_done (by kernel_rfl) ?_ _
   have lz := HLY.out.trans (ly3.mono HLY.out.size)
   go_wp2
   go_roundw
   case rel => exact ⟨i1 + 1, by omega, by go_num, by rw [HTB.out], lz⟩
   case measure => simp [intOf]; omega
  obtain rfl : i1 = c.gs.length := by omega
  have dl : decide ((c.gs.length : Int) < (c.gs.length : Int)) = false := decide_eq_false (by omega)
  rw [List.take_length]
  have ha1 := add_bsv (P3 ++ Ag.gatP c.gs (j + c.ls.length)) (Ag.namesP c.ns) (by rw [List.length_append]; omega)
  rw [← List.append_assoc] at HPR3
  rw [← HPR3.out] at ha1
  have HNM := Lib.hid (rnames_text c wr (HMM.out wr lx) HOK.out.ns HLN.out (by omega))
  have hbz := HBX.out wr lx
  generalize P3 ++ Ag.gatP c.gs (j + c.ls.length) = P4 at *
  generalize Ag.namesP c.ns = Dn at *
  clear hp3 hgl c2
  have c0 := hbz.cell 0; have c1 := hbz.cell 1; have c2 := hbz.cell 2; have c3 := hbz.cell 3; have c4 := hbz.cell 4; have c5 := hbz.cell 5; have c6 := hbz.cell 6; have c7 := hbz.cell 7; simp only [zD, zE, zF] at c0 c1 c2 c3 c4 c5 c6 c7
  clear hbz
  go_wp2_with fail
  refine HNM.out.mono ?_
  rintro e w6 ⟨rfl, hb6⟩
  have lz := lx.trans (hb6.mono lx.size)
  clear c0 c1 c2 c3 c4 c5 c6 c7
  clear HNM hb6
  go_wp2
  go_ret2
  refine ⟨?_, HLO.out w6 lz⟩
  rw [HR.out]
  rfl
end Go.Proofs.YtpejilhdhkmcjaaGreatDoor
