/- The document's text of a circuit: the names' lines. -/
import Derived.Test.YtpejilhdhkmcjaaGreatDoorJaAl
import Derived.Test.YtpejilhdhkmcjaaGreatDoorJabv
import Derived.Test.YtpejilhdhkmcjaaGreatDoorJabm
import Derived.Test.YtpejilhdhkmcjaaGreatDoorJabo
namespace Go.Proofs.YtpejilhdhkmcjaaGreatDoor
open Go.RowKit

theorem digits_z (z : Int) (n : Nat) (w : World) (h : z = (n : Int)) (hn : n ≤ 999999) : Calls Tryz.prog 19 #[.int .i64 z] w fun e w' => e = .returned (.string (bsv (Ag.num n))) ∧ Below w.heap.size w w' := by
 subst h
 exact digits_any n w hn
set_option maxRecDepth 10000 in
set_option maxHeartbeats 4000000 in
theorem rnames_text (c : Cir) (w : World) (hM : CirM w w.heap.size c) (hok : ∀ x ∈ c.ns, Ag.NameOk x) (hnl : c.ns.length ≤ 1000000) (hl : (Ag.namesP c.ns).length ≤ 800000000) :
  Calls Tryz.prog 33 #[.agg #[.int .i64 c.n, .slice c.aL c.ls.length c.cL, .slice c.aG c.gs.length c.cG, .slice c.aO c.os.length c.cO, .slice c.aB c.bs.length c.cB, .slice c.aC c.cs.length c.cC, .slice c.aF c.fs.length c.cF, .slice c.aN c.ns.length c.cN]] w fun e w' => e = .returned (.string (bsv (Ag.namesP c.ns))) ∧ Below w.heap.size w w' := by
 have lo := lowAlloc w (Obj.cells #[.int .i64 c.n, .slice c.aL c.ls.length c.cL, .slice c.aG c.gs.length c.cG, .slice c.aO c.os.length c.cO, .slice c.aB c.bs.length c.cB, .slice c.aC c.cs.length c.cC, .slice c.aF c.fs.length c.cF, .slice c.aN c.ns.length c.cN] 29)
 have hbx := Blk.new w 29 #[.int .i64 c.n, .slice c.aL c.ls.length c.cL, .slice c.aG c.gs.length c.cG, .slice c.aO c.os.length c.cO, .slice c.aB c.bs.length c.cB, .slice c.aC c.cs.length c.cC, .slice c.aF c.fs.length c.cF, .slice c.aN c.ns.length c.cN]
 have hlt0 : w.heap.size < (w.alloc (Obj.cells #[.int .i64 c.n, .slice c.aL c.ls.length c.cL, .slice c.aG c.gs.length c.cG, .slice c.aO c.os.length c.cO, .slice c.aB c.bs.length c.cB, .slice c.aC c.cs.length c.cC, .slice c.aF c.fs.length c.cF, .slice c.aN c.ns.length c.cN] 29)).heap.size := by simp
 have hN0 := hM.hn.below lo (Nat.le_refl _)
 have HOK := Lib.hid hok
 have HNL := Lib.hid hnl
 clear hM hok hnl
 go_enter Tryz.func33, Tryz.ntmps33
 go_upto_region 1 with fail
 generalize w.alloc (Obj.cells #[.int .i64 c.n, .slice c.aL c.ls.length c.cL, .slice c.aG c.gs.length c.cG, .slice c.aO c.os.length c.cO, .slice c.aB c.bs.length c.cB, .slice c.aC c.cs.length c.cC, .slice c.aF c.fs.length c.cF, .slice c.aN c.ns.length c.cN] 29) = W at *
 go_wp2
 go_loopw [3, 4] (fun t i wr => ∃ j : Nat, j ≤ c.ns.length ∧ i = .int .i64 (j : Int) ∧ t = .string (bsv (Ag.namesP (c.ns.take j))) ∧ Below W.heap.size W wr) (fun _ i _ => c.ns.length - (intOf i).toNat)
 case atStart => exact ⟨0, Nat.zero_le _, rfl, rfl, Below.refl _ _⟩
 obtain ⟨j, hj, rfl, rfl, lx⟩ := hrel
 have hb := hbx.below lx hlt0
 have c7 := hb.cell 7
 simp only [zD, zE, zF] at c7
 by_cases hlt : j < c.ns.length
 ·
  have dl : decide ((j : Int) < (c.ns.length : Int)) = true := decide_eq_true (by omega)
  obtain ⟨b, off, hA, hbl, n0, n1, n2⟩ := (hN0.below lx (Nat.le_of_lt hlt0)) j hlt
  have hix := ixNm b off c.ns.length c.cN j HNL.out hlt
  have HST := Lib.hid (namesP_take c.ns j hlt)
  have hokx := HOK.out c.ns[j] (List.getElem_mem hlt)
  have hl1 := namesP_len c.ns (j + 1)
  rw [HST.out] at hl1
  simp only [List.length_append, List.length_cons, List.length_nil] at hl1
  rw [hA] at c7
  clear hA
  generalize c.ns[j] = x at *
  obtain ⟨z, a, s⟩ := x
  obtain ⟨⟨z0, z1, _, _⟩, ⟨a0, a1⟩, _⟩ := hokx
  simp only at z0 z1 a0 a1 n0 n1 n2
  obtain ⟨sl, rfl⟩ : ∃ sl : Ag.Bs, s = bsv sl := by
   obtain ⟨⟨sl⟩⟩ := s
   exact ⟨sl, rfl⟩
  have hnp : (Ag.nameP (z, a, bsv sl)).length = 1 + (Ag.num a.toNat).length + 1 + sl.length := by
   simp [Ag.nameP, bsv]
   omega
  rw [hnp] at hl1
  clear hnp
  have HNP : Hid (Ag.nameP (z, a, bsv sl) = UInt8.ofNat z.toNat :: (Ag.num a.toNat ++ 32 :: sl)) := rfl
  have hkb := Ag.ofNat_kind (k := z) ⟨z0, z1⟩
  generalize UInt8.ofNat z.toNat = kb at *
  obtain ⟨m, rfl⟩ : ∃ m : Nat, a = (m : Int) := ⟨a.toNat, by omega⟩
  rw [Int.toNat_natCast] at hl1 HNP
  rw [← hkb] at n0
  clear hkb
  have HT : Hid (bsv (Ag.namesP (c.ns.take (j + 1))) = bsv (((((Ag.namesP (c.ns.take j) ++ [kb]) ++ Ag.num m) ++ [32]) ++ sl) ++ [10])) := by
   unfold Hid
   rw [HST.out, HNP.out]
   simp
  clear HNP HST
  have HDG : Hid (∀ V, Calls Tryz.prog 19 #[.int .i64 (m : Int)] V fun e w' => e = .returned (.string (bsv (Ag.num m))) ∧ Below V.heap.size V w') := fun V => digits_any m V (by omega)
  have ha1 := add_bsv (Ag.namesP (c.ns.take j)) [kb] (by simp only [List.length_cons, List.length_nil]; omega)
  have ha2 := add_bsv (Ag.namesP (c.ns.take j) ++ [kb]) (Ag.num m) (by simp only [List.length_append, List.length_cons, List.length_nil]; omega)
  have ha3 := add_bsv ((Ag.namesP (c.ns.take j) ++ [kb]) ++ Ag.num m) [32] (by simp only [List.length_append, List.length_cons, List.length_nil]; omega)
  have ha4 := add_bsv (((Ag.namesP (c.ns.take j) ++ [kb]) ++ Ag.num m) ++ [32]) sl (by simp only [List.length_append, List.length_cons, List.length_nil]; omega)
  have ha5 := add_bsv ((((Ag.namesP (c.ns.take j) ++ [kb]) ++ Ag.num m) ++ [32]) ++ sl) [10] (by simp only [List.length_append, List.length_cons, List.length_nil]; omega)
  rw [show bsv [32] = ⟨#[32]⟩ from rfl] at ha3
  rw [show bsv [10] = ⟨#[10]⟩ from rfl] at ha5
  generalize Ag.namesP (c.ns.take j) ++ [kb] = U1 at *
  generalize Ag.namesP (c.ns.take j) = U at *
  generalize U1 ++ Ag.num m = U2 at *
  generalize U2 ++ [32] = U3 at *
  generalize U3 ++ sl = U4 at *
  generalize U4 ++ [10] = U5 at *
  generalize Ag.num m = Dm at *
  have hwb : b < wr.heap.size := Nat.lt_of_lt_of_le hbl (by have := lx.size; omega)
  have hwc : w.heap.size < wr.heap.size := Nat.lt_of_lt_of_le hlt0 lx.size
  have HK : Hid (∀ V, Below wr.heap.size wr V → (fun V => V.cell? ⟨w.heap.size, 7, none⟩ = some (.slice (some ⟨b, off, none⟩) c.ns.length c.cN) ∧ V.cell? ⟨b, off + j * 3, none⟩ = some (.int .u8 (kb.toNat : Int)) ∧ V.cell? ⟨b, off + j * 3 + 1, none⟩ = some (.int .i64 (m : Int)) ∧ V.cell? ⟨b, off + j * 3 + 2, none⟩ = some (.string (bsv sl))) V) := fun V ly =>
   ⟨(ly.cell (p := ⟨w.heap.size, 7, none⟩) hwc).trans c7, (ly.cell (p := ⟨b, off + j * 3, none⟩) hwb).trans n0, (ly.cell (p := ⟨b, off + j * 3 + 1, none⟩) hwb).trans n1, (ly.cell (p := ⟨b, off + j * 3 + 2, none⟩) hwb).trans n2⟩
  have HLX := Lib.hid lx
  clear hl1 hl z0 z1 a1
  go_upto_region 5 with fail
  clear c7 n0 n1 n2 hb
  clear hbx hN0
  have HG : Hid (∀ V : World, Below wr.heap.size wr V → Blk (V.alloc (Obj.cells #[.int .u8 (kb.toNat : Int)] 5)) V.heap.size 5 #[.int .u8 (kb.toNat : Int)] ∧ Below wr.heap.size wr (V.alloc (Obj.cells #[.int .u8 (kb.toNat : Int)] 5))) := fun V ly => ⟨Blk.new V 5 #[.int .u8 (kb.toNat : Int)], ly.alloc ly.size _⟩
  have g1 := HG.out wr (Below.refl _ _)
  have hq1 : Blk (wr.alloc (Obj.cells #[.int .u8 (kb.toNat : Int)] 5)).drew wr.heap.size 5 #[.int .u8 (kb.toNat : Int)] := Blk.dr g1.1
  have ly1 : Below wr.heap.size wr (wr.alloc (Obj.cells #[.int .u8 (kb.toNat : Int)] 5)).drew := g1.2.drew
  clear g1
  refine wp_region_held_drew (S := (fun V => V.cell? ⟨w.heap.size, 7, none⟩ = some (.slice (some ⟨b, off, none⟩) c.ns.length c.cN) ∧ V.cell? ⟨b, off + j * 3, none⟩ = some (.int .u8 (kb.toNat : Int)) ∧ V.cell? ⟨b, off + j * 3 + 1, none⟩ = some (.int .i64 (m : Int)) ∧ V.cell? ⟨b, off + j * 3 + 2, none⟩ = some (.string (bsv sl)))) (by kernel_rfl) (HK.out _ (Below.refl _ _).drew) (fun hHeld => ?_)
  refine wpAnyH_take (i := 0) (oi := ⟨some 12, _, _, _, _, _⟩) (v := ?_) rfl (by kernel_rfl) (by kernel_rfl) (by kernel_rfl) (fun _ _ _ h => h) (Or.inl ⟨by rfl, ?_⟩) hHeld ?_
  rotate_left
  ·
   intro w hSw
   (try dsimp only at hSw)
   obtain ⟨s0, s1, s2, s3⟩ := hSw
   first | (go_simp; done) | (go_simp; with_reducible rfl) | with_reducible rfl
  try simp only [Act.put, zA, zB, zC]
  refine wpAnyH_take (i := 1) (oi := ⟨some 13, _, _, _, _, _⟩) (v := ?_) rfl (by kernel_rfl) (by kernel_rfl) (by kernel_rfl) (fun _ _ _ h => h) (Or.inl ⟨by rfl, ?_⟩) hHeld ?_
  rotate_left
  ·
   intro w hSw
   (try dsimp only at hSw)
   obtain ⟨s0, s1, s2, s3⟩ := hSw
   first | (go_simp; done) | (go_simp; with_reducible rfl) | with_reducible rfl
  try simp only [Act.put, zA, zB, zC]
  refine wpAnyH_take (i := 3) (oi := ⟨some 15, _, _, _, _, _⟩) (v := ?_) rfl (by kernel_rfl) (by kernel_rfl) (by kernel_rfl) (fun _ _ _ h => h) (Or.inl ⟨by rfl, ?_⟩) hHeld ?_
  rotate_left
  ·
   intro w hSw
   (try dsimp only at hSw)
   obtain ⟨s0, s1, s2, s3⟩ := hSw
   first | (go_simp; done) | (go_simp; with_reducible rfl) | with_reducible rfl
  try simp only [Act.put, zA, zB, zC]
  refine wpAnyH_take (i := 10) (oi := ⟨some 22, _, _, _, _, _⟩) (v := ?_) rfl (by kernel_rfl) (by kernel_rfl) (by kernel_rfl) (fun _ _ _ h => h) (Or.inl ⟨by rfl, ?_⟩) hHeld ?_
  rotate_left
  ·
   intro w hSw
   (try dsimp only at hSw)
   obtain ⟨s0, s1, s2, s3⟩ := hSw
   first | (go_simp; done) | (go_simp; with_reducible rfl) | with_reducible rfl
  try simp only [Act.put, zA, zB, zC]
  refine wpAnyH_take (i := 12) (oi := ⟨some 24, _, _, _, _, _⟩) (v := ?_) rfl (by kernel_rfl) (by kernel_rfl) (by kernel_rfl) (fun _ _ _ h => h) (Or.inl ⟨by rfl, ?_⟩) hHeld ?_
  rotate_left
  ·
   intro w hSw
   (try dsimp only at hSw)
   obtain ⟨s0, s1, s2, s3⟩ := hSw
   first | (go_simp; done) | (go_simp; with_reducible rfl) | with_reducible rfl
  try simp only [Act.put, zA, zB, zC]
  refine wpAnyH_take (i := 19) (oi := ⟨some 31, _, _, _, _, _⟩) (v := ?_) rfl (by kernel_rfl) (by kernel_rfl) (by kernel_rfl) (fun _ _ _ h => h) (Or.inl ⟨by rfl, ?_⟩) hHeld ?_
  rotate_left
  ·
   intro w hSw
   (try dsimp only at hSw)
   obtain ⟨s0, s1, s2, s3⟩ := hSw
   first | (go_simp; done) | (go_simp; with_reducible rfl) | with_reducible rfl
  try simp only [Act.put, zA, zB, zC]
  refine wpAnyH_take (i := 21) (oi := ⟨some 33, _, _, _, _, _⟩) (v := ?_) rfl (by kernel_rfl) (by kernel_rfl) (by kernel_rfl) (fun _ _ _ h => h) (Or.inl ⟨by rfl, ?_⟩) hHeld ?_
  rotate_left
  ·
   intro w hSw
   (try dsimp only at hSw)
   obtain ⟨s0, s1, s2, s3⟩ := hSw
   first | (go_simp; done) | (go_simp; with_reducible rfl) | with_reducible rfl
  try simp only [Act.put, zA, zB, zC]
  refine wpAnyH_take (i := 2) (oi := ⟨some 14, _, _, _, _, _⟩) (v := ?_) rfl (by kernel_rfl) (by kernel_rfl) (by kernel_rfl) (fun _ _ _ h => h) (Or.inl ⟨by rfl, ?_⟩) hHeld ?_
  rotate_left
  ·
   intro w hSw
   (try dsimp only at hSw)
   obtain ⟨s0, s1, s2, s3⟩ := hSw
   first | (go_simp; done) | (go_simp; with_reducible rfl) | with_reducible rfl
  try simp only [Act.put, zA, zB, zC]
  refine wpAnyH_take (i := 11) (oi := ⟨some 23, _, _, _, _, _⟩) (v := ?_) rfl (by kernel_rfl) (by kernel_rfl) (by kernel_rfl) (fun _ _ _ h => h) (Or.inl ⟨by rfl, ?_⟩) hHeld ?_
  rotate_left
  ·
   intro w hSw
   (try dsimp only at hSw)
   obtain ⟨s0, s1, s2, s3⟩ := hSw
   first | (go_simp; done) | (go_simp; with_reducible rfl) | with_reducible rfl
  try simp only [Act.put, zA, zB, zC]
  refine wpAnyH_take (i := 20) (oi := ⟨some 32, _, _, _, _, _⟩) (v := ?_) rfl (by kernel_rfl) (by kernel_rfl) (by kernel_rfl) (fun _ _ _ h => h) (Or.inl ⟨by rfl, ?_⟩) hHeld ?_
  rotate_left
  ·
   intro w hSw
   (try dsimp only at hSw)
   obtain ⟨s0, s1, s2, s3⟩ := hSw
   first | (go_simp; done) | (go_simp; with_reducible rfl) | with_reducible rfl
  try simp only [Act.put, zA, zB, zC]
  refine wpAnyH_take (i := 4) (oi := ⟨some 16, _, _, _, _, _⟩) (v := ?_) rfl (by kernel_rfl) (by kernel_rfl) (by kernel_rfl) (fun _ _ _ h => h) (Or.inl ⟨by rfl, ?_⟩) hHeld ?_
  rotate_left
  ·
   intro w hSw
   (try dsimp only at hSw)
   obtain ⟨s0, s1, s2, s3⟩ := hSw
   first | (go_simp; done) | (go_simp; with_reducible rfl) | with_reducible rfl
  try simp only [Act.put, zA, zB, zC]
  refine wpAnyH_take (i := 13) (oi := ⟨some 25, _, _, _, _, _⟩) (v := ?_) rfl (by kernel_rfl) (by kernel_rfl) (by kernel_rfl) (fun _ _ _ h => h) (Or.inl ⟨by rfl, ?_⟩) hHeld ?_
  rotate_left
  ·
   intro w hSw
   (try dsimp only at hSw)
   obtain ⟨s0, s1, s2, s3⟩ := hSw
   first | (go_simp; done) | (go_simp; with_reducible rfl) | with_reducible rfl
  try simp only [Act.put, zA, zB, zC]
  refine wpAnyH_take (i := 22) (oi := ⟨some 34, _, _, _, _, _⟩) (v := ?_) rfl (by kernel_rfl) (by kernel_rfl) (by kernel_rfl) (fun _ _ _ h => h) (Or.inl ⟨by rfl, ?_⟩) hHeld ?_
  rotate_left
  ·
   intro w hSw
   (try dsimp only at hSw)
   obtain ⟨s0, s1, s2, s3⟩ := hSw
   first | (go_simp; done) | (go_simp; with_reducible rfl) | with_reducible rfl
  try simp only [Act.put, zA, zB, zC]
  refine wpAnyH_take (i := 5) (oi := ⟨some 17, _, _, _, _, _⟩) (v := ?_) rfl (by kernel_rfl) (by kernel_rfl) (by kernel_rfl) (fun _ _ _ h => h) (Or.inl ⟨by rfl, ?_⟩) hHeld ?_
  rotate_left
  ·
   intro w hSw
   (try dsimp only at hSw)
   obtain ⟨s0, s1, s2, s3⟩ := hSw
   first | (go_simp; done) | (go_simp; with_reducible rfl) | with_reducible rfl
  try simp only [Act.put, zA, zB, zC]
  refine wpAnyH_take (i := 14) (oi := ⟨some 26, _, _, _, _, _⟩) (v := ?_) rfl (by kernel_rfl) (by kernel_rfl) (by kernel_rfl) (fun _ _ _ h => h) (Or.inl ⟨by rfl, ?_⟩) hHeld ?_
  rotate_left
  ·
   intro w hSw
   (try dsimp only at hSw)
   obtain ⟨s0, s1, s2, s3⟩ := hSw
   first | (go_simp; done) | (go_simp; with_reducible rfl) | with_reducible rfl
  try simp only [Act.put, zA, zB, zC]
  refine wpAnyH_take (i := 23) (oi := ⟨some 35, _, _, _, _, _⟩) (v := ?_) rfl (by kernel_rfl) (by kernel_rfl) (by kernel_rfl) (fun _ _ _ h => h) (Or.inl ⟨by rfl, ?_⟩) hHeld ?_
  rotate_left
  ·
   intro w hSw
   (try dsimp only at hSw)
   obtain ⟨s0, s1, s2, s3⟩ := hSw
   first | (go_simp; done) | (go_simp; with_reducible rfl) | with_reducible rfl
  try simp only [Act.put, zA, zB, zC]
  refine wpAnyH_take (i := 6) (oi := ⟨some 18, _, _, _, _, _⟩) (v := ?_) rfl (by kernel_rfl) (by kernel_rfl) (by kernel_rfl) (fun _ _ _ h => h) (Or.inl ⟨by rfl, ?_⟩) hHeld ?_
  rotate_left
  ·
   intro w hSw
   (try dsimp only at hSw)
   obtain ⟨s0, s1, s2, s3⟩ := hSw
   first | (go_simp; done) | (go_simp; with_reducible rfl) | with_reducible rfl
  try simp only [Act.put, zA, zB, zC]
  refine wpAnyH_take (i := 15) (oi := ⟨some 27, _, _, _, _, _⟩) (v := ?_) rfl (by kernel_rfl) (by kernel_rfl) (by kernel_rfl) (fun _ _ _ h => h) (Or.inl ⟨by rfl, ?_⟩) hHeld ?_
  rotate_left
  ·
   intro w hSw
   (try dsimp only at hSw)
   obtain ⟨s0, s1, s2, s3⟩ := hSw
   first | (go_simp; done) | (go_simp; with_reducible rfl) | with_reducible rfl
  try simp only [Act.put, zA, zB, zC]
  refine wpAnyH_take (i := 24) (oi := ⟨some 36, _, _, _, _, _⟩) (v := ?_) rfl (by kernel_rfl) (by kernel_rfl) (by kernel_rfl) (fun _ _ _ h => h) (Or.inl ⟨by rfl, ?_⟩) hHeld ?_
  rotate_left
  ·
   intro w hSw
   (try dsimp only at hSw)
   obtain ⟨s0, s1, s2, s3⟩ := hSw
   first | (go_simp; done) | (go_simp; with_reducible rfl) | with_reducible rfl
  try simp only [Act.put, zA, zB, zC]
  refine wpAnyH_ready (rs := [7, 16]) (by kernel_rfl) (by simp) ?_
  refine AllReadyH.cons (o := ⟨some 19, _, _, _, _, _⟩) rfl (fun K hK => ?_) ?_
  ·
   skip
   go_simp
   generalize (wr.alloc (Obj.cells #[.int .u8 (kb.toNat : Int)] 5)).drew = V2 at *
   have hcv1 := one_byteR wr.heap.size 1 kb V2 hq1
   refine hK.out _ _ ?_ (fun hHeld => ?_)
   ·
    exact HK.out V2 ly1
   clear hK K
   try simp only [Act.put, zA, zB, zC]
   refine wpAnyH_ready (rs := [8, 16]) (by kernel_rfl) (by simp) ?_
   refine AllReadyH.cons (o := ⟨some 20, _, _, _, _, _⟩) rfl (fun K hK => ?_) ?_
   ·
    skip
    go_simp
    refine hK.out _ _ ?_ (fun hHeld => ?_)
    ·
     exact HK.out V2 ly1
    clear hK K
    try simp only [Act.put, zA, zB, zC]
    refine wpAnyH_take (i := 9) (oi := ⟨some 21, _, _, _, _, _⟩) (v := ?_) rfl (by kernel_rfl) (by kernel_rfl) (by kernel_rfl) (fun _ _ _ h => h) (Or.inl ⟨by rfl, ?_⟩) hHeld ?_
    rotate_left
    ·
     intro w hSw
     (try dsimp only at hSw)
     obtain ⟨s0, s1, s2, s3⟩ := hSw
     first | (go_simp; done) | (go_simp; with_reducible rfl) | with_reducible rfl
    try simp only [Act.put, zA, zB, zC]
    refine wpAnyH_ready (rs := [16]) (by kernel_rfl) (by simp) ?_
    refine AllReadyH.cons (o := ⟨some 28, _, _, _, _, _⟩) rfl (fun K hK => ?_) AllReadyH.nil
    go_simp
    refine (HDG.out _).mono ?_
    rintro e w2 ⟨rfl, hb2⟩
    have ly2 : Below wr.heap.size wr w2 := ly1.trans (hb2.mono ly1.size)
    refine hK.out _ _ ?_ (fun hHeld => ?_)
    ·
     exact HK.out w2 ly2
    clear hK K
    try simp only [Act.put, zA, zB, zC]
    refine wpAnyH_take (i := 17) (oi := ⟨some 29, _, _, _, _, _⟩) (v := ?_) rfl (by kernel_rfl) (by kernel_rfl) (by kernel_rfl) (fun _ _ _ h => h) (Or.inl ⟨by rfl, ?_⟩) hHeld ?_
    rotate_left
    ·
     intro w hSw
     (try dsimp only at hSw)
     obtain ⟨s0, s1, s2, s3⟩ := hSw
     first | (go_simp; done) | (go_simp; with_reducible rfl) | with_reducible rfl
    try simp only [Act.put, zA, zB, zC]
    refine wpAnyH_take (i := 18) (oi := ⟨some 30, _, _, _, _, _⟩) (v := ?_) rfl (by kernel_rfl) (by kernel_rfl) (by kernel_rfl) (fun _ _ _ h => h) (Or.inl ⟨by rfl, ?_⟩) hHeld ?_
    rotate_left
    ·
     intro w hSw
     (try dsimp only at hSw)
     obtain ⟨s0, s1, s2, s3⟩ := hSw
     first | (go_simp; done) | (go_simp; with_reducible rfl) | with_reducible rfl
    try simp only [Act.put, zA, zB, zC]
    refine wpAnyH_take (i := 25) (oi := ⟨some 37, _, _, _, _, _⟩) (v := ?_) rfl (by kernel_rfl) (by kernel_rfl) (by kernel_rfl) (fun _ _ _ h => h) (Or.inl ⟨by rfl, ?_⟩) hHeld ?_
    rotate_left
    ·
     intro w hSw
     (try dsimp only at hSw)
     obtain ⟨s0, s1, s2, s3⟩ := hSw
     first | (go_simp; done) | (go_simp; with_reducible rfl) | with_reducible rfl
    try simp only [Act.put, zA, zB, zC]
    refine wpAnyH_take (i := 26) (oi := ⟨some 38, _, _, _, _, _⟩) (v := ?_) rfl (by kernel_rfl) (by kernel_rfl) (by kernel_rfl) (fun _ _ _ h => h) (Or.inl ⟨by rfl, ?_⟩) hHeld ?_
    rotate_left
    ·
     intro w hSw
     (try dsimp only at hSw)
     obtain ⟨s0, s1, s2, s3⟩ := hSw
     first | (go_simp; done) | (go_simp; with_reducible rfl) | with_reducible rfl
    try simp only [Act.put, zA, zB, zC]
    refine wpAnyH_take (i := 27) (oi := ⟨some 3, _, _, _, _, _⟩) (v := ?_) rfl (by kernel_rfl) (by kernel_rfl) (by kernel_rfl) (fun _ _ _ h => h) (Or.inl ⟨by rfl, ?_⟩) hHeld ?_
    rotate_left
    ·
     intro w hSw
     (try dsimp only at hSw)
     obtain ⟨s0, s1, s2, s3⟩ := hSw
     first | (go_simp; done) | (go_simp; with_reducible rfl) | with_reducible rfl
    try simp only [Act.put, zA, zB, zC]
    refine wpAnyH_done (by kernel_rfl) ?_ _
    have hnl := HNL.out
    have lz := HLX.out.trans (ly2.mono HLX.out.size)
    go_wp2
    go_roundw
    case rel => exact ⟨j + 1, by omega, by go_num, by rw [HT.out], lz⟩
    case measure => simp [intOf]; omega
   refine AllReadyH.cons (o := ⟨some 28, _, _, _, _, _⟩) rfl (fun K hK => ?_) AllReadyH.nil
   go_simp
   refine (HDG.out _).mono ?_
   rintro e w2 ⟨rfl, hb2⟩
   have ly2 : Below wr.heap.size wr w2 := ly1.trans (hb2.mono ly1.size)
   have hcv := one_byteR wr.heap.size 1 kb w2 (hq1.below hb2 hq1.lt)
   refine hK.out _ _ ?_ (fun hHeld => ?_)
   ·
    exact HK.out w2 ly2
   clear hK K
   try simp only [Act.put, zA, zB, zC]
   refine wpAnyH_ready (rs := [8]) (by kernel_rfl) (by simp) ?_
   refine AllReadyH.cons (o := ⟨some 20, _, _, _, _, _⟩) rfl (fun K hK => ?_) AllReadyH.nil
   go_simp
   refine hK.out _ _ ?_ (fun hHeld => ?_)
   ·
    exact HK.out w2 ly2
   clear hK K
   try simp only [Act.put, zA, zB, zC]
   refine wpAnyH_take (i := 9) (oi := ⟨some 21, _, _, _, _, _⟩) (v := ?_) rfl (by kernel_rfl) (by kernel_rfl) (by kernel_rfl) (fun _ _ _ h => h) (Or.inl ⟨by rfl, ?_⟩) hHeld ?_
   rotate_left
   ·
    intro w hSw
    (try dsimp only at hSw)
    obtain ⟨s0, s1, s2, s3⟩ := hSw
    first | (go_simp; done) | (go_simp; with_reducible rfl) | with_reducible rfl
   try simp only [Act.put, zA, zB, zC]
   refine wpAnyH_take (i := 17) (oi := ⟨some 29, _, _, _, _, _⟩) (v := ?_) rfl (by kernel_rfl) (by kernel_rfl) (by kernel_rfl) (fun _ _ _ h => h) (Or.inl ⟨by rfl, ?_⟩) hHeld ?_
   rotate_left
   ·
    intro w hSw
    (try dsimp only at hSw)
    obtain ⟨s0, s1, s2, s3⟩ := hSw
    first | (go_simp; done) | (go_simp; with_reducible rfl) | with_reducible rfl
   try simp only [Act.put, zA, zB, zC]
   refine wpAnyH_take (i := 18) (oi := ⟨some 30, _, _, _, _, _⟩) (v := ?_) rfl (by kernel_rfl) (by kernel_rfl) (by kernel_rfl) (fun _ _ _ h => h) (Or.inl ⟨by rfl, ?_⟩) hHeld ?_
   rotate_left
   ·
    intro w hSw
    (try dsimp only at hSw)
    obtain ⟨s0, s1, s2, s3⟩ := hSw
    first | (go_simp; done) | (go_simp; with_reducible rfl) | with_reducible rfl
   try simp only [Act.put, zA, zB, zC]
   refine wpAnyH_take (i := 25) (oi := ⟨some 37, _, _, _, _, _⟩) (v := ?_) rfl (by kernel_rfl) (by kernel_rfl) (by kernel_rfl) (fun _ _ _ h => h) (Or.inl ⟨by rfl, ?_⟩) hHeld ?_
   rotate_left
   ·
    intro w hSw
    (try dsimp only at hSw)
    obtain ⟨s0, s1, s2, s3⟩ := hSw
    first | (go_simp; done) | (go_simp; with_reducible rfl) | with_reducible rfl
   try simp only [Act.put, zA, zB, zC]
   refine wpAnyH_take (i := 26) (oi := ⟨some 38, _, _, _, _, _⟩) (v := ?_) rfl (by kernel_rfl) (by kernel_rfl) (by kernel_rfl) (fun _ _ _ h => h) (Or.inl ⟨by rfl, ?_⟩) hHeld ?_
   rotate_left
   ·
    intro w hSw
    (try dsimp only at hSw)
    obtain ⟨s0, s1, s2, s3⟩ := hSw
    first | (go_simp; done) | (go_simp; with_reducible rfl) | with_reducible rfl
   try simp only [Act.put, zA, zB, zC]
   refine wpAnyH_take (i := 27) (oi := ⟨some 3, _, _, _, _, _⟩) (v := ?_) rfl (by kernel_rfl) (by kernel_rfl) (by kernel_rfl) (fun _ _ _ h => h) (Or.inl ⟨by rfl, ?_⟩) hHeld ?_
   rotate_left
   ·
    intro w hSw
    (try dsimp only at hSw)
    obtain ⟨s0, s1, s2, s3⟩ := hSw
    first | (go_simp; done) | (go_simp; with_reducible rfl) | with_reducible rfl
   try simp only [Act.put, zA, zB, zC]
   refine wpAnyH_done (by kernel_rfl) ?_ _
   have hnl := HNL.out
   have lz := HLX.out.trans (ly2.mono HLX.out.size)
   go_wp2
   go_roundw
   case rel => exact ⟨j + 1, by omega, by go_num, by rw [HT.out], lz⟩
   case measure => simp [intOf]; omega
  refine AllReadyH.cons (o := ⟨some 28, _, _, _, _, _⟩) rfl (fun K hK => ?_) AllReadyH.nil
  go_simp
  refine (HDG.out _).mono ?_
  rintro e w2 ⟨rfl, hb2⟩
  have ly2 : Below wr.heap.size wr w2 := (Below.refl wr.heap.size wr).drew.trans hb2
  refine hK.out _ _ ?_ (fun hHeld => ?_)
  ·
   exact HK.out w2 ly2
  clear hK K
  try simp only [Act.put, zA, zB, zC]
  refine wpAnyH_ready (rs := [7]) (by kernel_rfl) (by simp) ?_
  refine AllReadyH.cons (o := ⟨some 19, _, _, _, _, _⟩) rfl (fun K hK => ?_) AllReadyH.nil
  go_simp
  have g3 := HG.out w2 ly2
  have hq3 := g3.1
  have ly3 := g3.2
  clear g3
  generalize w2.alloc (Obj.cells #[.int .u8 (kb.toNat : Int)] 5) = V3 at *
  have hcv := one_byteR w2.heap.size 1 kb V3 hq3
  refine hK.out _ _ ?_ (fun hHeld => ?_)
  ·
   exact HK.out V3 ly3
  clear hK K
  try simp only [Act.put, zA, zB, zC]
  refine wpAnyH_ready (rs := [8]) (by kernel_rfl) (by simp) ?_
  refine AllReadyH.cons (o := ⟨some 20, _, _, _, _, _⟩) rfl (fun K hK => ?_) AllReadyH.nil
  go_simp
  refine hK.out _ _ ?_ (fun hHeld => ?_)
  ·
   exact HK.out V3 ly3
  clear hK K
  try simp only [Act.put, zA, zB, zC]
  refine wpAnyH_take (i := 9) (oi := ⟨some 21, _, _, _, _, _⟩) (v := ?_) rfl (by kernel_rfl) (by kernel_rfl) (by kernel_rfl) (fun _ _ _ h => h) (Or.inl ⟨by rfl, ?_⟩) hHeld ?_
  rotate_left
  ·
   intro w hSw
   (try dsimp only at hSw)
   obtain ⟨s0, s1, s2, s3⟩ := hSw
   first | (go_simp; done) | (go_simp; with_reducible rfl) | with_reducible rfl
  try simp only [Act.put, zA, zB, zC]
  refine wpAnyH_take (i := 17) (oi := ⟨some 29, _, _, _, _, _⟩) (v := ?_) rfl (by kernel_rfl) (by kernel_rfl) (by kernel_rfl) (fun _ _ _ h => h) (Or.inl ⟨by rfl, ?_⟩) hHeld ?_
  rotate_left
  ·
   intro w hSw
   (try dsimp only at hSw)
   obtain ⟨s0, s1, s2, s3⟩ := hSw
   first | (go_simp; done) | (go_simp; with_reducible rfl) | with_reducible rfl
  try simp only [Act.put, zA, zB, zC]
  refine wpAnyH_take (i := 18) (oi := ⟨some 30, _, _, _, _, _⟩) (v := ?_) rfl (by kernel_rfl) (by kernel_rfl) (by kernel_rfl) (fun _ _ _ h => h) (Or.inl ⟨by rfl, ?_⟩) hHeld ?_
  rotate_left
  ·
   intro w hSw
   (try dsimp only at hSw)
   obtain ⟨s0, s1, s2, s3⟩ := hSw
   first | (go_simp; done) | (go_simp; with_reducible rfl) | with_reducible rfl
  try simp only [Act.put, zA, zB, zC]
  refine wpAnyH_take (i := 25) (oi := ⟨some 37, _, _, _, _, _⟩) (v := ?_) rfl (by kernel_rfl) (by kernel_rfl) (by kernel_rfl) (fun _ _ _ h => h) (Or.inl ⟨by rfl, ?_⟩) hHeld ?_
  rotate_left
  ·
   intro w hSw
   (try dsimp only at hSw)
   obtain ⟨s0, s1, s2, s3⟩ := hSw
   first | (go_simp; done) | (go_simp; with_reducible rfl) | with_reducible rfl
  try simp only [Act.put, zA, zB, zC]
  refine wpAnyH_take (i := 26) (oi := ⟨some 38, _, _, _, _, _⟩) (v := ?_) rfl (by kernel_rfl) (by kernel_rfl) (by kernel_rfl) (fun _ _ _ h => h) (Or.inl ⟨by rfl, ?_⟩) hHeld ?_
  rotate_left
  ·
   intro w hSw
   (try dsimp only at hSw)
   obtain ⟨s0, s1, s2, s3⟩ := hSw
   first | (go_simp; done) | (go_simp; with_reducible rfl) | with_reducible rfl
  try simp only [Act.put, zA, zB, zC]
  refine wpAnyH_take (i := 27) (oi := ⟨some 3, _, _, _, _, _⟩) (v := ?_) rfl (by kernel_rfl) (by kernel_rfl) (by kernel_rfl) (fun _ _ _ h => h) (Or.inl ⟨by rfl, ?_⟩) hHeld ?_
  rotate_left
  ·
   intro w hSw
   (try dsimp only at hSw)
   obtain ⟨s0, s1, s2, s3⟩ := hSw
   first | (go_simp; done) | (go_simp; with_reducible rfl) | with_reducible rfl
  try simp only [Act.put, zA, zB, zC]
  refine wpAnyH_done (by kernel_rfl) ?_ _
  have hnl := HNL.out
  have lz := HLX.out.trans (ly3.mono HLX.out.size)
  go_wp2
  go_roundw
  case rel => exact ⟨j + 1, by omega, by go_num, by rw [HT.out], lz⟩
  case measure => simp [intOf]; omega
 obtain rfl : j = c.ns.length := by omega
 have dl : decide ((c.ns.length : Int) < (c.ns.length : Int)) = false := decide_eq_false (by omega)
 rw [List.take_length]
 obtain ⟨u, hu⟩ : ∃ u, u = Ag.namesP c.ns := ⟨_, rfl⟩
 rw [← hu]
 have HU := Lib.hid hu
 clear hu
 go_wp2
 go_ret
 exact ⟨by rw [← HU.out]; rfl, lo.trans (lx.mono (by have := lo.size; omega))⟩
end Go.Proofs.YtpejilhdhkmcjaaGreatDoor
