/- The reference's Same, of circuits that hold the same. -/
import Derived.Test.YtpejilhdhkmcjaaGreatDoorJaAl
import Derived.Test.YtpejilhdhkmcjaaGreatDoorJaap
import Derived.Test.YtpejilhdhkmcjaaGreatDoorJaat
namespace Go.Proofs.YtpejilhdhkmcjaaGreatDoor
open Go.RowKit

set_option maxRecDepth 100000 in
set_option maxHeartbeats 4000000 in
theorem refInts_true (A A2 : Option Addr) (c c2 : Nat) (zs : List Int) (w : World) (hl : zs.length ≤ maxLen) (h1 : Vs w w.heap.size A (iv zs)) (h2 : Vs w w.heap.size A2 (iv zs)) :
  Calls Tryz.prog 41 #[.slice A zs.length c, .slice A2 zs.length c2] w fun e w' => e = .returned (.bool true) ∧ Below w.heap.size w w' := by
 unfold maxLen at hl
 have b2 : ((zs.length : Int) != (zs.length : Int)) = false := by simp
 have HL := Lib.hid hl
 go_enter Tryz.func41, Tryz.ntmps41
 go_wp2
 clear b2
 go_loopw [5] (fun j wr => ∃ k : Nat, k ≤ zs.length ∧ j = .int .i64 (k : Int) ∧ ∃ q, wr = w.drewN q) (fun j _ => zs.length - (intOf j).toNat)
 case atStart => exact ⟨0, Nat.zero_le _, rfl, 0, rfl⟩
 obtain ⟨k, hk, rfl, q, rfl⟩ := hrel
 by_cases hlt : k < zs.length
 ·
  obtain ⟨b, off, hA, _, g1⟩ := h1 k (by simpa using hlt)
  obtain ⟨b2, off2, hA2, _, g3⟩ := h2 k (by simpa using hlt)
  have g1' : w.cell? ⟨b, off + k, none⟩ = some (.int .i64 zs[k]) := by simpa using g1
  have g3' : w.cell? ⟨b2, off2 + k, none⟩ = some (.int .i64 zs[k]) := by simpa using g3
  subst hA hA2
  have hix := ixI2 b off zs.length c k HL.out hlt
  have hix2 := ixI2 b2 off2 zs.length c2 k HL.out hlt
  clear g1 g3
  generalize zs[k] = x at *
  have hel : (x != x) = false := by simp
  go_wp2
  go_quiet (fail)
  go_wp2
  go_roundw
  case rel => exact ⟨k + 1, by omega, by go_num, q + nq, rfl⟩
  case measure => simp [intOf]; omega
 go_wp2
 go_ret
 exact ⟨rfl, below_drewN (Below.refl _ _) _⟩

theorem neq_latch (a b : Int) (w : World) : (binOp .neq 49 (.agg #[.int .i64 a, .int .i64 b]) (.agg #[.int .i64 a, .int .i64 b])).run Tryz.prog w = .ok (.bool false) w := by
 rw [run_neq_struct]
 go_simp
theorem neq_name (a b : Int) (s : ByteArray) (w : World) : (binOp .neq 69 (.agg #[.int .u8 a, .int .i64 b, .string s]) (.agg #[.int .u8 a, .int .i64 b, .string s])).run Tryz.prog w = .ok (.bool false) w := by
 rw [run_neq_struct]
 go_simp
theorem ixLt2 (b off n c r : Nat) (_hn : n ≤ 1000000) (hr : r < n) (w : World) : (Instr.indexAt 24 (.slice (some ⟨b, off, none⟩) n c) (.int .i64 (r : Int))).run Tryz.prog w = .ok (.pointer (some ⟨b, off + r * 2, none⟩)) w := by
 go_simp
theorem ixNm2 (b off n c r : Nat) (_hn : n ≤ 1000000) (hr : r < n) (w : World) : (Instr.indexAt 27 (.slice (some ⟨b, off, none⟩) n c) (.int .i64 (r : Int))).run Tryz.prog w = .ok (.pointer (some ⟨b, off + r * 3, none⟩)) w := by
 go_simp
set_option maxRecDepth 100000 in
set_option maxHeartbeats 8000000 in
theorem refSame4_list (n : Int) (aL aL2 : Option Addr) (cL cL2 : Nat) (ls : List (Int × Int)) (aG aG2 : Option Addr) (cG cG2 : Nat) (gs : List (Int × Int)) (aO aO2 : Option Addr) (cO cO2 : Nat) (os : List Int) (aB aB2 : Option Addr) (cB cB2 : Nat) (bs : List Int) (aC aC2 : Option Addr) (cC cC2 : Nat) (cs : List Int) (aF aF2 : Option Addr) (cF cF2 : Nat) (fs : List Int) (aN aN2 : Option Addr) (cN cN2 : Nat) (ns : List Nm) (w : World)
  (hM : CirM w w.heap.size ({ n := n, aL := aL, cL := cL, ls := ls, aG := aG, cG := cG, gs := gs, aO := aO, cO := cO, os := os, aB := aB, cB := cB, bs := bs, aC := aC, cC := cC, cs := cs, aF := aF, cF := cF, fs := fs, aN := aN, cN := cN, ns := ns } : Cir)) (hM2 : CirM w w.heap.size ({ n := n, aL := aL2, cL := cL2, ls := ls, aG := aG2, cG := cG2, gs := gs, aO := aO2, cO := cO2, os := os, aB := aB2, cB := cB2, bs := bs, aC := aC2, cC := cC2, cs := cs, aF := aF2, cF := cF2, fs := fs, aN := aN2, cN := cN2, ns := ns } : Cir)) (hll : ls.length ≤ 1000000) (hlg : gs.length ≤ 1000000) (hln : ns.length ≤ 1000000) (hlo : os.length ≤ maxLen) (hlb : bs.length ≤ maxLen) (hlc : cs.length ≤ maxLen) (hlf : fs.length ≤ maxLen) :
  Calls Tryz.prog 18 #[.agg #[.int .i64 n, .slice aL ls.length cL, .slice aG gs.length cG, .slice aO os.length cO, .slice aB bs.length cB, .slice aC cs.length cC, .slice aF fs.length cF, .slice aN ns.length cN], .agg #[.int .i64 n, .slice aL2 ls.length cL2, .slice aG2 gs.length cG2, .slice aO2 os.length cO2, .slice aB2 bs.length cB2, .slice aC2 cs.length cC2, .slice aF2 fs.length cF2, .slice aN2 ns.length cN2]] w fun e w' => e = .returned (.bool true) ∧ Below w.heap.size w w' := by
 have hbx0 := Blk.new w 29 #[.int .i64 n, .slice aL ls.length cL, .slice aG gs.length cG, .slice aO os.length cO, .slice aB bs.length cB, .slice aC cs.length cC, .slice aF fs.length cF, .slice aN ns.length cN]
 have hbx := hbx0.alloc (Obj.cells #[.int .i64 n, .slice aL2 ls.length cL2, .slice aG2 gs.length cG2, .slice aO2 os.length cO2, .slice aB2 bs.length cB2, .slice aC2 cs.length cC2, .slice aF2 fs.length cF2, .slice aN2 ns.length cN2] 29)
 have hby : Blk ((w.alloc (Obj.cells #[.int .i64 n, .slice aL ls.length cL, .slice aG gs.length cG, .slice aO os.length cO, .slice aB bs.length cB, .slice aC cs.length cC, .slice aF fs.length cF, .slice aN ns.length cN] 29)).alloc (Obj.cells #[.int .i64 n, .slice aL2 ls.length cL2, .slice aG2 gs.length cG2, .slice aO2 os.length cO2, .slice aB2 bs.length cB2, .slice aC2 cs.length cC2, .slice aF2 fs.length cF2, .slice aN2 ns.length cN2] 29)) (w.heap.size + 1) 29 #[.int .i64 n, .slice aL2 ls.length cL2, .slice aG2 gs.length cG2, .slice aO2 os.length cO2, .slice aB2 bs.length cB2, .slice aC2 cs.length cC2, .slice aF2 fs.length cF2, .slice aN2 ns.length cN2] := by
  have := Blk.new (w.alloc (Obj.cells #[.int .i64 n, .slice aL ls.length cL, .slice aG gs.length cG, .slice aO os.length cO, .slice aB bs.length cB, .slice aC cs.length cC, .slice aF fs.length cF, .slice aN ns.length cN] 29)) 29 #[.int .i64 n, .slice aL2 ls.length cL2, .slice aG2 gs.length cG2, .slice aO2 os.length cO2, .slice aB2 bs.length cB2, .slice aC2 cs.length cC2, .slice aF2 fs.length cF2, .slice aN2 ns.length cN2]
  simpa using this
 have lo := (lowAlloc w (Obj.cells #[.int .i64 n, .slice aL ls.length cL, .slice aG gs.length cG, .slice aO os.length cO, .slice aB bs.length cB, .slice aC cs.length cC, .slice aF fs.length cF, .slice aN ns.length cN] 29)).alloc (by simp) (Obj.cells #[.int .i64 n, .slice aL2 ls.length cL2, .slice aG2 gs.length cG2, .slice aO2 os.length cO2, .slice aB2 bs.length cB2, .slice aC2 cs.length cC2, .slice aF2 fs.length cF2, .slice aN2 ns.length cN2] 29)
 obtain ⟨W, hWW⟩ : ∃ W, W = (w.alloc (Obj.cells #[.int .i64 n, .slice aL ls.length cL, .slice aG gs.length cG, .slice aO os.length cO, .slice aB bs.length cB, .slice aC cs.length cC, .slice aF fs.length cF, .slice aN ns.length cN] 29)).alloc (Obj.cells #[.int .i64 n, .slice aL2 ls.length cL2, .slice aG2 gs.length cG2, .slice aO2 os.length cO2, .slice aB2 bs.length cB2, .slice aC2 cs.length cC2, .slice aF2 fs.length cF2, .slice aN2 ns.length cN2] 29) := ⟨_, rfl⟩
 rw [← hWW] at hbx hby lo
 obtain ⟨B0, hB0⟩ : ∃ B0, B0 = w.heap.size := ⟨_, rfl⟩
 obtain ⟨B1, hB1⟩ : ∃ B1, B1 = w.heap.size + 1 := ⟨_, rfl⟩
 rw [← hB0] at hbx
 rw [← hB1] at hby
 have HMB : Hid (∀ V, Below W.heap.size W V → CirM V V.heap.size ({ n := n, aL := aL, cL := cL, ls := ls, aG := aG, cG := cG, gs := gs, aO := aO, cO := cO, os := os, aB := aB, cB := cB, bs := bs, aC := aC, cC := cC, cs := cs, aF := aF, cF := cF, fs := fs, aN := aN, cN := cN, ns := ns } : Cir) ∧ CirM V V.heap.size ({ n := n, aL := aL2, cL := cL2, ls := ls, aG := aG2, cG := cG2, gs := gs, aO := aO2, cO := cO2, os := os, aB := aB2, cB := cB2, bs := bs, aC := aC2, cC := cC2, cs := cs, aF := aF2, cF := cF2, fs := fs, aN := aN2, cN := cN2, ns := ns } : Cir)) := fun V hb => ⟨(hM.below (lo.trans (hb.mono lo.size)) (Nat.le_refl _)).more (Nat.le_trans lo.size hb.size), (hM2.below (lo.trans (hb.mono lo.size)) (Nat.le_refl _)).more (Nat.le_trans lo.size hb.size)⟩
 have HK : Hid (∀ V, Below W.heap.size W V → (fun V => V.cell? ⟨B0, 0, none⟩ = some (.int .i64 n) ∧ V.cell? ⟨B0, 1, none⟩ = some (.slice aL ls.length cL) ∧ V.cell? ⟨B0, 2, none⟩ = some (.slice aG gs.length cG) ∧ V.cell? ⟨B0, 3, none⟩ = some (.slice aO os.length cO) ∧ V.cell? ⟨B0, 4, none⟩ = some (.slice aB bs.length cB) ∧ V.cell? ⟨B0, 5, none⟩ = some (.slice aC cs.length cC) ∧ V.cell? ⟨B0, 6, none⟩ = some (.slice aF fs.length cF) ∧ V.cell? ⟨B0, 7, none⟩ = some (.slice aN ns.length cN) ∧ V.cell? ⟨B1, 0, none⟩ = some (.int .i64 n) ∧ V.cell? ⟨B1, 1, none⟩ = some (.slice aL2 ls.length cL2) ∧ V.cell? ⟨B1, 2, none⟩ = some (.slice aG2 gs.length cG2) ∧ V.cell? ⟨B1, 3, none⟩ = some (.slice aO2 os.length cO2) ∧ V.cell? ⟨B1, 4, none⟩ = some (.slice aB2 bs.length cB2) ∧ V.cell? ⟨B1, 5, none⟩ = some (.slice aC2 cs.length cC2) ∧ V.cell? ⟨B1, 6, none⟩ = some (.slice aF2 fs.length cF2) ∧ V.cell? ⟨B1, 7, none⟩ = some (.slice aN2 ns.length cN2)) V) := by
  intro V hb
  have h := hbx.below hb hbx.lt
  have h2 := hby.below hb hby.lt
  exact ⟨h.cell 0, h.cell 1, h.cell 2, h.cell 3, h.cell 4, h.cell 5, h.cell 6, h.cell 7, h2.cell 0, h2.cell 1, h2.cell 2, h2.cell 3, h2.cell 4, h2.cell 5, h2.cell 6, h2.cell 7⟩
 have H1 := Lib.hid (fun V => refOf_any ({ n := n, aL := aL, cL := cL, ls := ls, aG := aG, cG := cG, gs := gs, aO := aO, cO := cO, os := os, aB := aB, cB := cB, bs := bs, aC := aC, cC := cC, cs := cs, aF := aF, cF := cF, fs := fs, aN := aN, cN := cN, ns := ns } : Cir) V)
 have H2 := Lib.hid (fun V => refOf_any ({ n := n, aL := aL2, cL := cL2, ls := ls, aG := aG2, cG := cG2, gs := gs, aO := aO2, cO := cO2, os := os, aB := aB2, cB := cB2, bs := bs, aC := aC2, cC := cC2, cs := cs, aF := aF2, cF := cF2, fs := fs, aN := aN2, cN := cN2, ns := ns } : Cir) V)
 have HSM := Lib.hid (fun N V (hb : Below W.heap.size W V) => same_true N aG aG2 cG cG2 gs V hlg (HMB.out V hb).1.hg (HMB.out V hb).2.hg)
 have HO := Lib.hid (fun V (hb : Below W.heap.size W V) => refInts_true aO aO2 cO cO2 os V hlo (HMB.out V hb).1.ho (HMB.out V hb).2.ho)
 have HB := Lib.hid (fun V (hb : Below W.heap.size W V) => refInts_true aB aB2 cB cB2 bs V hlb (HMB.out V hb).1.hb (HMB.out V hb).2.hb)
 have HC := Lib.hid (fun V (hb : Below W.heap.size W V) => refInts_true aC aC2 cC cC2 cs V hlc (HMB.out V hb).1.hc (HMB.out V hb).2.hc)
 have HF := Lib.hid (fun V (hb : Below W.heap.size W V) => refInts_true aF aF2 cF cF2 fs V hlf (HMB.out V hb).1.hf (HMB.out V hb).2.hf)
 simp only [] at H1 H2
 have bn : (n != n) = false := by simp
 have bl : ((ls.length : Int) != (ls.length : Int)) = false := by simp
 have bm : ((ns.length : Int) != (ns.length : Int)) = false := by simp
 generalize wrap64 (n + ls.length) = N at *
 have lx := Below.refl W.heap.size W
 have HLL := Lib.hid hll
 have HLN := Lib.hid hln
 clear hbx hby hbx0 hM hM2 hll hlg hln hlo hlb hlc hlf
 go_enter Tryz.func18, Tryz.ntmps18
 go_upto_region 1 with fail
 rw [← hB1, ← hB0, ← hWW]
 have HLO := Lib.hid lo
 clear hWW hB1 hB0 lo
 refine wp_region_held_drew (S := (fun V => V.cell? ⟨B0, 0, none⟩ = some (.int .i64 n) ∧ V.cell? ⟨B0, 1, none⟩ = some (.slice aL ls.length cL) ∧ V.cell? ⟨B0, 2, none⟩ = some (.slice aG gs.length cG) ∧ V.cell? ⟨B0, 3, none⟩ = some (.slice aO os.length cO) ∧ V.cell? ⟨B0, 4, none⟩ = some (.slice aB bs.length cB) ∧ V.cell? ⟨B0, 5, none⟩ = some (.slice aC cs.length cC) ∧ V.cell? ⟨B0, 6, none⟩ = some (.slice aF fs.length cF) ∧ V.cell? ⟨B0, 7, none⟩ = some (.slice aN ns.length cN) ∧ V.cell? ⟨B1, 0, none⟩ = some (.int .i64 n) ∧ V.cell? ⟨B1, 1, none⟩ = some (.slice aL2 ls.length cL2) ∧ V.cell? ⟨B1, 2, none⟩ = some (.slice aG2 gs.length cG2) ∧ V.cell? ⟨B1, 3, none⟩ = some (.slice aO2 os.length cO2) ∧ V.cell? ⟨B1, 4, none⟩ = some (.slice aB2 bs.length cB2) ∧ V.cell? ⟨B1, 5, none⟩ = some (.slice aC2 cs.length cC2) ∧ V.cell? ⟨B1, 6, none⟩ = some (.slice aF2 fs.length cF2) ∧ V.cell? ⟨B1, 7, none⟩ = some (.slice aN2 ns.length cN2))) (by kernel_rfl) ?_ (fun hHeld => ?_)
 ·
  exact HK.out _ lx.drew
 replace lx := lx.drew
 refine wpAnyH_take (i := 0) (oi := ⟨some 7, _, _, _, _, _⟩) (v := ?_) rfl (by kernel_rfl) (by kernel_rfl) (by kernel_rfl) (fun _ _ _ h => h) (Or.inl ⟨by rfl, ?_⟩) hHeld ?_
 rotate_left
 ·
  intro w hSw
  obtain ⟨s0, s1, s2, s3, s4, s5, s6, s7, s8, s9, s10, s11, s12, s13, s14, s15⟩ := hSw
  first | (go_simp; done) | (go_simp; with_reducible rfl) | with_reducible rfl
 try simp only [Act.put, zA, zB, zC]
 refine wpAnyH_take (i := 2) (oi := ⟨some 9, _, _, _, _, _⟩) (v := ?_) rfl (by kernel_rfl) (by kernel_rfl) (by kernel_rfl) (fun _ _ _ h => h) (Or.inl ⟨by rfl, ?_⟩) hHeld ?_
 rotate_left
 ·
  intro w hSw
  obtain ⟨s0, s1, s2, s3, s4, s5, s6, s7, s8, s9, s10, s11, s12, s13, s14, s15⟩ := hSw
  first | (go_simp; done) | (go_simp; with_reducible rfl) | with_reducible rfl
 try simp only [Act.put, zA, zB, zC]
 refine wpAnyH_ready (rs := [1]) (by kernel_rfl) (by simp) ?_
 refine AllReadyH.cons (o := ⟨some 8, _, _, _, _, _⟩) rfl (fun K hK => ?_) AllReadyH.nil
 go_simp
 (refine (H1.out _).mono ?_; rintro e wx ⟨rfl, hbx⟩; replace lx := lx.trans (hbx.mono lx.size))
 refine hK.out _ _ ?_ (fun hHeld => ?_)
 ·
  exact HK.out _ lx
 clear hK K
 try simp only [Act.put, zA, zB, zC]
 refine wpAnyH_ready (rs := [3]) (by kernel_rfl) (by simp) ?_
 refine AllReadyH.cons (o := ⟨some 10, _, _, _, _, _⟩) rfl (fun K hK => ?_) AllReadyH.nil
 go_simp
 (refine (H2.out _).mono ?_; rintro e wx ⟨rfl, hbx⟩; replace lx := lx.trans (hbx.mono lx.size))
 refine hK.out _ _ ?_ (fun hHeld => ?_)
 ·
  exact HK.out _ lx
 clear hK K
 try simp only [Act.put, zA, zB, zC]
 refine wpAnyH_ready (rs := [4]) (by kernel_rfl) (by simp) ?_
 refine AllReadyH.cons (o := ⟨some 11, _, _, _, _, _⟩) rfl (fun K hK => ?_) AllReadyH.nil
 go_simp
 (refine (HSM.out _ _ lx).mono ?_; rintro e wx ⟨rfl, hbx⟩; replace lx := lx.trans (hbx.mono lx.size))
 refine hK.out _ _ ?_ (fun hHeld => ?_)
 ·
  exact HK.out _ lx
 clear hK K
 try simp only [Act.put, zA, zB, zC]
 refine wpAnyH_take (i := 5) (oi := ⟨some 12, _, _, _, _, _⟩) (v := ?_) rfl (by kernel_rfl) (by kernel_rfl) (by kernel_rfl) (fun _ _ _ h => h) (Or.inl ⟨by rfl, ?_⟩) hHeld ?_
 rotate_left
 ·
  intro w hSw
  obtain ⟨s0, s1, s2, s3, s4, s5, s6, s7, s8, s9, s10, s11, s12, s13, s14, s15⟩ := hSw
  first | (go_simp; done) | (go_simp; with_reducible rfl) | with_reducible rfl
 try simp only [Act.put, zA, zB, zC]
 refine wpAnyH_take (i := 6) (oi := ⟨some 13, _, _, _, _, _⟩) (v := ?_) rfl (by kernel_rfl) (by kernel_rfl) (by kernel_rfl) (fun _ _ _ h => h) (Or.inl ⟨by rfl, ?_⟩) hHeld ?_
 rotate_left
 ·
  intro w hSw
  obtain ⟨s0, s1, s2, s3, s4, s5, s6, s7, s8, s9, s10, s11, s12, s13, s14, s15⟩ := hSw
  first | (go_simp; done) | (go_simp; with_reducible rfl) | with_reducible rfl
 try simp only [Act.put, zA, zB, zC]
 refine wpAnyH_take (i := 7) (oi := ⟨some 14, _, _, _, _, _⟩) (v := ?_) rfl (by kernel_rfl) (by kernel_rfl) (by kernel_rfl) (fun _ _ _ h => h) (Or.inl ⟨by rfl, ?_⟩) hHeld ?_
 rotate_left
 ·
  intro w hSw
  obtain ⟨s0, s1, s2, s3, s4, s5, s6, s7, s8, s9, s10, s11, s12, s13, s14, s15⟩ := hSw
  first | (go_simp; done) | (go_simp; with_reducible rfl) | with_reducible rfl
 try simp only [Act.put, zA, zB, zC]
 refine wpAnyH_take (i := 8) (oi := ⟨some 15, _, _, _, _, _⟩) (v := ?_) rfl (by kernel_rfl) (by kernel_rfl) (by kernel_rfl) (fun _ _ _ h => h) (Or.inl ⟨by rfl, ?_⟩) hHeld ?_
 rotate_left
 ·
  intro w hSw
  obtain ⟨s0, s1, s2, s3, s4, s5, s6, s7, s8, s9, s10, s11, s12, s13, s14, s15⟩ := hSw
  first | (go_simp; done) | (go_simp; with_reducible rfl) | with_reducible rfl
 try simp only [Act.put, zA, zB, zC]
 refine wpAnyH_take (i := 9) (oi := ⟨some 16, _, _, _, _, _⟩) (v := ?_) rfl (by kernel_rfl) (by kernel_rfl) (by kernel_rfl) (fun _ _ _ h => h) (Or.inl ⟨by rfl, ?_⟩) hHeld ?_
 rotate_left
 ·
  intro w hSw
  obtain ⟨s0, s1, s2, s3, s4, s5, s6, s7, s8, s9, s10, s11, s12, s13, s14, s15⟩ := hSw
  first | (go_simp; done) | (go_simp; with_reducible rfl) | with_reducible rfl
 try simp only [Act.put, zA, zB, zC]
 refine wpAnyH_take (i := 10) (oi := ⟨some 17, _, _, _, _, _⟩) (v := ?_) rfl (by kernel_rfl) (by kernel_rfl) (by kernel_rfl) (fun _ _ _ h => h) (Or.inl ⟨by rfl, ?_⟩) hHeld ?_
 rotate_left
 ·
  intro w hSw
  obtain ⟨s0, s1, s2, s3, s4, s5, s6, s7, s8, s9, s10, s11, s12, s13, s14, s15⟩ := hSw
  first | (go_simp; done) | (go_simp; with_reducible rfl) | with_reducible rfl
 try simp only [Act.put, zA, zB, zC]
 refine wpAnyH_take (i := 11) (oi := ⟨some 18, _, _, _, _, _⟩) (v := ?_) rfl (by kernel_rfl) (by kernel_rfl) (by kernel_rfl) (fun _ _ _ h => h) (Or.inl ⟨by rfl, ?_⟩) hHeld ?_
 rotate_left
 ·
  intro w hSw
  obtain ⟨s0, s1, s2, s3, s4, s5, s6, s7, s8, s9, s10, s11, s12, s13, s14, s15⟩ := hSw
  first | (go_simp; done) | (go_simp; with_reducible rfl) | with_reducible rfl
 try simp only [Act.put, zA, zB, zC]
 refine wpAnyH_take (i := 12) (oi := ⟨some 19, _, _, _, _, _⟩) (v := ?_) rfl (by kernel_rfl) (by kernel_rfl) (by kernel_rfl) (fun _ _ _ h => h) (Or.inl ⟨by rfl, ?_⟩) hHeld ?_
 rotate_left
 ·
  intro w hSw
  obtain ⟨s0, s1, s2, s3, s4, s5, s6, s7, s8, s9, s10, s11, s12, s13, s14, s15⟩ := hSw
  first | (go_simp; done) | (go_simp; with_reducible rfl) | with_reducible rfl
 try simp only [Act.put, zA, zB, zC]
 refine wpAnyH_take (i := 13) (oi := ⟨some 20, _, _, _, _, _⟩) (v := ?_) rfl (by kernel_rfl) (by kernel_rfl) (by kernel_rfl) (fun _ _ _ h => h) (Or.inl ⟨by rfl, ?_⟩) hHeld ?_
 rotate_left
 ·
  intro w hSw
  obtain ⟨s0, s1, s2, s3, s4, s5, s6, s7, s8, s9, s10, s11, s12, s13, s14, s15⟩ := hSw
  first | (go_simp; done) | (go_simp; with_reducible rfl) | with_reducible rfl
 try simp only [Act.put, zA, zB, zC]
 refine wpAnyH_take (i := 14) (oi := ⟨some 21, _, _, _, _, _⟩) (v := ?_) rfl (by kernel_rfl) (by kernel_rfl) (by kernel_rfl) (fun _ _ _ h => h) (Or.inl ⟨by rfl, ?_⟩) hHeld ?_
 rotate_left
 ·
  intro w hSw
  obtain ⟨s0, s1, s2, s3, s4, s5, s6, s7, s8, s9, s10, s11, s12, s13, s14, s15⟩ := hSw
  first | (go_simp; done) | (go_simp; with_reducible rfl) | with_reducible rfl
 try simp only [Act.put, zA, zB, zC]
 refine wpAnyH_take (i := 15) (oi := ⟨some 22, _, _, _, _, _⟩) (v := ?_) rfl (by kernel_rfl) (by kernel_rfl) (by kernel_rfl) (fun _ _ _ h => h) (Or.inl ⟨by rfl, ?_⟩) hHeld ?_
 rotate_left
 ·
  intro w hSw
  obtain ⟨s0, s1, s2, s3, s4, s5, s6, s7, s8, s9, s10, s11, s12, s13, s14, s15⟩ := hSw
  first | (go_simp; done) | (go_simp; with_reducible rfl) | with_reducible rfl
 try simp only [Act.put, zA, zB, zC]
 refine wpAnyH_take (i := 16) (oi := ⟨some 23, _, _, _, _, _⟩) (v := ?_) rfl (by kernel_rfl) (by kernel_rfl) (by kernel_rfl) (fun _ _ _ h => h) (Or.inl ⟨by rfl, ?_⟩) hHeld ?_
 rotate_left
 ·
  intro w hSw
  obtain ⟨s0, s1, s2, s3, s4, s5, s6, s7, s8, s9, s10, s11, s12, s13, s14, s15⟩ := hSw
  first | (go_simp; done) | (go_simp; with_reducible rfl) | with_reducible rfl
 try simp only [Act.put, zA, zB, zC]
 refine wpAnyH_take (i := 17) (oi := ⟨some 24, _, _, _, _, _⟩) (v := ?_) rfl (by kernel_rfl) (by kernel_rfl) (by kernel_rfl) (fun _ _ _ h => h) (Or.inl ⟨by rfl, ?_⟩) hHeld ?_
 rotate_left
 ·
  intro w hSw
  obtain ⟨s0, s1, s2, s3, s4, s5, s6, s7, s8, s9, s10, s11, s12, s13, s14, s15⟩ := hSw
  first | (go_simp; done) | (go_simp; with_reducible rfl) | with_reducible rfl
 try simp only [Act.put, zA, zB, zC]
 refine wpAnyH_take (i := 18) (oi := ⟨some 25, _, _, _, _, _⟩) (v := ?_) rfl (by kernel_rfl) (by kernel_rfl) (by kernel_rfl) (fun _ _ _ h => h) (Or.inl ⟨by rfl, ?_⟩) hHeld ?_
 rotate_left
 ·
  intro w hSw
  obtain ⟨s0, s1, s2, s3, s4, s5, s6, s7, s8, s9, s10, s11, s12, s13, s14, s15⟩ := hSw
  first | (go_simp; done) | (go_simp; with_reducible rfl) | with_reducible rfl
 try simp only [Act.put, zA, zB, zC]
 refine wpAnyH_take (i := 19) (oi := ⟨some 26, _, _, _, _, _⟩) (v := ?_) rfl (by kernel_rfl) (by kernel_rfl) (by kernel_rfl) (fun _ _ _ h => h) (Or.inl ⟨by rfl, ?_⟩) hHeld ?_
 rotate_left
 ·
  intro w hSw
  obtain ⟨s0, s1, s2, s3, s4, s5, s6, s7, s8, s9, s10, s11, s12, s13, s14, s15⟩ := hSw
  first | (go_simp; done) | (go_simp; with_reducible rfl) | with_reducible rfl
 try simp only [Act.put, zA, zB, zC]
 refine wpAnyH_take (i := 20) (oi := ⟨some 27, _, _, _, _, _⟩) (v := ?_) rfl (by kernel_rfl) (by kernel_rfl) (by kernel_rfl) (fun _ _ _ h => h) (Or.inl ⟨by rfl, ?_⟩) hHeld ?_
 rotate_left
 ·
  intro w hSw
  obtain ⟨s0, s1, s2, s3, s4, s5, s6, s7, s8, s9, s10, s11, s12, s13, s14, s15⟩ := hSw
  first | (go_simp; done) | (go_simp; with_reducible rfl) | with_reducible rfl
 try simp only [Act.put, zA, zB, zC]
 refine wpAnyH_take (i := 21) (oi := ⟨some 28, _, _, _, _, _⟩) (v := ?_) rfl (by kernel_rfl) (by kernel_rfl) (by kernel_rfl) (fun _ _ _ h => h) (Or.inl ⟨by rfl, ?_⟩) hHeld ?_
 rotate_left
 ·
  intro w hSw
  obtain ⟨s0, s1, s2, s3, s4, s5, s6, s7, s8, s9, s10, s11, s12, s13, s14, s15⟩ := hSw
  first | (go_simp; done) | (go_simp; with_reducible rfl) | with_reducible rfl
 try simp only [Act.put, zA, zB, zC]
 refine wpAnyH_take (i := 22) (oi := ⟨some 29, _, _, _, _, _⟩) (v := ?_) rfl (by kernel_rfl) (by kernel_rfl) (by kernel_rfl) (fun _ _ _ h => h) (Or.inl ⟨by rfl, ?_⟩) hHeld ?_
 rotate_left
 ·
  intro w hSw
  obtain ⟨s0, s1, s2, s3, s4, s5, s6, s7, s8, s9, s10, s11, s12, s13, s14, s15⟩ := hSw
  first | (go_simp; done) | (go_simp; with_reducible rfl) | with_reducible rfl
 try simp only [Act.put, zA, zB, zC]
 refine wpAnyH_take (i := 23) (oi := ⟨some 30, _, _, _, _, _⟩) (v := ?_) rfl (by kernel_rfl) (by kernel_rfl) (by kernel_rfl) (fun _ _ _ h => h) (Or.inl ⟨by rfl, ?_⟩) hHeld ?_
 rotate_left
 ·
  intro w hSw
  obtain ⟨s0, s1, s2, s3, s4, s5, s6, s7, s8, s9, s10, s11, s12, s13, s14, s15⟩ := hSw
  first | (go_simp; done) | (go_simp; with_reducible rfl) | with_reducible rfl
 try simp only [Act.put, zA, zB, zC]
 refine wpAnyH_take (i := 24) (oi := ⟨some 31, _, _, _, _, _⟩) (v := ?_) rfl (by kernel_rfl) (by kernel_rfl) (by kernel_rfl) (fun _ _ _ h => h) (Or.inl ⟨by rfl, ?_⟩) hHeld ?_
 rotate_left
 ·
  intro w hSw
  obtain ⟨s0, s1, s2, s3, s4, s5, s6, s7, s8, s9, s10, s11, s12, s13, s14, s15⟩ := hSw
  first | (go_simp; done) | (go_simp; with_reducible rfl) | with_reducible rfl
 try simp only [Act.put, zA, zB, zC]
 refine wpAnyH_take (i := 25) (oi := ⟨some 32, _, _, _, _, _⟩) (v := ?_) rfl (by kernel_rfl) (by kernel_rfl) (by kernel_rfl) (fun _ _ _ h => h) (Or.inl ⟨by rfl, ?_⟩) hHeld ?_
 rotate_left
 ·
  intro w hSw
  obtain ⟨s0, s1, s2, s3, s4, s5, s6, s7, s8, s9, s10, s11, s12, s13, s14, s15⟩ := hSw
  first | (go_simp; done) | (go_simp; with_reducible rfl) | with_reducible rfl
 try simp only [Act.put, zA, zB, zC]
 refine wpAnyH_take (i := 26) (oi := ⟨some 33, _, _, _, _, _⟩) (v := ?_) rfl (by kernel_rfl) (by kernel_rfl) (by kernel_rfl) (fun _ _ _ h => h) (Or.inl ⟨by rfl, ?_⟩) hHeld ?_
 rotate_left
 ·
  intro w hSw
  obtain ⟨s0, s1, s2, s3, s4, s5, s6, s7, s8, s9, s10, s11, s12, s13, s14, s15⟩ := hSw
  first | (go_simp; done) | (go_simp; with_reducible rfl) | with_reducible rfl
 try simp only [Act.put, zA, zB, zC]
 refine wpAnyH_take (i := 27) (oi := ⟨some 34, _, _, _, _, _⟩) (v := ?_) rfl (by kernel_rfl) (by kernel_rfl) (by kernel_rfl) (fun _ _ _ h => h) (Or.inl ⟨by rfl, ?_⟩) hHeld ?_
 rotate_left
 ·
  intro w hSw
  obtain ⟨s0, s1, s2, s3, s4, s5, s6, s7, s8, s9, s10, s11, s12, s13, s14, s15⟩ := hSw
  first | (go_simp; done) | (go_simp; with_reducible rfl) | with_reducible rfl
 try simp only [Act.put, zA, zB, zC]
 refine wpAnyH_take (i := 28) (oi := ⟨some 35, _, _, _, _, _⟩) (v := ?_) rfl (by kernel_rfl) (by kernel_rfl) (by kernel_rfl) (fun _ _ _ h => h) (Or.inl ⟨by rfl, ?_⟩) hHeld ?_
 rotate_left
 ·
  intro w hSw
  obtain ⟨s0, s1, s2, s3, s4, s5, s6, s7, s8, s9, s10, s11, s12, s13, s14, s15⟩ := hSw
  first | (go_simp; done) | (go_simp; with_reducible rfl) | with_reducible rfl
 try simp only [Act.put, zA, zB, zC]
 refine wpAnyH_take (i := 29) (oi := ⟨some 36, _, _, _, _, _⟩) (v := ?_) rfl (by kernel_rfl) (by kernel_rfl) (by kernel_rfl) (fun _ _ _ h => h) (Or.inl ⟨by rfl, ?_⟩) hHeld ?_
 rotate_left
 ·
  intro w hSw
  obtain ⟨s0, s1, s2, s3, s4, s5, s6, s7, s8, s9, s10, s11, s12, s13, s14, s15⟩ := hSw
  first | (go_simp; done) | (go_simp; with_reducible rfl) | with_reducible rfl
 try simp only [Act.put, zA, zB, zC]
 refine wpAnyH_take (i := 30) (oi := ⟨some 37, _, _, _, _, _⟩) (v := ?_) rfl (by kernel_rfl) (by kernel_rfl) (by kernel_rfl) (fun _ _ _ h => h) (Or.inl ⟨by rfl, ?_⟩) hHeld ?_
 rotate_left
 ·
  intro w hSw
  obtain ⟨s0, s1, s2, s3, s4, s5, s6, s7, s8, s9, s10, s11, s12, s13, s14, s15⟩ := hSw
  first | (go_simp; done) | (go_simp; with_reducible rfl) | with_reducible rfl
 try simp only [Act.put, zA, zB, zC]
 refine wpAnyH_done (by kernel_rfl) ?_ _
 go_wp2
 go_loopw [5] (fun j wr => ∃ k : Nat, k ≤ ls.length ∧ j = .int .i64 (k : Int) ∧ Below W.heap.size W wr) (fun j _ => ls.length - (intOf j).toNat)
 case atStart => exact ⟨0, Nat.zero_le _, rfl, lx⟩
 clear lx
 obtain ⟨k, hk, rfl, lx⟩ := hrel
 obtain ⟨c0, c1, c2, c3, c4, c5, c6, c7, d0, d1, d2, d3, d4, d5, d6, d7⟩ := HK.out _ lx
 by_cases hlt : k < ls.length
 ·
  have dl : decide ((k : Int) < (ls.length : Int)) = true := decide_eq_true (by omega)
  obtain ⟨hm1, hm2⟩ := HMB.out _ lx
  obtain ⟨b, off, hA, _, g1, g2⟩ := hm1.hl k hlt
  obtain ⟨b2, off2, hA2, _, g4, g5⟩ := hm2.hl k hlt
  clear hm1 hm2
  simp only at hA hA2
  rw [hA] at c1
  rw [hA2] at d1
  have hLL := HLL.out
  have hix := ixLt2 b off ls.length cL k HLL.out hlt
  have hix2 := ixLt2 b2 off2 ls.length cL2 k HLL.out hlt
  generalize ls[k] = g at *
  obtain ⟨x, y⟩ := g
  simp only at g1 g2 g4 g5
  have hne := neq_latch x y
  go_wp2
  go_quiet (fail)
  go_wp2
  clear c0 c1 c2 c3 c4 c5 c6 c7 d0 d1 d2 d3 d4 d5 d6 d7
  go_roundw
  case rel => exact ⟨k + 1, by omega, by go_num, by first | exact lx | exact below_drewN lx _⟩
  case measure => simp [intOf]; omega
 have dl : decide ((k : Int) < (ls.length : Int)) = false := decide_eq_false (by omega)
 go_wp2
 go_loopw [6] (fun j wr => ∃ k : Nat, k ≤ ns.length ∧ j = .int .i64 (k : Int) ∧ Below W.heap.size W wr) (fun j _ => ns.length - (intOf j).toNat)
 case atStart => exact ⟨0, Nat.zero_le _, rfl, lx⟩
 clear lx
 obtain ⟨k, hk, rfl, lx⟩ := hrel
 obtain ⟨c0, c1, c2, c3, c4, c5, c6, c7, d0, d1, d2, d3, d4, d5, d6, d7⟩ := HK.out _ lx
 by_cases hlt : k < ns.length
 ·
  have dl : decide ((k : Int) < (ns.length : Int)) = true := decide_eq_true (by omega)
  obtain ⟨hm1, hm2⟩ := HMB.out _ lx
  obtain ⟨b, off, hA, _, g1, g2, g3⟩ := hm1.hn k hlt
  obtain ⟨b2, off2, hA2, _, g4, g5, g6⟩ := hm2.hn k hlt
  clear hm1 hm2
  simp only at hA hA2
  rw [hA] at c7
  rw [hA2] at d7
  have hLL := HLN.out
  have hix := ixNm2 b off ns.length cN k HLN.out hlt
  have hix2 := ixNm2 b2 off2 ns.length cN2 k HLN.out hlt
  generalize ns[k] = g at *
  obtain ⟨x, y, z⟩ := g
  simp only at g1 g2 g3 g4 g5 g6
  have hne := neq_name x y z
  go_wp2
  go_quiet (fail)
  go_wp2
  clear c0 c1 c2 c3 c4 c5 c6 c7 d0 d1 d2 d3 d4 d5 d6 d7
  go_roundw
  case rel => exact ⟨k + 1, by omega, by go_num, by first | exact lx | exact below_drewN lx _⟩
  case measure => simp [intOf]; omega
 have dl : decide ((k : Int) < (ns.length : Int)) = false := decide_eq_false (by omega)
 go_upto_region 13 with fail
 clear c0 c1 c2 c3 c4 c5 c6 c7 d0 d1 d2 d3 d4 d5 d6 d7 dl
 obtain ⟨c0, c1, c2, c3, c4, c5, c6, c7, d0, d1, d2, d3, d4, d5, d6, d7⟩ := HK.out _ lx
 go_wp2_with fail
 refine (HO.out _ lx).mono ?_
 rintro e wx ⟨rfl, hbx⟩
 replace lx := lx.trans (hbx.mono lx.size)
 clear hbx c0 c1 c2 c3 c4 c5 c6 c7 d0 d1 d2 d3 d4 d5 d6 d7
 obtain ⟨c0, c1, c2, c3, c4, c5, c6, c7, d0, d1, d2, d3, d4, d5, d6, d7⟩ := HK.out _ lx
 go_wp2_with fail
 refine (HB.out _ lx).mono ?_
 rintro e wx ⟨rfl, hbx⟩
 replace lx := lx.trans (hbx.mono lx.size)
 clear hbx c0 c1 c2 c3 c4 c5 c6 c7 d0 d1 d2 d3 d4 d5 d6 d7
 obtain ⟨c0, c1, c2, c3, c4, c5, c6, c7, d0, d1, d2, d3, d4, d5, d6, d7⟩ := HK.out _ lx
 go_wp2_with fail
 refine (HC.out _ lx).mono ?_
 rintro e wx ⟨rfl, hbx⟩
 replace lx := lx.trans (hbx.mono lx.size)
 clear hbx c0 c1 c2 c3 c4 c5 c6 c7 d0 d1 d2 d3 d4 d5 d6 d7
 obtain ⟨c0, c1, c2, c3, c4, c5, c6, c7, d0, d1, d2, d3, d4, d5, d6, d7⟩ := HK.out _ lx
 go_wp2_with fail
 refine (HF.out _ lx).mono ?_
 rintro e wx ⟨rfl, hbx⟩
 replace lx := lx.trans (hbx.mono lx.size)
 clear hbx c0 c1 c2 c3 c4 c5 c6 c7 d0 d1 d2 d3 d4 d5 d6 d7
 go_wp2
 go_ret
 exact ⟨rfl, HLO.out.trans (lx.mono HLO.out.size)⟩

/-- Two circuits that hold the same. -/
theorem refSame4_any (c d : Cir) (w : World) (h : Ag.strip d = Ag.strip c) (hM : CirM w w.heap.size c) (hM2 : CirM w w.heap.size d) (hW : CirW c) :
  Calls Tryz.prog 18 #[.agg #[.int .i64 c.n, .slice c.aL c.ls.length c.cL, .slice c.aG c.gs.length c.cG, .slice c.aO c.os.length c.cO, .slice c.aB c.bs.length c.cB, .slice c.aC c.cs.length c.cC, .slice c.aF c.fs.length c.cF, .slice c.aN c.ns.length c.cN], .agg #[.int .i64 d.n, .slice d.aL d.ls.length d.cL, .slice d.aG d.gs.length d.cG, .slice d.aO d.os.length d.cO, .slice d.aB d.bs.length d.cB, .slice d.aC d.cs.length d.cC, .slice d.aF d.fs.length d.cF, .slice d.aN d.ns.length d.cN]] w fun e w' => e = .returned (.bool true) ∧ Below w.heap.size w w' := by
 obtain ⟨n, aL, cL, ls, aG, cG, gs, aO, cO, os, aB, cB, bs, aC, cC, cs, aF, cF, fs, aN, cN, ns⟩ := c
 obtain ⟨n2, aL2, cL2, ls2, aG2, cG2, gs2, aO2, cO2, os2, aB2, cB2, bs2, aC2, cC2, cs2, aF2, cF2, fs2, aN2, cN2, ns2⟩ := d
 simp only [Ag.strip, Ag.mk, Cir.mk.injEq, true_and] at h
 obtain ⟨rfl, rfl, rfl, rfl, rfl, rfl, rfl, rfl⟩ := h
 exact refSame4_list _ _ _ _ _ _ _ _ _ _ _ _ _ _ _ _ _ _ _ _ _ _ _ _ _ _ _ _ _ _ _ _ _ _ _ _ w hM hM2 hW.ll hW.lg hW.ln hW.lo hW.lb hW.lc hW.lf
end Go.Proofs.YtpejilhdhkmcjaaGreatDoor
