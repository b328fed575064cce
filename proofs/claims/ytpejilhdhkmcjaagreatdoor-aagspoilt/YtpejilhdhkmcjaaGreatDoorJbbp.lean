/- The document's reader of texts: what is told. -/
import Derived.Test.YtpejilhdhkmcjaaGreatDoorJbAl
import Derived.Test.YtpejilhdhkmcjaaGreatDoorJbbo
import Derived.Test.YtpejilhdhkmcjaaGreatDoorJbao
namespace Go.Proofs.YtpejilhdhkmcjaaGreatDoor
open Go.RowKit

def zeroC : Value := .agg #[.int .i64 0, .slice none 0 0, .slice none 0 0, .slice none 0 0, .slice none 0 0, .slice none 0 0, .slice none 0 0, .slice none 0 0]
set_option maxRecDepth 10000 in
set_option maxHeartbeats 4000000 in
theorem told_bad (R : Nat) (s : Ag.Bs) (cs : List Value) (w : World) (h : TK w R s true cs) :
  Calls Tryz.prog 47 #[.pointer (some ⟨R, 0, none⟩)] w fun e w' => e = .returned (.tuple #[zeroC, .int .i64 21]) ∧ Below w.heap.size w w' := by
 have lo := lowAlloc w (Obj.cells #[.int .i64 0, .slice none 0 0, .slice none 0 0, .slice none 0 0, .slice none 0 0, .slice none 0 0, .slice none 0 0, .slice none 0 0] 29)
 have hbx := Blk.new w 29 #[.int .i64 0, .slice none 0 0, .slice none 0 0, .slice none 0 0, .slice none 0 0, .slice none 0 0, .slice none 0 0, .slice none 0 0]
 have hT := h.keep lo
 have c1 := hT.c1
 clear h hT
 have b0 := hbx.cell 0
 have b1 := hbx.cell 1
 have b2 := hbx.cell 2
 have b3 := hbx.cell 3
 have b4 := hbx.cell 4
 have b5 := hbx.cell 5
 have b6 := hbx.cell 6
 have b7 := hbx.cell 7
 have fb0 := hbx.frozen 0
 have fb1 := hbx.frozen 1
 have fb2 := hbx.frozen 2
 have fb3 := hbx.frozen 3
 have fb4 := hbx.frozen 4
 have fb5 := hbx.frozen 5
 have fb6 := hbx.frozen 6
 have fb7 := hbx.frozen 7
 simp only [zD, zE, zF] at b0 b1 b2 b3 b4 b5 b6 b7
 go_enter Tryz.func47, Tryz.ntmps47
 go_wp2
 generalize w.alloc (Obj.cells #[.int .i64 0, .slice none 0 0, .slice none 0 0, .slice none 0 0, .slice none 0 0, .slice none 0 0, .slice none 0 0, .slice none 0 0] 29) = W9 at *
 refine bodyPost_ret (v := .tuple #[.agg #[.int .i64 0, .slice none 0 0, .slice none 0 0, .slice none 0 0, .slice none 0 0, .slice none 0 0, .slice none 0 0, .slice none 0 0], .int .i64 21]) (by simp [results, Tryz.results47, go_sem, b0, b1, b2, b3, b4, b5, b6, b7]) rfl ?_
 exact ⟨rfl, lo⟩
def ToldP (c : Cir) (w : World) (e : Ending) (w' : World) : Prop := e = .returned (if Cm.rightC c = true then .tuple #[.agg #[.int .i64 c.n, .slice c.aL c.ls.length c.cL, .slice c.aG c.gs.length c.cG, .slice c.aO c.os.length c.cO, .slice c.aB c.bs.length c.cB, .slice c.aC c.cs.length c.cC, .slice c.aF c.fs.length c.cF, .slice c.aN c.ns.length c.cN], .int .i64 0] else .tuple #[zeroC, .int .i64 22]) ∧ Below w.heap.size w w'
set_option maxRecDepth 10000 in
set_option maxHeartbeats 8000000 in
theorem told_ok (R : Nat) (s : Ag.Bs) (M : Value) (c : Cir) (w : World) (h : TK w R s false [M, .int .i64 c.n, .slice c.aL c.ls.length c.cL, .slice c.aG c.gs.length c.cG, .slice c.aO c.os.length c.cO, .slice c.aB c.bs.length c.cB, .slice c.aC c.cs.length c.cC, .slice c.aF c.fs.length c.cF, .slice c.aN c.ns.length c.cN]) (hM : CirM w w.heap.size c) (hW : CirW c) :
  Calls Tryz.prog 47 #[.pointer (some ⟨R, 0, none⟩)] w (ToldP c w) := by
 have lo := lowAlloc w (Obj.cells #[.int .i64 0, .slice none 0 0, .slice none 0 0, .slice none 0 0, .slice none 0 0, .slice none 0 0, .slice none 0 0, .slice none 0 0] 29)
 have hbx := Blk.new w 29 #[.int .i64 0, .slice none 0 0, .slice none 0 0, .slice none 0 0, .slice none 0 0, .slice none 0 0, .slice none 0 0, .slice none 0 0]
 have hT := h.keep lo
 have hM1 := (hM.below lo (Nat.le_refl _)).more lo.size
 have hlt : w.heap.size < (w.alloc (Obj.cells #[.int .i64 0, .slice none 0 0, .slice none 0 0, .slice none 0 0, .slice none 0 0, .slice none 0 0, .slice none 0 0, .slice none 0 0] 29)).heap.size := by simp
 have HRR := Lib.hid (refRight4_any c (w.alloc (Obj.cells #[.int .i64 0, .slice none 0 0, .slice none 0 0, .slice none 0 0, .slice none 0 0, .slice none 0 0, .slice none 0 0, .slice none 0 0] 29)) hM1 hW)
 clear h hM hM1
 go_enter Tryz.func47, Tryz.ntmps47
 go_upto_region 1 with fail
 generalize w.alloc (Obj.cells #[.int .i64 0, .slice none 0 0, .slice none 0 0, .slice none 0 0, .slice none 0 0, .slice none 0 0, .slice none 0 0, .slice none 0 0] 29) = W at *
 have c1 := hT.c1
 have c3 : W.cell? ⟨R, 3, none⟩ = some (.int .i64 c.n) := hT.cell 1
 have c4 : W.cell? ⟨R, 4, none⟩ = some (.slice c.aL c.ls.length c.cL) := hT.cell 2
 have c5 : W.cell? ⟨R, 5, none⟩ = some (.slice c.aG c.gs.length c.cG) := hT.cell 3
 have c6 : W.cell? ⟨R, 6, none⟩ = some (.slice c.aO c.os.length c.cO) := hT.cell 4
 have c7 : W.cell? ⟨R, 7, none⟩ = some (.slice c.aB c.bs.length c.cB) := hT.cell 5
 have c8 : W.cell? ⟨R, 8, none⟩ = some (.slice c.aC c.cs.length c.cC) := hT.cell 6
 have c9 : W.cell? ⟨R, 9, none⟩ = some (.slice c.aF c.fs.length c.cF) := hT.cell 7
 have c10 : W.cell? ⟨R, 10, none⟩ = some (.slice c.aN c.ns.length c.cN) := hT.cell 8
 go_wp2_with fail
 refine HRR.out.mono ?_
 rintro e w2 ⟨rfl, hb⟩
 clear HRR c1 c3 c4 c5 c6 c7 c8 c9 c10
 have hT2 := hT.keep hb
 have hbx2 := hbx.below hb hbx.lt
 have lo2 := lo.trans (hb.mono lo.size)
 clear hT hbx lo hb hlt
 cases hr : Cm.rightC c with
 | false =>
  have hC9 : Blk ((((((((w2.setCell ⟨w.heap.size, 0, none⟩ (.int .i64 0)).setCell ⟨w.heap.size, 1, none⟩ (.slice none 0 0)).setCell ⟨w.heap.size, 2, none⟩ (.slice none 0 0)).setCell ⟨w.heap.size, 3, none⟩ (.slice none 0 0)).setCell ⟨w.heap.size, 4, none⟩ (.slice none 0 0)).setCell ⟨w.heap.size, 5, none⟩ (.slice none 0 0)).setCell ⟨w.heap.size, 6, none⟩ (.slice none 0 0)).setCell ⟨w.heap.size, 7, none⟩ (.slice none 0 0)) w.heap.size 29 #[.int .i64 0, .slice none 0 0, .slice none 0 0, .slice none 0 0, .slice none 0 0, .slice none 0 0, .slice none 0 0, .slice none 0 0] := ((((((((hbx2.put 0 (.int .i64 0)).put 1 (.slice none 0 0)).put 2 (.slice none 0 0)).put 3 (.slice none 0 0)).put 4 (.slice none 0 0)).put 5 (.slice none 0 0)).put 6 (.slice none 0 0)).put 7 (.slice none 0 0))
  have hlo9 : Below w.heap.size w ((((((((w2.setCell ⟨w.heap.size, 0, none⟩ (.int .i64 0)).setCell ⟨w.heap.size, 1, none⟩ (.slice none 0 0)).setCell ⟨w.heap.size, 2, none⟩ (.slice none 0 0)).setCell ⟨w.heap.size, 3, none⟩ (.slice none 0 0)).setCell ⟨w.heap.size, 4, none⟩ (.slice none 0 0)).setCell ⟨w.heap.size, 5, none⟩ (.slice none 0 0)).setCell ⟨w.heap.size, 6, none⟩ (.slice none 0 0)).setCell ⟨w.heap.size, 7, none⟩ (.slice none 0 0)) := ((((((((lo2.setCell (p := ⟨w.heap.size, 0, none⟩) (Nat.le_refl _) (.int .i64 0)).setCell (p := ⟨w.heap.size, 1, none⟩) (Nat.le_refl _) (.slice none 0 0)).setCell (p := ⟨w.heap.size, 2, none⟩) (Nat.le_refl _) (.slice none 0 0)).setCell (p := ⟨w.heap.size, 3, none⟩) (Nat.le_refl _) (.slice none 0 0)).setCell (p := ⟨w.heap.size, 4, none⟩) (Nat.le_refl _) (.slice none 0 0)).setCell (p := ⟨w.heap.size, 5, none⟩) (Nat.le_refl _) (.slice none 0 0)).setCell (p := ⟨w.heap.size, 6, none⟩) (Nat.le_refl _) (.slice none 0 0)).setCell (p := ⟨w.heap.size, 7, none⟩) (Nat.le_refl _) (.slice none 0 0))
  have HC9 := Lib.hid hC9
  have HLO9 := Lib.hid hlo9
  clear hC9 hlo9
  have b0 := hbx2.cell 0
  have b1 := hbx2.cell 1
  have b2 := hbx2.cell 2
  have b3 := hbx2.cell 3
  have b4 := hbx2.cell 4
  have b5 := hbx2.cell 5
  have b6 := hbx2.cell 6
  have b7 := hbx2.cell 7
  have fb0 := hbx2.frozen 0
  have fb1 := hbx2.frozen 1
  have fb2 := hbx2.frozen 2
  have fb3 := hbx2.frozen 3
  have fb4 := hbx2.frozen 4
  have fb5 := hbx2.frozen 5
  have fb6 := hbx2.frozen 6
  have fb7 := hbx2.frozen 7
  simp only [zD, zE, zF] at b0 b1 b2 b3 b4 b5 b6 b7
  clear hbx2 lo2 hT2
  go_wp2
  clear b0 b1 b2 b3 b4 b5 b6 b7 fb0 fb1 fb2 fb3 fb4 fb5 fb6 fb7
  generalize ((((((((w2.setCell ⟨w.heap.size, 0, none⟩ (.int .i64 0)).setCell ⟨w.heap.size, 1, none⟩ (.slice none 0 0)).setCell ⟨w.heap.size, 2, none⟩ (.slice none 0 0)).setCell ⟨w.heap.size, 3, none⟩ (.slice none 0 0)).setCell ⟨w.heap.size, 4, none⟩ (.slice none 0 0)).setCell ⟨w.heap.size, 5, none⟩ (.slice none 0 0)).setCell ⟨w.heap.size, 6, none⟩ (.slice none 0 0)).setCell ⟨w.heap.size, 7, none⟩ (.slice none 0 0)) = W9 at *
  have hC9 := HC9.out
  have hlo9 := HLO9.out
  have r0 := hC9.cell 0
  have r1 := hC9.cell 1
  have r2 := hC9.cell 2
  have r3 := hC9.cell 3
  have r4 := hC9.cell 4
  have r5 := hC9.cell 5
  have r6 := hC9.cell 6
  have r7 := hC9.cell 7
  simp only [zD, zE, zF] at r0 r1 r2 r3 r4 r5 r6 r7
  refine bodyPost_ret (v := .tuple #[.agg #[.int .i64 0, .slice none 0 0, .slice none 0 0, .slice none 0 0, .slice none 0 0, .slice none 0 0, .slice none 0 0, .slice none 0 0], .int .i64 22]) (by simp [results, Tryz.results47, go_sem, r0, r1, r2, r3, r4, r5, r6, r7]) rfl ?_
  exact ⟨by rw [hr]; rfl, hlo9⟩
 | true =>
  have hC9 : Blk ((((((((w2.setCell ⟨w.heap.size, 0, none⟩ (.int .i64 c.n)).setCell ⟨w.heap.size, 1, none⟩ (.slice c.aL c.ls.length c.cL)).setCell ⟨w.heap.size, 2, none⟩ (.slice c.aG c.gs.length c.cG)).setCell ⟨w.heap.size, 3, none⟩ (.slice c.aO c.os.length c.cO)).setCell ⟨w.heap.size, 4, none⟩ (.slice c.aB c.bs.length c.cB)).setCell ⟨w.heap.size, 5, none⟩ (.slice c.aC c.cs.length c.cC)).setCell ⟨w.heap.size, 6, none⟩ (.slice c.aF c.fs.length c.cF)).setCell ⟨w.heap.size, 7, none⟩ (.slice c.aN c.ns.length c.cN)) w.heap.size 29 #[.int .i64 c.n, .slice c.aL c.ls.length c.cL, .slice c.aG c.gs.length c.cG, .slice c.aO c.os.length c.cO, .slice c.aB c.bs.length c.cB, .slice c.aC c.cs.length c.cC, .slice c.aF c.fs.length c.cF, .slice c.aN c.ns.length c.cN] := ((((((((hbx2.put 0 (.int .i64 c.n)).put 1 (.slice c.aL c.ls.length c.cL)).put 2 (.slice c.aG c.gs.length c.cG)).put 3 (.slice c.aO c.os.length c.cO)).put 4 (.slice c.aB c.bs.length c.cB)).put 5 (.slice c.aC c.cs.length c.cC)).put 6 (.slice c.aF c.fs.length c.cF)).put 7 (.slice c.aN c.ns.length c.cN))
  have hlo9 : Below w.heap.size w ((((((((w2.setCell ⟨w.heap.size, 0, none⟩ (.int .i64 c.n)).setCell ⟨w.heap.size, 1, none⟩ (.slice c.aL c.ls.length c.cL)).setCell ⟨w.heap.size, 2, none⟩ (.slice c.aG c.gs.length c.cG)).setCell ⟨w.heap.size, 3, none⟩ (.slice c.aO c.os.length c.cO)).setCell ⟨w.heap.size, 4, none⟩ (.slice c.aB c.bs.length c.cB)).setCell ⟨w.heap.size, 5, none⟩ (.slice c.aC c.cs.length c.cC)).setCell ⟨w.heap.size, 6, none⟩ (.slice c.aF c.fs.length c.cF)).setCell ⟨w.heap.size, 7, none⟩ (.slice c.aN c.ns.length c.cN)) := ((((((((lo2.setCell (p := ⟨w.heap.size, 0, none⟩) (Nat.le_refl _) (.int .i64 c.n)).setCell (p := ⟨w.heap.size, 1, none⟩) (Nat.le_refl _) (.slice c.aL c.ls.length c.cL)).setCell (p := ⟨w.heap.size, 2, none⟩) (Nat.le_refl _) (.slice c.aG c.gs.length c.cG)).setCell (p := ⟨w.heap.size, 3, none⟩) (Nat.le_refl _) (.slice c.aO c.os.length c.cO)).setCell (p := ⟨w.heap.size, 4, none⟩) (Nat.le_refl _) (.slice c.aB c.bs.length c.cB)).setCell (p := ⟨w.heap.size, 5, none⟩) (Nat.le_refl _) (.slice c.aC c.cs.length c.cC)).setCell (p := ⟨w.heap.size, 6, none⟩) (Nat.le_refl _) (.slice c.aF c.fs.length c.cF)).setCell (p := ⟨w.heap.size, 7, none⟩) (Nat.le_refl _) (.slice c.aN c.ns.length c.cN))
  have HC9 := Lib.hid hC9
  have HLO9 := Lib.hid hlo9
  clear hC9 hlo9
  have b0 := hbx2.cell 0
  have b1 := hbx2.cell 1
  have b2 := hbx2.cell 2
  have b3 := hbx2.cell 3
  have b4 := hbx2.cell 4
  have b5 := hbx2.cell 5
  have b6 := hbx2.cell 6
  have b7 := hbx2.cell 7
  have fb0 := hbx2.frozen 0
  have fb1 := hbx2.frozen 1
  have fb2 := hbx2.frozen 2
  have fb3 := hbx2.frozen 3
  have fb4 := hbx2.frozen 4
  have fb5 := hbx2.frozen 5
  have fb6 := hbx2.frozen 6
  have fb7 := hbx2.frozen 7
  simp only [zD, zE, zF] at b0 b1 b2 b3 b4 b5 b6 b7
  have c3 : w2.cell? ⟨R, 3, none⟩ = some (.int .i64 c.n) := hT2.cell 1
  have c4 : w2.cell? ⟨R, 4, none⟩ = some (.slice c.aL c.ls.length c.cL) := hT2.cell 2
  have c5 : w2.cell? ⟨R, 5, none⟩ = some (.slice c.aG c.gs.length c.cG) := hT2.cell 3
  have c6 : w2.cell? ⟨R, 6, none⟩ = some (.slice c.aO c.os.length c.cO) := hT2.cell 4
  have c7 : w2.cell? ⟨R, 7, none⟩ = some (.slice c.aB c.bs.length c.cB) := hT2.cell 5
  have c8 : w2.cell? ⟨R, 8, none⟩ = some (.slice c.aC c.cs.length c.cC) := hT2.cell 6
  have c9 : w2.cell? ⟨R, 9, none⟩ = some (.slice c.aF c.fs.length c.cF) := hT2.cell 7
  have c10 : w2.cell? ⟨R, 10, none⟩ = some (.slice c.aN c.ns.length c.cN) := hT2.cell 8
  clear hbx2 lo2 hT2
  go_wp2
  clear b0 b1 b2 b3 b4 b5 b6 b7 fb0 fb1 fb2 fb3 fb4 fb5 fb6 fb7 c3 c4 c5 c6 c7 c8 c9 c10
  generalize ((((((((w2.setCell ⟨w.heap.size, 0, none⟩ (.int .i64 c.n)).setCell ⟨w.heap.size, 1, none⟩ (.slice c.aL c.ls.length c.cL)).setCell ⟨w.heap.size, 2, none⟩ (.slice c.aG c.gs.length c.cG)).setCell ⟨w.heap.size, 3, none⟩ (.slice c.aO c.os.length c.cO)).setCell ⟨w.heap.size, 4, none⟩ (.slice c.aB c.bs.length c.cB)).setCell ⟨w.heap.size, 5, none⟩ (.slice c.aC c.cs.length c.cC)).setCell ⟨w.heap.size, 6, none⟩ (.slice c.aF c.fs.length c.cF)).setCell ⟨w.heap.size, 7, none⟩ (.slice c.aN c.ns.length c.cN)) = W9 at *
  have hC9 := HC9.out
  have hlo9 := HLO9.out
  have r0 := hC9.cell 0
  have r1 := hC9.cell 1
  have r2 := hC9.cell 2
  have r3 := hC9.cell 3
  have r4 := hC9.cell 4
  have r5 := hC9.cell 5
  have r6 := hC9.cell 6
  have r7 := hC9.cell 7
  simp only [zD, zE, zF] at r0 r1 r2 r3 r4 r5 r6 r7
  refine bodyPost_ret (v := .tuple #[.agg #[.int .i64 c.n, .slice c.aL c.ls.length c.cL, .slice c.aG c.gs.length c.cG, .slice c.aO c.os.length c.cO, .slice c.aB c.bs.length c.cB, .slice c.aC c.cs.length c.cC, .slice c.aF c.fs.length c.cF, .slice c.aN c.ns.length c.cN], .int .i64 0]) (by simp [results, Tryz.results47, go_sem, r0, r1, r2, r3, r4, r5, r6, r7]) rfl ?_
  exact ⟨by rw [hr]; rfl, hlo9⟩
end Go.Proofs.YtpejilhdhkmcjaaGreatDoor
/- The document's reader of texts: what its loops say, over the numbers of a line. -/
namespace Go.Proofs.YtpejilhdhkmcjaaGreatDoor
open Go.RowKit
namespace Ag
/-- What is behind the inputs, the latches, the columns, the gates. -/
def G4 (m : List Nat) (ls : List (Int × Int)) (q : List Int × List Int × List Int × List Int) (gs : List (Int × Int)) (r : Bs) : Option Cir :=
 match namesF r.length r with | none => none | some ns => some (mk (ge m 1 : Nat) ls gs q.1 q.2.1 q.2.2.1 q.2.2.2 ns)
def G3 (m : List Nat) (ls : List (Int × Int)) (q : List Int × List Int × List Int × List Int) (r : Bs) : Option Cir :=
 match gatS (ge m 4) (ge m 1 + ge m 2) r with | none => none | some (gs, r4) => G4 m ls q gs r4
def G2 (m : List Nat) (ls : List (Int × Int)) (r : Bs) : Option Cir := match sigsS m r with | none => none | some (q, r3) => G3 m ls q r3
def G1 (m : List Nat) (r : Bs) : Option Cir := match latsS true (ge m 2) (ge m 1) r with | none => none | some (ls, r2) => G2 m ls r2
theorem body_one (m : List Nat) (r : Bs) : bodyS m r = match insS (ge m 1) 0 r with | none => none | some r1 => G1 m r1 := by
 unfold bodyS G1 G2 G3 G4
 cases insS (ge m 1) 0 r with
 | none => rfl
 | some r1 =>
  simp only
  cases latsS true (ge m 2) (ge m 1) r1 with
  | none => rfl
  | some q =>
   obtain ⟨ls, r2⟩ := q
   simp only
   cases sigsS m r2 with
   | none => rfl
   | some q =>
    obtain ⟨⟨os, bs, cs, fs⟩, r3⟩ := q
    rfl
theorem numL_le {s r : Bs} {ns : List Nat} {a b : Nat} (h : numL s a b = some (ns, r)) : r.length ≤ s.length ∧ a ≤ ns.length ∧ ns.length ≤ b ∧ ∀ n ∈ ns, n ≤ 999999 := by
 unfold numL at h
 cases hl : lineS s with
 | none => rw [hl] at h; cases h
 | some q =>
  obtain ⟨l, r'⟩ := q
  rw [hl] at h
  simp only at h
  have hll := congrArg List.length (line_some hl).1
  simp at hll
  cases hn : numsS l with
  | none => rw [hn] at h; cases h
  | some ns' =>
   rw [hn] at h
   simp only at h
   split at h
   ·
    rename_i hb
    injection h with h
    injection h with h1 h2
    subst h1 h2
    exact ⟨by omega, hb.1, hb.2, (nums_some hn).2⟩
   cases h
def insM {α : Type} (G : Bs → Option α) (o : Option Bs) : Option α := match o with | none => none | some r => G r
theorem ins_num {α : Type} (G : Bs → Option α) (k i : Nat) (s : Bs) : insM G (insS (k + 1) i s) = match numL s 1 1 with | some ([x], r) => if x = 2 * (i + 1) then insM G (insS k (i + 1) r) else none | _ => none := by
 rw [insS]
 unfold numL
 cases lineS s with
 | none => rfl
 | some q =>
  obtain ⟨l, r⟩ := q
  simp only
  cases hn : numsS l with
  | none => simp [insM]
  | some ns =>
   match ns with
   | [] => simp [insM]
   | [x] =>
    by_cases hx : x = 2 * (i + 1)
    ·
     subst hx
     simp [insM]
    simp [insM, hx]
   | a :: b :: t => simp [insM]
def latM {α : Type} (ls : List (Int × Int)) (G : List (Int × Int) → Bs → Option α) (o : Option (List (Int × Int) × Bs)) : Option α := match o with | none => none | some (qs, r) => G (ls ++ qs) r
theorem lat_num {α : Type} (ls : List (Int × Int)) (G : List (Int × Int) → Bs → Option α) (k i : Nat) (s : Bs) :
  latM ls G (latsS true (k + 1) i s) = match numL s 2 3 with
   | none => none
   | some (ns, r) => if ns.getD 0 0 = 2 * (i + 1) then (match resetS (2 * (i + 1)) (ns.getD 2 0) with | none => none | some q => latM (ls ++ [(((ns.getD 1 0 : Nat) : Int), q)]) G (latsS true k (i + 1) r)) else none := by
 rw [latsS]
 unfold numL latS openS latN
 cases lineS s with
 | none => rfl
 | some q =>
  obtain ⟨l, r⟩ := q
  simp only
  cases hn : numsS l with
  | none => rfl
  | some ns =>
   have hr0 : resetS (2 * (i + 1)) 0 = some 0 := by unfold resetS; rw [if_neg (by omega), if_pos rfl]
   have fin : ∀ (x : Int × Int), (latM ls G (match latsS true k (i + 1) r with | none => none | some (qs, r'') => some (x :: qs, r''))) = latM (ls ++ [x]) G (latsS true k (i + 1) r) := by
    intro x
    cases latsS true k (i + 1) r with
    | none => rfl
    | some q => simp [latM]
   match ns with
   | [] => simp [latM]
   | [a] =>
    by_cases ha : a = 2 * (i + 1)
    ·
     subst ha; simp [latM]
    simp [latM, ha]
   | [a, b] =>
    by_cases ha : a = 2 * (i + 1)
    ·
     subst ha
     simp only [if_true, List.length_cons, List.length_nil, List.take_succ_cons, List.take_zero, List.drop_succ_cons, List.drop_zero]
     rw [if_pos (by simp), if_pos (by simp)]
     simp only [List.getD_cons_zero, List.getD_cons_succ, List.getD_nil, if_true, hr0]
     exact fin ((b : Int), 0)
    simp [latM, ha]
   | [a, b, c] =>
    by_cases ha : a = 2 * (i + 1)
    ·
     subst ha
     simp only [if_true, List.length_cons, List.length_nil, List.take_succ_cons, List.take_zero, List.drop_succ_cons, List.drop_zero]
     rw [if_pos (by simp), if_pos (by simp)]
     simp only [List.getD_cons_zero, List.getD_cons_succ, if_true]
     cases hq : resetS (2 * (i + 1)) c with
     | none => rfl
     | some q => exact fin ((b : Int), q)
    simp [latM, ha]
   | a :: b :: c :: d :: t =>
    by_cases ha : a = 2 * (i + 1)
    ·
     subst ha; simp [latM]
    simp [latM, ha]
theorem gat_num {α : Type} (ls : List (Int × Int)) (G : List (Int × Int) → Bs → Option α) (k i : Nat) (s : Bs) :
  latM ls G (gatS (k + 1) i s) = match numL s 3 3 with
   | none => none
   | some (ns, r) => if ns.getD 0 0 = 2 * (i + 1) then latM (ls ++ [(((ns.getD 1 0 : Nat) : Int), ((ns.getD 2 0 : Nat) : Int))]) G (gatS k (i + 1) r) else none := by
 rw [gatS]
 unfold numL openS
 cases lineS s with
 | none => rfl
 | some q =>
  obtain ⟨l, r⟩ := q
  simp only
  cases hn : numsS l with
  | none => rfl
  | some ns =>
   have fin : ∀ (x : Int × Int), (latM ls G (match gatS k (i + 1) r with | none => none | some (qs, r'') => some (x :: qs, r''))) = latM (ls ++ [x]) G (gatS k (i + 1) r) := by
    intro x
    cases gatS k (i + 1) r with
    | none => rfl
    | some q => simp [latM]
   match ns with
   | [] => simp [latM]
   | [a] =>
    by_cases ha : a = 2 * (i + 1)
    ·
     subst ha; simp [latM]
    simp [latM, ha]
   | [a, b] =>
    by_cases ha : a = 2 * (i + 1)
    ·
     subst ha; simp [latM]
    simp [latM, ha]
   | [a, b, c] =>
    by_cases ha : a = 2 * (i + 1)
    ·
     subst ha
     simp only [List.length_cons, List.length_nil, List.take_succ_cons, List.take_zero, List.drop_succ_cons, List.drop_zero]
     rw [if_pos (by simp), if_pos (by simp)]
     simp only [List.getD_cons_zero, List.getD_cons_succ, if_true]
     exact fin ((b : Int), (c : Int))
    simp [latM, ha]
   | a :: b :: c :: d :: t =>
    by_cases ha : a = 2 * (i + 1)
    ·
     subst ha; simp [latM]
    simp [latM, ha]
end Ag
end Go.Proofs.YtpejilhdhkmcjaaGreatDoor
