/- The reader of texts: Parse. -/
import Derived.Test.YtpejilhdhkmcjaaGreatDoorJaAl
import Derived.Test.YtpejilhdhkmcjaaGreatDoorJabj
namespace Go.Proofs.YtpejilhdhkmcjaaGreatDoor
open Go.RowKit

/-- A text is parsed. -/
def ParseP (w : World) (o : Except Nat Cir) (e : Ending) (w' : World) : Prop :=
 match o with
 | .error k => e = .returned (.tuple #[.agg #[.int .i64 0, .slice none 0 0, .slice none 0 0, .slice none 0 0, .slice none 0 0, .slice none 0 0, .slice none 0 0, .slice none 0 0], .int .i64 (k : Int)]) ∧ Below w.heap.size w w'
 | .ok c0 => ∃ c : Cir, Ag.strip c = c0 ∧ e = .returned (.tuple #[.agg #[.int .i64 c.n, .slice c.aL c.ls.length c.cL, .slice c.aG c.gs.length c.cG, .slice c.aO c.os.length c.cO, .slice c.aB c.bs.length c.cB, .slice c.aC c.cs.length c.cC, .slice c.aF c.fs.length c.cF, .slice c.aN c.ns.length c.cN], .int .i64 0]) ∧ CirM w' w'.heap.size c ∧ Small c ∧ c.ns.length ≤ c.cN ∧ Below w.heap.size w w'
set_option maxRecDepth 10000 in
set_option maxHeartbeats 4000000 in
theorem rparse_any (s : Ag.Bs) (B : Nat) (w : World) (hs : s.length ≤ 9223372036854775807) (hA : Amb B w) : Calls Tryz.prog 17 #[.string ⟨s.toArray⟩] w (ParseP w (Ag.parseS s)) := by
 have hmf : ∀ (fn : Fn) (first cap : Array Value) (w : World), (Instr.makeFunc fn first cap).run Tryz.prog w = .ok (.func fn first cap) w := fun _ _ _ _ => rfl
 have lo1 := lowAlloc w (Obj.cells #[.int .i64 0, .slice none 0 0, .slice none 0 0, .slice none 0 0, .slice none 0 0, .slice none 0 0, .slice none 0 0, .slice none 0 0] 29)
 have lo2 := lowAlloc (w.alloc (Obj.cells #[.int .i64 0, .slice none 0 0, .slice none 0 0, .slice none 0 0, .slice none 0 0, .slice none 0 0, .slice none 0 0, .slice none 0 0] 29)) (Obj.cells #[.string ⟨#[]⟩, .int .i64 0] 72)
 have hC0 := (Blk.new w 29 #[.int .i64 0, .slice none 0 0, .slice none 0 0, .slice none 0 0, .slice none 0 0, .slice none 0 0, .slice none 0 0, .slice none 0 0]).alloc (Obj.cells #[.string ⟨#[]⟩, .int .i64 0] 72)
 have hR0 : RB ((w.alloc (Obj.cells #[.int .i64 0, .slice none 0 0, .slice none 0 0, .slice none 0 0, .slice none 0 0, .slice none 0 0, .slice none 0 0, .slice none 0 0] 29)).alloc (Obj.cells #[.string ⟨#[]⟩, .int .i64 0] 72)) (w.heap.size + 1) ⟨#[]⟩ 0 := by
  have := Blk.new (w.alloc (Obj.cells #[.int .i64 0, .slice none 0 0, .slice none 0 0, .slice none 0 0, .slice none 0 0, .slice none 0 0, .slice none 0 0, .slice none 0 0] 29)) 72 #[.string ⟨#[]⟩, .int .i64 0]
  simpa [RB] using this
 have hlo0 := lo1.trans (lo2.mono lo1.size)
 have hA0 := (hA.on (lo1.mono hA.le)).on (lo2.mono (hA.on (lo1.mono hA.le)).le)
 have hw := hA.le
 have hsz : ((w.alloc (Obj.cells #[.int .i64 0, .slice none 0 0, .slice none 0 0, .slice none 0 0, .slice none 0 0, .slice none 0 0, .slice none 0 0, .slice none 0 0] 29)).alloc (Obj.cells #[.string ⟨#[]⟩, .int .i64 0] 72)).heap.size = w.heap.size + 1 + 1 := by simp
 have HRD := Lib.hid (rread_any (w.heap.size + 1) s ⟨#[]⟩ 0 B (linesE s) ((w.alloc (Obj.cells #[.int .i64 0, .slice none 0 0, .slice none 0 0, .slice none 0 0, .slice none 0 0, .slice none 0 0, .slice none 0 0, .slice none 0 0] 29)).alloc (Obj.cells #[.string ⟨#[]⟩, .int .i64 0] 72)) hR0 hs hA0 (by omega) (fun W h1 h2 h3 => rlines_any (w.heap.size + 1) s B W h1 h2 h3 (by omega)))
 rw [← parse_is] at HRD
 generalize Ag.parseS s = o at *
 have HSZ := Lib.hid hsz
 clear hsz lo1 lo2 hA0 hR0
 go_enter Tryz.func17, Tryz.ntmps17
 go_wp2_with fail
 refine HRD.out.mono ?_
 intro e w2 hP
 unfold ReadP at hP
 cases o with
 | error k =>
  obtain ⟨rfl, hk⟩ := hP
  have hC2 := hk.blkOf hC0 (by omega)
  have hlo2 : Below w.heap.size w w2 := hlo0.trans (hk.low (by have := HSZ.out; omega) (by omega))
  clear hC0 hlo0 HRD hk
  have hC9 : Blk ((((((((w2.setCell ⟨w.heap.size, 0, none⟩ (.int .i64 0)).setCell ⟨w.heap.size, 1, none⟩ (.slice none 0 0)).setCell ⟨w.heap.size, 2, none⟩ (.slice none 0 0)).setCell ⟨w.heap.size, 3, none⟩ (.slice none 0 0)).setCell ⟨w.heap.size, 4, none⟩ (.slice none 0 0)).setCell ⟨w.heap.size, 5, none⟩ (.slice none 0 0)).setCell ⟨w.heap.size, 6, none⟩ (.slice none 0 0)).setCell ⟨w.heap.size, 7, none⟩ (.slice none 0 0)) w.heap.size 29 #[.int .i64 0, .slice none 0 0, .slice none 0 0, .slice none 0 0, .slice none 0 0, .slice none 0 0, .slice none 0 0, .slice none 0 0] := ((((((((hC2.put 0 (.int .i64 0)).put 1 (.slice none 0 0)).put 2 (.slice none 0 0)).put 3 (.slice none 0 0)).put 4 (.slice none 0 0)).put 5 (.slice none 0 0)).put 6 (.slice none 0 0)).put 7 (.slice none 0 0))
  have hlo9 : Below w.heap.size w ((((((((w2.setCell ⟨w.heap.size, 0, none⟩ (.int .i64 0)).setCell ⟨w.heap.size, 1, none⟩ (.slice none 0 0)).setCell ⟨w.heap.size, 2, none⟩ (.slice none 0 0)).setCell ⟨w.heap.size, 3, none⟩ (.slice none 0 0)).setCell ⟨w.heap.size, 4, none⟩ (.slice none 0 0)).setCell ⟨w.heap.size, 5, none⟩ (.slice none 0 0)).setCell ⟨w.heap.size, 6, none⟩ (.slice none 0 0)).setCell ⟨w.heap.size, 7, none⟩ (.slice none 0 0)) := ((((((((hlo2.setCell (p := ⟨w.heap.size, 0, none⟩) (Nat.le_refl _) (.int .i64 0)).setCell (p := ⟨w.heap.size, 1, none⟩) (Nat.le_refl _) (.slice none 0 0)).setCell (p := ⟨w.heap.size, 2, none⟩) (Nat.le_refl _) (.slice none 0 0)).setCell (p := ⟨w.heap.size, 3, none⟩) (Nat.le_refl _) (.slice none 0 0)).setCell (p := ⟨w.heap.size, 4, none⟩) (Nat.le_refl _) (.slice none 0 0)).setCell (p := ⟨w.heap.size, 5, none⟩) (Nat.le_refl _) (.slice none 0 0)).setCell (p := ⟨w.heap.size, 6, none⟩) (Nat.le_refl _) (.slice none 0 0)).setCell (p := ⟨w.heap.size, 7, none⟩) (Nat.le_refl _) (.slice none 0 0))
  have k0 := hC2.cell 0
  have k1 := hC2.cell 1
  have k2 := hC2.cell 2
  have k3 := hC2.cell 3
  have k4 := hC2.cell 4
  have k5 := hC2.cell 5
  have k6 := hC2.cell 6
  have k7 := hC2.cell 7
  have q0 := hC2.frozen 0
  have q1 := hC2.frozen 1
  have q2 := hC2.frozen 2
  have q3 := hC2.frozen 3
  have q4 := hC2.frozen 4
  have q5 := hC2.frozen 5
  have q6 := hC2.frozen 6
  have q7 := hC2.frozen 7
  simp only [zD, zE, zF] at k0 k1 k2 k3 k4 k5 k6 k7
  clear hC2 hlo2
  go_wp2
  clear k0 q0 k1 q1 k2 q2 k3 q3 k4 q4 k5 q5 k6 q6 k7 q7
  generalize ((((((((w2.setCell ⟨w.heap.size, 0, none⟩ (.int .i64 0)).setCell ⟨w.heap.size, 1, none⟩ (.slice none 0 0)).setCell ⟨w.heap.size, 2, none⟩ (.slice none 0 0)).setCell ⟨w.heap.size, 3, none⟩ (.slice none 0 0)).setCell ⟨w.heap.size, 4, none⟩ (.slice none 0 0)).setCell ⟨w.heap.size, 5, none⟩ (.slice none 0 0)).setCell ⟨w.heap.size, 6, none⟩ (.slice none 0 0)).setCell ⟨w.heap.size, 7, none⟩ (.slice none 0 0)) = W9 at *
  have r0 := hC9.cell 0
  have r1 := hC9.cell 1
  have r2 := hC9.cell 2
  have r3 := hC9.cell 3
  have r4 := hC9.cell 4
  have r5 := hC9.cell 5
  have r6 := hC9.cell 6
  have r7 := hC9.cell 7
  simp only [zD, zE, zF] at r0 r1 r2 r3 r4 r5 r6 r7
  refine bodyPost_ret (v := .tuple #[.agg #[.int .i64 0, .slice none 0 0, .slice none 0 0, .slice none 0 0, .slice none 0 0, .slice none 0 0, .slice none 0 0, .slice none 0 0], .int .i64 (k : Int)]) (by simp [results, Tryz.results17, go_sem, r0, r1, r2, r3, r4, r5, r6, r7]) rfl ?_
  exact ⟨rfl, hlo9⟩
 | ok c0 =>
  obtain ⟨c, hst, rfl, hM, hS, hcap, hfr, hk⟩ := hP
  rw [HSZ.out] at hfr
  have hC2 := hk.blkOf hC0 (by omega)
  have hlo2 : Below w.heap.size w w2 := hlo0.trans (hk.low (by have := HSZ.out; omega) (by omega))
  clear hC0 hlo0 HRD hk
  have hC9 : Blk ((((((((w2.setCell ⟨w.heap.size, 0, none⟩ (.int .i64 c.n)).setCell ⟨w.heap.size, 1, none⟩ (.slice c.aL c.ls.length c.cL)).setCell ⟨w.heap.size, 2, none⟩ (.slice c.aG c.gs.length c.cG)).setCell ⟨w.heap.size, 3, none⟩ (.slice c.aO c.os.length c.cO)).setCell ⟨w.heap.size, 4, none⟩ (.slice c.aB c.bs.length c.cB)).setCell ⟨w.heap.size, 5, none⟩ (.slice c.aC c.cs.length c.cC)).setCell ⟨w.heap.size, 6, none⟩ (.slice c.aF c.fs.length c.cF)).setCell ⟨w.heap.size, 7, none⟩ (.slice c.aN c.ns.length c.cN)) w.heap.size 29 #[.int .i64 c.n, .slice c.aL c.ls.length c.cL, .slice c.aG c.gs.length c.cG, .slice c.aO c.os.length c.cO, .slice c.aB c.bs.length c.cB, .slice c.aC c.cs.length c.cC, .slice c.aF c.fs.length c.cF, .slice c.aN c.ns.length c.cN] := ((((((((hC2.put 0 (.int .i64 c.n)).put 1 (.slice c.aL c.ls.length c.cL)).put 2 (.slice c.aG c.gs.length c.cG)).put 3 (.slice c.aO c.os.length c.cO)).put 4 (.slice c.aB c.bs.length c.cB)).put 5 (.slice c.aC c.cs.length c.cC)).put 6 (.slice c.aF c.fs.length c.cF)).put 7 (.slice c.aN c.ns.length c.cN))
  have hlo9 : Below w.heap.size w ((((((((w2.setCell ⟨w.heap.size, 0, none⟩ (.int .i64 c.n)).setCell ⟨w.heap.size, 1, none⟩ (.slice c.aL c.ls.length c.cL)).setCell ⟨w.heap.size, 2, none⟩ (.slice c.aG c.gs.length c.cG)).setCell ⟨w.heap.size, 3, none⟩ (.slice c.aO c.os.length c.cO)).setCell ⟨w.heap.size, 4, none⟩ (.slice c.aB c.bs.length c.cB)).setCell ⟨w.heap.size, 5, none⟩ (.slice c.aC c.cs.length c.cC)).setCell ⟨w.heap.size, 6, none⟩ (.slice c.aF c.fs.length c.cF)).setCell ⟨w.heap.size, 7, none⟩ (.slice c.aN c.ns.length c.cN)) := ((((((((hlo2.setCell (p := ⟨w.heap.size, 0, none⟩) (Nat.le_refl _) (.int .i64 c.n)).setCell (p := ⟨w.heap.size, 1, none⟩) (Nat.le_refl _) (.slice c.aL c.ls.length c.cL)).setCell (p := ⟨w.heap.size, 2, none⟩) (Nat.le_refl _) (.slice c.aG c.gs.length c.cG)).setCell (p := ⟨w.heap.size, 3, none⟩) (Nat.le_refl _) (.slice c.aO c.os.length c.cO)).setCell (p := ⟨w.heap.size, 4, none⟩) (Nat.le_refl _) (.slice c.aB c.bs.length c.cB)).setCell (p := ⟨w.heap.size, 5, none⟩) (Nat.le_refl _) (.slice c.aC c.cs.length c.cC)).setCell (p := ⟨w.heap.size, 6, none⟩) (Nat.le_refl _) (.slice c.aF c.fs.length c.cF)).setCell (p := ⟨w.heap.size, 7, none⟩) (Nat.le_refl _) (.slice c.aN c.ns.length c.cN))
  have hM9 := (CirM.far (CirM.far (CirM.far (CirM.far (CirM.far (CirM.far (CirM.far (CirM.far hM hfr (p := ⟨w.heap.size, 0, none⟩) (by simp only; omega) (.int .i64 c.n)) hfr (p := ⟨w.heap.size, 1, none⟩) (by simp only; omega) (.slice c.aL c.ls.length c.cL)) hfr (p := ⟨w.heap.size, 2, none⟩) (by simp only; omega) (.slice c.aG c.gs.length c.cG)) hfr (p := ⟨w.heap.size, 3, none⟩) (by simp only; omega) (.slice c.aO c.os.length c.cO)) hfr (p := ⟨w.heap.size, 4, none⟩) (by simp only; omega) (.slice c.aB c.bs.length c.cB)) hfr (p := ⟨w.heap.size, 5, none⟩) (by simp only; omega) (.slice c.aC c.cs.length c.cC)) hfr (p := ⟨w.heap.size, 6, none⟩) (by simp only; omega) (.slice c.aF c.fs.length c.cF)) hfr (p := ⟨w.heap.size, 7, none⟩) (by simp only; omega) (.slice c.aN c.ns.length c.cN))
  have hsz9 : ((((((((w2.setCell ⟨w.heap.size, 0, none⟩ (.int .i64 c.n)).setCell ⟨w.heap.size, 1, none⟩ (.slice c.aL c.ls.length c.cL)).setCell ⟨w.heap.size, 2, none⟩ (.slice c.aG c.gs.length c.cG)).setCell ⟨w.heap.size, 3, none⟩ (.slice c.aO c.os.length c.cO)).setCell ⟨w.heap.size, 4, none⟩ (.slice c.aB c.bs.length c.cB)).setCell ⟨w.heap.size, 5, none⟩ (.slice c.aC c.cs.length c.cC)).setCell ⟨w.heap.size, 6, none⟩ (.slice c.aF c.fs.length c.cF)).setCell ⟨w.heap.size, 7, none⟩ (.slice c.aN c.ns.length c.cN)).heap.size = w2.heap.size := by simp
  rw [← hsz9] at hM9
  clear hsz9 hM
  have k0 := hC2.cell 0
  have k1 := hC2.cell 1
  have k2 := hC2.cell 2
  have k3 := hC2.cell 3
  have k4 := hC2.cell 4
  have k5 := hC2.cell 5
  have k6 := hC2.cell 6
  have k7 := hC2.cell 7
  have q0 := hC2.frozen 0
  have q1 := hC2.frozen 1
  have q2 := hC2.frozen 2
  have q3 := hC2.frozen 3
  have q4 := hC2.frozen 4
  have q5 := hC2.frozen 5
  have q6 := hC2.frozen 6
  have q7 := hC2.frozen 7
  simp only [zD, zE, zF] at k0 k1 k2 k3 k4 k5 k6 k7
  clear hC2 hlo2
  go_wp2
  clear k0 q0 k1 q1 k2 q2 k3 q3 k4 q4 k5 q5 k6 q6 k7 q7
  generalize ((((((((w2.setCell ⟨w.heap.size, 0, none⟩ (.int .i64 c.n)).setCell ⟨w.heap.size, 1, none⟩ (.slice c.aL c.ls.length c.cL)).setCell ⟨w.heap.size, 2, none⟩ (.slice c.aG c.gs.length c.cG)).setCell ⟨w.heap.size, 3, none⟩ (.slice c.aO c.os.length c.cO)).setCell ⟨w.heap.size, 4, none⟩ (.slice c.aB c.bs.length c.cB)).setCell ⟨w.heap.size, 5, none⟩ (.slice c.aC c.cs.length c.cC)).setCell ⟨w.heap.size, 6, none⟩ (.slice c.aF c.fs.length c.cF)).setCell ⟨w.heap.size, 7, none⟩ (.slice c.aN c.ns.length c.cN)) = W9 at *
  have r0 := hC9.cell 0
  have r1 := hC9.cell 1
  have r2 := hC9.cell 2
  have r3 := hC9.cell 3
  have r4 := hC9.cell 4
  have r5 := hC9.cell 5
  have r6 := hC9.cell 6
  have r7 := hC9.cell 7
  simp only [zD, zE, zF] at r0 r1 r2 r3 r4 r5 r6 r7
  refine bodyPost_ret (v := .tuple #[.agg #[.int .i64 c.n, .slice c.aL c.ls.length c.cL, .slice c.aG c.gs.length c.cG, .slice c.aO c.os.length c.cO, .slice c.aB c.bs.length c.cB, .slice c.aC c.cs.length c.cC, .slice c.aF c.fs.length c.cF, .slice c.aN c.ns.length c.cN], .int .i64 0]) (by simp [results, Tryz.results17, go_sem, r0, r1, r2, r3, r4, r5, r6, r7]) rfl ?_
  exact ⟨c, hst, rfl, hM9, hS, hcap, hlo9⟩
end Go.Proofs.YtpejilhdhkmcjaaGreatDoor
