/- The reference of layer 4: Of, rank, many, Word, Number, lits. -/
import Derived.Test.YtdnbndknfifmgaaGreatDoorUaf
namespace Go.Proofs.YtdnbndknfifmgaaGreatDoor
open Go.RowKit

set_option maxHeartbeats 2000000 in
theorem refOf_any (c : Cir) (w : World) : Calls Tryz.prog 40 #[.agg #[.int .i64 c.n, .slice c.aL c.ls.length c.cL, .slice c.aG c.gs.length c.cG, .slice c.aO c.os.length c.cO, .slice c.aB c.bs.length c.cB, .slice c.aC c.cs.length c.cC, .slice c.aF c.fs.length c.cF, .slice c.aN c.ns.length c.cN]] w fun e w' => e = .returned (.agg #[.int .i64 (wrap64 (c.n + c.ls.length)), .slice c.aG c.gs.length c.cG]) ∧ Below w.heap.size w w' := by
  have hbx := (boxed w c).alloc (Obj.cells #[.int .i64 0, .slice none 0 0] 64)
  have hgx : Blk ((w.alloc (Obj.cells #[.int .i64 c.n, .slice c.aL c.ls.length c.cL, .slice c.aG c.gs.length c.cG, .slice c.aO c.os.length c.cO, .slice c.aB c.bs.length c.cB, .slice c.aC c.cs.length c.cC, .slice c.aF c.fs.length c.cF, .slice c.aN c.ns.length c.cN] 29)).alloc (Obj.cells #[.int .i64 0, .slice none 0 0] 64)) (w.heap.size + 1) 64 #[.int .i64 0, .slice none 0 0] := by
    have := Blk.new (w.alloc (Obj.cells #[.int .i64 c.n, .slice c.aL c.ls.length c.cL, .slice c.aG c.gs.length c.cG, .slice c.aO c.os.length c.cO, .slice c.aB c.bs.length c.cB, .slice c.aC c.cs.length c.cC, .slice c.aF c.fs.length c.cF, .slice c.aN c.ns.length c.cN] 29)) 64 #[.int .i64 0, .slice none 0 0]
    simpa using this
  have lo := (lowAlloc w (Obj.cells #[.int .i64 c.n, .slice c.aL c.ls.length c.cL, .slice c.aG c.gs.length c.cG, .slice c.aO c.os.length c.cO, .slice c.aB c.bs.length c.cB, .slice c.aC c.cs.length c.cC, .slice c.aF c.fs.length c.cF, .slice c.aN c.ns.length c.cN] 29)).alloc (by simp) (Obj.cells #[.int .i64 0, .slice none 0 0] 64)
  go_enter Tryz.func40, Tryz.ntmps40
  go_upto_region 1 with fail
  generalize ((w.alloc (Obj.cells #[.int .i64 c.n, .slice c.aL c.ls.length c.cL, .slice c.aG c.gs.length c.cG, .slice c.aO c.os.length c.cO, .slice c.aB c.bs.length c.cB, .slice c.aC c.cs.length c.cC, .slice c.aF c.fs.length c.cF, .slice c.aN c.ns.length c.cN] 29)).alloc (Obj.cells #[.int .i64 0, .slice none 0 0] 64)) = W at *
  have x0 := hgx.cell 0
  have x1 := hgx.cell 1
  have y0 := hgx.frozen 0
  have y1 := hgx.frozen 1
  have c0 := hbx.cell 0
  have c1 := hbx.cell 1
  have c2 := hbx.cell 2
  simp only [List.getElem?_toArray, List.getElem?_cons_zero, List.getElem?_cons_succ] at x0 x1 c0 c1 c2
  go_wp2
  have hbf : Below w.heap.size w ((W.setCell ⟨w.heap.size + 1, 0, none⟩ (.int .i64 (wrap64 (c.n + c.ls.length)))).setCell ⟨w.heap.size + 1, 1, none⟩ (.slice c.aG c.gs.length c.cG)) :=
    (lo.setCell (by simp) _).setCell (by simp) _
  have r0 : ((W.setCell ⟨w.heap.size + 1, 0, none⟩ (.int .i64 (wrap64 (c.n + c.ls.length)))).setCell ⟨w.heap.size + 1, 1, none⟩ (.slice c.aG c.gs.length c.cG)).cell? ⟨w.heap.size + 1, 0, none⟩ = some (.int .i64 (wrap64 (c.n + c.ls.length))) :=
    (World.cell?_setCell_other _ _ _ _ (by simp)).trans (World.cell?_setCell_same _ _ _ x0)
  have r1 : ((W.setCell ⟨w.heap.size + 1, 0, none⟩ (.int .i64 (wrap64 (c.n + c.ls.length)))).setCell ⟨w.heap.size + 1, 1, none⟩ (.slice c.aG c.gs.length c.cG)).cell? ⟨w.heap.size + 1, 1, none⟩ = some (.slice c.aG c.gs.length c.cG) :=
    World.cell?_setCell_same _ _ _ ((World.cell?_setCell_other _ _ _ _ (by simp)).trans x1)
  exact bodyPost_ret (v := .agg #[.int .i64 (wrap64 (c.n + c.ls.length)), .slice c.aG c.gs.length c.cG]) (by simp [results, Tryz.results40, go_sem, r0, r1]) rfl ⟨rfl, hbf⟩

namespace Cm
/-- Which kind of signals a number is; below 0: none. -/
def rankS (k : Int) : Int := if k = 105 then 0 else if k = 108 then 1 else if k = 111 then 2 else if k = 98 then 3 else if k = 99 then 4 else if k = 102 then 5 else -1
theorem rank_at (j : Nat) (h : j < 6) : rankS (kindAt j) = j := by
  match j, h with
  | 0, _ => rfl
  | 1, _ => rfl
  | 2, _ => rfl
  | 3, _ => rfl
  | 4, _ => rfl
  | 5, _ => rfl
end Cm
theorem ixI2 (sb off N c r : Nat) (_hm : N ≤ 9223372036854775807) (hr : r < N) (w : World) : (Instr.indexAt 26 (.slice (some ⟨sb, off, none⟩) N c) (.int .i64 (r : Int))).run Tryz.prog w = .ok (.pointer (some ⟨sb, off + r, none⟩)) w := by go_simp
end Go.Proofs.YtdnbndknfifmgaaGreatDoor
/- The reference's names. -/
namespace Go.Proofs.YtdnbndknfifmgaaGreatDoor
open Go.RowKit

namespace Cm
end Cm
end Go.Proofs.YtdnbndknfifmgaaGreatDoor
/- The names, as the program and as the reference look at them: the same. -/
namespace Go.Proofs.YtdnbndknfifmgaaGreatDoor
open Go.RowKit
namespace Cm

def OkAt (c : Cir) (x : Nm) : Prop := 0 ≤ x.2.1 ∧ x.2.1 < numS c x.1
def Lt2 (y x : Nm) : Prop := rankS y.1 ≤ rankS x.1 ∧ (rankS y.1 = rankS x.1 → y.2.1 < x.2.1)
def Ch (c : Cir) : List Nm → Prop
  | [] => True
  | [x] => OkAt c x
  | x :: y :: l => OkAt c x ∧ Lt2 x y ∧ Ch c (y :: l)
theorem ok_rank {c : Cir} {x : Nm} (h : OkAt c x) : 0 ≤ rankS x.1 := by
  by_cases hh : ∃ i, i < 6 ∧ kindAt i = x.1
  · obtain ⟨i, hi, e⟩ := hh
    rw [← e, rank_at i hi]
    omega
  · have hn : ∀ j, j < 6 → kindAt j ≠ x.1 := fun i hi e => hh ⟨i, hi, e⟩
    have h0 := hn 0 (by omega)
    have h1 := hn 1 (by omega)
    have h2 := hn 2 (by omega)
    have h3 := hn 3 (by omega)
    have h4 := hn 4 (by omega)
    have h5 := hn 5 (by omega)
    simp only [kindAt, List.getD_cons_zero, List.getD_cons_succ] at h0 h1 h2 h3 h4 h5
    have hz : numS c x.1 = 0 := by
      unfold numS lstS
      rw [if_neg (Ne.symm h0), if_neg (Ne.symm h1), if_neg (Ne.symm h2), if_neg (Ne.symm h3), if_neg (Ne.symm h4), if_neg (Ne.symm h5)]
      rfl
    have := h.1
    have := h.2
    omega
def Hd (f : Nat) (z : Int) : List Nm → Prop
  | [] => True
  | x :: _ => 6 - (f : Int) ≤ rankS x.1 ∧ (rankS x.1 = 6 - (f : Int) → z ≤ x.2.1)
theorem Ch.cons {c : Cir} {x : Nm} {l : List Nm} : Ch c (x :: l) ↔ OkAt c x ∧ Hd 6 0 l ∧ (match l with | [] => True | y :: _ => Lt2 x y) ∧ Ch c l := by
  cases l with
  | nil => simp [Ch, Hd]
  | cons y t =>
    simp only [Ch, Hd]
    constructor
    · rintro ⟨h1, h2, h3⟩
      have : OkAt c y := by
        cases t with
        | nil => exact h3
        | cons u v => exact h3.1
      exact ⟨h1, ⟨by have := ok_rank this; omega, fun _ => this.1⟩, h2, h3⟩
    · rintro ⟨h1, _, h2, h3⟩
      exact ⟨h1, h2, h3⟩
theorem Ch.ok {c : Cir} {x : Nm} {l : List Nm} (h : Ch c (x :: l)) : OkAt c x := (Ch.cons.1 h).1
end Cm
end Go.Proofs.YtdnbndknfifmgaaGreatDoor
