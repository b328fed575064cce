/- The reference's cones: below, Support, Gates. -/
import Derived.Test.YtjjdgiondpnpcaaCJ
namespace Go.Proofs.Ytjjdgiondpnpcaa
open Go.RowKit

theorem quo2 {l : Int} (h : 0 ≤ l) : l / 2 = ((Cm.vr l : Nat) : Int) := by unfold Cm.vr; omega
/-- What below keeps: the graph's box, and the marks behind it. -/
structure RI (w wr : World) (n : Int) (s : Value) (mb : Nat) (ms : List Bool) : Prop where
  low : Below w.heap.size w wr
  bg : Blk wr w.heap.size 26 #[.int .i64 n, s]
  bm : Blk wr mb 4 (bv ms).toArray
  lt : w.heap.size < mb
theorem RI.set {w wr : World} {n : Int} {s : Value} {mb : Nat} {ms : List Bool} (h : RI w wr n s mb ms) (i : Nat) (b : Bool) : RI w (wr.setCell ⟨mb, i, none⟩ (.bool b)) n s mb (ms.set i b) :=
  ⟨h.low.setCell (Nat.le_of_lt h.lt) _, h.bg.far (Nat.ne_of_lt h.lt) _, by rw [← bv_set]; exact h.bm.put i _, h.lt⟩
theorem RI.get {w wr : World} {n : Int} {s : Value} {mb : Nat} {ms : List Bool} (h : RI w wr n s mb ms) {i : Nat} (hi : i < ms.length) : wr.cell? ⟨mb, i, none⟩ = some (.bool (ms.getD i false)) := by
  obtain ⟨b, o, e, _, h1⟩ := h.bm.vs.bool i hi
  injection e with e
  injection e with e1 e2
  subst e1 e2
  simpa using h1

set_option maxRecDepth 100000 in
set_option maxHeartbeats 8000000 in
theorem refbelow_any (n : Nat) (A : Option Addr) (c : Nat) (gs : List (Int × Int)) (l : Int) (w : World) (hg : Gr w w.heap.size A gs) (hr : Gm.rightB n gs = true) (hl : Gm.litB n gs.length l = true) :
    Calls Try.prog 34 #[.agg #[.int .i64 n, .slice A gs.length c], .int .i64 l] w fun e w' => ∃ mb, e = .returned (.slice (some ⟨mb, 0, none⟩) (n + 1 + gs.length) (n + 1 + gs.length)) ∧ w.heap.size ≤ mb ∧ Blk w' mb 4 (bv (Cm.below n gs l)).toArray ∧ Below w.heap.size w w' := by
  obtain ⟨hn0, hn1, hn2, _⟩ := right_facts hr
  have hlf := lit_facts hl
  have HO := Lib.hid (Em.right_ord hr)
  have HL := Lib.hid (Cm.Low.of_right hr)
  have hgl : gs.length ≤ 2000 := by omega
  have hmk : ∀ w, (Instr.makeSlice 35 (.int .i64 ((n : Int) + 1 + (gs.length : Int))) (.int .i64 ((n : Int) + 1 + (gs.length : Int)))).run Try.prog w = .ok (.slice (some ⟨w.heap.size, 0, none⟩) (n + 1 + gs.length) (n + 1 + gs.length)) (w.alloc (.cells (falses (n + 1 + gs.length)) 4)) := fun w => by
    have := make_bools (n + 1 + gs.length) (by omega) w
    rwa [show ((n + 1 + gs.length : Nat) : Int) = (n : Int) + 1 + (gs.length : Int) by omega] at this
  clear hr hl
  have g0 := Blk.new w 26 #[.int .i64 n, .slice A gs.length c]
  have lo : Below w.heap.size w (w.alloc (Obj.cells #[.int .i64 n, .slice A gs.length c] 26)) := (Below.refl _ _).alloc (Nat.le_refl _) _
  go_enter Try.func34, Try.ntmps34
  go_wp2_with fail
  refine (refVars_any n A gs.length c _ hn0 hn1 (by omega)).mono ?_
  rintro e w1 ⟨rfl, hb1⟩
  replace lo := lo.trans (hb1.mono lo.size)
  replace g0 := g0.below hb1 g0.lt
  have g1 := g0.alloc (Obj.cells (falses (n + 1 + gs.length)) 4)
  have R0 : RI w (w1.alloc (Obj.cells (falses (n + 1 + gs.length)) 4)) n (.slice A gs.length c) w1.heap.size (List.replicate (n + 1 + gs.length) false) := by
    refine ⟨lo.alloc lo.size _, g1, ?_, g0.lt⟩
    have e : (bv (List.replicate (n + 1 + gs.length) false)).toArray = falses (n + 1 + gs.length) := by simp [falses, bv]
    rw [e]
    exact Blk.new w1 _ _
  have lw0 := lo.size
  clear hb1 g0 g1 lo
  go_upto_region 2 with fail
  generalize w1.alloc (Obj.cells (falses (n + 1 + gs.length)) 4) = V at *
  have hq := quo2 hlf.1
  have hvr : Cm.vr l < n + 1 + gs.length := by unfold Cm.vr; omega
  have HBW : Hid (Cm.below n gs l = Cm.marks n gs ((List.replicate (n + 1 + gs.length) false).set (Cm.vr l) true) gs.length) := rfl
  have hix := ixB0 w1.heap.size (n + 1 + gs.length) (Cm.vr l) (by omega) hvr
  have hcr := R0.get (i := Cm.vr l) (by simpa using hvr)
  have hfr := R0.bm.frozen (Cm.vr l)
  have R1 := R0.set (Cm.vr l) true
  generalize Cm.vr l = r at *
  go_upto_region 3 with fail
  clear R0 hcr hfr hix hq hmk
  generalize V.setCell ⟨w1.heap.size, r, none⟩ (.bool true) = V1 at *
  have HM : Hid (((List.replicate (n + 1 + gs.length) false).set r true).length = n + 1 + gs.length) := by unfold Hid; simp
  generalize (List.replicate (n + 1 + gs.length) false).set r true = m0 at *
  have k1 := R1.bg.cell 1
  simp only [List.getElem?_toArray, List.getElem?_cons_zero, List.getElem?_cons_succ] at k1
  go_wp2_with fail
  go_loopw [6] (fun i wr => ∃ k : Nat, k ≤ gs.length ∧ i = .int .i64 ((gs.length : Int) - 1 - k) ∧ RI w wr n (.slice A gs.length c) w1.heap.size (Cm.marks n gs m0 k)) (fun i _ => (intOf i + 1).toNat)
  case atStart => exact ⟨0, Nat.zero_le _, by simp, R1⟩
  case round =>
    obtain ⟨k, hkl, rfl, R⟩ := hrel
    have k0 := R.bg.cell 0
    have k1 := R.bg.cell 1
    simp only [List.getElem?_toArray, List.getElem?_cons_zero, List.getElem?_cons_succ] at k0 k1
    have hml : (Cm.marks n gs m0 k).length = n + 1 + gs.length := by rw [Cm.marks_length]; exact HM.out
    by_cases hlt : k < gs.length
    · obtain ⟨q, hql, hqk⟩ : ∃ q : Nat, q < gs.length ∧ q + k + 1 = gs.length := ⟨gs.length - (k + 1), by omega, by omega⟩
      have hri : (gs.length : Int) - 1 - k = (q : Int) := by omega
      rw [hri]
      have HNX := Lib.hid (show (q : Int) - 1 = (gs.length : Int) - 1 - ((k + 1 : Nat) : Int) by omega)
      have HSU : Hid (Cm.marks n gs m0 (k + 1) = Cm.look n gs (Cm.marks n gs m0 k) q) := by unfold Hid; rw [Cm.marks, show gs.length - (k + 1) = q by omega]
      obtain ⟨b, off, hA, hb, p1, p2⟩ := (hg.below R.low (Nat.le_refl _)) q hql
      subst hA
      have hlow := Em.gate_low HO.out hql
      have HGT : Hid (gs.getD q (0, 0) = gs[q]) := Cm.gate_at hql
      have hixg := ix2 b off gs.length c q (by omega) hql
      have hm := R.get (i := n + 1 + q) (by omega)
      have hix := ixB0 w1.heap.size (n + 1 + gs.length) (n + 1 + q) (by omega) (by omega)
      rw [show ((n + 1 + q : Nat) : Int) = (n : Int) + 1 + (q : Int) by omega] at hix
      have HML := Lib.hid hml
      have HRI := Lib.hid hri
      clear hml hri hqk
      generalize Cm.marks n gs m0 k = ms at *
      cases hmk : ms.getD (n + 1 + q) false with
      | false =>
        rw [hmk] at hm
        have HK : Hid (Cm.look n gs ms q = ms) := by unfold Hid Cm.look; rw [hmk]; rfl
        clear hmk
        go_wp2_with fail
        go_roundw
        case rel => exact ⟨k + 1, by omega, by rw [← HNX.out], by rw [HSU.out, HK.out]; exact R⟩
        case measure => have := HRI.out; simp [intOf]
      | true =>
        rw [hmk] at hm
        have HK : Hid (Cm.look n gs ms q = Cm.mark2 ms gs[q]) := by unfold Hid Cm.look; rw [hmk, HGT.out]; rfl
        clear hmk HGT
        generalize gs[q] = g at *
        obtain ⟨x, y⟩ := g
        simp only at hlow p1 p2
        have hx2 := quo2 (l := x) (by omega)
        have hy2 := quo2 (l := y) (by omega)
        have hvx : Cm.vr x < n + 1 + gs.length := by unfold Cm.vr; omega
        have hvy : Cm.vr y < n + 1 + gs.length := by unfold Cm.vr; omega
        have HV : Hid (Cm.mark2 ms (x, y) = (ms.set (Cm.vr x) true).set (Cm.vr y) true) := rfl
        generalize Cm.vr x = r1 at *
        generalize Cm.vr y = r2 at *
        have hix1 := ixB0 w1.heap.size (n + 1 + gs.length) r1 (by omega) hvx
        have hix2 := ixB0 w1.heap.size (n + 1 + gs.length) r2 (by omega) hvy
        have hm1 := R.get (i := r1) (by have := HML.out; omega)
        have hf1 := R.bm.frozen r1
        have J1 := R.set r1 true
        have J2 := J1.set r2 true
        have hl1 : (ms.set r1 true).length = n + 1 + gs.length := by rw [List.length_set]; exact HML.out
        have hm2 := J1.get (i := r2) (by omega)
        have hf2 := J1.bm.frozen r2
        have k0' := J1.bg.cell 0
        have k1' := J1.bg.cell 1
        simp only [List.getElem?_toArray, List.getElem?_cons_zero, List.getElem?_cons_succ] at k0' k1'
        have hbb : b ≠ w1.heap.size := by omega
        have p1' : (wr.setCell ⟨w1.heap.size, r1, none⟩ (.bool true)).cell? ⟨b, off + q * 2, none⟩ = some (.int .i64 x) := by
          rw [World.cell?_setCell_other _ _ _ _ (fun e => hbb (by injection e with e _; exact e.symm))]; exact p1
        have p2' : (wr.setCell ⟨w1.heap.size, r1, none⟩ (.bool true)).cell? ⟨b, off + q * 2 + 1, none⟩ = some (.int .i64 y) := by
          rw [World.cell?_setCell_other _ _ _ _ (fun e => hbb (by injection e with e _; exact e.symm))]; exact p2
        clear hl1
        go_upto_region 8 with fail
        clear k0 k1 hm hm1 hf1 hix hix1 p1 p2 R
        generalize wr.setCell ⟨w1.heap.size, r1, none⟩ (.bool true) = W1 at *
        go_wp2_with fail
        go_roundw
        case rel => exact ⟨k + 1, by omega, by rw [← HNX.out], by rw [HSU.out, HK.out, HV.out]; exact J2⟩
        case measure => have := HRI.out; simp [intOf]
    · obtain rfl : k = gs.length := by omega
      have hbm := R.bm
      have lw := R.low
      go_wp2_with fail
      go_ret
      exact ⟨w1.heap.size, rfl, lw0, by rw [HBW.out]; exact hbm, lw⟩
end Go.Proofs.Ytjjdgiondpnpcaa
