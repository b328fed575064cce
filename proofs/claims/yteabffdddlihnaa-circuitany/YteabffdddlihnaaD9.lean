/- inputs, value, steps, Find, Of. -/
import Derived.Test.YteabffdddlihnaaD8
namespace Go.Proofs.Yteabffdddlihnaa
open Go.RowKit

theorem bitAnd_any (x : Int) (h : I64 x) : bits .and .i64 x 1 = x % 2 := by
  unfold I64 at h
  show IntKind.i64.wrap ((BitVec.ofInt 64 x &&& BitVec.ofInt 64 1).toNat : Int) = _
  have e1 : (BitVec.ofInt 64 1).toNat = 1 := by decide
  rw [BitVec.toNat_and, e1, Nat.and_one_is_mod, BitVec.toNat_ofInt, IntKind.wrap_i64]
  omega
theorem shr_range (x : Int) (k : Nat) (h : I64 x) : I64 (x / 2 ^ k) := by
  unfold I64 at *
  have hp : (0 : Int) < 2 ^ k := Int.pow_pos (by omega)
  constructor
  · rw [Int.le_ediv_iff_mul_le hp]
    have : (1 : Int) ≤ 2 ^ k := by omega
    have h2 : (-9223372036854775808 : Int) * 2 ^ k ≤ -9223372036854775808 * 1 := by
      exact Int.mul_le_mul_of_nonpos_left (by omega) this
    omega
  · by_cases hx : 0 ≤ x
    · exact Int.le_trans (Int.ediv_le_self _ hx) h.2
    · have := Int.ediv_neg_of_neg_of_pos (show x < 0 by omega) hp
      omega
theorem set_bits (st : Int) (m k : Nat) (hk : k < m) : ((bv (bitsB st k) ++ List.replicate (m - k) (Value.bool false)).toArray).setIfInBounds k (.bool (st / 2 ^ k % 2 == 1)) = (bv (bitsB st (k + 1)) ++ List.replicate (m - (k + 1)) (Value.bool false)).toArray := by
  have hl : (bv (bitsB st k)).length = k := by simp [bitsB_length]
  rw [List.setIfInBounds_toArray, List.set_append_right _ _ (by rw [hl]; exact Nat.le_refl _), hl, Nat.sub_self, bitsB_succ, show m - k = (m - (k + 1)) + 1 by omega, List.replicate_succ, List.set_cons_zero]
  simp

set_option maxRecDepth 100000 in
set_option maxHeartbeats 4000000 in
theorem inputs_any (c : Cir) (st : Int) (w : World) (hf : Cm.fitsB c = true) (hs : I64 st) (m : Nat) (hm : (m : Int) = c.n + c.ls.length) (h60 : m ≤ 60) : Calls Try.prog 32 #[.agg #[.int .i64 c.n, .slice c.aL c.ls.length c.cL, .slice c.aG c.gs.length c.cG, .slice c.aO c.os.length c.cO, .slice c.aB c.bs.length c.cB, .slice c.aC c.cs.length c.cC, .slice c.aF c.fs.length c.cF, .slice c.aN c.ns.length c.cN], .int .i64 st] w (BList (bitsB st m) w) := by
  have hbx := boxed w c
  have lo := lowAlloc w (Obj.cells #[.int .i64 c.n, .slice c.aL c.ls.length c.cL, .slice c.aG c.gs.length c.cG, .slice c.aO c.os.length c.cO, .slice c.aB c.bs.length c.cB, .slice c.aC c.cs.length c.cC, .slice c.aF c.fs.length c.cF, .slice c.aN c.ns.length c.cN] 27)
  have HW := Lib.hid (width_any c (w.alloc (Obj.cells #[.int .i64 c.n, .slice c.aL c.ls.length c.cL, .slice c.aG c.gs.length c.cG, .slice c.aO c.os.length c.cO, .slice c.aB c.bs.length c.cB, .slice c.aC c.cs.length c.cC, .slice c.aF c.fs.length c.cF, .slice c.aN c.ns.length c.cN] 27)))
  rw [Cm.wrapW hf, ← hm] at HW
  have HS := Lib.hid hs
  have hmk := make_bools m (by omega)
  have c0 := hbx.cell 0; have c1 := hbx.cell 1; have c2 := hbx.cell 2; have c3 := hbx.cell 3; have c4 := hbx.cell 4; have c5 := hbx.cell 5; have c6 := hbx.cell 6; have c7 := hbx.cell 7; simp only [List.getElem?_toArray, List.getElem?_cons_zero, List.getElem?_cons_succ] at c0 c1 c2 c3 c4 c5 c6 c7
  clear hm hf
  go_enter Try.func32, Try.ntmps32
  go_wp2_with fail
  refine HW.out.mono ?_
  rintro e w1 ⟨rfl, hb1⟩
  replace lo := lo.trans (hb1.mono lo.size)
  have lo1 := lo.alloc lo.size (.cells (falses m) 4)
  have hk1 := Blk.new w1 4 (falses m)
  have hls := lo.size
  have HB : Hid (Blk (w1.alloc (.cells (falses m) 4)) w1.heap.size 4 (bv (bitsB st 0) ++ List.replicate (m - 0) (Value.bool false)).toArray) := by
    unfold Hid
    have e : (bv (bitsB st 0) ++ List.replicate (m - 0) (Value.bool false)).toArray = falses m := by simp [bitsB, falses]
    rw [e]
    exact hk1
  have HLO := Lib.hid lo1
  clear c0 c1 c2 c3 c4 c5 c6 c7
  clear hbx hk1 lo1 lo hb1 HW
  go_wp2
  go_loopw [12] (fun i wr => ∃ k : Nat, k ≤ m ∧ i = .int .i64 k ∧ Below w.heap.size w wr ∧ Blk wr w1.heap.size 4 (bv (bitsB st k) ++ List.replicate (m - k) (Value.bool false)).toArray) (fun i _ => m - (intOf i).toNat)
  case atStart => exact ⟨0, Nat.zero_le _, rfl, HLO.out, HB.out⟩
  case round =>
    obtain ⟨k, hk, rfl, lo, hb⟩ := hrel
    by_cases hlt : k < m
    · have hband := bitAnd_any (st / 2 ^ k) (shr_range st k HS.out)
      have hix := ixB w1.heap.size 0 m m k (by omega) hlt
      have hfz := hb.frozen k
      have hck : wr.cell? ⟨w1.heap.size, k, none⟩ = some (.bool false) := by
        rw [hb.cell k]
        simp [List.getElem?_append_right, bitsB_length, List.getElem?_replicate]
        omega
      have hput := (hb.put k (.bool (st / 2 ^ k % 2 == 1)))
      rw [set_bits st m k hlt] at hput
      have HP := Lib.hid hput
      have hlo2 := lo.setCell (p := ⟨w1.heap.size, k, none⟩) (by simpa using hls) (.bool (st / 2 ^ k % 2 == 1))
      clear hput hb
      go_wp2
      exact ⟨⟨k + 1, by omega, by go_num, hlo2, HP.out⟩, by simp [intOf]; omega⟩
    · obtain rfl : k = m := by omega
      have hV := hb
      rw [Nat.sub_self, List.replicate_zero, List.append_nil] at hV
      have HV := Lib.hid hV
      clear hV hb
      go_wp2
      go_ret
      exact ⟨_, _, by rw [bitsB_length]; rfl, HV.out.vs, lo⟩

set_option maxHeartbeats 2000000 in
theorem value_any (A : Option Addr) (q : Nat) (bs : List Bool) (l : Int) (w : World) (B : Nat) (hV : Vs w B A (bv bs)) (h0 : 0 ≤ l) (h1 : (l / 2).toNat < bs.length) (hm : bs.length ≤ 1000000) :
    Calls Try.prog 33 #[.slice A bs.length q, .int .i64 l] w fun e w' => e = .returned (.bool (Em.bitB bs l)) ∧ w' = w := by
  obtain ⟨b, off, rfl, _, hc⟩ := hV.bool _ h1
  have hq : l / 2 = ((l / 2).toNat : Int) := by omega
  unfold Em.bitB
  generalize bs.getD (l / 2).toNat false = x at *
  generalize (l / 2).toNat = r at *
  have hix := ixB b off bs.length q r hm h1
  have hneg : Em.negL l = (l % 2 == 1) := by
    rw [← mod_two h0]
    by_cases h : l % 2 = 1
    · rw [decide_eq_true h, h]; rfl
    · rw [decide_eq_false h]; symm; simpa using h
  rw [hneg]
  go_enter Try.func33, Try.ntmps33
  go_wp2
  go_ret
  exact ⟨rfl, rfl⟩

namespace Cm
/-- The circuit may be, and its states are numbers. -/
def stepB (c : Cir) : Bool := rightC c && decide (c.n + c.ls.length ≤ 60)
theorem right_fits {c : Cir} (h : rightC c = true) : fitsB c = true := by
  simp only [Cm.rightC, Bool.and_eq_true] at h
  exact h.1.1.1
theorem step_facts {c : Cir} (h : stepB c = true) : rightC c = true ∧ c.n + c.ls.length ≤ 60 := by simpa [stepB] using h
def isS (c : Cir) (st l : Int) : Bool := stepB c && Em.evalB (c.n + c.ls.length) c.gs l (bitsB st (c.n + c.ls.length).toNat)
end Cm

set_option maxRecDepth 100000 in
set_option maxHeartbeats 4000000 in
theorem steps_any (c : Cir) (w : World) (hM : CirM w w.heap.size c) (hW : CirW c) (hcap : c.ns.length ≤ c.cN) : Calls Try.prog 29 #[.agg #[.int .i64 c.n, .slice c.aL c.ls.length c.cL, .slice c.aG c.gs.length c.cG, .slice c.aO c.os.length c.cO, .slice c.aB c.bs.length c.cB, .slice c.aC c.cs.length c.cC, .slice c.aF c.fs.length c.cF, .slice c.aN c.ns.length c.cN]] w fun e w' => e = .returned (.bool (Cm.stepB c)) ∧ Below w.heap.size w w' := by
  have hbx := boxed w c
  have lo := lowAlloc w (Obj.cells #[.int .i64 c.n, .slice c.aL c.ls.length c.cL, .slice c.aG c.gs.length c.cG, .slice c.aO c.os.length c.cO, .slice c.aB c.bs.length c.cB, .slice c.aC c.cs.length c.cC, .slice c.aF c.fs.length c.cF, .slice c.aN c.ns.length c.cN] 27)
  have HR := Lib.hid (fun V (hb : Below w.heap.size w V) => Right4_any c V ((hM.below hb (Nat.le_refl _)).more hb.size) hW hcap)
  have HF := Lib.hid (fun h => Cm.wrapW (Cm.right_fits (c := c) h))
  have HSB : Hid (Cm.stepB c = (Cm.rightC c && decide (c.n + c.ls.length ≤ 60))) := rfl
  generalize Cm.stepB c = z at *
  have c0 := hbx.cell 0; have c1 := hbx.cell 1; have c2 := hbx.cell 2; have c3 := hbx.cell 3; have c4 := hbx.cell 4; have c5 := hbx.cell 5; have c6 := hbx.cell 6; have c7 := hbx.cell 7; simp only [List.getElem?_toArray, List.getElem?_cons_zero, List.getElem?_cons_succ] at c0 c1 c2 c3 c4 c5 c6 c7
  go_enter Try.func29, Try.ntmps29
  go_wp2_with fail
  refine (width_any c _).mono ?_
  rintro e w1 ⟨rfl, hb1⟩
  replace hbx := hbx.below hb1 hbx.lt
  replace lo := lo.trans (hb1.mono lo.size)
  clear c0 c1 c2 c3 c4 c5 c6 c7
  have c0 := hbx.cell 0; have c1 := hbx.cell 1; have c2 := hbx.cell 2; have c3 := hbx.cell 3; have c4 := hbx.cell 4; have c5 := hbx.cell 5; have c6 := hbx.cell 6; have c7 := hbx.cell 7; simp only [List.getElem?_toArray, List.getElem?_cons_zero, List.getElem?_cons_succ] at c0 c1 c2 c3 c4 c5 c6 c7
  generalize wrap64 (c.n + c.ls.length) = x at *
  by_cases h60 : x ≤ 60
  · have d0 : decide (x ≤ 60) = true := decide_eq_true h60
    go_wp2_with fail
    refine (HR.out _ lo).mono ?_
    rintro e w2 ⟨rfl, hb2⟩
    replace lo := lo.trans (hb2.mono lo.size)
    have HZ : Hid (z = Cm.rightC c) := by
      unfold Hid
      rw [HSB.out]
      by_cases hr : Cm.rightC c = true
      · rw [hr, decide_eq_true (by rw [← HF.out hr]; exact h60)]
        rfl
      · rw [Bool.not_eq_true] at hr
        rw [hr]
        rfl
    clear HR HF HSB
    generalize Cm.rightC c = t at *
    go_wp2
    go_ret
    exact ⟨ret_bool HZ.out.symm, lo⟩
  · have d0 : decide (x ≤ 60) = false := decide_eq_false h60
    have HZ : Hid (z = false) := by
      unfold Hid
      rw [HSB.out]
      by_cases hr : Cm.rightC c = true
      · rw [decide_eq_false (by rw [← HF.out hr]; exact h60)]
        simp
      · rw [Bool.not_eq_true] at hr
        rw [hr]
        rfl
    clear HR HF HSB
    go_wp2
    go_ret
    exact ⟨ret_bool HZ.out.symm, lo⟩

/-- A graph in memory of the call's own, as a call answers it. -/
def OfPost (N : Int) (gs : List (Int × Int)) (w : World) (e : Ending) (w' : World) : Prop := ∃ A' c', e = .returned (.agg #[.int .i64 N, .slice A' gs.length c']) ∧ Gr w' w'.heap.size A' gs ∧ Below w.heap.size w w'
set_option maxRecDepth 100000 in
set_option maxHeartbeats 4000000 in
theorem Of_any (c : Cir) (w : World) (hM : CirM w w.heap.size c) (hW : CirW c) : Calls Try.prog 16 #[.agg #[.int .i64 c.n, .slice c.aL c.ls.length c.cL, .slice c.aG c.gs.length c.cG, .slice c.aO c.os.length c.cO, .slice c.aB c.bs.length c.cB, .slice c.aC c.cs.length c.cC, .slice c.aF c.fs.length c.cF, .slice c.aN c.ns.length c.cN]] w (OfPost (wrap64 (c.n + c.ls.length)) c.gs w) := by
  have hbx := (boxed w c).alloc (Obj.cells #[.int .i64 0, .slice none 0 0] 45)
  have hgx : Blk ((w.alloc (Obj.cells #[.int .i64 c.n, .slice c.aL c.ls.length c.cL, .slice c.aG c.gs.length c.cG, .slice c.aO c.os.length c.cO, .slice c.aB c.bs.length c.cB, .slice c.aC c.cs.length c.cC, .slice c.aF c.fs.length c.cF, .slice c.aN c.ns.length c.cN] 27)).alloc (Obj.cells #[.int .i64 0, .slice none 0 0] 45)) (w.heap.size + 1) 45 #[.int .i64 0, .slice none 0 0] := by
    have := Blk.new (w.alloc (Obj.cells #[.int .i64 c.n, .slice c.aL c.ls.length c.cL, .slice c.aG c.gs.length c.cG, .slice c.aO c.os.length c.cO, .slice c.aB c.bs.length c.cB, .slice c.aC c.cs.length c.cC, .slice c.aF c.fs.length c.cF, .slice c.aN c.ns.length c.cN] 27)) 45 #[.int .i64 0, .slice none 0 0]
    simpa using this
  have lo := (lowAlloc w (Obj.cells #[.int .i64 c.n, .slice c.aL c.ls.length c.cL, .slice c.aG c.gs.length c.cG, .slice c.aO c.os.length c.cO, .slice c.aB c.bs.length c.cB, .slice c.aC c.cs.length c.cC, .slice c.aF c.fs.length c.cF, .slice c.aN c.ns.length c.cN] 27)).alloc (by simp) (Obj.cells #[.int .i64 0, .slice none 0 0] 45)
  have HI := Lib.hid (fun V => inner_any c V)
  have HC := Lib.hid (fun V (hb : Below w.heap.size w V) => clone_any c.aG c.cG c.gs V w.heap.size hW.lg (hM.hg.below hb (Nat.le_refl _)) hb.size)
  generalize wrap64 (c.n + c.ls.length) = N at *
  go_enter Try.func16, Try.ntmps16
  go_upto_region 1 with fail
  generalize ((w.alloc (Obj.cells #[.int .i64 c.n, .slice c.aL c.ls.length c.cL, .slice c.aG c.gs.length c.cG, .slice c.aO c.os.length c.cO, .slice c.aB c.bs.length c.cB, .slice c.aC c.cs.length c.cC, .slice c.aF c.fs.length c.cF, .slice c.aN c.ns.length c.cN] 27)).alloc (Obj.cells #[.int .i64 0, .slice none 0 0] 45)) = W at *
  have c0 := hbx.cell 0; have c1 := hbx.cell 1; have c2 := hbx.cell 2; have c3 := hbx.cell 3; have c4 := hbx.cell 4; have c5 := hbx.cell 5; have c6 := hbx.cell 6; have c7 := hbx.cell 7; simp only [List.getElem?_toArray, List.getElem?_cons_zero, List.getElem?_cons_succ] at c0 c1 c2 c3 c4 c5 c6 c7
  go_wp2_with fail
  refine (HI.out _).mono ?_
  rintro e w1 ⟨rfl, hb1⟩
  have hlt0 := Nat.lt_of_lt_of_le hgx.lt hb1.size
  replace hgx := (hgx.below hb1 hgx.lt).alloc (Obj.cells #[.int .i64 N, .slice c.aG c.gs.length c.cG] 45)
  have hg3 := Blk.new w1 45 #[.int .i64 N, .slice c.aG c.gs.length c.cG]
  replace lo := (lo.trans (hb1.mono lo.size)).alloc (Nat.le_trans lo.size hb1.size) (Obj.cells #[.int .i64 N, .slice c.aG c.gs.length c.cG] 45)
  clear c0 c1 c2 c3 c4 c5 c6 c7
  have hlt1 := hgx.lt
  have hsz := hb1.size
  clear hbx hb1
  go_upto_region 2 with fail
  generalize w1.alloc (Obj.cells #[.int .i64 N, .slice c.aG c.gs.length c.cG] 45) = V at *
  have q1 := hg3.cell 1
  simp only [List.getElem?_toArray, List.getElem?_cons_zero, List.getElem?_cons_succ] at q1
  go_wp2_with fail
  refine (HC.out _ lo).mono ?_
  rintro e w2 ⟨A', c', rfl, hG, hsep, hb2⟩
  clear q1
  have hg3' := hg3.below hb2 hg3.lt
  have hgx' := hgx.below hb2 hgx.lt
  have p0 := hg3'.cell 0
  have p1 := hg3'.cell 1
  have pf := hg3'.frozen 1
  simp only [List.getElem?_toArray, List.getElem?_cons_zero, List.getElem?_cons_succ] at p0 p1
  have hne3 : ∀ ad, A' = some ad → ad.block ≠ w1.heap.size := hsep.ne (Nat.zero_le _) hg3.lt
  have hne1 : ∀ ad, A' = some ad → ad.block ≠ w.heap.size + 1 := hsep.ne (Nat.zero_le _) hgx.lt
  have lo2 := lo.trans (hb2.mono lo.size)
  have hgA := hg3'.put 1 (.slice A' c.gs.length c')
  have hgB := hgx'.far (p := ⟨w1.heap.size, 1, none⟩) (by simp; omega) (.slice A' c.gs.length c')
  have hGA := hG.set (p := ⟨w1.heap.size, 1, none⟩) hne3 (.slice A' c.gs.length c')
  have loA := lo2.setCell (p := ⟨w1.heap.size, 1, none⟩) (by simp; omega) (.slice A' c.gs.length c')
  have hszA : (w2.setCell ⟨w1.heap.size, 1, none⟩ (.slice A' c.gs.length c')).heap.size = w2.heap.size := by simp
  go_upto_region 3 with fail
  generalize w2.setCell ⟨w1.heap.size, 1, none⟩ (.slice A' c.gs.length c') = X at *
  clear p0 p1 pf hg3' hgx' hG hb2
  have p0 := hgA.cell 0
  have p1 := hgA.cell 1
  have x0 := hgB.cell 0
  have x1 := hgB.cell 1
  have y0 := hgB.frozen 0
  have y1 := hgB.frozen 1
  simp only [List.getElem?_toArray, List.getElem?_cons_zero, List.getElem?_cons_succ, List.setIfInBounds_toArray, List.set_cons_succ, List.set_cons_zero] at p0 p1 x0 x1
  go_wp2
  have hbf : Below w.heap.size w ((X.setCell ⟨w.heap.size + 1, 0, none⟩ (.int .i64 N)).setCell ⟨w.heap.size + 1, 1, none⟩ (.slice A' c.gs.length c')) :=
    (loA.setCell (by simp) _).setCell (by simp) _
  have r0 : ((X.setCell ⟨w.heap.size + 1, 0, none⟩ (.int .i64 N)).setCell ⟨w.heap.size + 1, 1, none⟩ (.slice A' c.gs.length c')).cell? ⟨w.heap.size + 1, 0, none⟩ = some (.int .i64 N) :=
    (World.cell?_setCell_other _ _ _ _ (by simp)).trans (World.cell?_setCell_same _ _ _ x0)
  have r1 : ((X.setCell ⟨w.heap.size + 1, 0, none⟩ (.int .i64 N)).setCell ⟨w.heap.size + 1, 1, none⟩ (.slice A' c.gs.length c')).cell? ⟨w.heap.size + 1, 1, none⟩ = some (.slice A' c.gs.length c') :=
    World.cell?_setCell_same _ _ _ ((World.cell?_setCell_other _ _ _ _ (by simp)).trans x1)
  have hGf := (hGA.set (p := ⟨w.heap.size + 1, 0, none⟩) hne1 (.int .i64 N)).set (p := ⟨w.heap.size + 1, 1, none⟩) hne1 (.slice A' c.gs.length c')
  exact bodyPost_ret (v := .agg #[.int .i64 N, .slice A' c.gs.length c']) (by simp [results, Try.results16, go_sem, r0, r1]) rfl ⟨A', c', rfl, by simpa [hszA] using hGf, hbf⟩
end Go.Proofs.Yteabffdddlihnaa
