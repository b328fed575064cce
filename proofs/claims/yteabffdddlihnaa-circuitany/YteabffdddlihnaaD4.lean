/- driven; ordered. -/
import Derived.Test.YteabffdddlihnaaD3
namespace Go.Proofs.Yteabffdddlihnaa
open Go.RowKit

namespace Cm
def latB (N : Int) (l : Nat) (q : Int × Int) : Bool := Gm.litB N l q.1 && decide (0 ≤ q.2) && decide (q.2 ≤ 2)
def drivenB (c : Cir) : Bool := c.ls.all (latB (c.n + c.ls.length) c.gs.length) && (List.range 6).all fun i => (lstS c (kindAt i)).all (Gm.litB (c.n + c.ls.length) c.gs.length)
theorem fits_facts {c : Cir} (h : fitsB c = true) : 0 ≤ c.n ∧ c.n ≤ 2000 ∧ c.ls.length ≤ 2000 ∧ c.os.length ≤ 2000 ∧ c.bs.length ≤ 2000 ∧ c.cs.length ≤ 2000 ∧ c.fs.length ≤ 2000 := by
  simp [fitsB] at h
  omega
theorem lst_len {c : Cir} (h : fitsB c = true) (k : Int) : (lstS c k).length ≤ 2000 := by
  have := fits_facts h
  unfold lstS
  split
  · omega
  · split
    · omega
    · split
      · omega
      · split
        · omega
        · simp
theorem wrapW {c : Cir} (h : fitsB c = true) : wrap64 (c.n + c.ls.length) = c.n + c.ls.length := by
  have := fits_facts h
  unfold wrap64
  omega
theorem not_any {α : Type} (p : α → Bool) (xs : List α) : xs.any (fun x => !p x) = !xs.all p := by
  induction xs with
  | nil => rfl
  | cons x t ih => simp [ih, Bool.not_and]
end Cm
theorem CirM.lst {w : World} {B : Nat} {c : Cir} (h : CirM w B c) (k : Int) : ∃ A q, lstV c k = .slice A (Cm.lstS c k).length q ∧ Vs w B A (iv (Cm.lstS c k)) := by
  unfold lstV Cm.lstS
  split
  · exact ⟨_, _, rfl, h.ho⟩
  · split
    · exact ⟨_, _, rfl, h.hb⟩
    · split
      · exact ⟨_, _, rfl, h.hc⟩
      · split
        · exact ⟨_, _, rfl, h.hf⟩
        · exact ⟨none, 0, rfl, vs_nil⟩
/-- What driven's loops keep: the circuit's box, the graph's box. -/
structure DL (w wr : World) (c : Cir) (gb : Nat) : Prop where
  low : Below w.heap.size w wr
  box : Blk wr w.heap.size 27 #[.int .i64 c.n, .slice c.aL c.ls.length c.cL, .slice c.aG c.gs.length c.cG, .slice c.aO c.os.length c.cO, .slice c.aB c.bs.length c.cB, .slice c.aC c.cs.length c.cC, .slice c.aF c.fs.length c.cF, .slice c.aN c.ns.length c.cN]
  gx : Blk wr gb 45 #[.int .i64 (c.n + c.ls.length), .slice c.aG c.gs.length c.cG]
  lb : w.heap.size < gb
theorem DL.below {w wr w2 : World} {c : Cir} {gb : Nat} (h : DL w wr c gb) (hb : Below wr.heap.size wr w2) : DL w w2 c gb :=
  ⟨h.low.trans (hb.mono h.low.size), h.box.below hb h.box.lt, h.gx.below hb h.gx.lt, h.lb⟩

set_option maxRecDepth 100000 in
set_option maxHeartbeats 8000000 in
theorem driven_any (c : Cir) (w : World) (hM : CirM w w.heap.size c) (hW : CirW c) (hf : Cm.fitsB c = true) : Calls Try.prog 37 #[.agg #[.int .i64 c.n, .slice c.aL c.ls.length c.cL, .slice c.aG c.gs.length c.cG, .slice c.aO c.os.length c.cO, .slice c.aB c.bs.length c.cB, .slice c.aC c.cs.length c.cC, .slice c.aF c.fs.length c.cF, .slice c.aN c.ns.length c.cN]] w fun e w' => e = .returned (.bool (Cm.drivenB c)) ∧ Below w.heap.size w w' := by
  have hbx := boxed w c
  have c0 := hbx.cell 0
  have c1 := hbx.cell 1
  have c2 := hbx.cell 2
  have c3 := hbx.cell 3
  have c4 := hbx.cell 4
  have c5 := hbx.cell 5
  have c6 := hbx.cell 6
  have c7 := hbx.cell 7
  simp only [List.getElem?_toArray, List.getElem?_cons_zero, List.getElem?_cons_succ] at c0 c1 c2 c3 c4 c5 c6 c7
  have hff := Cm.fits_facts hf
  have HF := Lib.hid hf
  have HI := Lib.hid (inner_any c (w.alloc (Obj.cells #[.int .i64 c.n, .slice c.aL c.ls.length c.cL, .slice c.aG c.gs.length c.cG, .slice c.aO c.os.length c.cO, .slice c.aB c.bs.length c.cB, .slice c.aC c.cs.length c.cC, .slice c.aF c.fs.length c.cF, .slice c.aN c.ns.length c.cN] 27)))
  rw [Cm.wrapW hf] at HI
  have hmf : ∀ (fn : Fn) (first cap : Array Value) (w : World), (Instr.makeFunc fn first cap).run Try.prog w = .ok (.func fn first cap) w := fun _ _ _ _ => rfl
  have hnot : ∀ (x : Bool) (w : World), (Op.unary .not (.bool x)).run Try.prog w = .ok (.bool (!x)) w := fun _ _ => rfl
  obtain ⟨z, hz⟩ : ∃ z, z = Cm.drivenB c := ⟨_, rfl⟩
  rw [← hz]
  have HZ := Lib.hid hz
  clear hz hf
  have hlg := hW.lg
  go_enter Try.func37, Try.ntmps37
  go_wp2_with fail
  refine HI.out.mono ?_
  rintro e w1 ⟨rfl, hb1⟩
  have hs1 := hb1.size
  simp at hs1
  have hst : DL w (w1.alloc (Obj.cells #[.int .i64 (c.n + c.ls.length), .slice c.aG c.gs.length c.cG] 45)) c w1.heap.size :=
    ⟨((lowAlloc w _).trans (hb1.mono (by simp))).alloc (by omega) _, (hbx.below hb1 (by simp)).alloc _, Blk.new w1 _ _, by omega⟩
  clear c0 c1 c2 c3 c4 c5 c6 c7 hbx HI hb1
  go_upto_region 2 with fail
  generalize w1.alloc (Obj.cells #[.int .i64 (c.n + c.ls.length), .slice c.aG c.gs.length c.cG] 45) = V at *
  have c1 := hst.box.cell 1
  simp only [List.getElem?_toArray, List.getElem?_cons_zero, List.getElem?_cons_succ] at c1
  have HST := Lib.hid hst
  clear hst
  go_wp2
  clear c1
  go_loopw [14] (fun i wr => ∃ k : Nat, k ≤ c.ls.length ∧ i = .int .i64 k ∧ (c.ls.take k).all (Cm.latB (c.n + c.ls.length) c.gs.length) = true ∧ DL w wr c w1.heap.size) (fun i _ => c.ls.length - (intOf i).toNat)
  case atStart => exact ⟨0, Nat.zero_le _, rfl, rfl, HST.out⟩
  case round =>
    obtain ⟨k, hk, rfl, hall, hi⟩ := hrel
    by_cases hlt : k < c.ls.length
    · obtain ⟨b, off, hA, hbw, g1, g2⟩ := (hM.hl.below hi.low (Nat.le_refl _)) k hlt
      have e1 : (c.ls.take (k + 1)).all (Cm.latB (c.n + c.ls.length) c.gs.length) = Cm.latB (c.n + c.ls.length) c.gs.length c.ls[k] := by rw [List.take_succ_eq_append_getElem hlt, List.all_append, hall]; simp
      have e2 : Cm.latB (c.n + c.ls.length) c.gs.length c.ls[k] = false → Cm.drivenB c = false := fun h => by
        have : c.ls.all (Cm.latB (c.n + c.ls.length) c.gs.length) = false := List.all_eq_false.2 ⟨c.ls[k], by simp, by simp [h]⟩
        simp only [Cm.drivenB, this, Bool.false_and]
      have E1 := Lib.hid e1
      have E2 := Lib.hid e2
      have d0 := hi.gx.cell 0
      have d1 := hi.gx.cell 1
      simp only [List.getElem?_toArray, List.getElem?_cons_zero, List.getElem?_cons_succ] at d0 d1
      have hgl := hi.gx.lt
      have HALL := Lib.hid hall
      clear e1 e2 hall
      generalize c.ls[k] = g at *
      obtain ⟨x, y⟩ := g
      simp only at g1 g2
      have hlo := hi.low
      rw [hA]
      have hi2 := hi.below (lowAlloc wr (Obj.cells #[.int .i64 x, .int .i64 y] 41))
      have HL := Lib.hid (lit_any (c.n + c.ls.length) c.aG c.gs.length c.cG x (wr.alloc (Obj.cells #[.int .i64 x, .int .i64 y] 41)) hlg)
      have hlat : Cm.latB (c.n + c.ls.length) c.gs.length (x, y) = (Gm.litB (c.n + c.ls.length) c.gs.length x && decide (0 ≤ y) && decide (y ≤ 2)) := rfl
      rw [hlat] at E1 E2
      clear hlat
      go_wp2_with fail
      refine HL.out.mono ?_
      rintro e w2 ⟨rfl, hb2⟩
      have hi3 := hi2.below hb2
      have q0 := (hb2.cell (p := ⟨wr.heap.size, 0, none⟩) (by simp)).trans (show (wr.alloc (Obj.cells #[.int .i64 x, .int .i64 y] 41)).cell? ⟨wr.heap.size, 0, none⟩ = some (.int .i64 x) by simp)
      have q1 := (hb2.cell (p := ⟨wr.heap.size, 1, none⟩) (by simp)).trans (show (wr.alloc (Obj.cells #[.int .i64 x, .int .i64 y] 41)).cell? ⟨wr.heap.size, 1, none⟩ = some (.int .i64 y) by simp)
      generalize Gm.litB (c.n + c.ls.length) c.gs.length x = t at *
      clear hi hi2 hb2 g1 g2 d0 d1
      cases t with
      | false =>
        have HN := Lib.hid (E2.out (by simp))
        go_wp2
        go_ret
        exact ⟨ret_bool (HZ.out.trans HN.out).symm, hi3.low⟩
      | true =>
        by_cases hy0 : y < 0
        · have HN := Lib.hid (E2.out (by simp; omega))
          go_wp2
          go_ret
          exact ⟨ret_bool (HZ.out.trans HN.out).symm, hi3.low⟩
        · by_cases hy2 : 2 < y
          · have HN := Lib.hid (E2.out (by simp; omega))
            go_wp2
            go_ret
            exact ⟨ret_bool (HZ.out.trans HN.out).symm, hi3.low⟩
          · have HT := Lib.hid (E1.out.trans (show (true && decide (0 ≤ y) && decide (y ≤ 2)) = true by simp; omega))
            go_wp2
            go_roundw
            case rel => exact ⟨k + 1, by omega, by go_num, HT.out, hi3⟩
            case measure => simp [intOf]; omega
    · obtain rfl : k = c.ls.length := by omega
      rw [List.take_length] at hall
      have HALL := Lib.hid hall
      clear hall
      have hst : DL w (wr.iter Cm.kinds 0) c w1.heap.size := hi.below (lowAlloc wr _)
      have hit0 : Hp (wr.iter Cm.kinds 0) wr.heap.size (.stringIter Cm.kinds 0) := Hp.new wr _
      have HST := Lib.hid hst
      have HIT := Lib.hid hit0
      have hwr := hi.gx.lt
      have hws := hi.low.size
      have hlb := hi.lb
      clear hst hit0 hi
      go_wp2
      go_loopw [8] (fun _ V => ∃ k : Nat, k ≤ 6 ∧ (List.range k).all (fun i => (Cm.lstS c (Cm.kindAt i)).all (Gm.litB (c.n + c.ls.length) c.gs.length)) = true ∧ DL w V c w1.heap.size ∧ Hp V wr.heap.size (.stringIter Cm.kinds k)) (fun _ V => 6 - iterPos V wr.heap.size)
      case atStart => exact ⟨0, by omega, rfl, HST.out, HIT.out⟩
      case round =>
        obtain ⟨k, hk, hal, hi, hit⟩ := hrel
        have hip := hit.pos
        by_cases hlt : k < 6
        · obtain ⟨wn, hnx, hitn, hgr⟩ := next_kind _ _ k hit hlt
          have hls := hi.low.size
          have lo := below_grown hi.low hgr (by omega) hi.low.size
          have hbx := hi.box.grown hgr (fun e => by injection e with e; omega)
          have hgx := hi.gx.grown hgr (fun e => by injection e with e; omega)
          have c0 := hbx.cell 0
          have c1 := hbx.cell 1
          have c2 := hbx.cell 2
          have c3 := hbx.cell 3
          have c4 := hbx.cell 4
          have c5 := hbx.cell 5
          have c6 := hbx.cell 6
          have c7 := hbx.cell 7
          simp only [List.getElem?_toArray, List.getElem?_cons_zero, List.getElem?_cons_succ] at c0 c1 c2 c3 c4 c5 c6 c7
          have HIP := Lib.hid hip
          have e1 : (List.range (k + 1)).all (fun i => (Cm.lstS c (Cm.kindAt i)).all (Gm.litB (c.n + c.ls.length) c.gs.length)) = (Cm.lstS c (Cm.kindAt k)).all (Gm.litB (c.n + c.ls.length) c.gs.length) := by rw [List.range_succ, List.all_append, hal]; simp
          have e2 : (Cm.lstS c (Cm.kindAt k)).all (Gm.litB (c.n + c.ls.length) c.gs.length) = false → Cm.drivenB c = false := fun h => by
            have : (List.range 6).all (fun i => (Cm.lstS c (Cm.kindAt i)).all (Gm.litB (c.n + c.ls.length) c.gs.length)) = false := List.all_eq_false.2 ⟨k, by simpa using hlt, by simp [h]⟩
            simp only [Cm.drivenB, this, Bool.and_false]
          have E1 := Lib.hid e1
          have E2 := Lib.hid e2
          clear hip e1 e2 hal
          go_wp2_with fail
          refine (listed_any c (Cm.kindAt k) wn).mono ?_
          rintro e w2 ⟨rfl, hb2⟩
          obtain ⟨A, q, hl, hV⟩ := hM.lst (Cm.kindAt k)
          rw [hl]
          have lo2 := lo.trans (hb2.mono lo.size)
          have hgx2 := hgx.below hb2 hgx.lt
          have hit2 := hitn.below hb2 hitn.lt
          have hbx2 := hbx.below hb2 hbx.lt
          have d0 := hgx2.cell 0
          have d1 := hgx2.cell 1
          simp only [List.getElem?_toArray, List.getElem?_cons_zero, List.getElem?_cons_succ] at d0 d1
          have HC := Lib.hid (containsInts_any w1.heap.size (c.n + c.ls.length) c.aG c.gs.length c.cG A q (Cm.lstS c (Cm.kindAt k)) w2 hlg (Nat.le_trans (Cm.lst_len HF.out _) (by omega)) ((hV.below lo2 (Nat.le_refl _)).more lo2.size) hgx2.lt d0 d1)
          rw [Cm.not_any] at HC
          clear hl c0 c1 c2 c3 c4 c5 c6 c7 hnx hV
          generalize (Cm.lstS c (Cm.kindAt k)).all (Gm.litB (c.n + c.ls.length) c.gs.length) = t at *
          generalize (Cm.lstS c (Cm.kindAt k)).length = len at *
          go_wp2_with fail
          refine HC.out.mono ?_
          rintro e w3 ⟨rfl, hb3⟩
          have hfin : DL w w3 c w1.heap.size := ⟨lo2.trans (hb3.mono lo2.size), hbx2.below hb3 hbx2.lt, hgx2.below hb3 hgx2.lt, hi.lb⟩
          have hit3 := hit2.below hb3 hit2.lt
          clear hb3 hb2 d0 d1 lo lo2 hbx hgx hgx2 hbx2 hit2 hitn hit hi hgr
          cases t with
          | false =>
            have HN := Lib.hid (E2.out rfl)
            go_wp2
            go_ret
            exact ⟨ret_bool (HZ.out.trans HN.out).symm, hfin.low⟩
          | true =>
            go_wp2
            go_roundw
            case rel => exact ⟨k + 1, by omega, E1.out, hfin, hit3⟩
            case measure => rw [HIP.out, hit3.pos]; omega
        · obtain rfl : k = 6 := by omega
          have hnx := next_kend _ _ hit
          have HA : Hid (Cm.drivenB c = true) := by
            unfold Hid Cm.drivenB
            rw [HALL.out, hal]
            rfl
          have lo := hi.low
          clear hal hi hip hit
          go_wp2
          go_ret
          exact ⟨ret_bool (HZ.out.trans HA.out).symm, lo⟩
end Go.Proofs.Yteabffdddlihnaa
