/- literal, signal, Signal, number, Find. -/
import Derived.Test.YtdbmepndebdbpaaGreatQaj
namespace Go.Proofs.YtdbmepndebdbpaaGreat
open Go.RowKit

namespace Cm
/-- The literal of a signal of a circuit that may be; else -1. -/
def sigS (c : Cir) (k at_ : Int) : Int := if at_ < 0 ∨ numS c k ≤ at_ then -1 else if k = 105 then 2 * (at_ + 1) else if k = 108 then 2 * (c.n + at_ + 1) else (lstS c k).getD at_.toNat 0
def signalS (c : Cir) (k at_ : Int) : Int := if rightC c = true then sigS c k at_ else -1
def isDig (b : UInt8) : Bool := decide (48 ≤ b.toNat) && decide (b.toNat ≤ 57)
def valS (l : List UInt8) : Nat := l.foldl (fun n b => 10 * n + (b.toNat - 48)) 0
theorem valS_snoc (l : List UInt8) (b : UInt8) : valS (l ++ [b]) = 10 * valS l + (b.toNat - 48) := by simp [valS]
theorem val_acc (l : List UInt8) (h : l.all isDig = true) (a : Nat) : l.foldl (fun n b => 10 * n + (b.toNat - 48)) a < (a + 1) * 10 ^ l.length := by
  induction l generalizing a with
  | nil => simp
  | cons b t ih =>
    simp only [List.all_cons, Bool.and_eq_true] at h
    have hb := h.1
    simp [isDig] at hb
    have := ih h.2 (10 * a + (b.toNat - 48))
    rw [List.foldl_cons, List.length_cons, Nat.pow_succ, Nat.mul_comm _ 10, ← Nat.mul_assoc]
    refine Nat.lt_of_lt_of_le this (Nat.mul_le_mul_right _ ?_)
    omega
theorem valS_le (l : List UInt8) (h : l.all isDig = true) : valS l < 10 ^ l.length := by
  have := val_acc l h 0
  simpa [valS] using this
/-- A number of one to six digits without noughts ahead; else none. -/
def digS (t : ByteArray) : Option Nat := if 1 ≤ t.size ∧ t.size ≤ 6 ∧ ¬ (1 < t.size ∧ (t.data.toList.headD 0).toNat = 48) ∧ t.data.toList.all isDig = true then some (valS t.data.toList) else none
end Cm

set_option maxHeartbeats 400000 in
theorem literal4_any (a : Int) (w : World) (h0 : 0 ≤ a) (h1 : a ≤ 1000000) :
    Calls Tryz.prog 58 #[.int .i64 a] w fun e w' => e = .returned (.int .i64 (2 * (a + 1))) ∧ w = w' := by
  go_enter Tryz.func58, Tryz.ntmps58
  go_wp2
  go_ret
  exact ⟨rfl, rfl⟩

set_option maxRecDepth 100000 in
set_option maxHeartbeats 4000000 in
theorem signal_any (c : Cir) (k at_ : Int) (w : World) (hM : CirM w w.heap.size c) (hf : Cm.fitsB c = true) : Calls Tryz.prog 34 #[.agg #[.int .i64 c.n, .slice c.aL c.ls.length c.cL, .slice c.aG c.gs.length c.cG, .slice c.aO c.os.length c.cO, .slice c.aB c.bs.length c.cB, .slice c.aC c.cs.length c.cC, .slice c.aF c.fs.length c.cF, .slice c.aN c.ns.length c.cN], .int .i32 k, .int .i64 at_] w fun e w' => e = .returned (.int .i64 (Cm.sigS c k at_)) ∧ Below w.heap.size w w' := by
  have hbx := boxed w c
  have lo := lowAlloc w (Obj.cells #[.int .i64 c.n, .slice c.aL c.ls.length c.cL, .slice c.aG c.gs.length c.cG, .slice c.aO c.os.length c.cO, .slice c.aB c.bs.length c.cB, .slice c.aC c.cs.length c.cC, .slice c.aF c.fs.length c.cF, .slice c.aN c.ns.length c.cN] 28)
  have hff := Cm.fits_facts hf
  have hle := Cm.lst_len hf k
  by_cases h0 : at_ < 0
  · have HS : Hid (Cm.sigS c k at_ = -1) := by unfold Hid Cm.sigS; rw [if_pos (Or.inl h0)]
    generalize Cm.sigS c k at_ = z at *
    go_enter Tryz.func34, Tryz.ntmps34
    go_wp2
    go_ret
    exact ⟨by rw [HS.out]; rfl, lo⟩
  · have hS : Cm.sigS c k at_ = if Cm.numS c k ≤ at_ then -1 else if k = 105 then 2 * (at_ + 1) else if k = 108 then 2 * (c.n + at_ + 1) else (Cm.lstS c k).getD at_.toNat 0 := by
      unfold Cm.sigS
      simp [h0]
    have HS := Lib.hid hS
    clear hS
    generalize Cm.sigS c k at_ = z at *
    have c0 := hbx.cell 0; have c1 := hbx.cell 1; have c2 := hbx.cell 2; have c3 := hbx.cell 3; have c4 := hbx.cell 4; have c5 := hbx.cell 5; have c6 := hbx.cell 6; have c7 := hbx.cell 7; simp only [List.getElem?_toArray, List.getElem?_cons_zero, List.getElem?_cons_succ] at c0 c1 c2 c3 c4 c5 c6 c7
    go_enter Tryz.func34, Tryz.ntmps34
    go_wp2_with fail
    refine (counts_any c _).mono ?_
    rintro e w1 ⟨b, rfl, hb, hmp, hb1⟩
    have hlk := look_rune w1 b c k hmp
    replace hbx := hbx.below hb1 hbx.lt
    replace lo := lo.trans (hb1.mono lo.size)
    clear c0 c1 c2 c3 c4 c5 c6 c7
    have c0 := hbx.cell 0; have c1 := hbx.cell 1; have c2 := hbx.cell 2; have c3 := hbx.cell 3; have c4 := hbx.cell 4; have c5 := hbx.cell 5; have c6 := hbx.cell 6; have c7 := hbx.cell 7; simp only [List.getElem?_toArray, List.getElem?_cons_zero, List.getElem?_cons_succ] at c0 c1 c2 c3 c4 c5 c6 c7
    clear hmp hb
    by_cases h1 : Cm.numS c k ≤ at_
    · have HZ : Hid (z = -1) := by rw [if_pos h1] at HS; exact HS
      generalize Cm.numS c k = m at *
      go_wp2
      go_ret
      exact ⟨by rw [HZ.out]; rfl, lo⟩
    · rw [if_neg h1] at HS
      by_cases hk1 : k = 105
      · subst hk1
        rw [if_pos rfl] at HS
        have hm : Cm.numS c 105 = c.n := rfl
        rw [hm] at h1 hlk
        clear hm
        go_wp2_with fail
        refine (literal4_any at_ w1 (by omega) (by omega)).mono ?_
        rintro e w2 ⟨rfl, rfl⟩
        go_wp2
        go_ret
        exact ⟨by rw [HS.out]; rfl, lo⟩
      · rw [if_neg hk1] at HS
        by_cases hk2 : k = 108
        · subst hk2
          rw [if_pos rfl] at HS
          have hm : Cm.numS c 108 = c.ls.length := rfl
          rw [hm] at h1 hlk
          clear hm
          go_wp2_with fail
          refine (literal4_any (c.n + at_) w1 (by omega) (by omega)).mono ?_
          rintro e w2 ⟨rfl, rfl⟩
          go_wp2
          go_ret
          exact ⟨by rw [HS.out]; rfl, lo⟩
        · rw [if_neg hk2] at HS
          have hm : Cm.numS c k = (Cm.lstS c k).length := by unfold Cm.numS; rw [if_neg hk1, if_neg hk2]
          rw [hm] at h1 hlk
          have d1 : (k == 105) = false := by simpa using hk1
          have d2 : (k == 108) = false := by simpa using hk2
          obtain ⟨A, q, hl, hV⟩ := hM.lst k
          clear hm hk1 hk2
          obtain ⟨r, rfl⟩ := Int.eq_ofNat_of_zero_le (show 0 ≤ at_ by omega)
          have hr : r < (Cm.lstS c k).length := by omega
          obtain ⟨b0, off, hA, hbw, hcell⟩ := hV.int r hr
          subst hA
          rw [Int.toNat_natCast] at HS
          generalize (Cm.lstS c k).getD r 0 = x at *
          have hix := ixI b0 off (Cm.lstS c k).length q r (by omega) hr
          go_wp2_with fail
          refine (listed_any c k w1).mono ?_
          rintro e w2 ⟨rfl, hb2⟩
          rw [hl]
          have hc2 := (hb2.cell (p := ⟨b0, off + r, none⟩) (Nat.lt_of_lt_of_le hbw lo.size)).trans ((lo.cell (p := ⟨b0, off + r, none⟩) hbw).trans hcell)
          replace lo := lo.trans (hb2.mono lo.size)
          generalize (Cm.lstS c k).length = len at *
          clear hl hV hb2 hcell hlk
          go_wp2
          go_ret
          exact ⟨by rw [HS.out]; rfl, lo⟩

set_option maxRecDepth 100000 in
set_option maxHeartbeats 4000000 in
theorem Signal_any (c : Cir) (k at_ : Int) (w : World) (hM : CirM w w.heap.size c) (hW : CirW c) (hcap : c.ns.length ≤ c.cN) (hk0 : 0 ≤ k) (hk1 : k ≤ 255) : Calls Tryz.prog 15 #[.agg #[.int .i64 c.n, .slice c.aL c.ls.length c.cL, .slice c.aG c.gs.length c.cG, .slice c.aO c.os.length c.cO, .slice c.aB c.bs.length c.cB, .slice c.aC c.cs.length c.cC, .slice c.aF c.fs.length c.cF, .slice c.aN c.ns.length c.cN], .int .u8 k, .int .i64 at_] w fun e w' => e = .returned (.int .i64 (Cm.signalS c k at_)) ∧ Below w.heap.size w w' := by
  have hbx := boxed w c
  have lo := lowAlloc w (Obj.cells #[.int .i64 c.n, .slice c.aL c.ls.length c.cL, .slice c.aG c.gs.length c.cG, .slice c.aO c.os.length c.cO, .slice c.aB c.bs.length c.cB, .slice c.aC c.cs.length c.cC, .slice c.aF c.fs.length c.cF, .slice c.aN c.ns.length c.cN] 28)
  have hnot : ∀ (x : Bool) (w : World), (Op.unary .not (.bool x)).run Tryz.prog w = .ok (.bool (!x)) w := fun _ _ => rfl
  have HR := Lib.hid (Right4_any c _ ((hM.below lo (Nat.le_refl _)).more lo.size) hW hcap)
  have hft : Cm.rightC c = true → Cm.fitsB c = true := fun h => by
    simp only [Cm.rightC, Bool.and_eq_true] at h
    exact h.1.1.1
  have HSG := Lib.hid (fun V (hb : Below w.heap.size w V) h => signal_any c k at_ V ((hM.below hb (Nat.le_refl _)).more hb.size) (hft h))
  unfold Cm.signalS
  clear hft
  generalize Cm.rightC c = t at *
  have c0 := hbx.cell 0; have c1 := hbx.cell 1; have c2 := hbx.cell 2; have c3 := hbx.cell 3; have c4 := hbx.cell 4; have c5 := hbx.cell 5; have c6 := hbx.cell 6; have c7 := hbx.cell 7; simp only [List.getElem?_toArray, List.getElem?_cons_zero, List.getElem?_cons_succ] at c0 c1 c2 c3 c4 c5 c6 c7
  go_enter Tryz.func15, Tryz.ntmps15
  go_wp2_with fail
  refine HR.out.mono ?_
  rintro e w1 ⟨rfl, hb1⟩
  replace hbx := hbx.below hb1 hbx.lt
  replace lo := lo.trans (hb1.mono lo.size)
  clear c0 c1 c2 c3 c4 c5 c6 c7
  have c0 := hbx.cell 0; have c1 := hbx.cell 1; have c2 := hbx.cell 2; have c3 := hbx.cell 3; have c4 := hbx.cell 4; have c5 := hbx.cell 5; have c6 := hbx.cell 6; have c7 := hbx.cell 7; simp only [List.getElem?_toArray, List.getElem?_cons_zero, List.getElem?_cons_succ] at c0 c1 c2 c3 c4 c5 c6 c7
  cases t with
  | false =>
    go_wp2
    go_ret
    exact ⟨rfl, lo⟩
  | true =>
    go_wp2_with fail
    refine (HSG.out _ lo trivial).mono ?_
    rintro e w2 ⟨rfl, hb2⟩
    go_wp2
    go_ret
    exact ⟨rfl, lo.trans (hb2.mono lo.size)⟩

theorem index_str (t : ByteArray) (i : Nat) (h : i < t.size) (w : World) : (Instr.index 9 (.string t) (.int .i64 (i : Int))).run Tryz.prog w = .ok (.int .u8 ((t[i]'h).toNat : Int)) w := by
  have e : t[i]? = some (t[i]'h) := by simp [h]
  simp [Instr.index, run_underlying Tryz.underlying9, Result.andThen, Sem.run_bind, asIntOf, e]
/-- What number answers. -/
def numV (t : ByteArray) : Value := match Cm.digS t with | some n => .tuple #[.int .i64 (n : Int), .bool true] | none => .tuple #[.int .i64 0, .bool false]
theorem head_byte (t : ByteArray) (h : 0 < t.size) : t.data.toList.headD 0 = t[0]'h := by
  obtain ⟨⟨l⟩⟩ := t
  cases l with
  | nil => simp [ByteArray.size] at h
  | cons x r => rfl

set_option maxRecDepth 100000 in
set_option maxHeartbeats 4000000 in
theorem number_any (t : ByteArray) (w : World) (hs : t.size ≤ maxLen) : Calls Tryz.prog 36 #[.string t] w fun e w' => e = .returned (numV t) ∧ Below w.heap.size w w' := by
  unfold maxLen at hs
  have lo := Below.refl w.heap.size w
  have HN : Hid (¬ (1 ≤ t.size ∧ t.size ≤ 6 ∧ ¬ (1 < t.size ∧ (t.data.toList.headD 0).toNat = 48) ∧ t.data.toList.all Cm.isDig = true) → numV t = .tuple #[.int .i64 0, .bool false]) := fun h => by
    unfold numV Cm.digS
    rw [if_neg h]
  have HY : Hid ((1 ≤ t.size ∧ t.size ≤ 6 ∧ ¬ (1 < t.size ∧ (t.data.toList.headD 0).toNat = 48) ∧ t.data.toList.all Cm.isDig = true) → numV t = .tuple #[.int .i64 (Cm.valS t.data.toList : Int), .bool true]) := fun h => by
    unfold numV Cm.digS
    rw [if_pos h]
  generalize numV t = z at *
  by_cases h0 : t.size = 0
  · have HZ := Lib.hid (HN.out (by omega))
    go_enter Tryz.func36, Tryz.ntmps36
    go_wp2
    go_ret2
    exact ⟨by rw [HZ.out]; rfl, lo⟩
  · have d0 : ((t.size : Int) == 0) = false := by rw [beq_eq_false_iff_ne]; omega
    by_cases h6 : 6 < t.size
    · have HZ := Lib.hid (HN.out (by omega))
      have d1 : decide ((6 : Int) < (t.size : Int)) = true := decide_eq_true (by omega)
      go_enter Tryz.func36, Tryz.ntmps36
      go_wp2
      go_ret2
      exact ⟨by rw [HZ.out]; rfl, lo⟩
    · have d1 : decide ((6 : Int) < (t.size : Int)) = false := decide_eq_false (by omega)
      rw [head_byte t (by omega)] at HN HY
      have hix0 : ∀ w, (Instr.index 9 (.string t) (.int .i64 0)).run Tryz.prog w = .ok (.int .u8 ((t[0]'(by omega)).toNat : Int)) w := fun w => index_str t 0 (by omega) w
      obtain ⟨r0, he0⟩ : ∃ r0 : Nat, r0 = (t[0]'(by omega : 0 < t.size)).toNat := ⟨_, rfl⟩
      rw [← he0] at hix0 HN HY
      clear he0
      have hit0 : Hp (w.iter t 0) w.heap.size (.stringIter t 0) := Hp.new w _
      have HIT := Lib.hid hit0
      have HLO : Hid (Below w.heap.size w (w.iter t 0)) := lowAlloc w _
      clear hit0
      by_cases hz : r0 = 48
      · subst hz
        by_cases hz1 : 1 < t.size
        · have HZ := Lib.hid (HN.out (by omega))
          have d2 : decide ((1 : Int) < (t.size : Int)) = true := decide_eq_true (by omega)
          go_enter Tryz.func36, Tryz.ntmps36
          go_wp2
          go_ret2
          exact ⟨by rw [HZ.out]; rfl, lo⟩
        · have HN2 : Hid (t.data.toList.all Cm.isDig = false → z = .tuple #[.int .i64 0, .bool false]) := fun h => HN.out (by rw [h]; simp)
          have HY2 : Hid (t.data.toList.all Cm.isDig = true → z = .tuple #[.int .i64 (Cm.valS t.data.toList : Int), .bool true]) := fun h => HY.out ⟨by omega, by omega, by omega, h⟩
          have d2 : decide ((1 : Int) < (t.size : Int)) = false := decide_eq_false (by omega)
          clear HN HY lo
          clear hs
          go_enter Tryz.func36, Tryz.ntmps36
          go_wp2
          go_loopw [4, 6] (fun v _ wr => ∃ p : Nat, p ≤ t.size ∧ (t.data.toList.take p).all Cm.isDig = true ∧ v = .int .i64 (Cm.valS (t.data.toList.take p) : Int) ∧ Below w.heap.size w wr ∧ Hp wr w.heap.size (.stringIter t p)) (fun _ _ wr => t.size - iterPos wr w.heap.size)
          case atStart => exact ⟨0, Nat.zero_le _, rfl, rfl, HLO.out, HIT.out⟩
          case round =>
            obtain ⟨p, hp, hal, rfl, lo, hit⟩ := hrel
            have hip := hit.pos
            have hvl := Cm.valS_le _ hal
            rw [List.length_take, show t.data.toList.length = t.size from rfl, Nat.min_eq_left hp] at hvl
            have hvl2 : 10 ^ p ≤ 10 ^ 6 := Nat.pow_le_pow_right (by omega) (by omega)
            by_cases hlt : p < t.size
            · obtain ⟨wn, hnx, hitn, hgr⟩ := next_any wr _ t p hit hlt
              have lon := below_grown lo hgr (Nat.le_refl _) lo.size
              have HIP := Lib.hid hip
              have HA := Lib.hid (bytes_take t p hlt Cm.isDig hal)
              have HN := Lib.hid (bytes_all t p hlt Cm.isDig)
              have HVS : Hid (Cm.valS (t.data.toList.take (p + 1)) = 10 * Cm.valS (t.data.toList.take p) + ((t[p]'hlt).toNat - 48)) := by
                have hl : p < t.data.toList.length := by simpa using hlt
                unfold Hid
                rw [List.take_succ_eq_append_getElem hl, Cm.valS_snoc]
                rfl
              generalize Cm.valS (t.data.toList.take p) = v at *
              rcases decode_cases t p hlt with ⟨hlow, hd⟩ | ⟨hhi, hd⟩
              · rw [hd] at hnx hitn
                simp only at hnx hitn
                have hok : Cm.isDig (t[p]'hlt) = (decide (48 ≤ (t[p]'hlt).toNat) && decide ((t[p]'hlt).toNat ≤ 57)) := rfl
                rw [hok] at HA HN
                clear hal hip hgr hit hd hok
                generalize (t[p]'hlt).toNat = r at *
                by_cases h1 : r < 48
                · have HF := Lib.hid (HN2.out (HN.out (by rw [decide_eq_false (by omega : ¬ 48 ≤ r)]; rfl)))
                  have dd : decide ((r : Int) < 48) = true := decide_eq_true (by omega)
                  go_wp2
                  go_ret2
                  exact ⟨by rw [HF.out]; rfl, lon⟩
                · by_cases h2 : 57 < r
                  · have HF := Lib.hid (HN2.out (HN.out (by rw [decide_eq_false (by omega : ¬ r ≤ 57)]; simp)))
                    have dd : decide ((r : Int) < 48) = false := decide_eq_false (by omega)
                    have dd2 : decide ((57 : Int) < (r : Int)) = true := decide_eq_true (by omega)
                    go_wp2
                    go_ret2
                    exact ⟨by rw [HF.out]; rfl, lon⟩
                  · have HT := Lib.hid (HA.out.trans (by rw [decide_eq_true (by omega : 48 ≤ r), decide_eq_true (by omega : r ≤ 57)]; rfl : _ = true))
                    have dd : decide ((r : Int) < 48) = false := decide_eq_false (by omega)
                    have dd2 : decide ((57 : Int) < (r : Int)) = false := decide_eq_false (by omega)
                    obtain ⟨d, rfl⟩ : ∃ d, r = 48 + d := ⟨r - 48, by omega⟩
                    go_wp2
                    go_roundw
                    case rel => exact ⟨p + 1, by omega, HT.out, by rw [HVS.out]; go_num, lon, hitn⟩
                    case measure => rw [HIP.out, hitn.pos]; omega
              · have HF := Lib.hid (HN2.out (HN.out (by unfold Cm.isDig; rw [decide_eq_false (by omega : ¬ (t[p]'hlt).toNat ≤ 57)]; simp)))
                clear hal hip hgr hit HA HN HVS
                generalize (Utf8.decode t p).1 = r at *
                have dd : decide ((r : Int) < 48) = false := decide_eq_false (by omega)
                have dd2 : decide ((57 : Int) < (r : Int)) = true := decide_eq_true (by omega)
                go_wp2
                go_ret2
                exact ⟨by rw [HF.out]; rfl, lon⟩
            · obtain rfl : p = t.size := by omega
              have hnx := next_end wr _ t t.size hit hlt
              rw [List.take_of_length_le (by simp)] at hal
              have HA := Lib.hid (HY2.out hal)
              have HTK : Hid (t.data.toList.take t.size = t.data.toList) := List.take_of_length_le (by simp)
              rw [HTK.out]
              generalize Cm.valS t.data.toList = v at *
              clear hal hip hit
              go_wp2
              go_ret2
              exact ⟨by rw [HA.out]; rfl, lo⟩
      · have HN2 : Hid (t.data.toList.all Cm.isDig = false → z = .tuple #[.int .i64 0, .bool false]) := fun h => HN.out (by rw [h]; simp)
        have HY2 : Hid (t.data.toList.all Cm.isDig = true → z = .tuple #[.int .i64 (Cm.valS t.data.toList : Int), .bool true]) := fun h => HY.out ⟨by omega, by omega, by omega, h⟩
        have d2 : ((r0 : Int) == 48) = false := by rw [beq_eq_false_iff_ne]; omega
        clear HN HY lo hz
        clear hs
        go_enter Tryz.func36, Tryz.ntmps36
        go_wp2
        go_loopw [4, 6] (fun v _ wr => ∃ p : Nat, p ≤ t.size ∧ (t.data.toList.take p).all Cm.isDig = true ∧ v = .int .i64 (Cm.valS (t.data.toList.take p) : Int) ∧ Below w.heap.size w wr ∧ Hp wr w.heap.size (.stringIter t p)) (fun _ _ wr => t.size - iterPos wr w.heap.size)
        case atStart => exact ⟨0, Nat.zero_le _, rfl, rfl, HLO.out, HIT.out⟩
        case round =>
          obtain ⟨p, hp, hal, rfl, lo, hit⟩ := hrel
          have hip := hit.pos
          have hvl := Cm.valS_le _ hal
          rw [List.length_take, show t.data.toList.length = t.size from rfl, Nat.min_eq_left hp] at hvl
          have hvl2 : 10 ^ p ≤ 10 ^ 6 := Nat.pow_le_pow_right (by omega) (by omega)
          by_cases hlt : p < t.size
          · obtain ⟨wn, hnx, hitn, hgr⟩ := next_any wr _ t p hit hlt
            have lon := below_grown lo hgr (Nat.le_refl _) lo.size
            have HIP := Lib.hid hip
            have HA := Lib.hid (bytes_take t p hlt Cm.isDig hal)
            have HN := Lib.hid (bytes_all t p hlt Cm.isDig)
            have HVS : Hid (Cm.valS (t.data.toList.take (p + 1)) = 10 * Cm.valS (t.data.toList.take p) + ((t[p]'hlt).toNat - 48)) := by
              have hl : p < t.data.toList.length := by simpa using hlt
              unfold Hid
              rw [List.take_succ_eq_append_getElem hl, Cm.valS_snoc]
              rfl
            generalize Cm.valS (t.data.toList.take p) = v at *
            rcases decode_cases t p hlt with ⟨hlow, hd⟩ | ⟨hhi, hd⟩
            · rw [hd] at hnx hitn
              simp only at hnx hitn
              have hok : Cm.isDig (t[p]'hlt) = (decide (48 ≤ (t[p]'hlt).toNat) && decide ((t[p]'hlt).toNat ≤ 57)) := rfl
              rw [hok] at HA HN
              clear hal hip hgr hit hd hok
              generalize (t[p]'hlt).toNat = r at *
              by_cases h1 : r < 48
              · have HF := Lib.hid (HN2.out (HN.out (by rw [decide_eq_false (by omega : ¬ 48 ≤ r)]; rfl)))
                have dd : decide ((r : Int) < 48) = true := decide_eq_true (by omega)
                go_wp2
                go_ret2
                exact ⟨by rw [HF.out]; rfl, lon⟩
              · by_cases h2 : 57 < r
                · have HF := Lib.hid (HN2.out (HN.out (by rw [decide_eq_false (by omega : ¬ r ≤ 57)]; simp)))
                  have dd : decide ((r : Int) < 48) = false := decide_eq_false (by omega)
                  have dd2 : decide ((57 : Int) < (r : Int)) = true := decide_eq_true (by omega)
                  go_wp2
                  go_ret2
                  exact ⟨by rw [HF.out]; rfl, lon⟩
                · have HT := Lib.hid (HA.out.trans (by rw [decide_eq_true (by omega : 48 ≤ r), decide_eq_true (by omega : r ≤ 57)]; rfl : _ = true))
                  have dd : decide ((r : Int) < 48) = false := decide_eq_false (by omega)
                  have dd2 : decide ((57 : Int) < (r : Int)) = false := decide_eq_false (by omega)
                  obtain ⟨d, rfl⟩ : ∃ d, r = 48 + d := ⟨r - 48, by omega⟩
                  go_wp2
                  go_roundw
                  case rel => exact ⟨p + 1, by omega, HT.out, by rw [HVS.out]; go_num, lon, hitn⟩
                  case measure => rw [HIP.out, hitn.pos]; omega
            · have HF := Lib.hid (HN2.out (HN.out (by unfold Cm.isDig; rw [decide_eq_false (by omega : ¬ (t[p]'hlt).toNat ≤ 57)]; simp)))
              clear hal hip hgr hit HA HN HVS
              generalize (Utf8.decode t p).1 = r at *
              have dd : decide ((r : Int) < 48) = false := decide_eq_false (by omega)
              have dd2 : decide ((57 : Int) < (r : Int)) = true := decide_eq_true (by omega)
              go_wp2
              go_ret2
              exact ⟨by rw [HF.out]; rfl, lon⟩
          · obtain rfl : p = t.size := by omega
            have hnx := next_end wr _ t t.size hit hlt
            rw [List.take_of_length_le (by simp)] at hal
            have HA := Lib.hid (HY2.out hal)
            have HTK : Hid (t.data.toList.take t.size = t.data.toList) := List.take_of_length_le (by simp)
            rw [HTK.out]
            generalize Cm.valS t.data.toList = v at *
            clear hal hip hit
            go_wp2
            go_ret2
            exact ⟨by rw [HA.out]; rfl, lo⟩
end Go.Proofs.YtdbmepndebdbpaaGreat
/- inputs, value, steps, Find, Of. -/
namespace Go.Proofs.YtdbmepndebdbpaaGreat
open Go.RowKit

theorem bitAnd_any (x : Int) (_h : I64 x) : bits .and .i64 x 1 = x % 2 := by
  show IntKind.i64.wrap ((BitVec.ofInt 64 x &&& BitVec.ofInt 64 1).toNat : Int) = _
  have e1 : (BitVec.ofInt 64 1).toNat = 1 := by decide
  rw [BitVec.toNat_and, e1, Nat.and_one_is_mod, BitVec.toNat_ofInt, IntKind.wrap_i64]
  omega
theorem shr_range (x : Int) (k : Nat) (h : I64 x) : I64 (x / 2 ^ k) := by
  unfold I64 at *
  have hp : (0 : Int) < 2 ^ k := Int.pow_pos (by omega)
  constructor
  · rw [Int.le_ediv_iff_mul_le hp]
    have : (1 : Int) ≤ 2 ^ k := by omega
    have h2 : (-9223372036854775808 : Int) * 2 ^ k ≤ -9223372036854775808 * 1 := by
      exact Int.mul_le_mul_of_nonpos_left (by omega) this
    omega
  · by_cases hx : 0 ≤ x
    · exact Int.le_trans (Int.ediv_le_self _ hx) h.2
    · have := Int.ediv_neg_of_neg_of_pos (show x < 0 by omega) hp
      omega
theorem set_bits (st : Int) (m k : Nat) (hk : k < m) : ((bv (bitsB st k) ++ List.replicate (m - k) (Value.bool false)).toArray).setIfInBounds k (.bool (st / 2 ^ k % 2 == 1)) = (bv (bitsB st (k + 1)) ++ List.replicate (m - (k + 1)) (Value.bool false)).toArray := by
  have hl : (bv (bitsB st k)).length = k := by simp [bitsB_length]
  rw [List.setIfInBounds_toArray, List.set_append_right _ _ (by rw [hl]; exact Nat.le_refl _), hl, Nat.sub_self, bitsB_succ, show m - k = (m - (k + 1)) + 1 by omega, List.replicate_succ, List.set_cons_zero]
  simp

set_option maxRecDepth 100000 in
set_option maxHeartbeats 4000000 in
theorem inputs_any (c : Cir) (st : Int) (w : World) (hf : Cm.fitsB c = true) (hs : I64 st) (m : Nat) (hm : (m : Int) = c.n + c.ls.length) (h60 : m ≤ 60) : Calls Tryz.prog 40 #[.agg #[.int .i64 c.n, .slice c.aL c.ls.length c.cL, .slice c.aG c.gs.length c.cG, .slice c.aO c.os.length c.cO, .slice c.aB c.bs.length c.cB, .slice c.aC c.cs.length c.cC, .slice c.aF c.fs.length c.cF, .slice c.aN c.ns.length c.cN], .int .i64 st] w (BList (bitsB st m) w) := by
  have hbx := boxed w c
  have lo := lowAlloc w (Obj.cells #[.int .i64 c.n, .slice c.aL c.ls.length c.cL, .slice c.aG c.gs.length c.cG, .slice c.aO c.os.length c.cO, .slice c.aB c.bs.length c.cB, .slice c.aC c.cs.length c.cC, .slice c.aF c.fs.length c.cF, .slice c.aN c.ns.length c.cN] 28)
  have HW := Lib.hid (width_any c (w.alloc (Obj.cells #[.int .i64 c.n, .slice c.aL c.ls.length c.cL, .slice c.aG c.gs.length c.cG, .slice c.aO c.os.length c.cO, .slice c.aB c.bs.length c.cB, .slice c.aC c.cs.length c.cC, .slice c.aF c.fs.length c.cF, .slice c.aN c.ns.length c.cN] 28)))
  rw [Cm.wrapW hf, ← hm] at HW
  have HS := Lib.hid hs
  have hmk := make_bools m (by omega)
  have c0 := hbx.cell 0; have c1 := hbx.cell 1; have c2 := hbx.cell 2; have c3 := hbx.cell 3; have c4 := hbx.cell 4; have c5 := hbx.cell 5; have c6 := hbx.cell 6; have c7 := hbx.cell 7; simp only [List.getElem?_toArray, List.getElem?_cons_zero, List.getElem?_cons_succ] at c0 c1 c2 c3 c4 c5 c6 c7
  clear hm hf
  go_enter Tryz.func40, Tryz.ntmps40
  go_wp2_with fail
  refine HW.out.mono ?_
  rintro e w1 ⟨rfl, hb1⟩
  replace lo := lo.trans (hb1.mono lo.size)
  have lo1 := lo.alloc lo.size (.cells (falses m) 4)
  have hk1 := Blk.new w1 4 (falses m)
  have hls := lo.size
  have HB : Hid (Blk (w1.alloc (.cells (falses m) 4)) w1.heap.size 4 (bv (bitsB st 0) ++ List.replicate (m - 0) (Value.bool false)).toArray) := by
    unfold Hid
    have e : (bv (bitsB st 0) ++ List.replicate (m - 0) (Value.bool false)).toArray = falses m := by simp [bitsB, falses]
    rw [e]
    exact hk1
  have HLO := Lib.hid lo1
  clear c0 c1 c2 c3 c4 c5 c6 c7
  clear hbx hk1 lo1 lo hb1 HW
  go_wp2
  go_loopw [12] (fun i wr => ∃ k : Nat, k ≤ m ∧ i = .int .i64 k ∧ Below w.heap.size w wr ∧ Blk wr w1.heap.size 4 (bv (bitsB st k) ++ List.replicate (m - k) (Value.bool false)).toArray) (fun i _ => m - (intOf i).toNat)
  case atStart => exact ⟨0, Nat.zero_le _, rfl, HLO.out, HB.out⟩
  case round =>
    obtain ⟨k, hk, rfl, lo, hb⟩ := hrel
    by_cases hlt : k < m
    · have hband := bitAnd_any (st / 2 ^ k) (shr_range st k HS.out)
      have hix := ixB w1.heap.size 0 m m k (by omega) hlt
      have hfz := hb.frozen k
      have hck : wr.cell? ⟨w1.heap.size, k, none⟩ = some (.bool false) := by
        rw [hb.cell k]
        simp [List.getElem?_append_right, bitsB_length, List.getElem?_replicate]
        omega
      have hput := (hb.put k (.bool (st / 2 ^ k % 2 == 1)))
      rw [set_bits st m k hlt] at hput
      have HP := Lib.hid hput
      have hlo2 := lo.setCell (p := ⟨w1.heap.size, k, none⟩) (by simpa using hls) (.bool (st / 2 ^ k % 2 == 1))
      clear hput hb
      go_wp2
      exact ⟨⟨k + 1, by omega, by go_num, hlo2, HP.out⟩, by simp [intOf]; omega⟩
    · obtain rfl : k = m := by omega
      have hV := hb
      rw [Nat.sub_self, List.replicate_zero, List.append_nil] at hV
      have HV := Lib.hid hV
      clear hV hb
      go_wp2
      go_ret
      exact ⟨_, _, by rw [bitsB_length]; rfl, HV.out.vs, lo⟩

set_option maxHeartbeats 2000000 in
theorem value_any (A : Option Addr) (q : Nat) (bs : List Bool) (l : Int) (w : World) (B : Nat) (hV : Vs w B A (bv bs)) (h0 : 0 ≤ l) (h1 : (l / 2).toNat < bs.length) (hm : bs.length ≤ 1000000) :
    Calls Tryz.prog 44 #[.slice A bs.length q, .int .i64 l] w fun e w' => e = .returned (.bool (Em.bitB bs l)) ∧ w' = w := by
  obtain ⟨b, off, rfl, _, hc⟩ := hV.bool _ h1
  have hq : l / 2 = ((l / 2).toNat : Int) := by omega
  unfold Em.bitB
  generalize bs.getD (l / 2).toNat false = x at *
  generalize (l / 2).toNat = r at *
  have hix := ixB b off bs.length q r hm h1
  have hneg : Em.negL l = (l % 2 == 1) := by
    rw [← mod_two h0]
    by_cases h : l % 2 = 1
    · rw [decide_eq_true h, h]; rfl
    · rw [decide_eq_false h]; symm; simpa using h
  rw [hneg]
  go_enter Tryz.func44, Tryz.ntmps44
  go_wp2
  go_ret
  exact ⟨rfl, rfl⟩

namespace Cm
/-- The circuit may be, and its states are numbers. -/
def stepB (c : Cir) : Bool := rightC c && decide (c.n + c.ls.length ≤ 60)
theorem right_fits {c : Cir} (h : rightC c = true) : fitsB c = true := by
  simp only [Cm.rightC, Bool.and_eq_true] at h
  exact h.1.1.1
theorem step_facts {c : Cir} (h : stepB c = true) : rightC c = true ∧ c.n + c.ls.length ≤ 60 := by simpa [stepB] using h
def isS (c : Cir) (st l : Int) : Bool := stepB c && Em.evalB (c.n + c.ls.length) c.gs l (bitsB st (c.n + c.ls.length).toNat)
end Cm

set_option maxRecDepth 100000 in
set_option maxHeartbeats 4000000 in
theorem steps_any (c : Cir) (w : World) (hM : CirM w w.heap.size c) (hW : CirW c) (hcap : c.ns.length ≤ c.cN) : Calls Tryz.prog 38 #[.agg #[.int .i64 c.n, .slice c.aL c.ls.length c.cL, .slice c.aG c.gs.length c.cG, .slice c.aO c.os.length c.cO, .slice c.aB c.bs.length c.cB, .slice c.aC c.cs.length c.cC, .slice c.aF c.fs.length c.cF, .slice c.aN c.ns.length c.cN]] w fun e w' => e = .returned (.bool (Cm.stepB c)) ∧ Below w.heap.size w w' := by
  have hbx := boxed w c
  have lo := lowAlloc w (Obj.cells #[.int .i64 c.n, .slice c.aL c.ls.length c.cL, .slice c.aG c.gs.length c.cG, .slice c.aO c.os.length c.cO, .slice c.aB c.bs.length c.cB, .slice c.aC c.cs.length c.cC, .slice c.aF c.fs.length c.cF, .slice c.aN c.ns.length c.cN] 28)
  have HR := Lib.hid (fun V (hb : Below w.heap.size w V) => Right4_any c V ((hM.below hb (Nat.le_refl _)).more hb.size) hW hcap)
  have HF := Lib.hid (fun h => Cm.wrapW (Cm.right_fits (c := c) h))
  have HSB : Hid (Cm.stepB c = (Cm.rightC c && decide (c.n + c.ls.length ≤ 60))) := rfl
  generalize Cm.stepB c = z at *
  have c0 := hbx.cell 0; have c1 := hbx.cell 1; have c2 := hbx.cell 2; have c3 := hbx.cell 3; have c4 := hbx.cell 4; have c5 := hbx.cell 5; have c6 := hbx.cell 6; have c7 := hbx.cell 7; simp only [List.getElem?_toArray, List.getElem?_cons_zero, List.getElem?_cons_succ] at c0 c1 c2 c3 c4 c5 c6 c7
  go_enter Tryz.func38, Tryz.ntmps38
  go_wp2_with fail
  refine (width_any c _).mono ?_
  rintro e w1 ⟨rfl, hb1⟩
  replace hbx := hbx.below hb1 hbx.lt
  replace lo := lo.trans (hb1.mono lo.size)
  clear c0 c1 c2 c3 c4 c5 c6 c7
  have c0 := hbx.cell 0; have c1 := hbx.cell 1; have c2 := hbx.cell 2; have c3 := hbx.cell 3; have c4 := hbx.cell 4; have c5 := hbx.cell 5; have c6 := hbx.cell 6; have c7 := hbx.cell 7; simp only [List.getElem?_toArray, List.getElem?_cons_zero, List.getElem?_cons_succ] at c0 c1 c2 c3 c4 c5 c6 c7
  generalize wrap64 (c.n + c.ls.length) = x at *
  by_cases h60 : x ≤ 60
  · have d0 : decide (x ≤ 60) = true := decide_eq_true h60
    go_wp2_with fail
    refine (HR.out _ lo).mono ?_
    rintro e w2 ⟨rfl, hb2⟩
    replace lo := lo.trans (hb2.mono lo.size)
    have HZ : Hid (z = Cm.rightC c) := by
      unfold Hid
      rw [HSB.out]
      by_cases hr : Cm.rightC c = true
      · rw [hr, decide_eq_true (by rw [← HF.out hr]; exact h60)]
        rfl
      · rw [Bool.not_eq_true] at hr
        rw [hr]
        rfl
    clear HR HF HSB
    generalize Cm.rightC c = t at *
    go_wp2
    go_ret
    exact ⟨ret_bool HZ.out.symm, lo⟩
  · have d0 : decide (x ≤ 60) = false := decide_eq_false h60
    have HZ : Hid (z = false) := by
      unfold Hid
      rw [HSB.out]
      by_cases hr : Cm.rightC c = true
      · rw [decide_eq_false (by rw [← HF.out hr]; exact h60)]
        simp
      · rw [Bool.not_eq_true] at hr
        rw [hr]
        rfl
    clear HR HF HSB
    go_wp2
    go_ret
    exact ⟨ret_bool HZ.out.symm, lo⟩

/-- A graph in memory of the call's own, as a call answers it. -/
def OfPost (N : Int) (gs : List (Int × Int)) (w : World) (e : Ending) (w' : World) : Prop := ∃ A' c', e = .returned (.agg #[.int .i64 N, .slice A' gs.length c']) ∧ Gr w' w'.heap.size A' gs ∧ Below w.heap.size w w'
set_option maxRecDepth 100000 in
set_option maxHeartbeats 4000000 in
theorem Of_any (c : Cir) (w : World) (hM : CirM w w.heap.size c) (hW : CirW c) : Calls Tryz.prog 13 #[.agg #[.int .i64 c.n, .slice c.aL c.ls.length c.cL, .slice c.aG c.gs.length c.cG, .slice c.aO c.os.length c.cO, .slice c.aB c.bs.length c.cB, .slice c.aC c.cs.length c.cC, .slice c.aF c.fs.length c.cF, .slice c.aN c.ns.length c.cN]] w (OfPost (wrap64 (c.n + c.ls.length)) c.gs w) := by
  have hbx := (boxed w c).alloc (Obj.cells #[.int .i64 0, .slice none 0 0] 41)
  have hgx : Blk ((w.alloc (Obj.cells #[.int .i64 c.n, .slice c.aL c.ls.length c.cL, .slice c.aG c.gs.length c.cG, .slice c.aO c.os.length c.cO, .slice c.aB c.bs.length c.cB, .slice c.aC c.cs.length c.cC, .slice c.aF c.fs.length c.cF, .slice c.aN c.ns.length c.cN] 28)).alloc (Obj.cells #[.int .i64 0, .slice none 0 0] 41)) (w.heap.size + 1) 41 #[.int .i64 0, .slice none 0 0] := by
    have := Blk.new (w.alloc (Obj.cells #[.int .i64 c.n, .slice c.aL c.ls.length c.cL, .slice c.aG c.gs.length c.cG, .slice c.aO c.os.length c.cO, .slice c.aB c.bs.length c.cB, .slice c.aC c.cs.length c.cC, .slice c.aF c.fs.length c.cF, .slice c.aN c.ns.length c.cN] 28)) 41 #[.int .i64 0, .slice none 0 0]
    simpa using this
  have lo := (lowAlloc w (Obj.cells #[.int .i64 c.n, .slice c.aL c.ls.length c.cL, .slice c.aG c.gs.length c.cG, .slice c.aO c.os.length c.cO, .slice c.aB c.bs.length c.cB, .slice c.aC c.cs.length c.cC, .slice c.aF c.fs.length c.cF, .slice c.aN c.ns.length c.cN] 28)).alloc (by simp) (Obj.cells #[.int .i64 0, .slice none 0 0] 41)
  have HI := Lib.hid (fun V => inner_any c V)
  have HC := Lib.hid (fun V (hb : Below w.heap.size w V) => clone_any c.aG c.cG c.gs V w.heap.size hW.lg (hM.hg.below hb (Nat.le_refl _)) hb.size)
  generalize wrap64 (c.n + c.ls.length) = N at *
  go_enter Tryz.func13, Tryz.ntmps13
  go_upto_region 1 with fail
  generalize ((w.alloc (Obj.cells #[.int .i64 c.n, .slice c.aL c.ls.length c.cL, .slice c.aG c.gs.length c.cG, .slice c.aO c.os.length c.cO, .slice c.aB c.bs.length c.cB, .slice c.aC c.cs.length c.cC, .slice c.aF c.fs.length c.cF, .slice c.aN c.ns.length c.cN] 28)).alloc (Obj.cells #[.int .i64 0, .slice none 0 0] 41)) = W at *
  have c0 := hbx.cell 0; have c1 := hbx.cell 1; have c2 := hbx.cell 2; have c3 := hbx.cell 3; have c4 := hbx.cell 4; have c5 := hbx.cell 5; have c6 := hbx.cell 6; have c7 := hbx.cell 7; simp only [List.getElem?_toArray, List.getElem?_cons_zero, List.getElem?_cons_succ] at c0 c1 c2 c3 c4 c5 c6 c7
  go_wp2_with fail
  refine (HI.out _).mono ?_
  rintro e w1 ⟨rfl, hb1⟩
  have hlt0 := Nat.lt_of_lt_of_le hgx.lt hb1.size
  replace hgx := (hgx.below hb1 hgx.lt).alloc (Obj.cells #[.int .i64 N, .slice c.aG c.gs.length c.cG] 41)
  have hg3 := Blk.new w1 41 #[.int .i64 N, .slice c.aG c.gs.length c.cG]
  replace lo := (lo.trans (hb1.mono lo.size)).alloc (Nat.le_trans lo.size hb1.size) (Obj.cells #[.int .i64 N, .slice c.aG c.gs.length c.cG] 41)
  clear c0 c1 c2 c3 c4 c5 c6 c7
  have hlt1 := hgx.lt
  have hsz := hb1.size
  clear hbx hb1
  go_upto_region 2 with fail
  generalize w1.alloc (Obj.cells #[.int .i64 N, .slice c.aG c.gs.length c.cG] 41) = V at *
  have q1 := hg3.cell 1
  simp only [List.getElem?_toArray, List.getElem?_cons_zero, List.getElem?_cons_succ] at q1
  go_wp2_with fail
  refine (HC.out _ lo).mono ?_
  rintro e w2 ⟨A', c', rfl, hG, hsep, hb2⟩
  clear q1
  have hg3' := hg3.below hb2 hg3.lt
  have hgx' := hgx.below hb2 hgx.lt
  have p0 := hg3'.cell 0
  have p1 := hg3'.cell 1
  have pf := hg3'.frozen 1
  simp only [List.getElem?_toArray, List.getElem?_cons_zero, List.getElem?_cons_succ] at p0 p1
  have hne3 : ∀ ad, A' = some ad → ad.block ≠ w1.heap.size := hsep.ne (Nat.zero_le _) hg3.lt
  have hne1 : ∀ ad, A' = some ad → ad.block ≠ w.heap.size + 1 := hsep.ne (Nat.zero_le _) hgx.lt
  have lo2 := lo.trans (hb2.mono lo.size)
  have hgA := hg3'.put 1 (.slice A' c.gs.length c')
  have hgB := hgx'.far (p := ⟨w1.heap.size, 1, none⟩) (by simp; omega) (.slice A' c.gs.length c')
  have hGA := hG.set (p := ⟨w1.heap.size, 1, none⟩) hne3 (.slice A' c.gs.length c')
  have loA := lo2.setCell (p := ⟨w1.heap.size, 1, none⟩) (by simp; omega) (.slice A' c.gs.length c')
  have hszA : (w2.setCell ⟨w1.heap.size, 1, none⟩ (.slice A' c.gs.length c')).heap.size = w2.heap.size := by simp
  go_upto_region 3 with fail
  generalize w2.setCell ⟨w1.heap.size, 1, none⟩ (.slice A' c.gs.length c') = X at *
  clear p0 p1 pf hg3' hgx' hG hb2
  have p0 := hgA.cell 0
  have p1 := hgA.cell 1
  have x0 := hgB.cell 0
  have x1 := hgB.cell 1
  have y0 := hgB.frozen 0
  have y1 := hgB.frozen 1
  simp only [List.getElem?_toArray, List.getElem?_cons_zero, List.getElem?_cons_succ, List.setIfInBounds_toArray, List.set_cons_succ, List.set_cons_zero] at p0 p1 x0 x1
  go_wp2
  have hbf : Below w.heap.size w ((X.setCell ⟨w.heap.size + 1, 0, none⟩ (.int .i64 N)).setCell ⟨w.heap.size + 1, 1, none⟩ (.slice A' c.gs.length c')) :=
    (loA.setCell (by simp) _).setCell (by simp) _
  have r0 : ((X.setCell ⟨w.heap.size + 1, 0, none⟩ (.int .i64 N)).setCell ⟨w.heap.size + 1, 1, none⟩ (.slice A' c.gs.length c')).cell? ⟨w.heap.size + 1, 0, none⟩ = some (.int .i64 N) :=
    (World.cell?_setCell_other _ _ _ _ (by simp)).trans (World.cell?_setCell_same _ _ _ x0)
  have r1 : ((X.setCell ⟨w.heap.size + 1, 0, none⟩ (.int .i64 N)).setCell ⟨w.heap.size + 1, 1, none⟩ (.slice A' c.gs.length c')).cell? ⟨w.heap.size + 1, 1, none⟩ = some (.slice A' c.gs.length c') :=
    World.cell?_setCell_same _ _ _ ((World.cell?_setCell_other _ _ _ _ (by simp)).trans x1)
  have hGf := (hGA.set (p := ⟨w.heap.size + 1, 0, none⟩) hne1 (.int .i64 N)).set (p := ⟨w.heap.size + 1, 1, none⟩) hne1 (.slice A' c.gs.length c')
  exact bodyPost_ret (v := .agg #[.int .i64 N, .slice A' c.gs.length c']) (by simp [results, Tryz.results13, go_sem, r0, r1]) rfl ⟨A', c', rfl, by simpa [hszA] using hGf, hbf⟩
end Go.Proofs.YtdbmepndebdbpaaGreat
