/- After. -/
import Derived.Test.YteabffdddlihnaaD11
namespace Go.Proofs.Yteabffdddlihnaa
open Go.RowKit

namespace Cm
/-- The state behind a state, by its first k latches. -/
def aftS (c : Cir) (st : Int) : Nat → Nat
  | 0 => 0
  | k + 1 => aftS c st k + (if isS c st (c.ls.getD k (0, 0)).1 = true then 2 ^ (c.n.toNat + k) else 0)
theorem aft_lt (c : Cir) (st : Int) (k : Nat) : aftS c st k < 2 ^ (c.n.toNat + k) := by
  induction k with
  | zero => simp [aftS, Nat.two_pow_pos]
  | succ k ih =>
    rw [aftS, ← Nat.add_assoc, Nat.pow_succ]
    split <;> omega
def afterS (c : Cir) (st : Int) : Int := if stepB c = true then (aftS c st c.ls.length : Int) else 0
end Cm
theorem or_pow (a b : Nat) (hb : b ≤ 60) (ha : a < 2 ^ b) : bits .or .i64 (a : Int) ((2 ^ b : Nat) : Int) = ((a + 2 ^ b : Nat) : Int) := by
  have hp : 2 ^ b ≤ 2 ^ 60 := Nat.pow_le_pow_right (by omega) hb
  have hx : a ||| 2 ^ b = a + 2 ^ b := by
    have := Nat.two_pow_add_eq_or_of_lt ha 1
    rw [Nat.mul_one] at this
    rw [Nat.or_comm, ← this, Nat.add_comm]
  show IntKind.i64.wrap ((BitVec.ofInt 64 (a : Int) ||| BitVec.ofInt 64 ((2 ^ b : Nat) : Int)).toNat : Int) = _
  rw [BitVec.toNat_or, Gm.ofInt_i64 a (by omega), Gm.ofInt_i64 (2 ^ b) (by omega), hx, IntKind.wrap_i64]
  omega
/-- A latch's Next is a literal of the circuit that may be. -/
theorem next_lit {c : Cir} (h : Cm.rightC c = true) (k : Nat) (hk : k < c.ls.length) : Gm.litB (c.n + c.ls.length) c.gs.length c.ls[k].1 = true := by
  simp only [Cm.rightC, Bool.and_eq_true] at h
  have h2 := h.1.2
  simp only [Cm.drivenB, Bool.and_eq_true] at h2
  have := List.all_eq_true.1 h2.1 c.ls[k] (by simp)
  simp only [Cm.latB, Bool.and_eq_true] at this
  exact this.1.1
theorem is_bit {c : Cir} {st l : Int} (hs : Cm.stepB c = true) (hl : Gm.litB (c.n + c.ls.length) c.gs.length l = true) (m : Nat) (hm : c.n + c.ls.length = (m : Int)) :
    Cm.isS c st l = Em.bitB (Em.allB (m : Int) c.gs (bitsB st m)) l ∧ 0 ≤ l ∧ (l / 2).toNat < (Em.allB (m : Int) c.gs (bitsB st m)).length := by
  obtain ⟨hr, _⟩ := Cm.step_facts hs
  have hr2 : Gm.rightB (c.n + c.ls.length) c.gs = true := by
    simp only [Cm.rightC, Bool.and_eq_true] at hr
    exact hr.1.1.2
  rw [hm] at hr2 hl
  have hlen : (Em.allB (m : Int) c.gs (bitsB st m)).length = m + 1 + c.gs.length := by
    unfold Em.allB
    rw [if_pos ⟨hr2, by rw [bitsB_length]⟩, Em.vals_length, List.length_cons, bitsB_length]
  have hlf := hl
  simp [Gm.litB] at hlf
  refine ⟨?_, by omega, by rw [hlen]; omega⟩
  unfold Cm.isS Em.evalB
  rw [hs, hm, Int.toNat_natCast, hl, decide_eq_true (by rw [hlen]; omega)]
  simp

set_option maxRecDepth 100000 in
set_option maxHeartbeats 8000000 in
theorem After_any (c : Cir) (st : Int) (w : World) (hM : CirM w w.heap.size c) (hW : CirW c) (hcap : c.ns.length ≤ c.cN) (hs : I64 st) (hlg : c.gs.length ≤ 100000) : Calls Try.prog 13 #[.agg #[.int .i64 c.n, .slice c.aL c.ls.length c.cL, .slice c.aG c.gs.length c.cG, .slice c.aO c.os.length c.cO, .slice c.aB c.bs.length c.cB, .slice c.aC c.cs.length c.cC, .slice c.aF c.fs.length c.cF, .slice c.aN c.ns.length c.cN], .int .i64 st] w fun e w' => e = .returned (.int .i64 (Cm.afterS c st)) ∧ Below w.heap.size w w' := by
  have hbx := boxed w c
  have lo := lowAlloc w (Obj.cells #[.int .i64 c.n, .slice c.aL c.ls.length c.cL, .slice c.aG c.gs.length c.cG, .slice c.aO c.os.length c.cO, .slice c.aB c.bs.length c.cB, .slice c.aC c.cs.length c.cC, .slice c.aF c.fs.length c.cF, .slice c.aN c.ns.length c.cN] 27)
  have hnot : ∀ (x : Bool) (w : World), (Op.unary .not (.bool x)).run Try.prog w = .ok (.bool (!x)) w := fun _ _ => rfl
  have HST := Lib.hid (fun V (hb : Below w.heap.size w V) => steps_any c V ((hM.below hb (Nat.le_refl _)).more hb.size) hW hcap)
  have HAF : Hid (Cm.afterS c st = if Cm.stepB c = true then (Cm.aftS c st c.ls.length : Int) else 0) := rfl
  generalize Cm.afterS c st = z at *
  have c0 := hbx.cell 0; have c1 := hbx.cell 1; have c2 := hbx.cell 2; have c3 := hbx.cell 3; have c4 := hbx.cell 4; have c5 := hbx.cell 5; have c6 := hbx.cell 6; have c7 := hbx.cell 7; simp only [List.getElem?_toArray, List.getElem?_cons_zero, List.getElem?_cons_succ] at c0 c1 c2 c3 c4 c5 c6 c7
  go_enter Try.func13, Try.ntmps13
  go_wp2_with fail
  refine (HST.out _ lo).mono ?_
  rintro e W ⟨rfl, hb1⟩
  replace hbx := hbx.below hb1 hbx.lt
  replace lo := lo.trans (hb1.mono lo.size)
  have hM1 := (hM.below lo (Nat.le_refl _)).more lo.size
  clear c0 c1 c2 c3 c4 c5 c6 c7
  clear HST hb1
  cases hsb : Cm.stepB c with
  | false =>
    rw [hsb] at HAF
    go_wp2
    go_ret
    exact ⟨by rw [HAF.out]; rfl, lo⟩
  | true =>
    rw [hsb] at HAF
    obtain ⟨hrc, h60⟩ := Cm.step_facts hsb
    have hft := Cm.right_fits hrc
    have hff := Cm.fits_facts hft
    obtain ⟨m, hm⟩ := Int.eq_ofNat_of_zero_le (show 0 ≤ c.n + c.ls.length by omega)
    obtain ⟨n0, hn0⟩ := Int.eq_ofNat_of_zero_le (show 0 ≤ c.n by omega)
    have HIN := Lib.hid (fun V => inner_any c V)
    rw [Cm.wrapW hft, hm] at HIN
    have HIP := Lib.hid (fun V => inputs_any c st V hft hs m hm.symm (by omega))
    have hbl := bitsB_length st m
    have HAL := Lib.hid (fun V A q (hb : Below W.heap.size W V) (hV : Vs V V.heap.size A (bv (bitsB st m))) => all_any (m : Int) c.aG c.cG c.gs A q (bitsB st m) V hlg (by rw [hbl]; omega) ((hM1.hg.below hb (Nat.le_refl _)).more hb.size) hW.hg hV)
    have HIB := Lib.hid (fun k (hk : k < c.ls.length) => is_bit (st := st) hsb (next_lit hrc k hk) m hm)
    have HVL : Hid ((Em.allB (m : Int) c.gs (bitsB st m)).length ≤ 1000000) := by
      unfold Hid Em.allB
      have := hW.lg
      split
      · rw [Em.vals_length, List.length_cons, hbl]
        omega
      · simp
    have hlx : c.ls.length ≤ 60 := by omega
    have hnk : n0 + c.ls.length ≤ 60 := by omega
    have lx := Below.refl W.heap.size W
    have hls := lo.size
    have HK : Hid (∀ V, Below W.heap.size W V → (fun V => V.cell? ⟨w.heap.size, 0, none⟩ = some (.int .i64 c.n) ∧ V.cell? ⟨w.heap.size, 1, none⟩ = some (.slice c.aL c.ls.length c.cL) ∧ V.cell? ⟨w.heap.size, 2, none⟩ = some (.slice c.aG c.gs.length c.cG) ∧ V.cell? ⟨w.heap.size, 3, none⟩ = some (.slice c.aO c.os.length c.cO) ∧ V.cell? ⟨w.heap.size, 4, none⟩ = some (.slice c.aB c.bs.length c.cB) ∧ V.cell? ⟨w.heap.size, 5, none⟩ = some (.slice c.aC c.cs.length c.cC) ∧ V.cell? ⟨w.heap.size, 6, none⟩ = some (.slice c.aF c.fs.length c.cF) ∧ V.cell? ⟨w.heap.size, 7, none⟩ = some (.slice c.aN c.ns.length c.cN)) V) := by
      intro V hb
      have h := hbx.below hb hbx.lt
      exact ⟨h.cell 0, h.cell 1, h.cell 2, h.cell 3, h.cell 4, h.cell 5, h.cell 6, h.cell 7⟩
    have HBX := Lib.hid hbx
    have HLO := Lib.hid lo
    have HN0 := Lib.hid hn0
    clear hsb hm hft hff hrc hM1 hbl lo hbx h60 hn0
    generalize bitsB st m = bs at *
    generalize Em.allB (m : Int) c.gs bs = v at *
    go_upto_region 3 with fail
    go_region_held3 (fun V => V.cell? ⟨w.heap.size, 0, none⟩ = some (.int .i64 c.n) ∧ V.cell? ⟨w.heap.size, 1, none⟩ = some (.slice c.aL c.ls.length c.cL) ∧ V.cell? ⟨w.heap.size, 2, none⟩ = some (.slice c.aG c.gs.length c.cG) ∧ V.cell? ⟨w.heap.size, 3, none⟩ = some (.slice c.aO c.os.length c.cO) ∧ V.cell? ⟨w.heap.size, 4, none⟩ = some (.slice c.aB c.bs.length c.cB) ∧ V.cell? ⟨w.heap.size, 5, none⟩ = some (.slice c.aC c.cs.length c.cC) ∧ V.cell? ⟨w.heap.size, 6, none⟩ = some (.slice c.aF c.fs.length c.cF) ∧ V.cell? ⟨w.heap.size, 7, none⟩ = some (.slice c.aN c.ns.length c.cN))
      (first | exact HK.out _ lx | exact HK.out _ lx.drew)
      (first | (go_at_call 31; (with_reducible refine (HIN.out _).mono ?_); rintro e w2 ⟨rfl, hb2⟩; (first | replace lx := lx.trans (hb2.mono lx.size) | replace lx := lx.drew.trans (hb2.mono lx.size)); (try replace hV := (hV.below hb2 (Nat.le_refl _)).more hb2.size)) | (go_at_call 32; (with_reducible refine (HIP.out _).mono ?_); rintro e w3 ⟨A', q', rfl, hV, hb3⟩; (first | replace lx := lx.trans (hb3.mono lx.size) | replace lx := lx.drew.trans (hb3.mono lx.size))) | (go_at_call 30; (with_reducible refine (HAL.out _ _ _ lx hV).mono ?_); rintro e w4 ⟨A2, q2, rfl, hV2, hb4⟩; replace lx := lx.trans (hb4.mono lx.size)))
    · have hbx := HBX.out.below lx HBX.out.lt
      have lo := HLO.out.trans (lx.mono hls)
      have c1 := hbx.cell 1
      simp only [List.getElem?_toArray, List.getElem?_cons_zero, List.getElem?_cons_succ] at c1
      have HBX4 := Lib.hid hbx
      have HLO4 := Lib.hid lo
      have hls4 := lo.size
      clear hbx lo HBX HLO HAL HIN HIP HK lx
      go_wp2
      clear c1
      go_loopw [6, 7, 8, 21] (fun a _ _ i wr => ∃ k : Nat, k ≤ c.ls.length ∧ i = .int .i64 k ∧ a = .int .i64 (Cm.aftS c st k : Int) ∧ Below w.heap.size w wr ∧ Below w4.heap.size w4 wr ∧ Blk wr w.heap.size 27 #[.int .i64 c.n, .slice c.aL c.ls.length c.cL, .slice c.aG c.gs.length c.cG, .slice c.aO c.os.length c.cO, .slice c.aB c.bs.length c.cB, .slice c.aC c.cs.length c.cC, .slice c.aF c.fs.length c.cF, .slice c.aN c.ns.length c.cN]) (fun _ _ _ i _ => c.ls.length - (intOf i).toNat)
      case atStart => exact ⟨0, Nat.zero_le _, rfl, rfl, HLO4.out, Below.refl _ _, HBX4.out⟩
      case round =>
        obtain ⟨k, hk, rfl, rfl, lo, lo4, hbx⟩ := hrel
        by_cases hlt : k < c.ls.length
        · obtain ⟨b, off, hA, hbw, g1, g2⟩ := (hM.hl.below lo (Nat.le_refl _)) k hlt
          obtain ⟨hb1, hb2, hb3⟩ := HIB.out k hlt
          have hgd : c.ls.getD k (0, 0) = c.ls[k] := by simp [List.getD_eq_getElem?_getD, List.getElem?_eq_getElem hlt]
          have HAS : Hid (Cm.aftS c st (k + 1) = Cm.aftS c st k + (if Em.bitB v c.ls[k].1 = true then 2 ^ (c.n.toNat + k) else 0)) := by
            unfold Hid
            rw [Cm.aftS, hgd, hb1]
          have hal := Cm.aft_lt c st k
          rw [HN0.out, Int.toNat_natCast] at hal HAS
          clear hgd hb1
          rw [hA]
          rw [hA] at hbx
          generalize c.ls[k] = g at *
          obtain ⟨x, y⟩ := g
          simp only at g1 g2 hb2 hb3 HAS
          have lo1 := lo.alloc lo.size (Obj.cells #[.int .i64 x, .int .i64 y] 41)
          have lo41 := lo4.alloc lo4.size (Obj.cells #[.int .i64 x, .int .i64 y] 41)
          have hbx1 := hbx.alloc (Obj.cells #[.int .i64 x, .int .i64 y] 41)
          have HVA := Lib.hid (value_any A2 q2 v x (wr.alloc (Obj.cells #[.int .i64 x, .int .i64 y] 41)) _ ((hV2.below lo41 (Nat.le_refl _)).more lo41.size) hb2 hb3 HVL.out)
          have c0 := hbx1.cell 0
          simp only [List.getElem?_toArray, List.getElem?_cons_zero, List.getElem?_cons_succ] at c0
          rw [HN0.out] at c0
          have hpow : 2 ^ (n0 + k) ≤ 2 ^ 60 := Nat.pow_le_pow_right (by omega) (by omega)
          have hor := or_pow (Cm.aftS c st k) (n0 + k) (by omega) hal
          obtain ⟨a2, ha2⟩ : ∃ a2, a2 = Cm.aftS c st (k + 1) := ⟨_, rfl⟩
          rw [← ha2] at HAS
          have HA2 := Lib.hid ha2
          clear ha2
          have hw : wrap64 ((2 : Int) ^ (n0 + k)) = ((2 ^ (n0 + k) : Nat) : Int) := by
            have e : ((2 ^ (n0 + k) : Nat) : Int) = (2 : Int) ^ (n0 + k) := by simp
            rw [← e]
            unfold wrap64
            omega
          have HOR := Lib.hid hor
          have HWR := Lib.hid hw
          clear hor hw
          generalize Cm.aftS c st k = a1 at *
          generalize Em.bitB v x = t at *
          go_wp2_with fail
          refine HVA.out.mono ?_
          rintro e w5 ⟨rfl, rfl⟩
          cases t with
          | false =>
            rw [if_neg (by simp), Nat.add_zero] at HAS
            go_wp2
            go_roundw
            case rel => exact ⟨k + 1, by omega, by go_num, by rw [← HA2.out, HAS.out], lo1, lo41, hbx1⟩
            case measure => simp [intOf]; omega
          | true =>
            rw [if_pos rfl] at HAS
            go_wp2
            exact ⟨⟨k + 1, by omega, by go_num, by rw [← HA2.out, HAS.out, HWR.out, HOR.out], lo1, lo41, hbx1⟩, by simp [intOf]; omega⟩
        · obtain rfl : k = c.ls.length := by omega
          rw [if_pos trivial] at HAF
          generalize Cm.aftS c st c.ls.length = a1 at *
          go_wp2
          go_ret
          exact ⟨by rw [HAF.out]; rfl, lo⟩
end Go.Proofs.Yteabffdddlihnaa
