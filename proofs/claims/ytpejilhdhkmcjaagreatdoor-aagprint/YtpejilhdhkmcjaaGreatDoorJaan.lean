/- The reference's names. -/
import Derived.Test.YtpejilhdhkmcjaaGreatDoorJaAl
import Derived.Test.YtpejilhdhkmcjaaGreatDoorJaam
namespace Go.Proofs.YtpejilhdhkmcjaaGreatDoor
open Go.RowKit

namespace Cm
def prevB (c : Cir) (i : Nat) (x : Nm) : Bool := match i with
 | 0 => true
 | j + 1 => match c.ns[j]? with
  | none => true
  | some y => !(decide (rankS x.1 < rankS y.1) || (decide (rankS y.1 = rankS x.1) && decide (x.2.1 ≤ y.2.1)))
def nmOk (c : Cir) (i : Nat) : Bool := match c.ns[i]? with
 | none => true
 | some x => wordB x.2.2 && decide (0 ≤ x.2.1) && decide (x.2.1 < numS c x.1) && decide (x.2.2 ∉ texts (c.ns.take i)) && prevB c i x
def namesB (c : Cir) : Bool := (List.range c.ns.length).all (nmOk c)
end Cm
theorem ixN (sb off N c r : Nat) (_hm : N ≤ 1000000) (hr : r < N) (w : World) : (Instr.indexAt 27 (.slice (some ⟨sb, off, none⟩) N c) (.int .i64 (r : Int))).run Tryz.prog w = .ok (.pointer (some ⟨sb, off + r * 3, none⟩)) w := by go_simp

set_option maxRecDepth 100000 in
set_option maxHeartbeats 16000000 in
theorem names_any (c : Cir) (w : World) (hM : CirM w w.heap.size c) (hW : CirW c) : Calls Tryz.prog 59 #[.agg #[.int .i64 c.n, .slice c.aL c.ls.length c.cL, .slice c.aG c.gs.length c.cG, .slice c.aO c.os.length c.cO, .slice c.aB c.bs.length c.cB, .slice c.aC c.cs.length c.cC, .slice c.aF c.fs.length c.cF, .slice c.aN c.ns.length c.cN]] w fun e w' => e = .returned (.bool (Cm.namesB c)) ∧ Below w.heap.size w w' := by
 have hnot : ∀ (x : Bool) (w : World), (Op.unary .not (.bool x)).run Tryz.prog w = .ok (.bool (!x)) w := fun _ _ => rfl
 have hln := hW.ln
 have HWk := Lib.hid hW.hk
 have HBX := Lib.hid (boxed w c)
 obtain ⟨z, hz⟩ : ∃ z, z = Cm.namesB c := ⟨_, rfl⟩
 rw [← hz]
 have HZ := Lib.hid hz
 clear hz
 go_enter Tryz.func59, Tryz.ntmps59
 go_wp2
 go_loopw [3] (fun iv wr => ∃ i : Nat, i ≤ c.ns.length ∧ iv = .int .i64 i ∧ (List.range i).all (Cm.nmOk c) = true ∧ Below w.heap.size w wr ∧ Blk wr w.heap.size 29 #[.int .i64 c.n, .slice c.aL c.ls.length c.cL, .slice c.aG c.gs.length c.cG, .slice c.aO c.os.length c.cO, .slice c.aB c.bs.length c.cB, .slice c.aC c.cs.length c.cC, .slice c.aF c.fs.length c.cF, .slice c.aN c.ns.length c.cN]) (fun iv _ => c.ns.length - (intOf iv).toNat)
 case atStart => exact ⟨0, Nat.zero_le _, rfl, rfl, lowAlloc w _, HBX.out⟩
 obtain ⟨i, hi, rfl, hall, lo, hbx⟩ := hrel
 by_cases hlt : i < c.ns.length
 ·
  have hNi := hM.hn.below lo (Nat.le_refl _)
  obtain ⟨b, off, hA, hbw, g1, g2, g3⟩ := hNi i hlt
  have hkk := HWk.out c.ns[i] (by simp)
  have e0 : c.ns[i]? = some c.ns[i] := by simp [hlt]
  have e1 : Cm.nmOk c i = (Cm.wordB c.ns[i].2.2 && decide (0 ≤ c.ns[i].2.1) && decide (c.ns[i].2.1 < Cm.numS c c.ns[i].1) && decide (c.ns[i].2.2 ∉ Cm.texts (c.ns.take i)) && Cm.prevB c i c.ns[i]) := by
   unfold Cm.nmOk
   rw [e0]
  have e2 : (List.range (i + 1)).all (Cm.nmOk c) = Cm.nmOk c i := by rw [List.range_succ, List.all_append, hall]; simp
  have e3 : Cm.nmOk c i = false → z = false := fun h => by
   rw [HZ.out]
   exact List.all_eq_false.2 ⟨i, by simpa using hlt, by simp [h]⟩
  have HNK : Hid (∀ V, Below wr.heap.size wr V → ∀ k (hk : k < c.ns.length), V.cell? ⟨b, off + k * 3, none⟩ = some (.int .u8 (c.ns[k]).1) ∧ V.cell? ⟨b, off + k * 3 + 1, none⟩ = some (.int .i64 (c.ns[k]).2.1) ∧ V.cell? ⟨b, off + k * 3 + 2, none⟩ = some (.string (c.ns[k]).2.2)) := by
   intro V hb k hk
   obtain ⟨b', off', hA', hbw', q1, q2, q3⟩ := hNi k hk
   rw [hA] at hA'
   injection hA' with hA'
   injection hA' with ha hb'
   subst ha hb'
   have hlt' := Nat.lt_of_lt_of_le hbw' lo.size
   exact ⟨(hb.cell (p := ⟨b, _, none⟩) hlt').trans q1, (hb.cell (p := ⟨b, _, none⟩) hlt').trans q2, (hb.cell (p := ⟨b, _, none⟩) hlt').trans q3⟩
  have HPV : Hid (∀ j, i = j + 1 → ∃ hj : j < c.ns.length, Cm.prevB c i c.ns[i] = !(decide (Cm.rankS c.ns[i].1 < Cm.rankS (c.ns[j]).1) || (decide (Cm.rankS (c.ns[j]).1 = Cm.rankS c.ns[i].1) && decide (c.ns[i].2.1 ≤ (c.ns[j]).2.1)))) := by
   intro j hj
   have hj' : j < c.ns.length := by omega
   refine ⟨hj', ?_⟩
   have e0 : c.ns[j]? = some c.ns[j] := by simp [hj']
   generalize c.ns[i] = y
   rw [hj]
   unfold Cm.prevB
   simp only [e0]
  have HP0 : Hid (i = 0 → Cm.prevB c i c.ns[i] = true) := by
   intro h
   generalize c.ns[i] = y
   rw [h]
   rfl
  have HMEM : Hid ((∀ k (hk : k < c.ns.length), k < i → (c.ns[k]).2.2 ≠ c.ns[i].2.2) → decide (c.ns[i].2.2 ∉ Cm.texts (c.ns.take i)) = true) := by
   intro h
   refine decide_eq_true fun hin => ?_
   obtain ⟨y, hy, he⟩ := List.mem_map.1 hin
   obtain ⟨k, hk, hk2⟩ := List.mem_take_iff_getElem.1 hy
   exact h k (by omega) (by omega) (by rw [hk2]; exact he)
  have HMEN : Hid (∀ k (hk : k < c.ns.length), k < i → (c.ns[k]).2.2 = c.ns[i].2.2 → decide (c.ns[i].2.2 ∉ Cm.texts (c.ns.take i)) = false) := by
   intro k hk hki he
   refine decide_eq_false fun hn => hn ?_
   rw [← he]
   exact List.mem_map_of_mem (List.mem_take_iff_getElem.2 ⟨k, by omega, rfl⟩)
  have hix := ixN b off c.ns.length c.cN i hln hlt
  have E1 := Lib.hid e1
  have E2 := Lib.hid e2
  have E3 := Lib.hid e3
  clear e0 e1 e2 e3 hall hNi
  have HWD := Lib.hid (fun V => Word_any c.ns[i].2.2 V hkk.2.2)
  have HMY := Lib.hid (fun V => many_any c c.ns[i].1 V)
  rw [hA]
  rw [hA] at hbx HMY
  clear hA
  generalize c.ns[i] = x at *
  obtain ⟨kd, at_, tx⟩ := x
  simp only at g1 g2 g3 hkk E1 HWD HMY HPV HP0 HMEM HMEN
  obtain ⟨⟨hk0, hk1⟩, ⟨ha0, ha1⟩, _⟩ := hkk
  have lx := lowAlloc wr (Obj.cells #[.int .u8 kd, .int .i64 at_, .string tx] 69)
  have hnb := Blk.new wr 69 #[.int .u8 kd, .int .i64 at_, .string tx]
  have hbx1 := hbx.alloc (Obj.cells #[.int .u8 kd, .int .i64 at_, .string tx] 69)
  have lo1 := lo.alloc lo.size (Obj.cells #[.int .u8 kd, .int .i64 at_, .string tx] 69)
  have c0 := hbx.cell 0; have c1 := hbx.cell 1; have c2 := hbx.cell 2; have c3 := hbx.cell 3; have c4 := hbx.cell 4; have c5 := hbx.cell 5; have c6 := hbx.cell 6; have c7 := hbx.cell 7; simp only [zD, zE, zF] at c0 c1 c2 c3 c4 c5 c6 c7
  go_upto_region 5 with fail
  clear c0 c1 c2 c3 c4 c5 c6 c7
  clear hbx g1 g2 g3
  generalize wr.alloc (Obj.cells #[.int .u8 kd, .int .i64 at_, .string tx] 69) = W at *
  have n0 := hnb.cell 0
  have n1 := hnb.cell 1
  have n2 := hnb.cell 2
  simp only [zD, zE, zF] at n0 n1 n2
  by_cases hwd : Cm.wordB tx = true
  ·
   rw [hwd] at HWD
   by_cases hat : at_ < 0
   ·
    have HF := Lib.hid (E3.out (by rw [E1.out, decide_eq_false (by omega : ¬ 0 ≤ at_)]; simp))
    have dd : decide (at_ < 0) = true := decide_eq_true hat
    go_quiet ((go_at_call 84; exact Calls.quiet_of_same ((HWD.out _).mono fun _ _ ⟨a, b⟩ => ⟨a, b.symm⟩)))
    go_wp2
    go_ret
    exact ⟨ret_bool HF.out.symm, by exact below_drewN lo1 _⟩
   have dd : decide (at_ < 0) = false := decide_eq_false hat
   rw [hwd, decide_eq_true (by omega : 0 ≤ at_)] at E1
   have HK : Hid (∀ V, Below W.heap.size W V → (V.cell? ⟨wr.heap.size, 0, none⟩ = some (.int .u8 kd) ∧ V.cell? ⟨wr.heap.size, 1, none⟩ = some (.int .i64 at_) ∧ V.cell? ⟨wr.heap.size, 2, none⟩ = some (.string tx)) ∧ V.cell? ⟨w.heap.size, 0, none⟩ = some (.int .i64 c.n) ∧ V.cell? ⟨w.heap.size, 1, none⟩ = some (.slice c.aL c.ls.length c.cL) ∧ V.cell? ⟨w.heap.size, 2, none⟩ = some (.slice c.aG c.gs.length c.cG) ∧ V.cell? ⟨w.heap.size, 3, none⟩ = some (.slice c.aO c.os.length c.cO) ∧ V.cell? ⟨w.heap.size, 4, none⟩ = some (.slice c.aB c.bs.length c.cB) ∧ V.cell? ⟨w.heap.size, 5, none⟩ = some (.slice c.aC c.cs.length c.cC) ∧ V.cell? ⟨w.heap.size, 6, none⟩ = some (.slice c.aF c.fs.length c.cF) ∧ V.cell? ⟨w.heap.size, 7, none⟩ = some (.slice (some ⟨b, off, none⟩) c.ns.length c.cN)) := by
    intro V hb
    have h := hbx1.below hb hbx1.lt
    have h2 := hnb.below hb hnb.lt
    exact ⟨⟨h2.cell 0, h2.cell 1, h2.cell 2⟩, h.cell 0, h.cell 1, h.cell 2, h.cell 3, h.cell 4, h.cell 5, h.cell 6, h.cell 7⟩
   have ly := Below.refl W.heap.size W
   clear n0 n1 n2
   go_region_held3 (fun V => (V.cell? ⟨wr.heap.size, 0, none⟩ = some (.int .u8 kd) ∧ V.cell? ⟨wr.heap.size, 1, none⟩ = some (.int .i64 at_) ∧ V.cell? ⟨wr.heap.size, 2, none⟩ = some (.string tx)) ∧ V.cell? ⟨w.heap.size, 0, none⟩ = some (.int .i64 c.n) ∧ V.cell? ⟨w.heap.size, 1, none⟩ = some (.slice c.aL c.ls.length c.cL) ∧ V.cell? ⟨w.heap.size, 2, none⟩ = some (.slice c.aG c.gs.length c.cG) ∧ V.cell? ⟨w.heap.size, 3, none⟩ = some (.slice c.aO c.os.length c.cO) ∧ V.cell? ⟨w.heap.size, 4, none⟩ = some (.slice c.aB c.bs.length c.cB) ∧ V.cell? ⟨w.heap.size, 5, none⟩ = some (.slice c.aC c.cs.length c.cC) ∧ V.cell? ⟨w.heap.size, 6, none⟩ = some (.slice c.aF c.fs.length c.cF) ∧ V.cell? ⟨w.heap.size, 7, none⟩ = some (.slice (some ⟨b, off, none⟩) c.ns.length c.cN))
    (first | exact HK.out _ ly | exact HK.out _ ly.drew)
    (first | (go_at_call 84; (with_reducible refine (HWD.out _).mono ?_); rintro e w1 ⟨rfl, rfl⟩) | (go_at_call 85; (with_reducible refine (HMY.out _).mono ?_); rintro e w2 ⟨rfl, hb2⟩; replace ly := ly.drew.trans hb2))
   replace lo1 := lo1.trans (ly.mono lo1.size)
   replace hbx1 := hbx1.below ly hbx1.lt
   replace hnb := hnb.below ly hnb.lt
   replace lx := lx.trans (ly.mono lx.size)
   clear HK HWD HMY ly
   by_cases hmx : Cm.numS c kd ≤ at_
   ·
    have HF := Lib.hid (E3.out (by rw [E1.out, decide_eq_false (by omega : ¬ at_ < Cm.numS c kd)]; simp))
    have dd2 : decide (Cm.numS c kd ≤ at_) = true := decide_eq_true hmx
    go_wp2
    go_ret
    exact ⟨ret_bool HF.out.symm, lo1⟩
   have dd2 : decide (Cm.numS c kd ≤ at_) = false := decide_eq_false hmx
   rw [decide_eq_true (by omega : at_ < Cm.numS c kd)] at E1
   simp only [Bool.true_and] at E1
   have HLX := Lib.hid lx
   have HLO := Lib.hid lo1
   have HB1 := Lib.hid hbx1
   have HNB := Lib.hid hnb
   clear lx lo1 hbx1 hnb
   generalize Cm.numS c kd = mx at *
   go_wp2
   go_loopw [5] (fun jv V => ∃ k : Nat, k ≤ i ∧ jv = .int .i64 k ∧ (∀ j (hj : j < c.ns.length), j < k → (c.ns[j]).2.2 ≠ tx) ∧ Below w.heap.size w V ∧ Below wr.heap.size wr V ∧ Blk V w.heap.size 29 #[.int .i64 c.n, .slice c.aL c.ls.length c.cL, .slice c.aG c.gs.length c.cG, .slice c.aO c.os.length c.cO, .slice c.aB c.bs.length c.cB, .slice c.aC c.cs.length c.cC, .slice c.aF c.fs.length c.cF, .slice (some ⟨b, off, none⟩) c.ns.length c.cN] ∧ Blk V wr.heap.size 69 #[.int .u8 kd, .int .i64 at_, .string tx]) (fun jv _ => i - (intOf jv).toNat)
   case atStart => exact ⟨0, Nat.zero_le _, rfl, fun j _ hj => by omega, HLO.out, HLX.out, HB1.out, HNB.out⟩
   obtain ⟨k, hk, rfl, hno, lo2, lx2, hbx2, hnb2⟩ := hrel
   have c7 := hbx2.cell 7
   have n0 := hnb2.cell 0
   have n1 := hnb2.cell 1
   have n2 := hnb2.cell 2
   simp only [zD, zE, zF] at c7 n0 n1 n2
   by_cases hki : k < i
   ·
    obtain ⟨q1, q2, q3⟩ := HNK.out _ lx2 k (by omega)
    have hixk := ixN b off c.ns.length c.cN k hln (by omega)
    have hse := str_eq (c.ns[k]'(by omega)).2.2 tx
    have HNO := Lib.hid hno
    have HMK := Lib.hid (HMEN.out k (by omega) hki)
    clear hno
    obtain ⟨tk, htk⟩ : ∃ tk, tk = (c.ns[k]'(by omega)).2.2 := ⟨_, rfl⟩
    rw [← htk] at q3 hse HMK
    have HTK := Lib.hid htk
    clear htk q1 q2
    by_cases he : tk = tx
    ·
     have HF := Lib.hid (E3.out (by rw [E1.out, HMK.out he]; simp))
     rw [decide_eq_true he] at hse
     clear he
     go_upto_region 10 with fail
     go_quiet (fail)
     go_wp2
     go_ret
     exact ⟨ret_bool HF.out.symm, by exact below_drewN lo2 _⟩
    rw [decide_eq_false he] at hse
    have HNX : Hid (∀ j (hj : j < c.ns.length), j < k + 1 → (c.ns[j]).2.2 ≠ tx) := fun j hj hjk => by
     by_cases hjj : j = k
     ·
      subst hjj
      rw [← HTK.out]
      exact he
     exact HNO.out j hj (by omega)
    clear he HNO HTK
    go_upto_region 10 with fail
    go_quiet (fail)
    go_wp2
    go_roundw
    case rel => exact ⟨k + 1, by omega, by go_num, HNX.out, by exact below_drewN lo2 _, by exact below_drewN lx2 _, hbx2.drewN _, hnb2.drewN _⟩
    case measure => simp [intOf]; omega
   obtain rfl : k = i := by omega
   have hmem := HMEM.out hno
   rw [hmem, Bool.true_and] at E1
   clear hno hmem HMEN HMEM
   by_cases h0 : k = 0
   ·
    have HT := Lib.hid (E2.out.trans (E1.out.trans (HP0.out h0)))
    subst h0
    go_wp2
    go_roundw
    case rel => exact ⟨0 + 1, by omega, by go_num, HT.out, lo2, hbx2⟩
    case measure => simp [intOf]; omega
   obtain ⟨j, rfl⟩ : ∃ j, k = j + 1 := ⟨k - 1, by omega⟩
   obtain ⟨hj, hpv⟩ := HPV.out j rfl
   obtain ⟨q1, q2, q3⟩ := HNK.out _ lx2 j hj
   have hixj := ixN b off c.ns.length c.cN j hln hj
   have hkj := (HWk.out c.ns[j] (by simp)).1
   rw [hpv] at E1
   have dd0 : decide ((0 : Int) < ((j : Int) + 1)) = true := decide_eq_true (by omega)
   clear hpv HPV HP0
   obtain ⟨y, hy⟩ : ∃ y, y = c.ns[j] := ⟨_, rfl⟩
   rw [← hy] at q1 q2 q3 E1 hkj
   clear hy
   obtain ⟨kj, aj, tj⟩ := y
   simp only at q1 q2 q3 E1 hkj
   go_upto_region 13 with fail
   go_quiet ((go_at_call 86; exact Calls.quiet_of_same ((rank_any _ _).mono fun _ _ ⟨a, b⟩ => ⟨a, b.symm⟩)))
   generalize Cm.rankS kj = ra at *
   generalize Cm.rankS kd = rb at *
   by_cases hab : rb < ra
   ·
    have HF := Lib.hid (E3.out (by rw [E1.out, decide_eq_true hab]; rfl))
    have d1 : decide (rb < ra) = true := decide_eq_true hab
    go_upto_region 14 with fail
    go_quiet (fail)
    go_wp2
    go_ret
    exact ⟨ret_bool HF.out.symm, (by first | exact below_drewN lo2 _ | exact below_drewN (below_drewN lo2 _) _)⟩
   have d1 : decide (rb < ra) = false := decide_eq_false hab
   rw [d1, Bool.false_or] at E1
   by_cases heq : ra = rb
   ·
    have d2 : (ra == rb) = true := by simpa using heq
    rw [decide_eq_true heq, Bool.true_and] at E1
    by_cases hge : at_ ≤ aj
    ·
     have HF := Lib.hid (E3.out (by rw [E1.out, decide_eq_true hge]; rfl))
     have d3 : decide (at_ ≤ aj) = true := decide_eq_true hge
     clear heq
     go_upto_region 14 with fail
     go_quiet (fail)
     go_wp2
     go_ret
     exact ⟨ret_bool HF.out.symm, (by first | exact below_drewN lo2 _ | exact below_drewN (below_drewN lo2 _) _)⟩
    have HT := Lib.hid (E2.out.trans (E1.out.trans (by rw [decide_eq_false hge]; rfl : _ = true)))
    have d3 : decide (at_ ≤ aj) = false := decide_eq_false hge
    clear heq
    go_upto_region 14 with fail
    go_quiet (fail)
    go_wp2
    go_roundw
    case rel => exact ⟨j + 1 + 1, by omega, by go_num, HT.out, (by first | exact below_drewN lo2 _ | exact below_drewN (below_drewN lo2 _) _), (by first | exact hbx2.drewN _ | exact (hbx2.drewN _).drewN _)⟩
    case measure => simp [intOf]; omega
   have d2 : (ra == rb) = false := by simpa using heq
   have HT := Lib.hid (E2.out.trans (E1.out.trans (by rw [decide_eq_false heq]; rfl : _ = true)))
   clear heq
   go_upto_region 14 with fail
   go_quiet (fail)
   go_wp2
   go_roundw
   case rel => exact ⟨j + 1 + 1, by omega, by go_num, HT.out, (by first | exact below_drewN lo2 _ | exact below_drewN (below_drewN lo2 _) _), (by first | exact hbx2.drewN _ | exact (hbx2.drewN _).drewN _)⟩
   case measure => simp [intOf]; omega
  rw [Bool.not_eq_true] at hwd
  rw [hwd] at HWD
  have HF := Lib.hid (E3.out (by rw [E1.out, hwd]; rfl))
  go_quiet ((go_at_call 84; exact Calls.quiet_of_same ((HWD.out _).mono fun _ _ ⟨a, b⟩ => ⟨a, b.symm⟩)))
  go_wp2
  go_ret
  exact ⟨ret_bool HF.out.symm, by exact below_drewN lo1 _⟩
 obtain rfl : i = c.ns.length := by omega
 have c7 := hbx.cell 7
 simp only [zD, zE, zF] at c7
 have HA : Hid (z = true) := HZ.out.trans hall
 clear hall
 go_wp2
 go_ret
 exact ⟨ret_bool HA.out.symm, lo⟩
end Go.Proofs.YtpejilhdhkmcjaaGreatDoor
/- The names, as the program and as the reference look at them: the same. -/
namespace Go.Proofs.YtpejilhdhkmcjaaGreatDoor
open Go.RowKit
namespace Cm

def OkAt (c : Cir) (x : Nm) : Prop := 0 ≤ x.2.1 ∧ x.2.1 < numS c x.1
def Lt2 (y x : Nm) : Prop := rankS y.1 ≤ rankS x.1 ∧ (rankS y.1 = rankS x.1 → y.2.1 < x.2.1)
def Ch (c : Cir) : List Nm → Prop
 | [] => True
 | [x] => OkAt c x
 | x :: y :: l => OkAt c x ∧ Lt2 x y ∧ Ch c (y :: l)
theorem rank_le (k : Int) : rankS k ≤ 5 := by
 unfold rankS
 repeat' split
 all_goals omega
theorem rank_eq (k : Int) (j : Nat) (hj : j < 6) (h : rankS k = j) : k = kindAt j := by
 by_cases hh : ∃ i, i < 6 ∧ kindAt i = k
 ·
  obtain ⟨i, hi, rfl⟩ := hh
  rw [rank_at i hi] at h
  have : i = j := by omega
  rw [this]
 have := rank_none k (fun i hi e => hh ⟨i, hi, e⟩)
 omega
theorem ok_rank {c : Cir} {x : Nm} (h : OkAt c x) : 0 ≤ rankS x.1 := by
 by_cases hh : ∃ i, i < 6 ∧ kindAt i = x.1
 ·
  obtain ⟨i, hi, e⟩ := hh
  rw [← e, rank_at i hi]
  omega
 have hn : ∀ j, j < 6 → kindAt j ≠ x.1 := fun i hi e => hh ⟨i, hi, e⟩
 have h0 := hn 0 (by omega)
 have h1 := hn 1 (by omega)
 have h2 := hn 2 (by omega)
 have h3 := hn 3 (by omega)
 have h4 := hn 4 (by omega)
 have h5 := hn 5 (by omega)
 simp only [kindAt, List.getD_cons_zero, List.getD_cons_succ] at h0 h1 h2 h3 h4 h5
 have hz : numS c x.1 = 0 := by
  unfold numS lstS
  rw [if_neg (Ne.symm h0), if_neg (Ne.symm h1), if_neg (Ne.symm h2), if_neg (Ne.symm h3), if_neg (Ne.symm h4), if_neg (Ne.symm h5)]
  rfl
 have := h.1
 have := h.2
 omega
def Hd (f : Nat) (z : Int) : List Nm → Prop
 | [] => True
 | x :: _ => 6 - (f : Int) ≤ rankS x.1 ∧ (rankS x.1 = 6 - (f : Int) → z ≤ x.2.1)
theorem Ch.cons {c : Cir} {x : Nm} {l : List Nm} : Ch c (x :: l) ↔ OkAt c x ∧ Hd 6 0 l ∧ (match l with | [] => True | y :: _ => Lt2 x y) ∧ Ch c l := by
 cases l with
 | nil => simp [Ch, Hd]
 | cons y t =>
  simp only [Ch, Hd]
  constructor
  ·
   rintro ⟨h1, h2, h3⟩
   have : OkAt c y := by
    cases t with
    | nil => exact h3
    | cons u v => exact h3.1
   exact ⟨h1, ⟨by have := ok_rank this; omega, fun _ => this.1⟩, h2, h3⟩
  rintro ⟨h1, _, h2, h3⟩
  exact ⟨h1, h2, h3⟩
theorem Ch.ok {c : Cir} {x : Nm} {l : List Nm} (h : Ch c (x :: l)) : OkAt c x := (Ch.cons.1 h).1
theorem ord_ch (c : Cir) : ∀ (f : Nat) (l : List Nm) (z : Int), f ≤ 6 → 0 ≤ z → (ordS c f z l = true ↔ Hd f z l ∧ Ch c l) := by
 intro f
 induction f with
 | zero =>
  intro l z _ hz
  cases l with
  | nil => simp [ordS_nil, Hd, Ch]
  | cons x t =>
   rw [ordS_none]
   simp only [Hd]
   have := rank_le x.1
   constructor
   ·
    intro h; cases h
   rintro ⟨⟨h, _⟩, _⟩
   omega
 | succ f ih =>
  intro l
  induction l with
  | nil => intro z _ _; simp [ordS_nil, Hd, Ch]
  | cons x t iht =>
   intro z hf hz
   rw [ordS_cons]
   have hk : (6 : Int) - ((f + 1 : Nat) : Int) = ((5 - f : Nat) : Int) := by omega
   by_cases hx : x.1 = kindAt (5 - f)
   ·
    rw [if_pos hx]
    have hr : rankS x.1 = ((5 - f : Nat) : Int) := by rw [hx]; exact rank_at _ (by omega)
    simp only [Bool.and_eq_true, decide_eq_true_eq]
    constructor
    ·
     rintro ⟨⟨h1, h2⟩, h3⟩
     rw [iht (x.2.1 + 1) hf (by omega)] at h3
     refine ⟨⟨by omega, fun _ => h1⟩, ?_⟩
     cases t with
     | nil => exact ⟨by omega, h2⟩
     | cons y u =>
      refine ⟨⟨by omega, h2⟩, ?_, h3.2⟩
      have := h3.1
      simp only [Hd] at this
      refine ⟨by omega, fun e => ?_⟩
      have := this.2 (by omega)
      omega
    rintro ⟨⟨h1, h2⟩, h3⟩
    have hok := h3.ok
    refine ⟨⟨h2 (by omega), hok.2⟩, (iht (x.2.1 + 1) hf (by have := hok.1; omega)).2 ?_⟩
    cases t with
    | nil => exact ⟨trivial, trivial⟩
    | cons y u =>
     obtain ⟨_, hlt, hch⟩ := h3
     refine ⟨⟨by have := hlt.1; omega, fun e => ?_⟩, hch⟩
     have := hlt.2 (by omega)
     omega
   rw [if_neg hx, ih (x :: t) 0 (by omega) (by omega)]
   have hne : rankS x.1 ≠ ((5 - f : Nat) : Int) := fun e => hx (rank_eq _ _ (by omega) e)
   simp only [Hd]
   constructor
   ·
    rintro ⟨⟨h1, _⟩, h3⟩
    exact ⟨⟨by omega, fun e => absurd (e.trans hk) hne⟩, h3⟩
   rintro ⟨⟨h1, _⟩, h3⟩
   exact ⟨⟨by omega, fun _ => h3.ok.1⟩, h3⟩
theorem ord_iff (c : Cir) (l : List Nm) : ordS c 6 0 l = true ↔ Ch c l := by
 rw [ord_ch c 6 l 0 (by omega) (by omega)]
 constructor
 ·
  exact fun h => h.2
 intro h
 refine ⟨?_, h⟩
 cases l with
 | nil => trivial
 | cons x t => exact ⟨by have := ok_rank h.ok; omega, fun _ => h.ok.1⟩
theorem ch_iff (c : Cir) (l : List Nm) : Ch c l ↔ (∀ i (h : i < l.length), OkAt c l[i]) ∧ ∀ j (h : j + 1 < l.length), Lt2 l[j] l[j + 1] := by
 induction l with
 | nil => simp [Ch]
 | cons x t ih =>
  cases t with
  | nil =>
   simp only [Ch]
   constructor
   ·
    intro h
    refine ⟨fun i hi => ?_, fun j hj => by simp at hj⟩
    have : i = 0 := by simpa using hi
    subst this
    exact h
   intro h
   exact h.1 0 (by simp)
  | cons y u =>
   rw [show Ch c (x :: y :: u) = (OkAt c x ∧ Lt2 x y ∧ Ch c (y :: u)) from rfl, ih]
   constructor
   ·
    rintro ⟨h1, h2, h3, h4⟩
    refine ⟨fun i hi => ?_, fun j hj => ?_⟩
    ·
     cases i with
     | zero => exact h1
     | succ i => exact h3 i (by simpa using hi)
    cases j with
    | zero => exact h2
    | succ j => exact h4 j (by simpa using hj)
   rintro ⟨h1, h2⟩
   exact ⟨h1 0 (by simp), h2 0 (by simp), fun i hi => h1 (i + 1) (by simpa using hi), fun j hj => h2 (j + 1) (by simpa using hj)⟩
theorem nodup_iff (ts : List ByteArray) : ts.Nodup ↔ ∀ i (h : i < ts.length), ts[i] ∉ ts.take i := by
 have key : ∀ k, k ≤ ts.length → ((ts.take k).Nodup ↔ ∀ i (h : i < ts.length), i < k → ts[i] ∉ ts.take i) := by
  intro k
  induction k with
  | zero => intro _; simp
  | succ k ih =>
   intro hk
   have hk' : k < ts.length := by omega
   have hn : (ts.take (k + 1)).Nodup ↔ (ts.take k).Nodup ∧ ts[k] ∉ ts.take k := by
    rw [List.take_succ_eq_append_getElem hk', List.nodup_append]
    constructor
    ·
     rintro ⟨h1, _, h3⟩
     exact ⟨h1, fun hm => h3 _ hm _ (by simp) rfl⟩
    rintro ⟨h1, h2⟩
    refine ⟨h1, by simp, ?_⟩
    intro a ha b hb
    simp at hb
    subst hb
    intro e
    subst e
    exact h2 ha
   rw [hn, ih (by omega)]
   constructor
   ·
    rintro ⟨h1, h2⟩ i hi hik
    by_cases e : i = k
    ·
     subst e; exact h2
    exact h1 i hi (by omega)
   intro h
   exact ⟨fun i hi hik => h i hi (by omega), h k hk' (by omega)⟩
 have := key ts.length (Nat.le_refl _)
 rw [List.take_length] at this
 rw [this]
 exact ⟨fun h i hi => h i hi hi, fun h i hi _ => h i hi⟩
theorem names_same (c : Cir) : namesB c = namedB c := by
 rw [Bool.eq_iff_iff]
 unfold namesB namedB
 simp only [List.all_eq_true, List.mem_range, Bool.and_eq_true, decide_eq_true_eq]
 rw [ord_iff, ch_iff, nodup_iff]
 have hnm : ∀ i (h : i < c.ns.length), nmOk c i = true ↔ (wordB c.ns[i].2.2 = true ∧ OkAt c c.ns[i] ∧ c.ns[i].2.2 ∉ texts (c.ns.take i) ∧ prevB c i c.ns[i] = true) := by
  intro i h
  have e0 : c.ns[i]? = some c.ns[i] := by simp [h]
  unfold nmOk
  rw [e0]
  simp only [Bool.and_eq_true, decide_eq_true_eq, OkAt]
  constructor
  ·
   rintro ⟨⟨⟨⟨h1, h2⟩, h3⟩, h4⟩, h5⟩
   exact ⟨h1, ⟨h2, h3⟩, h4, h5⟩
  rintro ⟨h1, ⟨h2, h3⟩, h4, h5⟩
  exact ⟨⟨⟨⟨h1, h2⟩, h3⟩, h4⟩, h5⟩
 have hpv : ∀ j (h : j + 1 < c.ns.length), prevB c (j + 1) c.ns[j + 1] = true ↔ Lt2 c.ns[j] c.ns[j + 1] := by
  intro j h
  have e0 : c.ns[j]? = some c.ns[j] := by simp [show j < c.ns.length by omega]
  unfold prevB
  simp only [e0]
  simp only [Bool.not_eq_true', Bool.or_eq_false_iff, Bool.and_eq_false_iff, decide_eq_false_iff_not, Lt2]
  omega
 constructor
 ·
  intro h
  refine ⟨⟨⟨fun i hi => ((hnm i hi).1 (h i hi)).2.1, fun j hj => (hpv j hj).1 ((hnm _ hj).1 (h _ hj)).2.2.2⟩, fun x hx => ?_⟩, fun i hi => ?_⟩
  ·
   obtain ⟨i, hi, rfl⟩ := List.mem_iff_getElem.1 hx
   exact ((hnm i hi).1 (h i hi)).1
  have hi' : i < c.ns.length := by simpa [texts] using hi
  have := ((hnm i hi').1 (h i hi')).2.2.1
  simpa [texts, List.map_take] using this
 rintro ⟨⟨⟨h1, h2⟩, h3⟩, h4⟩ i hi
 rw [hnm i hi]
 refine ⟨h3 _ (by simp), h1 i hi, ?_, ?_⟩
 ·
  have := h4 i (by simpa [texts] using hi)
  simpa [texts, List.map_take] using this
 cases i with
 | zero => rfl
 | succ j => exact (hpv j hi).2 (h2 j hi)
end Cm
end Go.Proofs.YtpejilhdhkmcjaaGreatDoor
