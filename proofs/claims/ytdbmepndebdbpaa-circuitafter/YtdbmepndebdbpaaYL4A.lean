/- CircuitAfter, walked. -/
import Derived.Test.YtdbmepndebdbpaaQar
import Derived.Test.YtdbmepndebdbpaaQaq
namespace Go.Proofs.Ytdbmepndebdbpaa
open Go.RowKit

theorem two_small (a : Nat) (h : a ≤ 6) : 2 ^ a ≤ 64 ∧ 1 ≤ 2 ^ a := by
  have h1 : 2 ^ a ≤ 2 ^ 6 := Nat.pow_le_pow_right (by omega) h
  have h2 := Nat.two_pow_pos a
  omega
theorem wrap_two (a : Nat) (h : a ≤ 6) : wrap64 ((2 : Int) ^ a) = ((2 ^ a : Nat) : Int) := by
  have h1 := two_small a h
  have e : (2 : Int) ^ a = ((2 ^ a : Nat) : Int) := by simp
  rw [e]
  unfold wrap64
  omega
theorem step_small {c : Cir} (hr : Cm.rightC c = true) (h : c.n + c.ls.length ≤ 6) : Cm.stepB c = true := by
  unfold Cm.stepB
  rw [hr]
  simp
  omega
theorem after_small {c : Cir} (hr : Cm.rightC c = true) (h : c.n + c.ls.length ≤ 6) (s : Int) : Cm.afterS c s = (Cm.aftS c s c.ls.length : Int) := by
  unfold Cm.afterS
  rw [if_pos (step_small hr h)]
theorem after_bit {c : Cir} {n0 : Nat} (hr : Cm.rightC c = true) (hn : c.n = (n0 : Int)) (h : c.n + c.ls.length ≤ 6) (s : Int) (k : Nat) (hk : k < c.ls.length) :
    ((Cm.afterS c s / 2 ^ ((n0 : Int) + (k : Int)).toNat).tmod 2 == 1) = Cm.isS c s c.ls[k].1 := by
  have hb := Cm.aft_bit c s k c.ls.length hk
  have e1 : ((n0 : Int) + (k : Int)).toNat = n0 + k := by omega
  have e2 : c.n.toNat = n0 := by omega
  have e3 : (2 : Int) ^ (n0 + k) = ((2 ^ (n0 + k) : Nat) : Int) := by simp
  have e4 : c.ls.getD k (0, 0) = c.ls[k] := by simp [List.getD_eq_getElem?_getD, List.getElem?_eq_getElem hk]
  rw [e2, e4] at hb
  rw [after_small hr h, e1, e3, ← Int.natCast_ediv]
  have e5 : ((Cm.aftS c s c.ls.length / 2 ^ (n0 + k) : Nat) : Int).tmod 2 = ((Cm.aftS c s c.ls.length / 2 ^ (n0 + k) % 2 : Nat) : Int) := by
    rw [Int.tmod_eq_emod_of_nonneg (Int.natCast_nonneg _)]
    exact (Int.natCast_emod _ _).symm
  rw [e5, hb]
  cases Cm.isS c s c.ls[k].1 <;> rfl
set_option maxRecDepth 100000 in
set_option maxHeartbeats 8000000 in
theorem circuitAfter_walk (A0 : Option Addr) (k0 : Nat) (zs : List Int) (a1 a2 : Int) (w : World) (hml : zs.length ≤ maxLen) (hU : Us w w.heap.size A0 zs) (h1 : 0 ≤ a1) (h1' : a1 ≤ 255) (h2 : -9223372036854775808 ≤ a2) (h2' : a2 ≤ 9223372036854775807) :
    Calls Try.prog 4 #[.slice A0 zs.length k0, .int .u8 a1, .int .i64 a2] w fun e w' => e = .returned (.bool true) ∧ Below w.heap.size w w' := by
  have HML := Lib.hid hml
  clear hml
  go_enter Try.func4, Try.ntmps4
  go_wp2_with fail
  refine (awake4_any w).mono ?_
  rintro e w1 ⟨rfl, lo⟩
  have hU1 := (hU.below lo (Nat.le_refl _)).more lo.size
  clear hU
  go_wp2_with fail
  refine (made4_any A0 k0 zs w1 HML.out hU1).mono ?_
  rintro e w2 ⟨c, rfl, hC, hW, hMM, hb2⟩
  replace lo := lo.trans (hb2.mono lo.size)
  obtain ⟨hM, hcap⟩ := hMM.cir
  have hbx := boxed w2 c
  have lx := lowAlloc w2 (Obj.cells #[.int .i64 c.n, .slice c.aL c.ls.length c.cL, .slice c.aG c.gs.length c.cG, .slice c.aO c.os.length c.cO, .slice c.aB c.bs.length c.cB, .slice c.aC c.cs.length c.cC, .slice c.aF c.fs.length c.cF, .slice c.aN c.ns.length c.cN] 29)
  replace lo := lo.trans (lx.mono lo.size)
  replace hM := (hM.below lx (Nat.le_refl _)).more lx.size
  clear hMM hU1 hb2 lx
  go_upto_region 5 with fail
  generalize w2.alloc (Obj.cells #[.int .i64 c.n, .slice c.aL c.ls.length c.cL, .slice c.aG c.gs.length c.cG, .slice c.aO c.os.length c.cO, .slice c.aB c.bs.length c.cB, .slice c.aC c.cs.length c.cC, .slice c.aF c.fs.length c.cF, .slice c.aN c.ns.length c.cN] 29) = W at *
  generalize w2.heap.size = B0 at *
  have g40 := hC.g40
  have HAF := Lib.hid (fun V st (hb : Below W.heap.size W V) (hs : I64 st) => After_any c st V ((hM.below hb (Nat.le_refl _)).more hb.size) hW hcap hs (by omega))
  have HIS := Lib.hid (fun V st l (hb : Below W.heap.size W V) (hs : I64 st) => Is_any c st l V ((hM.below hb (Nat.le_refl _)).more hb.size) hW hcap hs (by omega))
  have HM := Lib.hid hM
  obtain ⟨n0, hn0⟩ := Int.eq_ofNat_of_zero_le hC.n0
  have hn3 := hC.n3
  have hl1 := hC.l1
  have hl3 := hC.l3
  have HR := Lib.hid hC.right
  rw [hn0] at HAF HIS hbx hn3
  obtain ⟨b, off, hA, hb0, _, _⟩ := hM.hl 0 (by omega)
  rw [hA] at HAF HIS hbx
  have HLA : Hid (∀ V, Below W.heap.size W V → ∀ k (hk : k < c.ls.length), V.cell? ⟨b, off + k * 2, none⟩ = some (.int .i64 c.ls[k].1)) := by
    intro V hb k hk
    obtain ⟨b', off', hA', _, g1, _⟩ := (HM.out.hl.below hb (Nat.le_refl _)) k hk
    rw [hA] at hA'
    injection hA' with e
    injection e with e1 e2
    subst e1 e2
    exact g1
  have HN0 := Lib.hid hn0
  have hwp := wrap_two (n0 + c.ls.length) (by omega)
  have hp64 := two_small (n0 + c.ls.length) (by omega)
  obtain ⟨p, hp⟩ : ∃ p : Nat, p = 2 ^ (n0 + c.ls.length) := ⟨_, rfl⟩
  rw [← hp] at hwp hp64
  have HP := Lib.hid hp
  obtain ⟨hp1, hp2⟩ := hp64
  clear hC hM hn0 hp hcap hW hA hb0
  have hs0 : 0 ≤ a1 % (p : Int) := Int.emod_nonneg _ (by omega)
  have hs1 : a1 % (p : Int) < (p : Int) := Int.emod_lt_of_pos _ (by omega)
  have hpz : ¬ ((p : Int) = 0) := by omega
  have lx := Below.refl W.heap.size W
  have HBX := Lib.hid hbx
  have HK : Hid (∀ V, Below W.heap.size W V → (fun V => V.cell? ⟨B0, 0, none⟩ = some (.int .i64 (n0 : Int)) ∧ V.cell? ⟨B0, 1, none⟩ = some (.slice (some ⟨b, off, none⟩) c.ls.length c.cL) ∧ V.cell? ⟨B0, 2, none⟩ = some (.slice c.aG c.gs.length c.cG) ∧ V.cell? ⟨B0, 3, none⟩ = some (.slice c.aO c.os.length c.cO) ∧ V.cell? ⟨B0, 4, none⟩ = some (.slice c.aB c.bs.length c.cB) ∧ V.cell? ⟨B0, 5, none⟩ = some (.slice c.aC c.cs.length c.cC) ∧ V.cell? ⟨B0, 6, none⟩ = some (.slice c.aF c.fs.length c.cF) ∧ V.cell? ⟨B0, 7, none⟩ = some (.slice c.aN c.ns.length c.cN)) V) := by
    intro V hb
    have h := HBX.out.below hb HBX.out.lt
    exact ⟨h.cell 0, h.cell 1, h.cell 2, h.cell 3, h.cell 4, h.cell 5, h.cell 6, h.cell 7⟩
  have c0 := hbx.cell 0; have c1 := hbx.cell 1; have c2 := hbx.cell 2; have c3 := hbx.cell 3; have c4 := hbx.cell 4; have c5 := hbx.cell 5; have c6 := hbx.cell 6; have c7 := hbx.cell 7; simp only [List.getElem?_toArray, List.getElem?_cons_zero, List.getElem?_cons_succ] at c0 c1 c2 c3 c4 c5 c6 c7
  go_wp2_with fail
  generalize a1 % (p : Int) = s at *
  refine (HAF.out _ _ lx ⟨by omega, by omega⟩).mono ?_
  rintro e W1 ⟨rfl, hb1⟩
  replace lx := lx.trans hb1
  clear c0 c1 c2 c3 c4 c5 c6 c7
  clear hb1
  have hbx := HBX.out.below lx HBX.out.lt
  obtain ⟨a, ha⟩ : ∃ a, a = Cm.afterS c s := ⟨_, rfl⟩
  rw [← ha]
  have HA := Lib.hid ha
  clear ha
  have hk0 : -999 ≤ a2.tmod 1000 ∧ a2.tmod 1000 ≤ 999 := by
    have q1 := Int.tmod_lt_of_pos a2 (b := 1000) (by omega)
    have q2 := Int.lt_tmod_of_pos a2 (b := 1000) (by omega)
    omega
  have HA2 : Hid (∀ V, Below W.heap.size W V → Calls Try.prog 9 #[.agg #[.int .i64 (n0 : Int), .slice (some ⟨b, off, none⟩) c.ls.length c.cL, .slice c.aG c.gs.length c.cG, .slice c.aO c.os.length c.cO, .slice c.aB c.bs.length c.cB, .slice c.aC c.cs.length c.cC, .slice c.aF c.fs.length c.cF, .slice c.aN c.ns.length c.cN], .int .i64 (IntKind.i64.wrap (s + IntKind.i64.wrap (a2.tmod 1000 * IntKind.i64.wrap (2 ^ ((n0 : Int) + (c.ls.length : Int)).toNat))))] V fun e w' => e = .returned (.int .i64 a) ∧ Below V.heap.size V w') := by
    intro V hb
    have e1 : ((n0 : Int) + (c.ls.length : Int)).toNat = n0 + c.ls.length := by omega
    have e2 : IntKind.i64.wrap ((2 : Int) ^ (n0 + c.ls.length)) = (p : Int) := by
      have e : (2 : Int) ^ (n0 + c.ls.length) = (p : Int) := by rw [HP.out]; simp
      rw [e, IntKind.wrap_i64]
      omega
    generalize hkk : a2.tmod 1000 = k at *
    have e3 : -63936 ≤ k * (p : Int) ∧ k * (p : Int) ≤ 63936 := by
      have q1 : k * (p : Int) ≤ 999 * (p : Int) := Int.mul_le_mul_of_nonneg_right (by omega) (by omega)
      have q2 : -999 * (p : Int) ≤ k * (p : Int) := Int.mul_le_mul_of_nonneg_right (by omega) (by omega)
      omega
    have e4 : IntKind.i64.wrap (s + IntKind.i64.wrap (k * (p : Int))) = s + k * (p : Int) := by
      rw [IntKind.wrap_i64, IntKind.wrap_i64]
      omega
    have e5 : (p : Int) = 2 ^ (n0 + c.ls.length) := by rw [HP.out]; simp
    have := HAF.out V (s + k * (p : Int)) hb ⟨by omega, by omega⟩
    rw [e5, after_more c s k (n0 + c.ls.length) (by rw [HN0.out]; omega), ← HA.out, ← e5] at this
    rw [e1, e2, e4]
    exact this
  go_upto_region 8 with fail
  refine wp_region_held_drew (S := (fun V => V.cell? ⟨B0, 0, none⟩ = some (.int .i64 (n0 : Int)) ∧ V.cell? ⟨B0, 1, none⟩ = some (.slice (some ⟨b, off, none⟩) c.ls.length c.cL) ∧ V.cell? ⟨B0, 2, none⟩ = some (.slice c.aG c.gs.length c.cG) ∧ V.cell? ⟨B0, 3, none⟩ = some (.slice c.aO c.os.length c.cO) ∧ V.cell? ⟨B0, 4, none⟩ = some (.slice c.aB c.bs.length c.cB) ∧ V.cell? ⟨B0, 5, none⟩ = some (.slice c.aC c.cs.length c.cC) ∧ V.cell? ⟨B0, 6, none⟩ = some (.slice c.aF c.fs.length c.cF) ∧ V.cell? ⟨B0, 7, none⟩ = some (.slice c.aN c.ns.length c.cN))) (by kernel_rfl) ?_ (fun hHeld => ?_)
  · exact HK.out _ lx.drew
  refine wpAnyH_take (i := 0) (oi := ⟨some 33, _, _, _, _, _⟩) (v := ?_) rfl (by kernel_rfl) (by kernel_rfl) (by kernel_rfl) (fun _ _ _ h => h) (Or.inl ⟨by rfl, ?_⟩) hHeld ?_
  rotate_left
  · intro w hSw
    (try dsimp only at hSw)
    first | (go_simp; done) | (go_simp; with_reducible rfl) | with_reducible rfl
  try simp only [Act.put, List.setIfInBounds_toArray, List.set_cons_zero, List.set_cons_succ]
  refine wpAnyH_take (i := 1) (oi := ⟨some 34, _, _, _, _, _⟩) (v := ?_) rfl (by kernel_rfl) (by kernel_rfl) (by kernel_rfl) (fun _ _ _ h => h) (Or.inl ⟨by rfl, ?_⟩) hHeld ?_
  rotate_left
  · intro w hSw
    (try dsimp only at hSw)
    first | (go_simp; done) | (go_simp; with_reducible rfl) | with_reducible rfl
  try simp only [Act.put, List.setIfInBounds_toArray, List.set_cons_zero, List.set_cons_succ]
  refine wpAnyH_take (i := 2) (oi := ⟨some 35, _, _, _, _, _⟩) (v := ?_) rfl (by kernel_rfl) (by kernel_rfl) (by kernel_rfl) (fun _ _ _ h => h) (Or.inl ⟨by rfl, ?_⟩) hHeld ?_
  rotate_left
  · intro w hSw
    (try dsimp only at hSw)
    first | (go_simp; done) | (go_simp; with_reducible rfl) | with_reducible rfl
  try simp only [Act.put, List.setIfInBounds_toArray, List.set_cons_zero, List.set_cons_succ]
  refine wpAnyH_take (i := 3) (oi := ⟨some 36, _, _, _, _, _⟩) (v := ?_) rfl (by kernel_rfl) (by kernel_rfl) (by kernel_rfl) (fun _ _ _ h => h) (Or.inl ⟨by rfl, ?_⟩) hHeld ?_
  rotate_left
  · intro w hSw
    (try dsimp only at hSw)
    first | (go_simp; done) | (go_simp; with_reducible rfl) | with_reducible rfl
  try simp only [Act.put, List.setIfInBounds_toArray, List.set_cons_zero, List.set_cons_succ]
  refine wpAnyH_take (i := 4) (oi := ⟨some 37, _, _, _, _, _⟩) (v := ?_) rfl (by kernel_rfl) (by kernel_rfl) (by kernel_rfl) (fun _ _ _ h => h) (Or.inl ⟨by rfl, ?_⟩) hHeld ?_
  rotate_left
  · intro w hSw
    (try dsimp only at hSw)
    first | (go_simp; done) | (go_simp; with_reducible rfl) | with_reducible rfl
  try simp only [Act.put, List.setIfInBounds_toArray, List.set_cons_zero, List.set_cons_succ]
  refine wpAnyH_take (i := 5) (oi := ⟨some 38, _, _, _, _, _⟩) (v := ?_) rfl (by kernel_rfl) (by kernel_rfl) (by kernel_rfl) (fun _ _ _ h => h) (Or.inl ⟨by rfl, ?_⟩) hHeld ?_
  rotate_left
  · intro w hSw
    (try dsimp only at hSw)
    first | (go_simp; done) | (go_simp; with_reducible rfl) | with_reducible rfl
  try simp only [Act.put, List.setIfInBounds_toArray, List.set_cons_zero, List.set_cons_succ]
  refine wpAnyH_take (i := 6) (oi := ⟨some 39, _, _, _, _, _⟩) (v := ?_) rfl (by kernel_rfl) (by kernel_rfl) (by kernel_rfl) (fun _ _ _ h => h) (Or.inl ⟨by rfl, ?_⟩) hHeld ?_
  rotate_left
  · intro w hSw
    (try dsimp only at hSw)
    first | (go_simp; done) | (go_simp; with_reducible rfl) | with_reducible rfl
  try simp only [Act.put, List.setIfInBounds_toArray, List.set_cons_zero, List.set_cons_succ]
  refine wpAnyH_take (i := 7) (oi := ⟨some 40, _, _, _, _, _⟩) (v := ?_) rfl (by kernel_rfl) (by kernel_rfl) (by kernel_rfl) (fun _ _ _ h => h) (Or.inl ⟨by rfl, ?_⟩) hHeld ?_
  rotate_left
  · intro w hSw
    (try dsimp only at hSw)
    first | (go_simp; done) | (go_simp; with_reducible rfl) | with_reducible rfl
  try simp only [Act.put, List.setIfInBounds_toArray, List.set_cons_zero, List.set_cons_succ]
  refine wpAnyH_ready (rs := [8]) (by kernel_rfl) (by simp) ?_
  refine AllReadyH.cons (o := ⟨some 41, _, _, _, _, _⟩) rfl (fun K hK => ?_) AllReadyH.nil
  go_simp
  refine (HA2.out _ lx.drew).mono ?_; rintro e W2 ⟨rfl, hb2⟩; replace lx := lx.drew.trans (hb2.mono lx.size); clear hb2
  refine hK.out _ _ ?_ (fun hHeld => ?_)
  · exact HK.out _ lx
  clear hK K
  try simp only [Act.put, List.setIfInBounds_toArray, List.set_cons_zero, List.set_cons_succ]
  refine wpAnyH_take (i := 9) (oi := ⟨some 12, _, _, _, _, _⟩) (v := ?_) rfl (by kernel_rfl) (by kernel_rfl) (by kernel_rfl) (fun _ _ _ h => h) (Or.inl ⟨by rfl, ?_⟩) hHeld ?_
  rotate_left
  · intro w hSw
    (try dsimp only at hSw)
    first | (go_simp; done) | (go_simp; with_reducible rfl) | with_reducible rfl
  try simp only [Act.put, List.setIfInBounds_toArray, List.set_cons_zero, List.set_cons_succ]
  refine wpAnyH_done (by kernel_rfl) ?_ _
  clear hHeld HA2 hk0
  obtain ⟨c0, c1, c2, c3, c4, c5, c6, c7⟩ := HK.out _ lx
  go_wp2
  clear c0 c1 c2 c3 c4 c5 c6 c7
  go_loopw [13] (fun i wr => ∃ k : Nat, k ≤ c.ls.length ∧ i = .int .i64 k ∧ Below W.heap.size W wr) (fun i _ => c.ls.length - (intOf i).toNat)
  case atStart => exact ⟨0, Nat.zero_le _, rfl, lx⟩
  case round =>
    clear lx
    obtain ⟨k, hk, rfl, lx⟩ := hrel
    obtain ⟨c0, c1, c2, c3, c4, c5, c6, c7⟩ := HK.out _ lx
    by_cases hlt : k < c.ls.length
    · have hkz : (k : Int) < (c.ls.length : Int) := by omega
      have HLK : Hid (∀ V, Below W.heap.size W V → V.cell? ⟨b, off + k * 2, none⟩ = some (.int .i64 c.ls[k].1)) := fun V hb => HLA.out V hb k hlt
      have hsh : IntKind.i64.wrap ((n0 : Int) + (k : Int)) = ((n0 + k : Nat) : Int) := by rw [IntKind.wrap_i64]; omega
      have HBT : Hid (((a / 2 ^ ((n0 : Int) + (k : Int)).toNat).tmod 2 == 1) = Cm.isS c s c.ls[k].1) := by
        unfold Hid
        rw [HA.out]
        exact after_bit HR.out HN0.out (by rw [HN0.out]; omega) s k hlt
      go_upto_region 12 with fail
      clear c0 c1 c2 c3 c4 c5 c6 c7
      generalize c.ls[k].1 = x at *
      refine wp_region_held_drew (S := (fun V => V.cell? ⟨b, off + k * 2, none⟩ = some (.int .i64 x) ∧ V.cell? ⟨B0, 0, none⟩ = some (.int .i64 (n0 : Int)) ∧ V.cell? ⟨B0, 1, none⟩ = some (.slice (some ⟨b, off, none⟩) c.ls.length c.cL) ∧ V.cell? ⟨B0, 2, none⟩ = some (.slice c.aG c.gs.length c.cG) ∧ V.cell? ⟨B0, 3, none⟩ = some (.slice c.aO c.os.length c.cO) ∧ V.cell? ⟨B0, 4, none⟩ = some (.slice c.aB c.bs.length c.cB) ∧ V.cell? ⟨B0, 5, none⟩ = some (.slice c.aC c.cs.length c.cC) ∧ V.cell? ⟨B0, 6, none⟩ = some (.slice c.aF c.fs.length c.cF) ∧ V.cell? ⟨B0, 7, none⟩ = some (.slice c.aN c.ns.length c.cN))) (by kernel_rfl) ?_ (fun hHeld => ?_)
      · exact ⟨HLK.out _ lx.drew, HK.out _ lx.drew⟩
      refine wpAnyH_take (i := 0) (oi := ⟨some 49, _, _, _, _, _⟩) (v := ?_) rfl (by kernel_rfl) (by kernel_rfl) (by kernel_rfl) (fun _ _ _ h => h) (Or.inl ⟨by rfl, ?_⟩) hHeld ?_
      rotate_left
      · intro w hSw
        (try dsimp only at hSw)
        first | (go_simp; done) | (go_simp; with_reducible rfl) | with_reducible rfl
      try simp only [Act.put, List.setIfInBounds_toArray, List.set_cons_zero, List.set_cons_succ]
      refine wpAnyH_take (i := 1) (oi := ⟨some 50, _, _, _, _, _⟩) (v := ?_) rfl (by kernel_rfl) (by kernel_rfl) (by kernel_rfl) (fun _ _ _ h => h) (Or.inl ⟨by rfl, ?_⟩) hHeld ?_
      rotate_left
      · intro w hSw
        (try dsimp only at hSw)
        first | (go_simp; done) | (go_simp; with_reducible rfl) | with_reducible rfl
      try simp only [Act.put, List.setIfInBounds_toArray, List.set_cons_zero, List.set_cons_succ]
      refine wpAnyH_take (i := 2) (oi := ⟨some 51, _, _, _, _, _⟩) (v := ?_) rfl (by kernel_rfl) (by kernel_rfl) (by kernel_rfl) (fun _ _ _ h => h) (Or.inl ⟨by rfl, ?_⟩) hHeld ?_
      rotate_left
      · intro w hSw
        (try dsimp only at hSw)
        first | (go_simp; done) | (go_simp; with_reducible rfl) | with_reducible rfl
      try simp only [Act.put, List.setIfInBounds_toArray, List.set_cons_zero, List.set_cons_succ]
      refine wpAnyH_take (i := 3) (oi := ⟨some 52, _, _, _, _, _⟩) (v := ?_) rfl (by kernel_rfl) (by kernel_rfl) (by kernel_rfl) (fun _ _ _ h => h) (Or.inl ⟨by rfl, ?_⟩) hHeld ?_
      rotate_left
      · intro w hSw
        (try dsimp only at hSw)
        first | (go_simp; done) | (go_simp; with_reducible rfl) | with_reducible rfl
      try simp only [Act.put, List.setIfInBounds_toArray, List.set_cons_zero, List.set_cons_succ]
      refine wpAnyH_take (i := 4) (oi := ⟨some 53, _, _, _, _, _⟩) (v := ?_) rfl (by kernel_rfl) (by kernel_rfl) (by kernel_rfl) (fun _ _ _ h => h) (Or.inl ⟨by rfl, ?_⟩) hHeld ?_
      rotate_left
      · intro w hSw
        (try dsimp only at hSw)
        first | (go_simp; done) | (go_simp; with_reducible rfl) | with_reducible rfl
      try simp only [Act.put, List.setIfInBounds_toArray, List.set_cons_zero, List.set_cons_succ]
      refine wpAnyH_take (i := 5) (oi := ⟨some 54, _, _, _, _, _⟩) (v := ?_) rfl (by kernel_rfl) (by kernel_rfl) (by kernel_rfl) (fun _ _ _ h => h) (Or.inl ⟨by rfl, ?_⟩) hHeld ?_
      rotate_left
      · intro w hSw
        (try dsimp only at hSw)
        first | (go_simp; done) | (go_simp; with_reducible rfl) | with_reducible rfl
      try simp only [Act.put, List.setIfInBounds_toArray, List.set_cons_zero, List.set_cons_succ]
      refine wpAnyH_take (i := 6) (oi := ⟨some 55, _, _, _, _, _⟩) (v := ?_) rfl (by kernel_rfl) (by kernel_rfl) (by kernel_rfl) (fun _ _ _ h => h) (Or.inl ⟨by rfl, ?_⟩) hHeld ?_
      rotate_left
      · intro w hSw
        (try dsimp only at hSw)
        first | (go_simp; done) | (go_simp; with_reducible rfl) | with_reducible rfl
      try simp only [Act.put, List.setIfInBounds_toArray, List.set_cons_zero, List.set_cons_succ]
      refine wpAnyH_take (i := 7) (oi := ⟨some 56, _, _, _, _, _⟩) (v := ?_) rfl (by kernel_rfl) (by kernel_rfl) (by kernel_rfl) (fun _ _ _ h => h) (Or.inl ⟨by rfl, ?_⟩) hHeld ?_
      rotate_left
      · intro w hSw
        (try dsimp only at hSw)
        first | (go_simp; done) | (go_simp; with_reducible rfl) | with_reducible rfl
      try simp only [Act.put, List.setIfInBounds_toArray, List.set_cons_zero, List.set_cons_succ]
      refine wpAnyH_take (i := 8) (oi := ⟨some 57, _, _, _, _, _⟩) (v := ?_) rfl (by kernel_rfl) (by kernel_rfl) (by kernel_rfl) (fun _ _ _ h => h) (Or.inl ⟨by rfl, ?_⟩) hHeld ?_
      rotate_left
      · intro w hSw
        (try dsimp only at hSw)
        first | (go_simp; done) | (go_simp; with_reducible rfl) | with_reducible rfl
      try simp only [Act.put, List.setIfInBounds_toArray, List.set_cons_zero, List.set_cons_succ]
      refine wpAnyH_take (i := 9) (oi := ⟨some 58, _, _, _, _, _⟩) (v := ?_) rfl (by kernel_rfl) (by kernel_rfl) (by kernel_rfl) (fun _ _ _ h => h) (Or.inl ⟨by rfl, ?_⟩) hHeld ?_
      rotate_left
      · intro w hSw
        (try dsimp only at hSw)
        first | (go_simp; done) | (go_simp; with_reducible rfl) | with_reducible rfl
      try simp only [Act.put, List.setIfInBounds_toArray, List.set_cons_zero, List.set_cons_succ]
      refine wpAnyH_take (i := 10) (oi := ⟨some 59, _, _, _, _, _⟩) (v := ?_) rfl (by kernel_rfl) (by kernel_rfl) (by kernel_rfl) (fun _ _ _ h => h) (Or.inl ⟨by rfl, ?_⟩) hHeld ?_
      rotate_left
      · intro w hSw
        (try dsimp only at hSw)
        first | (go_simp; done) | (go_simp; with_reducible rfl) | with_reducible rfl
      try simp only [Act.put, List.setIfInBounds_toArray, List.set_cons_zero, List.set_cons_succ]
      refine wpAnyH_take (i := 11) (oi := ⟨some 60, _, _, _, _, _⟩) (v := ?_) rfl (by kernel_rfl) (by kernel_rfl) (by kernel_rfl) (fun _ _ _ h => h) (Or.inl ⟨by rfl, ?_⟩) hHeld ?_
      rotate_left
      · intro w hSw
        (try dsimp only at hSw)
        first | (go_simp; done) | (go_simp; with_reducible rfl) | with_reducible rfl
      try simp only [Act.put, List.setIfInBounds_toArray, List.set_cons_zero, List.set_cons_succ]
      refine wpAnyH_take (i := 12) (oi := ⟨some 61, _, _, _, _, _⟩) (v := ?_) rfl (by kernel_rfl) (by kernel_rfl) (by kernel_rfl) (fun _ _ _ h => h) (Or.inl ⟨by rfl, ?_⟩) hHeld ?_
      rotate_left
      · intro w hSw
        (try dsimp only at hSw)
        first | (go_simp; done) | (go_simp; with_reducible rfl) | with_reducible rfl
      try simp only [Act.put, List.setIfInBounds_toArray, List.set_cons_zero, List.set_cons_succ]
      refine wpAnyH_take (i := 13) (oi := ⟨some 62, _, _, _, _, _⟩) (v := ?_) rfl (by kernel_rfl) (by kernel_rfl) (by kernel_rfl) (fun _ _ _ h => h) (Or.inl ⟨by rfl, ?_⟩) hHeld ?_
      rotate_left
      · intro w hSw
        (try dsimp only at hSw)
        first | (go_simp; done) | (go_simp; with_reducible rfl) | with_reducible rfl
      try simp only [Act.put, List.setIfInBounds_toArray, List.set_cons_zero, List.set_cons_succ]
      refine wpAnyH_take (i := 14) (oi := ⟨some 63, _, _, _, _, _⟩) (v := ?_) rfl (by kernel_rfl) (by kernel_rfl) (by kernel_rfl) (fun _ _ _ h => h) (Or.inl ⟨by rfl, ?_⟩) hHeld ?_
      rotate_left
      · intro w hSw
        (try dsimp only at hSw)
        first | (go_simp; done) | (go_simp; with_reducible rfl) | with_reducible rfl
      try simp only [Act.put, List.setIfInBounds_toArray, List.set_cons_zero, List.set_cons_succ]
      refine wpAnyH_take (i := 15) (oi := ⟨some 64, _, _, _, _, _⟩) (v := ?_) rfl (by kernel_rfl) (by kernel_rfl) (by kernel_rfl) (fun _ _ _ h => h) (Or.inl ⟨by rfl, ?_⟩) hHeld ?_
      rotate_left
      · intro w hSw
        (try dsimp only at hSw)
        first | (go_simp; done) | (go_simp; with_reducible rfl) | with_reducible rfl
      try simp only [Act.put, List.setIfInBounds_toArray, List.set_cons_zero, List.set_cons_succ]
      refine wpAnyH_ready (rs := [16]) (by kernel_rfl) (by simp) ?_
      refine AllReadyH.cons (o := ⟨some 65, _, _, _, _, _⟩) rfl (fun K hK => ?_) AllReadyH.nil
      go_simp
      refine (HIS.out _ _ _ lx.drew ⟨by omega, by omega⟩).mono ?_; rintro e W3 ⟨rfl, hb2⟩; replace lx := lx.drew.trans (hb2.mono lx.size); clear hb2
      refine hK.out _ _ ?_ (fun hHeld => ?_)
      · exact ⟨HLK.out _ lx, HK.out _ lx⟩
      clear hK K
      try simp only [Act.put, List.setIfInBounds_toArray, List.set_cons_zero, List.set_cons_succ]
      refine wpAnyH_take (i := 17) (oi := ⟨some 66, _, _, _, _, _⟩) (v := ?_) rfl (by kernel_rfl) (by kernel_rfl) (by kernel_rfl) (fun _ _ _ h => h) (Or.inl ⟨by rfl, ?_⟩) hHeld ?_
      rotate_left
      · intro w hSw
        (try dsimp only at hSw)
        first | (go_simp; done) | (go_simp; with_reducible rfl) | with_reducible rfl
      try simp only [Act.put, List.setIfInBounds_toArray, List.set_cons_zero, List.set_cons_succ]
      refine wpAnyH_done (by kernel_rfl) ?_ _
      clear hHeld
      have hbt := HBT.out
      generalize Cm.isS c s x = t at *
      go_wp2
      · rename_i hq
        rw [hbt] at hq
        simp at hq
      · exact ⟨⟨k + 1, by omega, by simp, lx⟩, by simp [intOf]; omega⟩
    · obtain rfl : k = c.ls.length := by omega
      have HE : Hid (0 ≤ a ∧ a < (p : Int) ∧ a % ((2 ^ n0 : Nat) : Int) = 0) := by
        have e := after_small HR.out (by rw [HN0.out]; omega) s
        have e2 : c.n.toNat = n0 := by rw [HN0.out]; omega
        have h1 := Cm.aft_lt c s c.ls.length
        have h2 := Cm.aft_mod c s c.ls.length
        rw [e2] at h1 h2
        unfold Hid
        rw [HA.out, e, HP.out]
        refine ⟨by omega, by exact_mod_cast h1, by exact_mod_cast h2⟩
      obtain ⟨ha0, ha1, ha2⟩ := HE.out
      have hwq := wrap_two n0 (by omega)
      have hq64 := two_small n0 (by omega)
      generalize 2 ^ n0 = q at *
      have hqz : ¬ ((q : Int) = 0) := by omega
      clear HE
      go_wp2
      go_ret
      exact ⟨by simp [ha0, ha1, ha2], lo.trans (lx.mono lo.size)⟩
end Go.Proofs.Ytdbmepndebdbpaa
