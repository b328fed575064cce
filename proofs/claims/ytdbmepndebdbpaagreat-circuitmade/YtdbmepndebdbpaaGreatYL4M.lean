/- CircuitMade, walked. -/
import Derived.Test.YtdbmepndebdbpaaGreatQaw
import Derived.Test.YtdbmepndebdbpaaGreatQav
namespace Go.Proofs.YtdbmepndebdbpaaGreat
open Go.RowKit

def txt14 (k : Nat) : ByteArray := [⟨#[113]⟩, ⟨#[111, 117, 116]⟩, ⟨#[108, 48]⟩, ⟨#[108, 49]⟩, ⟨#[105, 48]⟩, ⟨#[111, 48]⟩, ⟨#[98, 48]⟩, ⟨#[99, 48]⟩, ⟨#[102, 48]⟩, ⟨#[108, 48, 48]⟩, ⟨#[120]⟩, ⟨#[]⟩, ⟨#[97, 45, 98]⟩, ⟨#[102, 49]⟩].getD k ⟨#[]⟩
theorem cell14 {w : World} {g : Nat} (h : Blk w g 9 #[.string ⟨#[113]⟩, .string ⟨#[111, 117, 116]⟩, .string ⟨#[108, 48]⟩, .string ⟨#[108, 49]⟩, .string ⟨#[105, 48]⟩, .string ⟨#[111, 48]⟩, .string ⟨#[98, 48]⟩, .string ⟨#[99, 48]⟩, .string ⟨#[102, 48]⟩, .string ⟨#[108, 48, 48]⟩, .string ⟨#[120]⟩, .string ⟨#[]⟩, .string ⟨#[97, 45, 98]⟩, .string ⟨#[102, 49]⟩]) (r : Nat) (hr : r < 14) : w.cell? ⟨g, r, none⟩ = some (.string (txt14 r)) := by
  rw [h.cell r]
  have : r = 0 ∨ r = 1 ∨ r = 2 ∨ r = 3 ∨ r = 4 ∨ r = 5 ∨ r = 6 ∨ r = 7 ∨ r = 8 ∨ r = 9 ∨ r = 10 ∨ r = 11 ∨ r = 12 ∨ r = 13 := by omega
  rcases this with rfl | rfl | rfl | rfl | rfl | rfl | rfl | rfl | rfl | rfl | rfl | rfl | rfl | rfl <;> rfl
theorem size14 (r : Nat) (hr : r < 14) : (txt14 r).size ≤ maxLen := by
  have : r = 0 ∨ r = 1 ∨ r = 2 ∨ r = 3 ∨ r = 4 ∨ r = 5 ∨ r = 6 ∨ r = 7 ∨ r = 8 ∨ r = 9 ∨ r = 10 ∨ r = 11 ∨ r = 12 ∨ r = 13 := by omega
  unfold maxLen
  rcases this with rfl | rfl | rfl | rfl | rfl | rfl | rfl | rfl | rfl | rfl | rfl | rfl | rfl | rfl <;> decide
theorem ixS14 (sb r : Nat) (hr : r < 14) (w : World) : (Instr.indexAt 30 (.slice (some ⟨sb, 0, none⟩) 14 14) (.int .i64 (r : Int))).run Tryz.prog w = .ok (.pointer (some ⟨sb, r, none⟩)) w := by
  match r, hr with
  | 0, _ => go_simp
  | 1, _ => go_simp
  | 2, _ => go_simp
  | 3, _ => go_simp
  | 4, _ => go_simp
  | 5, _ => go_simp
  | 6, _ => go_simp
  | 7, _ => go_simp
  | 8, _ => go_simp
  | 9, _ => go_simp
  | 10, _ => go_simp
  | 11, _ => go_simp
  | 12, _ => go_simp
  | 13, _ => go_simp
set_option maxRecDepth 100000 in
set_option maxHeartbeats 8000000 in
theorem circuitMade_walk (A0 : Option Addr) (k0 : Nat) (zs : List Int) (a1 a2 a3 a4 : Int) (w : World) (hml : zs.length ≤ maxLen) (hU : Us w w.heap.size A0 zs) (h1 : 0 ≤ a1) (h1' : a1 ≤ 255) (h2 : -9223372036854775808 ≤ a2) (h2' : a2 ≤ 9223372036854775807) (h3 : 0 ≤ a3) (h3' : a3 ≤ 255) (h4 : 0 ≤ a4) (h4' : a4 ≤ 255) :
    Calls Tryz.prog 3 #[.slice A0 zs.length k0, .int .u8 a1, .int .i64 a2, .int .u8 a3, .int .u8 a4] w fun e w' => e = .returned (.bool true) ∧ Below w.heap.size w w' := by
  have HML := Lib.hid hml
  have HU := Lib.hid hU
  clear hml hU
  go_enter Tryz.func3, Tryz.ntmps3
  go_wp2_with fail
  refine (made4_any A0 k0 zs w HML.out HU.out).mono ?_
  rintro e w2 ⟨c, rfl, hC, hW, hMM, lo⟩
  obtain ⟨B1, B2, B3, B4, B5, B6, hB1, hMB⟩ := hMM.b
  obtain ⟨_, hcap⟩ := hMM.cir
  have hbx := boxed w2 c
  have lx := lowAlloc w2 (Obj.cells #[.int .i64 c.n, .slice c.aL c.ls.length c.cL, .slice c.aG c.gs.length c.cG, .slice c.aO c.os.length c.cO, .slice c.aB c.bs.length c.cB, .slice c.aC c.cs.length c.cC, .slice c.aF c.fs.length c.cF, .slice c.aN c.ns.length c.cN] 28)
  replace lo := lo.trans (lx.mono lo.size)
  replace hMB := hMB.below lx (Nat.le_refl _)
  have hB0 : w2.heap.size < (w2.alloc (Obj.cells #[.int .i64 c.n, .slice c.aL c.ls.length c.cL, .slice c.aG c.gs.length c.cG, .slice c.aO c.os.length c.cO, .slice c.aB c.bs.length c.cB, .slice c.aC c.cs.length c.cC, .slice c.aF c.fs.length c.cF, .slice c.aN c.ns.length c.cN] 28)).heap.size := by simp
  clear hMM lx HML HU
  go_upto_region 2 with fail
  generalize w2.alloc (Obj.cells #[.int .i64 c.n, .slice c.aL c.ls.length c.cL, .slice c.aG c.gs.length c.cG, .slice c.aO c.os.length c.cO, .slice c.aB c.bs.length c.cB, .slice c.aC c.cs.length c.cC, .slice c.aF c.fs.length c.cF, .slice c.aN c.ns.length c.cN] 28) = W at *
  generalize w2.heap.size = B0 at *
  obtain ⟨j, hj⟩ := Int.eq_ofNat_of_zero_le (show 0 ≤ a4 % 14 by omega)
  have hj14 : j < 14 := by omega
  obtain ⟨m, hm⟩ := Int.eq_ofNat_of_zero_le (show 0 ≤ a4 % 7 by omega)
  have hm7 : m < 7 := by omega
  have hbk := Blk.new W 9 #[.string ⟨#[113]⟩, .string ⟨#[111, 117, 116]⟩, .string ⟨#[108, 48]⟩, .string ⟨#[108, 49]⟩, .string ⟨#[105, 48]⟩, .string ⟨#[111, 48]⟩, .string ⟨#[98, 48]⟩, .string ⟨#[99, 48]⟩, .string ⟨#[102, 48]⟩, .string ⟨#[108, 48, 48]⟩, .string ⟨#[120]⟩, .string ⟨#[]⟩, .string ⟨#[97, 45, 98]⟩, .string ⟨#[102, 49]⟩]
  have hc14 := cell14 hbk j hj14
  have hix := ixS14 W.heap.size j hj14
  have lx := lowAlloc W (Obj.cells #[.string ⟨#[113]⟩, .string ⟨#[111, 117, 116]⟩, .string ⟨#[108, 48]⟩, .string ⟨#[108, 49]⟩, .string ⟨#[105, 48]⟩, .string ⟨#[111, 48]⟩, .string ⟨#[98, 48]⟩, .string ⟨#[99, 48]⟩, .string ⟨#[102, 48]⟩, .string ⟨#[108, 48, 48]⟩, .string ⟨#[120]⟩, .string ⟨#[]⟩, .string ⟨#[97, 45, 98]⟩, .string ⟨#[102, 49]⟩] 9)
  go_upto_region 3 with fail
  clear hc14 hix hbk
  generalize W.alloc (Obj.cells #[.string ⟨#[113]⟩, .string ⟨#[111, 117, 116]⟩, .string ⟨#[108, 48]⟩, .string ⟨#[108, 49]⟩, .string ⟨#[105, 48]⟩, .string ⟨#[111, 48]⟩, .string ⟨#[98, 48]⟩, .string ⟨#[99, 48]⟩, .string ⟨#[102, 48]⟩, .string ⟨#[108, 48, 48]⟩, .string ⟨#[120]⟩, .string ⟨#[]⟩, .string ⟨#[97, 45, 98]⟩, .string ⟨#[102, 49]⟩] 9) = W1 at *
  have hbx1 := hbx.below lx hbx.lt
  have c0 := hbx1.cell 0; have c1 := hbx1.cell 1; have c2 := hbx1.cell 2; have c3 := hbx1.cell 3; have c4 := hbx1.cell 4; have c5 := hbx1.cell 5; have c6 := hbx1.cell 6; have c7 := hbx1.cell 7; simp only [List.getElem?_toArray, List.getElem?_cons_zero, List.getElem?_cons_succ] at c0 c1 c2 c3 c4 c5 c6 c7
  go_wp2_with fail
  have hks : m < (⟨#[105, 108, 111, 98, 99, 102, 120]⟩ : ByteArray).size := hm7
  have hkd := UInt8.toNat_lt ((⟨#[105, 108, 111, 98, 99, 102, 120]⟩ : ByteArray)[m]'hks)
  generalize ((⟨#[105, 108, 111, 98, 99, 102, 120]⟩ : ByteArray)[m]'hks).toNat = kd at *
  replace hMB := hMB.below lx (by omega)
  replace lo := lo.trans (lx.mono lo.size)
  have hsz := size14 j hj14
  generalize txt14 j = tx at *
  refine (same4_any c (kd : Int) (a4 / 7 % 4) tx a3 (a4 % 30) W1 hMB.cir hW hcap (by omega) (by omega) hsz (by unfold I64; omega) (by unfold I64; omega) (by have := hC.g40; omega)).mono ?_
  rintro e W2 ⟨rfl, hb2⟩
  have hbx2 := hbx1.below hb2 hbx1.lt
  replace hMB := hMB.below hb2 hMB.ht
  replace lo := lo.trans (hb2.mono lo.size)
  have hB2 : B0 < W2.heap.size := hbx2.lt
  clear c0 c1 c2 c3 c4 c5 c6 c7
  clear hbx1 hbx hb2 lx hks hB0 hm hm7 hj hj14
  have hC40 := hC.g40
  have hr : a1 % 7 = 0 ∨ a1 % 7 = 1 ∨ a1 % 7 = 2 ∨ a1 % 7 = 3 ∨ a1 % 7 = 4 ∨ a1 % 7 = 5 ∨ a1 % 7 = 6 := by omega
  have hwB : w.heap.size ≤ B0 := by
    have h2 := hMB.h2
    have h3 := hMB.h3
    have h4 := hMB.h4
    have h5 := hMB.h5
    have h6 := hMB.h6
    have h7 := hMB.h7
    omega
  have hl1 := hC.l1
  have hl3 := hC.l3
  have HI : Hid (-9223372036854775808 ≤ a2 ∧ a2 ≤ 9223372036854775807) := ⟨h2, h2'⟩
  have HI3 : Hid (I64 a3) := by unfold Hid I64; omega
  have HK0 : Hid (0 ≤ (kd : Int) ∧ (kd : Int) ≤ 255) := by unfold Hid; omega
  have HN2 : Hid (c.ns.length ≤ 100) := by
    unfold Hid
    rcases names_list hC.names with e | e | ⟨_, k, _, e | e⟩ <;> rw [e] <;> simp
  have HO3 := Lib.hid hC.o3
  have HF3 := Lib.hid hC.f3
  have HSZ := Lib.hid hsz
  have HG4 := Lib.hid hC40
  clear hsz hC40 hC
  rcases hr with hr | hr | hr | hr | hr | hr | hr
  · have f0 := hbx2.frozen 0
    have c0 := hbx2.cell 0; have c1 := hbx2.cell 1; have c2 := hbx2.cell 2; have c3 := hbx2.cell 3; have c4 := hbx2.cell 4; have c5 := hbx2.cell 5; have c6 := hbx2.cell 6; have c7 := hbx2.cell 7; simp only [List.getElem?_toArray, List.getElem?_cons_zero, List.getElem?_cons_succ] at c0 c1 c2 c3 c4 c5 c6 c7
    have hM5 := hMB.box (p := ⟨B0, 0, none⟩) (Nat.le_refl _) (.int .i64 a2)
    have hbx5 : Blk (W2.setCell ⟨B0, 0, none⟩ (.int .i64 a2)) B0 28 #[.int .i64 a2, .slice c.aL c.ls.length c.cL, .slice c.aG c.gs.length c.cG, .slice c.aO c.os.length c.cO, .slice c.aB c.bs.length c.cB, .slice c.aC c.cs.length c.cC, .slice c.aF c.fs.length c.cF, .slice c.aN c.ns.length c.cN] := hbx2.put 0 _
    replace lo := lo.setCell (p := ⟨B0, 0, none⟩) hwB (.int .i64 a2)
    go_upto_region 20 with fail
    clear c0 c1 c2 c3 c4 c5 c6 c7
    clear f0 hbx2
    generalize W2.setCell ⟨B0, 0, none⟩ (.int .i64 a2) = W5 at *
    have hM5' : CirM W5 W5.heap.size { c with n := a2 } := ⟨hM5.hl, hM5.hg, hM5.ho, hM5.hb, hM5.hc, hM5.hf, hM5.hn⟩
    go_wp2_with fail
    refine (awake4_any _).mono ?_
    rintro e W6 ⟨rfl, hb6⟩
    have hbx6 := hbx5.below hb6 hbx5.lt
    replace lo := lo.trans (hb6.mono lo.size)
    have HS : Hid (Calls Tryz.prog 5 #[.agg #[.int .i64 a2, .slice c.aL c.ls.length c.cL, .slice c.aG c.gs.length c.cG, .slice c.aO c.os.length c.cO, .slice c.aB c.bs.length c.cB, .slice c.aC c.cs.length c.cC, .slice c.aF c.fs.length c.cF, .slice c.aN c.ns.length c.cN], .int .u8 (kd : Int), .int .i64 a2, .string tx, .int .i64 a3, .int .i64 a2] W6 fun e w' => e = .returned (.bool true) ∧ Below W6.heap.size W6 w') := by
      have h := same4_any { c with n := a2 } (kd : Int) a2 tx a3 a2 W6 ((hM5'.below hb6 (Nat.le_refl _)).more hb6.size) (hW.put a2 HI.out) hcap HK0.out.1 HK0.out.2 HSZ.out HI3.out HI.out (by have := HG4.out; simp only; omega)
      simp only [List.length_set, List.length_append, List.length_cons, List.length_nil, Nat.zero_add] at h
      exact h
    have c0 := hbx6.cell 0; have c1 := hbx6.cell 1; have c2 := hbx6.cell 2; have c3 := hbx6.cell 3; have c4 := hbx6.cell 4; have c5 := hbx6.cell 5; have c6 := hbx6.cell 6; have c7 := hbx6.cell 7; simp only [List.getElem?_toArray, List.getElem?_cons_zero, List.getElem?_cons_succ] at c0 c1 c2 c3 c4 c5 c6 c7
    clear hb6 hbx6 hbx5
    go_wp2_with fail
    refine HS.out.mono ?_
    rintro e W7 ⟨rfl, hb7⟩
    replace lo := lo.trans (hb7.mono lo.size)
    go_wp2
    go_ret
    exact ⟨rfl, lo⟩
  · obtain ⟨b, hA, hbB, hfz⟩ := latch_spot hMB hl1
    have hM5 := (hMB.latch hA 0 (by omega) a2).1
    simp only [Nat.zero_mul, Nat.zero_add] at hM5
    have hcl := hMB.cir.hl 0 (by omega)
    obtain ⟨b', off', hA', hlt', g1, g2⟩ := hcl
    rw [hA] at hA'
    injection hA' with e
    injection e with e1 e2
    subst e1 e2
    simp only [Nat.zero_mul, Nat.zero_add] at g1 g2
    have hf0 := hfz (0)
    have hbn : B0 ≠ b := by
      have := row_in hMB.hL _ hA
      have h3 := hMB.h3
      have h4 := hMB.h4
      have h5 := hMB.h5
      have h6 := hMB.h6
      have h7 := hMB.h7
      simp only at this
      omega
    have hbx5 := hbx2.far (p := ⟨b, 0, none⟩) hbn (.int .i64 a2)
    replace lo := lo.setCell (p := ⟨b, 0, none⟩) (by simp only; omega) (.int .i64 a2)
    rw [hA] at hbx2 hbx5
    have hl1z : (1 : Int) ≤ (c.ls.length : Int) := by omega
    have c0 := hbx2.cell 0; have c1 := hbx2.cell 1; have c2 := hbx2.cell 2; have c3 := hbx2.cell 3; have c4 := hbx2.cell 4; have c5 := hbx2.cell 5; have c6 := hbx2.cell 6; have c7 := hbx2.cell 7; simp only [List.getElem?_toArray, List.getElem?_cons_zero, List.getElem?_cons_succ] at c0 c1 c2 c3 c4 c5 c6 c7
    go_upto_region 20 with fail
    clear c0 c1 c2 c3 c4 c5 c6 c7
    clear hbx2 g1 g2 hf0 hfz
    generalize W2.setCell ⟨b, 0, none⟩ (.int .i64 a2) = W5 at *
    have HA := Lib.hid hA
    go_wp2_with fail
    refine (awake4_any _).mono ?_
    rintro e W6 ⟨rfl, hb6⟩
    have hbx6 := hbx5.below hb6 hbx5.lt
    replace lo := lo.trans (hb6.mono lo.size)
    have HS : Hid (Calls Tryz.prog 5 #[.agg #[.int .i64 c.n, .slice (some ⟨b, 0, none⟩) c.ls.length c.cL, .slice c.aG c.gs.length c.cG, .slice c.aO c.os.length c.cO, .slice c.aB c.bs.length c.cB, .slice c.aC c.cs.length c.cC, .slice c.aF c.fs.length c.cF, .slice c.aN c.ns.length c.cN], .int .u8 (kd : Int), .int .i64 a2, .string tx, .int .i64 a3, .int .i64 a2] W6 fun e w' => e = .returned (.bool true) ∧ Below W6.heap.size W6 w') := by
      have h := same4_any { c with ls := c.ls.set 0 (a2, c.ls[0].2) } (kd : Int) a2 tx a3 a2 W6 ((hM5.below hb6 (Nat.le_refl _)).more hb6.size) (hW.latch 0 (a2) (c.ls[0].2) HI.out (hW.hl c.ls[0] (List.getElem_mem _)).2) hcap HK0.out.1 HK0.out.2 HSZ.out HI3.out HI.out (by have := HG4.out; simp only; omega)
      simp only [List.length_set, List.length_append, List.length_cons, List.length_nil, Nat.zero_add] at h
      rw [hA] at h
      exact h
    have c0 := hbx6.cell 0; have c1 := hbx6.cell 1; have c2 := hbx6.cell 2; have c3 := hbx6.cell 3; have c4 := hbx6.cell 4; have c5 := hbx6.cell 5; have c6 := hbx6.cell 6; have c7 := hbx6.cell 7; simp only [List.getElem?_toArray, List.getElem?_cons_zero, List.getElem?_cons_succ] at c0 c1 c2 c3 c4 c5 c6 c7
    clear hb6 hbx6 hbx5
    go_wp2_with fail
    refine HS.out.mono ?_
    rintro e W7 ⟨rfl, hb7⟩
    replace lo := lo.trans (hb7.mono lo.size)
    go_wp2
    go_ret
    exact ⟨rfl, lo⟩
  · obtain ⟨b, hA, hbB, hfz⟩ := latch_spot hMB hl1
    have hM5 := (hMB.latch hA (c.ls.length - 1) (by omega) a2).2
    simp only [Nat.zero_mul, Nat.zero_add] at hM5
    have hcl := hMB.cir.hl (c.ls.length - 1) (by omega)
    obtain ⟨b', off', hA', hlt', g1, g2⟩ := hcl
    rw [hA] at hA'
    injection hA' with e
    injection e with e1 e2
    subst e1 e2
    simp only [Nat.zero_mul, Nat.zero_add] at g1 g2
    have hf0 := hfz ((c.ls.length - 1) * 2 + 1)
    have hbn : B0 ≠ b := by
      have := row_in hMB.hL _ hA
      have h3 := hMB.h3
      have h4 := hMB.h4
      have h5 := hMB.h5
      have h6 := hMB.h6
      have h7 := hMB.h7
      simp only at this
      omega
    have hbx5 := hbx2.far (p := ⟨b, (c.ls.length - 1) * 2 + 1, none⟩) hbn (.int .i64 a2)
    replace lo := lo.setCell (p := ⟨b, (c.ls.length - 1) * 2 + 1, none⟩) (by simp only; omega) (.int .i64 a2)
    rw [hA] at hbx2 hbx5
    have hl1z : (1 : Int) ≤ (c.ls.length : Int) := by omega
    have c0 := hbx2.cell 0; have c1 := hbx2.cell 1; have c2 := hbx2.cell 2; have c3 := hbx2.cell 3; have c4 := hbx2.cell 4; have c5 := hbx2.cell 5; have c6 := hbx2.cell 6; have c7 := hbx2.cell 7; simp only [List.getElem?_toArray, List.getElem?_cons_zero, List.getElem?_cons_succ] at c0 c1 c2 c3 c4 c5 c6 c7
    go_upto_region 20 with fail
    clear c0 c1 c2 c3 c4 c5 c6 c7
    clear hbx2 g1 g2 hf0 hfz
    generalize W2.setCell ⟨b, (c.ls.length - 1) * 2 + 1, none⟩ (.int .i64 a2) = W5 at *
    have HA := Lib.hid hA
    go_wp2_with fail
    refine (awake4_any _).mono ?_
    rintro e W6 ⟨rfl, hb6⟩
    have hbx6 := hbx5.below hb6 hbx5.lt
    replace lo := lo.trans (hb6.mono lo.size)
    have HS : Hid (Calls Tryz.prog 5 #[.agg #[.int .i64 c.n, .slice (some ⟨b, 0, none⟩) c.ls.length c.cL, .slice c.aG c.gs.length c.cG, .slice c.aO c.os.length c.cO, .slice c.aB c.bs.length c.cB, .slice c.aC c.cs.length c.cC, .slice c.aF c.fs.length c.cF, .slice c.aN c.ns.length c.cN], .int .u8 (kd : Int), .int .i64 a2, .string tx, .int .i64 a3, .int .i64 a2] W6 fun e w' => e = .returned (.bool true) ∧ Below W6.heap.size W6 w') := by
      have h := same4_any { c with ls := c.ls.set (c.ls.length - 1) (c.ls[c.ls.length - 1].1, a2) } (kd : Int) a2 tx a3 a2 W6 ((hM5.below hb6 (Nat.le_refl _)).more hb6.size) (hW.latch (c.ls.length - 1) c.ls[c.ls.length - 1].1 a2 (hW.hl c.ls[c.ls.length - 1] (List.getElem_mem _)).1 HI.out) hcap HK0.out.1 HK0.out.2 HSZ.out HI3.out HI.out (by have := HG4.out; simp only; omega)
      simp only [List.length_set, List.length_append, List.length_cons, List.length_nil, Nat.zero_add] at h
      rw [hA] at h
      exact h
    have c0 := hbx6.cell 0; have c1 := hbx6.cell 1; have c2 := hbx6.cell 2; have c3 := hbx6.cell 3; have c4 := hbx6.cell 4; have c5 := hbx6.cell 5; have c6 := hbx6.cell 6; have c7 := hbx6.cell 7; simp only [List.getElem?_toArray, List.getElem?_cons_zero, List.getElem?_cons_succ] at c0 c1 c2 c3 c4 c5 c6 c7
    clear hb6 hbx6 hbx5
    go_wp2_with fail
    refine HS.out.mono ?_
    rintro e W7 ⟨rfl, hb7⟩
    replace lo := lo.trans (hb7.mono lo.size)
    go_wp2
    go_ret
    exact ⟨rfl, lo⟩
  · have hlim := HO3.out
    have lx := lowAlloc W2 (Obj.cells #[.int .i64 a2] 3)
    have hbk := Blk.new W2 3 #[.int .i64 a2]
    have hMB3 := hMB.below lx hMB.ht
    have hrow3 := hMB3.hO.row
    have hbx3 := hbx2.below lx hbx2.lt
    replace lo := lo.trans (lx.mono lo.size)
    have hs3 : B2 ≤ (W2.alloc (Obj.cells #[.int .i64 a2] 3)).heap.size := by
      have h3 := hMB3.h3
      have h4 := hMB3.h4
      have h5 := hMB3.h5
      have h6 := hMB3.h6
      have h7 := hMB3.h7
      have ht := hMB3.ht
      omega
    have HRUN : Hid (∀ ty, ∃ v' w', (Builtin.append_ #[25, 25] ty #[(.slice c.aO c.os.length c.cO), .slice (some ⟨W2.heap.size, 0, none⟩) 1 1]).run Tryz.prog (W2.alloc (Obj.cells #[.int .i64 a2] 3)) = .ok v' w' ∧ (w'.ownsRow B2 3 1 v' (c.os.length + 1) (iv c.os ++ [.int .i64 a2]) ∧ (W2.alloc (Obj.cells #[.int .i64 a2] 3)).grownBy w' (Value.slice c.aO c.os.length c.cO).ownBlock ∧ (v'.ownBlock = (Value.slice c.aO c.os.length c.cO).ownBlock ∨ v'.ownBlock = some (W2.alloc (Obj.cells #[.int .i64 a2] 3)).heap.size))) := by
      intro ty
      obtain ⟨v', w', r1, r2, r3, r4⟩ := app_int (W2.alloc (Obj.cells #[.int .i64 a2] 3)) B2 ty (.slice c.aO c.os.length c.cO) c.os.length _ hrow3 W2.heap.size 1 a2 hbk (by omega) hs3
      exact ⟨v', w', r1, r2, r3, r4⟩
    have HIN : Hid (∀ k, (Value.slice c.aO c.os.length c.cO).ownBlock = some k → w.heap.size ≤ k ∧ k ≠ B0) := by
      intro k hk
      have := slice_block hMB3.hO k hk
      have h2 := hMB3.h2
      have h3 := hMB3.h3
      have h4 := hMB3.h4
      have h5 := hMB3.h5
      have h6 := hMB3.h6
      have h7 := hMB3.h7
      omega
    have hBX : B0 < (W2.alloc (Obj.cells #[.int .i64 a2] 3)).heap.size := hbx3.lt
    have HBX := Lib.hid hBX
    have c0 := hbx2.cell 0; have c1 := hbx2.cell 1; have c2 := hbx2.cell 2; have c3 := hbx2.cell 3; have c4 := hbx2.cell 4; have c5 := hbx2.cell 5; have c6 := hbx2.cell 6; have c7 := hbx2.cell 7; simp only [List.getElem?_toArray, List.getElem?_cons_zero, List.getElem?_cons_succ] at c0 c1 c2 c3 c4 c5 c6 c7
    clear hbk hrow3 hMB hbx2 lx hs3 hBX hlim
    go_wp2_with (at_builtin; go_loud (refine wpList_app rfl (.tmp 75) (.tmp 77) 25 rfl _ _ rfl rfl _ HRUN.out ?_); intro v' W4 hR; obtain ⟨A5, q5, rfl, hM5⟩ := hMB3.outs (i := 3) (Nat.le_refl _) HBX.out hR.2.1 hR.1 hR.2.2; have hbx4 := hbx3.grown hR.2.1 (fun e => (HIN.out B0 e.symm).2 rfl); have c3 := hbx4.cell 3; have f3 := hbx4.frozen 3; simp only [List.getElem?_toArray, List.getElem?_cons_zero, List.getElem?_cons_succ] at c3)
    have hbx5 : Blk (W4.setCell ⟨B0, 3, none⟩ (.slice A5 (c.os.length + 1) q5)) B0 28 #[.int .i64 c.n, .slice c.aL c.ls.length c.cL, .slice c.aG c.gs.length c.cG, .slice A5 (c.os.length + 1) q5, .slice c.aB c.bs.length c.cB, .slice c.aC c.cs.length c.cC, .slice c.aF c.fs.length c.cF, .slice c.aN c.ns.length c.cN] := hbx4.put 3 _
    replace lo := (lo.grown hR.2.1 lo.size (fun k e => (HIN.out k e).1)).setCell (p := ⟨B0, 3, none⟩) hwB (.slice A5 (c.os.length + 1) q5)
    clear c3 f3 hbx4 hbx3 HRUN hR
    clear c0 c1 c2 c3 c4 c5 c6 c7
    generalize W4.setCell ⟨B0, 3, none⟩ (.slice A5 (c.os.length + 1) q5) = W5 at *
    refine (awake4_any _).mono ?_
    rintro e W6 ⟨rfl, hb6⟩
    have hbx6 := hbx5.below hb6 hbx5.lt
    replace lo := lo.trans (hb6.mono lo.size)
    have HS : Hid (Calls Tryz.prog 5 #[.agg #[.int .i64 c.n, .slice c.aL c.ls.length c.cL, .slice c.aG c.gs.length c.cG, .slice A5 (c.os.length + 1) q5, .slice c.aB c.bs.length c.cB, .slice c.aC c.cs.length c.cC, .slice c.aF c.fs.length c.cF, .slice c.aN c.ns.length c.cN], .int .u8 (kd : Int), .int .i64 a2, .string tx, .int .i64 a3, .int .i64 a2] W6 fun e w' => e = .returned (.bool true) ∧ Below W6.heap.size W6 w') := by
      have h := same4_any { c with aO := A5, cO := q5, os := c.os ++ [a2] } (kd : Int) a2 tx a3 a2 W6 ((hM5.below hb6 (Nat.le_refl _)).more hb6.size) (hW.outs A5 q5 a2 HI.out HO3.out) hcap HK0.out.1 HK0.out.2 HSZ.out HI3.out HI.out (by have := HG4.out; simp only; omega)
      simp only [List.length_set, List.length_append, List.length_cons, List.length_nil, Nat.zero_add] at h
      exact h
    have c0 := hbx6.cell 0; have c1 := hbx6.cell 1; have c2 := hbx6.cell 2; have c3 := hbx6.cell 3; have c4 := hbx6.cell 4; have c5 := hbx6.cell 5; have c6 := hbx6.cell 6; have c7 := hbx6.cell 7; simp only [List.getElem?_toArray, List.getElem?_cons_zero, List.getElem?_cons_succ] at c0 c1 c2 c3 c4 c5 c6 c7
    clear hb6 hbx6 hbx5
    go_wp2_with fail
    refine HS.out.mono ?_
    rintro e W7 ⟨rfl, hb7⟩
    replace lo := lo.trans (hb7.mono lo.size)
    go_wp2
    go_ret
    exact ⟨rfl, lo⟩
  · have hlim := HF3.out
    have lx := lowAlloc W2 (Obj.cells #[.int .i64 a2] 3)
    have hbk := Blk.new W2 3 #[.int .i64 a2]
    have hMB3 := hMB.below lx hMB.ht
    have hrow3 := hMB3.hF.row
    have hbx3 := hbx2.below lx hbx2.lt
    replace lo := lo.trans (lx.mono lo.size)
    have hs3 : B5 ≤ (W2.alloc (Obj.cells #[.int .i64 a2] 3)).heap.size := by
      have h3 := hMB3.h3
      have h4 := hMB3.h4
      have h5 := hMB3.h5
      have h6 := hMB3.h6
      have h7 := hMB3.h7
      have ht := hMB3.ht
      omega
    have HRUN : Hid (∀ ty, ∃ v' w', (Builtin.append_ #[25, 25] ty #[(.slice c.aF c.fs.length c.cF), .slice (some ⟨W2.heap.size, 0, none⟩) 1 1]).run Tryz.prog (W2.alloc (Obj.cells #[.int .i64 a2] 3)) = .ok v' w' ∧ (w'.ownsRow B5 3 1 v' (c.fs.length + 1) (iv c.fs ++ [.int .i64 a2]) ∧ (W2.alloc (Obj.cells #[.int .i64 a2] 3)).grownBy w' (Value.slice c.aF c.fs.length c.cF).ownBlock ∧ (v'.ownBlock = (Value.slice c.aF c.fs.length c.cF).ownBlock ∨ v'.ownBlock = some (W2.alloc (Obj.cells #[.int .i64 a2] 3)).heap.size))) := by
      intro ty
      obtain ⟨v', w', r1, r2, r3, r4⟩ := app_int (W2.alloc (Obj.cells #[.int .i64 a2] 3)) B5 ty (.slice c.aF c.fs.length c.cF) c.fs.length _ hrow3 W2.heap.size 1 a2 hbk (by omega) hs3
      exact ⟨v', w', r1, r2, r3, r4⟩
    have HIN : Hid (∀ k, (Value.slice c.aF c.fs.length c.cF).ownBlock = some k → w.heap.size ≤ k ∧ k ≠ B0) := by
      intro k hk
      have := slice_block hMB3.hF k hk
      have h2 := hMB3.h2
      have h3 := hMB3.h3
      have h4 := hMB3.h4
      have h5 := hMB3.h5
      have h6 := hMB3.h6
      have h7 := hMB3.h7
      omega
    have hBX : B0 < (W2.alloc (Obj.cells #[.int .i64 a2] 3)).heap.size := hbx3.lt
    have HBX := Lib.hid hBX
    have c0 := hbx2.cell 0; have c1 := hbx2.cell 1; have c2 := hbx2.cell 2; have c3 := hbx2.cell 3; have c4 := hbx2.cell 4; have c5 := hbx2.cell 5; have c6 := hbx2.cell 6; have c7 := hbx2.cell 7; simp only [List.getElem?_toArray, List.getElem?_cons_zero, List.getElem?_cons_succ] at c0 c1 c2 c3 c4 c5 c6 c7
    clear hbk hrow3 hMB hbx2 lx hs3 hBX hlim
    go_wp2_with (at_builtin; go_loud (refine wpList_app rfl (.tmp 83) (.tmp 85) 25 rfl _ _ rfl rfl _ HRUN.out ?_); intro v' W4 hR; obtain ⟨A5, q5, rfl, hM5⟩ := hMB3.fair (i := 6) (Nat.le_refl _) HBX.out hR.2.1 hR.1 hR.2.2; have hbx4 := hbx3.grown hR.2.1 (fun e => (HIN.out B0 e.symm).2 rfl); have c6 := hbx4.cell 6; have f6 := hbx4.frozen 6; simp only [List.getElem?_toArray, List.getElem?_cons_zero, List.getElem?_cons_succ] at c6)
    have hbx5 : Blk (W4.setCell ⟨B0, 6, none⟩ (.slice A5 (c.fs.length + 1) q5)) B0 28 #[.int .i64 c.n, .slice c.aL c.ls.length c.cL, .slice c.aG c.gs.length c.cG, .slice c.aO c.os.length c.cO, .slice c.aB c.bs.length c.cB, .slice c.aC c.cs.length c.cC, .slice A5 (c.fs.length + 1) q5, .slice c.aN c.ns.length c.cN] := hbx4.put 6 _
    replace lo := (lo.grown hR.2.1 lo.size (fun k e => (HIN.out k e).1)).setCell (p := ⟨B0, 6, none⟩) hwB (.slice A5 (c.fs.length + 1) q5)
    clear c6 f6 hbx4 hbx3 HRUN hR
    clear c0 c1 c2 c3 c4 c5 c6 c7
    generalize W4.setCell ⟨B0, 6, none⟩ (.slice A5 (c.fs.length + 1) q5) = W5 at *
    refine (awake4_any _).mono ?_
    rintro e W6 ⟨rfl, hb6⟩
    have hbx6 := hbx5.below hb6 hbx5.lt
    replace lo := lo.trans (hb6.mono lo.size)
    have HS : Hid (Calls Tryz.prog 5 #[.agg #[.int .i64 c.n, .slice c.aL c.ls.length c.cL, .slice c.aG c.gs.length c.cG, .slice c.aO c.os.length c.cO, .slice c.aB c.bs.length c.cB, .slice c.aC c.cs.length c.cC, .slice A5 (c.fs.length + 1) q5, .slice c.aN c.ns.length c.cN], .int .u8 (kd : Int), .int .i64 a2, .string tx, .int .i64 a3, .int .i64 a2] W6 fun e w' => e = .returned (.bool true) ∧ Below W6.heap.size W6 w') := by
      have h := same4_any { c with aF := A5, cF := q5, fs := c.fs ++ [a2] } (kd : Int) a2 tx a3 a2 W6 ((hM5.below hb6 (Nat.le_refl _)).more hb6.size) (hW.fair A5 q5 a2 HI.out HF3.out) hcap HK0.out.1 HK0.out.2 HSZ.out HI3.out HI.out (by have := HG4.out; simp only; omega)
      simp only [List.length_set, List.length_append, List.length_cons, List.length_nil, Nat.zero_add] at h
      exact h
    have c0 := hbx6.cell 0; have c1 := hbx6.cell 1; have c2 := hbx6.cell 2; have c3 := hbx6.cell 3; have c4 := hbx6.cell 4; have c5 := hbx6.cell 5; have c6 := hbx6.cell 6; have c7 := hbx6.cell 7; simp only [List.getElem?_toArray, List.getElem?_cons_zero, List.getElem?_cons_succ] at c0 c1 c2 c3 c4 c5 c6 c7
    clear hb6 hbx6 hbx5
    go_wp2_with fail
    refine HS.out.mono ?_
    rintro e W7 ⟨rfl, hb7⟩
    replace lo := lo.trans (hb7.mono lo.size)
    go_wp2
    go_ret
    exact ⟨rfl, lo⟩
  · have hlim := HN2.out
    have lx := lowAlloc W2 (Obj.cells #[.int .u8 102, .int .i64 a2, .string ⟨#[113]⟩] 35)
    have hbk := Blk.new W2 35 #[.int .u8 102, .int .i64 a2, .string ⟨#[113]⟩]
    have hMB3 := hMB.below lx hMB.ht
    have hrow3 := hMB3.hN.row
    have hbx3 := hbx2.below lx hbx2.lt
    replace lo := lo.trans (lx.mono lo.size)
    have hs3 : B6 ≤ (W2.alloc (Obj.cells #[.int .u8 102, .int .i64 a2, .string ⟨#[113]⟩] 35)).heap.size := by
      have h3 := hMB3.h3
      have h4 := hMB3.h4
      have h5 := hMB3.h5
      have h6 := hMB3.h6
      have h7 := hMB3.h7
      have ht := hMB3.ht
      omega
    have HRUN : Hid (∀ ty, ∃ v' w', (Builtin.append_ #[26, 26] ty #[(.slice c.aN c.ns.length c.cN), .slice (some ⟨W2.heap.size, 0, none⟩) 1 1]).run Tryz.prog (W2.alloc (Obj.cells #[.int .u8 102, .int .i64 a2, .string ⟨#[113]⟩] 35)) = .ok v' w' ∧ (w'.ownsRow B6 35 3 v' (c.ns.length + 1) (flatN c.ns ++ [.int .u8 102, .int .i64 a2, .string ⟨#[113]⟩]) ∧ (W2.alloc (Obj.cells #[.int .u8 102, .int .i64 a2, .string ⟨#[113]⟩] 35)).grownBy w' (Value.slice c.aN c.ns.length c.cN).ownBlock ∧ (v'.ownBlock = (Value.slice c.aN c.ns.length c.cN).ownBlock ∨ v'.ownBlock = some (W2.alloc (Obj.cells #[.int .u8 102, .int .i64 a2, .string ⟨#[113]⟩] 35)).heap.size))) := by
      intro ty
      obtain ⟨v', w', r1, r2, r3, r4⟩ := app_name (W2.alloc (Obj.cells #[.int .u8 102, .int .i64 a2, .string ⟨#[113]⟩] 35)) B6 ty (.slice c.aN c.ns.length c.cN) c.ns.length _ hrow3 W2.heap.size 1 102 a2 ⟨#[113]⟩ hbk (by omega) hs3
      exact ⟨v', w', r1, r2, r3, r4⟩
    have HIN : Hid (∀ k, (Value.slice c.aN c.ns.length c.cN).ownBlock = some k → w.heap.size ≤ k ∧ k ≠ B0) := by
      intro k hk
      have := slice_block hMB3.hN k hk
      have h2 := hMB3.h2
      have h3 := hMB3.h3
      have h4 := hMB3.h4
      have h5 := hMB3.h5
      have h6 := hMB3.h6
      have h7 := hMB3.h7
      omega
    have hBX : B0 < (W2.alloc (Obj.cells #[.int .u8 102, .int .i64 a2, .string ⟨#[113]⟩] 35)).heap.size := hbx3.lt
    have HBX := Lib.hid hBX
    have c0 := hbx2.cell 0; have c1 := hbx2.cell 1; have c2 := hbx2.cell 2; have c3 := hbx2.cell 3; have c4 := hbx2.cell 4; have c5 := hbx2.cell 5; have c6 := hbx2.cell 6; have c7 := hbx2.cell 7; simp only [List.getElem?_toArray, List.getElem?_cons_zero, List.getElem?_cons_succ] at c0 c1 c2 c3 c4 c5 c6 c7
    clear hbk hrow3 hMB hbx2 lx hs3 hBX hlim
    go_wp2_with (at_builtin; go_loud (refine wpList_app rfl (.tmp 91) (.tmp 94) 26 rfl _ _ rfl rfl _ HRUN.out ?_); intro v' W4 hR; obtain ⟨A5, q5, rfl, hcap5, hM5⟩ := hMB3.name (i := 7) (Nat.le_refl _) HBX.out hR.2.1 hR.1 hR.2.2; have hbx4 := hbx3.grown hR.2.1 (fun e => (HIN.out B0 e.symm).2 rfl); have c7 := hbx4.cell 7; have f7 := hbx4.frozen 7; simp only [List.getElem?_toArray, List.getElem?_cons_zero, List.getElem?_cons_succ] at c7)
    have hbx5 : Blk (W4.setCell ⟨B0, 7, none⟩ (.slice A5 (c.ns.length + 1) q5)) B0 28 #[.int .i64 c.n, .slice c.aL c.ls.length c.cL, .slice c.aG c.gs.length c.cG, .slice c.aO c.os.length c.cO, .slice c.aB c.bs.length c.cB, .slice c.aC c.cs.length c.cC, .slice c.aF c.fs.length c.cF, .slice A5 (c.ns.length + 1) q5] := hbx4.put 7 _
    replace lo := (lo.grown hR.2.1 lo.size (fun k e => (HIN.out k e).1)).setCell (p := ⟨B0, 7, none⟩) hwB (.slice A5 (c.ns.length + 1) q5)
    clear c7 f7 hbx4 hbx3 HRUN hR
    clear c0 c1 c2 c3 c4 c5 c6 c7
    generalize W4.setCell ⟨B0, 7, none⟩ (.slice A5 (c.ns.length + 1) q5) = W5 at *
    refine (awake4_any _).mono ?_
    rintro e W6 ⟨rfl, hb6⟩
    have hbx6 := hbx5.below hb6 hbx5.lt
    replace lo := lo.trans (hb6.mono lo.size)
    have HS : Hid (Calls Tryz.prog 5 #[.agg #[.int .i64 c.n, .slice c.aL c.ls.length c.cL, .slice c.aG c.gs.length c.cG, .slice c.aO c.os.length c.cO, .slice c.aB c.bs.length c.cB, .slice c.aC c.cs.length c.cC, .slice c.aF c.fs.length c.cF, .slice A5 (c.ns.length + 1) q5], .int .u8 (kd : Int), .int .i64 a2, .string tx, .int .i64 a3, .int .i64 a2] W6 fun e w' => e = .returned (.bool true) ∧ Below W6.heap.size W6 w') := by
      have h := same4_any { c with aN := A5, cN := q5, ns := c.ns ++ [(102, a2, ⟨#[113]⟩)] } (kd : Int) a2 tx a3 a2 W6 ((hM5.below hb6 (Nat.le_refl _)).more hb6.size) (hW.name A5 q5 102 a2 ⟨#[113]⟩ (by omega) HI.out (by unfold maxLen; decide) HN2.out) (by simpa using hcap5) HK0.out.1 HK0.out.2 HSZ.out HI3.out HI.out (by have := HG4.out; simp only; omega)
      simp only [List.length_set, List.length_append, List.length_cons, List.length_nil, Nat.zero_add] at h
      exact h
    have c0 := hbx6.cell 0; have c1 := hbx6.cell 1; have c2 := hbx6.cell 2; have c3 := hbx6.cell 3; have c4 := hbx6.cell 4; have c5 := hbx6.cell 5; have c6 := hbx6.cell 6; have c7 := hbx6.cell 7; simp only [List.getElem?_toArray, List.getElem?_cons_zero, List.getElem?_cons_succ] at c0 c1 c2 c3 c4 c5 c6 c7
    clear hb6 hbx6 hbx5
    go_wp2_with fail
    refine HS.out.mono ?_
    rintro e W7 ⟨rfl, hb7⟩
    replace lo := lo.trans (hb7.mono lo.size)
    go_wp2
    go_ret
    exact ⟨rfl, lo⟩
  · have hlim := HN2.out
    have lx := lowAlloc W2 (Obj.cells #[.int .u8 (kd : Int), .int .i64 a2, .string ⟨#[110, 101, 119]⟩] 35)
    have hbk := Blk.new W2 35 #[.int .u8 (kd : Int), .int .i64 a2, .string ⟨#[110, 101, 119]⟩]
    have hMB3 := hMB.below lx hMB.ht
    have hrow3 := hMB3.hN.row
    have hbx3 := hbx2.below lx hbx2.lt
    replace lo := lo.trans (lx.mono lo.size)
    have hs3 : B6 ≤ (W2.alloc (Obj.cells #[.int .u8 (kd : Int), .int .i64 a2, .string ⟨#[110, 101, 119]⟩] 35)).heap.size := by
      have h3 := hMB3.h3
      have h4 := hMB3.h4
      have h5 := hMB3.h5
      have h6 := hMB3.h6
      have h7 := hMB3.h7
      have ht := hMB3.ht
      omega
    have HRUN : Hid (∀ ty, ∃ v' w', (Builtin.append_ #[26, 26] ty #[(.slice c.aN c.ns.length c.cN), .slice (some ⟨W2.heap.size, 0, none⟩) 1 1]).run Tryz.prog (W2.alloc (Obj.cells #[.int .u8 (kd : Int), .int .i64 a2, .string ⟨#[110, 101, 119]⟩] 35)) = .ok v' w' ∧ (w'.ownsRow B6 35 3 v' (c.ns.length + 1) (flatN c.ns ++ [.int .u8 (kd : Int), .int .i64 a2, .string ⟨#[110, 101, 119]⟩]) ∧ (W2.alloc (Obj.cells #[.int .u8 (kd : Int), .int .i64 a2, .string ⟨#[110, 101, 119]⟩] 35)).grownBy w' (Value.slice c.aN c.ns.length c.cN).ownBlock ∧ (v'.ownBlock = (Value.slice c.aN c.ns.length c.cN).ownBlock ∨ v'.ownBlock = some (W2.alloc (Obj.cells #[.int .u8 (kd : Int), .int .i64 a2, .string ⟨#[110, 101, 119]⟩] 35)).heap.size))) := by
      intro ty
      obtain ⟨v', w', r1, r2, r3, r4⟩ := app_name (W2.alloc (Obj.cells #[.int .u8 (kd : Int), .int .i64 a2, .string ⟨#[110, 101, 119]⟩] 35)) B6 ty (.slice c.aN c.ns.length c.cN) c.ns.length _ hrow3 W2.heap.size 1 (kd : Int) a2 ⟨#[110, 101, 119]⟩ hbk (by omega) hs3
      exact ⟨v', w', r1, r2, r3, r4⟩
    have HIN : Hid (∀ k, (Value.slice c.aN c.ns.length c.cN).ownBlock = some k → w.heap.size ≤ k ∧ k ≠ B0) := by
      intro k hk
      have := slice_block hMB3.hN k hk
      have h2 := hMB3.h2
      have h3 := hMB3.h3
      have h4 := hMB3.h4
      have h5 := hMB3.h5
      have h6 := hMB3.h6
      have h7 := hMB3.h7
      omega
    have hBX : B0 < (W2.alloc (Obj.cells #[.int .u8 (kd : Int), .int .i64 a2, .string ⟨#[110, 101, 119]⟩] 35)).heap.size := hbx3.lt
    have HBX := Lib.hid hBX
    have c0 := hbx2.cell 0; have c1 := hbx2.cell 1; have c2 := hbx2.cell 2; have c3 := hbx2.cell 3; have c4 := hbx2.cell 4; have c5 := hbx2.cell 5; have c6 := hbx2.cell 6; have c7 := hbx2.cell 7; simp only [List.getElem?_toArray, List.getElem?_cons_zero, List.getElem?_cons_succ] at c0 c1 c2 c3 c4 c5 c6 c7
    clear hbk hrow3 hMB hbx2 lx hs3 hBX hlim
    go_wp2_with (at_builtin; go_loud (refine wpList_app rfl (.tmp 43) (.tmp 47) 26 rfl _ _ rfl rfl _ HRUN.out ?_); intro v' W4 hR; obtain ⟨A5, q5, rfl, hcap5, hM5⟩ := hMB3.name (i := 7) (Nat.le_refl _) HBX.out hR.2.1 hR.1 hR.2.2; have hbx4 := hbx3.grown hR.2.1 (fun e => (HIN.out B0 e.symm).2 rfl); have c7 := hbx4.cell 7; have f7 := hbx4.frozen 7; simp only [List.getElem?_toArray, List.getElem?_cons_zero, List.getElem?_cons_succ] at c7)
    have hbx5 : Blk (W4.setCell ⟨B0, 7, none⟩ (.slice A5 (c.ns.length + 1) q5)) B0 28 #[.int .i64 c.n, .slice c.aL c.ls.length c.cL, .slice c.aG c.gs.length c.cG, .slice c.aO c.os.length c.cO, .slice c.aB c.bs.length c.cB, .slice c.aC c.cs.length c.cC, .slice c.aF c.fs.length c.cF, .slice A5 (c.ns.length + 1) q5] := hbx4.put 7 _
    replace lo := (lo.grown hR.2.1 lo.size (fun k e => (HIN.out k e).1)).setCell (p := ⟨B0, 7, none⟩) hwB (.slice A5 (c.ns.length + 1) q5)
    clear c7 f7 hbx4 hbx3 HRUN hR
    clear c0 c1 c2 c3 c4 c5 c6 c7
    generalize W4.setCell ⟨B0, 7, none⟩ (.slice A5 (c.ns.length + 1) q5) = W5 at *
    refine (awake4_any _).mono ?_
    rintro e W6 ⟨rfl, hb6⟩
    have hbx6 := hbx5.below hb6 hbx5.lt
    replace lo := lo.trans (hb6.mono lo.size)
    have HS : Hid (Calls Tryz.prog 5 #[.agg #[.int .i64 c.n, .slice c.aL c.ls.length c.cL, .slice c.aG c.gs.length c.cG, .slice c.aO c.os.length c.cO, .slice c.aB c.bs.length c.cB, .slice c.aC c.cs.length c.cC, .slice c.aF c.fs.length c.cF, .slice A5 (c.ns.length + 1) q5], .int .u8 (kd : Int), .int .i64 a2, .string tx, .int .i64 a3, .int .i64 a2] W6 fun e w' => e = .returned (.bool true) ∧ Below W6.heap.size W6 w') := by
      have h := same4_any { c with aN := A5, cN := q5, ns := c.ns ++ [((kd : Int), a2, ⟨#[110, 101, 119]⟩)] } (kd : Int) a2 tx a3 a2 W6 ((hM5.below hb6 (Nat.le_refl _)).more hb6.size) (hW.name A5 q5 (kd : Int) a2 ⟨#[110, 101, 119]⟩ HK0.out HI.out (by unfold maxLen; decide) HN2.out) (by simpa using hcap5) HK0.out.1 HK0.out.2 HSZ.out HI3.out HI.out (by have := HG4.out; simp only; omega)
      simp only [List.length_set, List.length_append, List.length_cons, List.length_nil, Nat.zero_add] at h
      exact h
    have c0 := hbx6.cell 0; have c1 := hbx6.cell 1; have c2 := hbx6.cell 2; have c3 := hbx6.cell 3; have c4 := hbx6.cell 4; have c5 := hbx6.cell 5; have c6 := hbx6.cell 6; have c7 := hbx6.cell 7; simp only [List.getElem?_toArray, List.getElem?_cons_zero, List.getElem?_cons_succ] at c0 c1 c2 c3 c4 c5 c6 c7
    clear hb6 hbx6 hbx5
    go_wp2_with fail
    refine HS.out.mono ?_
    rintro e W7 ⟨rfl, hb7⟩
    replace lo := lo.trans (hb7.mono lo.size)
    go_wp2
    go_ret
    exact ⟨rfl, lo⟩
end Go.Proofs.YtdbmepndebdbpaaGreat
