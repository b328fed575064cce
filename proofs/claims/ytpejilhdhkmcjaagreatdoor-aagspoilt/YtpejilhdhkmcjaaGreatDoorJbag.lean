/- The reference's And of a right graph and its literals. -/
import Derived.Test.YtpejilhdhkmcjaaGreatDoorJbAl
import Derived.Test.YtpejilhdhkmcjaaGreatDoorJbaf
import Derived.ProofKit
import Derived.OpenShut
import Derived.ShutString
namespace Go.Proofs.YtpejilhdhkmcjaaGreatDoor
open Go.RowKit

theorem Gr.drew {w : World} {C : Nat} {A : Option Addr} {gs : List (Int × Int)} (h : Gr w C A gs) : Gr w.drew C A gs := h
theorem Boxes.belowK {w W W' : World} {n : Int} {s : Value} {K : Nat} (h : Boxes w W n s) (hb : Below K W W') (hK : w.heap.size + 1 < K) : Boxes w W' n s := by
 have hc : ∀ b i, b < w.heap.size + 2 → W'.cell? ⟨b, i, none⟩ = W.cell? ⟨b, i, none⟩ := fun b i hlt => hb.cell (p := ⟨b, i, none⟩) (by simp; omega)
 have hf : ∀ b i, b < w.heap.size + 2 → W'.frozen? ⟨b, i, none⟩ = W.frozen? ⟨b, i, none⟩ := fun b i hlt => hb.frozen (p := ⟨b, i, none⟩) (by simp; omega)
 exact ⟨h.low.trans (hb.mono (by omega)), (hc _ _ (by omega)).trans h.d0, (hc _ _ (by omega)).trans h.d1, (hc _ _ (by omega)).trans h.e0, (hc _ _ (by omega)).trans h.e1, (hf _ _ (by omega)).trans h.f0, (hf _ _ (by omega)).trans h.f1, Nat.lt_of_lt_of_le h.sz hb.size⟩
/-- The literals, the greater one first. -/
def MM (w : World) (n : Int) (s : Value) (a b : Int) (s1 s2 : Value) (V : World) : Prop :=
 ∃ x y : Int, s1 = .int .i64 x ∧ s2 = .int .i64 y ∧ (max a b, min a b) = (x, y) ∧ y ≤ x ∧ Boxes w V n s

set_option maxRecDepth 100000 in
set_option maxHeartbeats 4000000 in
theorem refAnd_ok (n : Int) (A : Option Addr) (c : Nat) (gs : List (Int × Int)) (a b : Int) (w : World) (B : Nat) (hg : Gr w B A gs) (hB : B ≤ w.heap.size) (hw : Wf gs)
  (hr : Gm.rightB n gs = true) (ha : Gm.litB n gs.length a = true) (hb : Gm.litB n gs.length b = true) :
  Calls Tryz.prog 60 #[.agg #[.int .i64 n, .slice A gs.length c], .int .i64 a, .int .i64 b] w (RefPost (Gm.andS n gs a b) A gs w) := by
 have hnot : ∀ (x : Bool) (w : World), (Op.unary .not (.bool x)).run Tryz.prog w = .ok (.bool (!x)) w := fun _ _ => rfl
 have HC := Lib.hid (show Gm.rightB n gs = true ∧ Gm.litB n gs.length a = true ∧ Gm.litB n gs.length b = true from ⟨hr, ha, hb⟩)
 obtain ⟨hn0, hn1, hn2, hnod⟩ := right_facts hr
 obtain ⟨ha0, ha1⟩ := lit_facts ha
 obtain ⟨hb0, hb1⟩ := lit_facts hb
 have HL := Lib.hid (show gs.length ≤ 1000000 by omega)
 obtain ⟨W, hW⟩ : ∃ W, W = ((w.alloc (Obj.cells #[Value.int .i64 n, .slice A gs.length c] 64)).alloc (Obj.cells #[.int .i64 0, .slice none 0 0] 64)) := ⟨_, rfl⟩
 have hbx : Boxes w W n (.slice A gs.length c) := by
  rw [hW]
  exact ⟨((Below.refl w.heap.size w).alloc (Nat.le_refl _) _).alloc (by simp) _, by go_simp, by go_simp, by go_simp, by go_simp, by go_simp, by go_simp, by simp⟩
 have HA := Lib.hid ha
 have HB := Lib.hid hb
 have HR := Lib.hid hr
 have hneA : 0 < gs.length → ∀ ad, A = some ad → ad.block ≠ w.heap.size + 1 := fun hp ad e => by
  obtain ⟨b', o', e', hb', _⟩ := hg 0 hp
  rw [e'] at e
  injection e with e
  subst e
  simp
  omega
 have HNE := Lib.hid hneA
 clear ha hb hr hnod hneA
 go_enter Tryz.func60, Tryz.ntmps60
 go_wp2_with fail
 rw [← hW]
 clear hW
 refine (refRight_any n A c gs W B HL.out (hg.below hbx.low hB) (Nat.le_trans hB hbx.low.size) hw).mono ?_
 rintro e w1 ⟨rfl, hb1'⟩
 rw [HR.out]
 have hx1 := hbx.below hb1'
 have d0 := hx1.d0
 have d1 := hx1.d1
 go_wp2_with fail
 refine (refLit_any n A gs.length c a w1 HL.out (by omega)).mono ?_
 rintro e w2 ⟨rfl, hb2'⟩
 rw [HA.out]
 have hx2 := hx1.below hb2'
 clear d0 d1
 have d0 := hx2.d0
 have d1 := hx2.d1
 go_wp2_with fail
 refine (refLit_any n A gs.length c b w2 HL.out (by omega)).mono ?_
 rintro e w3 ⟨rfl, hb3'⟩
 rw [HB.out]
 have hx3 := hx2.below hb3'
 clear d0 d1 hbx hb1' hx1 hb2' hx2 hb3'
 go_upto_region 3 with fail
 go_cut [1, 2] (fun s1 s2 wx => MM w n (.slice A gs.length c) a b s1 s2 wx)
 case first =>
  rcases Int.lt_trichotomy a b with hlt | rfl | hlt
  ·
   have hd : decide (b ≤ a) = false := by simp; omega
   have hm : (max a b, min a b) = (b, a) := by rw [Int.max_eq_right (Int.le_of_lt hlt), Int.min_eq_left (Int.le_of_lt hlt)]
   have HM := Lib.hid hm
   clear hm
   go_wp2_with fail
   go_meet
   exact ⟨b, a, rfl, rfl, HM.out, by omega, hx3⟩
  ·
   go_wp2_with fail
   go_meet
   exact ⟨a, a, rfl, rfl, by rw [Int.max_self, Int.min_self], Int.le_refl _, hx3⟩
  have hd : decide (b ≤ a) = true := by simp; omega
  have hm : (max a b, min a b) = (a, b) := by rw [Int.max_eq_left (Int.le_of_lt hlt), Int.min_eq_right (Int.le_of_lt hlt)]
  have HM := Lib.hid hm
  clear hm
  go_wp2_with fail
  go_meet
  exact ⟨a, b, rfl, rfl, HM.out, by omega, hx3⟩
 obtain ⟨x, y, rfl, rfl, hm, hyx, hx⟩ := hcut
 clear hx3
 have hsm := simple_max ha0 hb0 hm
 have hy0 : 0 ≤ y := by simp only [Prod.mk.injEq] at hm; omega
 have hxl : x < 2 * (1 + n + gs.length) := by simp only [Prod.mk.injEq] at hm; omega
 have HM := Lib.hid hm
 have HSM := Lib.hid hsm
 clear hm hsm
 have d0 := hx.d0
 have d1 := hx.d1
 have e0 := hx.e0
 have e1 := hx.e1
 have f0 := hx.f0
 have f1 := hx.f1
 have hgx := hg.below hx.low hB
 have hsx := hx.sz
 by_cases h1 : y = 0
 ·
  subst h1
  have HS := Lib.hid (andS_some (l := 0) HC.out (HSM.out.trans (by simp)))
  go_wp2
  obtain ⟨r0, r1⟩ := and_cells (u := .int .i64 n) (v := .slice A gs.length c) hx
  have hfin := ref_close (r := ((n, gs), 0, 0)) (A := A) (gs := gs) (c' := c) hx (hgx.more (Nat.le_trans hB hx.low.size)) (Or.inl ⟨rfl, rfl⟩) HNE.out
  exact bodyPost_ret (v := .tuple #[.agg #[.int .i64 n, .slice A gs.length c], .int .i64 0, .int .i64 0]) (by simp [results, Tryz.results60, go_sem, r0, r1]) rfl (by rw [HS.out]; exact hfin)
 have b1 : (y == 0) = false := by simp [h1]
 by_cases h2 : x = y
 ·
  subst h2
  have HS := Lib.hid (andS_some (l := x) HC.out (HSM.out.trans (by simp [h1])))
  have b2 : (x != x) = false := by simp
  by_cases h3 : x = 1
  ·
   subst h3
   clear h1
   go_wp2
   obtain ⟨r0, r1⟩ := and_cells (u := .int .i64 n) (v := .slice A gs.length c) hx
   have hfin := ref_close (r := ((n, gs), 1, 0)) (A := A) (gs := gs) (c' := c) hx (hgx.more (Nat.le_trans hB hx.low.size)) (Or.inl ⟨rfl, rfl⟩) HNE.out
   exact bodyPost_ret (v := .tuple #[.agg #[.int .i64 n, .slice A gs.length c], .int .i64 1, .int .i64 0]) (by simp [results, Tryz.results60, go_sem, r0, r1]) rfl (by rw [HS.out]; exact hfin)
  have b3 : (x == 1) = false := by simp [h3]
  clear h1 h3
  go_wp2
  obtain ⟨r0, r1⟩ := and_cells (u := .int .i64 n) (v := .slice A gs.length c) hx
  have hfin := ref_close (r := ((n, gs), x, 0)) (A := A) (gs := gs) (c' := c) hx (hgx.more (Nat.le_trans hB hx.low.size)) (Or.inl ⟨rfl, rfl⟩) HNE.out
  exact bodyPost_ret (v := .tuple #[.agg #[.int .i64 n, .slice A gs.length c], .int .i64 x, .int .i64 0]) (by simp [results, Tryz.results60, go_sem, r0, r1]) rfl (by rw [HS.out]; exact hfin)
 have b2 : (x != y) = true := by simp [h2]
 have b2' : (x == y) = false := by simp [h2]
 by_cases h3 : x / 2 = y / 2
 ·
  have HS := Lib.hid (andS_some (l := 0) HC.out (HSM.out.trans (by rw [if_pos (Or.inr ⟨h3, h2⟩)])))
  have b3 : (x / 2 == y / 2) = true := by simp [h3]
  clear h1 h2 h3
  go_wp2
  obtain ⟨r0, r1⟩ := and_cells (u := .int .i64 n) (v := .slice A gs.length c) hx
  have hfin := ref_close (r := ((n, gs), 0, 0)) (A := A) (gs := gs) (c' := c) hx (hgx.more (Nat.le_trans hB hx.low.size)) (Or.inl ⟨rfl, rfl⟩) HNE.out
  exact bodyPost_ret (v := .tuple #[.agg #[.int .i64 n, .slice A gs.length c], .int .i64 0, .int .i64 0]) (by simp [results, Tryz.results60, go_sem, r0, r1]) rfl (by rw [HS.out]; exact hfin)
 have b3 : (x / 2 == y / 2) = false := by simp [h3]
 by_cases h4 : y = 1
 ·
  have HS := Lib.hid (andS_some (l := x) HC.out (HSM.out.trans (by rw [if_neg (by simp [h1, h3]), if_pos (Or.inl h4)])))
  have b4 : (y == 1) = true := by simp [h4]
  clear h1 h2 h3 h4
  go_wp2
  obtain ⟨r0, r1⟩ := and_cells (u := .int .i64 n) (v := .slice A gs.length c) hx
  have hfin := ref_close (r := ((n, gs), x, 0)) (A := A) (gs := gs) (c' := c) hx (hgx.more (Nat.le_trans hB hx.low.size)) (Or.inl ⟨rfl, rfl⟩) HNE.out
  exact bodyPost_ret (v := .tuple #[.agg #[.int .i64 n, .slice A gs.length c], .int .i64 x, .int .i64 0]) (by simp [results, Tryz.results60, go_sem, r0, r1]) rfl (by rw [HS.out]; exact hfin)
 have b4 : (y == 1) = false := by simp [h4]
 have hS := andS_none HC.out (HSM.out.trans (by rw [if_neg (by simp [h1, h3]), if_neg (by simp [h4, h2])]))
 rw [HM.out] at hS
 have HS := Lib.hid hS
 clear h1 h2 h3 h4 hS
 go_wp2_with fail
 clear b1 b2 b2' b3 b4
 go_loopw [9] (fun j wr => ∃ k : Nat, k ≤ gs.length ∧ j = .int .i64 (k : Int) ∧ NoneOf gs (x, y) k ∧ Boxes w wr n (.slice A gs.length c)) (fun j _ => gs.length - (intOf j).toNat)
 case atStart => exact ⟨0, Nat.zero_le _, rfl, fun j hj => by omega, hx⟩
 obtain ⟨k, hk, rfl, hno, hxk⟩ := hrel
 have HNO := Lib.hid hno
 clear hno d0 d1 e0 e1 f0 f1 hgx hsx
 have d0 := hxk.d0
 have d1 := hxk.d1
 have hgk := hg.below hxk.low hB
 by_cases hlt : k < gs.length
 ·
  obtain ⟨bb, off, hA, hbB, g1, g2⟩ := hgk k hlt
  subst hA
  have hix := ix2 bb off gs.length c k HL.out hlt
  have hgu := eqGuard2
  generalize hgi : gs[k] = g at *
  obtain ⟨x2, y2⟩ := g
  have HGK := Lib.hid hgi
  clear hgi
  simp only at g1 g2
  have hel := eql_arr2 x2 y2 x y
  by_cases he : (x2, y2) = (x, y)
  ·
   have hidx := idx_at hlt HNO.out (HGK.out.trans he)
   have hS := HS.out
   rw [hidx, if_pos hlt] at hS
   have HS2 := Lib.hid hS
   have hbe : (x2 == x && y2 == y) = true := by simp only [Prod.mk.injEq] at he; simp [he.1, he.2]
   rw [hbe] at hel
   clear hbe he hS hidx
   have e0 := hxk.e0
   have e1 := hxk.e1
   have f0 := hxk.f0
   have f1 := hxk.f1
   go_wp2
   go_region
   go_wp2
   obtain ⟨r0, r1⟩ := and_cells (u := .int .i64 n) (v := .slice (some ⟨bb, off, none⟩) gs.length c) hxk
   have hfin := ref_close (r := ((n, gs), 2 * (1 + n + (k : Int)), 0)) (A := some ⟨bb, off, none⟩) (gs := gs) (c' := c) hxk (hgk.more (Nat.le_trans hB hxk.low.size)) (Or.inl ⟨rfl, rfl⟩) HNE.out
   exact bodyPost_ret (v := .tuple #[.agg #[.int .i64 n, .slice (some ⟨bb, off, none⟩) gs.length c], .int .i64 (2 * (n + 1 + (k : Int))), .int .i64 0]) (by simp [results, Tryz.results60, go_sem, r0, r1]) rfl (by rw [HS2.out, show 2 * (n + 1 + (k : Int)) = 2 * (1 + n + (k : Int)) by omega]; exact hfin.drew)
  have hbe : (x2 == x && y2 == y) = false := by
   simp only [Prod.mk.injEq] at he
   by_cases h1 : x2 = x
   ·
    have : ¬ y2 = y := fun h2 => he ⟨h1, h2⟩
    simp [this]
   simp [h1]
  have HNN := Lib.hid (show NoneOf gs (x, y) (k + 1) from fun j hj => by
   by_cases e : j < k
   ·
    exact HNO.out j e
   have : j = k := by omega
   subst this
   rw [List.getD_eq_getElem?_getD, List.getElem?_eq_getElem (by omega), HGK.out]
   exact he)
  rw [hbe] at hel
  clear hbe he
  go_wp2
  go_roundw
  case rel => exact ⟨k + 1, by omega, by go_num, HNN.out, hxk⟩
  case measure => simp [intOf]; omega
 have hkk : k = gs.length := by omega
 subst hkk
 have hidx := idx_none HNO.out
 have hS := HS.out
 rw [if_neg (by omega)] at hS
 have HS2 := Lib.hid hS
 clear hS hidx
 go_wp2_with fail
 refine (refVars_any n A gs.length c wr hn0 hn1 HL.out).mono ?_
 rintro e w4 ⟨rfl, hb4⟩
 have hx4 := hxk.below hb4
 clear d0 d1
 have d0 := hx4.d0
 have d1 := hx4.d1
 have e0 := hx4.e0
 have e1 := hx4.e1
 have f0 := hx4.f0
 have f1 := hx4.f1
 have hs4 := hx4.sz
 have hs0 : w.heap.size < w4.heap.size := by omega
 by_cases h2 : 1 + n + (gs.length : Int) = 2000
 ·
  have hS3 := HS2.out
  rw [if_pos h2] at hS3
  have HS3 := Lib.hid hS3
  have hq : decide (2000 ≤ n + 1 + (gs.length : Int)) = true := by simp; omega
  clear hS3 HS2 h2
  go_wp2
  obtain ⟨r0, r1⟩ := and_cells (u := .int .i64 0) (v := .slice none 0 0) hx4
  exact bodyPost_ret (v := .tuple #[.agg #[.int .i64 0, .slice none 0 0], .int .i64 0, .int .i64 2]) (by simp [results, Tryz.results60, go_sem, r0, r1]) rfl (ref_bad hx4 HS3.out)
 have hS3 := HS2.out
 rw [if_neg h2] at hS3
 have HS3 := Lib.hid hS3
 have hq : decide (2000 ≤ n + 1 + (gs.length : Int)) = false := by simp; omega
 clear hS3 HS2 h2
 have hx5 := hx4.alloc (Obj.cells #[.int .i64 n, .slice none 0 0] 64)
 have hg5 := hg.below hx5.low hB
 go_wp2_with (at_builtin; go_loud (refine wpList_gates rfl _ _ rfl (w4.heap.size + 1) B _ [] gs rfl ?own _ _ rfl ?gr ?len ?base ?_))
 case own => exact ⟨rfl, Or.inl ⟨rfl, rfl⟩⟩
 case gr => exact hg5
 case len => have := HL.out; simp; omega
 case base => simp
 intro v5 w5 hown5 hgr5 _
 have hk5 : Blk w5 w4.heap.size 64 #[.int .i64 n, .slice none 0 0] := (Blk.new w4 64 #[.int .i64 n, .slice none 0 0]).grown hgr5 (by simp [Value.ownBlock])
 have hx5' := hx5.grown (k := w4.heap.size + 1) (show (w4.alloc (Obj.cells #[.int .i64 n, .slice none 0 0] 64)).grownBy w5 (some (w4.heap.size + 1)) from ⟨hgr5.os, hgr5.tape, hgr5.output, hgr5.size, fun i hi _ => hgr5.block i hi (by simp [Value.ownBlock])⟩) (by omega)
 have hz5 : w4.heap.size < w5.heap.size := by have := hgr5.size; simp at this; omega
 have hgx : Gr (w5.alloc (Obj.cells #[.int .i64 x, .int .i64 y] 57)) (w5.heap.size + 1) (some ⟨w5.heap.size, 0, none⟩) [(x, y)] := by
  intro k hk
  have : k = 0 := by simpa using hk
  subst this
  exact ⟨w5.heap.size, 0, rfl, by omega, by simp, by simp⟩
 have hown5' : Own (w5.alloc (Obj.cells #[.int .i64 x, .int .i64 y] 57)) (w4.heap.size + 1) v5 gs := hown5.alloc _
 go_wp2_with (at_builtin; go_loud (refine wpList_gates rfl _ _ rfl (w4.heap.size + 1) (w5.heap.size + 1) v5 gs [(x, y)] rfl ?own2 _ _ rfl ?gr2 ?len2 ?base2 ?_))
 case own2 => exact hown5'
 case gr2 => exact hgx
 case len2 => have := HL.out; simp; omega
 case base2 => simp; omega
 intro v6 w6 hown6 hgr6 _
 have hb56 : Below (w4.heap.size + 1) w5 w6 := ((Below.refl (w4.heap.size + 1) w5).alloc (by omega) _).grown hgr6 (by simp; omega) hown5.block
 have hx6 : Boxes w w6 n (.slice A gs.length c) := hx5'.belowK hb56 (by omega)
 have hk6 := hk5.below hb56 (by omega)
 obtain ⟨A6, c6, rfl, hG6⟩ := hown6.gr
 have hsep6 := hown6.sep
 have k0 := hk6.cell 0
 have k1 := hk6.cell 1
 have kf1 := hk6.frozen 1
 simp only [zD, zE, zF] at k0 k1
 have hne6 : ∀ ad, A6 = some ad → ad.block ≠ w4.heap.size := hsep6.ne (Nat.zero_le _) (by omega)
 have hx7 : Boxes w (w6.setCell ⟨w4.heap.size, 1, none⟩ (.slice A6 (gs.length + 1) c6)) n (.slice A gs.length c) := hx6.grown (k := w4.heap.size) (grown_set (World.grownBy.refl w6 _) (Or.inl rfl) _) (by omega)
 have hG7 : Gr (w6.setCell ⟨w4.heap.size, 1, none⟩ (.slice A6 (gs.length + 1) c6)) (w6.setCell ⟨w4.heap.size, 1, none⟩ (.slice A6 (gs.length + 1) c6)).heap.size A6 (gs ++ [(x, y)]) := by
  have := hG6.set (p := ⟨w4.heap.size, 1, none⟩) hne6 (.slice A6 (gs.length + 1) c6)
  simpa using this
 have o0 : (w6.setCell ⟨w4.heap.size, 1, none⟩ (.slice A6 (gs.length + 1) c6)).cell? ⟨w4.heap.size, 0, none⟩ = some (.int .i64 n) := (World.cell?_setCell_other _ _ _ _ (by simp)).trans k0
 have o1 : (w6.setCell ⟨w4.heap.size, 1, none⟩ (.slice A6 (gs.length + 1) c6)).cell? ⟨w4.heap.size, 1, none⟩ = some (.slice A6 (gs.length + 1) c6) := World.cell?_setCell_same _ _ _ k1
 have hz7 : w4.heap.size < (w6.setCell ⟨w4.heap.size, 1, none⟩ (.slice A6 (gs.length + 1) c6)).heap.size := by have := hk6.lt; simpa using this
 go_wp2_with fail
 generalize w6.setCell ⟨w4.heap.size, 1, none⟩ (.slice A6 (gs.length + 1) c6) = V at *
 have HV := Lib.hid (refVars_any n A6 (gs.length + 1) c6 V.drew hn0 hn1 (by omega))
 have hnk : w.heap.size + 1 ≠ w4.heap.size := by omega
 clear d0 d1 e0 e1 f0 f1 k0 k1 kf1
 go_region_held3 (fun W => W.cell? ⟨w4.heap.size, 0, none⟩ = some (.int .i64 n) ∧ W.cell? ⟨w4.heap.size, 1, none⟩ = some (.slice A6 (gs.length + 1) c6))
  (first | exact ⟨o0, o1⟩ | exact ⟨p0, p1⟩ | exact ⟨keep_res p0 hnk, keep_res p1 hnk⟩)
  (first | (go_at_call 36; refine HV.out.mono ?_; rintro e w8 ⟨rfl, hb8⟩; have hx8 := hx7.drew.below hb8; have p0 := (hb8.cell (p := ⟨w4.heap.size, 0, none⟩) hz7).trans o0; have p1 := (hb8.cell (p := ⟨w4.heap.size, 1, none⟩) hz7).trans o1; have e0 := hx8.e0; have e1 := hx8.e1; have f0 := hx8.f0; have f1 := hx8.f1))
 go_wp2
 obtain ⟨r0, r1⟩ := and_cells (u := .int .i64 n) (v := .slice A6 (gs.length + 1) c6) hx8
 have hfin := ref_close (r := ((n, gs ++ [(x, y)]), 2 * (1 + n + (gs.length : Int)), 0)) (A := A) (gs := gs) (c' := c6) hx8 ((hG7.drew.below hb8 (Nat.le_refl _)).more hb8.size) (Or.inr (hsep6.mono (Nat.le_refl _) (by omega))) (fun _ => hsep6.ne (Nat.zero_le _) (by omega))
 have hwr : IntKind.i64.wrap (IntKind.i64.wrap (2 * (n + 1 + ((gs.length : Int) + 1))) - 2) = 2 * (1 + n + (gs.length : Int)) := by simp only [IntKind.wrap_i64]; omega
 exact bodyPost_ret (v := .tuple #[.agg #[.int .i64 n, .slice A6 (gs.length + 1) c6], .int .i64 (IntKind.i64.wrap (IntKind.i64.wrap (2 * (n + 1 + ((gs.length : Int) + 1))) - 2)), .int .i64 0]) (by simp [results, Tryz.results60, go_sem, r0, r1]) rfl (by rw [HS3.out, hwr]; simpa using hfin)

theorem refAnd_any (n : Int) (A : Option Addr) (c : Nat) (gs : List (Int × Int)) (a b : Int) (w : World) (B : Nat) (hl : gs.length ≤ 1000000) (hg : Gr w B A gs) (hB : B ≤ w.heap.size) (hw : Wf gs) (ha1 : a ≤ 9223372036854775807) (hb1 : b ≤ 9223372036854775807) :
  Calls Tryz.prog 60 #[.agg #[.int .i64 n, .slice A gs.length c], .int .i64 a, .int .i64 b] w (RefPost (Gm.andS n gs a b) A gs w) := by
 by_cases h : Gm.rightB n gs = true ∧ Gm.litB n gs.length a = true ∧ Gm.litB n gs.length b = true
 ·
  exact refAnd_ok n A c gs a b w B hg hB hw h.1 h.2.1 h.2.2
 exact refAnd_arg n A c gs a b w B hl hg hB hw ha1 hb1 h
end Go.Proofs.YtpejilhdhkmcjaaGreatDoor
/- A graph in a box of the law's own. -/
namespace Go.Proofs.YtpejilhdhkmcjaaGreatDoor
open Go.RowKit

theorem wf_nil : Wf [] := fun g h => by cases h
theorem gr_nil {w : World} {C : Nat} {A : Option Addr} : Gr w C A [] := fun k hk => by simp at hk

/-- A graph in a box of the law's own. -/
structure GX (k : Nat) (n : Int) (A : Option Addr) (c l : Nat) (gs : List (Int × Int)) (V : World) : Prop where
 c0 : V.cell? ⟨k, 0, none⟩ = some (.int .i64 n)
 c1 : V.cell? ⟨k, 1, none⟩ = some (.slice A l c)
 lt : k < V.heap.size
 gr : Gr V V.heap.size A gs
end Go.Proofs.YtpejilhdhkmcjaaGreatDoor
/- The row's last step where the call has made memory: nothing that was there has turned. -/
namespace Go.Proofs.YtpejilhdhkmcjaaGreatDoor
open Go.ChangeShapes Go.WideShapes Go.ChangeAt Go.RowKit

theorem Tryz.own : ownKnob Tryz.prog.godebug = none := by kernel_rfl

section
variable {H : Type} {enc : TypeId × Value → H} {P : Program}
theorem post_low {f : Func} {s : ChangeSpec} {apart fresh handsOn again : Bool} {W W' : World} {args : Array Value} {v : Value} {ds gs : List (DataW H)} {before pa pv : List MemPlace}
  (hW : DataW.Whole enc P f.params.toList s.vars apart W args.toList ds gs before)
  (hres : ∀ (b : Nat) (sp : Nat → Bool) (hd : Bool), DataW.TrodAll enc P W' b sp hd f.resultTypes.toList (v.resultList f.resultTypes.size) (s.fn H (ds ++ gs)).results [])
  (hargs : ∀ sp : Nat → Bool, (∀ p ∈ before, sp p.block = true) → DataW.TrodAll enc P W' 0 sp true f.params.toList args.toList (s.fn H (ds ++ gs)).args pa)
  (hvars : ∀ sp : Nat → Bool, (∀ p ∈ before, sp p.block = true) → DataW.TrodVars enc P W' sp s.vars (s.fn H (ds ++ gs)).vars pv)
  (hps : before = pa ++ pv) (hb : Below W.heap.size W W')
  (hok : ∀ (j : Nat) (t : TypeId) (r : Value), f.resultTypes[j]? = some t → (v.resultList f.resultTypes.size)[j]? = some r → Value.okWide P W' .any 0 t r) :
  s.post enc P f apart fresh handsOn again W args v W' := by
 have hlt : ∀ p ∈ before, p.block < W.heap.size := fun p hp => hW.lt p hp
 have hold : ∀ p ∈ before, (fun b => decide (b < W.heap.size)) p.block = true := fun p hp => by simpa using hlt p hp
 refine ⟨ds, gs, before, [], pa, pv, hW, hres _ _ _, hargs _ hold, hvars _ hold, World.keptBut_mono (fun p hp => ⟨hp, ?_⟩) (hb.frame (· ∈ before)), fun _ => ?_⟩
 ·
  rw [hps, List.mem_append] at hp
  exact Or.inr hp
 obtain ⟨_, _, _, _, _, hz, hn⟩ := hW
 refine ⟨hok, _, _, ([] ++ pa) ++ pv, ⟨[] ++ pa, pv, trodAll_append (hargs _ (fun _ _ => rfl)) (hres _ _ _), hvars _ (fun _ _ => rfl), rfl, ?_, ?_⟩, ?_⟩
 ·
  intro b off hp
  have hin : MemPlace.cell b off ∈ before := by rw [hps]; simpa using hp
  rw [hb.frozen (hlt _ hin)]
  exact hz b off hin
 ·
  intro ha
  have := hn ha
  rw [hps] at this
  simpa using this
 intro p hp _
 rw [hps]
 simpa using hp
end
end Go.Proofs.YtpejilhdhkmcjaaGreatDoor
/- What And makes of a right graph is right; Or and Ite likewise. -/
namespace Go.Proofs.YtpejilhdhkmcjaaGreatDoor
open Go.RowKit

theorem simple_none_facts {a b : Int} (ha : 0 ≤ a) (hb : 0 ≤ b) (h : Gm.simpleS a b = none) : 2 ≤ min a b ∧ min a b / 2 < max a b / 2 := by
 have hs := simple_max ha hb (x := max a b) (y := min a b) rfl
 rw [h] at hs
 split at hs
 ·
  cases hs
 split at hs
 ·
  cases hs
 omega
theorem lit_mk {n : Int} {l : Nat} {x : Int} (h0 : 0 ≤ n) (h1 : n ≤ 2000) (h2 : 0 ≤ x) (h3 : x < 2 * (1 + n + l)) : Gm.litB n l x = true := by
 simp [Gm.litB]; omega

structure AndGood (n : Int) (gs : List (Int × Int)) (r : Gm.Res) : Prop where
 err : r.2.2 = 0
 ins : r.1.1 = n
 right : Gm.rightB n r.1.2 = true
 lit : Gm.litB n r.1.2.length r.2.1 = true
 grow : r.1.2.length ≤ gs.length + 1
 pre : ∃ t, r.1.2 = gs ++ t
theorem and_good {n : Int} {gs : List (Int × Int)} {a b : Int} (hr : Gm.rightB n gs = true) (ha : Gm.litB n gs.length a = true) (hb : Gm.litB n gs.length b = true) (hroom : 1 + n + gs.length < 2000) :
  AndGood n gs (Gm.andS n gs a b) := by
 obtain ⟨hn0, hn1, hn2, hnod⟩ := right_facts hr
 obtain ⟨ha0, ha1⟩ := lit_facts ha
 obtain ⟨hb0, hb1⟩ := lit_facts hb
 rcases andS_cases n gs a b with e | ⟨_, ⟨l, hs, e⟩ | ⟨hs, hi, e⟩ | ⟨hs, hi, h2, e⟩ | ⟨hs, hi, h2, e⟩⟩
 ·
  exfalso
  unfold Gm.andS at e
  rw [if_pos ⟨hr, ha, hb⟩] at e
  split at e
  ·
   simp [Gm.bad] at e
  split at e
  ·
   simp [Gm.bad] at e
  split at e
  ·
   simp [Gm.bad] at e
  simp [Gm.bad] at e
 ·
  rw [e]; exact ⟨rfl, rfl, hr, simple_lit ha hb hs, by simp, [], by simp⟩
 ·
  rw [e]; exact ⟨rfl, rfl, hr, lit_mk hn0 hn1 (by simp only; omega) (by simp only; omega), by simp, [], by simp⟩
 ·
  omega
 rw [e]
 have hg := simple_none_facts ha0 hb0 hs
 refine ⟨rfl, rfl, ?_, lit_mk hn0 hn1 (by simp only; omega) (by simp; omega), by simp, [(max a b, min a b)], rfl⟩
 have h1 : Gm.ordB n 0 gs = true := by simp [Gm.rightB] at hr; exact hr.1.2
 have hm : (max a b, min a b) ∉ gs := fun hm => by
  have := List.idxOf_lt_length_of_mem hm
  omega
 simp only [Gm.rightB, Gm.fitB, Gm.ordB_snoc, Gm.nodB, h1, Bool.and_eq_true, decide_eq_true_eq, List.length_append, List.length_cons, List.length_nil]
 refine ⟨⟨⟨⟨hn0, hn1⟩, by omega⟩, trivial, ?_⟩, ?_⟩
 ·
  simp only [Gm.gateB, Bool.and_eq_true, decide_eq_true_eq]
  omega
 rw [List.nodup_append]
 exact ⟨hnod, by simp, fun x hx y hy => by simp at hy; subst hy; intro e'; subst e'; exact hm hx⟩
theorem neg_lit {n : Int} {l : Nat} {x : Int} (h : Gm.litB n l x = true) : Gm.litB n l (Gm.negB x) = true := by
 have h1 := lit_facts h
 simp [Gm.litB] at h ⊢
 have := Gm.negB_ge x (by omega)
 have := Gm.negB_le x (1 + n + l) (by omega)
 omega
structure IteGood (n : Int) (gs : List (Int × Int)) (r : Gm.Res) : Prop where
 err : r.2.2 = 0
 ins : r.1.1 = n
 right : Gm.rightB n r.1.2 = true
 lit : Gm.litB n r.1.2.length r.2.1 = true
 grow : r.1.2.length ≤ gs.length + 3
 pre : ∃ t, r.1.2 = gs ++ t
end Go.Proofs.YtpejilhdhkmcjaaGreatDoor
/- Made: a graph by numbers. -/
namespace Go.Proofs.YtpejilhdhkmcjaaGreatDoor
open Go.RowKit

/-- The slice at A holds the numbers zs. -/
def Us (w : World) (B : Nat) (A : Option Addr) (zs : List Int) : Prop :=
 ∀ k (hk : k < zs.length), ∃ b off, A = some ⟨b, off, none⟩ ∧ b < B ∧ w.cell? ⟨b, off + k, none⟩ = some (.int .u16 zs[k]) ∧ 0 ≤ zs[k] ∧ zs[k] ≤ 65535
theorem Us.below {w w' : World} {B C : Nat} {A : Option Addr} {zs : List Int} (h : Us w B A zs) (hb : Below C w w') (hB : B ≤ C) : Us w' B A zs := by
 intro k hk
 obtain ⟨b, off, rfl, hlt, h1, h2⟩ := h k hk
 exact ⟨b, off, rfl, hlt, (hb.cell (p := ⟨b, _, none⟩) (Nat.lt_of_lt_of_le hlt hB)).trans h1, h2⟩
theorem ixU (sb off N c r : Nat) (_hm : N ≤ 9223372036854775807) (hr : r < N) (w : World) : (Instr.indexAt 34 (.slice (some ⟨sb, off, none⟩) N c) (.int .i64 (r : Int))).run Tryz.prog w = .ok (.pointer (some ⟨sb, off + r, none⟩)) w := by go_simp

/-- A graph of n inputs by numbers: what is known of it. -/
structure Good (n : Int) (gs : List (Int × Int)) (k : Nat) (last : Int) : Prop where
 right : Gm.rightB n gs = true
 few : gs.length ≤ k
 wf : Wf gs
 lit : Gm.litB n gs.length last = true
theorem Good.start {n : Int} (h0 : 0 ≤ n) (h1 : n ≤ 6) : Good n [] 0 1 := by
 refine ⟨?_, by simp, wf_nil, ?_⟩
 ·
  simp [Gm.rightB, Gm.fitB, Gm.ordB, Gm.nodB]; omega
 simp [Gm.litB]; omega
/-- What Made keeps in its boxes. -/
structure MInv (w wr : World) (n : Int) (A : Option Addr) (c : Nat) (gs : List (Int × Int)) : Prop where
 low : Below w.heap.size w wr
 d0 : wr.cell? ⟨w.heap.size + 1, 0, none⟩ = some (.int .i64 n)
 d1 : wr.cell? ⟨w.heap.size + 1, 1, none⟩ = some (.slice A gs.length c)
 e0 : wr.cell? ⟨w.heap.size, 0, none⟩ = some (.int .i64 0)
 e1 : wr.cell? ⟨w.heap.size, 1, none⟩ = some (.slice none 0 0)
 f0 : wr.frozen? ⟨w.heap.size, 0, none⟩ = false
 f1 : wr.frozen? ⟨w.heap.size, 1, none⟩ = false
 g0 : wr.frozen? ⟨w.heap.size + 1, 0, none⟩ = false
 g1 : wr.frozen? ⟨w.heap.size + 1, 1, none⟩ = false
 sz : w.heap.size + 1 < wr.heap.size
 gr : Gr wr wr.heap.size A gs
 sep : Sep 0 (w.heap.size + 2) A
theorem MInv.below {w wr w' : World} {n : Int} {A : Option Addr} {c : Nat} {gs : List (Int × Int)} (h : MInv w wr n A c gs) (hb : Below wr.heap.size wr w') : MInv w w' n A c gs := by
 have hs := h.sz
 have hc : ∀ b i, b < w.heap.size + 2 → w'.cell? ⟨b, i, none⟩ = wr.cell? ⟨b, i, none⟩ := fun b i hlt => hb.cell (p := ⟨b, i, none⟩) (by simp; omega)
 have hf : ∀ b i, b < w.heap.size + 2 → w'.frozen? ⟨b, i, none⟩ = wr.frozen? ⟨b, i, none⟩ := fun b i hlt => hb.frozen (p := ⟨b, i, none⟩) (by simp; omega)
 exact ⟨h.low.trans (hb.mono h.low.size), (hc _ _ (by omega)).trans h.d0, (hc _ _ (by omega)).trans h.d1, (hc _ _ (by omega)).trans h.e0, (hc _ _ (by omega)).trans h.e1, (hf _ _ (by omega)).trans h.f0, (hf _ _ (by omega)).trans h.f1, (hf _ _ (by omega)).trans h.g0, (hf _ _ (by omega)).trans h.g1,
  Nat.lt_of_lt_of_le hs hb.size, (h.gr.below hb (Nat.le_refl _)).more hb.size, h.sep⟩
theorem MInv.drewN {w wr : World} {n : Int} {A : Option Addr} {c : Nat} {gs : List (Int × Int)} (h : MInv w wr n A c gs) (q : Nat) : MInv w (wr.drewN q) n A c gs :=
 ⟨below_drewN h.low q, h.d0, h.d1, h.e0, h.e1, h.f0, h.f1, h.g0, h.g1, h.sz, h.gr, h.sep⟩
theorem MInv.put {w wr : World} {n : Int} {A A' : Option Addr} {c c' : Nat} {gs gs' : List (Int × Int)} (h : MInv w wr n A c gs) (hG : Gr wr wr.heap.size A' gs') (hs : Sep 0 (w.heap.size + 2) A') :
  MInv w ((wr.setCell ⟨w.heap.size + 1, 0, none⟩ (.int .i64 n)).setCell ⟨w.heap.size + 1, 1, none⟩ (.slice A' gs'.length c')) n A' c' gs' := by
 have hne : ∀ ad, A' = some ad → ad.block ≠ w.heap.size + 1 := hs.ne (Nat.zero_le _) (by omega)
 refine ⟨(h.low.setCell (by simp) _).setCell (by simp) _, ?_, ?_, keep2 h.e0 (by omega), keep2 h.e1 (by omega), by simpa using h.f0, by simpa using h.f1, by simpa using h.g0, by simpa using h.g1, by simpa using h.sz, ?_, hs⟩
 ·
  exact (World.cell?_setCell_other _ _ _ _ (by simp)).trans (World.cell?_setCell_same _ _ _ h.d0)
 ·
  exact World.cell?_setCell_same _ _ _ ((World.cell?_setCell_other _ _ _ _ (by simp)).trans h.d1)
 have := (hG.set (p := ⟨w.heap.size + 1, 0, none⟩) hne (.int .i64 n)).set (p := ⟨w.heap.size + 1, 1, none⟩) hne (.slice A' gs'.length c')
 simpa using this
theorem MInv.drew {w wr : World} {n : Int} {A : Option Addr} {c : Nat} {gs : List (Int × Int)} (h : MInv w wr n A c gs) : MInv w wr.drew n A c gs :=
 ⟨h.low.drew, h.d0, h.d1, h.e0, h.e1, h.f0, h.f1, h.g0, h.g1, h.sz, h.gr, h.sep⟩
theorem xor_zero (x : Int) (h0 : 0 ≤ x) (h1 : x ≤ 9223372036854775807) : bits .xor .i64 x 0 = x := by
 obtain ⟨m, rfl⟩ := Int.eq_ofNat_of_zero_le h0
 have := Gm.i64_xor_nat m 0 (by omega) (by omega)
 simpa using this
theorem xor_lit {n : Int} {l : Nat} {x t : Int} (h : Gm.litB n l x = true) (hx : x ≤ 9223372036854775807) (ht : t = 0 ∨ t = 1) : Gm.litB n l (bits .xor .i64 x t) = true := by
 have h0 := (lit_facts h).1
 rcases ht with rfl | rfl
 ·
  rw [xor_zero x h0 hx]; exact h
 rw [Gm.bits_neg x h0 hx]; exact neg_lit h
theorem made_close {w wr : World} {n : Int} {A : Option Addr} {c : Nat} {gs : List (Int × Int)} (h : MInv w wr n A c gs) :
  Below w.heap.size w ((wr.setCell ⟨w.heap.size, 0, none⟩ (.int .i64 n)).setCell ⟨w.heap.size, 1, none⟩ (.slice A gs.length c)) ∧
  ((wr.setCell ⟨w.heap.size, 0, none⟩ (.int .i64 n)).setCell ⟨w.heap.size, 1, none⟩ (.slice A gs.length c)).cell? ⟨w.heap.size, 0, none⟩ = some (.int .i64 n) ∧
  ((wr.setCell ⟨w.heap.size, 0, none⟩ (.int .i64 n)).setCell ⟨w.heap.size, 1, none⟩ (.slice A gs.length c)).cell? ⟨w.heap.size, 1, none⟩ = some (.slice A gs.length c) ∧
  Gr ((wr.setCell ⟨w.heap.size, 0, none⟩ (.int .i64 n)).setCell ⟨w.heap.size, 1, none⟩ (.slice A gs.length c)) ((wr.setCell ⟨w.heap.size, 0, none⟩ (.int .i64 n)).setCell ⟨w.heap.size, 1, none⟩ (.slice A gs.length c)).heap.size A gs := by
 have hne : ∀ ad, A = some ad → ad.block ≠ w.heap.size := h.sep.ne (Nat.zero_le _) (by omega)
 refine ⟨(h.low.setCell (by simp) _).setCell (by simp) _, ?_, ?_, ?_⟩
 ·
  exact (World.cell?_setCell_other _ _ _ _ (by simp)).trans (World.cell?_setCell_same _ _ _ h.e0)
 ·
  exact World.cell?_setCell_same _ _ _ ((World.cell?_setCell_other _ _ _ _ (by simp)).trans h.e1)
 have := (h.gr.set (p := ⟨w.heap.size, 0, none⟩) hne (.int .i64 n)).set (p := ⟨w.heap.size, 1, none⟩) hne (.slice A gs.length c)
 simpa using this
/-- The loop's relation. -/
def MRel (w : World) (n : Int) (len : Nat) (last i : Value) (wr : World) : Prop :=
 ∃ (k : Nat) (A : Option Addr) (c : Nat) (gs : List (Int × Int)) (l : Int), k ≤ len ∧ k ≤ 40 ∧ i = .int .i64 (k : Int) ∧ last = .int .i64 l ∧ Good n gs k l ∧ MInv w wr n A c gs

end Go.Proofs.YtpejilhdhkmcjaaGreatDoor
