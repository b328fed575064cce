/- The reference's And: the walk. -/
import Derived.Test.YteabffdddlihnaaU
namespace Go.Proofs.Yteabffdddlihnaa
open Go.RowKit

theorem Boxes.drewN {w W : World} {n : Int} {s : Value} (h : Boxes w W n s) (q : Nat) : Boxes w (W.drewN q) n s := ⟨below_drewN h.low q, h.d0, h.d1, h.e0, h.e1, h.f0, h.f1, h.sz⟩

set_option maxRecDepth 100000 in
set_option maxHeartbeats 4000000 in
theorem refAnd_arg (n : Int) (A : Option Addr) (c : Nat) (gs : List (Int × Int)) (a b : Int) (w : World) (B : Nat) (hl : gs.length ≤ 1000000) (hg : Gr w B A gs) (hB : B ≤ w.heap.size) (hw : Wf gs)
    (ha1 : a ≤ 9223372036854775807) (hb1 : b ≤ 9223372036854775807)
    (hbad : ¬ (Gm.rightB n gs = true ∧ Gm.litB n gs.length a = true ∧ Gm.litB n gs.length b = true)) :
    Calls Try.prog 48 #[.agg #[.int .i64 n, .slice A gs.length c], .int .i64 a, .int .i64 b] w (RefPost (Gm.andS n gs a b) A gs w) := by
  have hnot : ∀ (x : Bool) (w : World), (Op.unary .not (.bool x)).run Try.prog w = .ok (.bool (!x)) w := fun _ _ => rfl
  have HS := Lib.hid (show Gm.andS n gs a b = Gm.bad 1 by unfold Gm.andS; rw [if_neg hbad])
  obtain ⟨W, hW⟩ : ∃ W, W = ((w.alloc (Obj.cells #[Value.int .i64 n, .slice A gs.length c] 45)).alloc (Obj.cells #[.int .i64 0, .slice none 0 0] 45)) := ⟨_, rfl⟩
  have hbx : Boxes w W n (.slice A gs.length c) := by
    rw [hW]
    exact ⟨((Below.refl w.heap.size w).alloc (Nat.le_refl _) _).alloc (by simp) _, by go_simp, by go_simp, by go_simp, by go_simp, by go_simp, by go_simp, by simp⟩
  have HL := Lib.hid hl
  clear hl
  by_cases hr : Gm.rightB n gs = true
  · by_cases ha : Gm.litB n gs.length a = true
    · have hb : Gm.litB n gs.length b = false := by
        cases h : Gm.litB n gs.length b with
        | false => rfl
        | true => exact absurd ⟨hr, ha, h⟩ hbad
      have HR := Lib.hid hr
      have HA := Lib.hid ha
      have HB := Lib.hid hb
      clear hr ha hb hbad
      go_enter Try.func48, Try.ntmps48
      go_wp2_with fail
      rw [← hW]
      clear hW
      refine (refRight_any n A c gs W B HL.out (hg.below hbx.low hB) (Nat.le_trans hB hbx.low.size) hw).mono ?_
      rintro e w1 ⟨rfl, hb1'⟩
      rw [HR.out]
      have hx1 := hbx.below hb1'
      have d0 := hx1.d0
      have d1 := hx1.d1
      go_wp2_with fail
      refine (refLit_any n A gs.length c a w1 HL.out ha1).mono ?_
      rintro e w2 ⟨rfl, hb2'⟩
      rw [HA.out]
      have hx2 := hx1.below hb2'
      clear d0 d1
      have d0 := hx2.d0
      have d1 := hx2.d1
      go_wp2_with fail
      refine (refLit_any n A gs.length c b w2 HL.out hb1).mono ?_
      rintro e w3 ⟨rfl, hb3'⟩
      rw [HB.out]
      have hx3 := hx2.below hb3'
      clear d0 d1
      have e0 := hx3.e0
      have e1 := hx3.e1
      have f0 := hx3.f0
      have f1 := hx3.f1
      go_wp2
      obtain ⟨r0, r1⟩ := and_cells (u := .int .i64 0) (v := .slice none 0 0) hx3
      exact bodyPost_ret (v := .tuple #[.agg #[.int .i64 0, .slice none 0 0], .int .i64 0, .int .i64 1]) (by simp [results, Try.results48, go_sem, r0, r1]) rfl (ref_bad hx3 HS.out)
    · have HR := Lib.hid hr
      have HA := Lib.hid (show Gm.litB n gs.length a = false by simpa using ha)
      clear hr ha hbad
      go_enter Try.func48, Try.ntmps48
      go_wp2_with fail
      rw [← hW]
      clear hW
      refine (refRight_any n A c gs W B HL.out (hg.below hbx.low hB) (Nat.le_trans hB hbx.low.size) hw).mono ?_
      rintro e w1 ⟨rfl, hb1'⟩
      rw [HR.out]
      have hx1 := hbx.below hb1'
      have d0 := hx1.d0
      have d1 := hx1.d1
      go_wp2_with fail
      refine (refLit_any n A gs.length c a w1 HL.out ha1).mono ?_
      rintro e w3 ⟨rfl, hb2'⟩
      rw [HA.out]
      have hx3 := hx1.below hb2'
      clear d0 d1
      have e0 := hx3.e0
      have e1 := hx3.e1
      have f0 := hx3.f0
      have f1 := hx3.f1
      go_wp2
      obtain ⟨r0, r1⟩ := and_cells (u := .int .i64 0) (v := .slice none 0 0) hx3
      exact bodyPost_ret (v := .tuple #[.agg #[.int .i64 0, .slice none 0 0], .int .i64 0, .int .i64 1]) (by simp [results, Try.results48, go_sem, r0, r1]) rfl (ref_bad hx3 HS.out)
  · have HR := Lib.hid (show Gm.rightB n gs = false by simpa using hr)
    clear hr hbad
    go_enter Try.func48, Try.ntmps48
    go_wp2_with fail
    rw [← hW]
    clear hW
    refine (refRight_any n A c gs W B HL.out (hg.below hbx.low hB) (Nat.le_trans hB hbx.low.size) hw).mono ?_
    rintro e w3 ⟨rfl, hb1'⟩
    rw [HR.out]
    have hx3 := hbx.below hb1'
    have e0 := hx3.e0
    have e1 := hx3.e1
    have f0 := hx3.f0
    have f1 := hx3.f1
    go_wp2
    obtain ⟨r0, r1⟩ := and_cells (u := .int .i64 0) (v := .slice none 0 0) hx3
    exact bodyPost_ret (v := .tuple #[.agg #[.int .i64 0, .slice none 0 0], .int .i64 0, .int .i64 1]) (by simp [results, Try.results48, go_sem, r0, r1]) rfl (ref_bad hx3 HS.out)
end Go.Proofs.Yteabffdddlihnaa
