/- graph.Ite. -/
import Derived.Test.YtpbbjklacgkcgaaDoorQ
import Derived.Deep.RegionWith
namespace Go.Proofs.YtpbbjklacgkcgaaDoor
open Go.RowKit

structure BoxG (w W : World) (n : Int) (s : Value) : Prop where
  bx : Boxes w W n s
  g0 : W.frozen? ⟨w.heap.size, 0, none⟩ = false
  g1 : W.frozen? ⟨w.heap.size, 1, none⟩ = false
theorem BoxG.below {w W W' : World} {n : Int} {s : Value} (h : BoxG w W n s) (hb : Below W.heap.size W W') : BoxG w W' n s :=
  ⟨h.bx.below hb, (hb.frozen (p := ⟨w.heap.size, 0, none⟩) (by have := h.bx.sz; simp; omega)).trans h.g0, (hb.frozen (p := ⟨w.heap.size, 1, none⟩) (by have := h.bx.sz; simp; omega)).trans h.g1⟩
theorem BoxG.drew {w W : World} {n : Int} {s : Value} (h : BoxG w W n s) : BoxG w W.drew n s := ⟨h.bx.drew, h.g0, h.g1⟩
theorem BoxG.put {w W : World} {n : Int} {s : Value} (h : BoxG w W n s) (n' : Int) (s' : Value) : BoxG w ((W.setCell ⟨w.heap.size, 0, none⟩ (.int .i64 n')).setCell ⟨w.heap.size, 1, none⟩ s') n' s' := by
  refine ⟨⟨(h.bx.low.setCell (by simp) _).setCell (by simp) _, ?_, ?_, ?_, ?_, ?_, ?_, ?_⟩, ?_, ?_⟩
  · exact (World.cell?_setCell_other _ _ _ _ (by simp)).trans (World.cell?_setCell_same _ _ _ h.bx.d0)
  · exact World.cell?_setCell_same _ _ _ ((World.cell?_setCell_other _ _ _ _ (by simp)).trans h.bx.d1)
  · exact keep2 h.bx.e0 (by omega)
  · exact keep2 h.bx.e1 (by omega)
  · simpa using h.bx.f0
  · simpa using h.bx.f1
  · simpa using h.bx.sz
  · simpa using h.g0
  · simpa using h.g1
theorem Gr.put {w W : World} {n1 : Int} {A' : Option Addr} {gs : List (Int × Int)} {s' : Value} (hG : Gr W W.heap.size A' gs) (hs : Sep 0 (w.heap.size + 2) A') :
    Gr ((W.setCell ⟨w.heap.size, 0, none⟩ (.int .i64 n1)).setCell ⟨w.heap.size, 1, none⟩ s') ((W.setCell ⟨w.heap.size, 0, none⟩ (.int .i64 n1)).setCell ⟨w.heap.size, 1, none⟩ s').heap.size A' gs := by
  have hne : ∀ ad, A' = some ad → ad.block ≠ w.heap.size := hs.ne (Nat.zero_le _) (by omega)
  have := (hG.set (p := ⟨w.heap.size, 0, none⟩) hne (.int .i64 n1)).set (p := ⟨w.heap.size, 1, none⟩) hne s'
  simpa using this
/-- The graph's box behind an And. -/
def GBox (w : World) (n1 : Int) (gs1 : List (Int × Int)) (l1 er : Int) (sl se : Value) (V : World) : Prop :=
  ∃ (A' : Option Addr) (c' : Nat), sl = .int .i64 l1 ∧ se = .int .i64 er ∧ BoxG w V n1 (.slice A' gs1.length c') ∧ Gr V V.heap.size A' gs1 ∧ Sep 0 (w.heap.size + 2) A'

theorem iteS_neg {n : Int} {gs : List (Int × Int)} {c a b : Int} (h : c < 0) : Gm.iteS n gs c a b = Gm.bad 1 := by unfold Gm.iteS; rw [if_pos h]
theorem iteS_ok {n : Int} {gs : List (Int × Int)} {c a b : Int} (h : ¬ c < 0) : Gm.iteS n gs c a b =
    (if (Gm.andS n gs c a).2.2 = 0 then
      (if (Gm.andS (Gm.andS n gs c a).1.1 (Gm.andS n gs c a).1.2 (Gm.negB c) b).2.2 = 0 then
        Gm.orS (Gm.andS (Gm.andS n gs c a).1.1 (Gm.andS n gs c a).1.2 (Gm.negB c) b).1.1 (Gm.andS (Gm.andS n gs c a).1.1 (Gm.andS n gs c a).1.2 (Gm.negB c) b).1.2 (Gm.andS n gs c a).2.1 (Gm.andS (Gm.andS n gs c a).1.1 (Gm.andS n gs c a).1.2 (Gm.negB c) b).2.1
       else Gm.bad (Gm.andS (Gm.andS n gs c a).1.1 (Gm.andS n gs c a).1.2 (Gm.negB c) b).2.2)
     else Gm.bad (Gm.andS n gs c a).2.2) := by unfold Gm.iteS; rw [if_neg h]

set_option maxRecDepth 100000 in
set_option maxHeartbeats 4000000 in
theorem ite_any (n : Int) (A : Option Addr) (cp : Nat) (gs : List (Int × Int)) (c a b : Int) (w : World) (B : Nat) (hl : gs.length ≤ 900000) (hg : Gr w B A gs) (hB : B ≤ w.heap.size) (hw : Wf gs)
    (hc1 : c ≤ 9223372036854775807) :
    Calls Tryd.prog 22 #[.agg #[.int .i64 n, .slice A gs.length cp], .int .i64 c, .int .i64 a, .int .i64 b] w (AndPost (Gm.iteS n gs c a b) 0 w) := by
  obtain ⟨W, hW⟩ : ∃ W, W = ((w.alloc (Obj.cells #[Value.int .i64 n, .slice A gs.length cp] 24)).alloc (Obj.cells #[.int .i64 0, .slice none 0 0] 24)) := ⟨_, rfl⟩
  have hbx : BoxG w W n (.slice A gs.length cp) := by
    rw [hW]
    exact ⟨⟨((Below.refl w.heap.size w).alloc (Nat.le_refl _) _).alloc (by simp) _, by go_simp, by go_simp, by go_simp, by go_simp, by go_simp, by go_simp, by simp⟩, by go_simp, by go_simp⟩
  have HL := Lib.hid hl
  clear hl
  by_cases hneg : c < 0
  · have HS := Lib.hid (iteS_neg (n := n) (gs := gs) (a := a) (b := b) hneg)
    have e0 := hbx.bx.e0
    have e1 := hbx.bx.e1
    go_enter Tryd.func22, Tryd.ntmps22
    go_wp2
    subst hW
    exact bodyPost_ret (v := .tuple #[.agg #[.int .i64 0, .slice none 0 0], .int .i64 0, .int .i64 1]) (by simp [results, Tryd.results22, go_sem, e0, e1]) rfl (and_bad0 hbx.bx HS.out)
  · have hc0 : 0 ≤ c := by omega
    have hS := iteS_ok (n := n) (gs := gs) (a := a) (b := b) hneg
    have hfx := and_facts n gs c a hw
    have HAND := Lib.hid (and_any n A cp gs c a W B (by have := HL.out; omega) (hg.below hbx.bx.low hB) (by have := hbx.bx.low.size; omega) hw)
    have HNC := Lib.hid (fun W => negated_any c W hc0 hc1)
    generalize Gm.andS n gs c a = r at *
    obtain ⟨⟨n1, gs1⟩, l1, er⟩ := r
    simp only at hS
    have HS := Lib.hid hS
    clear hS
    clear hneg
    go_enter Tryd.func22, Tryd.ntmps22
    go_wp2_with fail
    rw [← hW]
    clear hW
    refine HAND.out.mono ?_
    rintro e w1 ⟨A1, c1', rfl, hG1, hsep1, hb1⟩
    have hx1 := hbx.below hb1
    have hsp1 : Sep 0 (w.heap.size + 2) A1 := hsep1.mono (Nat.le_refl _) hbx.bx.sz
    have d0 := hx1.bx.d0
    have d1 := hx1.bx.d1
    have q0 := hx1.g0
    have q1 := hx1.g1
    have hx2 := hx1.put n1 (.slice A1 gs1.length c1')
    have hG2 := hG1.put (w := w) (n1 := n1) (s' := .slice A1 gs1.length c1') hsp1
    go_upto_if 26 with fail
    generalize ((w1.setCell ⟨w.heap.size, 0, none⟩ (.int .i64 n1)).setCell ⟨w.heap.size, 1, none⟩ (.slice A1 gs1.length c1')) = V at *
    clear d0 d1 q0 q1 hx1 hG1 HAND hbx
    have e0 := hx2.bx.e0
    have e1 := hx2.bx.e1
    have f0 := hx2.bx.f0
    have f1 := hx2.bx.f1
    have d0 := hx2.bx.d0
    have d1 := hx2.bx.d1
    have q0 := hx2.g0
    have q1 := hx2.g1
    by_cases her : er = 0
    · subst her
      have hS2 := HS.out
      rw [if_pos rfl] at hS2
      have hl1 := hfx.len
      simp only at hl1
      have hfy := and_facts n1 gs1 (Gm.negB c) b hfx.wf
      have hl0 : 0 ≤ l1 := hfx.lit0
      have hl4 : l1 ≤ 4000 := hfx.lit1
      have HAND := Lib.hid (and_any n1 A1 c1' gs1 (Gm.negB c) b V.drew V.heap.size (by have := HL.out; omega) hG2 (Nat.le_refl _) hfx.wf)
      generalize Gm.andS n1 gs1 (Gm.negB c) b = r at *
      obtain ⟨⟨n2, gs2⟩, l2, er2⟩ := r
      simp only at hS2
      have HS2 := Lib.hid hS2
      clear hS2 HS
      go_upto_region 6 with fail
      go_cut [13, 12] (fun s13 s12 wx => GBox w n2 gs2 l2 er2 s13 s12 wx)
      case first =>
        go_region_with (first | (go_at_call 46; refine (HNC.out _).mono ?_; rintro e w' ⟨rfl, rfl⟩) | (go_at_call 20; refine HAND.out.mono ?_; rintro e w3 ⟨A2, c2', rfl, hG3, hsep3, hb3⟩; have hx3 := hx2.drew.below hb3; have z0 := hx3.bx.d0; have z1 := hx3.bx.d1; have z2 := hx3.g0; have z3 := hx3.g1))
        all_goals (go_wp2_with fail; go_meet; exact ⟨A2, c2', rfl, rfl, hx3.put n2 _, hG3.put (w := w) (hsep3.mono (Nat.le_refl _) hx2.bx.sz), hsep3.mono (Nat.le_refl _) hx2.bx.sz⟩)
      case rest =>
        obtain ⟨A2, c2', rfl, rfl, hx3, hG3, hsp3⟩ := hcut
        clear HAND HNC e0 e1 f0 f1 d0 d1 q0 q1 hx2 hG2
        have e0 := hx3.bx.e0
        have e1 := hx3.bx.e1
        have f0 := hx3.bx.f0
        have f1 := hx3.bx.f1
        have d0 := hx3.bx.d0
        have d1 := hx3.bx.d1
        by_cases her : er2 = 0
        · subst her
          have hS3 := HS2.out
          rw [if_pos rfl] at hS3
          have hl2 := hfy.len
          simp only at hl2
          have HOR := Lib.hid (or_any n2 A2 c2' gs2 l1 l2 wc wc.heap.size (by have := HL.out; omega) hG3 (Nat.le_refl _) hfy.wf (by omega) (by have : l2 ≤ 4000 := hfy.lit1; omega))
          generalize Gm.orS n2 gs2 l1 l2 = r at *
          obtain ⟨⟨n3, gs3⟩, l3, er3⟩ := r
          have HS3 := Lib.hid hS3
          clear hS3 HS2
          go_wp2_with fail
          refine HOR.out.mono ?_
          rintro e w4 ⟨A4, c4', rfl, hG4, hsep4, hb4⟩
          have hx4 := hx3.below hb4
          clear e0 e1 f0 f1 d0 d1
          have e0 := hx4.bx.e0
          have e1 := hx4.bx.e1
          have f0 := hx4.bx.f0
          have f1 := hx4.bx.f1
          go_wp2
          obtain ⟨r0, r1⟩ := and_cells (u := .int .i64 n3) (v := .slice A4 gs3.length c4') hx4.bx
          have hfin := and_close (r := ((n3, gs3), l3, er3)) (c' := c4') hx4.bx (Nat.zero_le _) hG4 (hsep4.mono (Nat.le_refl _) hx3.bx.sz)
          exact bodyPost_ret (v := .tuple #[.agg #[.int .i64 n3, .slice A4 gs3.length c4'], .int .i64 l3, .int .i64 er3]) (by simp [results, Tryd.results22, go_sem, r0, r1]) rfl (by rw [HS3.out]; exact hfin)
        · have hS3 := HS2.out
          rw [if_neg her] at hS3
          have HS3 := Lib.hid hS3
          have hq : (er2 != 0) = true := by simp [her]
          clear hS3 HS2 her
          go_wp2
          obtain ⟨r0, r1⟩ := and_cells (u := .int .i64 0) (v := .slice none 0 0) hx3.bx
          exact bodyPost_ret (v := .tuple #[.agg #[.int .i64 0, .slice none 0 0], .int .i64 0, .int .i64 er2]) (by simp [results, Tryd.results22, go_sem, r0, r1]) rfl (and_bad hx3.bx (Nat.zero_le _) HS3.out)
    · have hS2 := HS.out
      rw [if_neg her] at hS2
      have HS2 := Lib.hid hS2
      have hq : (er != 0) = true := by simp [her]
      clear hS2 HS her
      go_wp2
      obtain ⟨r0, r1⟩ := and_cells (u := .int .i64 0) (v := .slice none 0 0) hx2.bx
      exact bodyPost_ret (v := .tuple #[.agg #[.int .i64 0, .slice none 0 0], .int .i64 0, .int .i64 er]) (by simp [results, Tryd.results22, go_sem, r0, r1]) rfl (and_bad hx2.bx (Nat.zero_le _) HS2.out)
end Go.Proofs.YtpbbjklacgkcgaaDoor
