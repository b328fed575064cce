/- The reference's Ite and Same. -/
import Derived.Test.YticallikogheiaaY
namespace Go.Proofs.Yticallikogheiaa
open Go.RowKit

theorem same_chain {A A1 A2 : Option Addr} {gs gs1 gs2 : List (Int × Int)} {lo lo2 : Nat} (h2 : (A2 = A1 ∧ gs2 = gs1) ∨ Sep 0 lo2 A2) (h1 : (A1 = A ∧ gs1 = gs) ∨ Sep 0 lo A1) (hl : lo ≤ lo2) : (A2 = A ∧ gs2 = gs) ∨ Sep 0 lo A2 := by
  rcases h2 with ⟨rfl, rfl⟩ | h2
  · exact h1
  · exact Or.inr (h2.mono (Nat.le_refl _) hl)

set_option maxRecDepth 100000 in
set_option maxHeartbeats 4000000 in
theorem refIte_any (n : Int) (A : Option Addr) (cp : Nat) (gs : List (Int × Int)) (c a b : Int) (w : World) (B : Nat) (hl : gs.length ≤ 900000) (hg : Gr w B A gs) (hB : B ≤ w.heap.size) (hw : Wf gs)
    (hc1 : c ≤ 9223372036854775807) (ha1 : a ≤ 9223372036854775807) (hb1 : b ≤ 9223372036854775807) :
    Calls Try.prog 22 #[.agg #[.int .i64 n, .slice A gs.length cp], .int .i64 c, .int .i64 a, .int .i64 b] w (RefPost (Gm.iteS n gs c a b) A gs w) := by
  obtain ⟨W, hW⟩ : ∃ W, W = ((w.alloc (Obj.cells #[Value.int .i64 n, .slice A gs.length cp] 24)).alloc (Obj.cells #[.int .i64 0, .slice none 0 0] 24)) := ⟨_, rfl⟩
  have hbx : Boxes w W n (.slice A gs.length cp) := by
    rw [hW]
    exact ⟨((Below.refl w.heap.size w).alloc (Nat.le_refl _) _).alloc (by simp) _, by go_simp, by go_simp, by go_simp, by go_simp, by go_simp, by go_simp, by simp⟩
  have HL := Lib.hid hl
  clear hl
  by_cases hneg : c < 0
  · have HS := Lib.hid (show RefPost (Gm.iteS n gs c a b) A gs w (.returned (.tuple #[.agg #[.int .i64 0, .slice none 0 0], .int .i64 0, .int .i64 1])) W by
      rw [iteS_neg hneg]
      exact ⟨none, 0, rfl, fun k hk => by simp [Gm.bad] at hk, Or.inr Sep.none_, hbx.low⟩)
    have e0 := hbx.e0
    have e1 := hbx.e1
    go_enter Try.func22, Try.ntmps22
    go_wp2
    subst hW
    exact bodyPost_ret (v := .tuple #[.agg #[.int .i64 0, .slice none 0 0], .int .i64 0, .int .i64 1]) (by simp [results, Try.results22, go_sem, e0, e1]) rfl HS.out
  · have hc0 : 0 ≤ c := by omega
    have hS := iteS_ok (n := n) (gs := gs) (a := a) (b := b) hneg
    have hfx := and_facts n gs c a hw
    have HAND := Lib.hid (refAnd_any n A cp gs c a W B (by have := HL.out; omega) (hg.below hbx.low hB) (Nat.le_trans hB hbx.low.size) hw hc1 ha1)
    have hbc := Gm.bits_neg c hc0 hc1
    have hnc : Gm.negB c ≤ 9223372036854775807 := by unfold Gm.negB; split <;> omega
    generalize Gm.andS n gs c a = r at *
    obtain ⟨⟨n1, gs1⟩, l1, er⟩ := r
    simp only at hS
    have HS := Lib.hid hS
    clear hS
    clear hneg
    go_enter Try.func22, Try.ntmps22
    go_wp2_with fail
    rw [← hW]
    clear hW
    refine HAND.out.mono ?_
    rintro e w1 ⟨A1, c1', rfl, hG1, hsep1, hb1'⟩
    have hx1 := (hbx.below hb1').alloc (Obj.cells #[.int .i64 n1, .slice A1 gs1.length c1'] 24)
    have hbv := (Below.refl w1.heap.size w1).alloc (Nat.le_refl _) (Obj.cells #[.int .i64 n1, .slice A1 gs1.length c1'] 24)
    have hGv := hG1.below hbv (Nat.le_refl _)
    have hk := Blk.new w1 24 #[.int .i64 n1, .slice A1 gs1.length c1']
    have k0 := hk.cell 0
    have k1 := hk.cell 1
    have hkl := hk.lt
    simp only [List.getElem?_toArray, List.getElem?_cons_zero, List.getElem?_cons_succ] at k0 k1
    have hs1 : (A1 = A ∧ gs1 = gs) ∨ Sep 0 (w.heap.size + 2) A1 := hsep1.imp id (fun h => h.mono (Nat.le_refl _) hbx.sz)
    go_upto_if 29 with fail
    generalize w1.alloc (Obj.cells #[.int .i64 n1, .slice A1 gs1.length c1'] 24) = V at *
    have e0 := hx1.e0
    have e1 := hx1.e1
    have f0 := hx1.f0
    have f1 := hx1.f1
    by_cases her : er = 0
    · subst her
      have hS2 := HS.out
      rw [if_pos rfl] at hS2
      have hl1 := hfx.len
      simp only at hl1
      have hfy := and_facts n1 gs1 (Gm.negB c) b hfx.wf
      have hl0 : 0 ≤ l1 := hfx.lit0
      have hl4 : l1 ≤ 4000 := hfx.lit1
      have HAND2 := Lib.hid (refAnd_any n1 A1 c1' gs1 (Gm.negB c) b V w1.heap.size (by have := HL.out; omega) hGv (by omega) hfx.wf hnc hb1)
      generalize Gm.andS n1 gs1 (Gm.negB c) b = r at *
      obtain ⟨⟨n2, gs2⟩, l2, er2⟩ := r
      simp only at hS2
      have HS2 := Lib.hid hS2
      clear hS2 HS HAND
      go_wp2_with fail
      refine HAND2.out.mono ?_
      rintro e w3 ⟨A2, c2', rfl, hG3, hsep3, hb3⟩
      have hx3 := (hx1.below hb3).alloc (Obj.cells #[.int .i64 n2, .slice A2 gs2.length c2'] 24)
      have hbv3 := (Below.refl w3.heap.size w3).alloc (Nat.le_refl _) (Obj.cells #[.int .i64 n2, .slice A2 gs2.length c2'] 24)
      have hGv3 := hG3.below hbv3 (Nat.le_refl _)
      have hk3 := Blk.new w3 24 #[.int .i64 n2, .slice A2 gs2.length c2']
      clear k0 k1 e0 e1 f0 f1
      have k0 := hk3.cell 0
      have k1 := hk3.cell 1
      have hkl3 := hk3.lt
      simp only [List.getElem?_toArray, List.getElem?_cons_zero, List.getElem?_cons_succ] at k0 k1
      have hs2 : (A2 = A ∧ gs2 = gs) ∨ Sep 0 (w.heap.size + 2) A2 := same_chain hsep3 hs1 hx1.sz
      go_upto_if 42 with fail
      generalize w3.alloc (Obj.cells #[.int .i64 n2, .slice A2 gs2.length c2'] 24) = V3 at *
      have e0 := hx3.e0
      have e1 := hx3.e1
      have f0 := hx3.f0
      have f1 := hx3.f1
      by_cases her2 : er2 = 0
      · subst her2
        have hS3 := HS2.out
        rw [if_pos rfl] at hS3
        have hl2 := hfy.len
        simp only at hl2
        have HOR := Lib.hid (refOr_any n2 A2 c2' gs2 l1 l2 V3 w3.heap.size (by have := HL.out; omega) hGv3 (by omega) hfy.wf (by omega) (by have : l2 ≤ 4000 := hfy.lit1; omega))
        generalize Gm.orS n2 gs2 l1 l2 = r at *
        obtain ⟨⟨n3, gs3⟩, l3, er3⟩ := r
        have HS3 := Lib.hid hS3
        clear hS3 HS2
        go_wp2_with fail
        refine HOR.out.mono ?_
        rintro e w4 ⟨A4, c4', rfl, hG4, hsep4, hb4⟩
        have hx4 := hx3.below hb4
        have hs4 : (A4 = A ∧ gs3 = gs) ∨ Sep 0 (w.heap.size + 2) A4 := same_chain hsep4 hs2 hx3.sz
        clear e0 e1 f0 f1 k0 k1
        have e0 := hx4.e0
        have e1 := hx4.e1
        have f0 := hx4.f0
        have f1 := hx4.f1
        go_wp2
        obtain ⟨r0, r1⟩ := and_cells (u := .int .i64 n3) (v := .slice A4 gs3.length c4') hx4
        have hne : 0 < gs3.length → ∀ ad, A4 = some ad → ad.block ≠ w.heap.size + 1 := fun hp ad e => by
          rcases hs4 with ⟨rfl, rfl⟩ | h
          · obtain ⟨b', o, e', hb', _⟩ := hg 0 hp
            rw [e'] at e
            injection e with e
            subst e
            simp
            omega
          · exact h.ne (Nat.zero_le _) (by omega) ad e
        have hfin := ref_close (r := ((n3, gs3), l3, er3)) (A := A) (gs := gs) (c' := c4') hx4 hG4 (hs4.imp id (fun h => h.mono (Nat.le_refl _) (by omega))) hne
        exact bodyPost_ret (v := .tuple #[.agg #[.int .i64 n3, .slice A4 gs3.length c4'], .int .i64 l3, .int .i64 er3]) (by simp [results, Try.results22, go_sem, r0, r1]) rfl (by rw [HS3.out]; exact hfin)
      · have hS3 := HS2.out
        rw [if_neg her2] at hS3
        have HS3 := Lib.hid hS3
        have hq : (er2 != 0) = true := by simp [her2]
        clear hS3 HS2 her2
        go_wp2
        obtain ⟨r0, r1⟩ := and_cells (u := .int .i64 0) (v := .slice none 0 0) hx3
        exact bodyPost_ret (v := .tuple #[.agg #[.int .i64 0, .slice none 0 0], .int .i64 0, .int .i64 er2]) (by simp [results, Try.results22, go_sem, r0, r1]) rfl (ref_bad hx3 HS3.out)
    · have hS2 := HS.out
      rw [if_neg her] at hS2
      have HS2 := Lib.hid hS2
      have hq : (er != 0) = true := by simp [her]
      clear hS2 HS her
      go_wp2
      obtain ⟨r0, r1⟩ := and_cells (u := .int .i64 0) (v := .slice none 0 0) hx1
      exact bodyPost_ret (v := .tuple #[.agg #[.int .i64 0, .slice none 0 0], .int .i64 0, .int .i64 er]) (by simp [results, Try.results22, go_sem, r0, r1]) rfl (ref_bad hx1 HS2.out)

set_option maxRecDepth 100000 in
set_option maxHeartbeats 4000000 in
theorem same_true (n : Int) (A A2 : Option Addr) (c c2 : Nat) (gs : List (Int × Int)) (w : World) (hl : gs.length ≤ 1000000) (hg : Gr w w.heap.size A gs) (hg2 : Gr w w.heap.size A2 gs) :
    Calls Try.prog 17 #[.agg #[.int .i64 n, .slice A gs.length c], .agg #[.int .i64 n, .slice A2 gs.length c2]] w fun e w' => e = .returned (.bool true) ∧ Below w.heap.size w w' := by
  have b1 : (n != n) = false := by simp
  have b2 : ((gs.length : Int) != (gs.length : Int)) = false := by simp
  have HL := Lib.hid hl
  obtain ⟨W, hW⟩ : ∃ W, W = ((w.alloc (Obj.cells #[Value.int .i64 n, .slice A gs.length c] 24)).alloc (Obj.cells #[.int .i64 n, .slice A2 gs.length c2] 24)) := ⟨_, rfl⟩
  have hbw : Below w.heap.size w W := by rw [hW]; exact ((Below.refl w.heap.size w).alloc (Nat.le_refl _) _).alloc (by simp) _
  have d1 : W.cell? ⟨w.heap.size, 1, none⟩ = some (.slice A gs.length c) := by rw [hW]; go_simp
  have d2 : W.cell? ⟨w.heap.size + 1, 1, none⟩ = some (.slice A2 gs.length c2) := by rw [hW]; go_simp
  go_enter Try.func17, Try.ntmps17
  go_wp2
  rw [← hW]
  clear hW b1 b2
  go_loopw [5] (fun j wr => ∃ k : Nat, k ≤ gs.length ∧ j = .int .i64 (k : Int) ∧ ∃ q, wr = W.drewN q) (fun j _ => gs.length - (intOf j).toNat)
  case atStart => exact ⟨0, Nat.zero_le _, rfl, 0, rfl⟩
  case round =>
    obtain ⟨k, hk, rfl, q, rfl⟩ := hrel
    by_cases hlt : k < gs.length
    · obtain ⟨b, off, hA, _, g1, g2⟩ := (hg.below hbw (Nat.le_refl _)) k hlt
      obtain ⟨b2, off2, hA2, _, g3, g4⟩ := (hg2.below hbw (Nat.le_refl _)) k hlt
      subst hA hA2
      have hix := ix2 b off gs.length c k HL.out hlt
      have hix2 := ix2 b2 off2 gs.length c2 k HL.out hlt
      have hgu := eqGuard2
      generalize gs[k] = g at *
      obtain ⟨x, y⟩ := g
      simp only at g1 g2 g3 g4
      have hel := neq_arr2 x y x y
      rw [show (!(x == x && y == y)) = false by simp] at hel
      go_wp2
      go_quiet (fail)
      go_wp2
      go_roundw
      case rel => exact ⟨k + 1, by omega, by go_num, q + nq, rfl⟩
      case measure => simp [intOf]; omega
    · go_wp2
      go_ret
      exact ⟨rfl, below_drewN hbw _⟩
end Go.Proofs.Yticallikogheiaa
