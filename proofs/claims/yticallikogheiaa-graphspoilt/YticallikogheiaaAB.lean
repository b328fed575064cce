/- The law's same: all calls of a graph are the reference's. -/
import Derived.Test.YticallikogheiaaAA
namespace Go.Proofs.Yticallikogheiaa
open Go.RowKit

theorem or_len (n : Int) (gs : List (Int × Int)) (a b : Int) (hw : Wf gs) : (Gm.orS n gs a b).1.2.length ≤ gs.length + 1 ∧ Wf (Gm.orS n gs a b).1.2 := by
  have hf := and_facts n gs (Gm.negB a) (Gm.negB b) hw
  unfold Gm.orS
  split
  · exact ⟨by simp [Gm.bad], wf_nil⟩
  · simp only
    split
    · exact ⟨hf.len, hf.wf⟩
    · exact ⟨by simp [Gm.bad], wf_nil⟩
theorem ite_len (n : Int) (gs : List (Int × Int)) (c a b : Int) (hw : Wf gs) : (Gm.iteS n gs c a b).1.2.length ≤ gs.length + 3 ∧ Wf (Gm.iteS n gs c a b).1.2 := by
  have hf := and_facts n gs c a hw
  unfold Gm.iteS
  split
  · exact ⟨by simp [Gm.bad], wf_nil⟩
  · simp only
    split
    · have hf2 := and_facts (Gm.andS n gs c a).1.1 (Gm.andS n gs c a).1.2 (Gm.negB c) b hf.wf
      split
      · have h3 := or_len (Gm.andS (Gm.andS n gs c a).1.1 (Gm.andS n gs c a).1.2 (Gm.negB c) b).1.1 _ (Gm.andS n gs c a).2.1 (Gm.andS (Gm.andS n gs c a).1.1 (Gm.andS n gs c a).1.2 (Gm.negB c) b).2.1 hf2.wf
        exact ⟨by have := hf.len; have := hf2.len; omega, h3.2⟩
      · exact ⟨by simp [Gm.bad], wf_nil⟩
    · exact ⟨by simp [Gm.bad], wf_nil⟩

set_option maxRecDepth 100000 in
set_option maxHeartbeats 8000000 in
theorem same_law (n : Int) (A : Option Addr) (cp : Nat) (gs : List (Int × Int)) (a b c : Int) (w : World) (hl : gs.length ≤ 900000) (hg : Gr w w.heap.size A gs) (hw : Wf gs)
    (ha : a ≤ 9223372036854775807) (hb : b ≤ 9223372036854775807) (hc : c ≤ 9223372036854775807) :
    Calls Try.prog 11 #[.agg #[.int .i64 n, .slice A gs.length cp], .int .i64 a, .int .i64 b, .int .i64 c] w fun e w' => e = .returned (.bool true) ∧ Below w.heap.size w w' := by
  have HL := Lib.hid hl
  clear hl
  have HF1 := Lib.hid (and_facts n gs a b hw)
  have HF2 := Lib.hid (or_len n gs a b hw)
  have HF3 := Lib.hid (ite_len n gs c a b hw)
  have C1 := Lib.hid (fun V (h : Gr V V.heap.size A gs) => and_any n A cp gs a b V V.heap.size (by have := HL.out; omega) h (Nat.le_refl _) hw)
  have C2 := Lib.hid (fun V (h : Gr V V.heap.size A gs) => refAnd_any n A cp gs a b V V.heap.size (by have := HL.out; omega) h (Nat.le_refl _) hw ha hb)
  have C3 := Lib.hid (fun V (h : Gr V V.heap.size A gs) => or_any n A cp gs a b V V.heap.size (by have := HL.out; omega) h (Nat.le_refl _) hw ha hb)
  have C4 := Lib.hid (fun V (h : Gr V V.heap.size A gs) => refOr_any n A cp gs a b V V.heap.size (by have := HL.out; omega) h (Nat.le_refl _) hw ha hb)
  have C5 := Lib.hid (fun V (h : Gr V V.heap.size A gs) => ite_any n A cp gs c a b V V.heap.size (by have := HL.out; omega) h (Nat.le_refl _) hw hc)
  have C6 := Lib.hid (fun V (h : Gr V V.heap.size A gs) => refIte_any n A cp gs c a b V V.heap.size (by have := HL.out; omega) h (Nat.le_refl _) hw hc ha hb)
  have C7 := Lib.hid (fun V (h : Gr V V.heap.size A gs) => Right_any n A cp gs V V.heap.size (by have := HL.out; omega) h (Nat.le_refl _) hw)
  have C8 := Lib.hid (fun V (h : Gr V V.heap.size A gs) => refRight_any n A cp gs V V.heap.size (by have := HL.out; omega) h (Nat.le_refl _) hw)
  have C9 := Lib.hid (fun V => lit_any n A gs.length cp a V (by have := HL.out; omega))
  have C10 := Lib.hid (fun V => refLit_any n A gs.length cp a V (by have := HL.out; omega) ha)
  generalize Gm.andS n gs a b = r1 at *
  obtain ⟨⟨n1, gs1⟩, l1, er1⟩ := r1
  generalize Gm.orS n gs a b = r2 at *
  obtain ⟨⟨n2, gs2⟩, l2, er2⟩ := r2
  generalize Gm.iteS n gs c a b = r3 at *
  obtain ⟨⟨n3, gs3⟩, l3, er3⟩ := r3
  generalize Gm.rightB n gs = qr at *
  generalize Gm.litB n gs.length a = ql at *
  have g0 := GX.new (n := n) (c := cp) (l := gs.length) hg 24
  have lo : Below w.heap.size w (w.alloc (Obj.cells #[.int .i64 n, .slice A gs.length cp] 24)) := (Below.refl w.heap.size w).alloc (Nat.le_refl _) _
  clear ha hb hc
  go_enter Try.func11, Try.ntmps11
  go_upto_region 1 with fail
  generalize w.alloc (Obj.cells #[.int .i64 n, .slice A gs.length cp] 24) = V0 at *
  have k0 := g0.c0
  have k1 := g0.c1
  go_wp2_with fail
  refine (C1.out V0 g0.gr).mono ?_
  rintro e w1 ⟨A1, c1, rfl, hG1, _, hb1⟩
  replace lo := (lo.trans (hb1.mono lo.size)).alloc (Nat.le_trans lo.size hb1.size) (Obj.cells #[.int .i64 n1, .slice A1 gs1.length c1] 24)
  replace g0 := (g0.below hb1).alloc (Obj.cells #[.int .i64 n1, .slice A1 gs1.length c1] 24)
  have g1 := GX.new (n := n1) (c := c1) (l := gs1.length) hG1 24
  clear k0 k1 hG1 hb1
  go_upto_region 2 with fail
  generalize w1.alloc (Obj.cells #[.int .i64 n1, .slice A1 gs1.length c1] 24) = V1 at *
  have k0 := g0.c0
  have k1 := g0.c1
  go_wp2_with fail
  refine (C2.out V1 g0.gr).mono ?_
  rintro e w2 ⟨A2, c2, rfl, hG2, _, hb2⟩
  replace lo := (lo.trans (hb2.mono lo.size)).alloc (Nat.le_trans lo.size hb2.size) (Obj.cells #[.int .i64 n1, .slice A2 gs1.length c2] 24)
  replace g0 := (g0.below hb2).alloc (Obj.cells #[.int .i64 n1, .slice A2 gs1.length c2] 24)
  replace g1 := (g1.below hb2).alloc (Obj.cells #[.int .i64 n1, .slice A2 gs1.length c2] 24)
  have g2 := GX.new (n := n1) (c := c2) (l := gs1.length) hG2 24
  clear k0 k1 hG2 hb2
  go_upto_region 3 with fail
  generalize w2.alloc (Obj.cells #[.int .i64 n1, .slice A2 gs1.length c2] 24) = V2 at *
  have k0 := g0.c0
  have k1 := g0.c1
  go_wp2_with fail
  refine (C3.out V2 g0.gr).mono ?_
  rintro e w3 ⟨A3, c3, rfl, hG3, _, hb3⟩
  replace lo := (lo.trans (hb3.mono lo.size)).alloc (Nat.le_trans lo.size hb3.size) (Obj.cells #[.int .i64 n2, .slice A3 gs2.length c3] 24)
  replace g0 := (g0.below hb3).alloc (Obj.cells #[.int .i64 n2, .slice A3 gs2.length c3] 24)
  replace g1 := (g1.below hb3).alloc (Obj.cells #[.int .i64 n2, .slice A3 gs2.length c3] 24)
  replace g2 := (g2.below hb3).alloc (Obj.cells #[.int .i64 n2, .slice A3 gs2.length c3] 24)
  have g3 := GX.new (n := n2) (c := c3) (l := gs2.length) hG3 24
  clear k0 k1 hG3 hb3
  go_upto_region 4 with fail
  generalize w3.alloc (Obj.cells #[.int .i64 n2, .slice A3 gs2.length c3] 24) = V3 at *
  have k0 := g0.c0
  have k1 := g0.c1
  go_wp2_with fail
  refine (C4.out V3 g0.gr).mono ?_
  rintro e w4 ⟨A4, c4, rfl, hG4, _, hb4⟩
  replace lo := (lo.trans (hb4.mono lo.size)).alloc (Nat.le_trans lo.size hb4.size) (Obj.cells #[.int .i64 n2, .slice A4 gs2.length c4] 24)
  replace g0 := (g0.below hb4).alloc (Obj.cells #[.int .i64 n2, .slice A4 gs2.length c4] 24)
  replace g1 := (g1.below hb4).alloc (Obj.cells #[.int .i64 n2, .slice A4 gs2.length c4] 24)
  replace g2 := (g2.below hb4).alloc (Obj.cells #[.int .i64 n2, .slice A4 gs2.length c4] 24)
  replace g3 := (g3.below hb4).alloc (Obj.cells #[.int .i64 n2, .slice A4 gs2.length c4] 24)
  have g4 := GX.new (n := n2) (c := c4) (l := gs2.length) hG4 24
  clear k0 k1 hG4 hb4
  go_upto_region 5 with fail
  generalize w4.alloc (Obj.cells #[.int .i64 n2, .slice A4 gs2.length c4] 24) = V4 at *
  have k0 := g0.c0
  have k1 := g0.c1
  go_wp2_with fail
  refine (C5.out V4 g0.gr).mono ?_
  rintro e w5 ⟨A5, c5, rfl, hG5, _, hb5⟩
  replace lo := (lo.trans (hb5.mono lo.size)).alloc (Nat.le_trans lo.size hb5.size) (Obj.cells #[.int .i64 n3, .slice A5 gs3.length c5] 24)
  replace g0 := (g0.below hb5).alloc (Obj.cells #[.int .i64 n3, .slice A5 gs3.length c5] 24)
  replace g1 := (g1.below hb5).alloc (Obj.cells #[.int .i64 n3, .slice A5 gs3.length c5] 24)
  replace g2 := (g2.below hb5).alloc (Obj.cells #[.int .i64 n3, .slice A5 gs3.length c5] 24)
  replace g3 := (g3.below hb5).alloc (Obj.cells #[.int .i64 n3, .slice A5 gs3.length c5] 24)
  replace g4 := (g4.below hb5).alloc (Obj.cells #[.int .i64 n3, .slice A5 gs3.length c5] 24)
  have g5 := GX.new (n := n3) (c := c5) (l := gs3.length) hG5 24
  clear k0 k1 hG5 hb5
  go_upto_region 6 with fail
  generalize w5.alloc (Obj.cells #[.int .i64 n3, .slice A5 gs3.length c5] 24) = V5 at *
  have k0 := g0.c0
  have k1 := g0.c1
  go_wp2_with fail
  refine (C6.out V5 g0.gr).mono ?_
  rintro e w6 ⟨A6, c6, rfl, hG6, _, hb6⟩
  replace lo := (lo.trans (hb6.mono lo.size)).alloc (Nat.le_trans lo.size hb6.size) (Obj.cells #[.int .i64 n3, .slice A6 gs3.length c6] 24)
  replace g0 := (g0.below hb6).alloc (Obj.cells #[.int .i64 n3, .slice A6 gs3.length c6] 24)
  replace g1 := (g1.below hb6).alloc (Obj.cells #[.int .i64 n3, .slice A6 gs3.length c6] 24)
  replace g2 := (g2.below hb6).alloc (Obj.cells #[.int .i64 n3, .slice A6 gs3.length c6] 24)
  replace g3 := (g3.below hb6).alloc (Obj.cells #[.int .i64 n3, .slice A6 gs3.length c6] 24)
  replace g4 := (g4.below hb6).alloc (Obj.cells #[.int .i64 n3, .slice A6 gs3.length c6] 24)
  replace g5 := (g5.below hb6).alloc (Obj.cells #[.int .i64 n3, .slice A6 gs3.length c6] 24)
  have g6 := GX.new (n := n3) (c := c6) (l := gs3.length) hG6 24
  clear k0 k1 hG6 hb6
  go_upto_region 7 with fail
  generalize w6.alloc (Obj.cells #[.int .i64 n3, .slice A6 gs3.length c6] 24) = V6 at *
  replace lo := lo.drew
  replace g0 := g0.drew
  replace g1 := g1.drew
  replace g2 := g2.drew
  replace g3 := g3.drew
  replace g4 := g4.drew
  replace g5 := g5.drew
  replace g6 := g6.drew
  have HE1 := Lib.hid (fun V (h : Gr V V.heap.size A1 gs1) (h' : Gr V V.heap.size A2 gs1) => same_true n1 A1 A2 c1 c2 gs1 V (by have := HL.out; have : gs1.length ≤ gs.length + 1 := HF1.out.len; omega) h h')
  have HE2 := Lib.hid (fun V (h : Gr V V.heap.size A3 gs2) (h' : Gr V V.heap.size A4 gs2) => same_true n2 A3 A4 c3 c4 gs2 V (by have := HL.out; have : gs2.length ≤ gs.length + 1 := HF2.out.1; omega) h h')
  have HE3 := Lib.hid (fun V (h : Gr V V.heap.size A5 gs3) (h' : Gr V V.heap.size A6 gs3) => same_true n3 A5 A6 c5 c6 gs3 V (by have := HL.out; have : gs3.length ≤ gs.length + 3 := HF3.out.1; omega) h h')
  go_region_held3 (fun W => W.cell? ⟨w.heap.size, 0, none⟩ = some (.int .i64 n) ∧ W.cell? ⟨w.heap.size, 1, none⟩ = some (.slice A gs.length cp) ∧ W.cell? ⟨w1.heap.size, 0, none⟩ = some (.int .i64 n1) ∧ W.cell? ⟨w1.heap.size, 1, none⟩ = some (.slice A1 gs1.length c1) ∧ W.cell? ⟨w2.heap.size, 0, none⟩ = some (.int .i64 n1) ∧ W.cell? ⟨w2.heap.size, 1, none⟩ = some (.slice A2 gs1.length c2) ∧ W.cell? ⟨w3.heap.size, 0, none⟩ = some (.int .i64 n2) ∧ W.cell? ⟨w3.heap.size, 1, none⟩ = some (.slice A3 gs2.length c3) ∧ W.cell? ⟨w4.heap.size, 0, none⟩ = some (.int .i64 n2) ∧ W.cell? ⟨w4.heap.size, 1, none⟩ = some (.slice A4 gs2.length c4) ∧ W.cell? ⟨w5.heap.size, 0, none⟩ = some (.int .i64 n3) ∧ W.cell? ⟨w5.heap.size, 1, none⟩ = some (.slice A5 gs3.length c5) ∧ W.cell? ⟨w6.heap.size, 0, none⟩ = some (.int .i64 n3) ∧ W.cell? ⟨w6.heap.size, 1, none⟩ = some (.slice A6 gs3.length c6))
    (exact ⟨g0.c0, g0.c1, g1.c0, g1.c1, g2.c0, g2.c1, g3.c0, g3.c1, g4.c0, g4.c1, g5.c0, g5.c1, g6.c0, g6.c1⟩)
    (first | (go_at_call 16; refine (C7.out _ g0.gr).mono ?_; rintro e wn ⟨rfl, hbn⟩; replace g0 := g0.below hbn; replace g1 := g1.below hbn; replace g2 := g2.below hbn; replace g3 := g3.below hbn; replace g4 := g4.below hbn; replace g5 := g5.below hbn; replace g6 := g6.below hbn; replace lo := lo.trans (hbn.mono lo.size)) | (go_at_call 23; refine (C8.out _ g0.gr).mono ?_; rintro e wn ⟨rfl, hbn⟩; replace g0 := g0.below hbn; replace g1 := g1.below hbn; replace g2 := g2.below hbn; replace g3 := g3.below hbn; replace g4 := g4.below hbn; replace g5 := g5.below hbn; replace g6 := g6.below hbn; replace lo := lo.trans (hbn.mono lo.size)) | (go_at_call 18; refine (C9.out _).mono ?_; rintro e wn ⟨rfl, hbn⟩; replace g0 := g0.below hbn; replace g1 := g1.below hbn; replace g2 := g2.below hbn; replace g3 := g3.below hbn; replace g4 := g4.below hbn; replace g5 := g5.below hbn; replace g6 := g6.below hbn; replace lo := lo.trans (hbn.mono lo.size)) | (go_at_call 24; refine (C10.out _).mono ?_; rintro e wn ⟨rfl, hbn⟩; replace g0 := g0.below hbn; replace g1 := g1.below hbn; replace g2 := g2.below hbn; replace g3 := g3.below hbn; replace g4 := g4.below hbn; replace g5 := g5.below hbn; replace g6 := g6.below hbn; replace lo := lo.trans (hbn.mono lo.size)) | (go_at_call 17; ((with_reducible refine (HE1.out _ g1.gr g2.gr).mono ?_); rintro e wn ⟨rfl, hbn⟩; replace g0 := g0.below hbn; replace g1 := g1.below hbn; replace g2 := g2.below hbn; replace g3 := g3.below hbn; replace g4 := g4.below hbn; replace g5 := g5.below hbn; replace g6 := g6.below hbn; replace lo := lo.trans (hbn.mono lo.size))) | (go_at_call 17; ((with_reducible refine (HE2.out _ g3.gr g4.gr).mono ?_); rintro e wn ⟨rfl, hbn⟩; replace g0 := g0.below hbn; replace g1 := g1.below hbn; replace g2 := g2.below hbn; replace g3 := g3.below hbn; replace g4 := g4.below hbn; replace g5 := g5.below hbn; replace g6 := g6.below hbn; replace lo := lo.trans (hbn.mono lo.size))) | (go_at_call 17; ((with_reducible refine (HE3.out _ g5.gr g6.gr).mono ?_); rintro e wn ⟨rfl, hbn⟩; replace g0 := g0.below hbn; replace g1 := g1.below hbn; replace g2 := g2.below hbn; replace g3 := g3.below hbn; replace g4 := g4.below hbn; replace g5 := g5.below hbn; replace g6 := g6.below hbn; replace lo := lo.trans (hbn.mono lo.size))))
  go_wp2
  go_ret
  exact ⟨rfl, lo⟩
end Go.Proofs.Yticallikogheiaa
