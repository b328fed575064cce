/- All calls are the document's. -/
import Derived.Test.YtjjdgiondpnpcaaRG
namespace Go.Proofs.Ytjjdgiondpnpcaa
open Go.RowKit Go.Shelf

theorem and_len (n : Int) (gs : List (Int × Int)) (a b : Int) : (Gm.andS n gs a b).1.2.length ≤ gs.length + 1 := by
  rcases andS_cases n gs a b with e | ⟨_, ⟨l, hs, e⟩ | ⟨hs, hi, e⟩ | ⟨hs, hi, h2, e⟩ | ⟨hs, hi, h2, e⟩⟩ <;> rw [e] <;> simp [Gm.bad]
theorem copyAt_tlen {nt : Int} {tg : List (Int × Int)} {nf : Nat} {fg : List (Int × Int)} {inn : List Bool} {by_ : List Int} : ∀ (k : Nat) (t : List (Int × Int)) (is : List Int), Cm.copyAt nt tg nf fg inn by_ k = .ok (t, is) → t.length ≤ tg.length + k
  | 0, t, is, h => by
    rw [Cm.copyAt] at h
    injection h with h
    injection h with h1 h2
    subst h1
    exact Nat.le_refl _
  | k + 1, t, is, h => by
    rw [Cm.copyAt] at h
    cases hc : Cm.copyAt nt tg nf fg inn by_ k with
    | error e => rw [hc] at h; cases h
    | ok s =>
      obtain ⟨t', is'⟩ := s
      rw [hc] at h
      simp only [Cm.stepC] at h
      have := copyAt_tlen k t' is' hc
      split at h
      · split at h
        · injection h with h
          injection h with h1 h2
          have hl := and_len nt t' (Cm.isL is' (fg.getD k (0, 0)).1) (Cm.isL is' (fg.getD k (0, 0)).2)
          rw [h1] at hl
          omega
        · cases h
      · injection h with h
        injection h with h1 h2
        subst h1
        omega
theorem copyS_len (nt : Int) (tg : List (Int × Int)) (nf : Int) (fg : List (Int × Int)) (l : Int) (by_ : List Int) : (Cm.copyS nt tg nf fg l by_).1.2.length ≤ tg.length + fg.length := by
  unfold Cm.copyS
  split
  · split
    · simp [Gm.bad]
    · rename_i t is h
      exact copyAt_tlen _ t is h
  · simp [Gm.bad]
theorem fixS_len (n : Int) (gs : List (Int × Int)) (l x : Int) (b : Bool) : (Cm.fixS n gs l x b).1.2.length ≤ gs.length + gs.length := by
  unfold Cm.fixS
  split
  · simp [Gm.bad]
  · exact copyS_len _ _ _ _ _ _
theorem supportS_len (n : Int) (gs : List (Int × Int)) (l : Int) : (Cm.supportS n gs l).length ≤ 2000 := by
  cases hs : (Gm.litB n gs.length l && Gm.rightB n gs) with
  | false => rw [supportS_out hs]; simp
  | true =>
    rw [Bool.and_eq_true] at hs
    obtain ⟨h0, h1, _⟩ := right_facts hs.2
    obtain ⟨m, rfl⟩ : ∃ m : Nat, n = (m : Int) := ⟨n.toNat, by omega⟩
    rw [supportS_in hs.2 hs.1]
    have := supK_le m gs l m
    omega

set_option maxRecDepth 100000 in
set_option maxHeartbeats 16000000 in
theorem same3_any (nt : Int) (At : Option Addr) (ct : Nat) (tg : List (Int × Int)) (nf : Int) (Af : Option Addr) (cf : Nat) (fg : List (Int × Int)) (l : Int) (Ab : Option Addr) (cb : Nat) (by_ : List Int) (x : Int) (b : Bool) (w : World)
    (hlt : tg.length ≤ 1000) (hlf : fg.length ≤ 1000) (hlb : by_.length ≤ 1000) (hgt : Gr w w.heap.size At tg) (hgf : Gr w w.heap.size Af fg) (hV : Vs w w.heap.size Ab (iv by_)) (hwt : Wf tg) (hwf : Wf fg) (hx : l ≤ 9223372036854775807) (hbx : ∀ x ∈ by_, x ≤ 9223372036854775807) :
    Calls Try.prog 8 #[.agg #[.int .i64 nt, .slice At tg.length ct], .agg #[.int .i64 nf, .slice Af fg.length cf], .int .i64 l, .slice Ab by_.length cb, .int .i64 x, .bool b] w fun e w' => e = .returned (.bool true) ∧ Below w.heap.size w w' := by
  have C1 := Lib.hid (fun V (h1 : Gr V V.heap.size At tg) (h2 : Gr V V.heap.size Af fg) (h3 : Vs V V.heap.size Ab (iv by_)) => copy_any nt At ct tg nf Af cf fg l Ab cb by_ V (by omega) (by omega) (by omega) h1 h2 h3 hwt hwf)
  have C2 := Lib.hid (fun V (h1 : Gr V V.heap.size At tg) (h2 : Gr V V.heap.size Af fg) (h3 : Vs V V.heap.size Ab (iv by_)) => refcopy_any nt At ct tg nf Af cf fg l Ab cb by_ V (by omega) (by omega) (by omega) h1 h2 h3 hwt hwf hx hbx)
  have C3 := Lib.hid (fun V (h2 : Gr V V.heap.size Af fg) => fix_any nf Af cf fg l x b V (by omega) h2 hwf)
  have C4 := Lib.hid (fun V (h2 : Gr V V.heap.size Af fg) => reffix_any nf Af cf fg l x b V (by omega) h2 hwf hx)
  have C5 := Lib.hid (fun V (h2 : Gr V V.heap.size Af fg) => support_any nf Af cf fg l V (by omega) h2 hwf)
  have C6 := Lib.hid (fun V (h2 : Gr V V.heap.size Af fg) => refsupport_any nf Af cf fg l V (by omega) h2 hwf hx)
  have C7 := Lib.hid (fun V (h2 : Gr V V.heap.size Af fg) => countgates_any nf Af cf fg l V (by omega) h2 hwf)
  have C8 := Lib.hid (fun V (h2 : Gr V V.heap.size Af fg) => refgates_any nf Af cf fg l V (by omega) h2 hwf hx)
  have hl1 := copyS_len nt tg nf fg l by_
  have hl2 := fixS_len nf fg l x b
  have hl3 := supportS_len nf fg l
  generalize Cm.copyS nt tg nf fg l by_ = r at *
  generalize Cm.fixS nf fg l x b = q at *
  generalize Cm.supportS nf fg l = zs at *
  generalize Cm.gatesS nf fg l = gn at *
  obtain ⟨⟨n1, gs1⟩, l1, er1⟩ := r
  obtain ⟨⟨n2, gs2⟩, l2, er2⟩ := q
  simp only at hl1 hl2
  have HSI := Lib.hid (fun V A A2 c c2 (h : Vs V V.heap.size A (iv zs)) (h2 : Vs V V.heap.size A2 (iv zs)) => sameints_true A A2 c c2 zs V (by omega) h h2)
  have HE1 := Lib.hid (fun V A A2 c c2 (h : Gr V V.heap.size A gs1) (h' : Gr V V.heap.size A2 gs1) => same_true n1 A A2 c c2 gs1 V (by omega) h h')
  have HE2 := Lib.hid (fun V A A2 c c2 (h : Gr V V.heap.size A gs2) (h' : Gr V V.heap.size A2 gs2) => same_true n2 A A2 c c2 gs2 V (by omega) h h')
  have gT := (GX.new (n := nt) (c := ct) (l := tg.length) hgt 26).alloc (Obj.cells #[.int .i64 nf, .slice Af fg.length cf] 26)
  have lo0 : Below w.heap.size w (w.alloc (Obj.cells #[.int .i64 nt, .slice At tg.length ct] 26)) := (Below.refl _ _).alloc (Nat.le_refl _) _
  have gF := GX.new (n := nf) (c := cf) (l := fg.length) ((hgf.below lo0 (Nat.le_refl _)).more lo0.size) 26
  have lo := lo0.alloc lo0.size (Obj.cells #[.int .i64 nf, .slice Af fg.length cf] 26)
  rw [show (w.alloc (Obj.cells #[.int .i64 nt, .slice At tg.length ct] 26)).heap.size = w.heap.size + 1 by simp] at gF
  clear lo0 hgt hgf hl1 hl2 hl3 hwt hwf hbx
  have HV := Lib.hid hV
  clear hV
  go_enter Try.func8, Try.ntmps8
  go_upto_region 1 with fail
  generalize (w.alloc (Obj.cells #[.int .i64 nt, .slice At tg.length ct] 26)).alloc (Obj.cells #[.int .i64 nf, .slice Af fg.length cf] 26) = V0 at *
  have k0 := gT.c0
  have k1 := gT.c1
  have k2 := gF.c0
  have k3 := gF.c1
  go_wp2_with fail
  refine (C1.out V0 gT.gr gF.gr ((HV.out.below lo (Nat.le_refl _)).more lo.size)).mono ?_
  rintro e w1 ⟨A1, c1, rfl, hG1, _, hb1⟩
  replace lo := (lo.trans (hb1.mono lo.size)).alloc (Nat.le_trans lo.size hb1.size) (Obj.cells #[.int .i64 n1, .slice A1 gs1.length c1] 26)
  replace gT := (gT.below hb1).alloc (Obj.cells #[.int .i64 n1, .slice A1 gs1.length c1] 26)
  replace gF := (gF.below hb1).alloc (Obj.cells #[.int .i64 n1, .slice A1 gs1.length c1] 26)
  have g1 := GX.new (n := n1) (c := c1) (l := gs1.length) hG1 26
  clear k0 k1 k2 k3 hG1 hb1 C1
  go_upto_region 2 with fail
  generalize w1.alloc (Obj.cells #[.int .i64 n1, .slice A1 gs1.length c1] 26) = V1 at *
  have k0 := gT.c0
  have k1 := gT.c1
  have k2 := gF.c0
  have k3 := gF.c1
  go_wp2_with fail
  refine (C2.out V1 gT.gr gF.gr ((HV.out.below lo (Nat.le_refl _)).more lo.size)).mono ?_
  rintro e w2 ⟨A2, c2, rfl, hG2, _, hb2⟩
  replace lo := (lo.trans (hb2.mono lo.size)).alloc (Nat.le_trans lo.size hb2.size) (Obj.cells #[.int .i64 n1, .slice A2 gs1.length c2] 26)
  replace gT := (gT.below hb2).alloc (Obj.cells #[.int .i64 n1, .slice A2 gs1.length c2] 26)
  replace gF := (gF.below hb2).alloc (Obj.cells #[.int .i64 n1, .slice A2 gs1.length c2] 26)
  replace g1 := (g1.below hb2).alloc (Obj.cells #[.int .i64 n1, .slice A2 gs1.length c2] 26)
  have g2 := GX.new (n := n1) (c := c2) (l := gs1.length) hG2 26
  clear k0 k1 k2 k3 hG2 hb2 C2
  go_upto_region 3 with fail
  generalize w2.alloc (Obj.cells #[.int .i64 n1, .slice A2 gs1.length c2] 26) = V2 at *
  have k0 := gT.c0
  have k1 := gT.c1
  have k2 := gF.c0
  have k3 := gF.c1
  go_wp2_with fail
  refine (C3.out V2 gF.gr).mono ?_
  rintro e w3 ⟨A3, c3, rfl, hG3, _, hb3⟩
  replace lo := (lo.trans (hb3.mono lo.size)).alloc (Nat.le_trans lo.size hb3.size) (Obj.cells #[.int .i64 n2, .slice A3 gs2.length c3] 26)
  replace gT := (gT.below hb3).alloc (Obj.cells #[.int .i64 n2, .slice A3 gs2.length c3] 26)
  replace gF := (gF.below hb3).alloc (Obj.cells #[.int .i64 n2, .slice A3 gs2.length c3] 26)
  replace g1 := (g1.below hb3).alloc (Obj.cells #[.int .i64 n2, .slice A3 gs2.length c3] 26)
  replace g2 := (g2.below hb3).alloc (Obj.cells #[.int .i64 n2, .slice A3 gs2.length c3] 26)
  have g3 := GX.new (n := n2) (c := c3) (l := gs2.length) hG3 26
  clear k0 k1 k2 k3 hG3 hb3 C3
  go_upto_region 4 with fail
  generalize w3.alloc (Obj.cells #[.int .i64 n2, .slice A3 gs2.length c3] 26) = V3 at *
  have k0 := gT.c0
  have k1 := gT.c1
  have k2 := gF.c0
  have k3 := gF.c1
  go_wp2_with fail
  refine (C4.out V3 gF.gr).mono ?_
  rintro e w4 ⟨A4, c4, rfl, hG4, _, hb4⟩
  replace lo := (lo.trans (hb4.mono lo.size)).alloc (Nat.le_trans lo.size hb4.size) (Obj.cells #[.int .i64 n2, .slice A4 gs2.length c4] 26)
  replace gT := (gT.below hb4).alloc (Obj.cells #[.int .i64 n2, .slice A4 gs2.length c4] 26)
  replace gF := (gF.below hb4).alloc (Obj.cells #[.int .i64 n2, .slice A4 gs2.length c4] 26)
  replace g1 := (g1.below hb4).alloc (Obj.cells #[.int .i64 n2, .slice A4 gs2.length c4] 26)
  replace g2 := (g2.below hb4).alloc (Obj.cells #[.int .i64 n2, .slice A4 gs2.length c4] 26)
  replace g3 := (g3.below hb4).alloc (Obj.cells #[.int .i64 n2, .slice A4 gs2.length c4] 26)
  have g4 := GX.new (n := n2) (c := c4) (l := gs2.length) hG4 26
  clear k0 k1 k2 k3 hG4 hb4 C4
  go_upto_region 5 with fail
  generalize w4.alloc (Obj.cells #[.int .i64 n2, .slice A4 gs2.length c4] 26) = V4 at *
  replace gT := gT.drew
  replace gF := gF.drew
  replace g1 := g1.drew
  replace g2 := g2.drew
  replace g3 := g3.drew
  replace g4 := g4.drew
  replace lo := lo.drew
  go_region_held3 (fun W => W.cell? ⟨w.heap.size + 1, 0, none⟩ = some (.int .i64 nf) ∧ W.cell? ⟨w.heap.size + 1, 1, none⟩ = some (.slice Af fg.length cf) ∧ W.cell? ⟨w1.heap.size, 0, none⟩ = some (.int .i64 n1) ∧ W.cell? ⟨w1.heap.size, 1, none⟩ = some (.slice A1 gs1.length c1) ∧ W.cell? ⟨w2.heap.size, 0, none⟩ = some (.int .i64 n1) ∧ W.cell? ⟨w2.heap.size, 1, none⟩ = some (.slice A2 gs1.length c2) ∧ W.cell? ⟨w3.heap.size, 0, none⟩ = some (.int .i64 n2) ∧ W.cell? ⟨w3.heap.size, 1, none⟩ = some (.slice A3 gs2.length c3) ∧ W.cell? ⟨w4.heap.size, 0, none⟩ = some (.int .i64 n2) ∧ W.cell? ⟨w4.heap.size, 1, none⟩ = some (.slice A4 gs2.length c4))
    (exact ⟨gF.c0, gF.c1, g1.c0, g1.c1, g2.c0, g2.c1, g3.c0, g3.c1, g4.c0, g4.c1⟩)
    (first | (go_at_call 9; refine (C5.out _ gF.gr).mono ?_; rintro e wn ⟨As1, cs1, rfl, hI1, hbn⟩; replace gT := gT.below hbn; replace gF := gF.below hbn; replace g1 := g1.below hbn; replace g2 := g2.below hbn; replace g3 := g3.below hbn; replace g4 := g4.below hbn; replace lo := lo.trans (hbn.mono lo.size); (try replace hI2 := (hI2.below hbn (Nat.le_refl _)).more hbn.size))
           | (go_at_call 19; refine (C6.out _ gF.gr).mono ?_; rintro e wn ⟨As2, cs2, rfl, hI2, hbn⟩; replace gT := gT.below hbn; replace gF := gF.below hbn; replace g1 := g1.below hbn; replace g2 := g2.below hbn; replace g3 := g3.below hbn; replace g4 := g4.below hbn; replace lo := lo.trans (hbn.mono lo.size); (try replace hI1 := (hI1.below hbn (Nat.le_refl _)).more hbn.size))
           | (go_at_call 18; refine (HSI.out _ _ _ _ _ hI1 hI2).mono ?_; rintro e wn ⟨rfl, hbn⟩; replace gT := gT.below hbn; replace gF := gF.below hbn; replace g1 := g1.below hbn; replace g2 := g2.below hbn; replace g3 := g3.below hbn; replace g4 := g4.below hbn; replace lo := lo.trans (hbn.mono lo.size); (try replace hI1 := (hI1.below hbn (Nat.le_refl _)).more hbn.size); (try replace hI2 := (hI2.below hbn (Nat.le_refl _)).more hbn.size))
           | (go_at_call 12; refine (C7.out _ gF.gr).mono ?_; rintro e wn ⟨rfl, hbn⟩; replace gT := gT.below hbn; replace gF := gF.below hbn; replace g1 := g1.below hbn; replace g2 := g2.below hbn; replace g3 := g3.below hbn; replace g4 := g4.below hbn; replace lo := lo.trans (hbn.mono lo.size); (try replace hI1 := (hI1.below hbn (Nat.le_refl _)).more hbn.size); (try replace hI2 := (hI2.below hbn (Nat.le_refl _)).more hbn.size))
           | (go_at_call 20; refine (C8.out _ gF.gr).mono ?_; rintro e wn ⟨rfl, hbn⟩; replace gT := gT.below hbn; replace gF := gF.below hbn; replace g1 := g1.below hbn; replace g2 := g2.below hbn; replace g3 := g3.below hbn; replace g4 := g4.below hbn; replace lo := lo.trans (hbn.mono lo.size); (try replace hI1 := (hI1.below hbn (Nat.le_refl _)).more hbn.size); (try replace hI2 := (hI2.below hbn (Nat.le_refl _)).more hbn.size))
           | (go_at_call 21; with_reducible refine (HE1.out _ _ _ _ _ g1.gr g2.gr).mono ?_; rintro e wn ⟨rfl, hbn⟩; replace gT := gT.below hbn; replace gF := gF.below hbn; replace g1 := g1.below hbn; replace g2 := g2.below hbn; replace g3 := g3.below hbn; replace g4 := g4.below hbn; replace lo := lo.trans (hbn.mono lo.size); (try replace hI1 := (hI1.below hbn (Nat.le_refl _)).more hbn.size); (try replace hI2 := (hI2.below hbn (Nat.le_refl _)).more hbn.size))
           | (go_at_call 21; with_reducible refine (HE2.out _ _ _ _ _ g3.gr g4.gr).mono ?_; rintro e wn ⟨rfl, hbn⟩; replace gT := gT.below hbn; replace gF := gF.below hbn; replace g1 := g1.below hbn; replace g2 := g2.below hbn; replace g3 := g3.below hbn; replace g4 := g4.below hbn; replace lo := lo.trans (hbn.mono lo.size); (try replace hI1 := (hI1.below hbn (Nat.le_refl _)).more hbn.size); (try replace hI2 := (hI2.below hbn (Nat.le_refl _)).more hbn.size)))
  all_goals (go_wp2; go_ret; exact ⟨rfl, lo⟩)
end Go.Proofs.Ytjjdgiondpnpcaa
