/- The reference's Copy, of right graphs. -/
import Derived.Test.YtjjdgiondpnpcaaRE
namespace Go.Proofs.Ytjjdgiondpnpcaa
open Go.RowKit Go.Shelf

theorem all_no {p : Int → Bool} {zs : List Int} {k : Nat} (hk : k < zs.length) (h : p (zs.getD k 0) = false) : ¬ zs.all p = true := by
  intro ha
  rw [List.all_eq_true] at ha
  have := ha zs[k] (List.getElem_mem hk)
  rw [List.getD_eq_getElem?_getD, List.getElem?_eq_getElem hk] at h
  rw [show (some zs[k]).getD 0 = zs[k] from rfl, this] at h
  cases h
theorem all_yes {p : Int → Bool} {zs : List Int} (h : ∀ j, j < zs.length → p (zs.getD j 0) = true) : zs.all p = true := by
  rw [List.all_eq_true]
  intro x hx
  obtain ⟨j, hj, rfl⟩ := List.mem_iff_getElem.1 hx
  have := h j hj
  rwa [List.getD_eq_getElem?_getD, List.getElem?_eq_getElem hj] at this
theorem isL_le {is : List Int} (h : Cm.Sm is) (l : Int) : Cm.isL is l ≤ 4002 := by
  have := h (Cm.vr l)
  unfold Cm.isL Gm.negB
  split
  · split <;> omega
  · omega
theorem B3.put_cells {w W : World} {n1 n2 : Int} {s1 s2 : Value} (h : B3 w W n1 s1 n2 s2) (n : Int) (s : Value) : ((W.setCell ⟨w.heap.size + 1 + 1, 0, none⟩ (.int .i64 n)).setCell ⟨w.heap.size + 1 + 1, 1, none⟩ s).cell? ⟨w.heap.size + 1 + 1, 0, none⟩ = some (.int .i64 n) ∧ ((W.setCell ⟨w.heap.size + 1 + 1, 0, none⟩ (.int .i64 n)).setCell ⟨w.heap.size + 1 + 1, 1, none⟩ s).cell? ⟨w.heap.size + 1 + 1, 1, none⟩ = some s :=
  ⟨(h.put n s).1.cell 0, (h.put n s).1.cell 1⟩
theorem B3.put_cell0 {w W : World} {n1 n2 : Int} {s1 s2 : Value} (h : B3 w W n1 s1 n2 s2) (n : Int) : (W.setCell ⟨w.heap.size + 1 + 1, 0, none⟩ (.int .i64 n)).cell? ⟨w.heap.size + 1 + 1, 0, none⟩ = some (.int .i64 n) :=
  (h.b2.put 0 (.int .i64 n)).cell 0
theorem getD_mem {zs : List Int} {k : Nat} (hk : k < zs.length) : zs.getD k 0 ∈ zs := by
  rw [List.getD_eq_getElem?_getD, List.getElem?_eq_getElem hk]
  exact List.getElem_mem hk

set_option maxRecDepth 100000 in
set_option maxHeartbeats 8000000 in
theorem refcopy_in (nt : Nat) (At : Option Addr) (ct : Nat) (tg : List (Int × Int)) (Af : Option Addr) (cf : Nat) (fg : List (Int × Int)) (l : Int) (Ab : Option Addr) (cb : Nat) (by_ : List Int) (w : World)
    (hgt : Gr w w.heap.size At tg) (hgf : Gr w w.heap.size Af fg) (hV : Vs w w.heap.size Ab (iv by_)) (hwt : Wf tg) (hwf : Wf fg)
    (hrt : Gm.rightB nt tg = true) (hrf : Gm.rightB by_.length fg = true) (hl : Gm.litB by_.length fg.length l = true) (hbx : ∀ x ∈ by_, x ≤ 9223372036854775807) :
    Calls Try.prog 16 #[.agg #[.int .i64 nt, .slice At tg.length ct], .agg #[.int .i64 by_.length, .slice Af fg.length cf], .int .i64 l, .slice Ab by_.length cb] w (RefPost (Cm.copyS nt tg by_.length fg l by_) At tg w) := by
  obtain ⟨hf0, hf1, hf2, _⟩ := right_facts hrf
  obtain ⟨ht0, ht1, ht2, _⟩ := right_facts hrt
  have hlf' := lit_facts hl
  have hx : l ≤ 9223372036854775807 := by omega
  have hlt : tg.length ≤ 1000000 := by omega
  have hlf : fg.length ≤ 1000000 := by omega
  have HNO : Hid (¬ by_.all (Gm.litB nt tg.length) = true → Cm.copyS nt tg by_.length fg l by_ = Gm.bad 1) := fun hno => copyS_no (fun h => hno h.2.2.2.2)
  have HL1 := Lib.hid (fun (x : Int) V (h : x ≤ 9223372036854775807) => refLit_any nt At tg.length ct x V hlt h)
  have B := B3.new w nt (.slice At tg.length ct) by_.length (.slice Af fg.length cf)
  have HRT := Lib.hid (fun V (hb : Below w.heap.size w V) => refRight_any nt At ct tg V _ hlt (hgt.below hb (Nat.le_refl _)) hb.size hwt)
  have HRF := Lib.hid (fun V (hb : Below w.heap.size w V) => refRight_any by_.length Af cf fg V _ hlf (hgf.below hb (Nat.le_refl _)) hb.size hwf)
  have HLI := Lib.hid (fun V => refLit_any by_.length Af fg.length cf l V hlf hx)
  have hnot : ∀ (x : Bool) (w : World), (Op.unary .not (.bool x)).run Try.prog w = .ok (.bool (!x)) w := fun _ _ => rfl
  go_enter Try.func16, Try.ntmps16
  go_upto_region 1 with fail
  generalize ((w.alloc (Obj.cells #[.int .i64 nt, .slice At tg.length ct] 26)).alloc (Obj.cells #[.int .i64 by_.length, .slice Af fg.length cf] 26)).alloc (Obj.cells #[.int .i64 0, .slice none 0 0] 26) = W at *
  obtain ⟨k0, k1, k2, k3, k4, k5, f4, f5⟩ := B.cells
  rw [hrt] at HRT
  rw [hrf] at HRF
  rw [hl] at HLI
  have HIN := Lib.hid (show Gm.rightB nt tg = true ∧ Gm.rightB by_.length fg = true ∧ Gm.litB by_.length fg.length l = true from ⟨hrt, hrf, hl⟩)
  clear hrt hrf hl
  go_wp2_with (first | (go_at_call 28; (first | with_reducible refine (HRT.out _ B.low).mono ?_ | with_reducible refine (HRF.out _ B.low).mono ?_); rintro e w1 ⟨rfl, hb1⟩; replace B := B.below hb1; clear k0 k1 k2 k3 k4 k5 f4 f5; obtain ⟨k0, k1, k2, k3, k4, k5, f4, f5⟩ := B.cells; clear hb1) | (go_at_call 25; refine (HLI.out _).mono ?_; rintro e w1 ⟨rfl, hb1⟩; replace B := B.below hb1; clear k0 k1 k2 k3 k4 k5 f4 f5; obtain ⟨k0, k1, k2, k3, k4, k5, f4, f5⟩ := B.cells; clear hb1))
  clear HRT HRF HLI k0 k1 k2 k3 k4 k5 f4 f5
  go_loopw [11] (fun i wr => ∃ k : Nat, k ≤ by_.length ∧ i = .int .i64 k ∧ Hid (∀ j, j < k → Gm.litB nt tg.length (by_.getD j 0) = true) ∧ B3 w wr nt (.slice At tg.length ct) by_.length (.slice Af fg.length cf)) (fun i _ => by_.length - (intOf i).toNat)
  case atStart => exact ⟨0, Nat.zero_le _, rfl, fun j hj => by omega, B⟩
  case round =>
    clear B
    obtain ⟨k, hkl, rfl, HA, B⟩ := hrel
    obtain ⟨k0, k1, k2, k3, k4, k5, f4, f5⟩ := B.cells
    by_cases hlt' : k < by_.length
    · obtain ⟨b, off, hAb, hbb, c1⟩ := (hV.below B.low (Nat.le_refl _)).int k hlt'
      subst hAb
      have hix := ixI b off by_.length cb k (by omega) hlt'
      have hxb := hbx _ (getD_mem hlt')
      have HNK : Hid (Gm.litB nt tg.length (by_.getD k 0) = false → ¬ by_.all (Gm.litB nt tg.length) = true) := all_no hlt'
      have HSU : Hid (Gm.litB nt tg.length (by_.getD k 0) = true → ∀ j, j < k + 1 → Gm.litB nt tg.length (by_.getD j 0) = true) := fun h j hj => by
        by_cases e : j = k
        · subst e; exact h
        · exact HA.out j (by omega)
      generalize by_.getD k 0 = x at *
      have hsz := B.low.size
      go_upto_region 6 with fail
      have lx := (Below.refl wr.heap.size wr).drew
      have l0 := B.b0.lt
      go_region_held3 (fun W => W.cell? ⟨w.heap.size, 0, none⟩ = some (.int .i64 nt) ∧ W.cell? ⟨w.heap.size, 1, none⟩ = some (.slice At tg.length ct) ∧ W.cell? ⟨b, off + k, none⟩ = some (.int .i64 x))
        (exact ⟨(lx.cell (p := ⟨w.heap.size, 0, none⟩) l0).trans k0, (lx.cell (p := ⟨w.heap.size, 1, none⟩) l0).trans k1, (lx.cell (p := ⟨b, off + k, none⟩) (by simp; omega)).trans c1⟩)
        (first | (go_at_call 25; refine (HL1.out x _ hxb).mono ?_; rintro e wn ⟨rfl, hbn⟩; replace lx := lx.trans (hbn.mono lx.size)))
      replace B := B.below lx
      clear k0 k1 k2 k3 k4 k5 f4 f5
      obtain ⟨k0, k1, k2, k3, k4, k5, f4, f5⟩ := B.cells
      clear lx hbn c1
      cases hlx : Gm.litB nt tg.length x with
      | false =>
        have HN := Lib.hid (HNO.out (HNK.out hlx))
        clear hlx HSU
        go_wp2_with fail
        have r0 := (B.put 0 (.slice none 0 0)).1.cell 0
        have r1 := (B.put 0 (.slice none 0 0)).1.cell 1
        simp only [List.getElem?_toArray, List.getElem?_cons_zero, List.getElem?_cons_succ] at r0 r1
        exact bodyPost_ret (v := .tuple #[.agg #[.int .i64 0, .slice none 0 0], .int .i64 0, .int .i64 1]) (by simp [results, Try.results16, go_sem, r0, r1]) rfl (B.badC HN.out)
      | true =>
        have HS2 := Lib.hid (HSU.out hlx)
        clear hlx HSU
        go_wp2_with fail
        go_roundw
        case rel => exact ⟨k + 1, by omega, by go_num, HS2.out, B⟩
        case measure => simp [intOf]; omega
    · obtain rfl : k = by_.length := by omega
      have HALL := Lib.hid (all_yes HA.out)
      clear HA
      have HBE := Lib.hid (fun V hV => refbelow_any by_.length Af cf fg l V hV HIN.out.2.1 HIN.out.2.2)
      go_upto_region 8 with fail
      go_upto_region 9 with (go_at_call 34; refine (HBE.out _ ((hgf.below B.low (Nat.le_refl _)).more B.low.size)).mono ?_; rintro e w2 ⟨mb, rfl, hmb, hbm, hb2⟩)
      have hmm : w.heap.size + 1 + 1 < mb := Nat.lt_of_lt_of_le B.b2.lt hmb
      replace B := B.below hb2
      have C0 := CR.start hgt B hbm hmm
      have hVb := hV.below B.low (Nat.le_refl _)
      have hb3 : Below w.heap.size w2 (w2.alloc (Obj.cells #[.int .i64 0] 3)) := (Below.refl _ _).alloc B.low.size _
      have hV2 : Vs (w2.alloc (Obj.cells #[.int .i64 0] 3)) w.heap.size Ab (iv by_) := hVb.below hb3 (Nat.le_refl _)
      have HL := Lib.hid (show ([0] : List Int).length + by_.length ≤ 2000000 by simp; omega)
      have HI := Lib.hid (show by_.length = (iv by_).length by simp [iv])
      have hsz3 := B.b2.lt
      clear k0 k1 k2 k3 k4 k5 f4 f5 hb3 hVb B hb2 hbm HBE HNO
      go_wp2_with (at_builtin; go_loud (refine wpList_ints rfl (.tmp 60) (.tmp 61) rfl (w.heap.size + 1 + 1 + 1) _ _ (iv [0]) (iv by_) rfl C0.own _ _ _ rfl HI.out hV2 (iv_one by_) (by have := HL.out; simpa [iv] using this) (by simp; omega) ?_); intro v' w3 hown' hgr' hv')
      have C1 := C0.push0 (is' := 0 :: by_) hown' hgr' hv'
      clear C0 hown' hgr' hv' hV2 HL
      have HO := Lib.hid (Em.right_ord HIN.out.2.1)
      have HSM : Hid (Cm.Sm (0 :: by_)) := Cm.Sm.cons fun x hx => by
        have := List.all_eq_true.1 HALL.out x hx
        have := lit_facts this
        omega
      have HCP : Hid (∀ t is, Cm.copyAt nt tg by_.length fg (Cm.below by_.length fg l) by_ fg.length = .ok (t, is) → Cm.copyS nt tg by_.length fg l by_ = (((nt : Int), t), Cm.isL is l, 0)) := fun t is h => by
        unfold Cm.copyS
        rw [if_pos ⟨HIN.out.1, HIN.out.2.1, HIN.out.2.2, rfl, HALL.out⟩, Int.toNat_natCast, h]
      have HCE : Hid (∀ k er, k ≤ fg.length → Cm.copyAt nt tg by_.length fg (Cm.below by_.length fg l) by_ k = .error er → Cm.copyS nt tg by_.length fg l by_ = Gm.bad er) := fun k er hk h => by
        have e3 := Cm.copyAt_err h (fg.length - k)
        rw [show k + (fg.length - k) = fg.length by omega] at e3
        unfold Cm.copyS
        rw [if_pos ⟨HIN.out.1, HIN.out.2.1, HIN.out.2.2, rfl, HALL.out⟩, Int.toNat_natCast, e3]
      have hbl : (Cm.below by_.length fg l).length = by_.length + 1 + fg.length := Cm.below_length l
      have HC0 : Hid (Cm.copyAt nt tg by_.length fg (Cm.below by_.length fg l) by_ 0 = .ok (tg, 0 :: by_)) := rfl
      have HCS : Hid (∀ k t is, Cm.copyAt nt tg by_.length fg (Cm.below by_.length fg l) by_ k = .ok (t, is) → Cm.copyAt nt tg by_.length fg (Cm.below by_.length fg l) by_ (k + 1) = Cm.stepC nt by_.length (Cm.below by_.length fg l) fg k t is) := fun k t is h => by rw [Cm.copyAt, h]
      generalize Cm.below by_.length fg l = ms at *
      go_loopw [13, 14] (fun v i wr => ∃ (k : Nat) (A : Option Addr) (c : Nat) (t : List (Int × Int)) (is : List Int), k ≤ fg.length ∧ i = .int .i64 k ∧ Hid (Cm.copyAt nt tg by_.length fg ms by_ k = .ok (t, is)) ∧ CR w wr nt A c t by_.length (.slice Af fg.length cf) mb ms v is ∧ t.length ≤ tg.length + k ∧ is.length = by_.length + 1 + k ∧ Hid (Cm.Sm is) ∧ Wf t ∧ Hid ((A = At ∧ t = tg) ∨ Sep 0 w.heap.size A)) (fun _ i _ => fg.length - (intOf i).toNat)
      case atStart => exact ⟨0, At, ct, tg, 0 :: by_, Nat.zero_le _, rfl, HC0.out, C1, Nat.le_refl _, by simp, HSM.out, hwt, Or.inl ⟨rfl, rfl⟩⟩
      case round =>
        clear C1 HC0 HSM
        obtain ⟨k, A, c, t, is, hkl, rfl, HC, C, htl, hil, hsm, hwt', HSP⟩ := hrel
        obtain ⟨k0, k1, k2, k3, f0, f1⟩ := C.cells
        obtain ⟨Ai, ci, hv, hVi⟩ := C.own.vs
        rw [show (iv is).length = is.length by simp [iv]] at hv
        subst hv
        have hbr := C.br.lt
        by_cases hlt2 : k < fg.length
        · obtain ⟨b, off, hA, hbw, p1, p2⟩ := (hgf.below C.low (Nat.le_refl _)) k hlt2
          subst hA
          have hlow := Em.gate_low HO.out hlt2
          have HGT : Hid (fg.getD k (0, 0) = fg[k]) := Cm.gate_at hlt2
          have hixg := ix2 b off fg.length cf k (by omega) hlt2
          have hm := C.mark (i := by_.length + 1 + k) (by omega)
          have hix := ixB0 mb (by_.length + 1 + fg.length) (by_.length + 1 + k) (by omega) (by omega)
          rw [show ((by_.length + 1 + k : Nat) : Int) = (by_.length : Int) + 1 + (k : Int) by omega] at hix
          have HST := Lib.hid (HCS.out k t is HC.out)
          have HLn := Lib.hid (show (iv is).length + 1 ≤ 2000000 by rw [show (iv is).length = is.length by simp [iv]]; omega)
          have HIL := Lib.hid hil
          have HLL := Lib.hid hbl
          clear hbl HC
          cases hmk : ms.getD (by_.length + 1 + k) false with
          | false =>
            rw [hmk] at hm
            have HST2 : Hid (Cm.copyAt nt tg by_.length fg ms by_ (k + 1) = .ok (t, is ++ [0])) := by
              unfold Hid
              rw [HST.out, Cm.stepC, hmk]
              rfl
            have HSM2 := Lib.hid (hsm.out.snoc (x := 0) (by omega) (by omega))
            clear hmk HST p1 p2 hixg HGT hlow hil
            go_wp2_with (at_builtin; go_loud (refine wpList_ints rfl (.tmp 118) (.tmp 120) rfl (w.heap.size + 1 + 1 + 1) _ _ (iv is) [.int .i64 0] rfl (C.own.alloc _) _ _ _ rfl rfl (vs_one _ _ _) (one_int _) HLn.out (by simp; omega) ?_); intro v2 w' hown' hgr' hv')
            go_roundw
            case rel => exact ⟨k + 1, A, c, t, is ++ [0], by omega, by go_num, HST2.out, C.push (by rw [iv, List.map_append]; exact hown') hgr' hv', by omega, by have := HIL.out; simp; omega, HSM2.out, hwt', HSP⟩
            case measure => simp [intOf]; omega
          | true =>
            rw [hmk] at hm
            have HST2 : Hid (Cm.copyAt nt tg by_.length fg ms by_ (k + 1) = if (Gm.andS nt t (Cm.isL is fg[k].1) (Cm.isL is fg[k].2)).2.2 = 0 then .ok ((Gm.andS nt t (Cm.isL is fg[k].1) (Cm.isL is fg[k].2)).1.2, is ++ [(Gm.andS nt t (Cm.isL is fg[k].1) (Cm.isL is fg[k].2)).2.1]) else .error (Gm.andS nt t (Cm.isL is fg[k].1) (Cm.isL is fg[k].2)).2.2) := by
              unfold Hid
              rw [HST.out, Cm.stepC, hmk, HGT.out]
              rfl
            clear hmk HGT HST
            generalize fg[k] = g at *
            obtain ⟨x, y⟩ := g
            simp only at hlow p1 p2 HST2
            have hvx : Cm.vr x < is.length := by unfold Cm.vr; omega
            have hvy : Cm.vr y < is.length := by unfold Cm.vr; omega
            have hx2 := wrapq (l := x) (by omega) (by omega)
            have hy2 := wrapq (l := y) (by omega) (by omega)
            obtain ⟨bi, oi, hAi, hbi, c1⟩ := hVi.int (Cm.vr x) hvx
            obtain ⟨bi2, oi2, hAi2, _, c2⟩ := hVi.int (Cm.vr y) hvy
            subst hAi
            injection hAi2 with hAi2
            injection hAi2 with e1 e2
            subst e1 e2
            have hbs := hsm.out (Cm.vr x)
            have hby := hsm.out (Cm.vr y)
            have hxx := rem_isL (l := x) hbs.1 hbs.2
            have hyy := rem_isL (l := y) hby.1 hby.2
            have hix1 := ixI bi oi is.length ci (Cm.vr x) (by omega) hvx
            have hix2 := ixI bi oi is.length ci (Cm.vr y) (by omega) hvy
            have hz1 := isL_le hsm.out x
            have hz2 := isL_le hsm.out y
            rw [show (if x % 2 = 1 then Gm.negB (is.getD (Cm.vr x) 0) else is.getD (Cm.vr x) 0) = Cm.isL is x from rfl] at hxx
            rw [show (if y % 2 = 1 then Gm.negB (is.getD (Cm.vr y) 0) else is.getD (Cm.vr y) 0) = Cm.isL is y from rfl] at hyy
            rw [← Int.tmod_eq_emod_of_nonneg (a := x) (by omega)] at hxx
            rw [← Int.tmod_eq_emod_of_nonneg (a := y) (by omega)] at hyy
            generalize Cm.isL is x = z1 at *
            generalize Cm.isL is y = z2 at *
            generalize is.getD (Cm.vr x) 0 = y1 at *
            generalize is.getD (Cm.vr y) 0 = y2 at *
            generalize Cm.vr x = r1 at *
            generalize Cm.vr y = r2 at *
            have HAND : Hid (∀ V, Below wr.heap.size wr V → Calls Try.prog 13 #[.agg #[.int .i64 nt, .slice A t.length c], .int .i64 z1, .int .i64 z2] V (RefPost (Gm.andS nt t z1 z2) A t V)) := fun V lx => refAnd_any nt A c t z1 z2 V wr.heap.size (by omega) (C.gr.below lx (Nat.le_refl _)) lx.size hwt' (by omega) (by omega)
            have hfx := and_facts nt t z1 z2 hwt'
            have hins := and_ins nt t z1 z2
            generalize Gm.andS nt t z1 z2 = r at *
            have HGR := Lib.hid C.gr
            clear hil
            go_upto_region 15 with fail
            go_region_held3 (fun W => W.cell? ⟨w.heap.size + 1, 1, none⟩ = some (.slice (some ⟨b, off, none⟩) fg.length cf) ∧ W.cell? ⟨b, off + k * 2, none⟩ = some (.int .i64 x) ∧ W.cell? ⟨b, off + k * 2 + 1, none⟩ = some (.int .i64 y)) (exact ⟨k3, p1, p2⟩) (fail)
            go_upto_region 16 with fail
            clear p1 p2 hixg hix hm k2 k3 hix1 hix2
            have l0 := C.bt.lt
            have HK : Hid (∀ V, Below wr.heap.size wr V → V.cell? ⟨w.heap.size, 0, none⟩ = some (.int .i64 nt) ∧ V.cell? ⟨w.heap.size, 1, none⟩ = some (.slice A t.length c) ∧ V.cell? ⟨bi, oi + r1, none⟩ = some (.int .i64 y1) ∧ V.cell? ⟨bi, oi + r2, none⟩ = some (.int .i64 y2)) := fun V lx =>
              ⟨(lx.cell (p := ⟨w.heap.size, 0, none⟩) l0).trans k0, (lx.cell (p := ⟨w.heap.size, 1, none⟩) l0).trans k1, (lx.cell (p := ⟨bi, oi + r1, none⟩) hbi).trans c1, (lx.cell (p := ⟨bi, oi + r2, none⟩) hbi).trans c2⟩
            have lx0 : Below wr.heap.size wr wr.drew.drew := (Below.refl _ wr).drew.drew
            have lxa : Below wr.heap.size wr (wr.alloc (Obj.cells #[.int .i64 0, .slice none 0 0] 26)).drew.drew := ((Below.refl _ wr).alloc (Nat.le_refl _) _).drew.drew
            have bka : Blk (wr.alloc (Obj.cells #[.int .i64 0, .slice none 0 0] 26)).drew.drew wr.heap.size 26 #[.int .i64 0, .slice none 0 0] := Blk.new wr 26 #[.int .i64 0, .slice none 0 0]
            go_cut [18, 19, 20] (fun s18 s19 s20 wx => ∃ kk A' c', s18 = .pointer (some ⟨kk, 0, none⟩) ∧ s19 = .int .i64 r.2.1 ∧ s20 = .int .i64 r.2.2 ∧ RR wr r A t kk A' c' wx)
            case first =>
              go_region_held3 (fun V => V.cell? ⟨w.heap.size, 0, none⟩ = some (.int .i64 nt) ∧ V.cell? ⟨w.heap.size, 1, none⟩ = some (.slice A t.length c) ∧ V.cell? ⟨bi, oi + r1, none⟩ = some (.int .i64 y1) ∧ V.cell? ⟨bi, oi + r2, none⟩ = some (.int .i64 y2))
                (first | exact HK.out _ lx0 | exact HK.out _ lxa | exact HK.out _ lx6 | exact HK.out _ (lx6.alloc lx6.size _) | exact HK.out _ ((lx6.setCell (Nat.le_refl _) _).setCell (Nat.le_refl _) _))
                (first | (go_at_call 13; (with_reducible refine (HAND.out _ lx0).mono ?_); rintro e w6 ⟨A', c', rfl, hG, hsep, hb6⟩; have lx6 := lx0.trans (hb6.mono lx0.size))
                       | (go_at_call 13; (with_reducible refine (HAND.out _ lxa).mono ?_); rintro e w6 ⟨A', c', rfl, hG, hsep, hb6⟩; have lx6 := lxa.trans (hb6.mono lxa.size); have bk6 := bka.below hb6 bka.lt; have y0 := bk6.cell 0; have y1 := bk6.cell 1; have g0 := bk6.frozen 0; have g1 := bk6.frozen 1; simp only [List.getElem?_toArray, List.getElem?_cons_zero, List.getElem?_cons_succ] at y0 y1))
              all_goals (go_wp2_with fail; go_meet)
              all_goals first
                | exact ⟨_, A', c', rfl, rfl, rfl, RR.fresh lx6 hG hsep⟩
                | exact ⟨_, A', c', rfl, rfl, rfl, RR.old lx6 (Nat.le_refl _) bk6 hG (hsep.imp id (fun h => h.mono (Nat.le_refl _) lxa.size)) (ref_ne (r := r) (k := wr.heap.size) HGR.out hsep (Nat.le_refl _) bka.lt)⟩
            case rest =>
              obtain ⟨kk, A', c', rfl, rfl, rfl, R⟩ := hcut
              clear HAND HK lx0 lxa bka c1 c2 hxx hyy hx2 hy2 k0 k1 f0 f1
              have kc0 := R.bk.cell 0
              have kc1 := R.bk.cell 1
              simp only [List.getElem?_toArray, List.getElem?_cons_zero, List.getElem?_cons_succ] at kc0 kc1
              have Cx := C.below R.low
              have hlen := hfx.len
              have hwf2 := hfx.wf
              have hq0 := hfx.lit0
              have hq1 := hfx.lit1
              by_cases her : r.2.2 = 0
              · obtain ⟨k0, k1, k2, k3, f0, f1⟩ := Cx.cells
                have C2 := C.to R
                have HR1 := Lib.hid (hins her)
                have HSP2 : Hid ((A' = At ∧ r.1.2 = tg) ∨ Sep 0 w.heap.size A') := by
                  rcases R.sep with ⟨e1, e2⟩ | h
                  · rcases HSP.out with ⟨e3, e4⟩ | h
                    · exact Or.inl ⟨e1.trans e3, e2.trans e4⟩
                    · rw [e1]; exact Or.inr h
                  · exact Or.inr (h.mono (Nat.le_refl _) C.low.size)
                have HST3 : Hid (Cm.copyAt nt tg by_.length fg ms by_ (k + 1) = .ok (r.1.2, is ++ [r.2.1])) := by
                  unfold Hid
                  rw [HST2.out, if_pos her]
                have HSM2 := Lib.hid (hsm.out.snoc (x := r.2.1) (by omega) (by omega))
                have hbr2 := C2.br.lt
                clear HST2 hins hfx Cx hsm
                go_upto_region 20 with fail
                clear kc0 kc1 k0 k1 k2 k3 f0 f1
                generalize (wc.setCell ⟨w.heap.size, 0, none⟩ (.int .i64 r.1.1)).setCell ⟨w.heap.size, 1, none⟩ (.slice A' r.1.2.length c') = W3 at *
                obtain ⟨_, _, k2, k3, _, _⟩ := C2.cells
                generalize r.2.1 = xx at *
                go_wp2_with (at_builtin; go_loud (refine wpList_ints rfl (.tmp 118) (.tmp 120) rfl (w.heap.size + 1 + 1 + 1) _ _ (iv is) [.int .i64 xx] rfl (C2.own.alloc _) _ _ _ rfl rfl (vs_one _ _ _) (one_int _) HLn.out (by simp; omega) ?_); intro v2 w' hown' hgr' hv')
                have C3 := C2.push (is' := is ++ [xx]) (by rw [iv, List.map_append]; exact hown') hgr' hv'
                rw [HR1.out] at C3
                go_roundw
                case rel => exact ⟨k + 1, A', c', r.1.2, is ++ [xx], by omega, by go_num, HST3.out, C3, by omega, by have := HIL.out; simp; omega, HSM2.out, hwf2, HSP2⟩
                case measure => simp [intOf]; omega
              · have HN : Hid (Cm.copyS nt tg by_.length fg l by_ = Gm.bad r.2.2) := HCE.out (k + 1) r.2.2 (by omega) (by rw [HST2.out, if_neg her])
                have hq : (r.2.2 != 0) = true := by simp [her]
                have B := Cx.b3
                obtain ⟨k4, k5, f4, f5⟩ := Cx.rest
                clear her HST2 hins hfx hsm C
                go_wp2_with fail
                obtain ⟨r0, r1⟩ := B.put_cells 0 (.slice none 0 0)
                exact bodyPost_ret (v := .tuple #[.agg #[.int .i64 0, .slice none 0 0], .int .i64 0, .int .i64 r.2.2]) (by simp [results, Try.results16, go_sem, r0, r1]) rfl (B.badC HN.out)
        · obtain rfl : k = fg.length := by omega
          have HR := Lib.hid (HCP.out _ _ HC.out)
          have hvr : Cm.vr l < is.length := by unfold Cm.vr; omega
          obtain ⟨b, off, hAi, hbi, ci1⟩ := hVi.int (Cm.vr l) hvr
          subst hAi
          have hq := wrapq (l := l) hlf'.1 (by omega)
          have hsb := hsm.out (Cm.vr l)
          have hbi2 := rem_isL (l := l) hsb.1 hsb.2
          rw [show bits BinOp.xor IntKind.i64 (is.getD (Cm.vr l) 0) (l % 2) = bits BinOp.xor IntKind.i64 (is.getD (Cm.vr l) 0) (l.tmod 2) by rw [Int.tmod_eq_emod_of_nonneg hlf'.1]] at hbi2
          have HE : Hid (Cm.isL is l = if l % 2 = 1 then Gm.negB (is.getD (Cm.vr l) 0) else is.getD (Cm.vr l) 0) := rfl
          generalize (if l % 2 = 1 then Gm.negB (is.getD (Cm.vr l) 0) else is.getD (Cm.vr l) 0) = z at *
          generalize is.getD (Cm.vr l) 0 = y at *
          generalize Cm.vr l = r at *
          obtain ⟨k4, k5, f4, f5⟩ := C.rest
          have hil' := Lib.hid hil
          have hbb : w.heap.size + 1 + 1 + 1 ≤ b := C.own.base _ rfl
          have lx : Below wr.heap.size wr wr.drew := (Below.refl _ wr).drew
          have Cd := C.below lx
          obtain ⟨r0, r1⟩ := C.b3.put_cells nt (.slice A t.length c)
          have s0 := C.b3.put_cell0 nt
          clear hil
          go_upto_region 21 with fail
          go_region_held3 (fun W => W.cell? ⟨w.heap.size, 0, none⟩ = some (.int .i64 nt) ∧ W.cell? ⟨w.heap.size, 1, none⟩ = some (.slice A t.length c) ∧ W.cell? ⟨b, off + r, none⟩ = some (.int .i64 y))
            (first | exact ⟨k0, k1, ci1⟩ | exact ⟨keep2 k0 (by omega), keep2 k1 (by omega), keep2 ci1 (by omega)⟩) (fail)
          go_wp2_with fail
          exact bodyPost_ret (v := .tuple #[.agg #[.int .i64 nt, .slice A t.length c], .int .i64 z, .int .i64 0]) (by simp [results, Try.results16, go_sem, r0, r1, s0]) rfl (by rw [HR.out, HE.out]; exact (CR.good (r := (((nt : Int), t), z, 0)) C HSP.out).drew)
end Go.Proofs.Ytjjdgiondpnpcaa
