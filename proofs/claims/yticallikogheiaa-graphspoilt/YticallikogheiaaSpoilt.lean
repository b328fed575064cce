/- 'parterrelaw01.GraphSpoilt' returns true at every input, and each argument reads afterwards as it read before. No condition. -/
import Derived.Test.YticallikogheiaaBE
namespace Go.Proofs.Yticallikogheiaa
open Go.ChangeShapes Go.WideShapes Go.ChangeAt Go.RowKit Go.Deep Go.Joins Go.WideElems

set_option maxRecDepth 100000 in
set_option maxHeartbeats 8000000 in
theorem spoilt_walk (a0 : Int) (A0 : Option Addr) (c0 : Nat) (zs : List Int) (a2 x y : Int) (w : World) (h0 : 0 ≤ a0) (h0' : a0 ≤ 255) (hm : zs.length ≤ maxLen) (hU : Us w w.heap.size A0 zs) (h2 : 0 ≤ a2) (h2' : a2 ≤ 255) (h3 : -9223372036854775808 ≤ x) (h3' : x ≤ 9223372036854775807) (h4 : -9223372036854775808 ≤ y) (h4' : y ≤ 9223372036854775807) :
    Calls Try.prog 5 #[.int .u8 a0, .slice A0 zs.length c0, .int .u8 a2, .int .i64 x, .int .i64 y] w fun e w' => e = .returned (.bool true) ∧ Below w.heap.size w w' := by
  have HMD := Lib.hid (made_any (a0 % 7) A0 c0 zs w (by omega) (by omega) hm hU)
  clear hm
  go_enter Try.func5, Try.ntmps5
  go_wp2_with fail
  have hn0 : 0 ≤ a0 % 7 := by omega
  have hn6 : a0 % 7 ≤ 6 := by omega
  generalize a0 % 7 = n at *
  refine HMD.out.mono ?_
  rintro e w1 ⟨A, c, gs, last, rfl, hG, hgood, hb1⟩
  have g0 := GX.new (n := n) (c := c) (l := gs.length) hG 24
  have lo := hb1.alloc hb1.size (Obj.cells #[.int .i64 n, .slice A gs.length c] 24)
  obtain ⟨hr, hfew, hwf, hlit⟩ := hgood
  have hk1 := hb1.size
  clear HMD hG hb1 hlit hr
  go_upto_region 2 with fail
  generalize w1.alloc (Obj.cells #[.int .i64 n, .slice A gs.length c] 24) = V at *
  have k0 := g0.c0
  have k1 := g0.c1
  go_upto_region 3 with fail
  clear k0 k1
  have bh := Blk.new V 24 #[.int .i64 n, .slice none 0 0]
  have hkk := g0.lt
  have HAK := Lib.hid (show 0 < gs.length → ∀ ad, A = some ad → ad.block < V.heap.size from fun hp ad e => by
    obtain ⟨b, o, e', hb, _⟩ := g0.gr 0 hp
    rw [e'] at e
    injection e with e
    subst e
    exact hb)
  have hkh := lo.size
  replace lo := lo.alloc lo.size (Obj.cells #[.int .i64 n, .slice none 0 0] 24)
  replace g0 := g0.alloc (Obj.cells #[.int .i64 n, .slice none 0 0] 24)
  generalize w1.heap.size = kg at *
  generalize V.alloc (Obj.cells #[.int .i64 n, .slice none 0 0] 24) = V2 at *
  generalize V.heap.size = kh at *
  clear V
  have k0 := g0.c0
  have k1 := g0.c1
  have e1 : V2.cell? ⟨kh, 1, none⟩ = some (.slice none 0 0) := bh.cell 1
  have HF := Lib.hid hfew
  clear hfew
  go_wp2_with (at_builtin; go_loud (refine wpList_gates rfl _ _ rfl V2.heap.size V2.heap.size _ [] gs rfl ?own _ _ rfl ?gr ?len ?base ?_))
  case own => exact own_nil _ _
  case gr => exact g0.gr
  case len => have := HF.out; simp; omega
  case base => exact Nat.le_refl _
  intro v' w' hown hgr _
  have hbw : Below V2.heap.size V2 w' := (Below.refl V2.heap.size V2).grown hgr (Nat.le_refl _) (by intro k e; cases e)
  obtain ⟨A', c', rfl, hG'⟩ := hown.gr
  have bh' := bh.below hbw bh.lt
  have hlt := bh.lt
  have hsep := hown.sep
  replace g0 := g0.below hbw
  replace lo := lo.trans (hbw.mono lo.size)
  have e0' : w'.cell? ⟨kh, 0, none⟩ = some (.int .i64 n) := bh'.cell 0
  have e1' : w'.cell? ⟨kh, 1, none⟩ = some (.slice none 0 0) := bh'.cell 1
  have f1 := bh'.frozen 1
  have hne : kg ≠ kh := by omega
  have hV2 := hbw.size
  clear k0 k1 e1 hgr
  go_upto_region 4 with fail
  clear f1
  have gh : GX kh n A' c' gs.length gs (w'.setCell ⟨kh, 1, none⟩ (.slice A' gs.length c')) :=
    ⟨(World.cell?_setCell_other _ _ _ _ (by simp)).trans e0', World.cell?_setCell_same _ _ _ e1', by simp [World.setCell]; omega, by simpa [World.setCell] using hG'.set (p := ⟨kh, 1, none⟩) (hsep.ne (Nat.zero_le _) hlt) _⟩
  replace hown := own_far hown (p := ⟨kh, 1, none⟩) hlt (.slice A' gs.length c')
  replace g0 := gx_set g0 (p := ⟨kh, 1, none⟩) hne (fun hp ad e => by have := HAK.out hp ad e; simp; omega) (.slice A' gs.length c')
  replace lo := lo.setCell (p := ⟨kh, 1, none⟩) hkh (.slice A' gs.length c')
  clear e0' e1' bh bh' hbw hG'
  generalize w'.setCell ⟨kh, 1, none⟩ (.slice A' gs.length c') = W at *
  have k1 := gh.c1
  go_upto_if 35 with fail
  go_cut [] (fun wx => Sp1 w kg kh n A c gs wx)
  case first =>
    by_cases hz : 0 < gs.length
    · have hd : decide ((0 : Int) < (gs.length : Int)) = true := by simp; omega
      have hL : ¬ (gs.length : Int) = 0 := by omega
      obtain ⟨k, hk⟩ : ∃ k : Nat, a2 % (gs.length : Int) = (k : Int) := ⟨(a2 % (gs.length : Int)).toNat, (Int.toNat_of_nonneg (Int.emod_nonneg a2 hL)).symm⟩
      have hkl : k < gs.length := by have := Int.emod_lt_of_pos a2 (show (0 : Int) < (gs.length : Int) by omega); omega
      have hk' : (IntKind.i64.wrap a2).tmod (gs.length : Int) = (k : Int) := by
        rw [show IntKind.i64.wrap a2 = a2 by rw [IntKind.wrap_i64]; omega, Int.tmod_eq_emod_of_nonneg h2, hk]
      obtain ⟨b, off, hA, hbB, q1, q2⟩ := gh.gr k hkl
      subst hA
      have s1 := own_soft hown rfl (off + k * 2)
      have s2 := own_soft hown rfl (off + k * 2 + 1)
      have hix := ix2 b off gs.length c' k (by have := HF.out; omega) hkl
      have hbV : V2.heap.size ≤ b := by
        rcases hsep _ rfl with h | h
        · simp at h
        · exact h
      have HP := Lib.hid (gr_put gh.gr hkl x y)
      go_wp2_with fail
      go_region
      go_wp2_with fail
      go_meet
      have hlo : Below w.heap.size w ((W.setCell ⟨b, off + k * 2, none⟩ (.int .i64 x)).setCell ⟨b, off + k * 2 + 1, none⟩ (.int .i64 y)) :=
        (lo.setCell (p := ⟨b, off + k * 2, none⟩) (by simp; omega) _).setCell (p := ⟨b, off + k * 2 + 1, none⟩) (by simp; omega) _
      have hg1 := gx_set (gx_set g0 (p := ⟨b, off + k * 2, none⟩) (by simp; omega) (fun hp ad e => by have := HAK.out hp ad e; simp; omega) (.int .i64 x)) (p := ⟨b, off + k * 2 + 1, none⟩) (by simp; omega) (fun hp ad e => by have := HAK.out hp ad e; simp; omega) (.int .i64 y)
      have hh1 : GX kh n (some ⟨b, off, none⟩) c' (gs.set k (x, y)).length (gs.set k (x, y)) ((W.setCell ⟨b, off + k * 2, none⟩ (.int .i64 x)).setCell ⟨b, off + k * 2 + 1, none⟩ (.int .i64 y)) := by
        rw [List.length_set]
        exact ⟨(World.cell?_setCell_other _ _ ⟨kh, 0, none⟩ _ (fun e => by simp at e <;> omega)).trans ((World.cell?_setCell_other _ _ ⟨kh, 0, none⟩ _ (fun e => by simp at e <;> omega)).trans gh.c0), (World.cell?_setCell_other _ _ ⟨kh, 1, none⟩ _ (fun e => by simp at e <;> omega)).trans ((World.cell?_setCell_other _ _ ⟨kh, 1, none⟩ _ (fun e => by simp at e <;> omega)).trans gh.c1), by simpa [World.setCell] using gh.lt, by simpa [World.setCell] using HP.out⟩
      exact ⟨gs.set k (x, y), some ⟨b, off, none⟩, c', by simp, wf_set hwf k ⟨h3, h3'⟩ ⟨h4, h4'⟩, hh1.drew, hg1.drew, hlo.drew⟩
    · have hd : decide ((0 : Int) < (gs.length : Int)) = false := by rw [decide_eq_false_iff_not]; omega
      go_wp2_with fail
      go_meet
      exact ⟨gs, A', c', rfl, hwf, gh, g0, lo⟩
  case rest =>
    have HC := Lib.hid hcut
    clear hcut
    clear hsep gh hown g0 lo k1 hV2 hlt
    obtain ⟨hs, A1, c1, hl1, hwf1, gh, g0, lo⟩ := HC.out
    clear HC
    have hfew := HF.out
    go_upto_region 6 with fail
    clear HAK hne HF
    have hl63 : gs.length ≤ 1000 := by omega
    go_cut [14] (fun s14 wx => Sp2 w kh n hs A1 c1 (gs ++ [(x, y)]) (gs.length + 1) s14 wx)
    case first =>
      go_region_held3 (fun W => W.cell? ⟨kg, 0, none⟩ = some (.int .i64 n) ∧ W.cell? ⟨kg, 1, none⟩ = some (.slice A gs.length c))
        (first | exact ⟨g0.c0, g0.c1⟩ | (refine keepS g0 ?_; (repeat' (first | with_reducible assumption | with_reducible apply below_al | with_reducible apply below_dr | with_reducible exact Below.refl _ _ | (with_reducible refine below_set ?_ ?_; (focus (first | (simp; all_goals fail) | (simp; omega)))))); all_goals fail))
        (first | (refine step_gates (by rfl) _ _ (by rfl) wc.heap.size wc.heap.size (.slice none 0 0) [] gs (by rfl) (own_nil _ _) A c (by rfl) ?_ ?_ ?_ ?_; (focus (refine Gr.below g0.gr (C := wc.heap.size) ?_ (Nat.le_refl _); (repeat' (first | with_reducible assumption | with_reducible apply below_al | with_reducible apply below_dr | with_reducible exact Below.refl _ _ | (with_reducible refine below_set ?_ ?_; (focus (first | (simp; all_goals fail) | (simp; omega)))))); all_goals fail)); (focus (simp; omega)); (focus (refine Below.size (B := wc.heap.size) (w := wc) ?_; (repeat' (first | with_reducible assumption | with_reducible apply below_al | with_reducible apply below_dr | with_reducible exact Below.refl _ _ | (with_reducible refine below_set ?_ ?_; (focus (first | (simp; all_goals fail) | (simp; omega)))))); all_goals fail)); rintro v1 wa hown1 hgrow1 _; replace hown1 : Own wa wc.heap.size v1 gs := hown1; refine cut_ (P := Below wc.heap.size wc wa) ?_ ?_; (focus (refine Below.grown ?_ hgrow1 (Below.size (B := wc.heap.size) (w := wc) ?_) (by intro k e; cases e) <;> ((repeat' (first | with_reducible assumption | with_reducible apply below_al | with_reducible apply below_dr | with_reducible exact Below.refl _ _ | (with_reducible refine below_set ?_ ?_; (focus (first | (simp; all_goals fail) | (simp; omega)))))); all_goals fail))); intro hbA; have hsA := hbA.size; (first | (refine cut_ (P := Blk wa wc.heap.size 24 #[.int .i64 0, .slice none 0 0]) ?_ ?_; (focus (refine Blk.grown ?_ hgrow1 (by intro e; cases e); (repeat' (first | with_reducible assumption | (with_reducible refine blk_new ?_; (focus (simp; all_goals fail))) | with_reducible apply blk_al | with_reducible apply blk_dr)); all_goals fail)); intro bd) | (refine cut_ (P := Blk wa (wc.heap.size + 1) 24 #[.int .i64 0, .slice none 0 0]) ?_ ?_; (focus (refine Blk.grown ?_ hgrow1 (by intro e; cases e); (repeat' (first | with_reducible assumption | (with_reducible refine blk_new ?_; (focus (simp; all_goals fail))) | with_reducible apply blk_al | with_reducible apply blk_dr)); all_goals fail)); intro bd) | skip); (first | (refine cut_ (P := Blk wa wc.heap.size 32 #[.int .i64 x, .int .i64 y]) ?_ ?_; (focus (refine Blk.grown ?_ hgrow1 (by intro e; cases e); (repeat' (first | with_reducible assumption | (with_reducible refine blk_new ?_; (focus (simp; all_goals fail))) | with_reducible apply blk_al | with_reducible apply blk_dr)); all_goals fail)); intro bb) | (refine cut_ (P := Blk wa (wc.heap.size + 1) 32 #[.int .i64 x, .int .i64 y]) ?_ ?_; (focus (refine Blk.grown ?_ hgrow1 (by intro e; cases e); (repeat' (first | with_reducible assumption | (with_reducible refine blk_new ?_; (focus (simp; all_goals fail))) | with_reducible apply blk_al | with_reducible apply blk_dr)); all_goals fail)); intro bb) | skip)) | (refine step_gates (by rfl) _ _ (by rfl) wc.heap.size _ v1 gs [(x, y)] (by rfl) ?_ _ _ (by rfl) (gr_one ?_) ?_ ?_ ?_; (focus ((repeat' (first | with_reducible assumption | with_reducible apply own_al | with_reducible apply own_dr)); all_goals fail)); (focus ((repeat' (first | with_reducible assumption | (with_reducible refine blk_new ?_; (focus (simp; all_goals fail))) | with_reducible apply blk_al | with_reducible apply blk_dr)); all_goals fail)); (focus (simp; omega)); (focus (refine Below.size (B := wc.heap.size) (w := wc) ?_; (repeat' (first | with_reducible assumption | with_reducible apply below_al | with_reducible apply below_dr | with_reducible exact Below.refl _ _ | (with_reducible refine below_set ?_ ?_; (focus (first | (simp; all_goals fail) | (simp; omega)))))); all_goals fail)); rintro v2 wb hown2 hgrow2 _; refine cut_ (P := Below wc.heap.size wc wb) ?_ ?_; (focus (refine Below.grown ?_ hgrow2 (Below.size (B := wc.heap.size) (w := wc) ?_) hown1.block <;> ((repeat' (first | with_reducible assumption | with_reducible apply below_al | with_reducible apply below_dr | with_reducible exact Below.refl _ _ | (with_reducible refine below_set ?_ ?_; (focus (first | (simp; all_goals fail) | (simp; omega)))))); all_goals fail))); intro hbB; have hsB := hbB.size; obtain ⟨A2, c2, rfl, hG2⟩ := hown2.gr; (first | (refine cut_ (P := Blk wb wc.heap.size 24 #[.int .i64 0, .slice none 0 0]) ?_ ?_; (focus (refine blk_grow (base := wc.heap.size) (gs := gs) ?_ ?_ hgrow2; (focus ((repeat' (first | with_reducible assumption | (with_reducible refine blk_new ?_; (focus (simp; all_goals fail))) | with_reducible apply blk_al | with_reducible apply blk_dr)); all_goals fail)); (focus ((repeat' (first | with_reducible assumption | with_reducible apply own_al | with_reducible apply own_dr)); all_goals fail)))); intro bd2; have y0 : wb.cell? ⟨wc.heap.size, 0, none⟩ = some (.int .i64 0) := bd2.cell 0; have y1 : wb.cell? ⟨wc.heap.size, 1, none⟩ = some (.slice none 0 0) := bd2.cell 1; have y2 := bd2.frozen 0; have y3 := bd2.frozen 1; have y4 := own_sep hown2 bd2; have y5 := bd2.lt) | (refine cut_ (P := Blk wb (wc.heap.size + 1) 24 #[.int .i64 0, .slice none 0 0]) ?_ ?_; (focus (refine blk_grow (base := wc.heap.size) (gs := gs) ?_ ?_ hgrow2; (focus ((repeat' (first | with_reducible assumption | (with_reducible refine blk_new ?_; (focus (simp; all_goals fail))) | with_reducible apply blk_al | with_reducible apply blk_dr)); all_goals fail)); (focus ((repeat' (first | with_reducible assumption | with_reducible apply own_al | with_reducible apply own_dr)); all_goals fail)))); intro bd2; have y0 : wb.cell? ⟨(wc.heap.size + 1), 0, none⟩ = some (.int .i64 0) := bd2.cell 0; have y1 : wb.cell? ⟨(wc.heap.size + 1), 1, none⟩ = some (.slice none 0 0) := bd2.cell 1; have y2 := bd2.frozen 0; have y3 := bd2.frozen 1; have y4 := own_sep hown2 bd2; have y5 := bd2.lt) | (refine cut_ (P := Blk wb wa.heap.size 24 #[.int .i64 0, .slice none 0 0]) ?_ ?_; (focus (refine blk_grow (base := wc.heap.size) (gs := gs) ?_ ?_ hgrow2; (focus ((repeat' (first | with_reducible assumption | (with_reducible refine blk_new ?_; (focus (simp; all_goals fail))) | with_reducible apply blk_al | with_reducible apply blk_dr)); all_goals fail)); (focus ((repeat' (first | with_reducible assumption | with_reducible apply own_al | with_reducible apply own_dr)); all_goals fail)))); intro bd2; have y0 : wb.cell? ⟨wa.heap.size, 0, none⟩ = some (.int .i64 0) := bd2.cell 0; have y1 : wb.cell? ⟨wa.heap.size, 1, none⟩ = some (.slice none 0 0) := bd2.cell 1; have y2 := bd2.frozen 0; have y3 := bd2.frozen 1; have y4 := own_sep hown2 bd2; have y5 := bd2.lt) | (refine cut_ (P := Blk wb (wa.heap.size + 1) 24 #[.int .i64 0, .slice none 0 0]) ?_ ?_; (focus (refine blk_grow (base := wc.heap.size) (gs := gs) ?_ ?_ hgrow2; (focus ((repeat' (first | with_reducible assumption | (with_reducible refine blk_new ?_; (focus (simp; all_goals fail))) | with_reducible apply blk_al | with_reducible apply blk_dr)); all_goals fail)); (focus ((repeat' (first | with_reducible assumption | with_reducible apply own_al | with_reducible apply own_dr)); all_goals fail)))); intro bd2; have y0 : wb.cell? ⟨(wa.heap.size + 1), 0, none⟩ = some (.int .i64 0) := bd2.cell 0; have y1 : wb.cell? ⟨(wa.heap.size + 1), 1, none⟩ = some (.slice none 0 0) := bd2.cell 1; have y2 := bd2.frozen 0; have y3 := bd2.frozen 1; have y4 := own_sep hown2 bd2; have y5 := bd2.lt) | skip)))
      all_goals (go_wp2_with fail; go_meet; first | with_reducible exact Sp2.old lo gh hbB hG2 (by omega) bd2 (by simp) y4 | with_reducible exact Sp2.fresh lo gh hbB hG2)
    case rest =>
      have HC := Lib.hid hcut
      clear hcut gh g0 lo
      obtain ⟨k, A2, c2, rfl, gi, gh, lo⟩ := HC.out
      clear HC
      have CS1 := Lib.hid (fun V (h : Gr V V.heap.size A1 hs) => same_law n A1 c1 hs 2 4 3 V (by omega) h hwf1 (by omega) (by omega) (by omega))
      have CS2 := Lib.hid (fun V (h : Gr V V.heap.size A2 (gs ++ [(x, y)])) => same_law n A2 c2 (gs ++ [(x, y)]) 2 4 3 V (by simp; omega) h (wf_app hwf ⟨h3, h3'⟩ ⟨h4, h4'⟩) (by omega) (by omega) (by omega))
      simp only [List.length_append, List.length_cons, List.length_nil, Nat.zero_add] at CS2
      clear hl1
      go_wp2_with fail
      refine (awake_any _).mono ?_
      rintro e wd ⟨rfl, hbd⟩
      replace gi := gi.below hbd
      replace gh := gh.below hbd
      replace lo := lo.trans (hbd.mono lo.size)
      have k0 := gh.c0
      have k1 := gh.c1
      go_wp2_with fail
      refine (CS1.out _ gh.gr).mono ?_
      rintro e we ⟨rfl, hbe⟩
      replace gi := gi.below hbe
      replace lo := lo.trans (hbe.mono lo.size)
      clear k0 k1
      have k0 := gi.c0
      have k1 := gi.c1
      go_wp2_with fail
      refine (CS2.out _ gi.gr).mono ?_
      rintro e wf ⟨rfl, hbf⟩
      replace lo := lo.trans (hbf.mono lo.size)
      go_wp2
      go_ret
      exact ⟨rfl, lo⟩

set_option maxRecDepth 100000 in
theorem spoilt_lifted (os : Os) (started : os.Started) (H : Type) (enc : TypeId × Value → H) :
    ReturnsInHanded {} Try.checked os 5 .any (Rows.graphSpoiltSpec.pre6 enc Try.prog Try.f5 Rows.graphSpoiltRow.domain false) (Rows.graphSpoiltSpec.post enc Try.prog Try.f5 false true false false) := by
  refine returnsInHanded_of_change (C := Try.checked) Try.own started (by kernel_rfl) Try.func5
    (ChangeSpec.witness6 (enc := enc) (C := Try.checked) false ⟨#[], #[.int .u8 0, .slice none 0 0, .int .u8 0, .int .i64 0, .int .i64 0], []⟩ 8 (by kernel_rfl) (by kernel_rfl) (by kernel_rfl) (by kernel_rfl)) ?_
  intro W base args ds gs before hval0 hW hcnd _
  have hval : ∀ (j : Nat) t v, Try.f5.params[j]? = some t → args[j]? = some v → Value.okWide Try.prog W .any base t v := hval0
  have hW' := hW
  obtain ⟨p, q, hA0, hV, rfl, hfz, hnd⟩ := hW
  have hA : DataW.TrodAll enc Try.prog W 0 (fun _ => true) true Try.f5.params.toList args.toList ds p := hA0
  rw [Try.params5] at hA hval
  obtain ⟨v0, vs0, d0, ds0, p0, q0, hargs, rfl, rfl, h0, r0⟩ := trodAll_cons hA
  obtain ⟨v1, vs1, d1, ds1, p1, q1, rfl, rfl, rfl, h1, r1⟩ := trodAll_cons r0
  obtain ⟨v2, vs2, d2, ds2, p2, q2, rfl, rfl, rfl, h2, r2⟩ := trodAll_cons r1
  obtain ⟨v3, vs3, d3, ds3, p3, q3, rfl, rfl, rfl, h3, r3⟩ := trodAll_cons r2
  obtain ⟨v4, vs4, d4, ds4, p4, q4, rfl, rfl, rfl, h4, r4⟩ := trodAll_cons r3
  obtain ⟨rfl, rfl, rfl⟩ := trodAll_nil r4
  obtain rfl : args = #[v0, v1, v2, v3, v4] := by cases args; simp_all
  obtain ⟨rfl, rfl⟩ := trodVars_none hV
  obtain ⟨a0, rfl, rfl, rfl, w0⟩ := open_int Try.underlying5 (hval 0 5 v0 rfl rfl) h0
  have b0 := bounds_u8 w0
  obtain ⟨a2, rfl, rfl, rfl, w2⟩ := open_int Try.underlying5 (hval 2 5 v2 rfl rfl) h2
  have b2 := bounds_u8 w2
  obtain ⟨a3, rfl, rfl, rfl, w3⟩ := open_int Try.underlying3 (hval 3 3 v3 rfl rfl) h3
  have b3 := bounds_i64 w3
  obtain ⟨a4, rfl, rfl, rfl, w4⟩ := open_int Try.underlying3 (hval 4 3 v4 rfl rfl) h4
  have b4 := bounds_i64 w4
  have hlt := fun x hx => hW'.lt x hx
  obtain ⟨x1, len1, cap1, hs1⟩ := okWide_slice Try.underlying27 (hval 1 27 v1 rfl rfl)
  subst hs1
  have hk1 := h1
  obtain ⟨fuel, hf⟩ := h1
  obtain ⟨A1, c1, zs, hs1, hU, hml⟩ := open_us hf
  simp only [Value.slice.injEq] at hs1
  obtain ⟨rfl, rfl, rfl⟩ := hs1
  clear hA0 hval0
  refine (spoilt_walk a0 _ _ zs a2 a3 a4 W b0.1 b0.2 hml hU b2.1 b2.2 b3.1 b3.2 b4.1 b4.2).mono fun e W' ⟨he, hg⟩ => ?_
  subst he
  exact ⟨_, rfl, post_low (pv := []) hW' (fun _ _ _ => (trodAll_cons_mk (shut_bool Try.underlying4 _) trodAll_mk0))
    (fun sp hsp => (trodAll_cons_mk (shut_int Try.underlying5 w0) (trodAll_cons_mk (Trod_stays Try.laid2 (by kernel_rfl) (by decide +kernel) hk1 (fun x hx => hg.same (hlt x (by simp [hx]))) (fun x hx => hsp x (by simp [hx]))) (trodAll_cons_mk (shut_int Try.underlying5 w2) (trodAll_cons_mk (shut_int Try.underlying3 w3) (trodAll_cons_mk (shut_int Try.underlying3 w4) trodAll_mk0)))))) (fun _ _ => rfl) (by simp)
    hg (ok_one (by kernel_rfl) rfl (okWide_bool_mk Try.underlying4 _))⟩

theorem graphSpoilt_holds : Rows.GraphSpoiltSaid :=
  OpenClaim.holds_of_wide 5 Try.f5 rfl rfl rfl rfl rfl rfl rfl ⟨rfl, rfl, rfl, rfl, rfl⟩ rfl rfl rfl rfl rfl (by kernel_rfl) Try.func5 (by kernel_rfl)
    (of_decide_eq_true (by kernel_rfl)) (by unfold Func.isWrapper; first | (rw [if_pos (by decide +kernel)]; kernel_rfl) | (rw [if_neg (by decide +kernel)]; exact ⟨rfl, rfl⟩))
    (fun os started H enc _ => spoilt_lifted os started H enc)
#print axioms graphSpoilt_holds

end Go.Proofs.Yticallikogheiaa
