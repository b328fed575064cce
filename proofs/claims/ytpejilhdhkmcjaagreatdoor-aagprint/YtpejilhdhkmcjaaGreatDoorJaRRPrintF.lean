/- 'parterrelaw05.AagPrint' returns true at every input, and each argument reads afterwards as it read before: its tied card. Condition: the library's variables read as the program's text lays them (tied by the card). -/
import Derived.Test.YtpejilhdhkmcjaaGreatDoorJaAl
import Derived.Test.YtpejilhdhkmcjaaGreatDoorJaby
import Derived.Test.YtpejilhdhkmcjaaGreatDoorJabz
import Derived.Test.YtpejilhdhkmcjaaGreatDoorJabr
namespace Go.Proofs.YtpejilhdhkmcjaaGreatDoor
open Go.ChangeMaps Go.ChangeShapes Go.WideShapes Go.ChangeAt Go.RowKit Go.Deep Go.Joins Go.WideElems

theorem names20 {c : Cir} (h : Cm.rightC c = true) : ∀ x ∈ c.ns, x.2.2.size ≤ 20 := by
  simp only [Cm.rightC, Bool.and_eq_true] at h
  have hn := h.2
  simp only [Cm.namedB, Bool.and_eq_true, List.all_eq_true, decide_eq_true_eq] at hn
  intro x hx
  have hw := hn.1.2 x hx
  simp only [Cm.wordB, Bool.and_eq_true, decide_eq_true_eq] at hw
  exact hw.1.2
set_option maxRecDepth 100000 in
set_option maxHeartbeats 8000000 in
theorem aagPrint_full (c : Cir) {B : Nat} (w : World) (hM : CirM w w.heap.size c) (hO : CirO c) (hA : Amb B w) :
    Calls Tryz.prog 4 #[.agg #[.int .i64 c.n, .slice c.aL c.ls.length c.cL, .slice c.aG c.gs.length c.cG, .slice c.aO c.os.length c.cO, .slice c.aB c.bs.length c.cB, .slice c.aC c.cs.length c.cC, .slice c.aF c.fs.length c.cF, .slice c.aN c.ns.length c.cN]] w fun e w' => e = .returned (.bool true) ∧ Below w.heap.size w w' := by
  have hbx := Blk.new w 29 #[.int .i64 c.n, .slice c.aL c.ls.length c.cL, .slice c.aG c.gs.length c.cG, .slice c.aO c.os.length c.cO, .slice c.aB c.bs.length c.cB, .slice c.aC c.cs.length c.cC, .slice c.aF c.fs.length c.cF, .slice c.aN c.ns.length c.cN]
  have lo := lowAlloc w (Obj.cells #[.int .i64 c.n, .slice c.aL c.ls.length c.cL, .slice c.aG c.gs.length c.cG, .slice c.aO c.os.length c.cO, .slice c.aB c.bs.length c.cB, .slice c.aC c.cs.length c.cC, .slice c.aF c.fs.length c.cF, .slice c.aN c.ns.length c.cN] 29)
  have hM1 := hM.on lo
  have hA1 := hA.on (lo.mono hA.le)
  clear hM
  have hn := hO.hn
  have hml : maxLen = 9223372036854775807 := by decide
  have m1 := hO.ml
  have m2 := hO.mg
  have m3 := hO.mn
  rw [hml] at m1 m2 m3
  have HN0 := Lib.hid hn
  clear hml hn
  go_enter Tryz.func4, Tryz.ntmps4
  go_upto_region 1 with fail
  generalize w.alloc (Obj.cells #[.int .i64 c.n, .slice c.aL c.ls.length c.cL, .slice c.aG c.gs.length c.cG, .slice c.aO c.os.length c.cO, .slice c.aB c.bs.length c.cB, .slice c.aC c.cs.length c.cC, .slice c.aF c.fs.length c.cF, .slice c.aN c.ns.length c.cN] 29) = W at *
  have HAW := Lib.hid (awake5_any B W hA1)
  have c0 := hbx.cell 0; have c1 := hbx.cell 1; have c2 := hbx.cell 2; have c3 := hbx.cell 3; have c4 := hbx.cell 4; have c5 := hbx.cell 5; have c6 := hbx.cell 6; have c7 := hbx.cell 7; simp only [List.getElem?_toArray, List.getElem?_cons_zero, List.getElem?_cons_succ] at c0 c1 c2 c3 c4 c5 c6 c7
  by_cases hg : 60 < c.gs.length
  · have d1 : decide ((60 : Int) < (c.gs.length : Int)) = true := decide_eq_true (by omega)
    go_wp2_with fail
    refine HAW.out.mono ?_
    rintro e w5 ⟨rfl, hb5⟩
    have lo5 := lo.trans (hb5.mono lo.size)
    go_wp2
    go_ret
    exact ⟨rfl, lo5⟩
  · have d1 : decide ((60 : Int) < (c.gs.length : Int)) = false := decide_eq_false (by omega)
    by_cases hl : 60 < c.ls.length
    · have d2 : decide ((60 : Int) < (c.ls.length : Int)) = true := decide_eq_true (by omega)
      go_wp2_with fail
      refine HAW.out.mono ?_
      rintro e w5 ⟨rfl, hb5⟩
      have lo5 := lo.trans (hb5.mono lo.size)
      go_wp2
      go_ret
      exact ⟨rfl, lo5⟩
    · have d2 : decide ((60 : Int) < (c.ls.length : Int)) = false := decide_eq_false (by omega)
      by_cases hnn : 60 < c.ns.length
      · have d3 : decide ((60 : Int) < (c.ns.length : Int)) = true := decide_eq_true (by omega)
        go_wp2_with fail
        refine HAW.out.mono ?_
        rintro e w5 ⟨rfl, hb5⟩
        have lo5 := lo.trans (hb5.mono lo.size)
        go_wp2
        go_ret
        exact ⟨rfl, lo5⟩
      · have d3 : decide ((60 : Int) < (c.ns.length : Int)) = false := decide_eq_false (by omega)
        by_cases hni : 60 < c.n
        · have d4 : decide ((60 : Int) < c.n) = true := decide_eq_true hni
          go_wp2_with fail
          refine HAW.out.mono ?_
          rintro e w5 ⟨rfl, hb5⟩
          have lo5 := lo.trans (hb5.mono lo.size)
          go_wp2
          go_ret
          exact ⟨rfl, lo5⟩
        · have d4 : decide ((60 : Int) < c.n) = false := decide_eq_false hni
          have hW : CirW c := ⟨hO.hn, hO.hl, hO.hg, hO.ho, hO.hb, hO.hc, hO.hf, hO.hk, by omega, by omega, hO.lo, hO.lb, hO.lc, hO.lf, by omega⟩
          have hcap := hO.cap
          have hlen : Cm.rightC c = true → (Ag.printS c).length ≤ 100000000 := fun h => by
            have := print_len2 (Ag.right_ok h) 20 (by omega) (names20 h)
            omega
          have HPR : Hid (∃ (S : ByteArray) (k : Int), ∀ V, Below W.heap.size W V → (Calls Tryz.prog 13 #[.agg #[.int .i64 c.n, .slice c.aL c.ls.length c.cL, .slice c.aG c.gs.length c.cG, .slice c.aO c.os.length c.cO, .slice c.aB c.bs.length c.cB, .slice c.aC c.cs.length c.cC, .slice c.aF c.fs.length c.cF, .slice c.aN c.ns.length c.cN]] V fun e w' => e = .returned (.tuple #[.string S, .int .i64 k]) ∧ Below V.heap.size V w') ∧ (Calls Tryz.prog 14 #[.agg #[.int .i64 c.n, .slice c.aL c.ls.length c.cL, .slice c.aG c.gs.length c.cG, .slice c.aO c.os.length c.cO, .slice c.aB c.bs.length c.cB, .slice c.aC c.cs.length c.cC, .slice c.aF c.fs.length c.cF, .slice c.aN c.ns.length c.cN]] V fun e w' => e = .returned (.tuple #[.string S, .int .i64 k]) ∧ Below V.heap.size V w')) := by
            refine ⟨if Cm.rightC c = true then bsv (Ag.printS c) else ⟨#[]⟩, if Cm.rightC c = true then 0 else 1, fun V hb => ⟨?_, ?_⟩⟩
            · refine (aagPrint_any c B V (hM1.on hb) hW hcap (fun h => by have := hlen h; omega) (hA1.on (hb.mono hA1.le))).mono fun e w' ⟨h1, h2⟩ => ⟨?_, h2⟩
              rw [h1]
              split <;> rfl
            · refine (rprint_text c V (hM1.on hb) hW (fun h => by have := hlen h; omega)).mono fun e w' ⟨h1, h2⟩ => ⟨?_, h2⟩
              rw [h1]
              split <;> rfl
          obtain ⟨S, k, hP⟩ := HPR.out
          have HP := Lib.hid hP
          clear HPR hP hlen hW hcap hM1 hO m1 m2 m3 hg hl hnn hni HAW
          go_wp2_with fail
          refine ((HP.out W (Below.refl _ _)).1).mono ?_
          rintro e w2 ⟨rfl, lx⟩
          clear c0 c1 c2 c3 c4 c5 c6 c7
          have hbx2 := hbx.below lx hbx.lt
          have c0 := hbx2.cell 0; have c1 := hbx2.cell 1; have c2 := hbx2.cell 2; have c3 := hbx2.cell 3; have c4 := hbx2.cell 4; have c5 := hbx2.cell 5; have c6 := hbx2.cell 6; have c7 := hbx2.cell 7; simp only [List.getElem?_toArray, List.getElem?_cons_zero, List.getElem?_cons_succ] at c0 c1 c2 c3 c4 c5 c6 c7
          clear hbx2
          go_wp2_with fail
          refine ((HP.out w2 lx).2).mono ?_
          rintro e w3 ⟨rfl, hb3⟩
          clear c0 c1 c2 c3 c4 c5 c6 c7
          have lx3 := lx.trans (hb3.mono lx.size)
          have HAW := Lib.hid (awake5_any B w3 (hA1.on (lx3.mono hA1.le)))
          have hs1 : (S == S) = true := beq_self_eq_true _
          have hs2 : decide (S = S) = true := decide_eq_true rfl
          have hs3 : (k == k) = true := beq_self_eq_true _
          go_wp2_with fail
          refine HAW.out.mono ?_
          rintro e w5 ⟨rfl, hb5⟩
          have lz := lo.trans ((lx3.trans (hb5.mono lx3.size)).mono lo.size)
          go_wp2
          go_ret
          exact ⟨rfl, lz⟩
set_option maxRecDepth 100000 in
theorem aagPrint_lifted (os : Os) (started : os.Started) (H : Type) (enc : TypeId × Value → H) :
    ReturnsInHanded {} Tryz.checked os 4 .any (fun w args => (Rows.aagPrintSpec.pre enc Tryz.prog Tryz.f4 [] false w args ∧ laidMetH Tryz.prog laid2 w) ∧ sizedMet enc Tryz.prog Tryz.f4 (OpenSpec.ofChange Rows.aagPrintSpec) false w args) (Rows.aagPrintSpec.post enc Tryz.prog Tryz.f4 false true false false) := by
  refine handed_and_shaped (C := Tryz.checked) (X := fun w _ => laidMetH Tryz.prog laid2 w) (fun _ _ _ hh h => h.of_heap hh) Tryz.own started (by kernel_rfl) Tryz.func4
    (ChangeSpec.witness_shaped (enc := enc) (C := Tryz.checked) (os := os) (X := fun w _ => laidMetH Tryz.prog laid2 w) false (World.laidAll Tryz.prog os laid2) #[.agg #[.int .i64 0, .slice none 0 0, .slice none 0 0, .slice none 0 0, .slice none 0 0, .slice none 0 0, .slice none 0 0, .slice none 0 0]] 8 rfl (World.shaped_of_ZipB (by kernel_rfl) (by kernel_rfl)) (by kernel_rfl) (by kernel_rfl) (by kernel_rfl) (door_met os _)) ?_
  intro W base args ds gs before hval0 hW _ _ hL hsh _
  have hval : ∀ (j : Nat) t v, Tryz.f4.params[j]? = some t → args[j]? = some v → Value.okWide Tryz.prog W .any base t v := hval0
  have hW' := hW
  obtain ⟨p, q, hA0, hV, rfl, hfz, hnd⟩ := hW
  have hA : DataW.TrodAll enc Tryz.prog W 0 (fun _ => true) true Tryz.f4.params.toList args.toList ds p := hA0
  rw [Tryz.params4] at hA hval
  obtain ⟨v0, vs0, d0, ds0, p0, q0, hargs, rfl, rfl, h0, r0⟩ := trodAll_cons hA
  obtain ⟨rfl, rfl, rfl⟩ := trodAll_nil r0
  obtain rfl : args = #[v0] := by cases args; simp_all
  obtain ⟨rfl, rfl⟩ := trodVars_none hV
  have hlt := fun x hx => hW'.lt x hx
  have hk0 := h0
  obtain ⟨cc0, hcv0, hM0, hO0, _⟩ := open_circuit2 (hval 0 29 v0 rfl rfl) h0
  subst hcv0
  clear hA0 hval0
  refine (aagPrint_full cc0 W hM0 hO0 (of_laid hsh hL)).mono fun e W' ⟨he, hg⟩ => ?_
  subst he
  exact ⟨_, rfl, post_low (pv := []) hW' (fun _ _ _ => (trodAll_cons_mk (shut_bool Tryz.underlying4 _) trodAll_mk0))
    (fun sp hsp => (trodAll_cons_mk (Trod_stays Tryz.laid2 (by kernel_rfl) (by decide +kernel) hk0 (fun x hx => hg.same (hlt x (by simp [hx]))) (fun x hx => hsp x (by simp [hx]))) trodAll_mk0)) (fun _ _ => rfl) (by simp)
    hg (ok_one (by kernel_rfl) rfl (okWide_bool_mk Tryz.underlying4 _))⟩

theorem aagPrint_row : Rows.AagPrintSaid :=
  OpenClaim.holds_of_wide 4 Tryz.f4 rfl rfl rfl rfl rfl rfl rfl ⟨rfl, rfl, rfl, rfl, rfl⟩ rfl rfl rfl rfl rfl (by kernel_rfl) Tryz.func4 (by kernel_rfl)
    (of_decide_eq_true (by kernel_rfl)) (by unfold Func.isWrapper; first | (rw [if_pos (by decide +kernel)]; kernel_rfl) | (rw [if_neg (by decide +kernel)]; exact ⟨rfl, rfl⟩))
    (fun os started H enc _ => aagPrint_lifted os started H enc)
theorem aagPrint_holds : Rows.AagPrintCardSaid :=
  Claim7.holds_tied_plain_at .later [] [.data, .data, .data, .data, .sentinel, .sentinel, .pinned] true (true, "175439052fe4d2705badada84bdb64f55cc699ee68632953d47755ba6446107d") true
    aagPrint_row (fun _ h => by cases h) (by kernel_rfl) (fun _ h => by cases h) aagPrint_row_tie rfl ⟨rfl, rfl⟩ (by kernel_rfl) rfl
    (fun f fn hf hfn => by
      obtain rfl : f = 4 := Option.some.inj ((show Tryz.prog.funcNamed "parterre/parterrelaw05.AagPrint" = some 4 by kernel_rfl).symm.trans hf) |>.symm
      obtain rfl : fn = Tryz.f4 := (Option.some.inj (Tryz.func4.symm.trans hfn)).symm
      exact ⟨by kernel_rfl, fun j t ht => by
        rw [Tryz.params4] at ht
        have hm : t ∈ [29] := by simpa using Array.mem_of_getElem? ht
        have hall : ([29].all fun u => !Tryz.prog.wantsStandIn u) = true := by kernel_rfl
        exact (show Tryz.prog.wantsStandIn t = false by simpa using List.all_eq_true.1 hall t hm)⟩)
    (by kernel_rfl)
#print axioms aagPrint_holds
end Go.Proofs.YtpejilhdhkmcjaaGreatDoor
