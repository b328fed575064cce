/- 'parterrelaw02.EvalAny' returns true at every input, and each argument reads afterwards as it read before: its tied card. Condition: the package's tables read as the program's text lays them (tied by the card). -/
import Derived.Test.YtpbbjklacgkcgaaDoorEN
namespace Go.Proofs.YtpbbjklacgkcgaaDoor
open Go.ChangeShapes Go.WideShapes Go.ChangeAt Go.RowKit Go.Deep Go.Joins Go.WideElems

set_option maxRecDepth 100000 in
theorem evalAny_lifted (os : Os) (started : os.Started) (H : Type) (enc : TypeId × Value → H) :
    ReturnsInHanded {} Tryd.checked os 3 .any (fun w args => (Rows.evalAnySpec.pre enc Tryd.prog Tryd.f3 [] false w args ∧ laidMetH Tryd.prog laid2 w) ∧ sizedMet enc Tryd.prog Tryd.f3 (OpenSpec.ofChange Rows.evalAnySpec) false w args) (Rows.evalAnySpec.post enc Tryd.prog Tryd.f3 false true false false) := by
  refine returnsInHanded_of_change_and (C := Tryd.checked) (X := fun w _ => laidMetH Tryd.prog laid2 w) (fun _ _ _ hh h => h.of_heap hh) Tryd.own started (by kernel_rfl) Tryd.func3
    (ChangeSpec.witness_shaped (enc := enc) (C := Tryd.checked) (os := os) (X := fun w _ => laidMetH Tryd.prog laid2 w) false (World.doorLaid Tryd.prog 400 os) #[.agg #[.int .i64 0, .slice none 0 0], .int .i64 0, .slice none 0 0, .slice none 0 0] 8 rfl (World.shaped_of_RefB (by kernel_rfl) (by kernel_rfl)) (by kernel_rfl) (by kernel_rfl) (by kernel_rfl) (door_met os _)) ?_
  intro W base args ds gs before hval0 hW _ _ hL _
  have hval : ∀ (j : Nat) t v, Tryd.f3.params[j]? = some t → args[j]? = some v → Value.okWide Tryd.prog W .any base t v := hval0
  have hW' := hW
  obtain ⟨p, q, hA0, hV, rfl, hfz, hnd⟩ := hW
  have hA : DataW.TrodAll enc Tryd.prog W 0 (fun _ => true) true Tryd.f3.params.toList args.toList ds p := hA0
  rw [Tryd.params3] at hA hval
  obtain ⟨v0, vs0, d0, ds0, p0, q0, hargs, rfl, rfl, h0, r0⟩ := trodAll_cons hA
  obtain ⟨v1, vs1, d1, ds1, p1, q1, rfl, rfl, rfl, h1, r1⟩ := trodAll_cons r0
  obtain ⟨v2, vs2, d2, ds2, p2, q2, rfl, rfl, rfl, h2, r2⟩ := trodAll_cons r1
  obtain ⟨v3, vs3, d3, ds3, p3, q3, rfl, rfl, rfl, h3, r3⟩ := trodAll_cons r2
  obtain ⟨rfl, rfl, rfl⟩ := trodAll_nil r3
  obtain rfl : args = #[v0, v1, v2, v3] := by cases args; simp_all
  obtain ⟨rfl, rfl⟩ := trodVars_none hV
  obtain ⟨a1, rfl, rfl, rfl, w1⟩ := open_int Tryd.underlying3 (hval 1 3 v1 rfl rfl) h1
  have b1 := bounds_i64 w1
  have hlt := fun x hx => hW'.lt x hx
  have hk0 := h0
  obtain ⟨c0, c1, y0, y1, m, rfl, rfl, rfl, hy0, hy1⟩ := open_agg2 Tryd.underlying24 (by kernel_rfl) Tryd.cellsGraph (hval 0 24 v0 rfl rfl) h0
  obtain ⟨nG, e0, _, _⟩ := DataW.trod_int Tryd.underlying3 hy0
  obtain ⟨AG, cG, gG, rfl, hG, hwf, hmG⟩ := open_gates hy1
  simp at e0
  subst e0
  obtain ⟨x2, len2, cap2, hs2⟩ := okWide_slice Tryd.underlying25 (hval 2 25 v2 rfl rfl)
  subst hs2
  have hk2 := h2
  obtain ⟨fuel2, hf2⟩ := h2
  obtain ⟨A2, c2, zs2, hs2, hU2, hml2⟩ := open_bools hf2
  simp only [Value.slice.injEq] at hs2
  obtain ⟨rfl, rfl, rfl⟩ := hs2
  obtain ⟨x3, len3, cap3, hs3⟩ := okWide_slice Tryd.underlying26 (hval 3 26 v3 rfl rfl)
  subst hs3
  have hk3 := h3
  obtain ⟨fuel3, hf3⟩ := h3
  obtain ⟨A3, c3, zs3, hs3, hU3, hml3⟩ := open_ints hf3
  simp only [Value.slice.injEq] at hs3
  obtain ⟨rfl, rfl, rfl⟩ := hs3
  clear hA0 hval0
  refine (evalAny_walk nG AG cG gG a1 _ _ zs2 _ _ zs3 W hG hwf hmG b1.1 b1.2 hU2 hml2 hU3 hml3 (of_laid hL)).mono fun e W' ⟨he, hg⟩ => ?_
  subst he
  exact ⟨_, rfl, post_low (pv := []) hW' (fun _ _ _ => (trodAll_cons_mk (shut_bool Tryd.underlying4 _) trodAll_mk0))
    (fun sp hsp => (trodAll_cons_mk (Trod_stays Tryd.laid2 (by kernel_rfl) (by decide +kernel) hk0 (fun x hx => hg.same (hlt x (by rcases List.mem_append.1 hx with h | h <;> simp [h]))) (fun x hx => hsp x (by rcases List.mem_append.1 hx with h | h <;> simp [h]))) (trodAll_cons_mk (shut_int Tryd.underlying3 w1) (trodAll_cons_mk (Trod_stays Tryd.laid2 (by kernel_rfl) (by decide +kernel) hk2 (fun x hx => hg.same (hlt x (by simp [hx]))) (fun x hx => hsp x (by simp [hx]))) (trodAll_cons_mk (Trod_stays Tryd.laid2 (by kernel_rfl) (by decide +kernel) hk3 (fun x hx => hg.same (hlt x (by simp [hx]))) (fun x hx => hsp x (by simp [hx]))) trodAll_mk0))))) (fun _ _ => rfl) (by simp)
    hg (ok_one (by kernel_rfl) rfl (okWide_bool_mk Tryd.underlying4 _))⟩

theorem evalAny_row : Rows.EvalAnySaid :=
  OpenClaim.holds_of_wide 3 Tryd.f3 rfl rfl rfl rfl rfl rfl rfl ⟨rfl, rfl, rfl, rfl, rfl⟩ rfl rfl rfl rfl rfl (by kernel_rfl) Tryd.func3 (by kernel_rfl)
    (of_decide_eq_true (by kernel_rfl)) (by unfold Func.isWrapper; first | (rw [if_pos (by decide +kernel)]; kernel_rfl) | (rw [if_neg (by decide +kernel)]; exact ⟨rfl, rfl⟩))
    (fun os started H enc _ => evalAny_lifted os started H enc)
theorem evalAny_holds : Rows.EvalAnyCardSaid :=
  Claim7.holds_tied_plain_at .later [] [.data, .data] true (true, "62b085970bff47eac87cebf614fd6461fcd8c942931b7d21ee7501d19cbd1f82") false
    evalAny_row (fun _ h => by cases h) (by kernel_rfl) (fun _ h => by cases h) evalAny_row_tie rfl ⟨rfl, rfl⟩ (by kernel_rfl) rfl
    (fun f fn hf hfn => by
      obtain rfl : f = 3 := Option.some.inj ((show Tryd.prog.funcNamed "parterre/parterrelaw02.EvalAny" = some 3 by kernel_rfl).symm.trans hf) |>.symm
      obtain rfl : fn = Tryd.f3 := (Option.some.inj (Tryd.func3.symm.trans hfn)).symm
      exact ⟨by kernel_rfl, fun j t ht => by
        rw [Tryd.params3] at ht
        have hm : t ∈ [24, 3, 25, 26] := by simpa using Array.mem_of_getElem? ht
        have hall : ([24, 3, 25, 26].all fun u => !Tryd.prog.wantsStandIn u) = true := by kernel_rfl
        exact (show Tryd.prog.wantsStandIn t = false by simpa using List.all_eq_true.1 hall t hm)⟩)
    (by kernel_rfl)
#print axioms evalAny_holds
end Go.Proofs.YtpbbjklacgkcgaaDoor
