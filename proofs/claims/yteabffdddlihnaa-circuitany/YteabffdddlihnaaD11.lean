/- Is and After. -/
import Derived.Test.YteabffdddlihnaaD10
namespace Go.Proofs.Yteabffdddlihnaa
open Go.RowKit

theorem mono_all {w w' : World} {B C : Nat} (h : Below C w w') (hB : B ≤ C) : Below B w w' := h.mono hB

set_option maxRecDepth 100000 in
set_option maxHeartbeats 8000000 in
theorem Is_any (c : Cir) (st l : Int) (w : World) (hM : CirM w w.heap.size c) (hW : CirW c) (hcap : c.ns.length ≤ c.cN) (hs : I64 st) (hlg : c.gs.length ≤ 100000) : Calls Try.prog 14 #[.agg #[.int .i64 c.n, .slice c.aL c.ls.length c.cL, .slice c.aG c.gs.length c.cG, .slice c.aO c.os.length c.cO, .slice c.aB c.bs.length c.cB, .slice c.aC c.cs.length c.cC, .slice c.aF c.fs.length c.cF, .slice c.aN c.ns.length c.cN], .int .i64 st, .int .i64 l] w fun e w' => e = .returned (.bool (Cm.isS c st l)) ∧ Below w.heap.size w w' := by
  have hbx := boxed w c
  have lo := lowAlloc w (Obj.cells #[.int .i64 c.n, .slice c.aL c.ls.length c.cL, .slice c.aG c.gs.length c.cG, .slice c.aO c.os.length c.cO, .slice c.aB c.bs.length c.cB, .slice c.aC c.cs.length c.cC, .slice c.aF c.fs.length c.cF, .slice c.aN c.ns.length c.cN] 27)
  have hM1 := (hM.below lo (Nat.le_refl _)).more lo.size
  obtain ⟨W, hWW⟩ : ∃ W, W = w.alloc (Obj.cells #[.int .i64 c.n, .slice c.aL c.ls.length c.cL, .slice c.aG c.gs.length c.cG, .slice c.aO c.os.length c.cO, .slice c.aB c.bs.length c.cB, .slice c.aC c.cs.length c.cC, .slice c.aF c.fs.length c.cF, .slice c.aN c.ns.length c.cN] 27) := ⟨_, rfl⟩
  rw [← hWW] at hbx lo hM1
  have HST := Lib.hid (fun V (hb : Below W.heap.size W V) => steps_any c V ((hM1.below hb (Nat.le_refl _)).more hb.size) hW hcap)
  have lx := Below.refl W.heap.size W
  have HK : Hid (∀ V, Below W.heap.size W V → (fun V => V.cell? ⟨w.heap.size, 0, none⟩ = some (.int .i64 c.n) ∧ V.cell? ⟨w.heap.size, 1, none⟩ = some (.slice c.aL c.ls.length c.cL) ∧ V.cell? ⟨w.heap.size, 2, none⟩ = some (.slice c.aG c.gs.length c.cG) ∧ V.cell? ⟨w.heap.size, 3, none⟩ = some (.slice c.aO c.os.length c.cO) ∧ V.cell? ⟨w.heap.size, 4, none⟩ = some (.slice c.aB c.bs.length c.cB) ∧ V.cell? ⟨w.heap.size, 5, none⟩ = some (.slice c.aC c.cs.length c.cC) ∧ V.cell? ⟨w.heap.size, 6, none⟩ = some (.slice c.aF c.fs.length c.cF) ∧ V.cell? ⟨w.heap.size, 7, none⟩ = some (.slice c.aN c.ns.length c.cN)) V) := by
    intro V hb
    have h := hbx.below hb hbx.lt
    exact ⟨h.cell 0, h.cell 1, h.cell 2, h.cell 3, h.cell 4, h.cell 5, h.cell 6, h.cell 7⟩
  have HIS : Hid (Cm.isS c st l = (Cm.stepB c && Em.evalB (c.n + c.ls.length) c.gs l (bitsB st (c.n + c.ls.length).toNat))) := rfl
  generalize Cm.isS c st l = z at *
  cases hsb : Cm.stepB c with
  | false =>
    have HZ : Hid (z = false) := by
      unfold Hid
      rw [HIS.out, hsb]
      rfl
    rw [hsb] at HST
    clear HIS hsb
    go_enter Try.func14, Try.ntmps14
    go_upto_region 1 with fail
    rw [← hWW]
    clear hWW
    refine wp_region_held_drew (S := (fun V => V.cell? ⟨w.heap.size, 0, none⟩ = some (.int .i64 c.n) ∧ V.cell? ⟨w.heap.size, 1, none⟩ = some (.slice c.aL c.ls.length c.cL) ∧ V.cell? ⟨w.heap.size, 2, none⟩ = some (.slice c.aG c.gs.length c.cG) ∧ V.cell? ⟨w.heap.size, 3, none⟩ = some (.slice c.aO c.os.length c.cO) ∧ V.cell? ⟨w.heap.size, 4, none⟩ = some (.slice c.aB c.bs.length c.cB) ∧ V.cell? ⟨w.heap.size, 5, none⟩ = some (.slice c.aC c.cs.length c.cC) ∧ V.cell? ⟨w.heap.size, 6, none⟩ = some (.slice c.aF c.fs.length c.cF) ∧ V.cell? ⟨w.heap.size, 7, none⟩ = some (.slice c.aN c.ns.length c.cN))) (by kernel_rfl) ?_ (fun hHeld => ?_)
    · exact HK.out _ lx.drew
    refine wpAnyH_take (i := 0) (oi := ⟨some 7, _, _, _, _, _⟩) (v := ?_) rfl (by kernel_rfl) (by kernel_rfl) (by kernel_rfl) (fun _ _ _ h => h) (Or.inl ⟨by rfl, ?_⟩) hHeld ?_
    rotate_left
    · intro w hSw
      (try dsimp only at hSw)
      first | (go_simp; done) | (go_simp; with_reducible rfl) | with_reducible rfl
    try simp only [Act.put, List.setIfInBounds_toArray, List.set_cons_zero, List.set_cons_succ]
    refine wpAnyH_ready (rs := [1]) (by kernel_rfl) (by simp) ?_
    refine AllReadyH.cons (o := ⟨some 8, _, _, _, _, _⟩) rfl (fun K hK => ?_) AllReadyH.nil
    go_simp
    refine (HST.out _ lx.drew).mono ?_; rintro e w1 ⟨rfl, hb1⟩; replace lx := lx.drew.trans hb1
    refine hK.out _ _ ?_ (fun hHeld => ?_)
    · exact HK.out _ lx
    clear hK K
    try simp only [Act.put, List.setIfInBounds_toArray, List.set_cons_zero, List.set_cons_succ]
    refine wpAnyH_take (i := 2) (oi := ⟨some 9, _, _, _, _, _⟩) (v := ?_) rfl (by kernel_rfl) (by kernel_rfl) (by kernel_rfl) (fun _ _ _ h => h) (Or.inl ⟨by rfl, ?_⟩) hHeld ?_
    rotate_left
    · intro w hSw
      (try dsimp only at hSw)
      first | (go_simp; done) | (go_simp; with_reducible rfl) | with_reducible rfl
    try simp only [Act.put, List.setIfInBounds_toArray, List.set_cons_zero, List.set_cons_succ]
    refine wpAnyH_take (i := 3) (oi := ⟨some 10, _, _, _, _, _⟩) (v := undef) rfl (by kernel_rfl) (by kernel_rfl) (by kernel_rfl) (fun _ _ _ h => h) (Or.inr ⟨by rfl, rfl⟩) hHeld ?_
    try simp only [Act.put, List.setIfInBounds_toArray, List.set_cons_zero, List.set_cons_succ]
    refine wpAnyH_take (i := 4) (oi := ⟨some 11, _, _, _, _, _⟩) (v := undef) rfl (by kernel_rfl) (by kernel_rfl) (by kernel_rfl) (fun _ _ _ h => h) (Or.inr ⟨by rfl, rfl⟩) hHeld ?_
    try simp only [Act.put, List.setIfInBounds_toArray, List.set_cons_zero, List.set_cons_succ]
    refine wpAnyH_take (i := 5) (oi := ⟨some 12, _, _, _, _, _⟩) (v := undef) rfl (by kernel_rfl) (by kernel_rfl) (by kernel_rfl) (fun _ _ _ h => h) (Or.inr ⟨by rfl, rfl⟩) hHeld ?_
    try simp only [Act.put, List.setIfInBounds_toArray, List.set_cons_zero, List.set_cons_succ]
    refine wpAnyH_take (i := 6) (oi := ⟨some 13, _, _, _, _, _⟩) (v := undef) rfl (by kernel_rfl) (by kernel_rfl) (by kernel_rfl) (fun _ _ _ h => h) (Or.inr ⟨by rfl, rfl⟩) hHeld ?_
    try simp only [Act.put, List.setIfInBounds_toArray, List.set_cons_zero, List.set_cons_succ]
    refine wpAnyH_take (i := 7) (oi := ⟨some 14, _, _, _, _, _⟩) (v := undef) rfl (by kernel_rfl) (by kernel_rfl) (by kernel_rfl) (fun _ _ _ h => h) (Or.inr ⟨by rfl, rfl⟩) hHeld ?_
    try simp only [Act.put, List.setIfInBounds_toArray, List.set_cons_zero, List.set_cons_succ]
    refine wpAnyH_take (i := 8) (oi := ⟨some 15, _, _, _, _, _⟩) (v := undef) rfl (by kernel_rfl) (by kernel_rfl) (by kernel_rfl) (fun _ _ _ h => h) (Or.inr ⟨by rfl, rfl⟩) hHeld ?_
    try simp only [Act.put, List.setIfInBounds_toArray, List.set_cons_zero, List.set_cons_succ]
    refine wpAnyH_take (i := 9) (oi := ⟨some 16, _, _, _, _, _⟩) (v := undef) rfl (by kernel_rfl) (by kernel_rfl) (by kernel_rfl) (fun _ _ _ h => h) (Or.inr ⟨by rfl, rfl⟩) hHeld ?_
    try simp only [Act.put, List.setIfInBounds_toArray, List.set_cons_zero, List.set_cons_succ]
    refine wpAnyH_take (i := 10) (oi := ⟨some 17, _, _, _, _, _⟩) (v := ?_) rfl (by kernel_rfl) (by kernel_rfl) (by kernel_rfl) (fun _ _ _ h => h) (Or.inl ⟨by rfl, ?_⟩) hHeld ?_
    rotate_left
    · intro w hSw
      (try dsimp only at hSw)
      first | (go_simp; done) | (go_simp; with_reducible rfl) | with_reducible rfl
    try simp only [Act.put, List.setIfInBounds_toArray, List.set_cons_zero, List.set_cons_succ]
    refine wpAnyH_take (i := 11) (oi := ⟨some 6, _, _, _, _, _⟩) (v := ?_) rfl (by kernel_rfl) (by kernel_rfl) (by kernel_rfl) (fun _ _ _ h => h) (Or.inl ⟨by rfl, ?_⟩) hHeld ?_
    rotate_left
    · intro w hSw
      (try dsimp only at hSw)
      first | (go_simp; done) | (go_simp; with_reducible rfl) | with_reducible rfl
    try simp only [Act.put, List.setIfInBounds_toArray, List.set_cons_zero, List.set_cons_succ]
    refine wpAnyH_done (by kernel_rfl) ?_ _
    go_wp2
    go_ret
    exact ⟨by rw [HZ.out]; rfl, lo.trans (lx.mono lo.size)⟩
  | true =>
    obtain ⟨hrc, h60⟩ := Cm.step_facts hsb
    have hft := Cm.right_fits hrc
    have hff := Cm.fits_facts hft
    have HZ : Hid (z = Em.evalB (c.n + c.ls.length) c.gs l (bitsB st (c.n + c.ls.length).toNat)) := by
      unfold Hid
      rw [HIS.out, hsb]
      rfl
    rw [hsb] at HST
    obtain ⟨m, hm⟩ := Int.eq_ofNat_of_zero_le (show 0 ≤ c.n + c.ls.length by omega)
    have HIN := Lib.hid (fun V => inner_any c V)
    rw [Cm.wrapW hft] at HIN
    have HIP := Lib.hid (fun V => inputs_any c st V hft hs m hm.symm (by omega))
    rw [hm] at HIN HZ
    rw [Int.toNat_natCast] at HZ
    have hbl := bitsB_length st m
    have HEV := Lib.hid (fun V A q (hb : Below W.heap.size W V) (hV : Vs V V.heap.size A (bv (bitsB st m))) => eval_any (m : Int) c.aG c.cG c.gs l A q (bitsB st m) V hlg (by rw [hbl]; omega) ((hM1.hg.below hb (Nat.le_refl _)).more hb.size) hW.hg hV)
    clear HIS hsb hm hft hff hrc hM hM1 hbx hbl
    generalize bitsB st m = bs at *
    generalize Em.evalB (m : Int) c.gs l bs = y at *
    go_enter Try.func14, Try.ntmps14
    go_upto_region 1 with fail
    rw [← hWW]
    clear hWW
    go_region_held3 (fun V => V.cell? ⟨w.heap.size, 0, none⟩ = some (.int .i64 c.n) ∧ V.cell? ⟨w.heap.size, 1, none⟩ = some (.slice c.aL c.ls.length c.cL) ∧ V.cell? ⟨w.heap.size, 2, none⟩ = some (.slice c.aG c.gs.length c.cG) ∧ V.cell? ⟨w.heap.size, 3, none⟩ = some (.slice c.aO c.os.length c.cO) ∧ V.cell? ⟨w.heap.size, 4, none⟩ = some (.slice c.aB c.bs.length c.cB) ∧ V.cell? ⟨w.heap.size, 5, none⟩ = some (.slice c.aC c.cs.length c.cC) ∧ V.cell? ⟨w.heap.size, 6, none⟩ = some (.slice c.aF c.fs.length c.cF) ∧ V.cell? ⟨w.heap.size, 7, none⟩ = some (.slice c.aN c.ns.length c.cN))
      (first | exact HK.out _ lx | exact HK.out _ lx.drew)
      (first | (go_at_call 29; (with_reducible refine (HST.out _ lx.drew).mono ?_); rintro e w1 ⟨rfl, hb1⟩; replace lx := lx.drew.trans hb1) | (go_at_call 31; (with_reducible refine (HIN.out _).mono ?_); rintro e w2 ⟨rfl, hb2⟩; replace lx := lx.trans (hb2.mono lx.size); (try replace hV := (hV.below hb2 (Nat.le_refl _)).more hb2.size)) | (go_at_call 32; (with_reducible refine (HIP.out _).mono ?_); rintro e w3 ⟨A', q', rfl, hV, hb3⟩; replace lx := lx.trans (hb3.mono lx.size)) | (go_at_call 34; (with_reducible refine (HEV.out _ _ _ lx hV).mono ?_); rintro e w4 ⟨rfl, hb4⟩; replace lx := lx.trans (hb4.mono lx.size)))
    all_goals go_wp2
    all_goals go_ret
    all_goals exact ⟨by rw [HZ.out]; rfl, lo.trans (lx.mono lo.size)⟩
end Go.Proofs.Yteabffdddlihnaa
