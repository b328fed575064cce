/- The reader of formulas: imply; formula. -/
import Derived.Test.YtlddnejjpekgeaaDoorQan
set_option linter.unusedSimpArgs false
set_option linter.unusedVariables false
namespace Go.Proofs.YtlddnejjpekgeaaDoor
open Go.RowKit

set_option maxRecDepth 10000 in
set_option maxHeartbeats 4000000 in
theorem imply_any (R n : Nat) (HP : PrimC R n) : ∀ (j d : Nat) (ts : List Tk.Tok) (w : World), ts.length < j → ts.length ≤ n → d + ts.length ≤ 1000000 → PR w R ts →
    Calls Tryd.prog 84 #[.pointer (some ⟨R, 0, none⟩), .int .i64 (d : Int)] w (ResP R w (Fm.impG (Fm.pP n) j d ts)) := by
  intro j
  induction j with
  | zero => intro d ts w hj; omega
  | succ j ih =>
    intro d ts w hj hn hd h
    have IH := Lib.hid ih
    clear ih
    have hR0 := h.lt
    have lo := lowAlloc w (Obj.cells #[.int .i64 0, .string ⟨#[]⟩, .int .i64 0, .slice none 0 0] 24)
    have hk0 := (RKeep.refl R w).below lo
    have hb0 := Blk.new w 24 #[.int .i64 0, .string ⟨#[]⟩, .int .i64 0, .slice none 0 0]
    have h1 := h.below lo
    have hg0R : w.heap.size ≠ R := by omega
    clear h lo
    go_enter Tryd.func84, Tryd.ntmps84
    go_upto_region 1 with fail
    generalize w.alloc (Obj.cells #[.int .i64 0, .string ⟨#[]⟩, .int .i64 0, .slice none 0 0] 24) = W at *
    have hWw : w.heap.size < W.heap.size := hb0.lt
    have HOR := Lib.hid (or_any R n HP d ts W hn hd h1)
    go_wp2_with fail
    refine HOR.out.mono ?_
    intro e w1 hQ
    rcases hq : Fm.orG (Fm.pP n) d ts with ⟨ka, aa⟩ | ⟨f, r⟩
    · rw [hq] at hQ
      obtain ⟨rfl, hk1⟩ := hQ
      refine ⟨rfl, ?_⟩
      rw [Fm.impG, hq]
      exact ⟨rfl, hk0.trans hk1⟩
    rw [hq] at hQ
    obtain ⟨v, rfl, hF, hR, hk1⟩ := hQ
    obtain ⟨k1, s1, l1, A1, n1, c1, rfl⟩ := hF.four
    have HIE : Hid (Fm.impG (Fm.pP n) (j + 1) d ts = if Fm.hdT r = [45, 62] then (match Fm.impG (Fm.pP n) j (d + 1) r.tail with | .error e => .error e | .ok (g, r') => .ok (Fm.two 7 f g, r')) else .ok (f, r)) := by
      unfold Hid
      rw [Fm.impG, hq]
      rfl
    have hrl : r.length + 1 ≤ ts.length := by
      have := Fm.or_eats (Fm.pP_eats n) d _ _ _ hq
      have := Fm.cnt_pos f
      omega
    have lo2 := lowAlloc w1 (Obj.cells #[.int .i64 k1, .string s1, .int .i64 l1, .slice A1 n1 c1] 24)
    have hbx := Blk.new w1 24 #[.int .i64 k1, .string s1, .int .i64 l1, .slice A1 n1 c1]
    have hW1 : W.heap.size ≤ w1.heap.size := hk1.size
    have hkA := (hk0.trans hk1).below lo2
    have hF2 := hF.low (fun b hb => hb.2) lo2
    have hR2 := hR.below lo2
    have hb02 := (hk1.blkOf hb0 hg0R).below lo2 (hk1.blkOf hb0 hg0R).lt
    have hg5R : w1.heap.size ≠ R := by omega
    have hg5l : w1.heap.size < (w1.alloc (Obj.cells #[.int .i64 k1, .string s1, .int .i64 l1, .slice A1 n1 c1] 24)).heap.size := by simp
    clear hF hR hq lo2 HOR hk1 hb0 hk0 h1
    go_upto_region 2 with fail
    generalize w1.alloc (Obj.cells #[.int .i64 k1, .string s1, .int .i64 l1, .slice A1 n1 c1] 24) = W2 at *
    generalize w1.heap.size = g5 at *
    have HTK := Lib.hid (take_any R [45, 62] r W2 hR2 (by decide))
    go_wp2_with fail
    refine HTK.out.mono ?_
    rintro e w2 ⟨rfl, hR3, hk2⟩
    clear HTK hR2
    have hbx2 := hk2.blkOf hbx hg5R
    have hw2s : W2.heap.size ≤ w2.heap.size := hk2.size
    have hF3 := (hF2.rk (fun b hb => ⟨by have := hb.2; omega, by have := hb.1; omega⟩) hk2).more (K' := Fr W.heap.size w2.heap.size) (fun b hb => ⟨hb.1, by have := hb.2; omega⟩)
    have hb03 := hk2.blkOf hb02 hg0R
    have hkk := hkA.trans hk2
    by_cases e : Fm.hdT r = [45, 62]
    · rw [takeT_yes e] at hR3
      have hln := Fm.tail_len (ts := r) (by rw [e]; decide)
      have dd : decide (Fm.hdT r = [45, 62]) = true := decide_eq_true e
      rw [dd]
      rw [if_pos e] at HIE
      have hw : IntKind.i64.wrap ((d : Int) + 1) = (d : Int) + 1 := by rw [IntKind.wrap_i64]; omega
      have HIH : Hid (Calls Tryd.prog 84 #[.pointer (some ⟨R, 0, none⟩), .int .i64 ((d : Int) + 1)] w2.drew (ResP R w2.drew (Fm.impG (Fm.pP n) j (d + 1) r.tail))) := by
        have := IH.out (d + 1) r.tail w2.drew (by omega) (by omega) (by omega) hR3.drew
        rwa [Int.natCast_add, Int.natCast_one] at this
      have hbxd : Blk w2.drew g5 24 #[.int .i64 k1, .string s1, .int .i64 l1, .slice A1 n1 c1] := hbx2
      have hFd : FV w2.drew (Fr W.heap.size w2.drew.heap.size) f (.agg #[.int .i64 k1, .string s1, .int .i64 l1, .slice A1 n1 c1]) := FV.keep (w := w2) (w' := w2.drew) (fun _ _ => rfl) (fun _ h => h) f _ hF3
      have hb0d : Blk w2.drew w.heap.size 24 #[.int .i64 0, .string ⟨#[]⟩, .int .i64 0, .slice none 0 0] := hb03
      have HKK := Lib.hid hkk.drew
      have y0 := hbx2.cell 0
      have y1 := hbx2.cell 1
      have y2 := hbx2.cell 2
      have y3 := hbx2.cell 3
      simp only [List.getElem?_toArray, List.getElem?_cons_zero, List.getElem?_cons_succ] at y0 y1 y2 y3
      clear e dd hR3 hk2 hkk hkA hb02 hb03 hF2 hF3 hbx hbx2
      go_upto_region 3 with fail
      clear y0 y1 y2 y3
      refine wp_region_held_drew (S := (fun V => V.cell? ⟨g5, 0, none⟩ = some (.int .i64 k1) ∧ V.cell? ⟨g5, 1, none⟩ = some (.string s1) ∧ V.cell? ⟨g5, 2, none⟩ = some (.int .i64 l1) ∧ V.cell? ⟨g5, 3, none⟩ = some (.slice A1 n1 c1))) (by kernel_rfl) (⟨hbxd.cell 0, hbxd.cell 1, hbxd.cell 2, hbxd.cell 3⟩) (fun hHeld => ?_)
      refine wpAnyH_take (i := 0) (oi := ⟨some 11, _, _, _, _, _⟩) (v := ?_) rfl (by kernel_rfl) (by kernel_rfl) (by kernel_rfl) (fun _ _ _ h => h) (Or.inl ⟨by rfl, ?_⟩) hHeld ?_
      rotate_left
      · intro w hSw
        (try dsimp only at hSw)
        obtain ⟨s0, s1, s2, s3⟩ := hSw
        first | (go_simp; done) | (go_simp; with_reducible rfl) | with_reducible rfl
      try simp only [Act.put, List.setIfInBounds_toArray, List.set_cons_zero, List.set_cons_succ]
      refine wpAnyH_take (i := 1) (oi := ⟨some 12, _, _, _, _, _⟩) (v := ?_) rfl (by kernel_rfl) (by kernel_rfl) (by kernel_rfl) (fun _ _ _ h => h) (Or.inl ⟨by rfl, ?_⟩) hHeld ?_
      rotate_left
      · intro w hSw
        (try dsimp only at hSw)
        obtain ⟨s0, s1, s2, s3⟩ := hSw
        first | (go_simp; done) | (go_simp; with_reducible rfl) | with_reducible rfl
      try simp only [Act.put, List.setIfInBounds_toArray, List.set_cons_zero, List.set_cons_succ]
      refine wpAnyH_take (i := 2) (oi := ⟨some 13, _, _, _, _, _⟩) (v := ?_) rfl (by kernel_rfl) (by kernel_rfl) (by kernel_rfl) (fun _ _ _ h => h) (Or.inl ⟨by rfl, ?_⟩) hHeld ?_
      rotate_left
      · intro w hSw
        (try dsimp only at hSw)
        obtain ⟨s0, s1, s2, s3⟩ := hSw
        first | (go_simp; done) | (go_simp; with_reducible rfl) | with_reducible rfl
      try simp only [Act.put, List.setIfInBounds_toArray, List.set_cons_zero, List.set_cons_succ]
      refine wpAnyH_take (i := 3) (oi := ⟨some 14, _, _, _, _, _⟩) (v := ?_) rfl (by kernel_rfl) (by kernel_rfl) (by kernel_rfl) (fun _ _ _ h => h) (Or.inl ⟨by rfl, ?_⟩) hHeld ?_
      rotate_left
      · intro w hSw
        (try dsimp only at hSw)
        obtain ⟨s0, s1, s2, s3⟩ := hSw
        first | (go_simp; done) | (go_simp; with_reducible rfl) | with_reducible rfl
      try simp only [Act.put, List.setIfInBounds_toArray, List.set_cons_zero, List.set_cons_succ]
      refine wpAnyH_ready (rs := [4]) (by kernel_rfl) (by simp) ?_
      refine AllReadyH.cons (o := ⟨some 15, _, _, _, _, _⟩) rfl (fun K hK => ?_) AllReadyH.nil
      go_simp
      refine HIH.out.mono ?_
      intro e w3 hQ
      rcases hq : Fm.impG (Fm.pP n) j (d + 1) r.tail with ⟨ka, aa⟩ | ⟨g2, r2⟩
      · rw [hq] at hQ
        obtain ⟨rfl, hk3⟩ := hQ
        refine ⟨rfl, ?_⟩
        rw [HIE.out, hq]
        exact ⟨rfl, HKK.out.trans hk3⟩
      rw [hq] at hQ
      obtain ⟨v2, rfl, hG2, hR3, hk3⟩ := hQ
      obtain ⟨k2, s2, l2, A2, n2, c2, rfl⟩ := hG2.four
      have hbx3 := hk3.blkOf hbxd hg5R
      have hF3 := hFd.rk (fun b hb => ⟨hb.2, by have := hb.1; omega⟩) hk3
      have hb03 := hk3.blkOf hb0d hg0R
      have hkT := HKK.out.trans hk3
      have hw3d : w2.heap.size ≤ w3.heap.size := hk3.size
      have HFI : Hid (Fm.impG (Fm.pP n) (j + 1) d ts = .ok (Fm.two 7 f g2, r2)) := by unfold Hid; rw [HIE.out, hq]
      clear hq
      refine hK.out _ _ ?_ (fun hHeld => ?_)
      · exact ⟨hbx3.cell 0, hbx3.cell 1, hbx3.cell 2, hbx3.cell 3⟩
      clear hK K
      try simp only [Act.put, List.setIfInBounds_toArray, List.set_cons_zero, List.set_cons_succ]
      refine wpAnyH_ready (rs := [5]) (by kernel_rfl) (by simp) ?_
      refine AllReadyH.cons (o := ⟨some 16, _, _, _, _, _⟩) rfl (fun K hK => ?_) AllReadyH.nil
      go_simp
      have hb8 : Blk (w3.alloc (Obj.cells #[.int .i64 k1, .string s1, .int .i64 l1, .slice A1 n1 c1, .int .i64 k2, .string s2, .int .i64 l2, .slice A2 n2 c2] 24)) w3.heap.size 24 #[.int .i64 k1, .string s1, .int .i64 l1, .slice A1 n1 c1, .int .i64 k2, .string s2, .int .i64 l2, .slice A2 n2 c2] := Blk.new w3 24 #[.int .i64 k1, .string s1, .int .i64 l1, .slice A1 n1 c1, .int .i64 k2, .string s2, .int .i64 l2, .slice A2 n2 c2]
      have lo4 := lowAlloc w3 (Obj.cells #[.int .i64 k1, .string s1, .int .i64 l1, .slice A1 n1 c1, .int .i64 k2, .string s2, .int .i64 l2, .slice A2 n2 c2] 24)
      have hR4 := hR3.below lo4
      have hF4 := hF3.low (fun b hb => Nat.lt_of_lt_of_le hb.2 hw3d) lo4
      have hG4 := hG2.low (fun b hb => hb.2) lo4
      have hbx4 := hbx3.below lo4 hbx3.lt
      have hb04 := hb03.below lo4 hb03.lt
      have hk4 := hkT.below lo4
      have hw4 : w3.heap.size < (w3.alloc (Obj.cells #[.int .i64 k1, .string s1, .int .i64 l1, .slice A1 n1 c1, .int .i64 k2, .string s2, .int .i64 l2, .slice A2 n2 c2] 24)).heap.size := by simp
      generalize w3.alloc (Obj.cells #[.int .i64 k1, .string s1, .int .i64 l1, .slice A1 n1 c1, .int .i64 k2, .string s2, .int .i64 l2, .slice A2 n2 c2] 24) = W4 at *
      clear hR3 hF3 hG2 hbx3 hb03 hkT lo4
      refine hK.out _ _ ?_ (fun hHeld => ?_)
      · exact ⟨hbx4.cell 0, hbx4.cell 1, hbx4.cell 2, hbx4.cell 3⟩
      clear hK K
      try simp only [Act.put, List.setIfInBounds_toArray, List.set_cons_zero, List.set_cons_succ]
      refine wpAnyH_ready (rs := [6]) (by kernel_rfl) (by simp) ?_
      refine AllReadyH.cons (o := ⟨some 17, _, _, _, _, _⟩) rfl (fun K hK => ?_) AllReadyH.nil
      go_simp
      refine (of_any 7 _ 2 2 W4).mono ?_
      rintro e w5 ⟨rfl, hb5⟩
      have hb85 := hb8.below hb5 hb8.lt
      have hR5 := hR4.below hb5
      have hF5 := hF4.low (fun b hb => by have h2 : b < w2.heap.size := hb.2; omega) hb5
      have hG5 := hG4.low (fun b hb => by have := hb.2; omega) hb5
      have hbx5 := hbx4.below hb5 hbx4.lt
      have hb05 := hb04.below hb5 hb04.lt
      have hk5 := hk4.below hb5
      have hw5 : W4.heap.size ≤ w5.heap.size := hb5.size
      have u0 := hb05.cell 0
      have u1 := hb05.cell 1
      have u2 := hb05.cell 2
      have u3 := hb05.cell 3
      simp only [List.getElem?_toArray, List.getElem?_cons_zero, List.getElem?_cons_succ] at u0 u1 u2 u3
      have q0 := hb05.frozen 0
      have q1 := hb05.frozen 1
      have q2 := hb05.frozen 2
      have q3 := hb05.frozen 3
      clear hb8 hR4 hF4 hG4 hbx4 hb04 hk4 hb5
      refine hK.out _ _ ?_ (fun hHeld => ?_)
      · exact ⟨hbx5.cell 0, hbx5.cell 1, hbx5.cell 2, hbx5.cell 3⟩
      clear hK K
      try simp only [Act.put, List.setIfInBounds_toArray, List.set_cons_zero, List.set_cons_succ]
      refine wpAnyH_ready (rs := [7]) (by kernel_rfl) (by simp) ?_
      refine AllReadyH.cons (o := ⟨none, _, _, _, _, _⟩) rfl (fun K hK => ?_) AllReadyH.nil
      go_simp
      have hFL : FL w5 (Fr W.heap.size w5.heap.size) [f, g2] (some ⟨w3.heap.size, 0, none⟩) 0 :=
        FL.two hb85 ⟨by omega, by omega⟩ (hF5.more (fun b hb => ⟨hb.1, by have h2 : b < w2.heap.size := hb.2; omega⟩)) (hG5.more (fun b hb => by have h1 : w2.heap.size ≤ b := hb.1; have h2 := hb.2; exact ⟨by omega, by omega⟩))
      have hF0 : FV w5 (Fr W.heap.size w5.heap.size) (Fm.two 7 f g2) (.agg #[.int .i64 7, .string ⟨#[]⟩, .int .i64 0, .slice (some ⟨w3.heap.size, 0, none⟩) 2 2]) := FV.mk hFL
      have hKn : ¬ (W.heap.size ≤ w.heap.size ∧ w.heap.size < w5.heap.size) := by omega
      have hF9 := ((((hF0.far (p := ⟨w.heap.size, 0, none⟩) hKn (.int .i64 7)).far (p := ⟨w.heap.size, 1, none⟩) hKn (.string ⟨#[]⟩)).far (p := ⟨w.heap.size, 2, none⟩) hKn (.int .i64 0)).far (p := ⟨w.heap.size, 3, none⟩) hKn (.slice (some ⟨w3.heap.size, 0, none⟩) 2 2)).more (K' := Fr w.heap.size (((((w5).setCell ⟨w.heap.size, 0, none⟩ (.int .i64 7)).setCell ⟨w.heap.size, 1, none⟩ (.string ⟨#[]⟩)).setCell ⟨w.heap.size, 2, none⟩ (.int .i64 0)).setCell ⟨w.heap.size, 3, none⟩ (.slice (some ⟨w3.heap.size, 0, none⟩) 2 2)).heap.size) (fun b hb => ⟨by have := hb.1; omega, by have := hb.2; simp; omega⟩)
      have hRg : R < w.heap.size := hR0
      have hR9 : PR (((((w5).setCell ⟨w.heap.size, 0, none⟩ (.int .i64 7)).setCell ⟨w.heap.size, 1, none⟩ (.string ⟨#[]⟩)).setCell ⟨w.heap.size, 2, none⟩ (.int .i64 0)).setCell ⟨w.heap.size, 3, none⟩ (.slice (some ⟨w3.heap.size, 0, none⟩) 2 2)) R r2 := (((hR5.far (p := ⟨w.heap.size, 0, none⟩) hRg _).far (p := ⟨w.heap.size, 1, none⟩) hRg _).far (p := ⟨w.heap.size, 2, none⟩) hRg _).far (p := ⟨w.heap.size, 3, none⟩) hRg _
      have hk9 : RKeep R w (((((w5).setCell ⟨w.heap.size, 0, none⟩ (.int .i64 7)).setCell ⟨w.heap.size, 1, none⟩ (.string ⟨#[]⟩)).setCell ⟨w.heap.size, 2, none⟩ (.int .i64 0)).setCell ⟨w.heap.size, 3, none⟩ (.slice (some ⟨w3.heap.size, 0, none⟩) 2 2)) := (((hk5.far (p := ⟨w.heap.size, 0, none⟩) (Nat.le_refl _) _).far (p := ⟨w.heap.size, 1, none⟩) (Nat.le_refl _) _).far (p := ⟨w.heap.size, 2, none⟩) (Nat.le_refl _) _).far (p := ⟨w.heap.size, 3, none⟩) (Nat.le_refl _) _
      have hng : g5 ≠ w.heap.size := by omega
      have hbx9 : Blk (((((w5).setCell ⟨w.heap.size, 0, none⟩ (.int .i64 7)).setCell ⟨w.heap.size, 1, none⟩ (.string ⟨#[]⟩)).setCell ⟨w.heap.size, 2, none⟩ (.int .i64 0)).setCell ⟨w.heap.size, 3, none⟩ (.slice (some ⟨w3.heap.size, 0, none⟩) 2 2)) g5 24 #[.int .i64 k1, .string s1, .int .i64 l1, .slice A1 n1 c1] := (((hbx5.far (p := ⟨w.heap.size, 0, none⟩) hng _).far (p := ⟨w.heap.size, 1, none⟩) hng _).far (p := ⟨w.heap.size, 2, none⟩) hng _).far (p := ⟨w.heap.size, 3, none⟩) hng _
      have hC9 : Blk (((((w5).setCell ⟨w.heap.size, 0, none⟩ (.int .i64 7)).setCell ⟨w.heap.size, 1, none⟩ (.string ⟨#[]⟩)).setCell ⟨w.heap.size, 2, none⟩ (.int .i64 0)).setCell ⟨w.heap.size, 3, none⟩ (.slice (some ⟨w3.heap.size, 0, none⟩) 2 2)) w.heap.size 24 #[.int .i64 7, .string ⟨#[]⟩, .int .i64 0, .slice (some ⟨w3.heap.size, 0, none⟩) 2 2] := by simpa using (((hb05.put 0 (.int .i64 7)).put 1 (.string ⟨#[]⟩)).put 2 (.int .i64 0)).put 3 (.slice (some ⟨w3.heap.size, 0, none⟩) 2 2)
      generalize ((((w5).setCell ⟨w.heap.size, 0, none⟩ (.int .i64 7)).setCell ⟨w.heap.size, 1, none⟩ (.string ⟨#[]⟩)).setCell ⟨w.heap.size, 2, none⟩ (.int .i64 0)).setCell ⟨w.heap.size, 3, none⟩ (.slice (some ⟨w3.heap.size, 0, none⟩) 2 2) = V9 at *
      clear hFL hF0 hKn hb85 hR5 hF5 hG5 hbx5 hb05 hk5 u0 u1 u2 u3 q0 q1 q2 q3
      refine hK.out _ _ ?_ (fun hHeld => ?_)
      · exact ⟨hbx9.cell 0, hbx9.cell 1, hbx9.cell 2, hbx9.cell 3⟩
      clear hK K
      try simp only [Act.put, List.setIfInBounds_toArray, List.set_cons_zero, List.set_cons_succ]
      refine wpAnyH_done (by kernel_rfl) ?_ _
      have HC9 := Lib.hid hC9
      have HR9 := Lib.hid hR9
      have HK9 := Lib.hid hk9
      have HF9 := Lib.hid hF9
      clear hC9 hR9 hk9 hF9 hbx9
      go_wp2
      have t0 := HC9.out.cell 0
      have t1 := HC9.out.cell 1
      have t2 := HC9.out.cell 2
      have t3 := HC9.out.cell 3
      simp only [List.getElem?_toArray, List.getElem?_cons_zero, List.getElem?_cons_succ] at t0 t1 t2 t3
      refine bodyPost_ret (v := .agg #[.int .i64 7, .string ⟨#[]⟩, .int .i64 0, .slice (some ⟨w3.heap.size, 0, none⟩) 2 2]) (by simp [results, Tryd.results84, go_sem, t0, t1, t2, t3]) rfl ?_
      rw [HFI.out]
      exact ⟨_, rfl, HF9.out, HR9.out, HK9.out⟩
    · rw [takeT_no e] at hR3
      have dd : decide (Fm.hdT r = [45, 62]) = false := decide_eq_false e
      rw [dd]
      have HQE : Hid (Fm.impG (Fm.pP n) (j + 1) d ts = .ok (f, r)) := by unfold Hid; rw [HIE.out, if_neg e]
      have y0 := hbx2.cell 0
      have y1 := hbx2.cell 1
      have y2 := hbx2.cell 2
      have y3 := hbx2.cell 3
      simp only [List.getElem?_toArray, List.getElem?_cons_zero, List.getElem?_cons_succ] at y0 y1 y2 y3
      have hF := hF3
      have hR := hR3
      have hk := hkk
      have hb := hb03
      clear e dd HIE IH hR3 hk2 hkk hkA hb02 hb03 hF2 hF3 hbx hbx2
      have hRg : R < w.heap.size := hR0
      have hKn : ¬ (W.heap.size ≤ w.heap.size ∧ w.heap.size < w2.heap.size) := by omega
      have hF1 : FV w2 (Fr W.heap.size w2.heap.size) _ (.agg #[.int .i64 k1, .string s1, .int .i64 l1, .slice A1 n1 c1]) := hF
      have hF9 := (((hF1.far (p := ⟨w.heap.size, 0, none⟩) hKn (.int .i64 k1)).far (p := ⟨w.heap.size, 1, none⟩) hKn (.string s1)).far (p := ⟨w.heap.size, 2, none⟩) hKn (.int .i64 l1)).far (p := ⟨w.heap.size, 3, none⟩) hKn (.slice A1 n1 c1)
      have hF9b := hF9.more (K' := Fr w.heap.size (((((w2).setCell ⟨w.heap.size, 0, none⟩ (.int .i64 k1)).setCell ⟨w.heap.size, 1, none⟩ (.string s1)).setCell ⟨w.heap.size, 2, none⟩ (.int .i64 l1)).setCell ⟨w.heap.size, 3, none⟩ (.slice A1 n1 c1)).heap.size) (fun b hb => ⟨by have := hb.1; omega, by have := hb.2; simp; omega⟩)
      have hR9 : PR (((((w2).setCell ⟨w.heap.size, 0, none⟩ (.int .i64 k1)).setCell ⟨w.heap.size, 1, none⟩ (.string s1)).setCell ⟨w.heap.size, 2, none⟩ (.int .i64 l1)).setCell ⟨w.heap.size, 3, none⟩ (.slice A1 n1 c1)) R _ := (((hR.far (p := ⟨w.heap.size, 0, none⟩) hRg _).far (p := ⟨w.heap.size, 1, none⟩) hRg _).far (p := ⟨w.heap.size, 2, none⟩) hRg _).far (p := ⟨w.heap.size, 3, none⟩) hRg _
      have hk9 : RKeep R w (((((w2).setCell ⟨w.heap.size, 0, none⟩ (.int .i64 k1)).setCell ⟨w.heap.size, 1, none⟩ (.string s1)).setCell ⟨w.heap.size, 2, none⟩ (.int .i64 l1)).setCell ⟨w.heap.size, 3, none⟩ (.slice A1 n1 c1)) := (((hk.far (p := ⟨w.heap.size, 0, none⟩) (Nat.le_refl _) _).far (p := ⟨w.heap.size, 1, none⟩) (Nat.le_refl _) _).far (p := ⟨w.heap.size, 2, none⟩) (Nat.le_refl _) _).far (p := ⟨w.heap.size, 3, none⟩) (Nat.le_refl _) _
      have hC9 : Blk (((((w2).setCell ⟨w.heap.size, 0, none⟩ (.int .i64 k1)).setCell ⟨w.heap.size, 1, none⟩ (.string s1)).setCell ⟨w.heap.size, 2, none⟩ (.int .i64 l1)).setCell ⟨w.heap.size, 3, none⟩ (.slice A1 n1 c1)) w.heap.size 24 #[.int .i64 k1, .string s1, .int .i64 l1, .slice A1 n1 c1] := by simpa using (((hb.put 0 (.int .i64 k1)).put 1 (.string s1)).put 2 (.int .i64 l1)).put 3 (.slice A1 n1 c1)
      have HC9 := Lib.hid hC9
      have HR9 := Lib.hid hR9
      have HK9 := Lib.hid hk9
      have HF9 := Lib.hid hF9b
      have r0 := hb.cell 0
      have r1 := hb.cell 1
      have r2 := hb.cell 2
      have r3 := hb.cell 3
      simp only [List.getElem?_toArray, List.getElem?_cons_zero, List.getElem?_cons_succ] at r0 r1 r2 r3
      have q0 := hb.frozen 0
      have q1 := hb.frozen 1
      have q2 := hb.frozen 2
      have q3 := hb.frozen 3
      clear hF hF1 hF9 hF9b hR hR9 hk hk9 hC9 hb hKn
      go_wp2
      clear r0 r1 r2 r3 q0 q1 q2 q3
      generalize ((((w2).setCell ⟨w.heap.size, 0, none⟩ (.int .i64 k1)).setCell ⟨w.heap.size, 1, none⟩ (.string s1)).setCell ⟨w.heap.size, 2, none⟩ (.int .i64 l1)).setCell ⟨w.heap.size, 3, none⟩ (.slice A1 n1 c1) = V9 at *
      have t0 := HC9.out.cell 0
      have t1 := HC9.out.cell 1
      have t2 := HC9.out.cell 2
      have t3 := HC9.out.cell 3
      simp only [List.getElem?_toArray, List.getElem?_cons_zero, List.getElem?_cons_succ] at t0 t1 t2 t3
      refine bodyPost_ret (v := .agg #[.int .i64 k1, .string s1, .int .i64 l1, .slice A1 n1 c1]) (by simp [results, Tryd.results84, go_sem, t0, t1, t2, t3]) rfl ?_
      rw [HQE.out]
      exact ⟨_, rfl, HF9.out, HR9.out, HK9.out⟩
set_option maxRecDepth 10000 in
set_option maxHeartbeats 4000000 in
theorem formula_any (R n : Nat) (HP : PrimC R n) (d : Nat) (ts : List Tk.Tok) (w : World) (hn : ts.length ≤ n) (hd : d + ts.length ≤ 1000000) (h : PR w R ts) :
    Calls Tryd.prog 74 #[.pointer (some ⟨R, 0, none⟩), .int .i64 (d : Int)] w (ResP R w (Fm.wholeG (Fm.pP n) d ts)) := by
  have hR0 := h.lt
  have lo := lowAlloc w (Obj.cells #[.int .i64 0, .string ⟨#[]⟩, .int .i64 0, .slice none 0 0] 24)
  have hk0 := (RKeep.refl R w).below lo
  have hb0 := Blk.new w 24 #[.int .i64 0, .string ⟨#[]⟩, .int .i64 0, .slice none 0 0]
  have h1 := h.below lo
  have hg0R : w.heap.size ≠ R := by omega
  clear h lo
  go_enter Tryd.func74, Tryd.ntmps74
  go_upto_region 1 with fail
  generalize w.alloc (Obj.cells #[.int .i64 0, .string ⟨#[]⟩, .int .i64 0, .slice none 0 0] 24) = W at *
  have hWw : w.heap.size < W.heap.size := hb0.lt
  have HCH := Lib.hid (show Calls Tryd.prog 83 _ W (ResP R W (Fm.wholeG (Fm.pP n) d ts)) from chain_any R 84 [60, 45, 62] (by decide) 8 (d : Int) (fun ts => Fm.impG (Fm.pP n) (ts.length + 1) d ts) (fun ts f r hq => Fm.imp_eats (Fm.pP_eats n) _ d _ _ _ hq) ts W h1 call_imply (fun us V hl hV => imply_any R n HP (us.length + 1) d us V (by omega) (by omega) (by omega) hV))
  have hmf : ∀ (fn : Fn) (first cap : Array Value) (w : World), (Instr.makeFunc fn first cap).run Tryd.prog w = .ok (.func fn first cap) w := fun _ _ _ _ => rfl
  go_wp2_with fail
  refine (HCH.out).mono ?_
  intro e w1 hQ
  rcases hq : Fm.wholeG (Fm.pP n) d ts with ⟨ka, aa⟩ | ⟨f, r⟩
  · rw [hq] at hQ
    obtain ⟨rfl, hk1⟩ := hQ
    exact ⟨rfl, rfl, hk0.trans hk1⟩
  rw [hq] at hQ
  obtain ⟨v, rfl, hF, hR, hk1⟩ := hQ
  obtain ⟨k1, s1, l1, A1, n1, c1, rfl⟩ := hF.four
  have HQE := Lib.hid hq
  clear hq
  have hk := hk0.trans hk1
  have hb := hk1.blkOf hb0 hg0R
  have hlo : W.heap.size ≤ W.heap.size := Nat.le_refl _
  have hRg : R < w.heap.size := hR0
  have hKn : ¬ (W.heap.size ≤ w.heap.size ∧ w.heap.size < w1.heap.size) := by omega
  have hF1 : FV w1 (Fr W.heap.size w1.heap.size) _ (.agg #[.int .i64 k1, .string s1, .int .i64 l1, .slice A1 n1 c1]) := hF
  have hF9 := (((hF1.far (p := ⟨w.heap.size, 0, none⟩) hKn (.int .i64 k1)).far (p := ⟨w.heap.size, 1, none⟩) hKn (.string s1)).far (p := ⟨w.heap.size, 2, none⟩) hKn (.int .i64 l1)).far (p := ⟨w.heap.size, 3, none⟩) hKn (.slice A1 n1 c1)
  have hF9b := hF9.more (K' := Fr w.heap.size (((((w1).setCell ⟨w.heap.size, 0, none⟩ (.int .i64 k1)).setCell ⟨w.heap.size, 1, none⟩ (.string s1)).setCell ⟨w.heap.size, 2, none⟩ (.int .i64 l1)).setCell ⟨w.heap.size, 3, none⟩ (.slice A1 n1 c1)).heap.size) (fun b hb => ⟨by have := hb.1; omega, by have := hb.2; simp; omega⟩)
  have hR9 : PR (((((w1).setCell ⟨w.heap.size, 0, none⟩ (.int .i64 k1)).setCell ⟨w.heap.size, 1, none⟩ (.string s1)).setCell ⟨w.heap.size, 2, none⟩ (.int .i64 l1)).setCell ⟨w.heap.size, 3, none⟩ (.slice A1 n1 c1)) R _ := (((hR.far (p := ⟨w.heap.size, 0, none⟩) hRg _).far (p := ⟨w.heap.size, 1, none⟩) hRg _).far (p := ⟨w.heap.size, 2, none⟩) hRg _).far (p := ⟨w.heap.size, 3, none⟩) hRg _
  have hk9 : RKeep R w (((((w1).setCell ⟨w.heap.size, 0, none⟩ (.int .i64 k1)).setCell ⟨w.heap.size, 1, none⟩ (.string s1)).setCell ⟨w.heap.size, 2, none⟩ (.int .i64 l1)).setCell ⟨w.heap.size, 3, none⟩ (.slice A1 n1 c1)) := (((hk.far (p := ⟨w.heap.size, 0, none⟩) (Nat.le_refl _) _).far (p := ⟨w.heap.size, 1, none⟩) (Nat.le_refl _) _).far (p := ⟨w.heap.size, 2, none⟩) (Nat.le_refl _) _).far (p := ⟨w.heap.size, 3, none⟩) (Nat.le_refl _) _
  have hC9 : Blk (((((w1).setCell ⟨w.heap.size, 0, none⟩ (.int .i64 k1)).setCell ⟨w.heap.size, 1, none⟩ (.string s1)).setCell ⟨w.heap.size, 2, none⟩ (.int .i64 l1)).setCell ⟨w.heap.size, 3, none⟩ (.slice A1 n1 c1)) w.heap.size 24 #[.int .i64 k1, .string s1, .int .i64 l1, .slice A1 n1 c1] := by simpa using (((hb.put 0 (.int .i64 k1)).put 1 (.string s1)).put 2 (.int .i64 l1)).put 3 (.slice A1 n1 c1)
  have HC9 := Lib.hid hC9
  have HR9 := Lib.hid hR9
  have HK9 := Lib.hid hk9
  have HF9 := Lib.hid hF9b
  have r0 := hb.cell 0
  have r1 := hb.cell 1
  have r2 := hb.cell 2
  have r3 := hb.cell 3
  simp only [List.getElem?_toArray, List.getElem?_cons_zero, List.getElem?_cons_succ] at r0 r1 r2 r3
  have q0 := hb.frozen 0
  have q1 := hb.frozen 1
  have q2 := hb.frozen 2
  have q3 := hb.frozen 3
  clear hF hF1 hF9 hF9b hR hR9 hk hk9 hC9 hb hKn
  go_wp2
  clear r0 r1 r2 r3 q0 q1 q2 q3
  generalize ((((w1).setCell ⟨w.heap.size, 0, none⟩ (.int .i64 k1)).setCell ⟨w.heap.size, 1, none⟩ (.string s1)).setCell ⟨w.heap.size, 2, none⟩ (.int .i64 l1)).setCell ⟨w.heap.size, 3, none⟩ (.slice A1 n1 c1) = V9 at *
  have t0 := HC9.out.cell 0
  have t1 := HC9.out.cell 1
  have t2 := HC9.out.cell 2
  have t3 := HC9.out.cell 3
  simp only [List.getElem?_toArray, List.getElem?_cons_zero, List.getElem?_cons_succ] at t0 t1 t2 t3
  refine bodyPost_ret (v := .agg #[.int .i64 k1, .string s1, .int .i64 l1, .slice A1 n1 c1]) (by simp [results, Tryd.results74, go_sem, t0, t1, t2, t3]) rfl ?_
  rw [HQE.out]
  exact ⟨_, rfl, HF9.out, HR9.out, HK9.out⟩
end Go.Proofs.YtlddnejjpekgeaaDoor
