/- The reader of formulas: parts with a sign between. -/
import Derived.Test.YtlddnejjpekgeaaDoorQal
set_option linter.unusedSimpArgs false
set_option linter.unusedVariables false
namespace Go.Proofs.YtlddnejjpekgeaaDoor
open Go.RowKit

/-- How many tokens are left, as the box has it. -/
def tokLeft (w : World) (R : Nat) : Nat := match w.cell? ⟨R, 0, none⟩ with | some (.slice _ n _) => n | _ => 0
theorem PR.left {w : World} {R : Nat} {ts : List Tk.Tok} (h : PR w R ts) : tokLeft w R = ts.length := by
  obtain ⟨b, off, cap, hb, _⟩ := h
  have c0 := hb.cell 0
  simp only [List.getElem?_toArray, List.getElem?_cons_zero] at c0
  unfold tokLeft
  rw [c0]
/-- Two formulas side by side in a new row. -/
theorem FL.two {w : World} {K : Nat → Prop} {g : Nat} {f1 f2 : Fm.F} {a0 a1 a2 a3 b0 b1 b2 b3 : Value} (hb : Blk w g 24 #[a0, a1, a2, a3, b0, b1, b2, b3]) (hg : K g) (h1 : FV w K f1 (.agg #[a0, a1, a2, a3])) (h2 : FV w K f2 (.agg #[b0, b1, b2, b3])) : FL w K [f1, f2] (some ⟨g, 0, none⟩) 0 := by
  have k0 := hb.cell 0
  have k1 := hb.cell 1
  have k2 := hb.cell 2
  have k3 := hb.cell 3
  have k4 := hb.cell 4
  have k5 := hb.cell 5
  have k6 := hb.cell 6
  have k7 := hb.cell 7
  simp only [List.getElem?_toArray, List.getElem?_cons_zero, List.getElem?_cons_succ] at k0 k1 k2 k3 k4 k5 k6 k7
  exact FL.cons hg k0 k1 k2 k3 h1 (FL.cons hg k4 k5 k6 k7 h2 (FL.nil _ _ _ _))
theorem FL.one {w : World} {K : Nat → Prop} {g : Nat} {f1 : Fm.F} {a0 a1 a2 a3 : Value} (hb : Blk w g 24 #[a0, a1, a2, a3]) (hg : K g) (h1 : FV w K f1 (.agg #[a0, a1, a2, a3])) : FL w K [f1] (some ⟨g, 0, none⟩) 0 := by
  have k0 := hb.cell 0
  have k1 := hb.cell 1
  have k2 := hb.cell 2
  have k3 := hb.cell 3
  simp only [List.getElem?_toArray, List.getElem?_cons_zero, List.getElem?_cons_succ] at k0 k1 k2 k3
  exact FL.cons hg k0 k1 k2 k3 h1 (FL.nil _ _ _ _)
/-- A formula's value is a struct of four. -/
theorem FV.four {w : World} {K : Nat → Prop} {f : Fm.F} {v : Value} (h : FV w K f v) : ∃ (k : Int) (s : ByteArray) (l : Int) (A : Option Addr) (n c : Nat), v = .agg #[.int .i64 k, .string s, .int .i64 l, .slice A n c] := by
  cases f with
  | mk k nm lit ks =>
    rw [FV] at h
    obtain ⟨A, c, e, _⟩ := h
    exact ⟨k, _, lit, A, ks.length, c, e⟩
set_option maxRecDepth 10000 in
set_option maxHeartbeats 4000000 in
theorem chain_any (R F : Nat) (x : Tk.Bs) (hx : x ≠ []) (k d : Int) (p : List Tk.Tok → Fm.Res) (heat : Fm.Eats p) (ts : List Tk.Tok) (w : World) (h : PR w R ts)
    (hcall : ∀ (args : Array Value) (W : World), (callFunc F args).run Tryd.prog W = .ok (.enter F args) W) (hp : ∀ us V, us.length ≤ ts.length → PR V R us → Calls Tryd.prog F #[.pointer (some ⟨R, 0, none⟩), .int .i64 d] V (ResP R V (p us))) :
    Calls Tryd.prog 83 #[.pointer (some ⟨R, 0, none⟩), .string (bsv x), .int .i64 k, .func (.func F) #[.pointer (some ⟨R, 0, none⟩)] #[], .int .i64 d] w (ResP R w (Fm.chainG x k p ts)) := by
  have hR0 := h.lt
  have lo := lowAlloc w (Obj.cells #[.int .i64 0, .string ⟨#[]⟩, .int .i64 0, .slice none 0 0] 24)
  have hk0 := (RKeep.refl R w).below lo
  have hb0 := Blk.new w 24 #[.int .i64 0, .string ⟨#[]⟩, .int .i64 0, .slice none 0 0]
  have h1 := h.below lo
  have hg0R : w.heap.size ≠ R := by omega
  have HP := Lib.hid hp
  clear hp h lo
  go_enter Tryd.func83, Tryd.ntmps83
  go_upto_region 1 with fail
  generalize w.alloc (Obj.cells #[.int .i64 0, .string ⟨#[]⟩, .int .i64 0, .slice none 0 0] 24) = W at *
  have HP1 := Lib.hid (HP.out ts W (Nat.le_refl _) h1)
  go_wp2_with fail
  refine HP1.out.mono ?_
  intro e w1 hQ
  rcases hq : p ts with ⟨ka, aa⟩ | ⟨f, r⟩
  · rw [hq] at hQ
    obtain ⟨rfl, hk1⟩ := hQ
    refine ⟨rfl, ?_⟩
    unfold Fm.chainG
    rw [hq]
    exact ⟨rfl, hk0.trans hk1⟩
  rw [hq] at hQ
  obtain ⟨v, rfl, hF, hR, hk1⟩ := hQ
  obtain ⟨k1, s1, l1, A1, n1, c1, rfl⟩ := hF.four
  have HC : Hid (Fm.chainG x k p ts = Fm.loopG x k p r.length f r) := by unfold Hid Fm.chainG; rw [hq]
  have hrl : r.length ≤ ts.length := by have := heat _ _ _ hq; omega
  have lo2 := lowAlloc w1 (Obj.cells #[.int .i64 k1, .string s1, .int .i64 l1, .slice A1 n1 c1] 24)
  have hbx := Blk.new w1 24 #[.int .i64 k1, .string s1, .int .i64 l1, .slice A1 n1 c1]
  have hWw : w.heap.size < W.heap.size := hb0.lt
  have hW1 : W.heap.size ≤ w1.heap.size := hk1.size
  have hkA := (hk0.trans hk1).below lo2
  have hF2 := hF.low (fun b hb => hb.2) lo2
  have hR2 := hR.below lo2
  have hb02 := (hk1.blkOf hb0 hg0R).below lo2 (hk1.blkOf hb0 hg0R).lt
  have hg1R : w1.heap.size ≠ R := by omega
  have hsz2 : (w1.alloc (Obj.cells #[.int .i64 k1, .string s1, .int .i64 l1, .slice A1 n1 c1] 24)).heap.size = w1.heap.size + 1 := by simp
  have hF3 : FV (w1.alloc (Obj.cells #[.int .i64 k1, .string s1, .int .i64 l1, .slice A1 n1 c1] 24)) (fun b => W.heap.size ≤ b ∧ b < (w1.alloc (Obj.cells #[.int .i64 k1, .string s1, .int .i64 l1, .slice A1 n1 c1] 24)).heap.size ∧ b ≠ w1.heap.size ∧ b ≠ R) f (.agg #[.int .i64 k1, .string s1, .int .i64 l1, .slice A1 n1 c1]) :=
    hF2.more (fun b hb => ⟨by have := hb.1; omega, by have := hb.2; omega, by have := hb.2; omega, by have := hb.1; omega⟩)
  clear hF2 hF hR hq lo2 HP1 hk1 hb0 hk0 h1 hsz2
  go_upto_region 2 with fail
  generalize w1.alloc (Obj.cells #[.int .i64 k1, .string s1, .int .i64 l1, .slice A1 n1 c1] 24) = W2 at *
  have hg1w : W.heap.size ≤ w1.heap.size := hW1
  generalize w1.heap.size = g1 at *
  generalize hO : Fm.loopG x k p r.length f r = O at *
  have HO := Lib.hid hO
  have HCH : Hid (Fm.chainG x k p ts = O) := HC.out
  clear hO
  go_loopw [] (fun wr => ∃ (g : Fm.F) (us : List Tk.Tok) (m : Nat) (k1 : Int) (s1 : ByteArray) (l1 : Int) (A1 : Option Addr) (n1 c1 : Nat), Blk wr g1 24 #[.int .i64 k1, .string s1, .int .i64 l1, .slice A1 n1 c1] ∧ FV wr (fun b => W.heap.size ≤ b ∧ b < wr.heap.size ∧ b ≠ g1 ∧ b ≠ R) g (.agg #[.int .i64 k1, .string s1, .int .i64 l1, .slice A1 n1 c1]) ∧ PR wr R us ∧ RKeep R w wr ∧ Blk wr w.heap.size 24 #[.int .i64 0, .string ⟨#[]⟩, .int .i64 0, .slice none 0 0] ∧ us.length ≤ m ∧ us.length ≤ ts.length ∧ O = Fm.loopG x k p m g us) (fun wr => tokLeft wr R)
  case atStart => exact ⟨f, r, r.length, k1, s1, l1, A1, n1, c1, hbx, hF3, hR2, hkA, hb02, Nat.le_refl _, hrl, HO.out.symm⟩
  case round =>
    clear hbx hF3 hR2 hkA hb02 HO
    obtain ⟨g, us, m, k1, s1, l1, A1, n1, c1, hbx, hF, hR, hk, hb0, hm, hus, hOm⟩ := hrel
    have HTK := Lib.hid (take_any R x us wr hR hx)
    have HLFT := Lib.hid hR.left
    have HOM := Lib.hid hOm
    clear hOm
    go_wp2_with fail
    refine HTK.out.mono ?_
    rintro e w2 ⟨rfl, hR2, hk2⟩
    clear HTK
    by_cases e : Fm.hdT us = x
    · rw [takeT_yes e] at hR2
      have hln := Fm.tail_len (ts := us) (by rw [e]; exact hx)
      have HLN : Hid (us.tail.length + 1 = us.length) := hln
      obtain ⟨m, rfl⟩ : ∃ m', m = m' + 1 := ⟨m - 1, by omega⟩
      have HOS : Hid (O = match p us.tail with | .error e => .error e | .ok (g2, r2) => Fm.loopG x k p m (Fm.two k g g2) r2) := by
        unfold Hid
        rw [HOM.out, Fm.loopG, if_pos e]
        cases p us.tail with
        | error q => rfl
        | ok q => rfl
      have dd : decide (Fm.hdT us = x) = true := decide_eq_true e
      rw [dd]
      have hbx2 := hk2.blkOf hbx hg1R
      have hw2s : wr.heap.size ≤ w2.heap.size := hk2.size
      have hF2 := (hF.rk (fun b hb => ⟨hb.2.1, hb.2.2.2⟩) hk2).more (K' := fun b => W.heap.size ≤ b ∧ b < w2.heap.size ∧ b ≠ g1 ∧ b ≠ R) (fun b hb => ⟨hb.1, by have := hb.2.1; omega, hb.2.2.1, hb.2.2.2⟩)
      have hb02 := hk2.blkOf hb0 hg0R
      have HG12 := Lib.hid hbx2.lt
      have HKK := Lib.hid (hk.trans hk2).drew
      have hbxd : Blk w2.drew g1 24 #[.int .i64 k1, .string s1, .int .i64 l1, .slice A1 n1 c1] := hbx2
      have hFd : FV w2.drew (fun b => W.heap.size ≤ b ∧ b < w2.drew.heap.size ∧ b ≠ g1 ∧ b ≠ R) g (.agg #[.int .i64 k1, .string s1, .int .i64 l1, .slice A1 n1 c1]) := FV.keep (w := w2) (w' := w2.drew) (fun _ _ => rfl) (fun _ h => h) g _ hF2
      have hb0d : Blk w2.drew w.heap.size 24 #[.int .i64 0, .string ⟨#[]⟩, .int .i64 0, .slice none 0 0] := hb02
      have HP2 := Lib.hid (HP.out us.tail w2.drew (by omega) hR2.drew)
      have y0 := hbx2.cell 0
      have y1 := hbx2.cell 1
      have y2 := hbx2.cell 2
      have y3 := hbx2.cell 3
      simp only [List.getElem?_toArray, List.getElem?_cons_zero, List.getElem?_cons_succ] at y0 y1 y2 y3
      clear e dd hR hk hb0 hF hbx hR2 hk2 hb02 hF2 hbx2
      go_upto_region 3 with fail
      refine wp_region_held_drew (S := (fun _ => True)) (by kernel_rfl) (trivial) (fun hHeld => ?_)
      refine wpAnyH_take (i := 0) (oi := ⟨some 18, _, _, _, _, _⟩) (v := ?_) rfl (by kernel_rfl) (by kernel_rfl) (by kernel_rfl) (fun _ _ _ h => h) (Or.inl ⟨by rfl, ?_⟩) hHeld ?_
      rotate_left
      · intro w hSw
        (try dsimp only at hSw)
        obtain hSw := hSw
        first | (go_simp; done) | (go_simp; with_reducible rfl) | with_reducible rfl
      try simp only [Act.put, List.setIfInBounds_toArray, List.set_cons_zero, List.set_cons_succ]
      refine wpAnyH_take (i := 2) (oi := ⟨some 20, _, _, _, _, _⟩) (v := ?_) rfl (by kernel_rfl) (by kernel_rfl) (by kernel_rfl) (fun _ _ _ h => h) (Or.inl ⟨by rfl, ?_⟩) hHeld ?_
      rotate_left
      · intro w hSw
        (try dsimp only at hSw)
        obtain hSw := hSw
        first | (go_simp; done) | (go_simp; with_reducible rfl) | with_reducible rfl
      try simp only [Act.put, List.setIfInBounds_toArray, List.set_cons_zero, List.set_cons_succ]
      refine wpAnyH_take (i := 3) (oi := ⟨some 21, _, _, _, _, _⟩) (v := ?_) rfl (by kernel_rfl) (by kernel_rfl) (by kernel_rfl) (fun _ _ _ h => h) (Or.inl ⟨by rfl, ?_⟩) hHeld ?_
      rotate_left
      · intro w hSw
        (try dsimp only at hSw)
        obtain hSw := hSw
        first | (go_simp; done) | (go_simp; with_reducible rfl) | with_reducible rfl
      try simp only [Act.put, List.setIfInBounds_toArray, List.set_cons_zero, List.set_cons_succ]
      refine wpAnyH_ready (rs := [1, 4]) (by kernel_rfl) (by simp) ?_
      refine AllReadyH.cons (o := ⟨some 19, _, _, _, _, _⟩) rfl (fun K hK => ?_) ?_
      · skip
        go_simp
        refine hK.out _ _ ?_ (fun hHeld => ?_)
        · exact trivial
        clear hK K
        try simp only [Act.put, List.setIfInBounds_toArray, List.set_cons_zero, List.set_cons_succ]
        refine wpAnyH_ready (rs := [4]) (by kernel_rfl) (by simp) ?_
        refine AllReadyH.cons (o := ⟨some 22, _, _, _, _, _⟩) rfl (fun K hK => ?_) AllReadyH.nil
        go_simp
        refine HP2.out.mono ?_
        intro e w3 hQ
        rcases hq : p us.tail with ⟨ka, aa⟩ | ⟨g2, r2⟩
        · rw [hq] at hQ
          obtain ⟨rfl, hk3⟩ := hQ
          refine ⟨rfl, ?_⟩
          rw [HC.out, HOS.out, hq]
          exact ⟨rfl, HKK.out.trans hk3⟩
        rw [hq] at hQ
        obtain ⟨v2, rfl, hG2, hR3, hk3⟩ := hQ
        obtain ⟨k2, s2, l2, A2, n2, c2, rfl⟩ := hG2.four
        have hbx3 := hk3.blkOf hbxd hg1R
        have z0 := hbx3.cell 0
        have z1 := hbx3.cell 1
        have z2 := hbx3.cell 2
        have z3 := hbx3.cell 3
        simp only [List.getElem?_toArray, List.getElem?_cons_zero, List.getElem?_cons_succ] at z0 z1 z2 z3
        have hF3 := hFd.rk (fun b hb => ⟨hb.2.1, hb.2.2.2⟩) hk3
        have hb03 := hk3.blkOf hb0d hg0R
        have hkT := HKK.out.trans hk3
        have hw3 : g1 < w3.heap.size := hbx3.lt
        have hw3d : w2.heap.size ≤ w3.heap.size := hk3.size
        have HOQ : Hid (O = Fm.loopG x k p m (Fm.two k g g2) r2) := by unfold Hid; rw [HOS.out, hq]
        have hle : r2.length + 1 ≤ us.length := by
          have := heat _ _ _ hq
          have h2 := Fm.cnt_pos g2
          rw [← HLN.out]
          omega
        clear hq
        refine hK.out _ _ ?_ (fun hHeld => ?_)
        · exact trivial
        clear hK K
        try simp only [Act.put, List.setIfInBounds_toArray, List.set_cons_zero, List.set_cons_succ]
        refine wpAnyH_ready (rs := [5]) (by kernel_rfl) (by simp) ?_
        refine AllReadyH.cons (o := ⟨some 23, _, _, _, _, _⟩) rfl (fun K hK => ?_) AllReadyH.nil
        go_simp
        have hb8 : Blk (w3.alloc (Obj.cells #[.int .i64 k1, .string s1, .int .i64 l1, .slice A1 n1 c1, .int .i64 k2, .string s2, .int .i64 l2, .slice A2 n2 c2] 24)) w3.heap.size 24 #[.int .i64 k1, .string s1, .int .i64 l1, .slice A1 n1 c1, .int .i64 k2, .string s2, .int .i64 l2, .slice A2 n2 c2] := Blk.new w3 24 #[.int .i64 k1, .string s1, .int .i64 l1, .slice A1 n1 c1, .int .i64 k2, .string s2, .int .i64 l2, .slice A2 n2 c2]
        have lo4 := lowAlloc w3 (Obj.cells #[.int .i64 k1, .string s1, .int .i64 l1, .slice A1 n1 c1, .int .i64 k2, .string s2, .int .i64 l2, .slice A2 n2 c2] 24)
        have hR4 := hR3.below lo4
        have hF4 := hF3.low (fun b hb => Nat.lt_of_lt_of_le hb.2.1 hw3d) lo4
        have hG4 := hG2.low (fun b hb => hb.2) lo4
        have hbx4 := hbx3.below lo4 hbx3.lt
        have hb04 := hb03.below lo4 hb03.lt
        have hk4 := hkT.below lo4
        have hw4 : w3.heap.size < (w3.alloc (Obj.cells #[.int .i64 k1, .string s1, .int .i64 l1, .slice A1 n1 c1, .int .i64 k2, .string s2, .int .i64 l2, .slice A2 n2 c2] 24)).heap.size := by simp
        generalize w3.alloc (Obj.cells #[.int .i64 k1, .string s1, .int .i64 l1, .slice A1 n1 c1, .int .i64 k2, .string s2, .int .i64 l2, .slice A2 n2 c2] 24) = W4 at *
        clear hR3 hF3 hG2 hbx3 hb03 hkT lo4 z0 z1 z2 z3
        refine hK.out _ _ ?_ (fun hHeld => ?_)
        · exact trivial
        clear hK K
        try simp only [Act.put, List.setIfInBounds_toArray, List.set_cons_zero, List.set_cons_succ]
        refine wpAnyH_ready (rs := [6]) (by kernel_rfl) (by simp) ?_
        refine AllReadyH.cons (o := ⟨some 24, _, _, _, _, _⟩) rfl (fun K hK => ?_) AllReadyH.nil
        go_simp
        refine (of_any k _ 2 2 W4).mono ?_
        rintro e w5 ⟨rfl, hb5⟩
        have hb85 := hb8.below hb5 hb8.lt
        have hR5 := hR4.below hb5
        have hF5 := hF4.low (fun b hb => by have h2 : b < w2.heap.size := hb.2.1; omega) hb5
        have hG5 := hG4.low (fun b hb => by have := hb.2; omega) hb5
        have hbx5 := hbx4.below hb5 hbx4.lt
        have hb05 := hb04.below hb5 hb04.lt
        have hk5 := hk4.below hb5
        have hw5 : W4.heap.size ≤ w5.heap.size := hb5.size
        have hg12 : g1 < w2.heap.size := HG12.out
        have u0 := hbx5.cell 0
        have u1 := hbx5.cell 1
        have u2 := hbx5.cell 2
        have u3 := hbx5.cell 3
        simp only [List.getElem?_toArray, List.getElem?_cons_zero, List.getElem?_cons_succ] at u0 u1 u2 u3
        have q0 := hbx5.frozen 0
        have q1 := hbx5.frozen 1
        have q2 := hbx5.frozen 2
        have q3 := hbx5.frozen 3
        clear hb8 hR4 hF4 hG4 hbx4 hb04 hk4 hb5
        refine hK.out _ _ ?_ (fun hHeld => ?_)
        · exact trivial
        clear hK K
        try simp only [Act.put, List.setIfInBounds_toArray, List.set_cons_zero, List.set_cons_succ]
        refine wpAnyH_ready (rs := [7]) (by kernel_rfl) (by simp) ?_
        refine AllReadyH.cons (o := ⟨none, _, _, _, _, _⟩) rfl (fun K hK => ?_) AllReadyH.nil
        go_simp
        have hFL : FL w5 (fun b => W.heap.size ≤ b ∧ b < w5.heap.size ∧ b ≠ g1 ∧ b ≠ R) [g, g2] (some ⟨w3.heap.size, 0, none⟩) 0 :=
          FL.two hb85 ⟨by omega, by omega, by omega, by omega⟩ (hF5.more (fun b hb => ⟨hb.1, by have h2 : b < w2.heap.size := hb.2.1; omega, hb.2.2.1, hb.2.2.2⟩)) (hG5.more (fun b hb => by have h1 : w2.heap.size ≤ b := hb.1; have h2 := hb.2; exact ⟨by omega, by omega, by omega, by omega⟩))
        have hset : ∀ p : Addr, (W.heap.size ≤ p.block ∧ p.block < w5.heap.size ∧ p.block ≠ g1 ∧ p.block ≠ R) → (((((w5).setCell ⟨g1, 0, none⟩ (.int .i64 k)).setCell ⟨g1, 1, none⟩ (.string ⟨#[]⟩)).setCell ⟨g1, 2, none⟩ (.int .i64 0)).setCell ⟨g1, 3, none⟩ (.slice (some ⟨w3.heap.size, 0, none⟩) 2 2)).cell? p = w5.cell? p := by
          intro p hp
          have hn : p.block ≠ g1 := hp.2.2.1
          rw [cell_far _ _ _ _ hn, cell_far _ _ _ _ hn, cell_far _ _ _ _ hn, cell_far _ _ _ _ hn]
        have hN : FV (((((w5).setCell ⟨g1, 0, none⟩ (.int .i64 k)).setCell ⟨g1, 1, none⟩ (.string ⟨#[]⟩)).setCell ⟨g1, 2, none⟩ (.int .i64 0)).setCell ⟨g1, 3, none⟩ (.slice (some ⟨w3.heap.size, 0, none⟩) 2 2)) (fun b => W.heap.size ≤ b ∧ b < w5.heap.size ∧ b ≠ g1 ∧ b ≠ R) (Fm.two k g g2) (.agg #[.int .i64 k, .string ⟨#[]⟩, .int .i64 0, .slice (some ⟨w3.heap.size, 0, none⟩) 2 2]) := FV.mk (FL.keep hset (fun _ h => h) hFL)
        have hN9 : FV (((((w5).setCell ⟨g1, 0, none⟩ (.int .i64 k)).setCell ⟨g1, 1, none⟩ (.string ⟨#[]⟩)).setCell ⟨g1, 2, none⟩ (.int .i64 0)).setCell ⟨g1, 3, none⟩ (.slice (some ⟨w3.heap.size, 0, none⟩) 2 2)) (fun b => W.heap.size ≤ b ∧ b < (((((w5).setCell ⟨g1, 0, none⟩ (.int .i64 k)).setCell ⟨g1, 1, none⟩ (.string ⟨#[]⟩)).setCell ⟨g1, 2, none⟩ (.int .i64 0)).setCell ⟨g1, 3, none⟩ (.slice (some ⟨w3.heap.size, 0, none⟩) 2 2)).heap.size ∧ b ≠ g1 ∧ b ≠ R) (Fm.two k g g2) (.agg #[.int .i64 k, .string ⟨#[]⟩, .int .i64 0, .slice (some ⟨w3.heap.size, 0, none⟩) 2 2]) := hN.more (fun b hb => ⟨hb.1, by simpa using hb.2.1, hb.2.2⟩)
        have hbx9 : Blk (((((w5).setCell ⟨g1, 0, none⟩ (.int .i64 k)).setCell ⟨g1, 1, none⟩ (.string ⟨#[]⟩)).setCell ⟨g1, 2, none⟩ (.int .i64 0)).setCell ⟨g1, 3, none⟩ (.slice (some ⟨w3.heap.size, 0, none⟩) 2 2)) g1 24 #[.int .i64 k, .string ⟨#[]⟩, .int .i64 0, .slice (some ⟨w3.heap.size, 0, none⟩) 2 2] := by simpa using (((hbx5.put 0 (.int .i64 k)).put 1 (.string ⟨#[]⟩)).put 2 (.int .i64 0)).put 3 (.slice (some ⟨w3.heap.size, 0, none⟩) 2 2)
        have hRg : R < g1 := by omega
        have hR9 : PR (((((w5).setCell ⟨g1, 0, none⟩ (.int .i64 k)).setCell ⟨g1, 1, none⟩ (.string ⟨#[]⟩)).setCell ⟨g1, 2, none⟩ (.int .i64 0)).setCell ⟨g1, 3, none⟩ (.slice (some ⟨w3.heap.size, 0, none⟩) 2 2)) R r2 := (((hR5.far (p := ⟨g1, 0, none⟩) hRg _).far (p := ⟨g1, 1, none⟩) hRg _).far (p := ⟨g1, 2, none⟩) hRg _).far (p := ⟨g1, 3, none⟩) hRg _
        have hwg : w.heap.size ≤ g1 := by omega
        have hk9 : RKeep R w (((((w5).setCell ⟨g1, 0, none⟩ (.int .i64 k)).setCell ⟨g1, 1, none⟩ (.string ⟨#[]⟩)).setCell ⟨g1, 2, none⟩ (.int .i64 0)).setCell ⟨g1, 3, none⟩ (.slice (some ⟨w3.heap.size, 0, none⟩) 2 2)) := (((hk5.far (p := ⟨g1, 0, none⟩) hwg _).far (p := ⟨g1, 1, none⟩) hwg _).far (p := ⟨g1, 2, none⟩) hwg _).far (p := ⟨g1, 3, none⟩) hwg _
        have hng : w.heap.size ≠ g1 := by omega
        have hb09 : Blk (((((w5).setCell ⟨g1, 0, none⟩ (.int .i64 k)).setCell ⟨g1, 1, none⟩ (.string ⟨#[]⟩)).setCell ⟨g1, 2, none⟩ (.int .i64 0)).setCell ⟨g1, 3, none⟩ (.slice (some ⟨w3.heap.size, 0, none⟩) 2 2)) w.heap.size 24 #[.int .i64 0, .string ⟨#[]⟩, .int .i64 0, .slice none 0 0] := (((hb05.far (p := ⟨g1, 0, none⟩) hng _).far (p := ⟨g1, 1, none⟩) hng _).far (p := ⟨g1, 2, none⟩) hng _).far (p := ⟨g1, 3, none⟩) hng _
        generalize ((((w5).setCell ⟨g1, 0, none⟩ (.int .i64 k)).setCell ⟨g1, 1, none⟩ (.string ⟨#[]⟩)).setCell ⟨g1, 2, none⟩ (.int .i64 0)).setCell ⟨g1, 3, none⟩ (.slice (some ⟨w3.heap.size, 0, none⟩) 2 2) = V9 at *
        clear hset hN hFL hbx5 hR5 hk5 hb05 u0 u1 u2 u3 q0 q1 q2 q3
        refine hK.out _ _ ?_ (fun hHeld => ?_)
        · exact trivial
        clear hK K
        try simp only [Act.put, List.setIfInBounds_toArray, List.set_cons_zero, List.set_cons_succ]
        refine wpAnyH_done (by kernel_rfl) ?_ _
        have hms := hR9.left
        go_wp2
        go_roundw
        case rel => exact ⟨Fm.two k g g2, r2, m, k, ⟨#[]⟩, 0, some ⟨w3.heap.size, 0, none⟩, 2, 2, hbx9, hN9, hR9, hk9, hb09, by omega, by omega, HOQ.out⟩
        case measure => (have h1 := HLFT.out; omega)
      refine AllReadyH.cons (o := ⟨some 22, _, _, _, _, _⟩) rfl (fun K hK => ?_) AllReadyH.nil
      go_simp
      refine HP2.out.mono ?_
      intro e w3 hQ
      rcases hq : p us.tail with ⟨ka, aa⟩ | ⟨g2, r2⟩
      · rw [hq] at hQ
        obtain ⟨rfl, hk3⟩ := hQ
        refine ⟨rfl, ?_⟩
        rw [HC.out, HOS.out, hq]
        exact ⟨rfl, HKK.out.trans hk3⟩
      rw [hq] at hQ
      obtain ⟨v2, rfl, hG2, hR3, hk3⟩ := hQ
      obtain ⟨k2, s2, l2, A2, n2, c2, rfl⟩ := hG2.four
      have hbx3 := hk3.blkOf hbxd hg1R
      have z0 := hbx3.cell 0
      have z1 := hbx3.cell 1
      have z2 := hbx3.cell 2
      have z3 := hbx3.cell 3
      simp only [List.getElem?_toArray, List.getElem?_cons_zero, List.getElem?_cons_succ] at z0 z1 z2 z3
      have hF3 := hFd.rk (fun b hb => ⟨hb.2.1, hb.2.2.2⟩) hk3
      have hb03 := hk3.blkOf hb0d hg0R
      have hkT := HKK.out.trans hk3
      have hw3 : g1 < w3.heap.size := hbx3.lt
      have hw3d : w2.heap.size ≤ w3.heap.size := hk3.size
      have HOQ : Hid (O = Fm.loopG x k p m (Fm.two k g g2) r2) := by unfold Hid; rw [HOS.out, hq]
      have hle : r2.length + 1 ≤ us.length := by
        have := heat _ _ _ hq
        have h2 := Fm.cnt_pos g2
        rw [← HLN.out]
        omega
      clear hq
      refine hK.out _ _ ?_ (fun hHeld => ?_)
      · exact trivial
      clear hK K
      try simp only [Act.put, List.setIfInBounds_toArray, List.set_cons_zero, List.set_cons_succ]
      refine wpAnyH_ready (rs := [1]) (by kernel_rfl) (by simp) ?_
      refine AllReadyH.cons (o := ⟨some 19, _, _, _, _, _⟩) rfl (fun K hK => ?_) AllReadyH.nil
      go_simp
      refine hK.out _ _ ?_ (fun hHeld => ?_)
      · exact trivial
      clear hK K
      try simp only [Act.put, List.setIfInBounds_toArray, List.set_cons_zero, List.set_cons_succ]
      refine wpAnyH_ready (rs := [5]) (by kernel_rfl) (by simp) ?_
      refine AllReadyH.cons (o := ⟨some 23, _, _, _, _, _⟩) rfl (fun K hK => ?_) AllReadyH.nil
      go_simp
      have hb8 : Blk (w3.alloc (Obj.cells #[.int .i64 k1, .string s1, .int .i64 l1, .slice A1 n1 c1, .int .i64 k2, .string s2, .int .i64 l2, .slice A2 n2 c2] 24)) w3.heap.size 24 #[.int .i64 k1, .string s1, .int .i64 l1, .slice A1 n1 c1, .int .i64 k2, .string s2, .int .i64 l2, .slice A2 n2 c2] := Blk.new w3 24 #[.int .i64 k1, .string s1, .int .i64 l1, .slice A1 n1 c1, .int .i64 k2, .string s2, .int .i64 l2, .slice A2 n2 c2]
      have lo4 := lowAlloc w3 (Obj.cells #[.int .i64 k1, .string s1, .int .i64 l1, .slice A1 n1 c1, .int .i64 k2, .string s2, .int .i64 l2, .slice A2 n2 c2] 24)
      have hR4 := hR3.below lo4
      have hF4 := hF3.low (fun b hb => Nat.lt_of_lt_of_le hb.2.1 hw3d) lo4
      have hG4 := hG2.low (fun b hb => hb.2) lo4
      have hbx4 := hbx3.below lo4 hbx3.lt
      have hb04 := hb03.below lo4 hb03.lt
      have hk4 := hkT.below lo4
      have hw4 : w3.heap.size < (w3.alloc (Obj.cells #[.int .i64 k1, .string s1, .int .i64 l1, .slice A1 n1 c1, .int .i64 k2, .string s2, .int .i64 l2, .slice A2 n2 c2] 24)).heap.size := by simp
      generalize w3.alloc (Obj.cells #[.int .i64 k1, .string s1, .int .i64 l1, .slice A1 n1 c1, .int .i64 k2, .string s2, .int .i64 l2, .slice A2 n2 c2] 24) = W4 at *
      clear hR3 hF3 hG2 hbx3 hb03 hkT lo4 z0 z1 z2 z3
      refine hK.out _ _ ?_ (fun hHeld => ?_)
      · exact trivial
      clear hK K
      try simp only [Act.put, List.setIfInBounds_toArray, List.set_cons_zero, List.set_cons_succ]
      refine wpAnyH_ready (rs := [6]) (by kernel_rfl) (by simp) ?_
      refine AllReadyH.cons (o := ⟨some 24, _, _, _, _, _⟩) rfl (fun K hK => ?_) AllReadyH.nil
      go_simp
      refine (of_any k _ 2 2 W4).mono ?_
      rintro e w5 ⟨rfl, hb5⟩
      have hb85 := hb8.below hb5 hb8.lt
      have hR5 := hR4.below hb5
      have hF5 := hF4.low (fun b hb => by have h2 : b < w2.heap.size := hb.2.1; omega) hb5
      have hG5 := hG4.low (fun b hb => by have := hb.2; omega) hb5
      have hbx5 := hbx4.below hb5 hbx4.lt
      have hb05 := hb04.below hb5 hb04.lt
      have hk5 := hk4.below hb5
      have hw5 : W4.heap.size ≤ w5.heap.size := hb5.size
      have hg12 : g1 < w2.heap.size := HG12.out
      have u0 := hbx5.cell 0
      have u1 := hbx5.cell 1
      have u2 := hbx5.cell 2
      have u3 := hbx5.cell 3
      simp only [List.getElem?_toArray, List.getElem?_cons_zero, List.getElem?_cons_succ] at u0 u1 u2 u3
      have q0 := hbx5.frozen 0
      have q1 := hbx5.frozen 1
      have q2 := hbx5.frozen 2
      have q3 := hbx5.frozen 3
      clear hb8 hR4 hF4 hG4 hbx4 hb04 hk4 hb5
      refine hK.out _ _ ?_ (fun hHeld => ?_)
      · exact trivial
      clear hK K
      try simp only [Act.put, List.setIfInBounds_toArray, List.set_cons_zero, List.set_cons_succ]
      refine wpAnyH_ready (rs := [7]) (by kernel_rfl) (by simp) ?_
      refine AllReadyH.cons (o := ⟨none, _, _, _, _, _⟩) rfl (fun K hK => ?_) AllReadyH.nil
      go_simp
      have hFL : FL w5 (fun b => W.heap.size ≤ b ∧ b < w5.heap.size ∧ b ≠ g1 ∧ b ≠ R) [g, g2] (some ⟨w3.heap.size, 0, none⟩) 0 :=
        FL.two hb85 ⟨by omega, by omega, by omega, by omega⟩ (hF5.more (fun b hb => ⟨hb.1, by have h2 : b < w2.heap.size := hb.2.1; omega, hb.2.2.1, hb.2.2.2⟩)) (hG5.more (fun b hb => by have h1 : w2.heap.size ≤ b := hb.1; have h2 := hb.2; exact ⟨by omega, by omega, by omega, by omega⟩))
      have hset : ∀ p : Addr, (W.heap.size ≤ p.block ∧ p.block < w5.heap.size ∧ p.block ≠ g1 ∧ p.block ≠ R) → (((((w5).setCell ⟨g1, 0, none⟩ (.int .i64 k)).setCell ⟨g1, 1, none⟩ (.string ⟨#[]⟩)).setCell ⟨g1, 2, none⟩ (.int .i64 0)).setCell ⟨g1, 3, none⟩ (.slice (some ⟨w3.heap.size, 0, none⟩) 2 2)).cell? p = w5.cell? p := by
        intro p hp
        have hn : p.block ≠ g1 := hp.2.2.1
        rw [cell_far _ _ _ _ hn, cell_far _ _ _ _ hn, cell_far _ _ _ _ hn, cell_far _ _ _ _ hn]
      have hN : FV (((((w5).setCell ⟨g1, 0, none⟩ (.int .i64 k)).setCell ⟨g1, 1, none⟩ (.string ⟨#[]⟩)).setCell ⟨g1, 2, none⟩ (.int .i64 0)).setCell ⟨g1, 3, none⟩ (.slice (some ⟨w3.heap.size, 0, none⟩) 2 2)) (fun b => W.heap.size ≤ b ∧ b < w5.heap.size ∧ b ≠ g1 ∧ b ≠ R) (Fm.two k g g2) (.agg #[.int .i64 k, .string ⟨#[]⟩, .int .i64 0, .slice (some ⟨w3.heap.size, 0, none⟩) 2 2]) := FV.mk (FL.keep hset (fun _ h => h) hFL)
      have hN9 : FV (((((w5).setCell ⟨g1, 0, none⟩ (.int .i64 k)).setCell ⟨g1, 1, none⟩ (.string ⟨#[]⟩)).setCell ⟨g1, 2, none⟩ (.int .i64 0)).setCell ⟨g1, 3, none⟩ (.slice (some ⟨w3.heap.size, 0, none⟩) 2 2)) (fun b => W.heap.size ≤ b ∧ b < (((((w5).setCell ⟨g1, 0, none⟩ (.int .i64 k)).setCell ⟨g1, 1, none⟩ (.string ⟨#[]⟩)).setCell ⟨g1, 2, none⟩ (.int .i64 0)).setCell ⟨g1, 3, none⟩ (.slice (some ⟨w3.heap.size, 0, none⟩) 2 2)).heap.size ∧ b ≠ g1 ∧ b ≠ R) (Fm.two k g g2) (.agg #[.int .i64 k, .string ⟨#[]⟩, .int .i64 0, .slice (some ⟨w3.heap.size, 0, none⟩) 2 2]) := hN.more (fun b hb => ⟨hb.1, by simpa using hb.2.1, hb.2.2⟩)
      have hbx9 : Blk (((((w5).setCell ⟨g1, 0, none⟩ (.int .i64 k)).setCell ⟨g1, 1, none⟩ (.string ⟨#[]⟩)).setCell ⟨g1, 2, none⟩ (.int .i64 0)).setCell ⟨g1, 3, none⟩ (.slice (some ⟨w3.heap.size, 0, none⟩) 2 2)) g1 24 #[.int .i64 k, .string ⟨#[]⟩, .int .i64 0, .slice (some ⟨w3.heap.size, 0, none⟩) 2 2] := by simpa using (((hbx5.put 0 (.int .i64 k)).put 1 (.string ⟨#[]⟩)).put 2 (.int .i64 0)).put 3 (.slice (some ⟨w3.heap.size, 0, none⟩) 2 2)
      have hRg : R < g1 := by omega
      have hR9 : PR (((((w5).setCell ⟨g1, 0, none⟩ (.int .i64 k)).setCell ⟨g1, 1, none⟩ (.string ⟨#[]⟩)).setCell ⟨g1, 2, none⟩ (.int .i64 0)).setCell ⟨g1, 3, none⟩ (.slice (some ⟨w3.heap.size, 0, none⟩) 2 2)) R r2 := (((hR5.far (p := ⟨g1, 0, none⟩) hRg _).far (p := ⟨g1, 1, none⟩) hRg _).far (p := ⟨g1, 2, none⟩) hRg _).far (p := ⟨g1, 3, none⟩) hRg _
      have hwg : w.heap.size ≤ g1 := by omega
      have hk9 : RKeep R w (((((w5).setCell ⟨g1, 0, none⟩ (.int .i64 k)).setCell ⟨g1, 1, none⟩ (.string ⟨#[]⟩)).setCell ⟨g1, 2, none⟩ (.int .i64 0)).setCell ⟨g1, 3, none⟩ (.slice (some ⟨w3.heap.size, 0, none⟩) 2 2)) := (((hk5.far (p := ⟨g1, 0, none⟩) hwg _).far (p := ⟨g1, 1, none⟩) hwg _).far (p := ⟨g1, 2, none⟩) hwg _).far (p := ⟨g1, 3, none⟩) hwg _
      have hng : w.heap.size ≠ g1 := by omega
      have hb09 : Blk (((((w5).setCell ⟨g1, 0, none⟩ (.int .i64 k)).setCell ⟨g1, 1, none⟩ (.string ⟨#[]⟩)).setCell ⟨g1, 2, none⟩ (.int .i64 0)).setCell ⟨g1, 3, none⟩ (.slice (some ⟨w3.heap.size, 0, none⟩) 2 2)) w.heap.size 24 #[.int .i64 0, .string ⟨#[]⟩, .int .i64 0, .slice none 0 0] := (((hb05.far (p := ⟨g1, 0, none⟩) hng _).far (p := ⟨g1, 1, none⟩) hng _).far (p := ⟨g1, 2, none⟩) hng _).far (p := ⟨g1, 3, none⟩) hng _
      generalize ((((w5).setCell ⟨g1, 0, none⟩ (.int .i64 k)).setCell ⟨g1, 1, none⟩ (.string ⟨#[]⟩)).setCell ⟨g1, 2, none⟩ (.int .i64 0)).setCell ⟨g1, 3, none⟩ (.slice (some ⟨w3.heap.size, 0, none⟩) 2 2) = V9 at *
      clear hset hN hFL hbx5 hR5 hk5 hb05 u0 u1 u2 u3 q0 q1 q2 q3
      refine hK.out _ _ ?_ (fun hHeld => ?_)
      · exact trivial
      clear hK K
      try simp only [Act.put, List.setIfInBounds_toArray, List.set_cons_zero, List.set_cons_succ]
      refine wpAnyH_done (by kernel_rfl) ?_ _
      have hms := hR9.left
      go_wp2
      go_roundw
      case rel => exact ⟨Fm.two k g g2, r2, m, k, ⟨#[]⟩, 0, some ⟨w3.heap.size, 0, none⟩, 2, 2, hbx9, hN9, hR9, hk9, hb09, by omega, by omega, HOQ.out⟩
      case measure => (have h1 := HLFT.out; omega)
    · rw [takeT_no e] at hR2
      have dd : decide (Fm.hdT us = x) = false := decide_eq_false e
      have HOE : Hid (O = .ok (g, us)) := by
        unfold Hid
        rw [HOM.out]
        exact Fm.loop_no e
      rw [dd]
      have hbx2 := hk2.blkOf hbx hg1R
      have hw2s : wr.heap.size ≤ w2.heap.size := hk2.size
      have hF2 := hF.rk (fun b hb => ⟨hb.2.1, hb.2.2.2⟩) hk2
      have hb02 := hk2.blkOf hb0 hg0R
      have hkT := hk.trans hk2
      have hRg : R < w.heap.size := hR0
      have hKn : ¬ (W.heap.size ≤ w.heap.size ∧ w.heap.size < wr.heap.size ∧ w.heap.size ≠ g1 ∧ w.heap.size ≠ R) := by omega
      have hF9 : FV (((((w2).setCell ⟨w.heap.size, 0, none⟩ (.int .i64 k1)).setCell ⟨w.heap.size, 1, none⟩ (.string s1)).setCell ⟨w.heap.size, 2, none⟩ (.int .i64 l1)).setCell ⟨w.heap.size, 3, none⟩ (.slice A1 n1 c1)) (fun b => W.heap.size ≤ b ∧ b < wr.heap.size ∧ b ≠ g1 ∧ b ≠ R) g (.agg #[.int .i64 k1, .string s1, .int .i64 l1, .slice A1 n1 c1]) := (((hF2.far (p := ⟨w.heap.size, 0, none⟩) hKn _).far (p := ⟨w.heap.size, 1, none⟩) hKn _).far (p := ⟨w.heap.size, 2, none⟩) hKn _).far (p := ⟨w.heap.size, 3, none⟩) hKn _
      have hF9b : FV (((((w2).setCell ⟨w.heap.size, 0, none⟩ (.int .i64 k1)).setCell ⟨w.heap.size, 1, none⟩ (.string s1)).setCell ⟨w.heap.size, 2, none⟩ (.int .i64 l1)).setCell ⟨w.heap.size, 3, none⟩ (.slice A1 n1 c1)) (Fr w.heap.size (((((w2).setCell ⟨w.heap.size, 0, none⟩ (.int .i64 k1)).setCell ⟨w.heap.size, 1, none⟩ (.string s1)).setCell ⟨w.heap.size, 2, none⟩ (.int .i64 l1)).setCell ⟨w.heap.size, 3, none⟩ (.slice A1 n1 c1)).heap.size) g (.agg #[.int .i64 k1, .string s1, .int .i64 l1, .slice A1 n1 c1]) := hF9.more (fun b hb => ⟨by have := hb.1; omega, by have := hb.2.1; simp; omega⟩)
      have hR9 : PR (((((w2).setCell ⟨w.heap.size, 0, none⟩ (.int .i64 k1)).setCell ⟨w.heap.size, 1, none⟩ (.string s1)).setCell ⟨w.heap.size, 2, none⟩ (.int .i64 l1)).setCell ⟨w.heap.size, 3, none⟩ (.slice A1 n1 c1)) R us := (((hR2.far (p := ⟨w.heap.size, 0, none⟩) hRg _).far (p := ⟨w.heap.size, 1, none⟩) hRg _).far (p := ⟨w.heap.size, 2, none⟩) hRg _).far (p := ⟨w.heap.size, 3, none⟩) hRg _
      have hk9 : RKeep R w (((((w2).setCell ⟨w.heap.size, 0, none⟩ (.int .i64 k1)).setCell ⟨w.heap.size, 1, none⟩ (.string s1)).setCell ⟨w.heap.size, 2, none⟩ (.int .i64 l1)).setCell ⟨w.heap.size, 3, none⟩ (.slice A1 n1 c1)) := (((hkT.far (p := ⟨w.heap.size, 0, none⟩) (Nat.le_refl _) _).far (p := ⟨w.heap.size, 1, none⟩) (Nat.le_refl _) _).far (p := ⟨w.heap.size, 2, none⟩) (Nat.le_refl _) _).far (p := ⟨w.heap.size, 3, none⟩) (Nat.le_refl _) _
      have hC9 : Blk (((((w2).setCell ⟨w.heap.size, 0, none⟩ (.int .i64 k1)).setCell ⟨w.heap.size, 1, none⟩ (.string s1)).setCell ⟨w.heap.size, 2, none⟩ (.int .i64 l1)).setCell ⟨w.heap.size, 3, none⟩ (.slice A1 n1 c1)) w.heap.size 24 #[.int .i64 k1, .string s1, .int .i64 l1, .slice A1 n1 c1] := by simpa using (((hb02.put 0 (.int .i64 k1)).put 1 (.string s1)).put 2 (.int .i64 l1)).put 3 (.slice A1 n1 c1)
      have HC9 := Lib.hid hC9
      have HR9 := Lib.hid hR9
      have HK9 := Lib.hid hk9
      have HF9 := Lib.hid hF9b
      have y0 := hbx2.cell 0
      have y1 := hbx2.cell 1
      have y2 := hbx2.cell 2
      have y3 := hbx2.cell 3
      simp only [List.getElem?_toArray, List.getElem?_cons_zero, List.getElem?_cons_succ] at y0 y1 y2 y3
      have q0 := hb02.frozen 0
      have q1 := hb02.frozen 1
      have q2 := hb02.frozen 2
      have q3 := hb02.frozen 3
      have r0 := hb02.cell 0
      have r1 := hb02.cell 1
      have r2 := hb02.cell 2
      have r3 := hb02.cell 3
      simp only [List.getElem?_toArray, List.getElem?_cons_zero, List.getElem?_cons_succ] at r0 r1 r2 r3
      clear e dd hR hk hb0 hF hbx hR2 hk2 hF2 hbx2 hkT hC9 hR9 hk9 hF9 hF9b hb02
      go_wp2
      clear y0 y1 y2 y3 q0 q1 q2 q3 r0 r1 r2 r3
      generalize ((((w2).setCell ⟨w.heap.size, 0, none⟩ (.int .i64 k1)).setCell ⟨w.heap.size, 1, none⟩ (.string s1)).setCell ⟨w.heap.size, 2, none⟩ (.int .i64 l1)).setCell ⟨w.heap.size, 3, none⟩ (.slice A1 n1 c1) = V9 at *
      have t0 := HC9.out.cell 0
      have t1 := HC9.out.cell 1
      have t2 := HC9.out.cell 2
      have t3 := HC9.out.cell 3
      simp only [List.getElem?_toArray, List.getElem?_cons_zero, List.getElem?_cons_succ] at t0 t1 t2 t3
      refine bodyPost_ret (v := .agg #[.int .i64 k1, .string s1, .int .i64 l1, .slice A1 n1 c1]) (by simp [results, Tryd.results83, go_sem, t0, t1, t2, t3]) rfl ?_
      rw [HCH.out, HOE.out]
      exact ⟨_, rfl, HF9.out, HR9.out, HK9.out⟩
end Go.Proofs.YtlddnejjpekgeaaDoor
