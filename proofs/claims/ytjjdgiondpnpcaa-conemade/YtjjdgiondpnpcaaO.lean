/- graph.And of a right graph and its literals. -/
import Derived.Test.YtjjdgiondpnpcaaN
namespace Go.Proofs.Ytjjdgiondpnpcaa
open Go.RowKit

theorem right_facts {n : Int} {gs : List (Int × Int)} (h : Gm.rightB n gs = true) : 0 ≤ n ∧ n ≤ 2000 ∧ 1 + n + gs.length ≤ 2000 ∧ gs.Nodup := by
  simp [Gm.rightB, Gm.fitB, Gm.nodB] at h
  exact ⟨h.1.1.1.1, h.1.1.1.2, h.1.1.2, h.2⟩
theorem lit_facts {n : Int} {l : Nat} {x : Int} (h : Gm.litB n l x = true) : 0 ≤ x ∧ x < 2 * (1 + n + l) := by
  simp [Gm.litB] at h
  exact ⟨h.1.2, h.2⟩

theorem andS_some {n : Int} {gs : List (Int × Int)} {a b l : Int} (h : Gm.rightB n gs = true ∧ Gm.litB n gs.length a = true ∧ Gm.litB n gs.length b = true) (hs : Gm.simpleS a b = some l) : Gm.andS n gs a b = ((n, gs), l, 0) := by
  unfold Gm.andS; rw [if_pos h, hs]
theorem andS_none {n : Int} {gs : List (Int × Int)} {a b : Int} (h : Gm.rightB n gs = true ∧ Gm.litB n gs.length a = true ∧ Gm.litB n gs.length b = true) (hs : Gm.simpleS a b = none) : Gm.andS n gs a b =
    if gs.idxOf (max a b, min a b) < gs.length then ((n, gs), 2 * (1 + n + gs.idxOf (max a b, min a b)), 0)
      else if 1 + n + gs.length = 2000 then Gm.bad 2
      else ((n, gs ++ [(max a b, min a b)]), 2 * (1 + n + gs.length), 0) := by
  unfold Gm.andS; rw [if_pos h, hs]

theorem keep_res {w : World} {g i k : Nat} {u v1 v2 : Value} (h : w.cell? ⟨g, i, none⟩ = some u) (hne : k ≠ g) : ((w.setCell ⟨k, 0, none⟩ v1).setCell ⟨k, 1, none⟩ v2).cell? ⟨g, i, none⟩ = some u := keep2 h hne
theorem Boxes.drew {w W : World} {n : Int} {s : Value} (h : Boxes w W n s) : Boxes w W.drew n s := ⟨h.low.drew, h.d0, h.d1, h.e0, h.e1, h.f0, h.f1, h.sz⟩
theorem simple_none_ne {a b : Int} (h : Gm.simpleS a b = none) : a ≠ b := by
  intro e
  subst e
  unfold Gm.simpleS at h
  split at h
  · cases h
  · split at h
    · cases h
    · rw [if_pos (Or.inr rfl)] at h
      cases h

set_option maxRecDepth 100000 in
set_option maxHeartbeats 4000000 in
theorem and_ok (n : Int) (A : Option Addr) (c : Nat) (gs : List (Int × Int)) (a b : Int) (w : World) (B : Nat) (hg : Gr w B A gs) (hB : B ≤ w.heap.size) (hw : Wf gs)
    (hr : Gm.rightB n gs = true) (ha : Gm.litB n gs.length a = true) (hb : Gm.litB n gs.length b = true) :
    Calls Try.prog 41 #[.agg #[.int .i64 n, .slice A gs.length c], .int .i64 a, .int .i64 b] w (AndPost (Gm.andS n gs a b) 0 w) := by
  have hnot : ∀ (x : Bool) (w : World), (Op.unary .not (.bool x)).run Try.prog w = .ok (.bool (!x)) w := fun _ _ => rfl
  obtain ⟨hn0, hn1, hn2, hnod⟩ := right_facts hr
  obtain ⟨ha0, ha1⟩ := lit_facts ha
  obtain ⟨hb0, hb1⟩ := lit_facts hb
  have HC := Lib.hid (show Gm.rightB n gs = true ∧ Gm.litB n gs.length a = true ∧ Gm.litB n gs.length b = true from ⟨hr, ha, hb⟩)
  have HN := Lib.hid hnod
  have HL := Lib.hid (show gs.length ≤ 1000000 by omega)
  have hl2 : gs.length ≤ 2000 := by omega
  obtain ⟨W, hW⟩ : ∃ W, W = (((w.alloc (Obj.cells #[Value.int .i64 n, .slice A gs.length c] 26)).alloc (Obj.cells #[.int .i64 0, .slice none 0 0] 26)).alloc (Obj.cells #[.slice A gs.length c, .int .u32 0, .int .i32 0, .int .u32 0, .slice none 0 0, .bool false] 79)) := ⟨_, rfl⟩
  have hbx : Boxes w W n (.slice A gs.length c) := by
    rw [hW]
    exact ⟨(((Below.refl w.heap.size w).alloc (Nat.le_refl _) _).alloc (by simp) _).alloc (by simp; omega) _, by go_simp, by go_simp, by go_simp, by go_simp, by go_simp, by go_simp, by simp⟩
  have hk : Blk W (w.heap.size + 1 + 1) 79 #[.slice A gs.length c, .int .u32 0, .int .i32 0, .int .u32 0, .slice none 0 0, .bool false] := by
    rw [hW]
    have := Blk.new ((w.alloc (Obj.cells #[Value.int .i64 n, .slice A gs.length c] 26)).alloc (Obj.cells #[.int .i64 0, .slice none 0 0] 26)) 79 #[.slice A gs.length c, .int .u32 0, .int .i32 0, .int .u32 0, .slice none 0 0, .bool false]
    simpa using this
  have HA := Lib.hid ha
  have HB := Lib.hid hb
  have HR := Lib.hid hr
  clear ha hb hr hnod
  go_enter Try.func41, Try.ntmps41
  go_wp2_with fail
  rw [← hW]
  clear hW
  refine (lit_any n A gs.length c a W HL.out).mono ?_
  rintro e w1 ⟨rfl, hb1'⟩
  rw [HA.out]
  have hx1 := hbx.below hb1'
  have d0 := hx1.d0
  have d1 := hx1.d1
  go_wp2_with fail
  refine (lit_any n A gs.length c b w1 HL.out).mono ?_
  rintro e w2 ⟨rfl, hb2'⟩
  rw [HB.out]
  have hx2 := hx1.below hb2'
  have hk2 := (hk.below hb1' hk.lt).below hb2' (Nat.lt_of_lt_of_le hk.lt hb1'.size)
  clear d0 d1
  have d0 := hx2.d0
  have d1 := hx2.d1
  go_wp2_with fail
  refine (right_first n (w.heap.size + 1 + 1) A c gs _ _ w2 B HL.out hk2 (hg.below hx2.low hB) (by omega) hw).mono ?_
  rintro e w3 ⟨rfl, hg3, hbt⟩
  rw [HR.out]
  have hbt := hbt HR.out
  have hx3 := hx2.grown hg3 (by omega)
  clear d0 d1 hbx hk hb1' hx1 hb2' hx2 hk2 hg3
  have d0 := hx3.d0
  have d1 := hx3.d1
  have e0 := hx3.e0
  have e1 := hx3.e1
  have f0 := hx3.f0
  have f1 := hx3.f1
  have hsz := hx3.sz
  have hg3 := hg.below hx3.low hB
  go_wp2_with fail
  refine (simple_any a b w3 ha0 hb0 (by omega)).mono ?_
  rintro e w4 ⟨rfl, rfl⟩
  cases hs : Gm.simpleS a b with
  | some l =>
    have HS1 := Lib.hid (andS_some HC.out hs)
    clear hs HC
    simp only [Option.getD_some, Option.isSome_some]
    go_wp2_with fail
    refine (same_any n A c gs w3 B HL.out hg3 (by omega)).mono ?_
    rintro e w4 ⟨A', c', rfl, hG, hsep, hb4⟩
    have hx4 := hx3.below hb4
    clear d0 d1 e0 e1 f0 f1
    have e0 := hx4.e0
    have e1 := hx4.e1
    have f0 := hx4.f0
    have f1 := hx4.f1
    go_wp2
    obtain ⟨r0, r1⟩ := and_cells (u := .int .i64 n) (v := .slice A' gs.length c') hx4
    have hfin := and_close (r := ((n, gs), l, 0)) (c' := c') hx4 (Nat.zero_le _) hG (hsep.mono (Nat.zero_le _) (by omega))
    rw [← HS1.out] at hfin
    exact bodyPost_ret (v := .tuple #[.agg #[.int .i64 n, .slice A' gs.length c'], .int .i64 l, .int .i64 0]) (by simp [results, Try.results41, go_sem, r0, r1]) rfl (by rw [HS1.out] at hfin ⊢; exact hfin)
  | none =>
    have hne := simple_none_ne hs
    rcases Int.lt_or_gt_of_ne hne with hlt | hlt
    · have hmm : (max a b, min a b) = (b, a) := by rw [Int.max_eq_right (Int.le_of_lt hlt), Int.min_eq_left (Int.le_of_lt hlt)]
      have hS1 := andS_none HC.out hs
      rw [hmm] at hS1
      have HS1 := Lib.hid hS1
      clear hs HC hS1 hmm hne
      simp only [Option.getD_none, Option.isSome_none]
      have hd : decide (a ≤ b) = true := by simp; omega
      go_wp2_with fail
      have hx4 : Boxes w (w3.alloc (Obj.cells #[Value.int .i64 b, .int .i64 a] 44)) n (.slice A gs.length c) := hx3.below ((Below.refl w3.heap.size w3).alloc (Nat.le_refl _) _)
      have k0 : (w3.alloc (Obj.cells #[Value.int .i64 b, .int .i64 a] 44)).cell? ⟨w3.heap.size, 0, none⟩ = some (.int .i64 b) := by simp
      have k1 : (w3.alloc (Obj.cells #[Value.int .i64 b, .int .i64 a] 44)).cell? ⟨w3.heap.size, 1, none⟩ = some (.int .i64 a) := by simp
      have hbt4 := hbt.below ((Below.refl w3.heap.size w3).alloc (Nat.le_refl _) (Obj.cells #[Value.int .i64 b, .int .i64 a] 44))
      have hz4 : w3.heap.size < (w3.alloc (Obj.cells #[Value.int .i64 b, .int .i64 a] 44)).heap.size := by simp
      generalize w3.alloc (Obj.cells #[Value.int .i64 b, .int .i64 a] 44) = w4 at *
      have hg4 := hg.below hx4.low hB
      refine (find_done (w.heap.size + 1 + 1) _ A c gs _ b a w4 B hl2 hbt4 hg4 (by have := hx4.sz; omega) HN.out).mono ?_
      rintro e w5 ⟨he, hb5⟩
      have hx5 := hx4.below hb5
      have g0 := (hb5.cell (p := ⟨w3.heap.size, 0, none⟩) hz4).trans k0
      have g1 := (hb5.cell (p := ⟨w3.heap.size, 1, none⟩) hz4).trans k1
      have hz5 : w3.heap.size < w5.heap.size := Nat.lt_of_lt_of_le hz4 hb5.size
      clear d0 d1 e0 e1 f0 f1 hbt hbt4 k0 k1
      have d0 := hx5.d0
      have d1 := hx5.d1
      have hg5 := hg.below hx5.low hB
      have hs5 := hx5.sz
      have hn01 : w.heap.size + 1 ≠ w.heap.size := by omega
      have HSM := Lib.hid (same_any n A c gs w5.drew B HL.out (hg.below hx5.drew.low hB) (by have := hx5.drew.low.size; omega))
      rcases he with ⟨hi, rfl⟩ | ⟨hi, rfl⟩
      · have hS2 := HS1.out
        rw [if_neg (by omega)] at hS2
        have HS2 := Lib.hid hS2
        clear hS2 HS1
        go_wp2_with fail
        refine (variables_any n A gs.length c w5 hn0 hn1 HL.out).mono ?_
        rintro e w6 ⟨rfl, hb6⟩
        have hx6 := hx5.below hb6
        have q0 := (hb6.cell (p := ⟨w3.heap.size, 0, none⟩) hz5).trans g0
        have q1 := (hb6.cell (p := ⟨w3.heap.size, 1, none⟩) hz5).trans g1
        have hz6 : w3.heap.size < w6.heap.size := Nat.lt_of_lt_of_le hz5 hb6.size
        clear d0 d1 g0 g1
        have d0 := hx6.d0
        have d1 := hx6.d1
        have e0 := hx6.e0
        have e1 := hx6.e1
        have f0 := hx6.f0
        have f1 := hx6.f1
        by_cases h2 : 1 + n + (gs.length : Int) = 2000
        · have hS3 := HS2.out
          rw [if_pos h2] at hS3
          have HS3 := Lib.hid hS3
          have hq : (1 + n + (gs.length : Int) == 2000) = true := by simp [h2]
          clear hS3 HS2 h2
          go_wp2
          obtain ⟨r0, r1⟩ := and_cells (u := .int .i64 0) (v := .slice none 0 0) hx6
          exact bodyPost_ret (v := .tuple #[.agg #[.int .i64 0, .slice none 0 0], .int .i64 0, .int .i64 2]) (by simp [results, Try.results41, go_sem, r0, r1]) rfl (and_bad hx6 (Nat.zero_le _) HS3.out)
        · have hS3 := HS2.out
          rw [if_neg h2] at hS3
          have HS3 := Lib.hid hS3
          have hq : (1 + n + (gs.length : Int) == 2000) = false := by simp [h2]
          clear hS3 HS2 h2 e0 e1 f0 f1
          have HEX := Lib.hid (extended_any n A c gs b a w6.drew B HL.out (hg.below hx6.drew.low hB) (by have := hx6.drew.low.size; omega))
          have hgl : ((gs.length : Int)) ≤ 1000000 := by have := HL.out; omega
          have hgl0 : (0 : Int) ≤ gs.length := by omega
          have hn31 : w.heap.size + 1 ≠ w3.heap.size := by omega
          have hs6 := hx6.sz
          go_wp2_with fail
          go_region_held3 (fun W => W.cell? ⟨w.heap.size, 0, none⟩ = some (.int .i64 n) ∧ W.cell? ⟨w.heap.size, 1, none⟩ = some (.slice A gs.length c) ∧ W.cell? ⟨w3.heap.size, 0, none⟩ = some (.int .i64 b) ∧ W.cell? ⟨w3.heap.size, 1, none⟩ = some (.int .i64 a))
            (first | exact ⟨d0, d1, q0, q1⟩ | exact ⟨hx7.d0, hx7.d1, t0, t1⟩ | exact ⟨hx8.d0, hx8.d1, u0, u1⟩ | exact ⟨keep_res hx8.d0 hn01, keep_res hx8.d1 hn01, keep_res u0 hn31, keep_res u1 hn31⟩)
            (first | (go_at_call 51; refine HEX.out.mono ?_; rintro e w7 ⟨A', c', rfl, hG, hsep, hb7⟩; have hx7 := hx6.drew.below hb7; have t0 := (hb7.cell (p := ⟨w3.heap.size, 0, none⟩) hz6).trans q0; have t1 := (hb7.cell (p := ⟨w3.heap.size, 1, none⟩) hz6).trans q1) | (go_at_call 50; refine (literal_any n A gs.length c (gs.length : Int) w7 hn0 hn1 hgl0 hgl).mono ?_; rintro e w8 ⟨rfl, hb8⟩; have hx8 := hx7.below hb8; have e0 := hx8.e0; have e1 := hx8.e1; have f0 := hx8.f0; have f1 := hx8.f1; have u0 := (hb8.cell (p := ⟨w3.heap.size, 0, none⟩) (Nat.lt_of_lt_of_le hz6 hb7.size)).trans t0; have u1 := (hb8.cell (p := ⟨w3.heap.size, 1, none⟩) (Nat.lt_of_lt_of_le hz6 hb7.size)).trans t1))
          go_wp2
          obtain ⟨r0, r1⟩ := and_cells (u := .int .i64 n) (v := .slice A' (gs.length + 1) c') hx8
          have hfin := and_close (r := ((n, gs ++ [(b, a)]), 2 * (1 + n + (gs.length : Int)), 0)) (c' := c') hx8 (Nat.zero_le _) ((hG.below hb8 (Nat.le_refl _)).more hb8.size) (hsep.mono (Nat.zero_le _) hs6)
          exact bodyPost_ret (v := .tuple #[.agg #[.int .i64 n, .slice A' (gs.length + 1) c'], .int .i64 (2 * (1 + n + (gs.length : Int))), .int .i64 0]) (by simp [results, Try.results41, go_sem, r0, r1]) rfl (by rw [HS3.out]; simpa using hfin)
      · have hS2 := HS1.out
        rw [if_pos hi] at hS2
        generalize gs.idxOf (b, a) = p at *
        have HS2 := Lib.hid hS2
        clear hS2 HS1
        have hp0 : (0 : Int) ≤ p := by omega
        have hp1 : (p : Int) ≤ 1000000 := by omega
        go_wp2_with fail
        go_region_held3 (fun W => W.cell? ⟨w.heap.size, 0, none⟩ = some (.int .i64 n) ∧ W.cell? ⟨w.heap.size, 1, none⟩ = some (.slice A gs.length c))
          (first | exact ⟨d0, d1⟩ | exact ⟨hx6.d0, hx6.d1⟩ | exact ⟨hx7.d0, hx7.d1⟩ | exact ⟨keep_res hx7.d0 hn01, keep_res hx7.d1 hn01⟩)
          (first | (go_at_call 48; refine HSM.out.mono ?_; rintro e w6 ⟨A', c', rfl, hG, hsep, hb6⟩; have hx6 := hx5.drew.below hb6) | (go_at_call 50; refine (literal_any n A gs.length c p w6 hn0 hn1 hp0 hp1).mono ?_; rintro e w7 ⟨rfl, hb7⟩; have hx7 := hx6.below hb7; have e0 := hx7.e0; have e1 := hx7.e1; have f0 := hx7.f0; have f1 := hx7.f1))
        go_wp2
        obtain ⟨r0, r1⟩ := and_cells (u := .int .i64 n) (v := .slice A' gs.length c') hx7
        have hfin := and_close (r := ((n, gs), 2 * (1 + n + (p : Int)), 0)) (c' := c') hx7 (Nat.zero_le _) ((hG.below hb7 (Nat.le_refl _)).more hb7.size) (hsep.mono (Nat.zero_le _) hs5)
        exact bodyPost_ret (v := .tuple #[.agg #[.int .i64 n, .slice A' gs.length c'], .int .i64 (2 * (1 + n + (p : Int))), .int .i64 0]) (by simp [results, Try.results41, go_sem, r0, r1]) rfl (by rw [HS2.out]; exact hfin)
    · have hmm : (max a b, min a b) = (a, b) := by rw [Int.max_eq_left (Int.le_of_lt hlt), Int.min_eq_right (Int.le_of_lt hlt)]
      have hS1 := andS_none HC.out hs
      rw [hmm] at hS1
      have HS1 := Lib.hid hS1
      clear hs HC hS1 hmm hne
      simp only [Option.getD_none, Option.isSome_none]
      have hd : decide (b ≤ a) = true := by simp; omega
      go_wp2_with fail
      have hx4 : Boxes w (w3.alloc (Obj.cells #[Value.int .i64 a, .int .i64 b] 44)) n (.slice A gs.length c) := hx3.below ((Below.refl w3.heap.size w3).alloc (Nat.le_refl _) _)
      have k0 : (w3.alloc (Obj.cells #[Value.int .i64 a, .int .i64 b] 44)).cell? ⟨w3.heap.size, 0, none⟩ = some (.int .i64 a) := by simp
      have k1 : (w3.alloc (Obj.cells #[Value.int .i64 a, .int .i64 b] 44)).cell? ⟨w3.heap.size, 1, none⟩ = some (.int .i64 b) := by simp
      have hbt4 := hbt.below ((Below.refl w3.heap.size w3).alloc (Nat.le_refl _) (Obj.cells #[Value.int .i64 a, .int .i64 b] 44))
      have hz4 : w3.heap.size < (w3.alloc (Obj.cells #[Value.int .i64 a, .int .i64 b] 44)).heap.size := by simp
      generalize w3.alloc (Obj.cells #[Value.int .i64 a, .int .i64 b] 44) = w4 at *
      have hg4 := hg.below hx4.low hB
      refine (find_done (w.heap.size + 1 + 1) _ A c gs _ a b w4 B hl2 hbt4 hg4 (by have := hx4.sz; omega) HN.out).mono ?_
      rintro e w5 ⟨he, hb5⟩
      have hx5 := hx4.below hb5
      have g0 := (hb5.cell (p := ⟨w3.heap.size, 0, none⟩) hz4).trans k0
      have g1 := (hb5.cell (p := ⟨w3.heap.size, 1, none⟩) hz4).trans k1
      have hz5 : w3.heap.size < w5.heap.size := Nat.lt_of_lt_of_le hz4 hb5.size
      clear d0 d1 e0 e1 f0 f1 hbt hbt4 k0 k1
      have d0 := hx5.d0
      have d1 := hx5.d1
      have hg5 := hg.below hx5.low hB
      have hs5 := hx5.sz
      have hn01 : w.heap.size + 1 ≠ w.heap.size := by omega
      have HSM := Lib.hid (same_any n A c gs w5.drew B HL.out (hg.below hx5.drew.low hB) (by have := hx5.drew.low.size; omega))
      rcases he with ⟨hi, rfl⟩ | ⟨hi, rfl⟩
      · have hS2 := HS1.out
        rw [if_neg (by omega)] at hS2
        have HS2 := Lib.hid hS2
        clear hS2 HS1
        go_wp2_with fail
        refine (variables_any n A gs.length c w5 hn0 hn1 HL.out).mono ?_
        rintro e w6 ⟨rfl, hb6⟩
        have hx6 := hx5.below hb6
        have q0 := (hb6.cell (p := ⟨w3.heap.size, 0, none⟩) hz5).trans g0
        have q1 := (hb6.cell (p := ⟨w3.heap.size, 1, none⟩) hz5).trans g1
        have hz6 : w3.heap.size < w6.heap.size := Nat.lt_of_lt_of_le hz5 hb6.size
        clear d0 d1 g0 g1
        have d0 := hx6.d0
        have d1 := hx6.d1
        have e0 := hx6.e0
        have e1 := hx6.e1
        have f0 := hx6.f0
        have f1 := hx6.f1
        by_cases h2 : 1 + n + (gs.length : Int) = 2000
        · have hS3 := HS2.out
          rw [if_pos h2] at hS3
          have HS3 := Lib.hid hS3
          have hq : (1 + n + (gs.length : Int) == 2000) = true := by simp [h2]
          clear hS3 HS2 h2
          go_wp2
          obtain ⟨r0, r1⟩ := and_cells (u := .int .i64 0) (v := .slice none 0 0) hx6
          exact bodyPost_ret (v := .tuple #[.agg #[.int .i64 0, .slice none 0 0], .int .i64 0, .int .i64 2]) (by simp [results, Try.results41, go_sem, r0, r1]) rfl (and_bad hx6 (Nat.zero_le _) HS3.out)
        · have hS3 := HS2.out
          rw [if_neg h2] at hS3
          have HS3 := Lib.hid hS3
          have hq : (1 + n + (gs.length : Int) == 2000) = false := by simp [h2]
          clear hS3 HS2 h2 e0 e1 f0 f1
          have HEX := Lib.hid (extended_any n A c gs a b w6.drew B HL.out (hg.below hx6.drew.low hB) (by have := hx6.drew.low.size; omega))
          have hgl : ((gs.length : Int)) ≤ 1000000 := by have := HL.out; omega
          have hgl0 : (0 : Int) ≤ gs.length := by omega
          have hn31 : w.heap.size + 1 ≠ w3.heap.size := by omega
          have hs6 := hx6.sz
          go_wp2_with fail
          go_region_held3 (fun W => W.cell? ⟨w.heap.size, 0, none⟩ = some (.int .i64 n) ∧ W.cell? ⟨w.heap.size, 1, none⟩ = some (.slice A gs.length c) ∧ W.cell? ⟨w3.heap.size, 0, none⟩ = some (.int .i64 a) ∧ W.cell? ⟨w3.heap.size, 1, none⟩ = some (.int .i64 b))
            (first | exact ⟨d0, d1, q0, q1⟩ | exact ⟨hx7.d0, hx7.d1, t0, t1⟩ | exact ⟨hx8.d0, hx8.d1, u0, u1⟩ | exact ⟨keep_res hx8.d0 hn01, keep_res hx8.d1 hn01, keep_res u0 hn31, keep_res u1 hn31⟩)
            (first | (go_at_call 51; refine HEX.out.mono ?_; rintro e w7 ⟨A', c', rfl, hG, hsep, hb7⟩; have hx7 := hx6.drew.below hb7; have t0 := (hb7.cell (p := ⟨w3.heap.size, 0, none⟩) hz6).trans q0; have t1 := (hb7.cell (p := ⟨w3.heap.size, 1, none⟩) hz6).trans q1) | (go_at_call 50; refine (literal_any n A gs.length c (gs.length : Int) w7 hn0 hn1 hgl0 hgl).mono ?_; rintro e w8 ⟨rfl, hb8⟩; have hx8 := hx7.below hb8; have e0 := hx8.e0; have e1 := hx8.e1; have f0 := hx8.f0; have f1 := hx8.f1; have u0 := (hb8.cell (p := ⟨w3.heap.size, 0, none⟩) (Nat.lt_of_lt_of_le hz6 hb7.size)).trans t0; have u1 := (hb8.cell (p := ⟨w3.heap.size, 1, none⟩) (Nat.lt_of_lt_of_le hz6 hb7.size)).trans t1))
          go_wp2
          obtain ⟨r0, r1⟩ := and_cells (u := .int .i64 n) (v := .slice A' (gs.length + 1) c') hx8
          have hfin := and_close (r := ((n, gs ++ [(a, b)]), 2 * (1 + n + (gs.length : Int)), 0)) (c' := c') hx8 (Nat.zero_le _) ((hG.below hb8 (Nat.le_refl _)).more hb8.size) (hsep.mono (Nat.zero_le _) hs6)
          exact bodyPost_ret (v := .tuple #[.agg #[.int .i64 n, .slice A' (gs.length + 1) c'], .int .i64 (2 * (1 + n + (gs.length : Int))), .int .i64 0]) (by simp [results, Try.results41, go_sem, r0, r1]) rfl (by rw [HS3.out]; simpa using hfin)
      · have hS2 := HS1.out
        rw [if_pos hi] at hS2
        generalize gs.idxOf (a, b) = p at *
        have HS2 := Lib.hid hS2
        clear hS2 HS1
        have hp0 : (0 : Int) ≤ p := by omega
        have hp1 : (p : Int) ≤ 1000000 := by omega
        go_wp2_with fail
        go_region_held3 (fun W => W.cell? ⟨w.heap.size, 0, none⟩ = some (.int .i64 n) ∧ W.cell? ⟨w.heap.size, 1, none⟩ = some (.slice A gs.length c))
          (first | exact ⟨d0, d1⟩ | exact ⟨hx6.d0, hx6.d1⟩ | exact ⟨hx7.d0, hx7.d1⟩ | exact ⟨keep_res hx7.d0 hn01, keep_res hx7.d1 hn01⟩)
          (first | (go_at_call 48; refine HSM.out.mono ?_; rintro e w6 ⟨A', c', rfl, hG, hsep, hb6⟩; have hx6 := hx5.drew.below hb6) | (go_at_call 50; refine (literal_any n A gs.length c p w6 hn0 hn1 hp0 hp1).mono ?_; rintro e w7 ⟨rfl, hb7⟩; have hx7 := hx6.below hb7; have e0 := hx7.e0; have e1 := hx7.e1; have f0 := hx7.f0; have f1 := hx7.f1))
        go_wp2
        obtain ⟨r0, r1⟩ := and_cells (u := .int .i64 n) (v := .slice A' gs.length c') hx7
        have hfin := and_close (r := ((n, gs), 2 * (1 + n + (p : Int)), 0)) (c' := c') hx7 (Nat.zero_le _) ((hG.below hb7 (Nat.le_refl _)).more hb7.size) (hsep.mono (Nat.zero_le _) hs5)
        exact bodyPost_ret (v := .tuple #[.agg #[.int .i64 n, .slice A' gs.length c'], .int .i64 (2 * (1 + n + (p : Int))), .int .i64 0]) (by simp [results, Try.results41, go_sem, r0, r1]) rfl (by rw [HS2.out]; exact hfin)

theorem and_any (n : Int) (A : Option Addr) (c : Nat) (gs : List (Int × Int)) (a b : Int) (w : World) (B : Nat) (hl : gs.length ≤ 1000000) (hg : Gr w B A gs) (hB : B ≤ w.heap.size) (hw : Wf gs) :
    Calls Try.prog 41 #[.agg #[.int .i64 n, .slice A gs.length c], .int .i64 a, .int .i64 b] w (AndPost (Gm.andS n gs a b) 0 w) := by
  by_cases h : Gm.rightB n gs = true ∧ Gm.litB n gs.length a = true ∧ Gm.litB n gs.length b = true
  · exact and_ok n A c gs a b w B hg hB hw h.1 h.2.1 h.2.2
  · exact and_arg n A c gs a b w B hl hg hB hw h
end Go.Proofs.Ytjjdgiondpnpcaa
