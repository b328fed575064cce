/- Fix. -/
import Derived.Test.YtjjdgiondpnpcaaCH
namespace Go.Proofs.Ytjjdgiondpnpcaa
open Go.RowKit Go.Shelf

theorem fixBy_eq (n x : Nat) (b : Bool) (h1 : 1 ≤ x) : Cm.fixBy n x b = (Cm.selfBy n).set (x - 1) (if b then 1 else 0) := by
  apply List.ext_getElem
  · simp [Cm.fixBy, Cm.selfBy]
  · intro i h2 h3
    rw [List.getElem_set]
    simp only [Cm.fixBy, Cm.selfBy, List.getElem_map, List.getElem_range]
    by_cases e : i + 1 = x
    · rw [if_pos e, if_pos (show x - 1 = i by omega)]
    · rw [if_neg e, if_neg (show ¬ x - 1 = i by omega)]
theorem fixS_low {n : Int} {gs : List (Int × Int)} {l x : Int} {b : Bool} (h : x < 1 ∨ n < x) : Cm.fixS n gs l x b = Gm.bad 1 := by
  unfold Cm.fixS
  rw [if_pos (by omega)]
theorem fixS_no {n : Int} {gs : List (Int × Int)} {l x : Int} {b : Bool} (h : (Gm.litB n gs.length l && Gm.rightB n gs) = false) : Cm.fixS n gs l x b = Gm.bad 1 := by
  unfold Cm.fixS
  split
  · rfl
  · rw [copyS_no]
    rintro ⟨h1, _, h2, _⟩
    rw [h1, h2] at h
    cases h
theorem fixS_in {n x : Nat} {gs : List (Int × Int)} {l : Int} {b : Bool} (h1 : 1 ≤ x) (h2 : x ≤ n) (h3 : n ≤ 2000) : Cm.fixS n gs l x b = Cm.copyS n gs n gs l (Cm.fixBy n x b) := by
  unfold Cm.fixS
  rw [if_neg (by omega), Int.toNat_natCast, Int.toNat_natCast]
theorem fix_all {n : Nat} {gs : List (Int × Int)} (hr : Gm.rightB n gs = true) (x : Nat) (b : Bool) : (Cm.fixBy n x b).all (Gm.litB n gs.length) = true := by
  rw [List.all_eq_true]
  intro z hz
  obtain ⟨j, hj, rfl⟩ := List.getElem_of_mem hz
  have := Cm.fix_lits hr x b j (by rw [Cm.fixBy_len] at hj; exact hj)
  rwa [List.getD_eq_getElem?_getD, List.getElem?_eq_getElem hj] at this

set_option maxRecDepth 100000 in
set_option maxHeartbeats 8000000 in
theorem fix_any (n : Int) (A : Option Addr) (c : Nat) (gs : List (Int × Int)) (l x : Int) (b : Bool) (w : World) (hl : gs.length ≤ 1000000) (hg : Gr w w.heap.size A gs) (hw : Wf gs) :
    Calls Try.prog 14 #[.agg #[.int .i64 n, .slice A gs.length c], .int .i64 l, .int .i64 x, .bool b] w (AndPost (Cm.fixS n gs l x b) 0 w) := by
  obtain ⟨W, hW⟩ : ∃ W, W = ((w.alloc (Obj.cells #[Value.int .i64 n, .slice A gs.length c] 26)).alloc (Obj.cells #[.int .i64 0, .slice none 0 0] 26)) := ⟨_, rfl⟩
  have B : Boxes w W n (.slice A gs.length c) := by
    rw [hW]
    exact ⟨((Below.refl w.heap.size w).alloc (Nat.le_refl _) _).alloc (by simp) _, by go_simp, by go_simp, by go_simp, by go_simp, by go_simp, by go_simp, by simp⟩
  have HS := Lib.hid (csuits_any n A c gs l W w.heap.size hl (hg.below B.low (Nat.le_refl _)) B.low.size hw)
  have hnot : ∀ (x : Bool) (w : World), (Op.unary .not (.bool x)).run Try.prog w = .ok (.bool (!x)) w := fun _ _ => rfl
  go_enter Try.func14, Try.ntmps14
  go_upto_region 1 with fail
  rw [← hW]
  clear hW
  have d0 := B.d0
  have d1 := B.d1
  have e0 := B.e0
  have e1 := B.e1
  have f0 := B.f0
  have f1 := B.f1
  by_cases h1 : x < 1
  · have HN := Lib.hid (fixS_low (n := n) (gs := gs) (l := l) (b := b) (Or.inl h1))
    clear HS
    go_wp2_with fail
    obtain ⟨r0, r1⟩ := and_cells (u := .int .i64 0) (v := .slice none 0 0) B
    exact bodyPost_ret (v := .tuple #[.agg #[.int .i64 0, .slice none 0 0], .int .i64 0, .int .i64 1]) (by simp [results, Try.results14, go_sem, r0, r1]) rfl (and_bad B (Nat.zero_le _) HN.out)
  · by_cases h2 : n < x
    · have HN := Lib.hid (fixS_low (n := n) (gs := gs) (l := l) (b := b) (Or.inr h2))
      clear HS
      go_wp2_with fail
      obtain ⟨r0, r1⟩ := and_cells (u := .int .i64 0) (v := .slice none 0 0) B
      exact bodyPost_ret (v := .tuple #[.agg #[.int .i64 0, .slice none 0 0], .int .i64 0, .int .i64 1]) (by simp [results, Try.results14, go_sem, r0, r1]) rfl (and_bad B (Nat.zero_le _) HN.out)
    · cases hs : (Gm.litB n gs.length l && Gm.rightB n gs) with
      | false =>
        have HN := Lib.hid (fixS_no (x := x) (b := b) hs)
        rw [hs] at HS
        clear hs
        go_wp2_with (go_at_call 22; refine HS.out.mono ?_; rintro e w1 ⟨rfl, hb1⟩; replace B := B.below hb1; clear d0 d1 e0 e1 f0 f1; have d0 := B.d0; have d1 := B.d1; have e0 := B.e0; have e1 := B.e1; have f0 := B.f0; have f1 := B.f1)
        obtain ⟨r0, r1⟩ := and_cells (u := .int .i64 0) (v := .slice none 0 0) B
        exact bodyPost_ret (v := .tuple #[.agg #[.int .i64 0, .slice none 0 0], .int .i64 0, .int .i64 1]) (by simp [results, Try.results14, go_sem, r0, r1]) rfl (and_bad B (Nat.zero_le _) HN.out)
      | true =>
        rw [hs] at HS
        have hs2 := hs
        rw [Bool.and_eq_true] at hs2
        obtain ⟨hll, hr⟩ := hs2
        clear hs
        obtain ⟨hn0, hn1, hn2, _⟩ := right_facts hr
        obtain ⟨m, rfl⟩ : ∃ m : Nat, n = (m : Int) := ⟨n.toNat, by omega⟩
        obtain ⟨k, rfl⟩ : ∃ k : Nat, x = (k : Int) + 1 := ⟨(x - 1).toNat, by omega⟩
        have HF := Lib.hid (fixS_in (n := m) (x := k + 1) (gs := gs) (l := l) (b := b) (by omega) (by omega) (by omega))
        rw [show ((k + 1 : Nat) : Int) = (k : Int) + 1 by omega] at HF
        have HE := Lib.hid (fixBy_eq m (k + 1) b (by omega))
        have HBL := Lib.hid (Cm.fixBy_len (n := m) (k + 1) b)
        have HC := Lib.hid (fun V Ab cb (hb : Below w.heap.size w V) (hV : Vs V V.heap.size Ab (iv (Cm.fixBy m (k + 1) b))) => copied_any m A c gs m A c gs l Ab cb (Cm.fixBy m (k + 1) b) V ((hg.below hb (Nat.le_refl _)).more hb.size) ((hg.below hb (Nat.le_refl _)).more hb.size) hV hw hr hr hll (Cm.fixBy_len _ _) (fix_all hr _ _))
        have HO := Lib.hid (fun V => own_any m (.slice A gs.length c) V (by omega))
        have HK := Lib.hid (fun V => const_any b V)
        clear hr hll
        generalize (if b = true then (1 : Int) else 0) = z at *
        generalize Cm.copyS m gs m gs l (Cm.fixBy m (k + 1) b) = r at *
        go_wp2_with fail
        refine HS.out.mono ?_
        rintro e w1 ⟨rfl, hb1⟩
        replace B := B.below hb1
        clear d0 d1 e0 e1 f0 f1 hb1 HS
        have hB1 := B.sz
        have d0 := B.d0
        have d1 := B.d1
        go_wp2_with fail
        refine (HO.out _).mono ?_
        rintro e w2 ⟨vb, rfl, hvb, hbv, hb1⟩
        replace B := B.below hb1
        clear d0 d1 hb1 HO
        have d0 := B.d0
        have d1 := B.d1
        have hix := ixI vb 0 m m k (by omega) (by omega)
        rw [Nat.zero_add] at hix
        have ci := hbv.cell k
        have gi := hbv.frozen k
        rw [List.getElem?_toArray, List.getElem?_map, List.getElem?_eq_getElem (by rw [Cm.selfBy_len]; omega), Option.map_some] at ci
        have hBs := B.sz
        have hput := hbv.put k (.int .i64 z)
        rw [iv_set, ← show Cm.fixBy m (k + 1) b = (Cm.selfBy m).set k z from HE.out] at hput
        have B5 : Boxes w (w2.setCell ⟨vb, k, none⟩ (.int .i64 z)) m (.slice A gs.length c) := B.grown (k := vb) (grown_set (p := ⟨vb, k, none⟩) (World.grownBy.refl w2 (some vb)) (Or.inl rfl) _) (by omega)
        go_upto_region 5 with (go_at_call 30; refine (HK.out _).mono ?_; rintro e w3 ⟨rfl, h3⟩; subst w3)
        clear ci gi hix hbv HK d0 d1 B
        generalize w2.setCell ⟨vb, k, none⟩ (.int .i64 z) = W5 at *
        have d0 := B5.d0
        have d1 := B5.d1
        have hVV := hput.vs
        have hVs := B5.sz
        go_wp2_with (go_at_call 31; refine (HC.out _ _ _ B5.low hVV).mono ?_; rintro e w4 ⟨A', c', rfl, hG, hsep, hb1⟩; replace B5 := B5.below hb1; have e0 := B5.e0; have e1 := B5.e1; have f0 := B5.f0; have f1 := B5.f1)
        obtain ⟨r0, r1⟩ := and_cells (u := .int .i64 r.1.1) (v := .slice A' r.1.2.length c') B5
        exact bodyPost_ret (v := .tuple #[.agg #[.int .i64 r.1.1, .slice A' r.1.2.length c'], .int .i64 r.2.1, .int .i64 r.2.2]) (by simp [results, Try.results14, go_sem, r0, r1]) rfl (by rw [HF.out]; exact and_close (r := r) (c' := c') B5 (Nat.zero_le _) hG (hsep.mono (Nat.le_refl _) hVs))
end Go.Proofs.Ytjjdgiondpnpcaa
