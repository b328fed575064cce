/- The reference's Copy of any graphs, and its Fix. -/
import Derived.Test.YtjjdgiondpnpcaaRD
namespace Go.Proofs.Ytjjdgiondpnpcaa
open Go.RowKit Go.Shelf

theorem refcopy_any (nt : Int) (At : Option Addr) (ct : Nat) (tg : List (Int × Int)) (nf : Int) (Af : Option Addr) (cf : Nat) (fg : List (Int × Int)) (l : Int) (Ab : Option Addr) (cb : Nat) (by_ : List Int) (w : World)
    (hlt : tg.length ≤ 1000000) (hlf : fg.length ≤ 1000000) (hlb : by_.length ≤ 1000000) (hgt : Gr w w.heap.size At tg) (hgf : Gr w w.heap.size Af fg) (hV : Vs w w.heap.size Ab (iv by_)) (hwt : Wf tg) (hwf : Wf fg) (hx : l ≤ 9223372036854775807) (hbx : ∀ x ∈ by_, x ≤ 9223372036854775807) :
    Calls Try.prog 16 #[.agg #[.int .i64 nt, .slice At tg.length ct], .agg #[.int .i64 nf, .slice Af fg.length cf], .int .i64 l, .slice Ab by_.length cb] w (RefPost (Cm.copyS nt tg nf fg l by_) At tg w) := by
  by_cases h : (Gm.rightB nt tg = true ∧ Gm.rightB nf fg = true ∧ Gm.litB nf fg.length l = true ∧ (by_.length : Int) = nf)
  · obtain ⟨h1, h2, h3, h4⟩ := h
    subst h4
    obtain ⟨h0, _⟩ := right_facts h1
    obtain ⟨m, rfl⟩ : ∃ m : Nat, nt = (m : Int) := ⟨nt.toNat, by omega⟩
    exact refcopy_in m At ct tg Af cf fg l Ab cb by_ w hgt hgf hV hwt hwf h1 h2 h3 hbx
  · exact refcopy_no nt At ct tg nf Af cf fg l Ab cb by_ w hlt hlf hlb hgt hgf hV hwt hwf hx h

theorem fix_take (m x : Nat) (b : Bool) {k : Nat} (hk : k < m) : (Cm.fixBy m x b).take (k + 1) = (Cm.fixBy m x b).take k ++ [if k + 1 = x then (if b then 1 else 0) else 2 * ((k : Int) + 1)] := by
  have hl : k < (Cm.fixBy m x b).length := by rw [Cm.fixBy_len]; exact hk
  rw [List.take_add_one, List.getElem?_eq_getElem hl]
  congr 1
  have := Cm.fixBy_get (n := m) x b hk
  rw [List.getD_eq_getElem?_getD, List.getElem?_eq_getElem hl] at this
  simp only [Option.getD_some] at this
  rw [this]
  rfl
theorem fixBy_le (m x : Nat) (b : Bool) (hm : m ≤ 2000) : ∀ z ∈ Cm.fixBy m x b, z ≤ 9223372036854775807 := by
  intro z hz
  obtain ⟨i, hi, rfl⟩ := List.mem_map.1 hz
  have := List.mem_range.1 hi
  split
  · split <;> omega
  · omega

set_option maxRecDepth 100000 in
set_option maxHeartbeats 8000000 in
theorem reffix_any (n : Int) (A : Option Addr) (c : Nat) (gs : List (Int × Int)) (l x : Int) (b : Bool) (w : World) (hl : gs.length ≤ 1000000) (hg : Gr w w.heap.size A gs) (hw : Wf gs) (hx : l ≤ 9223372036854775807) :
    Calls Try.prog 17 #[.agg #[.int .i64 n, .slice A gs.length c], .int .i64 l, .int .i64 x, .bool b] w (RefPost (Cm.fixS n gs l x b) A gs w) := by
  obtain ⟨W, hW⟩ : ∃ W, W = ((w.alloc (Obj.cells #[Value.int .i64 n, .slice A gs.length c] 26)).alloc (Obj.cells #[.int .i64 0, .slice none 0 0] 26)) := ⟨_, rfl⟩
  have B : Boxes w W n (.slice A gs.length c) := by
    rw [hW]
    exact ⟨((Below.refl w.heap.size w).alloc (Nat.le_refl _) _).alloc (by simp) _, by go_simp, by go_simp, by go_simp, by go_simp, by go_simp, by go_simp, by simp⟩
  go_enter Try.func17, Try.ntmps17
  go_upto_region 1 with fail
  rw [← hW]
  clear hW
  have d0 := B.d0
  have d1 := B.d1
  have e0 := B.e0
  have e1 := B.e1
  have f0 := B.f0
  have f1 := B.f1
  by_cases hno : x < 1 ∨ n < x ∨ 2000 < n
  · have HN : Hid (Cm.fixS n gs l x b = Gm.bad 1) := by unfold Hid Cm.fixS; rw [if_pos hno]
    by_cases h1 : x < 1
    · clear hno
      go_wp2_with fail
      obtain ⟨r0, r1⟩ := and_cells (u := .int .i64 0) (v := .slice none 0 0) B
      exact bodyPost_ret (v := .tuple #[.agg #[.int .i64 0, .slice none 0 0], .int .i64 0, .int .i64 1]) (by simp [results, Try.results17, go_sem, r0, r1]) rfl (ref_bad B HN.out)
    · by_cases h2 : n < x
      · clear hno
        go_wp2_with fail
        obtain ⟨r0, r1⟩ := and_cells (u := .int .i64 0) (v := .slice none 0 0) B
        exact bodyPost_ret (v := .tuple #[.agg #[.int .i64 0, .slice none 0 0], .int .i64 0, .int .i64 1]) (by simp [results, Try.results17, go_sem, r0, r1]) rfl (ref_bad B HN.out)
      · have h3 : 2000 < n := by omega
        clear hno
        go_wp2_with fail
        obtain ⟨r0, r1⟩ := and_cells (u := .int .i64 0) (v := .slice none 0 0) B
        exact bodyPost_ret (v := .tuple #[.agg #[.int .i64 0, .slice none 0 0], .int .i64 0, .int .i64 1]) (by simp [results, Try.results17, go_sem, r0, r1]) rfl (ref_bad B HN.out)
  · have HE : Hid (Cm.fixS n gs l x b = Cm.copyS n gs n gs l (Cm.fixBy n.toNat x.toNat b)) := by unfold Hid Cm.fixS; rw [if_neg hno]
    have h1 : 1 ≤ x := by omega
    have h2 : x ≤ n := by omega
    have h3 : n ≤ 2000 := by omega
    clear hno
    obtain ⟨m, rfl⟩ : ∃ m : Nat, n = (m : Int) := ⟨n.toNat, by omega⟩
    obtain ⟨x, rfl⟩ : ∃ q : Nat, x = (q : Int) := ⟨x.toNat, by omega⟩
    simp only [Int.toNat_natCast] at HE
    have HC := Lib.hid (fun V (hb : Below w.heap.size w V) Ab cb (hV : Vs V V.heap.size Ab (iv (Cm.fixBy m x b))) => refcopy_any m A c gs m A c gs l Ab cb (Cm.fixBy m x b) V hl hl (by rw [Cm.fixBy_len]; omega) ((hg.below hb (Nat.le_refl _)).more hb.size) ((hg.below hb (Nat.le_refl _)).more hb.size) hV hw hw hx (fixBy_le m x b (by omega)))
    rw [Cm.fixBy_len] at HC
    have hd1 : decide ((x : Int) < 1) = false := by simp; omega
    have hd2 : decide (m < x) = false := by simp; omega
    have hd4 : decide ((m : Int) < (x : Int)) = false := by simp; omega
    have hd3 : decide (2000 < (m : Int)) = false := by simp; omega
    go_wp2_with fail
    clear hd1 hd2 hd3 hd4
    go_loopw [11, 12] (fun v i wr => ∃ k : Nat, k ≤ m ∧ i = .int .i64 ((k : Int) + 1) ∧ Boxes w wr m (.slice A gs.length c) ∧ OwnV wr (w.heap.size + 2) 3 v (iv ((Cm.fixBy m x b).take k))) (fun _ i _ => m + 1 - (intOf i).toNat)
    case atStart => exact ⟨0, Nat.zero_le _, rfl, B, OwnV.nil _ _ _⟩
    case round =>
      clear B d0 d1 e0 e1 f0 f1
      obtain ⟨k, hkl, rfl, B, O⟩ := hrel
      have d0 := B.d0
      have hsz := B.sz
      by_cases hlt : k < m
      · have HL := Lib.hid (show (iv ((Cm.fixBy m x b).take k)).length + 1 ≤ 2000000 by simp [iv, Cm.fixBy_len]; omega)
        have HTK := Lib.hid (fix_take m x b hlt)
        by_cases hkx : k + 1 = x
        · have hq : ((k : Int) + 1 == (x : Int)) = true := by simp; omega
          rw [if_pos hkx] at HTK
          cases b with
          | false =>
            simp only [Bool.false_eq_true, if_false] at HTK
            clear hkx
            go_wp2_with (at_builtin; go_loud (refine wpList_ints rfl (.tmp 40) (.tmp 42) rfl (w.heap.size + 2) _ _ (iv ((Cm.fixBy m x false).take k)) [.int .i64 0] rfl (O.alloc _) _ _ _ rfl rfl (vs_one _ _ _) (one_int _) HL.out (by simp; omega) ?_); intro v' w' hown' hgr' _)
            have hlo := grown_low2 hgr' O.base (show w.heap.size + 2 ≤ (wr.alloc _).heap.size by simp; omega)
            go_roundw
            case rel => exact ⟨k + 1, by omega, by go_num, (B.alloc _).belowK hlo (by omega), by rw [HTK.out, iv, List.map_append]; exact hown'⟩
            case measure => simp [intOf]; omega
          | true =>
            simp only [if_true] at HTK
            clear hkx
            go_wp2_with (at_builtin; go_loud (refine wpList_ints rfl (.tmp 40) (.tmp 42) rfl (w.heap.size + 2) _ _ (iv ((Cm.fixBy m x true).take k)) [.int .i64 1] rfl (O.alloc _) _ _ _ rfl rfl (vs_one _ _ _) (one_int _) HL.out (by simp; omega) ?_); intro v' w' hown' hgr' _)
            have hlo := grown_low2 hgr' O.base (show w.heap.size + 2 ≤ (wr.alloc _).heap.size by simp; omega)
            go_roundw
            case rel => exact ⟨k + 1, by omega, by go_num, (B.alloc _).belowK hlo (by omega), by rw [HTK.out, iv, List.map_append]; exact hown'⟩
            case measure => simp [intOf]; omega
        · have hq : ((k : Int) + 1 == (x : Int)) = false := by simp; omega
          rw [if_neg hkx] at HTK
          clear hkx
          go_wp2_with (at_builtin; go_loud (refine wpList_ints rfl (.tmp 40) (.tmp 42) rfl (w.heap.size + 2) _ _ (iv ((Cm.fixBy m x b).take k)) [.int .i64 (2 * ((k : Int) + 1))] rfl (O.alloc _) _ _ _ rfl rfl (vs_one _ _ _) (one_int _) HL.out (by simp; omega) ?_); intro v' w' hown' hgr' _)
          have hlo := grown_low2 hgr' O.base (show w.heap.size + 2 ≤ (wr.alloc _).heap.size by simp; omega)
          go_roundw
          case rel => exact ⟨k + 1, by omega, by go_num, (B.alloc _).belowK hlo (by omega), by rw [HTK.out, iv, List.map_append]; exact hown'⟩
          case measure => simp [intOf]; omega
      · obtain rfl : k = m := by omega
        have d1 := B.d1
        have e0 := B.e0
        have e1 := B.e1
        have f0 := B.f0
        have f1 := B.f1
        rw [List.take_of_length_le (by rw [Cm.fixBy_len]; exact Nat.le_refl _)] at O
        obtain ⟨A2, c2, hv, hV⟩ := O.vs
        rw [show (iv (Cm.fixBy k x b)).length = k by simp [iv, Cm.fixBy_len]] at hv
        subst hv
        generalize Cm.copyS k gs k gs l (Cm.fixBy k x b) = r at *
        go_wp2_with (go_at_call 16; refine (HC.out _ B.low _ _ hV).mono ?_; rintro e w1 ⟨A', c', rfl, hG, hsep, hb1⟩; clear d0 d1 e0 e1 f0 f1; have hne := ref_ne (r := r) (k := w.heap.size + 1) hg hsep (by omega) hsz; have hs2 : (A' = A ∧ r.1.2 = gs) ∨ Sep 0 w.heap.size A' := hsep.imp id (fun h => h.mono (Nat.le_refl _) B.low.size); replace B := B.below hb1; have e0 := B.e0; have e1 := B.e1; have f0 := B.f0; have f1 := B.f1)
        obtain ⟨r0, r1⟩ := and_cells (u := .int .i64 r.1.1) (v := .slice A' r.1.2.length c') B
        exact bodyPost_ret (v := .tuple #[.agg #[.int .i64 r.1.1, .slice A' r.1.2.length c'], .int .i64 r.2.1, .int .i64 r.2.2]) (by simp [results, Try.results17, go_sem, r0, r1]) rfl (by rw [HE.out]; exact ref_close B hG hs2 hne)
end Go.Proofs.Ytjjdgiondpnpcaa
