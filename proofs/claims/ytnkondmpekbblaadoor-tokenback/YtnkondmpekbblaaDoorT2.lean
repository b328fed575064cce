/- Tokens: signs, quoted names, the first token of a text. -/
import Derived.Test.YtnkondmpekbblaaDoorT1
namespace Go.Proofs.YtnkondmpekbblaaDoor
open Go.RowKit
attribute [local go_sem] bsv_size

/-- The signs in memory. -/
def Sig (w : World) : Prop := ∀ i, i < 9 → w.cell? ⟨0, i, none⟩ = some (.string (bsv (Tk.signsL.getD i [])))
theorem Sig.below {B : Nat} {w w' : World} (h : Sig w) (hb : Below B w w') (hB : 0 < B) : Sig w' := fun i hi => (hb.cell (p := ⟨_, i, none⟩) hB).trans (h i hi)
theorem prefix_one (s : Tk.Bs) : ([34] : Tk.Bs).isPrefixOf s = decide (s[0]? = some 34) := by
  cases s with
  | nil => rfl
  | cons b t =>
    rw [Bool.eq_iff_iff]
    simp [List.isPrefixOf]
    exact eq_comm
set_option maxHeartbeats 2000000 in
theorem quoted_any (s : Tk.Bs) (w : World) (hs : s.length ≤ 100000) : Calls Tryd.prog 24 #[.string (bsv s)] w fun e w' => e = .returned (.int .i64 (Tk.quotedS s : Nat)) ∧ w = w' := by
  have HC := Lib.hid (cut27 s [34] w hs (by simp))
  rw [prefix_one] at HC
  have HQ : Hid (Tk.quotedS s = if s[0]? = some 34 ∧ Tk.runS Tk.quotB (s.drop 1) ≠ 0 ∧ (s.drop 1)[Tk.runS Tk.quotB (s.drop 1)]? = some 34 then Tk.runS Tk.quotB (s.drop 1) + 2 else 0) := rfl
  generalize Tk.quotedS s = q at *
  have HR := Lib.hid (run_quotable s w hs)
  have HR1 := Lib.hid (run_quotable (s.drop 1) w (by rw [List.length_drop]; omega))
  go_enter Tryd.func24, Tryd.ntmps24
  go_wp2_with fail
  refine HC.out.mono ?_
  by_cases h0 : s[0]? = some 34
  · have d0 : decide (s[0]? = some 34) = true := decide_eq_true h0
    rw [d0]
    simp only [if_true, List.length_cons, List.length_nil, Nat.zero_add]
    have HQ2 : Hid (q = if Tk.runS Tk.quotB (s.drop 1) ≠ 0 ∧ (s.drop 1)[Tk.runS Tk.quotB (s.drop 1)]? = some 34 then Tk.runS Tk.quotB (s.drop 1) + 2 else 0) := by
      unfold Hid
      rw [HQ.out]
      simp only [h0, true_and]
    have hle := Tk.run_le Tk.quotB (s.drop 1)
    have HD : Hid ((s.drop 1).length ≤ 100000) := by unfold Hid; rw [List.length_drop]; omega
    clear HQ HC HR d0 h0
    generalize s.drop 1 = u at *
    rintro e w1 ⟨rfl, rfl⟩
    go_wp2_with fail
    refine HR1.out.mono ?_
    rintro e w1 ⟨rfl, rfl⟩
    clear HR1
    generalize hn : Tk.runS Tk.quotB u = n at *
    have HN := Lib.hid hn
    have HU := HD.out
    clear hn HD
    by_cases hn0 : n = 0
    · subst hn0
      go_wp2
      go_ret
      exact ⟨by rw [HQ2.out]; simp, rfl⟩
    · by_cases hnl : n = u.length
      · have d1 : ((n : Int) == 0) = false := by rw [beq_eq_false_iff_ne]; omega
        have HQ3 : Hid (q = 0) := by
          unfold Hid
          rw [HQ2.out, if_neg]
          intro h
          rw [hnl, List.getElem?_eq_none (Nat.le_refl _)] at h
          cases h.2
        rw [hnl] at d1
        subst hnl
        go_wp2
        go_ret
        exact ⟨by rw [HQ3.out]; rfl, rfl⟩
      · have d1 : ((n : Int) == 0) = false := by rw [beq_eq_false_iff_ne]; omega
        have d2 : ((n : Int) == (u.length : Int)) = false := by rw [beq_eq_false_iff_ne]; omega
        have hlt : n < u.length := by omega
        have hix := ix_bsv u n hlt
        have HQ3 : Hid (q = if (u[n]).toNat = 34 then n + 2 else 0) := by
          unfold Hid
          rw [HQ2.out, List.getElem?_eq_getElem hlt]
          simp only [ne_eq, hn0, not_false_eq_true, true_and, Option.some.injEq]
          have : (u[n] = 34) ↔ ((u[n]).toNat = 34) := ⟨fun h => by rw [h]; rfl, fun h => UInt8.toNat_inj.1 h⟩
          simp only [this]
        clear HQ2
        generalize (u[n]).toNat = b at *
        by_cases hb : b = 34
        · subst hb
          go_wp2
          go_ret
          exact ⟨by rw [HQ3.out]; simp, rfl⟩
        · have hb2 : ((b : Int) == 34) = false := by rw [beq_eq_false_iff_ne]; omega
          go_wp2
          go_ret
          exact ⟨by rw [HQ3.out, if_neg hb]; rfl, rfl⟩
  · have d0 : decide (s[0]? = some 34) = false := decide_eq_false h0
    rw [d0]
    simp only [Bool.false_eq_true, if_false]
    have HQ2 : Hid (q = 0) := by
      unfold Hid
      rw [HQ.out, if_neg (fun h => h0 h.1)]
    clear HQ HR1 HC d0 h0
    rintro e w1 ⟨rfl, rfl⟩
    go_wp2_with fail
    refine HR.out.mono ?_
    rintro e w1 ⟨rfl, rfl⟩
    go_wp2
    go_ret
    exact ⟨by rw [HQ2.out]; rfl, rfl⟩
theorem ix_signs (k : Nat) (h : k < 9) (w : World) : (Instr.index 51 (.agg #[.string (bsv [60, 45, 62]), .string (bsv [45, 62]), .string (bsv [33]), .string (bsv [38]), .string (bsv [124]), .string (bsv [40]), .string (bsv [41]), .string (bsv [91]), .string (bsv [93])]) (.int .i64 (k : Int))).run Tryd.prog w = .ok (.string (bsv (Tk.signsL.getD k []))) w := by
  have : k = 0 ∨ k = 1 ∨ k = 2 ∨ k = 3 ∨ k = 4 ∨ k = 5 ∨ k = 6 ∨ k = 7 ∨ k = 8 := by omega
  rcases this with rfl | rfl | rfl | rfl | rfl | rfl | rfl | rfl | rfl <;> (go_simp; rfl)
theorem signIn_no {x : Tk.Bs} {r : List Tk.Bs} {s : Tk.Bs} (h : x.isPrefixOf s = false) : Tk.signIn (x :: r) s = Tk.signIn r s := by rw [Tk.signIn, h]; rfl
theorem signIn_yes {x : Tk.Bs} {r : List Tk.Bs} {s : Tk.Bs} (h : x.isPrefixOf s = true) : Tk.signIn (x :: r) s = x.length := by rw [Tk.signIn, h]; rfl
theorem signs_drop (k : Nat) (h : k < 9) : Tk.signsL.drop k = Tk.signsL.getD k [] :: Tk.signsL.drop (k + 1) := by
  have h' : k < Tk.signsL.length := h
  rw [List.drop_eq_getElem_cons h', List.getD_eq_getElem?_getD, List.getElem?_eq_getElem h']
  rfl
theorem signs_short (k : Nat) : (Tk.signsL.getD k []).length ≤ 3 := by
  by_cases h : k < 9
  · have : k = 0 ∨ k = 1 ∨ k = 2 ∨ k = 3 ∨ k = 4 ∨ k = 5 ∨ k = 6 ∨ k = 7 ∨ k = 8 := by omega
    rcases this with rfl | rfl | rfl | rfl | rfl | rfl | rfl | rfl | rfl <;> decide
  · rw [List.getD_eq_getElem?_getD, List.getElem?_eq_none (show Tk.signsL.length ≤ k from by show 9 ≤ k; omega)]
    decide
set_option maxRecDepth 10000 in
set_option maxHeartbeats 2000000 in
theorem sign_any (s : Tk.Bs) (w : World) (hs : s.length ≤ 100000) (hg : Sig w) : Calls Tryd.prog 25 #[.string (bsv s)] w fun e w' => e = .returned (.int .i64 (Tk.signS s : Nat)) ∧ w = w' := by
  have c0 := hg 0 (by omega)
  have c1 := hg 1 (by omega)
  have c2 := hg 2 (by omega)
  have c3 := hg 3 (by omega)
  have c4 := hg 4 (by omega)
  have c5 := hg 5 (by omega)
  have c6 := hg 6 (by omega)
  have c7 := hg 7 (by omega)
  have c8 := hg 8 (by omega)
  simp only [Tk.signsL, List.getD_cons_zero, List.getD_cons_succ] at c0 c1 c2 c3 c4 c5 c6 c7 c8
  have HG := Lib.hid hg
  clear hg
  go_enter Tryd.func25, Tryd.ntmps25
  go_wp2
  clear c0 c1 c2 c3 c4 c5 c6 c7 c8
  go_loopw [6] (fun i wr => ∃ k : Nat, k ≤ 9 ∧ i = .int .i64 (k : Int) ∧ Tk.signS s = Tk.signIn (Tk.signsL.drop k) s ∧ w = wr) (fun i _ => 9 - (intOf i).toNat)
  case atStart => exact ⟨0, Nat.zero_le _, rfl, rfl, rfl⟩
  case round =>
    obtain ⟨k, hk, rfl, hj, rfl⟩ := hrel
    have HJ := Lib.hid hj
    clear hj
    by_cases hlt : k < 9
    · have hix := ix_signs k hlt
      have HS := Lib.hid (signs_drop k hlt)
      have hsh := signs_short k
      generalize Tk.signsL.getD k [] = x at *
      have HH := Lib.hid (has29 s x w hs (by omega))
      cases hp : x.isPrefixOf s with
      | false =>
        rw [hp] at HH
        have HN := Lib.hid (signIn_no (r := Tk.signsL.drop (k + 1)) hp)
        clear hp
        go_wp2_with fail
        refine HH.out.mono ?_
        rintro e w1 ⟨rfl, rfl⟩
        go_wp2
        go_roundw
        case rel => exact ⟨k + 1, by omega, by go_num, by rw [HJ.out, HS.out, HN.out], trivial⟩
        case measure => simp [intOf]; omega
      | true =>
        rw [hp] at HH
        have HN := Lib.hid (signIn_yes (r := Tk.signsL.drop (k + 1)) hp)
        clear hp
        go_wp2_with fail
        refine HH.out.mono ?_
        rintro e w1 ⟨rfl, rfl⟩
        go_wp2
        go_ret
        exact ⟨by rw [HJ.out, HS.out, HN.out]; rfl, rfl⟩
    · obtain rfl : k = 9 := by omega
      go_wp2
      go_ret
      exact ⟨by rw [HJ.out]; rfl, rfl⟩
/-- A kind and a length, as first hands them back. -/
def firstV (p : Nat × Nat) : Value := .tuple #[.int .i64 (p.1 : Int), .int .i64 (p.2 : Int)]
set_option maxHeartbeats 2000000 in
theorem first_any (s : Tk.Bs) (w : World) (hs : s.length ≤ 100000) (hg : Sig w) : Calls Tryd.prog 19 #[.string (bsv s)] w fun e w' => e = .returned (firstV (Tk.firstS s)) ∧ w = w' := by
  have HF : Hid (Tk.firstS s = if Tk.runS Tk.plainB s ≠ 0 then (1, Tk.runS Tk.plainB s) else if Tk.quotedS s ≠ 0 then (1, Tk.quotedS s) else (2, Tk.signS s)) := rfl
  have HR := Lib.hid (run_plain s w hs)
  have HQ := Lib.hid (quoted_any s w hs)
  have HS := Lib.hid (sign_any s w hs hg)
  clear hg
  generalize Tk.firstS s = f at *
  generalize Tk.runS Tk.plainB s = n at *
  generalize Tk.quotedS s = q at *
  generalize Tk.signS s = g at *
  go_enter Tryd.func19, Tryd.ntmps19
  go_wp2_with fail
  refine HR.out.mono ?_
  rintro e w1 ⟨rfl, rfl⟩
  by_cases hn : n = 0
  · subst hn
    go_wp2_with fail
    refine HQ.out.mono ?_
    rintro e w1 ⟨rfl, rfl⟩
    by_cases hq : q = 0
    · subst hq
      go_wp2_with fail
      refine HS.out.mono ?_
      rintro e w1 ⟨rfl, rfl⟩
      go_wp2
      go_ret2
      exact ⟨by rw [HF.out]; rfl, rfl⟩
    · have hq0 : 0 < q := by omega
      go_wp2
      go_ret2
      exact ⟨by rw [HF.out, if_neg (by simp), if_pos hq]; rfl, rfl⟩
  · have hn0 : 0 < n := by omega
    go_wp2
    go_ret2
    exact ⟨by rw [HF.out, if_pos hn]; rfl, rfl⟩
end Go.Proofs.YtnkondmpekbblaaDoor
