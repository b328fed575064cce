/- TokenParts's walk: the tokens of two texts with a blank between are those of both. -/
import Derived.Test.YtnkondmpekbblaaDoorTK
namespace Go.Proofs.YtnkondmpekbblaaDoor
open Go.RowKit
attribute [local go_sem] bsv_size

/-- Lex, where the text is all tokens. -/
theorem lex_ok {s : Tk.Bs} {ts : List Tk.Tok} {w : World} (hA : Tk.lexA s = (ts, 0, 0)) (hT : Tabs w) (hs : s.length ≤ 20000) : Calls Tryd.prog 10 #[.string (bsv s)] w fun e w' => ∃ A c, e = .returned (.tuple #[.slice A ts.length c, .int .i64 0, .int .i64 0]) ∧ Tr w' A ts ∧ Below w.heap.size w w' :=
  (lex_any s w (by omega) hT.sig hT.lt).mono (fun e w' h => by
    rw [LexP, hA] at h
    obtain ⟨v, rfl, hrow, hlo⟩ := h
    obtain ⟨A, c, hv, hR⟩ := row_tr (ts := ts) hrow
    exact ⟨A, c, by rw [hv]; rfl, hR, hlo⟩)
/-- Lex, where it is not. -/
theorem lex_bad {s : Tk.Bs} {a : Nat} {w : World} (hA : Tk.lexA s = ([], 40, a)) (hT : Tabs w) (hs : s.length ≤ 20000) : Calls Tryd.prog 10 #[.string (bsv s)] w fun e w' => ∃ A c, e = .returned (.tuple #[.slice A 0 c, .int .i64 40, .int .i64 (a : Int)]) ∧ Below w.heap.size w w' :=
  (lex_any s w (by omega) hT.sig hT.lt).mono (fun e w' h => by
    rw [LexP, hA] at h
    obtain ⟨v, rfl, hrow, hlo⟩ := h
    obtain ⟨A, c, hv⟩ := row_slice hrow
    exact ⟨A, c, by rw [hv]; rfl, hlo⟩)
theorem parts_words {s t : Tk.Bs} : Tk.wordsS ((s ++ [32]) ++ t) = match Tk.wordsS s with
    | none => none
    | some l => (Tk.wordsS t).map (l.dropLast ++ ·) := by
  rw [List.append_assoc]
  exact Tk.words_app t s.length s (Nat.le_refl _)
set_option maxRecDepth 100000 in
set_option maxHeartbeats 4000000 in
theorem tokenParts_walk (A0 : Option Addr) (c0 : Nat) (zs : List Int) (A1 : Option Addr) (c1 : Nat) (ys : List Int) (w : World) (hml : zs.length ≤ maxLen) (hU : Ub w w.heap.size A0 zs) (hml1 : ys.length ≤ maxLen) (hU1 : Ub w w.heap.size A1 ys) (hT : Tabs w) :
    Calls Tryd.prog 6 #[.slice A0 zs.length c0, .slice A1 ys.length c1] w fun e w' => e = .returned (.bool true) ∧ Below w.heap.size w w' := by
  have HA := Lib.hid (awake_any w hT.sig hT.lt)
  have HP := Lib.hid (fun w hU => pieces_any A0 c0 zs w hml hU)
  have HQ := Lib.hid (fun w hU => pieces_any A1 c1 ys w hml1 hU)
  have hsl := piecesS_len zs
  have htl := piecesS_len ys
  generalize piecesS zs = s at *
  generalize piecesS ys = t at *
  go_enter Tryd.func6, Tryd.ntmps6
  go_wp2_with fail
  refine HA.out.mono ?_
  rintro e w1 ⟨rfl, hlo⟩
  have hT1 := hT.below hlo
  replace hU := (hU.below hlo (Nat.le_refl _)).more hlo.size
  replace hU1 := (hU1.below hlo (Nat.le_refl _)).more hlo.size
  clear HA hT
  go_wp2_with fail
  refine (HP.out w1 hU).mono ?_
  rintro e w2 ⟨rfl, hlo2⟩
  have hT2 := hT1.below hlo2
  replace hU1 := (hU1.below hlo2 (Nat.le_refl _)).more hlo2.size
  replace hlo := hlo.trans (hlo2.mono hlo.size)
  clear HP hT1 hlo2 hU
  go_wp2_with fail
  refine (HQ.out w2 hU1).mono ?_
  rintro e w3 ⟨rfl, hlo2⟩
  have hT3 := hT2.below hlo2
  replace hlo := hlo.trans (hlo2.mono hlo.size)
  clear HQ hT2 hlo2 hU1
  have hadd1 : ∀ w, (Op.stringOp .add (bsv s) ⟨#[32]⟩).run Tryd.prog w = .ok (.string (bsv (s ++ [32]))) w := add_bsv s [32] (by simp; omega)
  have hadd2 := add_bsv (s ++ [32]) t (by simp; omega)
  have hsum : ((s ++ [32]) ++ t).length ≤ 201 := by simp; omega
  have HW := Lib.hid (parts_words (s := s) (t := t))
  generalize (s ++ [32]) ++ t = st at *
  rcases Tk.lexA_cases s (by omega) with ⟨ts, hA, hW, _⟩ | ⟨a, hA, hW, _⟩
  · rcases Tk.lexA_cases t (by omega) with ⟨us, hB, hX, _⟩ | ⟨b, hB, hX, _⟩
    · have hwd : Tk.wordsS st = some ((ts.map wd).dropLast ++ us.map wd) := by
        rw [HW.out, hW, hX]
        rfl
      rcases Tk.lexA_cases st (by omega) with ⟨vs, hC, hY, _⟩ | ⟨b, hC, hY, _⟩
      · have hm : vs.map wd = (ts.map wd).dropLast ++ us.map wd := by
          rw [hwd] at hY
          exact (Option.some.inj hY).symm
        have hne : 1 ≤ ts.length := by
          have := Tk.words_ne _ s (Nat.le_refl _) _ hW
          cases ts with
          | nil => simp at this
          | cons x r => simp
        have hlen : vs.length = ts.length - 1 + us.length := by simpa using congrArg List.length hm
        have HE1 : Hid (∀ k (h : k < vs.length) (h1 : k < ts.length), k < ts.length - 1 → ((vs[k]).k : Int) = ((ts[k]).k : Int) ∧ (vs[k]).t = (ts[k]).t) := by
          intro k h h1 h2
          have : (vs.map wd)[k]? = ((ts.map wd).dropLast ++ us.map wd)[k]? := by rw [hm]
          rw [List.getElem?_append_left (by simpa using h2), List.getElem?_map, List.getElem?_eq_getElem h, List.getElem?_dropLast, if_pos (by simpa using h2), List.getElem?_map, List.getElem?_eq_getElem h1] at this
          simp only [Option.map_some, Option.some.injEq, wd, Prod.mk.injEq] at this
          exact ⟨by rw [this.1], this.2⟩
        have HE2 : Hid (∀ k (h : k < vs.length) (h1 : k - (ts.length - 1) < us.length), ¬ k < ts.length - 1 → ((vs[k]).k : Int) = ((us[k - (ts.length - 1)]).k : Int) ∧ (vs[k]).t = (us[k - (ts.length - 1)]).t) := by
          intro k h h1 h2
          have : (vs.map wd)[k]? = ((ts.map wd).dropLast ++ us.map wd)[k]? := by rw [hm]
          rw [List.getElem?_append_right (by simpa using h2), List.getElem?_map, List.getElem?_eq_getElem h, List.length_dropLast, List.length_map, List.getElem?_map, List.getElem?_eq_getElem h1] at this
          simp only [Option.map_some, Option.some.injEq, wd, Prod.mk.injEq] at this
          exact ⟨by rw [this.1], this.2⟩
        have n1 : ts.length ≤ 20001 := by have := Tk.lexA_len s; rw [hA] at this; exact this
        have n2 : us.length ≤ 20001 := by have := Tk.lexA_len t; rw [hB] at this; exact this
        have n3 : vs.length ≤ 20001 := by have := Tk.lexA_len st; rw [hC] at this; exact this
        have HL := Lib.hid hlen
        have H1 := Lib.hid (fun w hT => lex_ok (w := w) hA hT (by omega))
        have H2 := Lib.hid (fun w hT => lex_ok (w := w) hB hT (by omega))
        have H3 := Lib.hid (fun w hT => lex_ok (w := w) hC hT (by omega))
        have db : ((vs.length : Int) != (ts.length : Int) + (us.length : Int) - 1) = false := by simp; omega
        clear hA hB hC hW hX hY hm hwd HW hlen
        go_wp2_with fail
        refine (H1.out w3 hT3).mono ?_
        rintro e w4 ⟨A4, c4, rfl, hR1, hlo2⟩
        have hT4 := hT3.below hlo2
        replace hlo := hlo.trans (hlo2.mono hlo.size)
        clear H1 hT3 hlo2
        go_wp2_with fail
        refine (H2.out w4 hT4).mono ?_
        rintro e w5 ⟨A5, c5, rfl, hR2, hlo2⟩
        have hT5 := hT4.below hlo2
        replace hR1 := hR1.below hlo2
        replace hlo := hlo.trans (hlo2.mono hlo.size)
        clear H2 hT4 hlo2
        go_wp2_with fail
        refine (H3.out w5 hT5).mono ?_
        rintro e w6 ⟨A6, c6, rfl, hR3, hlo2⟩
        replace hR1 := hR1.below hlo2
        replace hR2 := hR2.below hlo2
        replace hlo := hlo.trans (hlo2.mono hlo.size)
        clear H3 hT5 hlo2
        go_wp2_with fail
        clear db hadd1 hadd2
        go_loopw [17] (fun i W => ∃ k : Nat, k ≤ vs.length ∧ i = .int .i64 (k : Int) ∧ Below w6.heap.size w6 W) (fun i _ => vs.length - (intOf i).toNat)
        case atStart => exact ⟨0, Nat.zero_le _, rfl, Below.refl _ _⟩
        case round =>
          obtain ⟨k, hk, rfl, hlow⟩ := hrel
          by_cases hlt : k < vs.length
          · obtain ⟨b, off, hAe, hb3, g0, g1, _⟩ := (hR3.below hlow) k hlt
            have hix := ixT b off vs.length c6 k (by omega) hlt
            subst hAe
            by_cases hk1 : k < ts.length - 1
            · have hk2 : k < ts.length := by omega
              obtain ⟨b2, off2, hAe2, hb4, g3, g4, g5⟩ := (hR1.below hlow) k hk2
              have hix2 := ixT b2 off2 ts.length c4 k (by omega) hk2
              subst hAe2
              rw [← (HE1.out k hlt hk2 hk1).1] at g3
              rw [← (HE1.out k hlt hk2 hk1).2] at g4
              have dl : decide ((k : Int) < (ts.length : Int) - 1) = true := decide_eq_true (by omega)
              go_upto_region 21 with fail
              have hbn := Blk.new wr 32 #[.int .i64 ((vs[k]).k : Int), .string (bsv (vs[k]).t), .int .i64 ((ts[k]).a : Int)]
              have x0 := hbn.cell 0
              have x1 := hbn.cell 1
              simp only [List.getElem?_toArray, List.getElem?_cons_zero, List.getElem?_cons_succ] at x0 x1
              have g6 := (World.cell?_alloc_lt wr (Obj.cells #[.int .i64 ((vs[k]).k : Int), .string (bsv (vs[k]).t), .int .i64 ((ts[k]).a : Int)] 32) ⟨b, off + k * 3, none⟩ hb3).trans g0
              have g7 := (World.cell?_alloc_lt wr (Obj.cells #[.int .i64 ((vs[k]).k : Int), .string (bsv (vs[k]).t), .int .i64 ((ts[k]).a : Int)] 32) ⟨b, off + k * 3 + 1, none⟩ hb3).trans g1
              have hlow2 := hlow.alloc hlow.size (Obj.cells #[.int .i64 ((vs[k]).k : Int), .string (bsv (vs[k]).t), .int .i64 ((ts[k]).a : Int)] 32)
              generalize wr.alloc (Obj.cells #[.int .i64 ((vs[k]).k : Int), .string (bsv (vs[k]).t), .int .i64 ((ts[k]).a : Int)] 32) = V at *
              have dk : (((vs[k]).k : Int) != ((vs[k]).k : Int)) = false := by simp
              clear hbn g0 g1 g3 g4 g5
              go_quiet (fail)
              go_wp2
              go_roundw
              case rel => exact ⟨k + 1, by omega, by go_num, below_drewN hlow2 nq⟩
              case measure => simp [intOf]; omega
            · have dl : decide ((k : Int) < (ts.length : Int) - 1) = false := decide_eq_false (by omega)
              have HJ : Hid (k - (ts.length - 1) < us.length) := by
                have := HL.out
                unfold Hid
                omega
              have HJE : Hid (((k - (ts.length - 1) : Nat) : Int) = (k : Int) - (ts.length : Int) + 1) := by unfold Hid; omega
              obtain ⟨b2, off2, hAe2, hb4, g3, g4, g5⟩ := (hR2.below hlow) (k - (ts.length - 1)) HJ.out
              have hix2 := ixT b2 off2 us.length c5 (k - (ts.length - 1)) (by omega) HJ.out
              rw [HJE.out] at hix2
              subst hAe2
              have e2 := HE2.out k hlt HJ.out hk1
              generalize us[k - (ts.length - 1)]'HJ.out = x at *
              obtain ⟨xk, xt, xa⟩ := x
              simp only at g3 g4 g5 e2
              rw [← e2.1] at g3
              rw [← e2.2] at g4
              clear e2
              generalize k - (ts.length - 1) = j at *
              go_upto_region 21 with fail
              have hbn := Blk.new wr 32 #[.int .i64 ((vs[k]).k : Int), .string (bsv (vs[k]).t), .int .i64 (xa : Int)]
              have x0 := hbn.cell 0
              have x1 := hbn.cell 1
              simp only [List.getElem?_toArray, List.getElem?_cons_zero, List.getElem?_cons_succ] at x0 x1
              have g6 := (World.cell?_alloc_lt wr (Obj.cells #[.int .i64 ((vs[k]).k : Int), .string (bsv (vs[k]).t), .int .i64 (xa : Int)] 32) ⟨b, off + k * 3, none⟩ hb3).trans g0
              have g7 := (World.cell?_alloc_lt wr (Obj.cells #[.int .i64 ((vs[k]).k : Int), .string (bsv (vs[k]).t), .int .i64 (xa : Int)] 32) ⟨b, off + k * 3 + 1, none⟩ hb3).trans g1
              have hlow2 := hlow.alloc hlow.size (Obj.cells #[.int .i64 ((vs[k]).k : Int), .string (bsv (vs[k]).t), .int .i64 (xa : Int)] 32)
              generalize wr.alloc (Obj.cells #[.int .i64 ((vs[k]).k : Int), .string (bsv (vs[k]).t), .int .i64 (xa : Int)] 32) = V at *
              have dk : (((vs[k]).k : Int) != ((vs[k]).k : Int)) = false := by simp
              clear hbn g0 g1 g3 g4 g5
              go_quiet (fail)
              go_wp2
              go_roundw
              case rel => exact ⟨k + 1, by omega, by go_num, below_drewN hlow2 nq⟩
              case measure => simp [intOf]; omega
          · go_wp2
            go_ret
            exact ⟨rfl, hlo.trans (hlow.mono hlo.size)⟩
      · rw [hwd] at hY
        cases hY
    · have hwd : Tk.wordsS st = none := by
        rw [HW.out, hW, hX]
        rfl
      rcases Tk.lexA_cases st (by omega) with ⟨vs, _, hY, _⟩ | ⟨b3, hC, _, _⟩
      · rw [hwd] at hY
        cases hY
      · have H1 := Lib.hid (fun w hT => lex_ok (w := w) hA hT (by omega))
        have H2 := Lib.hid (fun w hT => lex_bad (w := w) hB hT (by omega))
        have H3 := Lib.hid (fun w hT => lex_bad (w := w) hC hT (by omega))
        clear hA hB hC hW hX hwd HW
        go_wp2_with fail
        refine (H1.out w3 hT3).mono ?_
        rintro e w4 ⟨A4, c4, rfl, _, hlo2⟩
        have hT4 := hT3.below hlo2
        replace hlo := hlo.trans (hlo2.mono hlo.size)
        clear H1 hT3 hlo2
        go_wp2_with fail
        refine (H2.out w4 hT4).mono ?_
        rintro e w5 ⟨A5, c5, rfl, hlo2⟩
        have hT5 := hT4.below hlo2
        replace hlo := hlo.trans (hlo2.mono hlo.size)
        clear H2 hT4 hlo2
        go_wp2_with fail
        refine (H3.out w5 hT5).mono ?_
        rintro e w6 ⟨A6, c6, rfl, hlo2⟩
        replace hlo := hlo.trans (hlo2.mono hlo.size)
        clear H3 hT5 hlo2
        go_wp2
        go_ret
        exact ⟨rfl, hlo⟩
  · have hwd : Tk.wordsS st = none := by
      rw [HW.out, hW]
    rcases Tk.lexA_cases st (by omega) with ⟨vs, _, hY, _⟩ | ⟨b3, hC, _, _⟩
    · rw [hwd] at hY
      cases hY
    · have H1 := Lib.hid (fun w hT => lex_bad (w := w) hA hT (by omega))
      have H3 := Lib.hid (fun w hT => lex_bad (w := w) hC hT (by omega))
      rcases Tk.lexA_cases t (by omega) with ⟨us, hB, _, _⟩ | ⟨b, hB, _, _⟩
      · have H2 := Lib.hid (fun w hT => lex_ok (w := w) hB hT (by omega))
        clear hA hB hC hW hwd HW
        go_wp2_with fail
        refine (H1.out w3 hT3).mono ?_
        rintro e w4 ⟨A4, c4, rfl, hlo2⟩
        have hT4 := hT3.below hlo2
        replace hlo := hlo.trans (hlo2.mono hlo.size)
        clear H1 hT3 hlo2
        go_wp2_with fail
        refine (H2.out w4 hT4).mono ?_
        rintro e w5 ⟨A5, c5, rfl, _, hlo2⟩
        have hT5 := hT4.below hlo2
        replace hlo := hlo.trans (hlo2.mono hlo.size)
        clear H2 hT4 hlo2
        go_wp2_with fail
        refine (H3.out w5 hT5).mono ?_
        rintro e w6 ⟨A6, c6, rfl, hlo2⟩
        replace hlo := hlo.trans (hlo2.mono hlo.size)
        clear H3 hT5 hlo2
        go_wp2
        go_ret
        exact ⟨rfl, hlo⟩
      · have H2 := Lib.hid (fun w hT => lex_bad (w := w) hB hT (by omega))
        clear hA hB hC hW hwd HW
        go_wp2_with fail
        refine (H1.out w3 hT3).mono ?_
        rintro e w4 ⟨A4, c4, rfl, hlo2⟩
        have hT4 := hT3.below hlo2
        replace hlo := hlo.trans (hlo2.mono hlo.size)
        clear H1 hT3 hlo2
        go_wp2_with fail
        refine (H2.out w4 hT4).mono ?_
        rintro e w5 ⟨A5, c5, rfl, hlo2⟩
        have hT5 := hT4.below hlo2
        replace hlo := hlo.trans (hlo2.mono hlo.size)
        clear H2 hT4 hlo2
        go_wp2_with fail
        refine (H3.out w5 hT5).mono ?_
        rintro e w6 ⟨A6, c6, rfl, hlo2⟩
        replace hlo := hlo.trans (hlo2.mono hlo.size)
        clear H3 hT5 hlo2
        go_wp2
        go_ret
        exact ⟨rfl, hlo⟩
end Go.Proofs.YtnkondmpekbblaaDoor
