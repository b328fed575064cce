/- TokenBack's walk: the texts of a text's tokens, with blanks between, are the same tokens. -/
import Derived.Test.YtnkondmpekbblaaDoorTP
import Derived.Test.YtnkondmpekbblaaDoorTW
import Derived.Deep.CutRange
import Derived.Deep.DeepCutAuto
namespace Go.Proofs.YtnkondmpekbblaaDoor
open Go.RowKit
attribute [local go_sem] bsv_size

/-- A token's kind and text. -/
def wd (t : Tk.Tok) : Nat × Tk.Bs := (t.k, t.t)
theorem join_take_len (l : List (Nat × Tk.Bs)) (k : Nat) : (Tk.joinS (l.take k)).length ≤ (Tk.joinS l).length := by
  have : Tk.joinS l = Tk.joinS (l.take k) ++ Tk.joinS (l.drop k) := by
    unfold Tk.joinS
    rw [← List.flatMap_append, List.take_append_drop]
  rw [this, List.length_append]
  omega
theorem join_step (ts : List Tk.Tok) (k : Nat) (h : k < ts.length) : Tk.joinS ((ts.map wd).take (k + 1)) = (Tk.joinS ((ts.map wd).take k) ++ [32]) ++ (ts[k]).t := by
  rw [List.take_add_one, List.getElem?_map, List.getElem?_eq_getElem h]
  simp only [Option.map_some, Option.toList_some]
  rw [Tk.join_snoc]
  simp [wd]
set_option maxRecDepth 100000 in
set_option maxHeartbeats 4000000 in
theorem tokenBack_walk (s0 : ByteArray) (A0 : Option Addr) (c0 : Nat) (zs : List Int) (small : Bool) (w : World) (hs : s0.size ≤ maxLen) (hml : zs.length ≤ maxLen) (hU : Ub w w.heap.size A0 zs) (hT : Tabs w) :
    Calls Tryd.prog 5 #[.string s0, .slice A0 zs.length c0, .bool small] w fun e w' => e = .returned (.bool true) ∧ Below w.heap.size w w' := by
  have e0 : s0 = bsv s0.data.toList := by
    cases s0
    simp [bsv]
  rw [e0] at hs ⊢
  generalize s0.data.toList = s at *
  clear e0
  rw [bsv_size] at hs
  have hs2 : s.length ≤ 9223372036854775807 := by
    have : maxLen ≤ 9223372036854775807 := by decide
    omega
  clear hs
  have HA := Lib.hid (awake_any w hT.sig hT.lt)
  have HP := Lib.hid (fun w hU => pieces_any A0 c0 zs w hml hU)
  have HPL := Lib.hid (piecesS_len zs)
  generalize piecesS zs = ps at *
  go_enter Tryd.func5, Tryd.ntmps5
  go_wp2_with fail
  refine HA.out.mono ?_
  rintro e w1 ⟨rfl, hlo⟩
  have hT1 := hT.below hlo
  have hU1 := (hU.below hlo (Nat.le_refl _)).more hlo.size
  clear HA hU hT
  go_upto_region 4 with fail
  go_cut [25] from 20 (fun c wx => c = .bool (small || decide (600 < s.length)) ∧ w1 = wx)
  case first =>
    cases small with
    | true =>
      go_wp2
      go_meet
      case rel => exact ⟨rfl, rfl⟩
    | false =>
      go_wp2
      go_meet
      case rel => exact ⟨by simp; omega, rfl⟩
  case rest =>
    obtain ⟨rfl, rfl⟩ := hcut
    generalize hb : (small || decide (600 < s.length)) = b at *
    go_upto_if 25 with fail
    go_cut [0] from 26 (fun v wx => ∃ u : Tk.Bs, v = .string (bsv u) ∧ u.length ≤ 600 ∧ Below w.heap.size w wx ∧ Tabs wx)
    case first =>
      cases b with
      | true =>
        go_wp2_with fail
        refine (HP.out w1 hU1).mono ?_
        rintro e w2 ⟨rfl, hlo2⟩
        go_wp2
        go_meet
        case rel => exact ⟨ps, rfl, by have := HPL.out; omega, hlo.trans (hlo2.mono hlo.size), hT1.below hlo2⟩
      | false =>
        have h6 : s.length ≤ 600 := by
          simp at hb
          exact hb.2
        go_wp2
        go_meet
        case rel => exact ⟨s, rfl, h6, hlo, hT1⟩
    case rest =>
      obtain ⟨u, rfl, hu6, hlo2, hT2⟩ := hcut
      generalize wc = w2 at *
      clear hb HP HPL hU1 hT1 hlo
      have HL := Lib.hid (lex_any u w2 (by omega) hT2.sig hT2.lt)
      have hLN := Tk.lexA_len u
      unfold LexP at HL
      rcases Tk.lexA_cases u (by omega) with ⟨ts, hA, hW0, hTX⟩ | ⟨a, hA, _, ha⟩
      · rw [hA] at HL hLN
        have HL2 : Hid (Calls Tryd.prog 10 #[.string (bsv u)] w2 fun e w' => ∃ v, e = .returned (.tuple #[v, .int .i64 0, .int .i64 0]) ∧ w'.ownsRow w2.heap.size 32 3 v ts.length (flatT ts) ∧ Below w2.heap.size w2 w') := HL.out
        have hW : Tk.wordsS u = some (ts.map wd) := hW0
        obtain ⟨hb1, hb2⟩ := Tk.words_back _ u (Nat.le_refl _) _ hW
        have HB1 := Lib.hid hb1
        have hl : ts.length ≤ 20001 := hLN
        clear HL hLN hA hW0 hW hb1
        go_wp2_with fail
        refine HL2.out.mono ?_
        rintro e w3 ⟨v, rfl, hrow, hlo3⟩
        obtain ⟨A, c, rfl, hR⟩ := row_tr hrow
        have hlo4 := hlo2.trans (hlo3.mono hlo2.size)
        have hT3 := hT2.below hlo3
        clear hrow hlo3 hT2 HL2
        go_wp2
        go_loopw [11, 12] (fun t i W => ∃ k : Nat, k ≤ ts.length ∧ i = .int .i64 (k : Int) ∧ t = .string (bsv (Tk.joinS ((ts.map wd).take k))) ∧ ∃ q, W = w3.drewN q) (fun _ i _ => ts.length - (intOf i).toNat)
        case atStart => exact ⟨0, Nat.zero_le _, rfl, rfl, 0, rfl⟩
        case round =>
          obtain ⟨k, hk, rfl, rfl, q, rfl⟩ := hrel
          by_cases hlt : k < ts.length
          · obtain ⟨b, off, hAe, _, g0, g1, g2⟩ := hR k hlt
            subst hAe
            have hix := ixT b off ts.length c k (by omega) hlt
            have HJ := Lib.hid (join_step ts k hlt)
            have hj1 : (Tk.joinS ((ts.map wd).take k)).length + 1 + (ts[k]).t.length ≤ 1201 := by
              have h1 := congrArg List.length HJ.out
              have h2 := join_take_len (ts.map wd) (k + 1)
              simp at h1
              omega
            have HX := Lib.hid (hTX (ts[k]) (List.getElem_mem hlt))
            generalize ts[k] = x at *
            obtain ⟨xk, xt, xa⟩ := x
            simp only at g0 g1 g2 HJ hj1 HX
            generalize Tk.joinS ((ts.map wd).take k) = y at *
            have hadd1 : ∀ w, (Op.stringOp .add (bsv y) ⟨#[32]⟩).run Tryd.prog w = .ok (.string (bsv (y ++ [32]))) w := add_bsv y [32] (by simp; omega)
            have hadd2 := add_bsv (y ++ [32]) xt (by simp; omega)
            by_cases hk0 : xk = 0
            · subst hk0
              rw [show ((0 : Nat) : Int) = 0 from rfl] at g0
              clear HX
              go_wp2
              go_quiet (fail)
              go_wp2
              go_roundw
              case rel => exact ⟨k + 1, by omega, by go_num, by rw [HJ.out]; simp, q + nq, rfl⟩
              case measure => simp [intOf]; omega
            · have d0 : ((xk : Int) != 0) = true := by simp; omega
              obtain ⟨hx1, hx2⟩ := HX.out.resolve_left hk0
              have hsl := sl2_bsv u xa xt.length hx1
              rw [hx2] at hsl
              have d1 : decide ((xa : Int) < 0) = false := decide_eq_false (by omega)
              have d2 : decide ((u.length : Int) < (xa : Int) + (xt.length : Int)) = false := decide_eq_false (by omega)
              clear HX hx2
              go_wp2
              go_quiet (fail)
              go_wp2
              go_roundw
              case rel => exact ⟨k + 1, by omega, by go_num, by rw [HJ.out]; simp, q + nq, rfl⟩
              case measure => simp [intOf]; omega
          · obtain rfl : k = ts.length := by omega
            have hte : (ts.map wd).take ts.length = ts.map wd := List.take_of_length_le (by simp)
            rw [hte]
            clear hte hlt hk hTX
            have hT4 : Tabs (w3.drewN q) := ⟨hT3.sig, hT3.lt⟩
            have hR4 : Tr (w3.drewN q) A ts := hR
            have hlo5 := below_drewN hlo4 q
            clear hT3 hR hlo4
            generalize w3.drewN q = w4 at *
            generalize hy : Tk.joinS (ts.map wd) = y at *
            clear hy
            have HL := Lib.hid (lex_any y w4 (by omega) hT4.sig hT4.lt)
            unfold LexP at HL
            rcases Tk.lexA_cases y (by omega) with ⟨ts2, hA, hW0, _⟩ | ⟨a, _, hW2, _⟩
            · rw [hA] at HL
              have hW : Tk.wordsS y = some (ts2.map wd) := hW0
              have hm : ts2.map wd = ts.map wd := by
                rw [HB1.out] at hW
                exact (Option.some.inj hW).symm
              have hlen : ts2.length = ts.length := by simpa using congrArg List.length hm
              have HL2 : Hid (Calls Tryd.prog 10 #[.string (bsv y)] w4 fun e w' => ∃ v, e = .returned (.tuple #[v, .int .i64 0, .int .i64 0]) ∧ w'.ownsRow w4.heap.size 32 3 v ts2.length (flatT ts2) ∧ Below w4.heap.size w4 w') := HL.out
              have HE : Hid (∀ k (h : k < ts.length) (h2 : k < ts2.length), ((ts2[k]).k : Int) = ((ts[k]).k : Int) ∧ (ts2[k]).t = (ts[k]).t) := by
                intro k h h2
                have := congrArg (fun l => l[k]?) hm
                simp only [List.getElem?_map, List.getElem?_eq_getElem h, List.getElem?_eq_getElem h2, Option.map_some, Option.some.injEq] at this
                have e1 := congrArg Prod.fst this
                have e2 := congrArg Prod.snd this
                simp only [wd] at e1 e2
                exact ⟨by rw [e1], e2⟩
              have HLN := Lib.hid hlen
              clear HL hA hW0 hW hm hlen HB1 hb2
              go_wp2_with fail
              refine HL2.out.mono ?_
              rintro e w5 ⟨v, rfl, hrow, hlo6⟩
              obtain ⟨A2, c2, hv2, hR2⟩ := row_tr hrow
              rw [HLN.out] at hv2
              subst hv2
              have hR5 := hR4.below hlo6
              have lo := hlo5.trans (hlo6.mono hlo5.size)
              clear hrow hlo6 hT4 HL2 hR4 hlo5
              have b2 : ((ts.length : Int) != (ts.length : Int)) = false := by simp
              go_wp2_with fail
              clear b2
              go_loopw [16] (fun i W => ∃ k : Nat, k ≤ ts.length ∧ i = .int .i64 (k : Int) ∧ ∃ q, W = w5.drewN q) (fun i _ => ts.length - (intOf i).toNat)
              case atStart => exact ⟨0, Nat.zero_le _, rfl, 0, rfl⟩
              case round =>
                obtain ⟨k, hk, rfl, q, rfl⟩ := hrel
                by_cases hlt : k < ts.length
                · obtain ⟨b, off, hAe, _, g0, g1, _⟩ := hR5 k hlt
                  obtain ⟨b2, off2, hAe2, _, g3, g4, _⟩ := hR2 k (HLN.out.symm ▸ hlt)
                  subst hAe hAe2
                  have hix := ixT b off ts.length c k (by omega) hlt
                  have hix2 := ixT b2 off2 ts.length c2 k (by omega) hlt
                  rw [(HE.out k hlt (HLN.out.symm ▸ hlt)).1] at g3
                  rw [(HE.out k hlt (HLN.out.symm ▸ hlt)).2] at g4
                  generalize ts[k] = x at *
                  obtain ⟨xk, xt, xa⟩ := x
                  simp only at g0 g1 g3 g4
                  have dk : ((xk : Int) != (xk : Int)) = false := by simp
                  go_wp2
                  go_quiet (fail)
                  go_wp2
                  go_roundw
                  case rel => exact ⟨k + 1, by omega, by go_num, q + nq, rfl⟩
                  case measure => simp [intOf]; omega
                · go_wp2
                  go_ret
                  exact ⟨rfl, below_drewN lo q⟩
            · rw [HB1.out] at hW2
              cases hW2
      · rw [hA] at HL
        have HL2 : Hid (Calls Tryd.prog 10 #[.string (bsv u)] w2 fun e w' => ∃ v, e = .returned (.tuple #[v, .int .i64 40, .int .i64 (a : Int)]) ∧ w'.ownsRow w2.heap.size 32 3 v 0 [] ∧ Below w2.heap.size w2 w') := HL.out
        clear HL hLN hA
        go_wp2_with fail
        refine HL2.out.mono ?_
        rintro e w3 ⟨v, rfl, hrow, hlo3⟩
        obtain ⟨A, c, rfl⟩ := row_slice hrow
        have d1 : decide ((0 : Int) ≤ (a : Int)) = true := decide_eq_true (by omega)
        have d2 : decide ((a : Int) < (u.length : Int)) = true := decide_eq_true (by omega)
        clear hrow
        go_wp2
        go_ret
        exact ⟨rfl, hlo2.trans (hlo3.mono hlo2.size)⟩
end Go.Proofs.YtnkondmpekbblaaDoor
