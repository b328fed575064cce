/- The document's tokens: all of a text. -/
import Derived.Test.YtlddnejjpekgeaaDoorQae
set_option linter.unusedSimpArgs false
set_option linter.unusedVariables false
namespace Go.Proofs.YtlddnejjpekgeaaDoor
open Go.RowKit
attribute [local go_sem] bsv_size

theorem lex_done {s : Tk.Bs} {ts : List Tk.Tok} {a : Nat} (hl : s.length ≤ 20000) (h : Tk.Mid s ts a) (ha : s.length ≤ a) : Tk.lexA s = (ts ++ [⟨0, [], s.length⟩], 0, 0) := by
  unfold Tk.lexA
  rw [if_neg (by omega), Tk.mid_end h ha]
theorem lex_fail {s : Tk.Bs} {ts : List Tk.Tok} {a : Nat} (hl : s.length ≤ 20000) (h : Tk.Mid s ts a) (ha : a < s.length) (h0 : (Tk.firstS (s.drop a)).2 = 0) : Tk.lexA s = ([], 40, a) := by
  unfold Tk.lexA
  rw [if_neg (by omega), Tk.mid_bad h ha h0]
/-- What comes of the text from a place on, by the lengths of the letters, of the quoted name, of the sign. -/
structure Ways (s : Tk.Bs) (ts : List Tk.Tok) (a : Nat) (u : Tk.Bs) (n q g : Nat) : Prop where
  nroom : a + n ≤ s.length
  name : n ≠ 0 → Tk.Mid s (ts ++ [⟨1, u.take n, a⟩]) (Tk.skipS s (a + n))
  quoted : n = 0 → q ≠ 0 → a + q ≤ s.length ∧ Tk.Mid s (ts ++ [⟨1, u.take q, a⟩]) (Tk.skipS s (a + q))
  sign : n = 0 → q = 0 → g ≠ 0 → a + g ≤ s.length ∧ Tk.Mid s (ts ++ [⟨2, u.take g, a⟩]) (Tk.skipS s (a + g))
  none : n = 0 → q = 0 → g = 0 → Tk.lexA s = ([], 40, a)
theorem ways_of {s : Tk.Bs} {ts : List Tk.Tok} {a : Nat} (hl : s.length ≤ 20000) (h : Tk.Mid s ts a) (ha : a < s.length) : Ways s ts a (s.drop a) (Tk.runS Tk.plainB (s.drop a)) (Tk.quotedS (s.drop a)) (Tk.signS (s.drop a)) := by
  have hF : Tk.firstS (s.drop a) = if Tk.runS Tk.plainB (s.drop a) ≠ 0 then (1, Tk.runS Tk.plainB (s.drop a)) else if Tk.quotedS (s.drop a) ≠ 0 then (1, Tk.quotedS (s.drop a)) else (2, Tk.signS (s.drop a)) := rfl
  have hT := Tk.mid_tok h ha
  have hE := lex_fail hl h ha
  have hR := Tk.first_room (s := s) (a := a) (by omega)
  have hN := Tk.run_le Tk.plainB (s.drop a)
  rw [List.length_drop] at hN
  generalize Tk.runS Tk.plainB (s.drop a) = n at *
  generalize Tk.quotedS (s.drop a) = q at *
  generalize Tk.signS (s.drop a) = g at *
  generalize Tk.firstS (s.drop a) = f at *
  refine ⟨by omega, fun h1 => ?_, fun h1 h2 => ?_, fun h1 h2 h3 => ?_, fun h1 h2 h3 => ?_⟩
  · rw [if_pos h1] at hF
    subst hF
    exact hT h1
  · rw [if_neg (by simp [h1]), if_pos h2] at hF
    subst hF
    exact ⟨hR, hT h2⟩
  · rw [if_neg (by simp [h1]), if_neg (by simp [h2])] at hF
    subst hF
    exact ⟨hR, hT h3⟩
  · rw [if_neg (by simp [h1]), if_neg (by simp [h2])] at hF
    subst hF
    exact hE h3
set_option maxHeartbeats 2000000 in
theorem reflex_long (s : Tk.Bs) (w : World) (hs : s.length ≤ 9223372036854775807) (hl : ¬ s.length ≤ 20000) : Calls Tryd.prog 52 #[.string (bsv s)] w (LexP s w) := by
  have hA : Tk.lexA s = ([], 2, 0) := by unfold Tk.lexA; rw [if_pos (by omega)]
  have HA := Lib.hid hA
  clear hA
  go_enter Tryd.func52, Tryd.ntmps52
  go_wp2
  refine bodyPost_ret (v := .tuple #[.slice none 0 0, .int .i64 2, .int .i64 0]) (by simp [results, Tryd.f52, go_sem]) rfl ?_
  exact ⟨.slice none 0 0, by rw [HA.out]; rfl, by rw [HA.out]; exact World.ownsRow_nil _ _ _ _, Below.refl _ _⟩
/-- What the document's reading keeps: the list, and all that lay there. -/
structure RL (w W : World) (v : Value) (ts : List Tk.Tok) : Prop where
  low : Below w.heap.size w W
  row : W.ownsRow w.heap.size 53 3 v ts.length (flatT ts)
theorem RL.below {w W W' : World} {v : Value} {ts : List Tk.Tok} (h : RL w W v ts) (hb : Below W.heap.size W W') : RL w W' v ts := ⟨h.low.trans (hb.mono h.low.size), row_below h.row hb⟩
/-- One more token. -/
theorem RL.put {w W : World} {v : Value} {ts : List Tk.Tok} (h : RL w W v ts) (hn : ts.length ≤ 100000) (t : Tk.Tok) (ty : TypeId) : ∃ v' W2, (Builtin.append_ #[39, 39] ty #[v, .slice (some ⟨W.heap.size, 0, none⟩) 1 1]).run Tryd.prog (W.alloc (Obj.cells #[.int .i64 (t.k : Int), .string (bsv t.t), .int .i64 (t.a : Int)] 53)) = .ok v' W2 ∧ RL w W2 v' (ts ++ [t]) := by
  have h1 := h.below (lowAlloc W (Obj.cells #[.int .i64 (t.k : Int), .string (bsv t.t), .int .i64 (t.a : Int)] 53))
  have hbk := Blk.new W 53 #[.int .i64 (t.k : Int), .string (bsv t.t), .int .i64 (t.a : Int)]
  obtain ⟨v', W2, r1, r2, r3, _⟩ := app_tok (W.alloc (Obj.cells #[.int .i64 (t.k : Int), .string (bsv t.t), .int .i64 (t.a : Int)] 53)) w.heap.size ty v ts.length _ h1.row W.heap.size 1 _ _ _ hbk hn h1.low.size
  refine ⟨v', W2, r1, h1.low.grown r3 h1.low.size (row_base h1.row), ?_⟩
  rw [List.length_append, flatT_append]
  exact r2

set_option maxRecDepth 100000 in
set_option maxHeartbeats 8000000 in
theorem reflex_short (s : Tk.Bs) (w : World) (hl : s.length ≤ 20000) : Calls Tryd.prog 52 #[.string (bsv s)] w (LexP s w) := by
  go_enter Tryd.func52, Tryd.ntmps52
  go_wp2
  go_loopw [5, 6] (fun v i W => ∃ (a : Nat) (ts : List Tk.Tok), i = .int .i64 (a : Int) ∧ a ≤ s.length ∧ Tk.Mid s ts (Tk.skipS s a) ∧ RL w W v ts) (fun _ i _ => s.length - (intOf i).toNat)
  case atStart => exact ⟨0, [], rfl, Nat.zero_le _, Tk.mid_start s, Below.refl _ _, World.ownsRow_nil _ _ _ _⟩
  case round =>
    obtain ⟨a, ts, rfl, hal, hMid, hI⟩ := hrel
    have HLN : Hid (ts.length ≤ 100000) := by
      unfold Hid
      have := Tk.mid_len hMid
      omega
    have HSV := Lib.hid (row_slice hI.row)
    by_cases hlt : a < s.length
    · have hsl := sl_bsv s a hal
      have hix := ix_bsv s a hlt
      have hu : s.drop a = s[a] :: s.drop (a + 1) := List.drop_eq_getElem_cons hlt
      have HSG := Lib.hid (refsign_any (s.drop a) wr (by rw [List.length_drop]; omega))
      have HQ0 := Lib.hid (fun w2 => refquoted_any (s[a]) (s.drop (a + 1)) w2 (by rw [List.length_drop]; omega))
      have HQU : Hid ((s[a]).toNat = 34 → ∀ w2, Calls Tryd.prog 69 #[.string (bsv (s.drop a))] w2 fun e w' => e = .returned (.int .i64 (Tk.quotedS (s.drop a) : Nat)) ∧ w2 = w') := fun h w2 => by
        rw [hu, rq_quoted h]
        exact HQ0.out w2
      have HQN : Hid ((s[a]).toNat ≠ 34 → Tk.quotedS (s.drop a) = 0) := fun h => by
        rw [hu]
        exact no_quoted h
      have HBL : Hid (((s[a]).toNat = 32 ∨ (s[a]).toNat = 9 ∨ (s[a]).toNat = 10) → Tk.Mid s ts (Tk.skipS s (a + 1))) := fun h => by
        rw [← Tk.skip_blank hlt (by simp [Tk.blankB, h])]
        exact hMid
      have HWY : Hid (¬ ((s[a]).toNat = 32 ∨ (s[a]).toNat = 9 ∨ (s[a]).toNat = 10) → Ways s ts a (s.drop a) (Tk.runS Tk.plainB (s.drop a)) (Tk.quotedS (s.drop a)) (Tk.signS (s.drop a))) := fun h => by
        rw [Tk.skip_not hlt (by simp [Tk.blankB, h])] at hMid
        exact ways_of hl hMid hlt
      have HIN : Hid (∀ j (hj : j < (s.drop a).length) w, (Instr.index 9 (.string (bsv s)) (.int .i64 ((a : Int) + (j : Int)))).run Tryd.prog w = .ok (.int .u8 (((s.drop a)[j]).toNat : Int)) w) := fun j hj w => by
        rw [List.length_drop] at hj
        have := ix_bsv s (a + j) (by omega) w
        rw [show ((a + j : Nat) : Int) = (a : Int) + (j : Int) by omega] at this
        rw [this, List.getElem_drop]
      have HLU : Hid (s.length = a + (s.drop a).length) := by unfold Hid; rw [List.length_drop]; omega
      have HRO := Lib.hid (fun (m : Nat) (h1 : m ≤ (s.drop a).length) h2 h3 => Tk.run_of (p := Tk.plainB) (s := s.drop a) (n := m) h1 h2 h3)
      generalize (s[a]).toNat = b at *
      clear hMid HQ0 hu
      generalize hu : s.drop a = u at *
      generalize Tk.quotedS u = q at *
      generalize Tk.signS u = g at *
      go_wp2
      go_loopw [7] (fun n W => ∃ j : Nat, j ≤ u.length ∧ n = .int .i64 (j : Int) ∧ (∀ i (hi : i < u.length), i < j → Tk.plainB (u[i]) = true) ∧ wr = W) (fun n _ => u.length - (intOf n).toNat)
      case atStart => exact ⟨0, Nat.zero_le _, rfl, fun _ _ h => absurd h (Nat.not_lt_zero _), rfl⟩
      case round =>
        obtain ⟨j, hj, rfl, hall, rfl⟩ := hrel
        have HJ := Lib.hid hall
        clear hall
        by_cases hjl : j < u.length
        · have hixn := HIN.out j hjl
          have hjs : a + j < s.length := by have := HLU.out; omega
          have dl : decide ((a : Int) + (j : Int) < (s.length : Int)) = true := decide_eq_true (by have := HLU.out; omega)
          go_wp2_with fail
          refine (letter_any (u[j]) wr).mono ?_
          rintro e w1 ⟨rfl, rfl⟩
          cases hp : Tk.plainB (u[j]) with
          | true =>
            go_wp2
            go_roundw
            case rel =>
              refine ⟨j + 1, by omega, by go_num, fun i hi h => ?_, trivial⟩
              by_cases hji : i = j
              · subst hji
                exact hp
              · exact HJ.out i hi (by omega)
            case measure => simp [intOf]; omega
          | false =>
            rw [HRO.out j hj HJ.out (fun _ => hp)] at HWY
            clear HRO HJ hp dl HIN hixn HLU
            generalize j = n at *
            go_wp2_with fail
            refine HSG.out.mono ?_
            rintro e w2 ⟨rfl, hb2⟩
            have hI2 := hI.below hb2
            clear HSG hI hb2
            by_cases h32 : b = 32
            · subst h32
              have HMN := Lib.hid (HBL.out (by decide))
              go_wp2
              go_roundw
              case rel => exact ⟨a + 1, ts, by go_num, hlt, HMN.out, hI2⟩
              case measure => simp [intOf]; omega
            by_cases h9 : b = 9
            · subst h9
              have HMN := Lib.hid (HBL.out (by decide))
              go_wp2
              go_roundw
              case rel => exact ⟨a + 1, ts, by go_num, hlt, HMN.out, hI2⟩
              case measure => simp [intOf]; omega
            by_cases h10 : b = 10
            · subst h10
              have HMN := Lib.hid (HBL.out (by decide))
              go_wp2
              go_roundw
              case rel => exact ⟨a + 1, ts, by go_num, hlt, HMN.out, hI2⟩
              case measure => simp [intOf]; omega
            have d32 : ((b : Int) == 32) = false := by rw [beq_eq_false_iff_ne]; omega
            have d9 : ((b : Int) == 9) = false := by rw [beq_eq_false_iff_ne]; omega
            have d10 : ((b : Int) == 10) = false := by rw [beq_eq_false_iff_ne]; omega
            have HW := HWY.out (by omega)
            clear HWY HBL
            by_cases hn : n = 0
            · subst hn
              by_cases h34 : b = 34
              · subst h34
                have HQ2 := HQU.out rfl w2
                by_cases hq : q = 0
                · subst hq
                  go_wp2_with fail
                  refine HQ2.mono ?_
                  rintro e w1 ⟨rfl, rfl⟩
                  clear HQ2 HQU
                  by_cases hg : g = 0
                  · subst hg
                    have HE := Lib.hid (HW.none rfl rfl rfl)
                    go_wp2
                    refine bodyPost_ret (v := .tuple #[.slice none 0 0, .int .i64 40, .int .i64 (a : Int)]) (by simp [results, Tryd.f52, go_sem]) rfl ?_
                    exact ⟨.slice none 0 0, by rw [HE.out]; rfl, by rw [HE.out]; exact World.ownsRow_nil _ _ _ _, hI2.low⟩
                  · have hg0 : 0 < g := by omega
                    have hsl2 := sl2_bsv s a g (HW.sign rfl rfl hg).1
                    rw [hu] at hsl2
                    have hrm := (HW.sign rfl rfl hg).1
                    have HRUN : Hid (∀ ty, ∃ v' W2, (Builtin.append_ #[39, 39] ty #[u5, .slice (some ⟨w2.heap.size, 0, none⟩) 1 1]).run Tryd.prog (w2.alloc (Obj.cells #[.int .i64 ((2 : Nat) : Int), .string (bsv (u.take g)), .int .i64 (a : Int)] 53)) = .ok v' W2 ∧ RL w W2 v' (ts ++ [⟨2, u.take g, a⟩])) := fun ty => hI2.put HLN.out ⟨2, u.take g, a⟩ ty
                    have HMN := Lib.hid ((HW.sign rfl rfl hg).2)
                    clear HW hI2
                    generalize u.take g = txt at *
                    obtain ⟨A, c, rfl⟩ := HSV.out
                    go_wp2_with (at_builtin; go_loud (refine wpList_app rfl (.tmp 101) (.tmp 110) 39 rfl _ _ rfl rfl _ HRUN.out ?_); intro v3 W4 hR4)
                    go_roundw
                    case rel => exact ⟨a + g, ts ++ [⟨2, txt, a⟩], by go_num, hrm, HMN.out, hR4⟩
                    case measure => simp [intOf]; omega
                · have hq0 : 0 < q := by omega
                  go_wp2_with fail
                  refine HQ2.mono ?_
                  rintro e w1 ⟨rfl, rfl⟩
                  go_wp2_with fail
                  refine HQ2.mono ?_
                  rintro e w1 ⟨rfl, rfl⟩
                  clear HQ2 HQU
                  have hsl2 := sl2_bsv s a q (HW.quoted rfl hq).1
                  rw [hu] at hsl2
                  have hrm := (HW.quoted rfl hq).1
                  have HRUN : Hid (∀ ty, ∃ v' W2, (Builtin.append_ #[39, 39] ty #[u5, .slice (some ⟨w2.heap.size, 0, none⟩) 1 1]).run Tryd.prog (w2.alloc (Obj.cells #[.int .i64 ((1 : Nat) : Int), .string (bsv (u.take q)), .int .i64 (a : Int)] 53)) = .ok v' W2 ∧ RL w W2 v' (ts ++ [⟨1, u.take q, a⟩])) := fun ty => hI2.put HLN.out ⟨1, u.take q, a⟩ ty
                  have HMN := Lib.hid ((HW.quoted rfl hq).2)
                  clear HW hI2
                  generalize u.take q = txt at *
                  obtain ⟨A, c, rfl⟩ := HSV.out
                  go_wp2_with (at_builtin; go_loud (refine wpList_app rfl (.tmp 86) (.tmp 95) 39 rfl _ _ rfl rfl _ HRUN.out ?_); intro v3 W4 hR4)
                  go_roundw
                  case rel => exact ⟨a + q, ts ++ [⟨1, txt, a⟩], by go_num, hrm, HMN.out, hR4⟩
                  case measure => simp [intOf]; omega
              · have d34 : ((b : Int) == 34) = false := by rw [beq_eq_false_iff_ne]; omega
                obtain rfl : q = 0 := HQN.out h34
                clear HQU
                by_cases hg : g = 0
                · subst hg
                  have HE := Lib.hid (HW.none rfl rfl rfl)
                  go_wp2
                  refine bodyPost_ret (v := .tuple #[.slice none 0 0, .int .i64 40, .int .i64 (a : Int)]) (by simp [results, Tryd.f52, go_sem]) rfl ?_
                  exact ⟨.slice none 0 0, by rw [HE.out]; rfl, by rw [HE.out]; exact World.ownsRow_nil _ _ _ _, hI2.low⟩
                · have hg0 : 0 < g := by omega
                  have hsl2 := sl2_bsv s a g (HW.sign rfl rfl hg).1
                  rw [hu] at hsl2
                  have hrm := (HW.sign rfl rfl hg).1
                  have HRUN : Hid (∀ ty, ∃ v' W2, (Builtin.append_ #[39, 39] ty #[u5, .slice (some ⟨w2.heap.size, 0, none⟩) 1 1]).run Tryd.prog (w2.alloc (Obj.cells #[.int .i64 ((2 : Nat) : Int), .string (bsv (u.take g)), .int .i64 (a : Int)] 53)) = .ok v' W2 ∧ RL w W2 v' (ts ++ [⟨2, u.take g, a⟩])) := fun ty => hI2.put HLN.out ⟨2, u.take g, a⟩ ty
                  have HMN := Lib.hid ((HW.sign rfl rfl hg).2)
                  clear HW hI2
                  generalize u.take g = txt at *
                  obtain ⟨A, c, rfl⟩ := HSV.out
                  go_wp2_with (at_builtin; go_loud (refine wpList_app rfl (.tmp 101) (.tmp 110) 39 rfl _ _ rfl rfl _ HRUN.out ?_); intro v3 W4 hR4)
                  go_roundw
                  case rel => exact ⟨a + g, ts ++ [⟨2, txt, a⟩], by go_num, hrm, HMN.out, hR4⟩
                  case measure => simp [intOf]; omega
            · have hn0 : 0 < n := by omega
              have hsl2 := sl2_bsv s a n HW.nroom
              rw [hu] at hsl2
              have hrm := HW.nroom
              have HRUN : Hid (∀ ty, ∃ v' W2, (Builtin.append_ #[39, 39] ty #[u5, .slice (some ⟨w2.heap.size, 0, none⟩) 1 1]).run Tryd.prog (w2.alloc (Obj.cells #[.int .i64 ((1 : Nat) : Int), .string (bsv (u.take n)), .int .i64 (a : Int)] 53)) = .ok v' W2 ∧ RL w W2 v' (ts ++ [⟨1, u.take n, a⟩])) := fun ty => hI2.put HLN.out ⟨1, u.take n, a⟩ ty
              have HMN := Lib.hid (HW.name hn)
              clear HW hI2
              generalize u.take n = txt at *
              obtain ⟨A, c, rfl⟩ := HSV.out
              go_wp2_with (at_builtin; go_loud (refine wpList_app rfl (.tmp 59) (.tmp 68) 39 rfl _ _ rfl rfl _ HRUN.out ?_); intro v3 W4 hR4)
              go_roundw
              case rel => exact ⟨a + n, ts ++ [⟨1, txt, a⟩], by go_num, hrm, HMN.out, hR4⟩
              case measure => simp [intOf]; omega
        · rw [HRO.out j hj HJ.out (fun h => absurd h hjl)] at HWY
          have dl : decide ((a : Int) + (j : Int) < (s.length : Int)) = false := decide_eq_false (by have := HLU.out; omega)
          have hnn : a + j ≤ 20000 := by have := HLU.out; omega
          clear HRO HJ HIN HLU
          generalize j = n at *
          go_wp2_with fail
          refine HSG.out.mono ?_
          rintro e w2 ⟨rfl, hb2⟩
          have hI2 := hI.below hb2
          clear HSG hI hb2
          by_cases h32 : b = 32
          · subst h32
            have HMN := Lib.hid (HBL.out (by decide))
            go_wp2
            go_roundw
            case rel => exact ⟨a + 1, ts, by go_num, hlt, HMN.out, hI2⟩
            case measure => simp [intOf]; omega
          by_cases h9 : b = 9
          · subst h9
            have HMN := Lib.hid (HBL.out (by decide))
            go_wp2
            go_roundw
            case rel => exact ⟨a + 1, ts, by go_num, hlt, HMN.out, hI2⟩
            case measure => simp [intOf]; omega
          by_cases h10 : b = 10
          · subst h10
            have HMN := Lib.hid (HBL.out (by decide))
            go_wp2
            go_roundw
            case rel => exact ⟨a + 1, ts, by go_num, hlt, HMN.out, hI2⟩
            case measure => simp [intOf]; omega
          have d32 : ((b : Int) == 32) = false := by rw [beq_eq_false_iff_ne]; omega
          have d9 : ((b : Int) == 9) = false := by rw [beq_eq_false_iff_ne]; omega
          have d10 : ((b : Int) == 10) = false := by rw [beq_eq_false_iff_ne]; omega
          have HW := HWY.out (by omega)
          clear HWY HBL
          by_cases hn : n = 0
          · subst hn
            by_cases h34 : b = 34
            · subst h34
              have HQ2 := HQU.out rfl w2
              by_cases hq : q = 0
              · subst hq
                go_wp2_with fail
                refine HQ2.mono ?_
                rintro e w1 ⟨rfl, rfl⟩
                clear HQ2 HQU
                by_cases hg : g = 0
                · subst hg
                  have HE := Lib.hid (HW.none rfl rfl rfl)
                  go_wp2
                  refine bodyPost_ret (v := .tuple #[.slice none 0 0, .int .i64 40, .int .i64 (a : Int)]) (by simp [results, Tryd.f52, go_sem]) rfl ?_
                  exact ⟨.slice none 0 0, by rw [HE.out]; rfl, by rw [HE.out]; exact World.ownsRow_nil _ _ _ _, hI2.low⟩
                · have hg0 : 0 < g := by omega
                  have hsl2 := sl2_bsv s a g (HW.sign rfl rfl hg).1
                  rw [hu] at hsl2
                  have hrm := (HW.sign rfl rfl hg).1
                  have HRUN : Hid (∀ ty, ∃ v' W2, (Builtin.append_ #[39, 39] ty #[u5, .slice (some ⟨w2.heap.size, 0, none⟩) 1 1]).run Tryd.prog (w2.alloc (Obj.cells #[.int .i64 ((2 : Nat) : Int), .string (bsv (u.take g)), .int .i64 (a : Int)] 53)) = .ok v' W2 ∧ RL w W2 v' (ts ++ [⟨2, u.take g, a⟩])) := fun ty => hI2.put HLN.out ⟨2, u.take g, a⟩ ty
                  have HMN := Lib.hid ((HW.sign rfl rfl hg).2)
                  clear HW hI2
                  generalize u.take g = txt at *
                  obtain ⟨A, c, rfl⟩ := HSV.out
                  go_wp2_with (at_builtin; go_loud (refine wpList_app rfl (.tmp 101) (.tmp 110) 39 rfl _ _ rfl rfl _ HRUN.out ?_); intro v3 W4 hR4)
                  go_roundw
                  case rel => exact ⟨a + g, ts ++ [⟨2, txt, a⟩], by go_num, hrm, HMN.out, hR4⟩
                  case measure => simp [intOf]; omega
              · have hq0 : 0 < q := by omega
                go_wp2_with fail
                refine HQ2.mono ?_
                rintro e w1 ⟨rfl, rfl⟩
                go_wp2_with fail
                refine HQ2.mono ?_
                rintro e w1 ⟨rfl, rfl⟩
                clear HQ2 HQU
                have hsl2 := sl2_bsv s a q (HW.quoted rfl hq).1
                rw [hu] at hsl2
                have hrm := (HW.quoted rfl hq).1
                have HRUN : Hid (∀ ty, ∃ v' W2, (Builtin.append_ #[39, 39] ty #[u5, .slice (some ⟨w2.heap.size, 0, none⟩) 1 1]).run Tryd.prog (w2.alloc (Obj.cells #[.int .i64 ((1 : Nat) : Int), .string (bsv (u.take q)), .int .i64 (a : Int)] 53)) = .ok v' W2 ∧ RL w W2 v' (ts ++ [⟨1, u.take q, a⟩])) := fun ty => hI2.put HLN.out ⟨1, u.take q, a⟩ ty
                have HMN := Lib.hid ((HW.quoted rfl hq).2)
                clear HW hI2
                generalize u.take q = txt at *
                obtain ⟨A, c, rfl⟩ := HSV.out
                go_wp2_with (at_builtin; go_loud (refine wpList_app rfl (.tmp 86) (.tmp 95) 39 rfl _ _ rfl rfl _ HRUN.out ?_); intro v3 W4 hR4)
                go_roundw
                case rel => exact ⟨a + q, ts ++ [⟨1, txt, a⟩], by go_num, hrm, HMN.out, hR4⟩
                case measure => simp [intOf]; omega
            · have d34 : ((b : Int) == 34) = false := by rw [beq_eq_false_iff_ne]; omega
              obtain rfl : q = 0 := HQN.out h34
              clear HQU
              by_cases hg : g = 0
              · subst hg
                have HE := Lib.hid (HW.none rfl rfl rfl)
                go_wp2
                refine bodyPost_ret (v := .tuple #[.slice none 0 0, .int .i64 40, .int .i64 (a : Int)]) (by simp [results, Tryd.f52, go_sem]) rfl ?_
                exact ⟨.slice none 0 0, by rw [HE.out]; rfl, by rw [HE.out]; exact World.ownsRow_nil _ _ _ _, hI2.low⟩
              · have hg0 : 0 < g := by omega
                have hsl2 := sl2_bsv s a g (HW.sign rfl rfl hg).1
                rw [hu] at hsl2
                have hrm := (HW.sign rfl rfl hg).1
                have HRUN : Hid (∀ ty, ∃ v' W2, (Builtin.append_ #[39, 39] ty #[u5, .slice (some ⟨w2.heap.size, 0, none⟩) 1 1]).run Tryd.prog (w2.alloc (Obj.cells #[.int .i64 ((2 : Nat) : Int), .string (bsv (u.take g)), .int .i64 (a : Int)] 53)) = .ok v' W2 ∧ RL w W2 v' (ts ++ [⟨2, u.take g, a⟩])) := fun ty => hI2.put HLN.out ⟨2, u.take g, a⟩ ty
                have HMN := Lib.hid ((HW.sign rfl rfl hg).2)
                clear HW hI2
                generalize u.take g = txt at *
                obtain ⟨A, c, rfl⟩ := HSV.out
                go_wp2_with (at_builtin; go_loud (refine wpList_app rfl (.tmp 101) (.tmp 110) 39 rfl _ _ rfl rfl _ HRUN.out ?_); intro v3 W4 hR4)
                go_roundw
                case rel => exact ⟨a + g, ts ++ [⟨2, txt, a⟩], by go_num, hrm, HMN.out, hR4⟩
                case measure => simp [intOf]; omega
          · have hn0 : 0 < n := by omega
            have hsl2 := sl2_bsv s a n HW.nroom
            rw [hu] at hsl2
            have hrm := HW.nroom
            have HRUN : Hid (∀ ty, ∃ v' W2, (Builtin.append_ #[39, 39] ty #[u5, .slice (some ⟨w2.heap.size, 0, none⟩) 1 1]).run Tryd.prog (w2.alloc (Obj.cells #[.int .i64 ((1 : Nat) : Int), .string (bsv (u.take n)), .int .i64 (a : Int)] 53)) = .ok v' W2 ∧ RL w W2 v' (ts ++ [⟨1, u.take n, a⟩])) := fun ty => hI2.put HLN.out ⟨1, u.take n, a⟩ ty
            have HMN := Lib.hid (HW.name hn)
            clear HW hI2
            generalize u.take n = txt at *
            obtain ⟨A, c, rfl⟩ := HSV.out
            go_wp2_with (at_builtin; go_loud (refine wpList_app rfl (.tmp 59) (.tmp 68) 39 rfl _ _ rfl rfl _ HRUN.out ?_); intro v3 W4 hR4)
            go_roundw
            case rel => exact ⟨a + n, ts ++ [⟨1, txt, a⟩], by go_num, hrm, HMN.out, hR4⟩
            case measure => simp [intOf]; omega
    · obtain rfl : a = s.length := by omega
      have HE := Lib.hid (lex_done hl (by rw [Tk.skip_end (Nat.le_refl _)] at hMid; exact hMid) (Nat.le_refl _))
      have HRUN : Hid (∀ ty, ∃ v' W2, (Builtin.append_ #[39, 39] ty #[u5, .slice (some ⟨wr.heap.size, 0, none⟩) 1 1]).run Tryd.prog (wr.alloc (Obj.cells #[.int .i64 0, .string ⟨#[]⟩, .int .i64 (s.length : Int)] 53)) = .ok v' W2 ∧ RL w W2 v' (ts ++ [⟨0, [], s.length⟩])) := fun ty => hI.put HLN.out ⟨0, [], s.length⟩ ty
      clear hMid hI
      obtain ⟨A, c, rfl⟩ := HSV.out
      go_wp2_with (at_builtin; go_loud (refine wpList_app rfl (.tmp 115) (.tmp 119) 39 rfl _ _ rfl rfl _ HRUN.out ?_); intro v3 W4 hR4)
      obtain ⟨A3, c3, rfl⟩ := row_slice hR4.row
      refine bodyPost_ret (v := .tuple #[.slice A3 (ts ++ [(⟨0, [], s.length⟩ : Tk.Tok)]).length c3, .int .i64 0, .int .i64 0]) (by simp [results, Tryd.f52, go_sem]) rfl ?_
      exact ⟨.slice A3 (ts ++ [(⟨0, [], s.length⟩ : Tk.Tok)]).length c3, by rw [HE.out]; rfl, by rw [HE.out]; exact hR4.row, hR4.low⟩
theorem reflex_any (s : Tk.Bs) (w : World) (hs : s.length ≤ 9223372036854775807) : Calls Tryd.prog 52 #[.string (bsv s)] w (LexP s w) := by
  by_cases hl : s.length ≤ 20000
  · exact reflex_short s w hl
  · exact reflex_long s w hs hl
end Go.Proofs.YtlddnejjpekgeaaDoor
/- Tokens: rows of tokens in memory; two lists are the same. -/
namespace Go.Proofs.YtlddnejjpekgeaaDoor
open Go.RowKit

/-- A slice's tokens in memory. -/
def Tr (W : World) (A : Option Addr) (ts : List Tk.Tok) : Prop := ∀ k (h : k < ts.length), ∃ b off, A = some ⟨b, off, none⟩ ∧ b < W.heap.size ∧ W.cell? ⟨b, off + k * 3, none⟩ = some (.int .i64 ((ts[k]).k : Int)) ∧ W.cell? ⟨b, off + k * 3 + 1, none⟩ = some (.string (bsv (ts[k]).t)) ∧ W.cell? ⟨b, off + k * 3 + 2, none⟩ = some (.int .i64 ((ts[k]).a : Int))
theorem row_tr {W : World} {base : Nat} {v : Value} {ts : List Tk.Tok} (h : W.ownsRow base 53 3 v ts.length (flatT ts)) : ∃ A c, v = .slice A ts.length c ∧ Tr W A ts := by
  obtain ⟨_, h2⟩ := h
  rcases h2 with ⟨rfl, h0⟩ | ⟨g, cap, cur, rfl, _, hh, hn, _, hs, ht⟩
  · exact ⟨none, 0, by rw [h0], fun k hk => by omega⟩
  · refine ⟨_, cap, rfl, fun k hk => ⟨g, 0, rfl, Blk.lt (t := 53) hh, ?_⟩⟩
    obtain ⟨f0, f1, f2⟩ := flatT_get ts k hk
    rw [← ht, List.getElem?_take_of_lt (by omega)] at f0 f1 f2
    rw [Nat.zero_add, Blk.cell (t := 53) hh, Blk.cell (t := 53) hh, Blk.cell (t := 53) hh, ← Array.getElem?_toList, ← Array.getElem?_toList, ← Array.getElem?_toList]
    exact ⟨f0, f1, f2⟩
theorem Tr.below {W W' : World} {A : Option Addr} {ts : List Tk.Tok} (h : Tr W A ts) (hb : Below W.heap.size W W') : Tr W' A ts := fun k hk => by
  obtain ⟨b, off, e, hl, h0, h1, h2⟩ := h k hk
  exact ⟨b, off, e, Nat.lt_of_lt_of_le hl hb.size, (hb.cell (p := ⟨b, _, none⟩) hl).trans h0, (hb.cell (p := ⟨b, _, none⟩) hl).trans h1, (hb.cell (p := ⟨b, _, none⟩) hl).trans h2⟩
theorem ixT (b off n c r : Nat) (hn : n ≤ 1000000) (hr : r < n) (w : World) : (Instr.indexAt 39 (.slice (some ⟨b, off, none⟩) n c) (.int .i64 (r : Int))).run Tryd.prog w = .ok (.pointer (some ⟨b, off + r * 3, none⟩)) w := by go_simp
theorem neq_tok (k a : Int) (s : ByteArray) (w : World) : (binOp .neq 53 (.agg #[.int .i64 k, .string s, .int .i64 a]) (.agg #[.int .i64 k, .string s, .int .i64 a])).run Tryd.prog w = .ok (.bool false) w := by
  have u3 := Tryd.underlying3
  have a3 := Tryd.isAgg3
  have z3 := Tryd.sizeOf3
  have u4 := Tryd.underlying9
  have a4 := Tryd.isAgg9
  have z4 := Tryd.sizeOf9
  have hS : Tryd.prog.underlying 53 = some (.struct (Tryd.prog.fieldsOf 53)) := by kernel_rfl
  have hp : Tryd.prog.stoodInHeld 53 = false := by kernel_rfl
  rw [run_neq_struct, show (10000 : Nat) = 9999 + 1 from rfl, run_equalIn_agg w 9999 53 _ _ hS hp]
  simp only [Program.fieldsOf, Tryd.underlying53]
  go_simp
theorem tokGuard : Tryd.prog.eqGuardType Tryd.prog.depth 53 = false := by kernel_rfl
end Go.Proofs.YtlddnejjpekgeaaDoor
