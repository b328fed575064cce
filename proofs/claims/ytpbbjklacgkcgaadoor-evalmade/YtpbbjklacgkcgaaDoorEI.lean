/- The reference's Three. -/
import Derived.Test.YtpbbjklacgkcgaaDoorEH
namespace Go.Proofs.YtpbbjklacgkcgaaDoor
open Go.RowKit

theorem three_no1 {n : Int} {gs : List (Int × Int)} {l : Int} {ins : List Int} (h : Gm.rightB n gs = false) : Em.threeS n gs l ins = 2 := by
  unfold Em.threeS; rw [if_neg]; rintro ⟨_, h1, _⟩; rw [h] at h1; cases h1
theorem three_no2 {n : Int} {gs : List (Int × Int)} {l : Int} {ins : List Int} (h : ¬ (ins.length : Int) = n) : Em.threeS n gs l ins = 2 := by
  unfold Em.threeS; rw [if_neg]; rintro ⟨_, _, h2⟩; exact h h2
theorem three_no3 {n : Int} {gs : List (Int × Int)} {l : Int} {ins : List Int} (h : Gm.litB n gs.length l = false) : Em.threeS n gs l ins = 2 := by
  unfold Em.threeS; rw [if_neg]; rintro ⟨h1, _⟩; rw [h] at h1; cases h1

/-- The two loops of Three, from where nothing is refused. -/
theorem norm_take (ins : List Int) (k : Nat) (hk : k < ins.length) : iv (0 :: (ins.take (k + 1)).map Em.normT) = iv (0 :: (ins.take k).map Em.normT) ++ [.int .i64 (Em.normT ins[k])] := by
  rw [List.take_succ_eq_append_getElem hk]
  simp only [iv, List.map_cons, List.map_append, List.map_nil, List.cons_append]

set_option maxRecDepth 100000 in
set_option maxHeartbeats 8000000 in
theorem refThree_any (n : Int) (A : Option Addr) (c : Nat) (gs : List (Int × Int)) (l : Int) (A2 : Option Addr) (c2 : Nat) (ins : List Int) (w : World) (hl : gs.length ≤ 100000) (hi : ins.length ≤ 100000) (hg : Gr w w.heap.size A gs) (hw : Wf gs) (hV : Vs w w.heap.size A2 (iv ins)) (hx : l ≤ 9223372036854775807) :
    Calls Tryd.prog 16 #[.agg #[.int .i64 n, .slice A gs.length c], .int .i64 l, .slice A2 ins.length c2] w fun e w' => e = .returned (.int .i64 (Em.threeS n gs l ins)) ∧ Below w.heap.size w w' := by
  have g0 := GX.new (n := n) (c := c) (l := gs.length) hg 24
  have lo : Below w.heap.size w (w.alloc (Obj.cells #[.int .i64 n, .slice A gs.length c] 24)) := (Below.refl _ _).alloc (Nat.le_refl _) _
  have HR := Lib.hid (refRight_any n A c gs _ _ (by omega) g0.gr (Nat.le_refl _) hw)
  have HLI := Lib.hid (fun w => refLit_any n A gs.length c l w (by omega) hx)
  have hnot : ∀ (x : Bool) (w : World), (Op.unary .not (.bool x)).run Tryd.prog w = .ok (.bool (!x)) w := fun _ _ => rfl
  clear hx
  cases hrb : Gm.rightB n gs with
  | false =>
    rw [three_no1 hrb]
    rw [hrb] at HR
    clear hrb g0 HLI
    go_enter Tryd.func16, Tryd.ntmps16
    go_wp2_with (go_at_call 28; refine HR.out.mono ?_; rintro e w1 ⟨rfl, hb1⟩)
    go_ret
    exact ⟨rfl, lo.trans (hb1.mono lo.size)⟩
  | true =>
    rw [hrb] at HR
    by_cases hn : (ins.length : Int) = n
    · cases hlb : Gm.litB n gs.length l with
      | false =>
        rw [three_no3 hlb]
        rw [hlb] at HLI
        clear hrb hlb
        go_enter Tryd.func16, Tryd.ntmps16
        go_wp2_with fail
        refine HR.out.mono ?_
        rintro e w1 ⟨rfl, hb1⟩
        replace g0 := g0.below hb1
        replace lo := lo.trans (hb1.mono lo.size)
        have k0 := g0.c0
        have k1 := g0.c1
        go_wp2_with (go_at_call 31; refine (HLI.out _).mono ?_; rintro e w2 ⟨rfl, hb2⟩)
        go_ret
        exact ⟨rfl, lo.trans (hb2.mono lo.size)⟩
      | true =>
        have he : Em.threeS n gs l ins = Em.triT (Em.vals Em.gateT (0 :: ins.map Em.normT) gs) l := by unfold Em.threeS; rw [if_pos ⟨hlb, hrb, hn⟩]
        rw [he]
        rw [hlb] at HLI
        have HO := Lib.hid (Em.right_ord hrb)
        have hrf := right_facts hrb
        have hgl : gs.length ≤ 2000 := by omega
        have hil : ins.length ≤ 2000 := by omega
        have hn0 := hrf.1
        have hlf := Lib.hid (lit_facts hlb)
        have HQ := Lib.hid hn
        clear hrb he hrf hlb
        go_enter Tryd.func16, Tryd.ntmps16
        go_wp2_with fail
        refine HR.out.mono ?_
        rintro e w1 ⟨rfl, hb1⟩
        replace g0 := g0.below hb1
        replace lo := lo.trans (hb1.mono lo.size)
        have k0 := g0.c0
        have k1 := g0.c1
        go_wp2_with fail
        refine (HLI.out _).mono ?_
        rintro e w2 ⟨rfl, hb2⟩
        replace g0 := g0.below hb2
        replace lo := lo.trans (hb2.mono lo.size)
        clear k0 k1 hb1 hb2 HR HLI hn
        go_upto_region 4 with fail
        have R0 : RG w w2 n (.slice A gs.length c) 3 (.slice none 0 0) [] := ⟨lo, g0.c0, g0.c1, g0.lt, OwnV.nil _ _ _⟩
        have R1 := (R0.alloc (Obj.cells #[.int .i64 0] 3)).swap (OwnV.one w2 _ 3 (.int .i64 0) g0.lt)
        clear R0 g0 lo
        go_wp2_with fail
        go_loopw [7, 8] (fun v i wr => ∃ k : Nat, k ≤ ins.length ∧ i = .int .i64 k ∧ RG w wr n (.slice A gs.length c) 3 v (iv (0 :: (ins.take k).map Em.normT))) (fun _ i _ => ins.length - (intOf i).toNat)
        case atStart => exact ⟨0, Nat.zero_le _, rfl, R1⟩
        case round =>
          obtain ⟨k, hkl, rfl, R⟩ := hrel
          by_cases hlt : k < ins.length
          · obtain ⟨b, off, hA, hbw, g1⟩ := (hV.below R.low (Nat.le_refl _)).int k hlt
            subst hA
            have hstep := Lib.hid (norm_take ins k hlt)
            have hL : (iv (0 :: (ins.take k).map Em.normT)).length + 1 ≤ 2000000 := by simp; omega
            have hix := ixI b off ins.length c2 k (by omega) hlt
            rw [show ins.getD k 0 = ins[k] by simp [List.getD_eq_getElem?_getD, List.getElem?_eq_getElem hlt]] at g1
            generalize ins[k] = x at *
            generalize iv (0 :: (ins.take k).map Em.normT) = bs at *
            have HL := Lib.hid hL
            clear hL
            by_cases hx : x = 0 ∨ x = 1
            · have e : Em.normT x = x := by unfold Em.normT; rw [if_pos hx]
              rw [e] at hstep
              clear e
              rcases hx with rfl | rfl
              · go_wp2_with (at_builtin; go_loud (refine wpList_ints rfl (.tmp 46) (.tmp 48) rfl (w.heap.size + 1) _ _ bs [.int .i64 0] rfl (R.own.alloc _) _ _ _ rfl rfl (vs_one _ _ _) (one_int _) HL.out (R.alloc _).base ?_); intro v' w' hown' hgr' _)
                go_roundw
                case rel => exact ⟨k + 1, by omega, by go_num, by rw [hstep.out]; exact (R.alloc _).step hown' hgr'⟩
                case measure => simp [intOf]; omega
              · go_wp2_with (at_builtin; go_loud (refine wpList_ints rfl (.tmp 46) (.tmp 48) rfl (w.heap.size + 1) _ _ bs [.int .i64 1] rfl (R.own.alloc _) _ _ _ rfl rfl (vs_one _ _ _) (one_int _) HL.out (R.alloc _).base ?_); intro v' w' hown' hgr' _)
                go_roundw
                case rel => exact ⟨k + 1, by omega, by go_num, by rw [hstep.out]; exact (R.alloc _).step hown' hgr'⟩
                case measure => simp [intOf]; omega
            · have e : Em.normT x = 2 := by unfold Em.normT; rw [if_neg hx]
              rw [e] at hstep
              have hx0 : (x != 0) = true := by simpa using fun h => hx (Or.inl h)
              have hx1 : (x != 1) = true := by simpa using fun h => hx (Or.inr h)
              clear e hx
              go_wp2_with (at_builtin; go_loud (refine wpList_ints rfl (.tmp 46) (.tmp 48) rfl (w.heap.size + 1) _ _ bs [.int .i64 2] rfl (R.own.alloc _) _ _ _ rfl rfl (vs_one _ _ _) (one_int _) HL.out (R.alloc _).base ?_); intro v' w' hown' hgr' _)
              go_roundw
              case rel => exact ⟨k + 1, by omega, by go_num, by rw [hstep.out]; exact (R.alloc _).step hown' hgr'⟩
              case measure => simp [intOf]; omega
          · have hkk : k = ins.length := by omega
            subst hkk
            rw [List.take_length] at R
            go_wp2_with fail
            go_loopw [7, 10] (fun v i wr => ∃ k : Nat, k ≤ gs.length ∧ i = .int .i64 k ∧ RG w wr n (.slice A gs.length c) 3 v (iv (Em.vals Em.gateT (0 :: ins.map Em.normT) (gs.take k)))) (fun _ i _ => gs.length - (intOf i).toNat)
            case atStart => exact ⟨0, Nat.zero_le _, rfl, R⟩
            case round =>
              clear R R1
              obtain ⟨k, hkl, rfl, R⟩ := hrel
              obtain ⟨A', c', hv, hV'⟩ := R.own.vs
              have k0 := R.d0
              have k1 := R.d1
              by_cases hlt : k < gs.length
              · obtain ⟨b, off, hA, hbw, g1, g2⟩ := (hg.below R.low (Nat.le_refl _)) k hlt
                subst hA
                have hlow := Em.gate_low HO.out hlt
                have h3 := Em.All3.vals (Em.All3.start ins) (gs.take k)
                have hstep := Lib.hid (Em.vals_take (f := Em.gateT) (0 :: ins.map Em.normT) gs k hlt)
                have hvl : (Em.vals Em.gateT (0 :: ins.map Em.normT) (gs.take k)).length = 1 + ins.length + k := by rw [Em.vals_length, List.length_take, Nat.min_eq_left (by omega), List.length_cons, List.length_map]; omega
                generalize Em.vals Em.gateT (0 :: ins.map Em.normT) (gs.take k) = bs at *
                have hix := ix2 b off gs.length c k (by omega) hlt
                generalize gs[k] = g at *
                obtain ⟨x, y⟩ := g
                simp only at g1 g2 hlow
                rw [List.length_map] at hv
                subst hv
                have hqq := HQ.out
                have h1 := Lib.hid (fun m => refthree_any A' c' bs x (wr.drewN m) _ (hV'.drewN m) h3 (by omega) (by omega) (by omega))
                have h2 := Lib.hid (fun m => refthree_any A' c' bs y (wr.drewN m) _ (hV'.drewN m) h3 (by omega) (by omega) (by omega))
                have hp := Lib.hid (h3.tri x)
                have hq := Lib.hid (h3.tri y)
                rw [show Em.gateT bs (x, y) = Em.andT (Em.triT bs x) (Em.triT bs y) from rfl] at hstep
                generalize Em.triT bs x = p at *
                generalize Em.triT bs y = q at *
                have HL := Lib.hid (show (iv bs).length + 1 ≤ 2000000 by simp; omega)
                clear hvl h3 hqq
                go_wp2_with fail
                go_quiet (first | (go_at_call_of 37 x; exact ((h1.out _).mono fun _ _ ⟨a, b⟩ => ⟨a, _, b⟩)) | (go_at_call_of 37 y; exact ((h2.out _).mono fun _ _ ⟨a, b⟩ => ⟨a, _, b⟩)))
                rcases hp.out with rfl | rfl | rfl <;> rcases hq.out with rfl | rfl | rfl
                · rw [show Em.andT 0 0 = 0 by decide] at hstep
                  go_wp2_with (at_builtin; go_loud (refine wpList_ints rfl (.tmp 83) (.tmp 84) rfl (w.heap.size + 1) _ _ (iv bs) [.int .i64 0] rfl ((R.drewN _).own.alloc _) _ _ _ rfl rfl (vs_one _ _ _) (one_int _) HL.out ((R.drewN _).alloc _).base ?_); intro v' w' hown' hgr' _)
                  go_roundw
                  case rel => exact ⟨k + 1, by omega, by go_num, by rw [hstep.out, iv, List.map_append]; exact ((R.drewN _).alloc _).step hown' hgr'⟩
                  case measure => simp [intOf]; omega
                · rw [show Em.andT 0 1 = 0 by decide] at hstep
                  go_wp2_with (at_builtin; go_loud (refine wpList_ints rfl (.tmp 83) (.tmp 84) rfl (w.heap.size + 1) _ _ (iv bs) [.int .i64 0] rfl ((R.drewN _).own.alloc _) _ _ _ rfl rfl (vs_one _ _ _) (one_int _) HL.out ((R.drewN _).alloc _).base ?_); intro v' w' hown' hgr' _)
                  go_roundw
                  case rel => exact ⟨k + 1, by omega, by go_num, by rw [hstep.out, iv, List.map_append]; exact ((R.drewN _).alloc _).step hown' hgr'⟩
                  case measure => simp [intOf]; omega
                · rw [show Em.andT 0 2 = 0 by decide] at hstep
                  go_wp2_with (at_builtin; go_loud (refine wpList_ints rfl (.tmp 83) (.tmp 84) rfl (w.heap.size + 1) _ _ (iv bs) [.int .i64 0] rfl ((R.drewN _).own.alloc _) _ _ _ rfl rfl (vs_one _ _ _) (one_int _) HL.out ((R.drewN _).alloc _).base ?_); intro v' w' hown' hgr' _)
                  go_roundw
                  case rel => exact ⟨k + 1, by omega, by go_num, by rw [hstep.out, iv, List.map_append]; exact ((R.drewN _).alloc _).step hown' hgr'⟩
                  case measure => simp [intOf]; omega
                · rw [show Em.andT 1 0 = 0 by decide] at hstep
                  go_wp2_with (at_builtin; go_loud (refine wpList_ints rfl (.tmp 83) (.tmp 84) rfl (w.heap.size + 1) _ _ (iv bs) [.int .i64 0] rfl ((R.drewN _).own.alloc _) _ _ _ rfl rfl (vs_one _ _ _) (one_int _) HL.out ((R.drewN _).alloc _).base ?_); intro v' w' hown' hgr' _)
                  go_roundw
                  case rel => exact ⟨k + 1, by omega, by go_num, by rw [hstep.out, iv, List.map_append]; exact ((R.drewN _).alloc _).step hown' hgr'⟩
                  case measure => simp [intOf]; omega
                · rw [show Em.andT 1 1 = 1 by decide] at hstep
                  go_wp2_with (at_builtin; go_loud (refine wpList_ints rfl (.tmp 93) (.tmp 94) rfl (w.heap.size + 1) _ _ (iv bs) [.int .i64 1] rfl ((R.drewN _).own.alloc _) _ _ _ rfl rfl (vs_one _ _ _) (one_int _) HL.out ((R.drewN _).alloc _).base ?_); intro v' w' hown' hgr' _)
                  go_roundw
                  case rel => exact ⟨k + 1, by omega, by go_num, by rw [hstep.out, iv, List.map_append]; exact ((R.drewN _).alloc _).step hown' hgr'⟩
                  case measure => simp [intOf]; omega
                · rw [show Em.andT 1 2 = 2 by decide] at hstep
                  go_wp2_with (at_builtin; go_loud (refine wpList_ints rfl (.tmp 73) (.tmp 74) rfl (w.heap.size + 1) _ _ (iv bs) [.int .i64 2] rfl ((R.drewN _).own.alloc _) _ _ _ rfl rfl (vs_one _ _ _) (one_int _) HL.out ((R.drewN _).alloc _).base ?_); intro v' w' hown' hgr' _)
                  go_roundw
                  case rel => exact ⟨k + 1, by omega, by go_num, by rw [hstep.out, iv, List.map_append]; exact ((R.drewN _).alloc _).step hown' hgr'⟩
                  case measure => simp [intOf]; omega
                · rw [show Em.andT 2 0 = 0 by decide] at hstep
                  go_wp2_with (at_builtin; go_loud (refine wpList_ints rfl (.tmp 83) (.tmp 84) rfl (w.heap.size + 1) _ _ (iv bs) [.int .i64 0] rfl ((R.drewN _).own.alloc _) _ _ _ rfl rfl (vs_one _ _ _) (one_int _) HL.out ((R.drewN _).alloc _).base ?_); intro v' w' hown' hgr' _)
                  go_roundw
                  case rel => exact ⟨k + 1, by omega, by go_num, by rw [hstep.out, iv, List.map_append]; exact ((R.drewN _).alloc _).step hown' hgr'⟩
                  case measure => simp [intOf]; omega
                · rw [show Em.andT 2 1 = 2 by decide] at hstep
                  go_wp2_with (at_builtin; go_loud (refine wpList_ints rfl (.tmp 73) (.tmp 74) rfl (w.heap.size + 1) _ _ (iv bs) [.int .i64 2] rfl ((R.drewN _).own.alloc _) _ _ _ rfl rfl (vs_one _ _ _) (one_int _) HL.out ((R.drewN _).alloc _).base ?_); intro v' w' hown' hgr' _)
                  go_roundw
                  case rel => exact ⟨k + 1, by omega, by go_num, by rw [hstep.out, iv, List.map_append]; exact ((R.drewN _).alloc _).step hown' hgr'⟩
                  case measure => simp [intOf]; omega
                · rw [show Em.andT 2 2 = 2 by decide] at hstep
                  go_wp2_with (at_builtin; go_loud (refine wpList_ints rfl (.tmp 73) (.tmp 74) rfl (w.heap.size + 1) _ _ (iv bs) [.int .i64 2] rfl ((R.drewN _).own.alloc _) _ _ _ rfl rfl (vs_one _ _ _) (one_int _) HL.out ((R.drewN _).alloc _).base ?_); intro v' w' hown' hgr' _)
                  go_roundw
                  case rel => exact ⟨k + 1, by omega, by go_num, by rw [hstep.out, iv, List.map_append]; exact ((R.drewN _).alloc _).step hown' hgr'⟩
                  case measure => simp [intOf]; omega
              · have hkk : k = gs.length := by omega
                subst hkk
                rw [List.take_length] at *
                have lo3 := R.low
                have hvl : (Em.vals Em.gateT (0 :: ins.map Em.normT) gs).length = 1 + ins.length + gs.length := by rw [Em.vals_length, List.length_cons, List.length_map]; omega
                have hlff := hlf.out
                have hqq := HQ.out
                rw [List.length_map] at hv
                subst hv
                have HT := Lib.hid (refthree_any A' c' _ l wr _ hV' (Em.All3.vals (Em.All3.start ins) gs) hlff.1 (by omega) (by omega))
                clear hvl hlff hqq
                go_wp2_with (go_at_call 37; refine HT.out.mono ?_; rintro e w5 ⟨rfl, rfl⟩)
                go_ret
                exact ⟨rfl, lo3⟩
    · rw [three_no2 hn]
      have hne : ((ins.length : Int) != n) = true := by simpa using hn
      clear hrb HLI
      go_enter Tryd.func16, Tryd.ntmps16
      go_wp2_with fail
      refine HR.out.mono ?_
      rintro e w1 ⟨rfl, hb1⟩
      replace g0 := g0.below hb1
      have k0 := g0.c0
      have k1 := g0.c1
      go_wp2_with fail
      go_ret
      exact ⟨rfl, lo.trans (hb1.mono lo.size)⟩
end Go.Proofs.YtpbbjklacgkcgaaDoor
