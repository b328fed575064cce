/- The reference's Support and Gates. -/
import Derived.Test.YtjjdgiondpnpcaaRA
namespace Go.Proofs.Ytjjdgiondpnpcaa
open Go.RowKit Go.Shelf

set_option maxRecDepth 100000 in
set_option maxHeartbeats 8000000 in
theorem refsupport_any (n : Int) (A : Option Addr) (c : Nat) (gs : List (Int × Int)) (l : Int) (w : World) (hl : gs.length ≤ 1000000) (hg : Gr w w.heap.size A gs) (hw : Wf gs) (hx : l ≤ 9223372036854775807) :
    Calls Try.prog 19 #[.agg #[.int .i64 n, .slice A gs.length c], .int .i64 l] w (IList (Cm.supportS n gs l) w) := by
  have g0 := GX.new (n := n) (c := c) (l := gs.length) hg 26
  have lo : Below w.heap.size w (w.alloc (Obj.cells #[.int .i64 n, .slice A gs.length c] 26)) := (Below.refl _ _).alloc (Nat.le_refl _) _
  have HR := Lib.hid (refRight_any n A c gs _ _ hl g0.gr (Nat.le_refl _) hw)
  have HLT := Lib.hid (fun V => refLit_any n A gs.length c l V hl hx)
  have hnot : ∀ (x : Bool) (w : World), (Op.unary .not (.bool x)).run Try.prog w = .ok (.bool (!x)) w := fun _ _ => rfl
  cases hr : Gm.rightB n gs with
  | false =>
    rw [supportS_out (by rw [hr, Bool.and_false])]
    rw [hr] at HR
    clear hr g0
    go_enter Try.func19, Try.ntmps19
    go_wp2_with (go_at_call 28; refine HR.out.mono ?_; rintro e w1 ⟨rfl, hb1⟩)
    go_ret
    exact ⟨none, 0, rfl, vs_nil, lo.trans (hb1.mono lo.size)⟩
  | true =>
    rw [hr] at HR
    cases hlb : Gm.litB n gs.length l with
    | false =>
      rw [supportS_out (by rw [hlb, Bool.false_and])]
      simp only [hlb] at HLT
      clear hr hlb
      go_enter Try.func19, Try.ntmps19
      go_wp2_with fail
      refine HR.out.mono ?_
      rintro e w1 ⟨rfl, hb1⟩
      replace g0 := g0.below hb1
      replace lo := lo.trans (hb1.mono lo.size)
      have k0 := g0.c0
      have k1 := g0.c1
      clear HR hb1 g0
      go_wp2_with fail
      refine (HLT.out w1).mono ?_
      rintro e w2 ⟨rfl, hb2⟩
      replace lo := lo.trans (hb2.mono lo.size)
      clear HLT hb2 k0 k1
      go_wp2_with fail
      go_ret
      exact ⟨none, 0, rfl, vs_nil, lo⟩
    | true =>
    simp only [hlb] at HLT
    obtain ⟨hn0, hn1, hn2, _⟩ := right_facts hr
    obtain ⟨m, rfl⟩ : ∃ m : Nat, n = (m : Int) := ⟨n.toNat, by omega⟩
    rw [supportS_in hr hlb]
    have HM := Lib.hid (fun V hV => refbelow_any m A c gs l V hV hr hlb)
    clear hr hlb
    go_enter Try.func19, Try.ntmps19
    go_wp2_with fail
    refine HR.out.mono ?_
    rintro e w1 ⟨rfl, hb1⟩
    replace g0 := g0.below hb1
    replace lo := lo.trans (hb1.mono lo.size)
    have k0 := g0.c0
    have k1 := g0.c1
    clear HR hb1
    go_wp2_with fail
    refine (HLT.out w1).mono ?_
    rintro e w2 ⟨rfl, hb2⟩
    replace g0 := g0.below hb2
    replace lo := lo.trans (hb2.mono lo.size)
    clear HLT hb2 k0 k1
    have k0 := g0.c0
    have k1 := g0.c1
    go_wp2_with (go_at_call 34; refine (HM.out _ g0.gr).mono ?_; rintro e w3 ⟨mb, rfl, hmb, hbm, hb3⟩)
    replace g0 := g0.below hb3
    replace lo := lo.trans (hb3.mono lo.size)
    clear HM hb3 k0 k1
    have hml := hbm.lt
    go_loopw [6, 7] (fun v i wr => ∃ k : Nat, k ≤ m ∧ i = .int .i64 ((k : Int) + 1) ∧ RowInv w3 wr 3 v (iv (supK m gs l k))) (fun _ i _ => m + 1 - (intOf i).toNat)
    case atStart => exact ⟨0, Nat.zero_le _, rfl, Below.refl _ _, OwnV.nil _ _ _⟩
    case round =>
      obtain ⟨k, hkl, rfl, hinv⟩ := hrel
      have k0 := (hinv.low.cell (p := ⟨w.heap.size, 0, none⟩) g0.lt).trans g0.c0
      by_cases hlt : k < m
      · have hsz := hinv.size
        have hown := hinv.own
        have hcm : wr.cell? ⟨mb, k + 1, none⟩ = some (.bool ((Cm.below m gs l).getD (k + 1) false)) := by
          obtain ⟨b, o, e, _, h1⟩ := (hbm.below hinv.low hml).vs.bool (k + 1) (by rw [Cm.below_length]; omega)
          injection e with e
          injection e with e1 e2
          subst e1 e2
          simpa using h1
        have hix := ixB0 mb (m + 1 + gs.length) (k + 1) (by omega) (by omega)
        rw [show ((k + 1 : Nat) : Int) = (k : Int) + 1 by omega] at hix
        have HL := Lib.hid (show (iv (supK m gs l k)).length + [Value.int .i64 ((k : Int) + 1)].length ≤ 2000000 by have := supK_le m gs l k; simp; omega)
        have HK := Lib.hid (supK_succ m gs l k)
        cases hb : (Cm.below m gs l).getD (k + 1) false with
        | false =>
          rw [hb] at hcm HK
          clear hb
          go_wp2_with fail
          go_roundw
          case rel => exact ⟨k + 1, by omega, by go_num, by rw [HK.out]; simpa using hinv⟩
          case measure => simp [intOf]; omega
        | true =>
          rw [hb] at hcm HK
          clear hb
          go_wp2_with (at_builtin; go_loud (refine wpList_ints rfl (.tmp 30) (.tmp 32) rfl w3.heap.size _ _ (iv (supK m gs l k)) [.int .i64 ((k : Int) + 1)] rfl (hown.alloc _) _ _ _ rfl rfl (vs_one _ _ _) (one_int _) HL.out (by simp; omega) ?_); intro v' w' hown' hgr' _)
          go_roundw
          case rel => exact ⟨k + 1, by omega, by go_num, hinv.next (by rw [HK.out, iv, List.map_append]; exact hown') hgr'⟩
          case measure => simp [intOf]; omega
      · obtain rfl : k = m := by omega
        obtain ⟨A', c', hv, hV⟩ := hinv.own.vs
        subst hv
        have lo2 := hinv.low
        go_wp2_with fail
        go_ret
        exact ⟨A', c', by simp, hV, lo.trans (lo2.mono lo.size)⟩
/-- The gates below k that are in the cone. -/
def cntK (n : Nat) (gs : List (Int × Int)) (l : Int) (k : Nat) : Nat := ((List.range k).filter fun k => (Cm.below n gs l).getD (n + 1 + k) false).length
theorem cntK_succ (n : Nat) (gs : List (Int × Int)) (l : Int) (k : Nat) : cntK n gs l (k + 1) = cntK n gs l k + (if (Cm.below n gs l).getD (n + 1 + k) false then 1 else 0) := by
  unfold cntK
  rw [List.range_succ, List.filter_append, List.length_append]
  congr 1
  rw [List.filter_cons, List.filter_nil]
  cases (Cm.below n gs l).getD (n + 1 + k) false <;> rfl
theorem cntK_le (n : Nat) (gs : List (Int × Int)) (l : Int) (k : Nat) : cntK n gs l k ≤ k := by
  unfold cntK
  exact Nat.le_trans (List.length_filter_le _ _) (by simp)
theorem gatesS_inK {n : Nat} {gs : List (Int × Int)} {l : Int} (hr : Gm.rightB n gs = true) (hl : Gm.litB n gs.length l = true) : Cm.gatesS n gs l = (cntK n gs l gs.length : Int) := by
  unfold Cm.gatesS
  rw [if_pos ⟨hr, hl⟩]
  rfl

set_option maxRecDepth 100000 in
set_option maxHeartbeats 8000000 in
theorem refgates_any (n : Int) (A : Option Addr) (c : Nat) (gs : List (Int × Int)) (l : Int) (w : World) (hl : gs.length ≤ 1000000) (hg : Gr w w.heap.size A gs) (hw : Wf gs) (hx : l ≤ 9223372036854775807) :
    Calls Try.prog 20 #[.agg #[.int .i64 n, .slice A gs.length c], .int .i64 l] w fun e w' => e = .returned (.int .i64 (Cm.gatesS n gs l)) ∧ Below w.heap.size w w' := by
  have g0 := GX.new (n := n) (c := c) (l := gs.length) hg 26
  have lo : Below w.heap.size w (w.alloc (Obj.cells #[.int .i64 n, .slice A gs.length c] 26)) := (Below.refl _ _).alloc (Nat.le_refl _) _
  have HR := Lib.hid (refRight_any n A c gs _ _ hl g0.gr (Nat.le_refl _) hw)
  have HLT := Lib.hid (fun V => refLit_any n A gs.length c l V hl hx)
  have hnot : ∀ (x : Bool) (w : World), (Op.unary .not (.bool x)).run Try.prog w = .ok (.bool (!x)) w := fun _ _ => rfl
  cases hr : Gm.rightB n gs with
  | false =>
    rw [gatesS_out (by rw [hr, Bool.and_false])]
    rw [hr] at HR
    clear hr g0
    go_enter Try.func20, Try.ntmps20
    go_wp2_with (go_at_call 28; refine HR.out.mono ?_; rintro e w1 ⟨rfl, hb1⟩)
    go_ret
    exact ⟨rfl, lo.trans (hb1.mono lo.size)⟩
  | true =>
    rw [hr] at HR
    cases hlb : Gm.litB n gs.length l with
    | false =>
      rw [gatesS_out (by rw [hlb, Bool.false_and])]
      simp only [hlb] at HLT
      clear hr hlb
      go_enter Try.func20, Try.ntmps20
      go_wp2_with fail
      refine HR.out.mono ?_
      rintro e w1 ⟨rfl, hb1⟩
      replace g0 := g0.below hb1
      replace lo := lo.trans (hb1.mono lo.size)
      have k0 := g0.c0
      have k1 := g0.c1
      clear HR hb1 g0
      go_wp2_with fail
      refine (HLT.out w1).mono ?_
      rintro e w2 ⟨rfl, hb2⟩
      replace lo := lo.trans (hb2.mono lo.size)
      clear HLT hb2 k0 k1
      go_wp2_with fail
      go_ret
      exact ⟨rfl, lo⟩
    | true =>
    simp only [hlb] at HLT
    obtain ⟨hn0, hn1, hn2, _⟩ := right_facts hr
    obtain ⟨m, rfl⟩ : ∃ m : Nat, n = (m : Int) := ⟨n.toNat, by omega⟩
    rw [gatesS_inK hr hlb]
    have HM := Lib.hid (fun V hV => refbelow_any m A c gs l V hV hr hlb)
    clear hr hlb
    go_enter Try.func20, Try.ntmps20
    go_wp2_with fail
    refine HR.out.mono ?_
    rintro e w1 ⟨rfl, hb1⟩
    replace g0 := g0.below hb1
    replace lo := lo.trans (hb1.mono lo.size)
    have k0 := g0.c0
    have k1 := g0.c1
    clear HR hb1
    go_wp2_with fail
    refine (HLT.out w1).mono ?_
    rintro e w2 ⟨rfl, hb2⟩
    replace g0 := g0.below hb2
    replace lo := lo.trans (hb2.mono lo.size)
    clear HLT hb2 k0 k1
    have k0 := g0.c0
    have k1 := g0.c1
    go_wp2_with (go_at_call 34; refine (HM.out _ g0.gr).mono ?_; rintro e w3 ⟨mb, rfl, hmb, hbm, hb3⟩; have k3 := (g0.below hb3).c0)
    replace g0 := g0.below hb3
    replace lo := lo.trans (hb3.mono lo.size)
    clear HM hb3 k0 k1
    have hml := hbm.lt
    go_loopw [6, 7] (fun v i wr => ∃ k : Nat, k ≤ gs.length ∧ i = .int .i64 ((m : Int) + 1 + (k : Int)) ∧ v = .int .i64 (cntK m gs l k : Int) ∧ wr = w3) (fun _ i _ => m + 1 + gs.length - (intOf i).toNat)
    case atStart => exact ⟨0, Nat.zero_le _, by simp, rfl, rfl⟩
    case round =>
      obtain ⟨k, hkl, rfl, rfl, hwr⟩ := hrel
      subst wr
      by_cases hlt : k < gs.length
      · have hcm : w3.cell? ⟨mb, m + 1 + k, none⟩ = some (.bool ((Cm.below m gs l).getD (m + 1 + k) false)) := by
          obtain ⟨b, o, e, _, h1⟩ := hbm.vs.bool (m + 1 + k) (by rw [Cm.below_length]; omega)
          injection e with e
          injection e with e1 e2
          subst e1 e2
          simpa using h1
        have hix := ixB0 mb (m + 1 + gs.length) (m + 1 + k) (by omega) (by omega)
        rw [show ((m + 1 + k : Nat) : Int) = (m : Int) + 1 + (k : Int) by omega] at hix
        have HK := Lib.hid (cntK_succ m gs l k)
        have hle := cntK_le m gs l k
        cases hb : (Cm.below m gs l).getD (m + 1 + k) false with
        | false =>
          rw [hb] at hcm HK
          clear hb
          go_wp2_with fail
          go_roundw
          case rel => exact ⟨k + 1, by omega, by go_num, by rw [HK.out]; simp, trivial⟩
          case measure => simp [intOf]; omega
        | true =>
          rw [hb] at hcm HK
          clear hb
          go_wp2_with fail
          go_roundw
          case rel => exact ⟨k + 1, by omega, by go_num, by rw [HK.out]; simp, trivial⟩
          case measure => simp [intOf]; omega
      · obtain rfl : k = gs.length := by omega
        go_wp2_with fail
        go_ret
        exact ⟨rfl, lo⟩
end Go.Proofs.Ytjjdgiondpnpcaa
