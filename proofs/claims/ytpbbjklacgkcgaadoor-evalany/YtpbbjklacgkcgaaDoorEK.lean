/- EvalAny, walked. -/
import Derived.Test.YtpbbjklacgkcgaaDoorEJ
namespace Go.Proofs.YtpbbjklacgkcgaaDoor
open Go.RowKit

theorem allB_len {n : Int} {gs : List (Int × Int)} {ins : List Bool} (h1 : gs.length ≤ 100000) (h2 : ins.length ≤ 100000) : (Em.allB n gs ins).length ≤ 1000000 := by
  unfold Em.allB
  split
  · rw [Em.vals_length, List.length_cons]; omega
  · simp

set_option maxRecDepth 100000 in
set_option maxHeartbeats 16000000 in
theorem evalAny_walk (n : Int) (A : Option Addr) (c : Nat) (gs : List (Int × Int)) (l : Int) (A2 : Option Addr) (c2 : Nat) (ins : List Bool) (A3 : Option Addr) (c3 : Nat) (thr : List Int) (w : World)
    (hg : Gr w w.heap.size A gs) (hw : Wf gs) (hm : gs.length ≤ maxLen) (hx0 : -9223372036854775808 ≤ l) (hx : l ≤ 9223372036854775807) (hV : Vs w w.heap.size A2 (bv ins)) (hm2 : ins.length ≤ maxLen) (hV3 : Vs w w.heap.size A3 (iv thr)) (hm3 : thr.length ≤ maxLen) (hT : Tabs w) :
    Calls Tryd.prog 3 #[.agg #[.int .i64 n, .slice A gs.length c], .int .i64 l, .slice A2 ins.length c2, .slice A3 thr.length c3] w fun e w' => e = .returned (.bool true) ∧ Below w.heap.size w w' := by
  have g0 := GX.new (n := n) (c := c) (l := gs.length) hg 24
  have lo : Below w.heap.size w (w.alloc (Obj.cells #[.int .i64 n, .slice A gs.length c] 24)) := (Below.refl w.heap.size w).alloc (Nat.le_refl _) _
  have HAW := Lib.hid (fun V (h : Tabs V) => awake2_any V h)
  unfold maxLen at hm hm2 hm3
  by_cases h1 : gs.length ≤ 100
  · by_cases h2 : ins.length ≤ 100
    · by_cases h3 : thr.length ≤ 100
      · have CA := Lib.hid (fun V h k => all_any n A c gs A2 c2 ins V (by omega) (by omega) h hw k)
        have CB := Lib.hid (fun V h k => refAll_any n A c gs A2 c2 ins V (by omega) (by omega) h hw k)
        have CC := Lib.hid (fun V h k => eval_any n A c gs l A2 c2 ins V (by omega) (by omega) h hw k)
        have CD := Lib.hid (fun V h k => refEval_any n A c gs l A2 c2 ins V (by omega) (by omega) h hw k hx)
        have CE := Lib.hid (fun V h k t => Three_any n A c gs l A3 c3 thr V (by omega) (by omega) h hw k t)
        have CF := Lib.hid (fun V h k => refThree_any n A c gs l A3 c3 thr V (by omega) (by omega) h hw k hx)
        have hlen := allB_len (n := n) (gs := gs) (ins := ins) (by omega) (by omega)
        generalize Em.allB n gs ins = v at *
        generalize Em.evalB n gs l ins = r at *
        generalize Em.threeS n gs l thr = t at *
        have CG := Lib.hid (fun Aa ca Ab cb V B1 B2 h k => sameBools_true Aa Ab ca cb v V B1 B2 hlen h k)
        clear hlen hx hm hm2 hm3
        go_enter Tryd.func3, Tryd.ntmps3
        go_upto_region 3 with fail
        generalize w.alloc (Obj.cells #[.int .i64 n, .slice A gs.length c] 24) = V0 at *
        replace lo := lo.drew
        replace g0 := g0.drew
        go_region_held3 (fun W => W.cell? ⟨w.heap.size, 0, none⟩ = some (.int .i64 n) ∧ W.cell? ⟨w.heap.size, 1, none⟩ = some (.slice A gs.length c))
          (exact ⟨g0.c0, g0.c1⟩)
          (first | (go_at_call 9; refine (HAW.out _ (hT.below lo hT.sz)).mono ?_; rintro e wn ⟨rfl, hbn⟩; replace g0 := g0.below hbn; replace lo := lo.trans (hbn.mono lo.size))
                 | (go_at_call 11; refine (CA.out _ g0.gr ((hV.below lo (Nat.le_refl _)).more lo.size)).mono ?_; rintro e wn ⟨Aa, ca, rfl, hVa, hbn⟩; replace g0 := g0.below hbn; replace lo := lo.trans (hbn.mono lo.size))
                 | (go_at_call 12; refine (CB.out _ g0.gr ((hV.below lo (Nat.le_refl _)).more lo.size)).mono ?_; rintro e wn ⟨Ab, cb, rfl, hVb, hbn⟩; replace hVa := (hVa.below hbn (Nat.le_refl _)).more hbn.size; replace g0 := g0.below hbn; replace lo := lo.trans (hbn.mono lo.size))
                 | (go_at_call 10; refine (CG.out _ _ _ _ _ _ _ hVa hVb).mono ?_; rintro e wn ⟨rfl, m, rfl⟩; replace g0 := g0.below (below_drewN (Below.refl _ _) m); replace lo := below_drewN lo m)
                 | (go_at_call 13; refine (CC.out _ g0.gr ((hV.below lo (Nat.le_refl _)).more lo.size)).mono ?_; rintro e wn ⟨rfl, hbn⟩; replace g0 := g0.below hbn; replace lo := lo.trans (hbn.mono lo.size))
                 | (go_at_call 14; refine (CD.out _ g0.gr ((hV.below lo (Nat.le_refl _)).more lo.size)).mono ?_; rintro e wn ⟨rfl, hbn⟩; replace g0 := g0.below hbn; replace lo := lo.trans (hbn.mono lo.size))
                 | (go_at_call 15; refine (CE.out _ g0.gr ((hV3.below lo (Nat.le_refl _)).more lo.size) (hT.below lo hT.sz)).mono ?_; rintro e wn ⟨rfl, hbn⟩; replace g0 := g0.below hbn; replace lo := lo.trans (hbn.mono lo.size))
                 | (go_at_call 16; refine (CF.out _ g0.gr ((hV3.below lo (Nat.le_refl _)).more lo.size)).mono ?_; rintro e wn ⟨rfl, hbn⟩; replace g0 := g0.below hbn; replace lo := lo.trans (hbn.mono lo.size)))
        go_wp2
        go_ret
        exact ⟨rfl, lo⟩
      · go_enter Tryd.func3, Tryd.ntmps3
        go_wp2_with (go_at_call 9; refine (HAW.out _ (hT.below lo hT.sz)).mono ?_; rintro e wn ⟨rfl, hbn⟩)
        go_ret
        exact ⟨rfl, lo.trans (hbn.mono lo.size)⟩
    · go_enter Tryd.func3, Tryd.ntmps3
      go_wp2_with (go_at_call 9; refine (HAW.out _ (hT.below lo hT.sz)).mono ?_; rintro e wn ⟨rfl, hbn⟩)
      go_ret
      exact ⟨rfl, lo.trans (hbn.mono lo.size)⟩
  · go_enter Tryd.func3, Tryd.ntmps3
    go_wp2_with (go_at_call 9; refine (HAW.out _ (hT.below lo hT.sz)).mono ?_; rintro e wn ⟨rfl, hbn⟩)
    go_ret
    exact ⟨rfl, lo.trans (hbn.mono lo.size)⟩
end Go.Proofs.YtpbbjklacgkcgaaDoor
