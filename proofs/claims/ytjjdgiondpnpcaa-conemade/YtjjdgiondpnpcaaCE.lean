/- Support and Gates. -/
import Derived.Test.YtjjdgiondpnpcaaCD
namespace Go.Proofs.Ytjjdgiondpnpcaa
open Go.RowKit Go.Shelf

/-- A list of ints, as a call answers it. -/
def IList (zs : List Int) (w : World) (e : Ending) (w' : World) : Prop :=
  ∃ A c, e = .returned (.slice A zs.length c) ∧ Vs w' w'.heap.size A (iv zs) ∧ Below w.heap.size w w'
/-- The inputs up to k in the cone. -/
def supK (n : Nat) (gs : List (Int × Int)) (l : Int) (k : Nat) : List Int := (((List.range k).map (· + 1)).filter fun i => (Cm.below n gs l).getD i false).map (fun i : Nat => (i : Int))
theorem supK_succ (n : Nat) (gs : List (Int × Int)) (l : Int) (k : Nat) : supK n gs l (k + 1) = supK n gs l k ++ (if (Cm.below n gs l).getD (k + 1) false then [((k : Int) + 1)] else []) := by
  unfold supK
  rw [List.range_succ, List.map_append, List.filter_append, List.map_append]
  congr 1
  rw [List.map_cons, List.map_nil, List.filter_cons, List.filter_nil]
  cases (Cm.below n gs l).getD (k + 1) false
  · rfl
  · simp
theorem supK_le (n : Nat) (gs : List (Int × Int)) (l : Int) (k : Nat) : (supK n gs l k).length ≤ k := by
  unfold supK
  rw [List.length_map]
  exact Nat.le_trans (List.length_filter_le _ _) (by simp)
theorem supportS_in {n : Nat} {gs : List (Int × Int)} {l : Int} (hr : Gm.rightB n gs = true) (hl : Gm.litB n gs.length l = true) : Cm.supportS n gs l = supK n gs l n := by
  unfold Cm.supportS
  rw [if_pos ⟨hr, hl⟩]
  rfl
theorem supportS_out {n : Int} {gs : List (Int × Int)} {l : Int} (h : (Gm.litB n gs.length l && Gm.rightB n gs) = false) : Cm.supportS n gs l = [] := by
  unfold Cm.supportS
  rw [if_neg]
  rintro ⟨h1, h2⟩
  rw [h1, h2] at h
  cases h
theorem gatesS_out {n : Int} {gs : List (Int × Int)} {l : Int} (h : (Gm.litB n gs.length l && Gm.rightB n gs) = false) : Cm.gatesS n gs l = 0 := by
  unfold Cm.gatesS
  rw [if_neg]
  rintro ⟨h1, h2⟩
  rw [h1, h2] at h
  cases h

set_option maxRecDepth 100000 in
set_option maxHeartbeats 8000000 in
theorem support_any (n : Int) (A : Option Addr) (c : Nat) (gs : List (Int × Int)) (l : Int) (w : World) (hl : gs.length ≤ 1000000) (hg : Gr w w.heap.size A gs) (hw : Wf gs) :
    Calls Try.prog 9 #[.agg #[.int .i64 n, .slice A gs.length c], .int .i64 l] w (IList (Cm.supportS n gs l) w) := by
  have g0 := GX.new (n := n) (c := c) (l := gs.length) hg 26
  have lo : Below w.heap.size w (w.alloc (Obj.cells #[.int .i64 n, .slice A gs.length c] 26)) := (Below.refl _ _).alloc (Nat.le_refl _) _
  have HS := Lib.hid (csuits_any n A c gs l _ _ hl g0.gr (Nat.le_refl _) hw)
  have hnot : ∀ (x : Bool) (w : World), (Op.unary .not (.bool x)).run Try.prog w = .ok (.bool (!x)) w := fun _ _ => rfl
  cases hs : (Gm.litB n gs.length l && Gm.rightB n gs) with
  | false =>
    rw [supportS_out hs]
    rw [hs] at HS
    clear hs g0
    go_enter Try.func9, Try.ntmps9
    go_wp2_with (go_at_call 22; refine HS.out.mono ?_; rintro e w1 ⟨rfl, hb1⟩)
    go_ret
    exact ⟨none, 0, rfl, vs_nil, lo.trans (hb1.mono lo.size)⟩
  | true =>
    rw [hs] at HS
    have hs2 := hs
    rw [Bool.and_eq_true] at hs2
    obtain ⟨h1, h2⟩ := hs2
    obtain ⟨hn0, hn1, hn2, _⟩ := right_facts h2
    obtain ⟨m, rfl⟩ : ∃ m : Nat, n = (m : Int) := ⟨n.toNat, by omega⟩
    rw [supportS_in h2 h1]
    have HM := Lib.hid (fun V hV => marked_any m A c gs l V hV h2 h1)
    clear hs h1 h2
    go_enter Try.func9, Try.ntmps9
    go_wp2_with fail
    refine HS.out.mono ?_
    rintro e w1 ⟨rfl, hb1⟩
    replace g0 := g0.below hb1
    replace lo := lo.trans (hb1.mono lo.size)
    have k0 := g0.c0
    have k1 := g0.c1
    clear HS hb1
    go_wp2_with (go_at_call 23; refine (HM.out _ g0.gr).mono ?_; rintro e w2 ⟨mb, rfl, hmb, hbm, hb2⟩)
    replace g0 := g0.below hb2
    replace lo := lo.trans (hb2.mono lo.size)
    clear HM hb2 k0 k1
    have hml := hbm.lt
    go_loopw [6, 7] (fun v i wr => ∃ k : Nat, k ≤ m ∧ i = .int .i64 ((k : Int) + 1) ∧ RowInv w2 wr 3 v (iv (supK m gs l k))) (fun _ i _ => m + 1 - (intOf i).toNat)
    case atStart => exact ⟨0, Nat.zero_le _, rfl, Below.refl _ _, OwnV.nil _ _ _⟩
    case round =>
      obtain ⟨k, hkl, rfl, hinv⟩ := hrel
      have k0 := (hinv.low.cell (p := ⟨w.heap.size, 0, none⟩) g0.lt).trans g0.c0
      by_cases hlt : k < m
      · have hsz := hinv.size
        have hown := hinv.own
        have hcm : wr.cell? ⟨mb, k + 1, none⟩ = some (.bool ((Cm.below m gs l).getD (k + 1) false)) := by
          obtain ⟨b, o, e, _, h1⟩ := (hbm.below hinv.low hml).vs.bool (k + 1) (by rw [Cm.below_length]; omega)
          injection e with e
          injection e with e1 e2
          subst e1 e2
          simpa using h1
        have hix := ixB0 mb (1 + m + gs.length) (k + 1) (by omega) (by omega)
        rw [show ((k + 1 : Nat) : Int) = (k : Int) + 1 by omega] at hix
        have HL := Lib.hid (show (iv (supK m gs l k)).length + [Value.int .i64 ((k : Int) + 1)].length ≤ 2000000 by have := supK_le m gs l k; simp; omega)
        have HK := Lib.hid (supK_succ m gs l k)
        cases hb : (Cm.below m gs l).getD (k + 1) false with
        | false =>
          rw [hb] at hcm HK
          clear hb
          go_wp2_with fail
          go_roundw
          case rel => exact ⟨k + 1, by omega, by go_num, by rw [HK.out]; simpa using hinv⟩
          case measure => simp [intOf]; omega
        | true =>
          rw [hb] at hcm HK
          clear hb
          go_wp2_with (at_builtin; go_loud (refine wpList_ints rfl (.tmp 25) (.tmp 27) rfl w2.heap.size _ _ (iv (supK m gs l k)) [.int .i64 ((k : Int) + 1)] rfl (hown.alloc _) _ _ _ rfl rfl (vs_one _ _ _) (one_int _) HL.out (by simp; omega) ?_); intro v' w' hown' hgr' _)
          go_roundw
          case rel => exact ⟨k + 1, by omega, by go_num, hinv.next (by rw [HK.out, iv, List.map_append]; exact hown') hgr'⟩
          case measure => simp [intOf]; omega
      · obtain rfl : k = m := by omega
        obtain ⟨A', c', hv, hV⟩ := hinv.own.vs
        subst hv
        have lo2 := hinv.low
        go_wp2_with fail
        go_ret
        exact ⟨A', c', by simp, hV, lo.trans (lo2.mono lo.size)⟩
theorem upF_count (m : Nat) (p : Nat → Bool) : ∀ k, k ≤ m → (upF m p k).length = ((List.range k).filter p).length
  | 0, _ => rfl
  | k + 1, h => by
    rw [List.range_succ, List.filter_append, List.length_append, ← upF_count m p k (by omega)]
    cases hp : p k with
    | false => rw [upF_no hp]; simp [hp]
    | true => rw [upF_yes (by omega) hp]; simp [hp]
theorem gatesS_in {n : Nat} {gs : List (Int × Int)} {l : Int} (hr : Gm.rightB n gs = true) (hl : Gm.litB n gs.length l = true) : Cm.gatesS n gs l = ((upF gs.length (inCone n gs l) gs.length).length : Int) := by
  unfold Cm.gatesS
  rw [if_pos ⟨hr, hl⟩, upF_count _ _ _ (Nat.le_refl _)]
  rfl

attribute [local go_sem] Oper.semAt_some
set_option maxRecDepth 100000 in
set_option maxHeartbeats 8000000 in
theorem countgates_any (n : Int) (A : Option Addr) (c : Nat) (gs : List (Int × Int)) (l : Int) (w : World) (hl : gs.length ≤ 1000000) (hg : Gr w w.heap.size A gs) (hw : Wf gs) :
    Calls Try.prog 12 #[.agg #[.int .i64 n, .slice A gs.length c], .int .i64 l] w fun e w' => e = .returned (.int .i64 (Cm.gatesS n gs l)) ∧ Below w.heap.size w w' := by
  have g0 := GX.new (n := n) (c := c) (l := gs.length) hg 26
  have lo : Below w.heap.size w (w.alloc (Obj.cells #[.int .i64 n, .slice A gs.length c] 26)) := (Below.refl _ _).alloc (Nat.le_refl _) _
  have HS := Lib.hid (csuits_any n A c gs l _ _ hl g0.gr (Nat.le_refl _) hw)
  have hnot : ∀ (x : Bool) (w : World), (Op.unary .not (.bool x)).run Try.prog w = .ok (.bool (!x)) w := fun _ _ => rfl
  cases hs : (Gm.litB n gs.length l && Gm.rightB n gs) with
  | false =>
    rw [gatesS_out hs]
    rw [hs] at HS
    clear hs g0
    go_enter Try.func12, Try.ntmps12
    go_wp2_with (go_at_call 22; refine HS.out.mono ?_; rintro e w1 ⟨rfl, hb1⟩)
    go_ret
    exact ⟨rfl, lo.trans (hb1.mono lo.size)⟩
  | true =>
    rw [hs] at HS
    have hs2 := hs
    rw [Bool.and_eq_true] at hs2
    obtain ⟨h1, h2⟩ := hs2
    obtain ⟨hn0, hn1, hn2, _⟩ := right_facts h2
    obtain ⟨m, rfl⟩ : ∃ m : Nat, n = (m : Int) := ⟨n.toNat, by omega⟩
    rw [gatesS_in h2 h1]
    have HM := Lib.hid (fun V hV => gates_any m A c gs l V hV h2 h1)
    clear hs h1 h2
    refine (callsIn_wide (n := 9)).1 (callsIn_of_wp_marks Try.func12 rfl trivial (wpIn_wide.2 ?_) rfl)
    simp only [Try.ntmps12, List.size_toArray, List.length_cons, List.length_nil, Nat.reduceAdd, Nat.reduceSub, Array.replicate_succ, Array.replicate_zero, List.push_toArray, List.append_toArray, List.nil_append, List.cons_append]
    go_wp2_with fail
    refine HS.out.mono ?_
    rintro e w1 ⟨rfl, hb1⟩
    replace g0 := g0.below hb1
    replace lo := lo.trans (hb1.mono lo.size)
    clear HS hb1
    have g1 := g0.alloc (Obj.cells #[.int .i64 0] 3)
    have bc := Blk.new w1 3 #[.int .i64 0]
    have lo1 := lo.alloc lo.size (Obj.cells #[.int .i64 0] 3)
    have k0 := g1.c0
    have k1 := g1.c1
    go_wp2_with (go_at_call 27; refine (HM.out _ g1.gr).mono ?_; rintro e w2 ⟨mx, mb, rfl, hmx, hmb, hgi, hb2⟩)
    have lo2 := lo1.trans (hb2.mono lo1.size)
    replace bc := bc.below hb2 bc.lt
    simp only [World.size_alloc] at hmx hmb hgi hb2
    have hG2 := hg.below lo2 (Nat.le_refl _)
    have hgl := hgi.bg.lt
    have hws := lo.size
    have h1l := hgi.bx.lt
    have h2l := hgi.bf.lt
    have h3l := hgi.bm.lt
    clear k0 k1 g1 lo1 HM g0
    refine wp_rangeFunc (gf := 38) (lb := #[.pointer (some ⟨w1.heap.size + 1, 0, none⟩), .pointer (some ⟨mx, 0, none⟩), .pointer (some ⟨w1.heap.size + 1 + 1, 0, none⟩)]) (encs := gateV gs (1 + m)) (K := fun b => b < w2.heap.size ∧ b ≠ w1.heap.size) rfl (enters_of Try.func38 (by kernel_rfl) rfl)
      (gates_stops 8 (w1.heap.size + 1) mx (w1.heap.size + 1 + 1) mb w.heap.size m A c gs l _ (by omega) (by omega) ⟨by omega, by omega⟩ ⟨by omega, by omega⟩ ⟨by omega, by omega⟩ ⟨by omega, by omega⟩ (fun b h => ⟨by have := lo2.size; omega, by omega⟩) w2 lo2.size (fun b h => h.1) hgi hG2)
      (fun b h => h.1) (Below.refl _ _) (fun _ => rfl)
      (fun pre W => Blk W w1.heap.size 3 #[.int .i64 (pre.length : Int)] ∧ Below w.heap.size w W) (fun _ _ _ => False)
      (fun s X Y row hs hg hr => ⟨hs.1.own hg hr, below_own hs.2 (Nat.le_refl _) lo2.size hg hr⟩) (fun _ _ _ _ _ hs _ _ => hs) ⟨bc, lo2⟩
      (fun x a' _ => a' = { tmps := #[.agg #[.int .i64 m, .slice A gs.length c], .int .i64 l, .pointer (some ⟨w.heap.size, 0, none⟩), undef, .int .i64 0, .pointer (some ⟨w1.heap.size, 0, none⟩), .agg #[.int .i64 m, .slice A gs.length c], .int .i64 l, .bool true, .bool false, .agg #[.int .i64 m, .slice A gs.length c], .int .i64 l, .func (.func 38) #[] #[.pointer (some ⟨w1.heap.size + 1, 0, none⟩), .pointer (some ⟨mx, 0, none⟩), .pointer (some ⟨w1.heap.size + 1 + 1, 0, none⟩)], .int .i64 ((1 + (m : Int)) + (x.1 : Int)), .agg #[.int .i64 (gs[x.1]).1, .int .i64 (gs[x.1]).2], undef, undef, undef], defers := [] })
      (fun _ _ _ _ _ _ hs _ _ => hs)
      ?assign ?body ?done ?stop
    case assign =>
      rintro l' pre x W K' hI hK'
      simp only [gateV]
      gi_wp2
      exact hK' _ _ (KeepsFrom.refl _ _) (KS.refl _ _) hI rfl
    case body =>
      rintro l' pre x a' W ⟨hI, hB⟩ rfl hlt
      have hc := hI.cell 0
      have hf := hI.frozen 0
      simp only [List.getElem?_toArray, List.getElem?_cons_zero] at hc
      gi_wp2
      refine ⟨(KeepsOthers.setCell _ _ _).from _, ⟨by simp, fun b hb => Below.heap_setCell W _ _ b (by simp; exact hb.2)⟩, ?_, hB.setCell (by simp; omega) _⟩
      have := hI.put 0 (.int .i64 ((pre.length : Int) + 1))
      simpa using this
    case done =>
      rintro D ys W hD rfl ⟨hI, hB⟩ hK'
      have hc := hI.cell 0
      simp only [List.getElem?_toArray, List.getElem?_cons_zero] at hc
      go_wp2_with fail
      refine ⟨by simp, .inl ⟨_, _, rfl, run_takeDeferred hK', ?_⟩⟩
      refine ⟨_, results_tmp rfl _ _ _, rfl, below_own hB (Nat.le_refl _) lo2.size (grownBy_putObj' W D (.deferred none)) (fun r e => by cases e; exact ⟨hD, _, hK', rfl⟩)⟩
    case stop =>
      rintro D c' pre W _ _ h _
      exact h.elim
end Go.Proofs.Ytjjdgiondpnpcaa
