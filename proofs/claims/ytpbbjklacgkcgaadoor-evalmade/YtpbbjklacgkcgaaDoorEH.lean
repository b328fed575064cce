/- The reference's All and Eval. -/
import Derived.Test.YtpbbjklacgkcgaaDoorEG
import Derived.Test.YtpbbjklacgkcgaaDoorEBr
namespace Go.Proofs.YtpbbjklacgkcgaaDoor
open Go.RowKit

/-- A graph in its box, and a row that grows. -/
structure RG (w wr : World) (n : Int) (s : Value) (e : TypeId) (v : Value) (vs : List Value) : Prop where
  low : Below w.heap.size w wr
  d0 : wr.cell? ⟨w.heap.size, 0, none⟩ = some (.int .i64 n)
  d1 : wr.cell? ⟨w.heap.size, 1, none⟩ = some s
  sz : w.heap.size < wr.heap.size
  own : OwnV wr (w.heap.size + 1) e v vs
section
variable {w wr w2 : World} {n : Int} {s : Value} {e : TypeId} {v v' : Value} {vs us : List Value}
theorem RG.below (h : RG w wr n s e v vs) (hb : Below wr.heap.size wr w2) : RG w w2 n s e v vs :=
  ⟨h.low.trans (hb.mono h.low.size), (hb.cell (p := ⟨w.heap.size, 0, none⟩) h.sz).trans h.d0, (hb.cell (p := ⟨w.heap.size, 1, none⟩) h.sz).trans h.d1, Nat.lt_of_lt_of_le h.sz hb.size, h.own.below hb⟩
theorem RG.alloc (h : RG w wr n s e v vs) (o : Obj) : RG w (wr.alloc o) n s e v vs := h.below ((Below.refl _ _).alloc (Nat.le_refl _) o)
theorem RG.drewN (h : RG w wr n s e v vs) (m : Nat) : RG w (wr.drewN m) n s e v vs := h.below (below_drewN (Below.refl _ _) _)
theorem RG.step (h : RG w wr n s e v vs) (ho : OwnV w2 (w.heap.size + 1) e v' us) (hg : wr.grownBy w2 v.ownBlock) : RG w w2 n s e v' us := by
  have hb : Below (w.heap.size + 1) wr w2 := grown_low2 hg h.own.base h.sz
  exact ⟨h.low.trans (hb.mono (Nat.le_succ _)), (hb.cell (p := ⟨w.heap.size, 0, none⟩) (Nat.lt_succ_self _)).trans h.d0, (hb.cell (p := ⟨w.heap.size, 1, none⟩) (Nat.lt_succ_self _)).trans h.d1, Nat.lt_of_lt_of_le h.sz hb.size, ho⟩
theorem RG.base (h : RG w wr n s e v vs) : w.heap.size + 1 ≤ wr.heap.size := h.sz
theorem RG.swap (h : RG w wr n s e v vs) (ho : OwnV wr (w.heap.size + 1) e v' us) : RG w wr n s e v' us := ⟨h.low, h.d0, h.d1, h.sz, ho⟩
end
theorem allB_no1 {n : Int} {gs : List (Int × Int)} {ins : List Bool} (h : Gm.rightB n gs = false) : Em.allB n gs ins = [] := by
  unfold Em.allB; rw [if_neg]; rintro ⟨h1, _⟩; rw [h] at h1; cases h1
theorem allB_no2 {n : Int} {gs : List (Int × Int)} {ins : List Bool} (h : ¬ (ins.length : Int) = n) : Em.allB n gs ins = [] := by
  unfold Em.allB; rw [if_neg]; rintro ⟨_, h2⟩; exact h h2

set_option maxRecDepth 100000 in
set_option maxHeartbeats 8000000 in
theorem refAll_any (n : Int) (A : Option Addr) (c : Nat) (gs : List (Int × Int)) (A2 : Option Addr) (c2 : Nat) (ins : List Bool) (w : World) (hl : gs.length ≤ 100000) (hi : ins.length ≤ 100000) (hg : Gr w w.heap.size A gs) (hw : Wf gs) (hV : Vs w w.heap.size A2 (bv ins)) :
    Calls Tryd.prog 12 #[.agg #[.int .i64 n, .slice A gs.length c], .slice A2 ins.length c2] w (BList (Em.allB n gs ins) w) := by
  have g0 := GX.new (n := n) (c := c) (l := gs.length) hg 24
  have lo : Below w.heap.size w (w.alloc (Obj.cells #[.int .i64 n, .slice A gs.length c] 24)) := (Below.refl _ _).alloc (Nat.le_refl _) _
  have HR := Lib.hid (refRight_any n A c gs _ _ (by omega) g0.gr (Nat.le_refl _) hw)
  have hnot : ∀ (x : Bool) (w : World), (Op.unary .not (.bool x)).run Tryd.prog w = .ok (.bool (!x)) w := fun _ _ => rfl
  cases hrb : Gm.rightB n gs with
  | false =>
    rw [allB_no1 hrb]
    rw [hrb] at HR
    clear hrb g0
    go_enter Tryd.func12, Tryd.ntmps12
    go_wp2_with (go_at_call 28; refine HR.out.mono ?_; rintro e w1 ⟨rfl, hb1⟩)
    go_ret
    exact ⟨none, 0, rfl, vs_nil, lo.trans (hb1.mono lo.size)⟩
  | true =>
    by_cases hn : (ins.length : Int) = n
    · have he : Em.allB n gs ins = Em.vals Em.gateB (false :: ins) gs := by unfold Em.allB; rw [if_pos ⟨hrb, hn⟩]
      rw [he]
      rw [hrb] at HR
      have HO := Lib.hid (Em.right_ord hrb)
      have hrf := right_facts hrb
      have hgl : gs.length ≤ 2000 := by omega
      have hil : ins.length ≤ 2000 := by omega
      have hn0 := hrf.1
      have HQ := Lib.hid hn
      clear hrb he hrf
      go_enter Tryd.func12, Tryd.ntmps12
      go_wp2_with fail
      refine HR.out.mono ?_
      rintro e w1 ⟨rfl, hb1⟩
      replace g0 := g0.below hb1
      replace lo := lo.trans (hb1.mono lo.size)
      have k0 := g0.c0
      have k1 := g0.c1
      have hV1 := hV.below lo (Nat.le_refl _)
      clear HR hb1
      go_upto_region 3 with fail
      have R0 : RG w w1 n (.slice A gs.length c) 4 (.slice none 0 0) [] := ⟨lo, k0, k1, g0.lt, OwnV.nil _ _ _⟩
      have R1 := (R0.alloc (Obj.cells #[.bool false] 4)).swap (OwnV.one w1 _ 4 (.bool false) g0.lt)
      have hV2 : Vs (w1.alloc (Obj.cells #[.bool false] 4)) w.heap.size A2 (bv ins) := hV1.below ((Below.refl w.heap.size w1).alloc (Nat.le_trans lo.size (Nat.le_refl _)) _) (Nat.le_refl _)
      have hL : [Value.bool false].length + (bv ins).length ≤ 2000000 := by simp; omega
      have HL := Lib.hid hL
      have HI := Lib.hid (show ins.length = (bv ins).length by simp)
      clear R0 hV1 hL k0 k1
      go_wp2_with (at_builtin; go_loud (refine wpList_bools rfl (.tmp 17) (.tmp 18) rfl (w.heap.size + 1) _ _ _ (bv ins) rfl R1.own _ _ _ rfl HI.out hV2 (bv_one ins) HL.out R1.base ?_); intro v' w' hown' hgr' _)
      have R2 := R1.step hown' hgr'
      clear R1 hown' hgr' hV2 HL
      go_loopw [5, 6] (fun v i wr => ∃ k : Nat, k ≤ gs.length ∧ i = .int .i64 k ∧ RG w wr n (.slice A gs.length c) 4 v (bv (Em.vals Em.gateB (false :: ins) (gs.take k)))) (fun _ i _ => gs.length - (intOf i).toNat)
      case atStart => exact ⟨0, Nat.zero_le _, rfl, R2⟩
      case round =>
        obtain ⟨k, hkl, rfl, R⟩ := hrel
        obtain ⟨A', c', hv, hV'⟩ := R.own.vs
        have k0 := R.d0
        have k1 := R.d1
        by_cases hlt : k < gs.length
        · obtain ⟨b, off, hA, hbw, g1, g2⟩ := (hg.below R.low (Nat.le_refl _)) k hlt
          subst hA
          have hlow := Em.gate_low HO.out hlt
          have hstep := Lib.hid (Em.vals_take (f := Em.gateB) (false :: ins) gs k hlt)
          have hvl : (Em.vals Em.gateB (false :: ins) (gs.take k)).length = 1 + ins.length + k := by rw [Em.vals_length, List.length_take, Nat.min_eq_left (by omega), List.length_cons]; omega
          generalize Em.vals Em.gateB (false :: ins) (gs.take k) = bs at *
          generalize gs[k] = g at *
          obtain ⟨x, y⟩ := g
          simp only at g1 g2 hlow
          rw [List.length_map] at hv
          subst hv
          have h1 := Lib.hid (bit_any A' c' bs x wr _ hV' (by omega) (by omega) (by omega))
          have h2 := Lib.hid (bit_any A' c' bs y wr _ hV' (by omega) (by omega) (by omega))
          have HG := Lib.hid (show Em.gateB bs (x, y) = (Em.bitB bs x && Em.bitB bs y) from rfl)
          generalize Em.gateB bs (x, y) = r at *
          generalize Em.bitB bs x = p at *
          generalize Em.bitB bs y = q at *
          have hL : (bv bs).length + [Value.bool r].length ≤ 2000000 := by simp; omega
          have HL := Lib.hid hL
          clear hL hvl
          cases p with
          | false =>
            rw [Bool.false_and] at HG
            obtain rfl := HG.out
            go_wp2_with (first | (go_at_call 29; refine h1.out.mono ?_; rintro e w3 ⟨rfl, rfl⟩) | (at_builtin; go_loud (refine wpList_bools rfl (.tmp 27) (.tmp 46) rfl (w.heap.size + 1) _ _ (bv bs) [.bool false] rfl (R.own.alloc _) _ _ _ rfl rfl (vs_one _ _ _) (one_bool _) HL.out (R.alloc _).base ?_); intro v' w' hown' hgr' _))
            go_roundw
            case rel => exact ⟨k + 1, by omega, by go_num, by rw [hstep.out, bv, List.map_append]; exact (R.alloc _).step hown' hgr'⟩
            case measure => simp [intOf]; omega
          | true =>
            rw [Bool.true_and] at HG
            obtain rfl := HG.out
            go_wp2_with (first | (go_at_call_of 29 x; refine h1.out.mono ?_; rintro e w3 ⟨rfl, rfl⟩) | (go_at_call_of 29 y; refine h2.out.mono ?_; rintro e w4 ⟨rfl, rfl⟩) | (at_builtin; go_loud (refine wpList_bools rfl (.tmp 27) (.tmp 46) rfl (w.heap.size + 1) _ _ (bv bs) [.bool r] rfl (R.own.alloc _) _ _ _ rfl rfl (vs_one _ _ _) (one_bool _) HL.out (R.alloc _).base ?_); intro v' w' hown' hgr' _))
            go_roundw
            case rel => exact ⟨k + 1, by omega, by go_num, by rw [hstep.out, bv, List.map_append]; exact (R.alloc _).step hown' hgr'⟩
            case measure => simp [intOf]; omega
        · have hkk : k = gs.length := by omega
          subst hkk
          rw [List.take_length] at *
          subst hv
          have lo3 := R.low
          go_wp2_with fail
          go_ret
          exact ⟨A', c', by simp, hV', lo3⟩
    · rw [allB_no2 hn]
      rw [hrb] at HR
      have hne : ((ins.length : Int) != n) = true := by simpa using hn
      clear hrb
      go_enter Tryd.func12, Tryd.ntmps12
      go_wp2_with fail
      refine HR.out.mono ?_
      rintro e w1 ⟨rfl, hb1⟩
      replace g0 := g0.below hb1
      have k0 := g0.c0
      have k1 := g0.c1
      go_wp2_with fail
      go_ret
      exact ⟨none, 0, rfl, vs_nil, lo.trans (hb1.mono lo.size)⟩

set_option maxRecDepth 100000 in
set_option maxHeartbeats 4000000 in
theorem refEval_any (n : Int) (A : Option Addr) (c : Nat) (gs : List (Int × Int)) (l : Int) (A2 : Option Addr) (c2 : Nat) (ins : List Bool) (w : World) (hl : gs.length ≤ 100000) (hi : ins.length ≤ 100000) (hg : Gr w w.heap.size A gs) (hw : Wf gs) (hV : Vs w w.heap.size A2 (bv ins)) (hx : l ≤ 9223372036854775807) :
    Calls Tryd.prog 14 #[.agg #[.int .i64 n, .slice A gs.length c], .int .i64 l, .slice A2 ins.length c2] w fun e w' => e = .returned (.bool (Em.evalB n gs l ins)) ∧ Below w.heap.size w w' := by
  have g0 := GX.new (n := n) (c := c) (l := gs.length) hg 24
  have lo : Below w.heap.size w (w.alloc (Obj.cells #[.int .i64 n, .slice A gs.length c] 24)) := (Below.refl _ _).alloc (Nat.le_refl _) _
  have HV := (hV.below lo (Nat.le_refl _)).more lo.size
  have HA := Lib.hid (refAll_any n A c gs A2 c2 ins _ hl hi g0.gr hw HV)
  have HL := Lib.hid (fun w => refLit_any n A gs.length c l w (by omega) hx)
  have HLF := Lib.hid (fun h => lit_facts (n := n) (l := gs.length) (x := l) h)
  have HN : Hid ((Em.allB n gs ins) = [] ∨ 0 ≤ n ∧ ((Em.allB n gs ins).length : Int) = 1 + n + gs.length ∧ (Em.allB n gs ins).length ≤ 1000000) := by
    unfold Hid Em.allB
    split
    · rename_i h
      right
      have := right_facts h.1
      rw [Em.vals_length, List.length_cons]
      omega
    · exact Or.inl rfl
  unfold Em.evalB
  generalize Em.allB n gs ins = v at *
  generalize Gm.litB n gs.length l = b at *
  clear HV hx
  obtain ⟨z, hz⟩ : ∃ z, z = (decide (0 < v.length) && b && Em.bitB v l) := ⟨_, rfl⟩
  rw [← hz]
  have HZ := Lib.hid hz
  clear hz
  go_enter Tryd.func14, Tryd.ntmps14
  go_wp2_with fail
  refine HA.out.mono ?_
  rintro e w1 ⟨A', c', rfl, hV1, hb1⟩
  replace g0 := g0.below hb1
  replace lo := lo.trans (hb1.mono lo.size)
  have k0 := g0.c0
  have k1 := g0.c1
  clear HA hb1
  go_upto_region 2 with fail
  rcases HN.out with rfl | ⟨hn0, hvl, hvm⟩
  · go_wp2_with fail
    go_ret
    exact ⟨ret_bool (by rw [HZ.out]; rfl), lo⟩
  · have hpos : 0 < v.length := by omega
    have hpi : (0 : Int) < (v.length : Int) := by omega
    rw [decide_eq_true hpos, Bool.true_and] at HZ
    have HP := Lib.hid hvl
    clear hvl
    cases b with
    | false =>
      go_wp2_with (go_at_call 31; refine (HL.out _).mono ?_; rintro e w2 ⟨rfl, hb2⟩)
      go_ret
      exact ⟨ret_bool HZ.out.symm, lo.trans (hb2.mono lo.size)⟩
    | true =>
      have hlf := HLF.out rfl
      have HT := Lib.hid (fun w hb => bit_any A' c' v l w w1.heap.size hb hlf.1 (by have := HP.out; omega) hvm)
      rw [Bool.true_and] at HZ
      generalize Em.bitB v l = r at *
      clear hlf
      go_wp2_with (first | (go_at_call 31; refine (HL.out _).mono ?_; rintro e w2 ⟨rfl, hb2⟩) | (go_at_call 29; refine (HT.out _ (hV1.below hb2 (Nat.le_refl _))).mono ?_; rintro e w3 ⟨rfl, rfl⟩))
      go_ret
      exact ⟨ret_bool HZ.out.symm, lo.trans (hb2.mono lo.size)⟩

end Go.Proofs.YtpbbjklacgkcgaaDoor
