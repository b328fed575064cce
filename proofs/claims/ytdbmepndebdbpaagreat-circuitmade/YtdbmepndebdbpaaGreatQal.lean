/- Find, Is, After. -/
import Derived.Test.YtdbmepndebdbpaaGreatQak
namespace Go.Proofs.YtdbmepndebdbpaaGreat
open Go.RowKit

theorem str_eq (a b : ByteArray) : (a.toList == b.toList) = decide (a = b) := by
  rw [ByteArray.toList_eq, ByteArray.toList_eq, Bool.eq_iff_iff]
  simp only [beq_iff_eq, decide_eq_true_eq]
  constructor
  · exact WideShapes.bytes_inj
  · intro h
    rw [h]
namespace Cm
/-- The literal of the signal that a text names, or spells. -/
def spelS (c : Cir) (s : ByteArray) : Int := if h : 0 < s.size then match digS (s.extract 1 s.size) with | some n => sigS c ((s[0]'h).toNat : Int) n | none => -1 else -1
def findS (c : Cir) (s : ByteArray) : Int := if rightC c = true then match c.ns.find? (fun x => decide (x.2.2 = s)) with | some x => sigS c x.1 x.2.1 | none => spelS c s else -1
end Cm

set_option maxRecDepth 100000 in
set_option maxHeartbeats 2000000 in
theorem Find_any (c : Cir) (s : ByteArray) (w : World) (hM : CirM w w.heap.size c) (hW : CirW c) (hcap : c.ns.length ≤ c.cN) (hs : s.size ≤ maxLen) : Calls Tryz.prog 17 #[.agg #[.int .i64 c.n, .slice c.aL c.ls.length c.cL, .slice c.aG c.gs.length c.cG, .slice c.aO c.os.length c.cO, .slice c.aB c.bs.length c.cB, .slice c.aC c.cs.length c.cC, .slice c.aF c.fs.length c.cF, .slice c.aN c.ns.length c.cN], .string s] w fun e w' => e = .returned (.int .i64 (Cm.findS c s)) ∧ Below w.heap.size w w' := by
  have hbx := boxed w c
  have lo := lowAlloc w (Obj.cells #[.int .i64 c.n, .slice c.aL c.ls.length c.cL, .slice c.aG c.gs.length c.cG, .slice c.aO c.os.length c.cO, .slice c.aB c.bs.length c.cB, .slice c.aC c.cs.length c.cC, .slice c.aF c.fs.length c.cF, .slice c.aN c.ns.length c.cN] 28)
  have hnot : ∀ (x : Bool) (w : World), (Op.unary .not (.bool x)).run Tryz.prog w = .ok (.bool (!x)) w := fun _ _ => rfl
  have HR := Lib.hid (Right4_any c _ ((hM.below lo (Nat.le_refl _)).more lo.size) hW hcap)
  have HSG := Lib.hid (fun k at_ V (hb : Below w.heap.size w V) h => signal_any c k at_ V ((hM.below hb (Nat.le_refl _)).more hb.size) (Cm.right_fits (c := c) h))
  have HFS : Hid (Cm.findS c s = if Cm.rightC c = true then match c.ns.find? (fun x => decide (x.2.2 = s)) with | some x => Cm.sigS c x.1 x.2.1 | none => Cm.spelS c s else -1) := rfl
  generalize Cm.findS c s = z at *
  generalize Cm.rightC c = t at *
  have c0 := hbx.cell 0; have c1 := hbx.cell 1; have c2 := hbx.cell 2; have c3 := hbx.cell 3; have c4 := hbx.cell 4; have c5 := hbx.cell 5; have c6 := hbx.cell 6; have c7 := hbx.cell 7; simp only [List.getElem?_toArray, List.getElem?_cons_zero, List.getElem?_cons_succ] at c0 c1 c2 c3 c4 c5 c6 c7
  have hln := hW.ln
  go_enter Tryz.func17, Tryz.ntmps17
  go_wp2_with fail
  refine HR.out.mono ?_
  rintro e w1 ⟨rfl, hb1⟩
  replace hbx := hbx.below hb1 hbx.lt
  replace lo := lo.trans (hb1.mono lo.size)
  clear c0 c1 c2 c3 c4 c5 c6 c7
  clear HR hb1
  cases t with
  | false =>
    go_wp2
    go_ret
    exact ⟨by rw [HFS.out]; rfl, lo⟩
  | true =>
    have c7 := hbx.cell 7
    simp only [List.getElem?_toArray, List.getElem?_cons_zero, List.getElem?_cons_succ] at c7
    have HLO := Lib.hid lo
    have HBX := Lib.hid hbx
    clear lo hbx
    go_wp2
    clear c7
    go_loopw [15] (fun i wr => ∃ k : Nat, k ≤ c.ns.length ∧ i = .int .i64 k ∧ (c.ns.take k).find? (fun x => decide (x.2.2 = s)) = none ∧ Below w.heap.size w wr ∧ Blk wr w.heap.size 28 #[.int .i64 c.n, .slice c.aL c.ls.length c.cL, .slice c.aG c.gs.length c.cG, .slice c.aO c.os.length c.cO, .slice c.aB c.bs.length c.cB, .slice c.aC c.cs.length c.cC, .slice c.aF c.fs.length c.cF, .slice c.aN c.ns.length c.cN]) (fun i _ => c.ns.length - (intOf i).toNat)
    case atStart => exact ⟨0, Nat.zero_le _, rfl, rfl, HLO.out, HBX.out⟩
    case round =>
      obtain ⟨k, hk, rfl, hfn, lo, hbx⟩ := hrel
      by_cases hlt : k < c.ns.length
      · obtain ⟨b, off, hA, hbw, g1, g2, g3⟩ := (hM.hn.below lo (Nat.le_refl _)) k hlt
        have hkk := hW.hk c.ns[k] (by simp)
        have hfe : c.ns.find? (fun x => decide (x.2.2 = s)) = if c.ns[k].2.2 = s then some c.ns[k] else (c.ns.drop (k + 1)).find? (fun x => decide (x.2.2 = s)) := by
          have : c.ns = c.ns.take k ++ c.ns[k] :: c.ns.drop (k + 1) := by rw [← List.drop_eq_getElem_cons hlt, List.take_append_drop]
          conv => lhs; rw [this]
          rw [List.find?_append, hfn, Option.none_or, List.find?_cons]
          by_cases h : c.ns[k].2.2 = s
          · simp [h]
          · simp [h]
        have hf2 : c.ns[k].2.2 ≠ s → (c.ns.take (k + 1)).find? (fun x => decide (x.2.2 = s)) = none := fun h => by
          rw [List.take_succ_eq_append_getElem hlt, List.find?_append, hfn]
          simp [h]
        have HFE := Lib.hid hfe
        have HF2 := Lib.hid hf2
        clear hfe hf2 hfn
        rw [hA]
        rw [hA] at HSG hbx
        clear hA
        generalize c.ns[k] = x at *
        obtain ⟨kd, at_, tx⟩ := x
        simp only at g1 g2 g3 hkk HFE HF2
        obtain ⟨⟨hk0, hk1⟩, _, _⟩ := hkk
        have lo1 := lo.alloc lo.size (Obj.cells #[.int .u8 kd, .int .i64 at_, .string tx] 35)
        have hbx1 := hbx.alloc (Obj.cells #[.int .u8 kd, .int .i64 at_, .string tx] 35)
        have hse := str_eq tx s
        by_cases he : tx = s
        · have d0 : (tx.toList == s.toList) = true := by rw [hse]; exact decide_eq_true he
          have HZ : Hid (z = Cm.sigS c kd at_) := by
            unfold Hid
            rw [HFS.out, HFE.out, if_pos he]
            rfl
          have c0 := hbx1.cell 0; have c1 := hbx1.cell 1; have c2 := hbx1.cell 2; have c3 := hbx1.cell 3; have c4 := hbx1.cell 4; have c5 := hbx1.cell 5; have c6 := hbx1.cell 6; have c7 := hbx1.cell 7; simp only [List.getElem?_toArray, List.getElem?_cons_zero, List.getElem?_cons_succ] at c0 c1 c2 c3 c4 c5 c6 c7
          clear HFS HFE HF2 hse he
          go_wp2_with fail
          refine (HSG.out _ _ _ lo1 trivial).mono ?_
          rintro e w2 ⟨rfl, hb2⟩
          go_wp2
          go_ret
          exact ⟨by rw [HZ.out]; rfl, lo1.trans (hb2.mono lo1.size)⟩
        · have d0 : (tx.toList == s.toList) = false := by rw [hse]; exact decide_eq_false he
          have HNX := Lib.hid (HF2.out he)
          clear HFE HF2 hse he
          go_wp2
          go_roundw
          case rel => exact ⟨k + 1, by omega, by go_num, HNX.out, lo1, hbx1⟩
          case measure => simp [intOf]; omega
      · obtain rfl : k = c.ns.length := by omega
        rw [List.take_length] at hfn
        have HZ : Hid (z = Cm.spelS c s) := by
          unfold Hid
          rw [HFS.out, hfn]
          rfl
        clear hfn HFS
        unfold maxLen at hs
        by_cases h0 : s.size = 0
        · have HZ2 : Hid (z = -1) := by
            unfold Hid
            rw [HZ.out, Cm.spelS, dif_neg (by omega)]
          clear HZ
          go_wp2
          go_ret
          exact ⟨by rw [HZ2.out]; rfl, lo⟩
        · have d0 : ((s.size : Int) == 0) = false := by rw [beq_eq_false_iff_ne]; omega
          have hsl : ∀ w, (Instr.slice 9 (.string s) (some (.int .i64 1)) none none).run Tryz.prog w = .ok (.string (s.extract 1 s.size)) w := fun w => by
            rw [run_slice_string_from_if w _ _ _ _ Tryz.underlying9, if_pos (by omega)]
            rfl
          have hss : (s.extract 1 s.size).size ≤ maxLen := by
            rw [ByteArray.size_extract]
            unfold maxLen
            omega
          have HZ2 : Hid (z = match Cm.digS (s.extract 1 s.size) with | some n => Cm.sigS c ((s[0]'(by omega)).toNat : Int) n | none => -1) := by
            unfold Hid
            rw [HZ.out, Cm.spelS, dif_pos (by omega)]
          have HNU := Lib.hid (number_any (s.extract 1 s.size) wr hss)
          unfold numV at HNU
          have hix0 : ∀ w, (Instr.index 9 (.string s) (.int .i64 0)).run Tryz.prog w = .ok (.int .u8 ((s[0]'(by omega)).toNat : Int)) w := fun w => index_str s 0 (by omega) w
          have hr0 : ((s[0]'(by omega : 0 < s.size)).toNat) < 256 := UInt8.toNat_lt _
          clear HZ hss
          generalize (s[0]'(by omega : 0 < s.size)).toNat = r0 at *
          go_wp2_with fail
          refine HNU.out.mono ?_
          rintro e w2 ⟨rfl, hb2⟩
          replace hbx := hbx.below hb2 hbx.lt
          replace lo := lo.trans (hb2.mono lo.size)
          have c0 := hbx.cell 0; have c1 := hbx.cell 1; have c2 := hbx.cell 2; have c3 := hbx.cell 3; have c4 := hbx.cell 4; have c5 := hbx.cell 5; have c6 := hbx.cell 6; have c7 := hbx.cell 7; simp only [List.getElem?_toArray, List.getElem?_cons_zero, List.getElem?_cons_succ] at c0 c1 c2 c3 c4 c5 c6 c7
          clear HNU hb2
          generalize Cm.digS (s.extract 1 s.size) = d at *
          cases d with
          | none =>
            simp only
            go_wp2
            go_ret
            exact ⟨by rw [HZ2.out]; rfl, lo⟩
          | some n =>
            simp only at HZ2
            simp only
            go_upto_region 14 with fail
            have hwr : IntKind.i32.wrap (r0 : Int) = r0 := by rw [IntKind.wrap_i32]; omega
            have HSG2 : Hid (∀ V, Below w.heap.size w V → Calls Tryz.prog 34 #[.agg #[.int .i64 c.n, .slice c.aL c.ls.length c.cL, .slice c.aG c.gs.length c.cG, .slice c.aO c.os.length c.cO, .slice c.aB c.bs.length c.cB, .slice c.aC c.cs.length c.cC, .slice c.aF c.fs.length c.cF, .slice c.aN c.ns.length c.cN], .int .i32 (IntKind.i32.wrap (r0 : Int)), .int .i64 (n : Int)] V fun e w' => e = .returned (.int .i64 (Cm.sigS c r0 n)) ∧ Below V.heap.size V w') := fun V hb => by
              rw [hwr]
              exact HSG.out (r0 : Int) (n : Int) V hb trivial
            clear hwr
            have HK : Hid (∀ V, Below w2.heap.size w2 V → V.cell? ⟨w.heap.size, 0, none⟩ = some (.int .i64 c.n) ∧ V.cell? ⟨w.heap.size, 1, none⟩ = some (.slice c.aL c.ls.length c.cL) ∧ V.cell? ⟨w.heap.size, 2, none⟩ = some (.slice c.aG c.gs.length c.cG) ∧ V.cell? ⟨w.heap.size, 3, none⟩ = some (.slice c.aO c.os.length c.cO) ∧ V.cell? ⟨w.heap.size, 4, none⟩ = some (.slice c.aB c.bs.length c.cB) ∧ V.cell? ⟨w.heap.size, 5, none⟩ = some (.slice c.aC c.cs.length c.cC) ∧ V.cell? ⟨w.heap.size, 6, none⟩ = some (.slice c.aF c.fs.length c.cF) ∧ V.cell? ⟨w.heap.size, 7, none⟩ = some (.slice c.aN c.ns.length c.cN)) := by
              intro V hb
              have h := hbx.below hb hbx.lt
              exact ⟨h.cell 0, h.cell 1, h.cell 2, h.cell 3, h.cell 4, h.cell 5, h.cell 6, h.cell 7⟩
            have lx0 := Below.refl w2.heap.size w2
            have hr1 : (r0 : Int) ≤ 255 := by omega
            clear HSG hbx hM hW c0 c1 c2 c3 c4 c5 c6 c7
            go_region_held3 (fun V => V.cell? ⟨w.heap.size, 0, none⟩ = some (.int .i64 c.n) ∧ V.cell? ⟨w.heap.size, 1, none⟩ = some (.slice c.aL c.ls.length c.cL) ∧ V.cell? ⟨w.heap.size, 2, none⟩ = some (.slice c.aG c.gs.length c.cG) ∧ V.cell? ⟨w.heap.size, 3, none⟩ = some (.slice c.aO c.os.length c.cO) ∧ V.cell? ⟨w.heap.size, 4, none⟩ = some (.slice c.aB c.bs.length c.cB) ∧ V.cell? ⟨w.heap.size, 5, none⟩ = some (.slice c.aC c.cs.length c.cC) ∧ V.cell? ⟨w.heap.size, 6, none⟩ = some (.slice c.aF c.fs.length c.cF) ∧ V.cell? ⟨w.heap.size, 7, none⟩ = some (.slice c.aN c.ns.length c.cN))
              (first | exact HK.out _ lx0 | exact HK.out _ lx0.drew | exact HK.out _ lx6 | exact HK.out _ lx6.drew)
              (first | (go_at_call 34; (with_reducible refine (HSG2.out _ lo.drew).mono ?_); rintro e w3 ⟨rfl, hb3⟩; have lx6 := lx0.drew.trans hb3))
            go_wp2
            go_ret
            exact ⟨by rw [HZ2.out]; rfl, lo.trans (lx6.mono lo.size)⟩
end Go.Proofs.YtdbmepndebdbpaaGreat
/- Is and After. -/
namespace Go.Proofs.YtdbmepndebdbpaaGreat
open Go.RowKit

theorem mono_all {w w' : World} {B C : Nat} (h : Below C w w') (hB : B ≤ C) : Below B w w' := h.mono hB

set_option maxRecDepth 100000 in
set_option maxHeartbeats 8000000 in
theorem Is_any (c : Cir) (st l : Int) (w : World) (hM : CirM w w.heap.size c) (hW : CirW c) (hcap : c.ns.length ≤ c.cN) (hs : I64 st) (hlg : c.gs.length ≤ 100000) : Calls Tryz.prog 19 #[.agg #[.int .i64 c.n, .slice c.aL c.ls.length c.cL, .slice c.aG c.gs.length c.cG, .slice c.aO c.os.length c.cO, .slice c.aB c.bs.length c.cB, .slice c.aC c.cs.length c.cC, .slice c.aF c.fs.length c.cF, .slice c.aN c.ns.length c.cN], .int .i64 st, .int .i64 l] w fun e w' => e = .returned (.bool (Cm.isS c st l)) ∧ Below w.heap.size w w' := by
  have hbx := boxed w c
  have lo := lowAlloc w (Obj.cells #[.int .i64 c.n, .slice c.aL c.ls.length c.cL, .slice c.aG c.gs.length c.cG, .slice c.aO c.os.length c.cO, .slice c.aB c.bs.length c.cB, .slice c.aC c.cs.length c.cC, .slice c.aF c.fs.length c.cF, .slice c.aN c.ns.length c.cN] 28)
  have hM1 := (hM.below lo (Nat.le_refl _)).more lo.size
  obtain ⟨W, hWW⟩ : ∃ W, W = w.alloc (Obj.cells #[.int .i64 c.n, .slice c.aL c.ls.length c.cL, .slice c.aG c.gs.length c.cG, .slice c.aO c.os.length c.cO, .slice c.aB c.bs.length c.cB, .slice c.aC c.cs.length c.cC, .slice c.aF c.fs.length c.cF, .slice c.aN c.ns.length c.cN] 28) := ⟨_, rfl⟩
  rw [← hWW] at hbx lo hM1
  have HST := Lib.hid (fun V (hb : Below W.heap.size W V) => steps_any c V ((hM1.below hb (Nat.le_refl _)).more hb.size) hW hcap)
  have lx := Below.refl W.heap.size W
  have HK : Hid (∀ V, Below W.heap.size W V → (fun V => V.cell? ⟨w.heap.size, 0, none⟩ = some (.int .i64 c.n) ∧ V.cell? ⟨w.heap.size, 1, none⟩ = some (.slice c.aL c.ls.length c.cL) ∧ V.cell? ⟨w.heap.size, 2, none⟩ = some (.slice c.aG c.gs.length c.cG) ∧ V.cell? ⟨w.heap.size, 3, none⟩ = some (.slice c.aO c.os.length c.cO) ∧ V.cell? ⟨w.heap.size, 4, none⟩ = some (.slice c.aB c.bs.length c.cB) ∧ V.cell? ⟨w.heap.size, 5, none⟩ = some (.slice c.aC c.cs.length c.cC) ∧ V.cell? ⟨w.heap.size, 6, none⟩ = some (.slice c.aF c.fs.length c.cF) ∧ V.cell? ⟨w.heap.size, 7, none⟩ = some (.slice c.aN c.ns.length c.cN)) V) := by
    intro V hb
    have h := hbx.below hb hbx.lt
    exact ⟨h.cell 0, h.cell 1, h.cell 2, h.cell 3, h.cell 4, h.cell 5, h.cell 6, h.cell 7⟩
  have HIS : Hid (Cm.isS c st l = (Cm.stepB c && Em.evalB (c.n + c.ls.length) c.gs l (bitsB st (c.n + c.ls.length).toNat))) := rfl
  generalize Cm.isS c st l = z at *
  cases hsb : Cm.stepB c with
  | false =>
    have HZ : Hid (z = false) := by
      unfold Hid
      rw [HIS.out, hsb]
      rfl
    rw [hsb] at HST
    clear HIS hsb
    go_enter Tryz.func19, Tryz.ntmps19
    go_upto_region 1 with fail
    rw [← hWW]
    clear hWW
    refine wp_region_held_drew (S := (fun V => V.cell? ⟨w.heap.size, 0, none⟩ = some (.int .i64 c.n) ∧ V.cell? ⟨w.heap.size, 1, none⟩ = some (.slice c.aL c.ls.length c.cL) ∧ V.cell? ⟨w.heap.size, 2, none⟩ = some (.slice c.aG c.gs.length c.cG) ∧ V.cell? ⟨w.heap.size, 3, none⟩ = some (.slice c.aO c.os.length c.cO) ∧ V.cell? ⟨w.heap.size, 4, none⟩ = some (.slice c.aB c.bs.length c.cB) ∧ V.cell? ⟨w.heap.size, 5, none⟩ = some (.slice c.aC c.cs.length c.cC) ∧ V.cell? ⟨w.heap.size, 6, none⟩ = some (.slice c.aF c.fs.length c.cF) ∧ V.cell? ⟨w.heap.size, 7, none⟩ = some (.slice c.aN c.ns.length c.cN))) (by kernel_rfl) ?_ (fun hHeld => ?_)
    · exact HK.out _ lx.drew
    refine wpAnyH_take (i := 0) (oi := ⟨some 7, _, _, _, _, _⟩) (v := ?_) rfl (by kernel_rfl) (by kernel_rfl) (by kernel_rfl) (fun _ _ _ h => h) (Or.inl ⟨by rfl, ?_⟩) hHeld ?_
    rotate_left
    · intro w hSw
      (try dsimp only at hSw)
      first | (go_simp; done) | (go_simp; with_reducible rfl) | with_reducible rfl
    try simp only [Act.put, List.setIfInBounds_toArray, List.set_cons_zero, List.set_cons_succ]
    refine wpAnyH_ready (rs := [1]) (by kernel_rfl) (by simp) ?_
    refine AllReadyH.cons (o := ⟨some 8, _, _, _, _, _⟩) rfl (fun K hK => ?_) AllReadyH.nil
    go_simp
    refine (HST.out _ lx.drew).mono ?_; rintro e w1 ⟨rfl, hb1⟩; replace lx := lx.drew.trans hb1
    refine hK.out _ _ ?_ (fun hHeld => ?_)
    · exact HK.out _ lx
    clear hK K
    try simp only [Act.put, List.setIfInBounds_toArray, List.set_cons_zero, List.set_cons_succ]
    refine wpAnyH_take (i := 2) (oi := ⟨some 9, _, _, _, _, _⟩) (v := ?_) rfl (by kernel_rfl) (by kernel_rfl) (by kernel_rfl) (fun _ _ _ h => h) (Or.inl ⟨by rfl, ?_⟩) hHeld ?_
    rotate_left
    · intro w hSw
      (try dsimp only at hSw)
      first | (go_simp; done) | (go_simp; with_reducible rfl) | with_reducible rfl
    try simp only [Act.put, List.setIfInBounds_toArray, List.set_cons_zero, List.set_cons_succ]
    refine wpAnyH_take (i := 3) (oi := ⟨some 10, _, _, _, _, _⟩) (v := undef) rfl (by kernel_rfl) (by kernel_rfl) (by kernel_rfl) (fun _ _ _ h => h) (Or.inr ⟨by rfl, rfl⟩) hHeld ?_
    try simp only [Act.put, List.setIfInBounds_toArray, List.set_cons_zero, List.set_cons_succ]
    refine wpAnyH_take (i := 4) (oi := ⟨some 11, _, _, _, _, _⟩) (v := undef) rfl (by kernel_rfl) (by kernel_rfl) (by kernel_rfl) (fun _ _ _ h => h) (Or.inr ⟨by rfl, rfl⟩) hHeld ?_
    try simp only [Act.put, List.setIfInBounds_toArray, List.set_cons_zero, List.set_cons_succ]
    refine wpAnyH_take (i := 5) (oi := ⟨some 12, _, _, _, _, _⟩) (v := undef) rfl (by kernel_rfl) (by kernel_rfl) (by kernel_rfl) (fun _ _ _ h => h) (Or.inr ⟨by rfl, rfl⟩) hHeld ?_
    try simp only [Act.put, List.setIfInBounds_toArray, List.set_cons_zero, List.set_cons_succ]
    refine wpAnyH_take (i := 6) (oi := ⟨some 13, _, _, _, _, _⟩) (v := undef) rfl (by kernel_rfl) (by kernel_rfl) (by kernel_rfl) (fun _ _ _ h => h) (Or.inr ⟨by rfl, rfl⟩) hHeld ?_
    try simp only [Act.put, List.setIfInBounds_toArray, List.set_cons_zero, List.set_cons_succ]
    refine wpAnyH_take (i := 7) (oi := ⟨some 14, _, _, _, _, _⟩) (v := undef) rfl (by kernel_rfl) (by kernel_rfl) (by kernel_rfl) (fun _ _ _ h => h) (Or.inr ⟨by rfl, rfl⟩) hHeld ?_
    try simp only [Act.put, List.setIfInBounds_toArray, List.set_cons_zero, List.set_cons_succ]
    refine wpAnyH_take (i := 8) (oi := ⟨some 15, _, _, _, _, _⟩) (v := undef) rfl (by kernel_rfl) (by kernel_rfl) (by kernel_rfl) (fun _ _ _ h => h) (Or.inr ⟨by rfl, rfl⟩) hHeld ?_
    try simp only [Act.put, List.setIfInBounds_toArray, List.set_cons_zero, List.set_cons_succ]
    refine wpAnyH_take (i := 9) (oi := ⟨some 16, _, _, _, _, _⟩) (v := undef) rfl (by kernel_rfl) (by kernel_rfl) (by kernel_rfl) (fun _ _ _ h => h) (Or.inr ⟨by rfl, rfl⟩) hHeld ?_
    try simp only [Act.put, List.setIfInBounds_toArray, List.set_cons_zero, List.set_cons_succ]
    refine wpAnyH_take (i := 10) (oi := ⟨some 17, _, _, _, _, _⟩) (v := ?_) rfl (by kernel_rfl) (by kernel_rfl) (by kernel_rfl) (fun _ _ _ h => h) (Or.inl ⟨by rfl, ?_⟩) hHeld ?_
    rotate_left
    · intro w hSw
      (try dsimp only at hSw)
      first | (go_simp; done) | (go_simp; with_reducible rfl) | with_reducible rfl
    try simp only [Act.put, List.setIfInBounds_toArray, List.set_cons_zero, List.set_cons_succ]
    refine wpAnyH_take (i := 11) (oi := ⟨some 6, _, _, _, _, _⟩) (v := ?_) rfl (by kernel_rfl) (by kernel_rfl) (by kernel_rfl) (fun _ _ _ h => h) (Or.inl ⟨by rfl, ?_⟩) hHeld ?_
    rotate_left
    · intro w hSw
      (try dsimp only at hSw)
      first | (go_simp; done) | (go_simp; with_reducible rfl) | with_reducible rfl
    try simp only [Act.put, List.setIfInBounds_toArray, List.set_cons_zero, List.set_cons_succ]
    refine wpAnyH_done (by kernel_rfl) ?_ _
    go_wp2
    go_ret
    exact ⟨by rw [HZ.out]; rfl, lo.trans (lx.mono lo.size)⟩
  | true =>
    obtain ⟨hrc, h60⟩ := Cm.step_facts hsb
    have hft := Cm.right_fits hrc
    have hff := Cm.fits_facts hft
    have HZ : Hid (z = Em.evalB (c.n + c.ls.length) c.gs l (bitsB st (c.n + c.ls.length).toNat)) := by
      unfold Hid
      rw [HIS.out, hsb]
      rfl
    rw [hsb] at HST
    obtain ⟨m, hm⟩ := Int.eq_ofNat_of_zero_le (show 0 ≤ c.n + c.ls.length by omega)
    have HIN := Lib.hid (fun V => inner_any c V)
    rw [Cm.wrapW hft] at HIN
    have HIP := Lib.hid (fun V => inputs_any c st V hft hs m hm.symm (by omega))
    rw [hm] at HIN HZ
    rw [Int.toNat_natCast] at HZ
    have hbl := bitsB_length st m
    have HEV := Lib.hid (fun V A q (hb : Below W.heap.size W V) (hV : Vs V V.heap.size A (bv (bitsB st m))) => eval_any (m : Int) c.aG c.cG c.gs l A q (bitsB st m) V hlg (by rw [hbl]; omega) ((hM1.hg.below hb (Nat.le_refl _)).more hb.size) hW.hg hV)
    clear HIS hsb hm hft hff hrc hM hM1 hbx hbl
    generalize bitsB st m = bs at *
    generalize Em.evalB (m : Int) c.gs l bs = y at *
    go_enter Tryz.func19, Tryz.ntmps19
    go_upto_region 1 with fail
    rw [← hWW]
    clear hWW
    go_region_held3 (fun V => V.cell? ⟨w.heap.size, 0, none⟩ = some (.int .i64 c.n) ∧ V.cell? ⟨w.heap.size, 1, none⟩ = some (.slice c.aL c.ls.length c.cL) ∧ V.cell? ⟨w.heap.size, 2, none⟩ = some (.slice c.aG c.gs.length c.cG) ∧ V.cell? ⟨w.heap.size, 3, none⟩ = some (.slice c.aO c.os.length c.cO) ∧ V.cell? ⟨w.heap.size, 4, none⟩ = some (.slice c.aB c.bs.length c.cB) ∧ V.cell? ⟨w.heap.size, 5, none⟩ = some (.slice c.aC c.cs.length c.cC) ∧ V.cell? ⟨w.heap.size, 6, none⟩ = some (.slice c.aF c.fs.length c.cF) ∧ V.cell? ⟨w.heap.size, 7, none⟩ = some (.slice c.aN c.ns.length c.cN))
      (first | exact HK.out _ lx | exact HK.out _ lx.drew)
      (first | (go_at_call 38; (with_reducible refine (HST.out _ lx.drew).mono ?_); rintro e w1 ⟨rfl, hb1⟩; replace lx := lx.drew.trans hb1) | (go_at_call 26; (with_reducible refine (HIN.out _).mono ?_); rintro e w2 ⟨rfl, hb2⟩; replace lx := lx.trans (hb2.mono lx.size); (try replace hV := (hV.below hb2 (Nat.le_refl _)).more hb2.size)) | (go_at_call 40; (with_reducible refine (HIP.out _).mono ?_); rintro e w3 ⟨A', q', rfl, hV, hb3⟩; replace lx := lx.trans (hb3.mono lx.size)) | (go_at_call 39; (with_reducible refine (HEV.out _ _ _ lx hV).mono ?_); rintro e w4 ⟨rfl, hb4⟩; replace lx := lx.trans (hb4.mono lx.size)))
    all_goals go_wp2
    all_goals go_ret
    all_goals exact ⟨by rw [HZ.out]; rfl, lo.trans (lx.mono lo.size)⟩
end Go.Proofs.YtdbmepndebdbpaaGreat
/- After. -/
namespace Go.Proofs.YtdbmepndebdbpaaGreat
open Go.RowKit

namespace Cm
/-- The state behind a state, by its first k latches. -/
def aftS (c : Cir) (st : Int) : Nat → Nat
  | 0 => 0
  | k + 1 => aftS c st k + (if isS c st (c.ls.getD k (0, 0)).1 = true then 2 ^ (c.n.toNat + k) else 0)
theorem aft_lt (c : Cir) (st : Int) (k : Nat) : aftS c st k < 2 ^ (c.n.toNat + k) := by
  induction k with
  | zero => simp [aftS, Nat.two_pow_pos]
  | succ k ih =>
    rw [aftS, ← Nat.add_assoc, Nat.pow_succ]
    split <;> omega
def afterS (c : Cir) (st : Int) : Int := if stepB c = true then (aftS c st c.ls.length : Int) else 0
end Cm
theorem or_pow (a b : Nat) (hb : b ≤ 60) (ha : a < 2 ^ b) : bits .or .i64 (a : Int) ((2 ^ b : Nat) : Int) = ((a + 2 ^ b : Nat) : Int) := by
  have hp : 2 ^ b ≤ 2 ^ 60 := Nat.pow_le_pow_right (by omega) hb
  have hx : a ||| 2 ^ b = a + 2 ^ b := by
    have := Nat.two_pow_add_eq_or_of_lt ha 1
    rw [Nat.mul_one] at this
    rw [Nat.or_comm, ← this, Nat.add_comm]
  show IntKind.i64.wrap ((BitVec.ofInt 64 (a : Int) ||| BitVec.ofInt 64 ((2 ^ b : Nat) : Int)).toNat : Int) = _
  rw [BitVec.toNat_or, Gm.ofInt_i64 a (by omega), Gm.ofInt_i64 (2 ^ b) (by omega), hx, IntKind.wrap_i64]
  omega
/-- A latch's Next is a literal of the circuit that may be. -/
theorem next_lit {c : Cir} (h : Cm.rightC c = true) (k : Nat) (hk : k < c.ls.length) : Gm.litB (c.n + c.ls.length) c.gs.length c.ls[k].1 = true := by
  simp only [Cm.rightC, Bool.and_eq_true] at h
  have h2 := h.1.2
  simp only [Cm.drivenB, Bool.and_eq_true] at h2
  have := List.all_eq_true.1 h2.1 c.ls[k] (by simp)
  simp only [Cm.latB, Bool.and_eq_true] at this
  exact this.1.1
theorem is_bit {c : Cir} {st l : Int} (hs : Cm.stepB c = true) (hl : Gm.litB (c.n + c.ls.length) c.gs.length l = true) (m : Nat) (hm : c.n + c.ls.length = (m : Int)) :
    Cm.isS c st l = Em.bitB (Em.allB (m : Int) c.gs (bitsB st m)) l ∧ 0 ≤ l ∧ (l / 2).toNat < (Em.allB (m : Int) c.gs (bitsB st m)).length := by
  obtain ⟨hr, _⟩ := Cm.step_facts hs
  have hr2 : Gm.rightB (c.n + c.ls.length) c.gs = true := by
    simp only [Cm.rightC, Bool.and_eq_true] at hr
    exact hr.1.1.2
  rw [hm] at hr2 hl
  have hlen : (Em.allB (m : Int) c.gs (bitsB st m)).length = m + 1 + c.gs.length := by
    unfold Em.allB
    rw [if_pos ⟨hr2, by rw [bitsB_length]⟩, Em.vals_length, List.length_cons, bitsB_length]
  have hlf := hl
  simp [Gm.litB] at hlf
  refine ⟨?_, by omega, by rw [hlen]; omega⟩
  unfold Cm.isS Em.evalB
  rw [hs, hm, Int.toNat_natCast, hl, decide_eq_true (by rw [hlen]; omega)]
  simp

set_option maxRecDepth 100000 in
set_option maxHeartbeats 8000000 in
theorem After_any (c : Cir) (st : Int) (w : World) (hM : CirM w w.heap.size c) (hW : CirW c) (hcap : c.ns.length ≤ c.cN) (hs : I64 st) (hlg : c.gs.length ≤ 100000) : Calls Tryz.prog 21 #[.agg #[.int .i64 c.n, .slice c.aL c.ls.length c.cL, .slice c.aG c.gs.length c.cG, .slice c.aO c.os.length c.cO, .slice c.aB c.bs.length c.cB, .slice c.aC c.cs.length c.cC, .slice c.aF c.fs.length c.cF, .slice c.aN c.ns.length c.cN], .int .i64 st] w fun e w' => e = .returned (.int .i64 (Cm.afterS c st)) ∧ Below w.heap.size w w' := by
  have hbx := boxed w c
  have lo := lowAlloc w (Obj.cells #[.int .i64 c.n, .slice c.aL c.ls.length c.cL, .slice c.aG c.gs.length c.cG, .slice c.aO c.os.length c.cO, .slice c.aB c.bs.length c.cB, .slice c.aC c.cs.length c.cC, .slice c.aF c.fs.length c.cF, .slice c.aN c.ns.length c.cN] 28)
  have hnot : ∀ (x : Bool) (w : World), (Op.unary .not (.bool x)).run Tryz.prog w = .ok (.bool (!x)) w := fun _ _ => rfl
  have HST := Lib.hid (fun V (hb : Below w.heap.size w V) => steps_any c V ((hM.below hb (Nat.le_refl _)).more hb.size) hW hcap)
  have HAF : Hid (Cm.afterS c st = if Cm.stepB c = true then (Cm.aftS c st c.ls.length : Int) else 0) := rfl
  generalize Cm.afterS c st = z at *
  have c0 := hbx.cell 0; have c1 := hbx.cell 1; have c2 := hbx.cell 2; have c3 := hbx.cell 3; have c4 := hbx.cell 4; have c5 := hbx.cell 5; have c6 := hbx.cell 6; have c7 := hbx.cell 7; simp only [List.getElem?_toArray, List.getElem?_cons_zero, List.getElem?_cons_succ] at c0 c1 c2 c3 c4 c5 c6 c7
  go_enter Tryz.func21, Tryz.ntmps21
  go_wp2_with fail
  refine (HST.out _ lo).mono ?_
  rintro e W ⟨rfl, hb1⟩
  replace hbx := hbx.below hb1 hbx.lt
  replace lo := lo.trans (hb1.mono lo.size)
  have hM1 := (hM.below lo (Nat.le_refl _)).more lo.size
  clear c0 c1 c2 c3 c4 c5 c6 c7
  clear HST hb1
  cases hsb : Cm.stepB c with
  | false =>
    rw [hsb] at HAF
    go_wp2
    go_ret
    exact ⟨by rw [HAF.out]; rfl, lo⟩
  | true =>
    rw [hsb] at HAF
    obtain ⟨hrc, h60⟩ := Cm.step_facts hsb
    have hft := Cm.right_fits hrc
    have hff := Cm.fits_facts hft
    obtain ⟨m, hm⟩ := Int.eq_ofNat_of_zero_le (show 0 ≤ c.n + c.ls.length by omega)
    obtain ⟨n0, hn0⟩ := Int.eq_ofNat_of_zero_le (show 0 ≤ c.n by omega)
    have HIN := Lib.hid (fun V => inner_any c V)
    rw [Cm.wrapW hft, hm] at HIN
    have HIP := Lib.hid (fun V => inputs_any c st V hft hs m hm.symm (by omega))
    have hbl := bitsB_length st m
    have HAL := Lib.hid (fun V A q (hb : Below W.heap.size W V) (hV : Vs V V.heap.size A (bv (bitsB st m))) => all_any (m : Int) c.aG c.cG c.gs A q (bitsB st m) V hlg (by rw [hbl]; omega) ((hM1.hg.below hb (Nat.le_refl _)).more hb.size) hW.hg hV)
    have HIB := Lib.hid (fun k (hk : k < c.ls.length) => is_bit (st := st) hsb (next_lit hrc k hk) m hm)
    have HVL : Hid ((Em.allB (m : Int) c.gs (bitsB st m)).length ≤ 1000000) := by
      unfold Hid Em.allB
      have := hW.lg
      split
      · rw [Em.vals_length, List.length_cons, hbl]
        omega
      · simp
    have hlx : c.ls.length ≤ 60 := by omega
    have hnk : n0 + c.ls.length ≤ 60 := by omega
    have lx := Below.refl W.heap.size W
    have hls := lo.size
    have HK : Hid (∀ V, Below W.heap.size W V → (fun V => V.cell? ⟨w.heap.size, 0, none⟩ = some (.int .i64 c.n) ∧ V.cell? ⟨w.heap.size, 1, none⟩ = some (.slice c.aL c.ls.length c.cL) ∧ V.cell? ⟨w.heap.size, 2, none⟩ = some (.slice c.aG c.gs.length c.cG) ∧ V.cell? ⟨w.heap.size, 3, none⟩ = some (.slice c.aO c.os.length c.cO) ∧ V.cell? ⟨w.heap.size, 4, none⟩ = some (.slice c.aB c.bs.length c.cB) ∧ V.cell? ⟨w.heap.size, 5, none⟩ = some (.slice c.aC c.cs.length c.cC) ∧ V.cell? ⟨w.heap.size, 6, none⟩ = some (.slice c.aF c.fs.length c.cF) ∧ V.cell? ⟨w.heap.size, 7, none⟩ = some (.slice c.aN c.ns.length c.cN)) V) := by
      intro V hb
      have h := hbx.below hb hbx.lt
      exact ⟨h.cell 0, h.cell 1, h.cell 2, h.cell 3, h.cell 4, h.cell 5, h.cell 6, h.cell 7⟩
    have HBX := Lib.hid hbx
    have HLO := Lib.hid lo
    have HN0 := Lib.hid hn0
    clear hsb hm hft hff hrc hM1 hbl lo hbx h60 hn0
    generalize bitsB st m = bs at *
    generalize Em.allB (m : Int) c.gs bs = v at *
    go_upto_region 3 with fail
    go_region_held3 (fun V => V.cell? ⟨w.heap.size, 0, none⟩ = some (.int .i64 c.n) ∧ V.cell? ⟨w.heap.size, 1, none⟩ = some (.slice c.aL c.ls.length c.cL) ∧ V.cell? ⟨w.heap.size, 2, none⟩ = some (.slice c.aG c.gs.length c.cG) ∧ V.cell? ⟨w.heap.size, 3, none⟩ = some (.slice c.aO c.os.length c.cO) ∧ V.cell? ⟨w.heap.size, 4, none⟩ = some (.slice c.aB c.bs.length c.cB) ∧ V.cell? ⟨w.heap.size, 5, none⟩ = some (.slice c.aC c.cs.length c.cC) ∧ V.cell? ⟨w.heap.size, 6, none⟩ = some (.slice c.aF c.fs.length c.cF) ∧ V.cell? ⟨w.heap.size, 7, none⟩ = some (.slice c.aN c.ns.length c.cN))
      (first | exact HK.out _ lx | exact HK.out _ lx.drew)
      (first | (go_at_call 26; (with_reducible refine (HIN.out _).mono ?_); rintro e w2 ⟨rfl, hb2⟩; (first | replace lx := lx.trans (hb2.mono lx.size) | replace lx := lx.drew.trans (hb2.mono lx.size)); (try replace hV := (hV.below hb2 (Nat.le_refl _)).more hb2.size)) | (go_at_call 40; (with_reducible refine (HIP.out _).mono ?_); rintro e w3 ⟨A', q', rfl, hV, hb3⟩; (first | replace lx := lx.trans (hb3.mono lx.size) | replace lx := lx.drew.trans (hb3.mono lx.size))) | (go_at_call 43; (with_reducible refine (HAL.out _ _ _ lx hV).mono ?_); rintro e w4 ⟨A2, q2, rfl, hV2, hb4⟩; replace lx := lx.trans (hb4.mono lx.size)))
    · have hbx := HBX.out.below lx HBX.out.lt
      have lo := HLO.out.trans (lx.mono hls)
      have c1 := hbx.cell 1
      simp only [List.getElem?_toArray, List.getElem?_cons_zero, List.getElem?_cons_succ] at c1
      have HBX4 := Lib.hid hbx
      have HLO4 := Lib.hid lo
      have hls4 := lo.size
      clear hbx lo HBX HLO HAL HIN HIP HK lx
      go_wp2
      clear c1
      go_loopw [6, 7, 8, 21] (fun a _ _ i wr => ∃ k : Nat, k ≤ c.ls.length ∧ i = .int .i64 k ∧ a = .int .i64 (Cm.aftS c st k : Int) ∧ Below w.heap.size w wr ∧ Below w4.heap.size w4 wr ∧ Blk wr w.heap.size 28 #[.int .i64 c.n, .slice c.aL c.ls.length c.cL, .slice c.aG c.gs.length c.cG, .slice c.aO c.os.length c.cO, .slice c.aB c.bs.length c.cB, .slice c.aC c.cs.length c.cC, .slice c.aF c.fs.length c.cF, .slice c.aN c.ns.length c.cN]) (fun _ _ _ i _ => c.ls.length - (intOf i).toNat)
      case atStart => exact ⟨0, Nat.zero_le _, rfl, rfl, HLO4.out, Below.refl _ _, HBX4.out⟩
      case round =>
        obtain ⟨k, hk, rfl, rfl, lo, lo4, hbx⟩ := hrel
        by_cases hlt : k < c.ls.length
        · obtain ⟨b, off, hA, hbw, g1, g2⟩ := (hM.hl.below lo (Nat.le_refl _)) k hlt
          obtain ⟨hb1, hb2, hb3⟩ := HIB.out k hlt
          have hgd : c.ls.getD k (0, 0) = c.ls[k] := by simp [List.getD_eq_getElem?_getD, List.getElem?_eq_getElem hlt]
          have HAS : Hid (Cm.aftS c st (k + 1) = Cm.aftS c st k + (if Em.bitB v c.ls[k].1 = true then 2 ^ (c.n.toNat + k) else 0)) := by
            unfold Hid
            rw [Cm.aftS, hgd, hb1]
          have hal := Cm.aft_lt c st k
          rw [HN0.out, Int.toNat_natCast] at hal HAS
          clear hgd hb1
          rw [hA]
          rw [hA] at hbx
          generalize c.ls[k] = g at *
          obtain ⟨x, y⟩ := g
          simp only at g1 g2 hb2 hb3 HAS
          have lo1 := lo.alloc lo.size (Obj.cells #[.int .i64 x, .int .i64 y] 33)
          have lo41 := lo4.alloc lo4.size (Obj.cells #[.int .i64 x, .int .i64 y] 33)
          have hbx1 := hbx.alloc (Obj.cells #[.int .i64 x, .int .i64 y] 33)
          have HVA := Lib.hid (value_any A2 q2 v x (wr.alloc (Obj.cells #[.int .i64 x, .int .i64 y] 33)) _ ((hV2.below lo41 (Nat.le_refl _)).more lo41.size) hb2 hb3 HVL.out)
          have c0 := hbx1.cell 0
          simp only [List.getElem?_toArray, List.getElem?_cons_zero] at c0
          rw [HN0.out] at c0
          have hpow : 2 ^ (n0 + k) ≤ 2 ^ 60 := Nat.pow_le_pow_right (by omega) (by omega)
          have hor := or_pow (Cm.aftS c st k) (n0 + k) (by omega) hal
          obtain ⟨a2, ha2⟩ : ∃ a2, a2 = Cm.aftS c st (k + 1) := ⟨_, rfl⟩
          rw [← ha2] at HAS
          have HA2 := Lib.hid ha2
          clear ha2
          have hw : wrap64 ((2 : Int) ^ (n0 + k)) = ((2 ^ (n0 + k) : Nat) : Int) := by
            have e : ((2 ^ (n0 + k) : Nat) : Int) = (2 : Int) ^ (n0 + k) := by simp
            rw [← e]
            unfold wrap64
            omega
          have HOR := Lib.hid hor
          have HWR := Lib.hid hw
          clear hor hw
          generalize Cm.aftS c st k = a1 at *
          generalize Em.bitB v x = t at *
          go_wp2_with fail
          refine HVA.out.mono ?_
          rintro e w5 ⟨rfl, rfl⟩
          cases t with
          | false =>
            rw [if_neg (by simp), Nat.add_zero] at HAS
            go_wp2
            go_roundw
            case rel => exact ⟨k + 1, by omega, by go_num, by rw [← HA2.out, HAS.out], lo1, lo41, hbx1⟩
            case measure => simp [intOf]; omega
          | true =>
            rw [if_pos rfl] at HAS
            go_wp2
            exact ⟨⟨k + 1, by omega, by go_num, by rw [← HA2.out, HAS.out, HWR.out, HOR.out], lo1, lo41, hbx1⟩, by simp [intOf]; omega⟩
        · obtain rfl : k = c.ls.length := by omega
          rw [if_pos trivial] at HAF
          generalize Cm.aftS c st c.ls.length = a1 at *
          go_wp2
          go_ret
          exact ⟨by rw [HAF.out]; rfl, lo⟩
end Go.Proofs.YtdbmepndebdbpaaGreat
