/- Find, Is, After. -/
import Derived.Test.YteabffdddlihnaaD9
namespace Go.Proofs.Yteabffdddlihnaa
open Go.RowKit

theorem str_eq (a b : ByteArray) : (a.toList == b.toList) = decide (a = b) := by
  rw [ByteArray.toList_eq, ByteArray.toList_eq, Bool.eq_iff_iff]
  simp only [beq_iff_eq, decide_eq_true_eq]
  constructor
  · exact WideShapes.bytes_inj
  · intro h
    rw [h]
namespace Cm
/-- The literal of the signal that a text names, or spells. -/
def spelS (c : Cir) (s : ByteArray) : Int := if h : 0 < s.size then match digS (s.extract 1 s.size) with | some n => sigS c ((s[0]'h).toNat : Int) n | none => -1 else -1
def findS (c : Cir) (s : ByteArray) : Int := if rightC c = true then match c.ns.find? (fun x => decide (x.2.2 = s)) with | some x => sigS c x.1 x.2.1 | none => spelS c s else -1
end Cm

set_option maxRecDepth 100000 in
set_option maxHeartbeats 2000000 in
theorem Find_any (c : Cir) (s : ByteArray) (w : World) (hM : CirM w w.heap.size c) (hW : CirW c) (hcap : c.ns.length ≤ c.cN) (hs : s.size ≤ maxLen) : Calls Try.prog 12 #[.agg #[.int .i64 c.n, .slice c.aL c.ls.length c.cL, .slice c.aG c.gs.length c.cG, .slice c.aO c.os.length c.cO, .slice c.aB c.bs.length c.cB, .slice c.aC c.cs.length c.cC, .slice c.aF c.fs.length c.cF, .slice c.aN c.ns.length c.cN], .string s] w fun e w' => e = .returned (.int .i64 (Cm.findS c s)) ∧ Below w.heap.size w w' := by
  have hbx := boxed w c
  have lo := lowAlloc w (Obj.cells #[.int .i64 c.n, .slice c.aL c.ls.length c.cL, .slice c.aG c.gs.length c.cG, .slice c.aO c.os.length c.cO, .slice c.aB c.bs.length c.cB, .slice c.aC c.cs.length c.cC, .slice c.aF c.fs.length c.cF, .slice c.aN c.ns.length c.cN] 27)
  have hnot : ∀ (x : Bool) (w : World), (Op.unary .not (.bool x)).run Try.prog w = .ok (.bool (!x)) w := fun _ _ => rfl
  have HR := Lib.hid (Right4_any c _ ((hM.below lo (Nat.le_refl _)).more lo.size) hW hcap)
  have HSG := Lib.hid (fun k at_ V (hb : Below w.heap.size w V) h => signal_any c k at_ V ((hM.below hb (Nat.le_refl _)).more hb.size) (Cm.right_fits (c := c) h))
  have HFS : Hid (Cm.findS c s = if Cm.rightC c = true then match c.ns.find? (fun x => decide (x.2.2 = s)) with | some x => Cm.sigS c x.1 x.2.1 | none => Cm.spelS c s else -1) := rfl
  generalize Cm.findS c s = z at *
  generalize Cm.rightC c = t at *
  have c0 := hbx.cell 0; have c1 := hbx.cell 1; have c2 := hbx.cell 2; have c3 := hbx.cell 3; have c4 := hbx.cell 4; have c5 := hbx.cell 5; have c6 := hbx.cell 6; have c7 := hbx.cell 7; simp only [List.getElem?_toArray, List.getElem?_cons_zero, List.getElem?_cons_succ] at c0 c1 c2 c3 c4 c5 c6 c7
  have hln := hW.ln
  go_enter Try.func12, Try.ntmps12
  go_wp2_with fail
  refine HR.out.mono ?_
  rintro e w1 ⟨rfl, hb1⟩
  replace hbx := hbx.below hb1 hbx.lt
  replace lo := lo.trans (hb1.mono lo.size)
  clear c0 c1 c2 c3 c4 c5 c6 c7
  clear HR hb1
  cases t with
  | false =>
    go_wp2
    go_ret
    exact ⟨by rw [HFS.out]; rfl, lo⟩
  | true =>
    have c7 := hbx.cell 7
    simp only [List.getElem?_toArray, List.getElem?_cons_zero, List.getElem?_cons_succ] at c7
    have HLO := Lib.hid lo
    have HBX := Lib.hid hbx
    clear lo hbx
    go_wp2
    clear c7
    go_loopw [15] (fun i wr => ∃ k : Nat, k ≤ c.ns.length ∧ i = .int .i64 k ∧ (c.ns.take k).find? (fun x => decide (x.2.2 = s)) = none ∧ Below w.heap.size w wr ∧ Blk wr w.heap.size 27 #[.int .i64 c.n, .slice c.aL c.ls.length c.cL, .slice c.aG c.gs.length c.cG, .slice c.aO c.os.length c.cO, .slice c.aB c.bs.length c.cB, .slice c.aC c.cs.length c.cC, .slice c.aF c.fs.length c.cF, .slice c.aN c.ns.length c.cN]) (fun i _ => c.ns.length - (intOf i).toNat)
    case atStart => exact ⟨0, Nat.zero_le _, rfl, rfl, HLO.out, HBX.out⟩
    case round =>
      obtain ⟨k, hk, rfl, hfn, lo, hbx⟩ := hrel
      by_cases hlt : k < c.ns.length
      · obtain ⟨b, off, hA, hbw, g1, g2, g3⟩ := (hM.hn.below lo (Nat.le_refl _)) k hlt
        have hkk := hW.hk c.ns[k] (by simp)
        have hfe : c.ns.find? (fun x => decide (x.2.2 = s)) = if c.ns[k].2.2 = s then some c.ns[k] else (c.ns.drop (k + 1)).find? (fun x => decide (x.2.2 = s)) := by
          have : c.ns = c.ns.take k ++ c.ns[k] :: c.ns.drop (k + 1) := by rw [← List.drop_eq_getElem_cons hlt, List.take_append_drop]
          conv => lhs; rw [this]
          rw [List.find?_append, hfn, Option.none_or, List.find?_cons]
          by_cases h : c.ns[k].2.2 = s
          · simp [h]
          · simp [h]
        have hf2 : c.ns[k].2.2 ≠ s → (c.ns.take (k + 1)).find? (fun x => decide (x.2.2 = s)) = none := fun h => by
          rw [List.take_succ_eq_append_getElem hlt, List.find?_append, hfn]
          simp [h]
        have HFE := Lib.hid hfe
        have HF2 := Lib.hid hf2
        clear hfe hf2 hfn
        rw [hA]
        rw [hA] at HSG hbx
        clear hA
        generalize c.ns[k] = x at *
        obtain ⟨kd, at_, tx⟩ := x
        simp only at g1 g2 g3 hkk HFE HF2
        obtain ⟨⟨hk0, hk1⟩, _, _⟩ := hkk
        have lo1 := lo.alloc lo.size (Obj.cells #[.int .u8 kd, .int .i64 at_, .string tx] 34)
        have hbx1 := hbx.alloc (Obj.cells #[.int .u8 kd, .int .i64 at_, .string tx] 34)
        have hse := str_eq tx s
        by_cases he : tx = s
        · have d0 : (tx.toList == s.toList) = true := by rw [hse]; exact decide_eq_true he
          have HZ : Hid (z = Cm.sigS c kd at_) := by
            unfold Hid
            rw [HFS.out, HFE.out, if_pos he]
            rfl
          have c0 := hbx1.cell 0; have c1 := hbx1.cell 1; have c2 := hbx1.cell 2; have c3 := hbx1.cell 3; have c4 := hbx1.cell 4; have c5 := hbx1.cell 5; have c6 := hbx1.cell 6; have c7 := hbx1.cell 7; simp only [List.getElem?_toArray, List.getElem?_cons_zero, List.getElem?_cons_succ] at c0 c1 c2 c3 c4 c5 c6 c7
          clear HFS HFE HF2 hse he
          go_wp2_with fail
          refine (HSG.out _ _ _ lo1 trivial).mono ?_
          rintro e w2 ⟨rfl, hb2⟩
          go_wp2
          go_ret
          exact ⟨by rw [HZ.out]; rfl, lo1.trans (hb2.mono lo1.size)⟩
        · have d0 : (tx.toList == s.toList) = false := by rw [hse]; exact decide_eq_false he
          have HNX := Lib.hid (HF2.out he)
          clear HFE HF2 hse he
          go_wp2
          go_roundw
          case rel => exact ⟨k + 1, by omega, by go_num, HNX.out, lo1, hbx1⟩
          case measure => simp [intOf]; omega
      · obtain rfl : k = c.ns.length := by omega
        rw [List.take_length] at hfn
        have HZ : Hid (z = Cm.spelS c s) := by
          unfold Hid
          rw [HFS.out, hfn]
          rfl
        clear hfn HFS
        unfold maxLen at hs
        by_cases h0 : s.size = 0
        · have HZ2 : Hid (z = -1) := by
            unfold Hid
            rw [HZ.out, Cm.spelS, dif_neg (by omega)]
          clear HZ
          go_wp2
          go_ret
          exact ⟨by rw [HZ2.out]; rfl, lo⟩
        · have d0 : ((s.size : Int) == 0) = false := by rw [beq_eq_false_iff_ne]; omega
          have hsl : ∀ w, (Instr.slice 9 (.string s) (some (.int .i64 1)) none none).run Try.prog w = .ok (.string (s.extract 1 s.size)) w := fun w => by
            rw [run_slice_string_from_if w _ _ _ _ Try.underlying9, if_pos (by omega)]
            rfl
          have hss : (s.extract 1 s.size).size ≤ maxLen := by
            rw [ByteArray.size_extract]
            unfold maxLen
            omega
          have HZ2 : Hid (z = match Cm.digS (s.extract 1 s.size) with | some n => Cm.sigS c ((s[0]'(by omega)).toNat : Int) n | none => -1) := by
            unfold Hid
            rw [HZ.out, Cm.spelS, dif_pos (by omega)]
          have HNU := Lib.hid (number_any (s.extract 1 s.size) wr hss)
          unfold numV at HNU
          have hix0 : ∀ w, (Instr.index 9 (.string s) (.int .i64 0)).run Try.prog w = .ok (.int .u8 ((s[0]'(by omega)).toNat : Int)) w := fun w => index_str s 0 (by omega) w
          have hr0 : ((s[0]'(by omega : 0 < s.size)).toNat) < 256 := UInt8.toNat_lt _
          clear HZ hss
          generalize (s[0]'(by omega : 0 < s.size)).toNat = r0 at *
          go_wp2_with fail
          refine HNU.out.mono ?_
          rintro e w2 ⟨rfl, hb2⟩
          replace hbx := hbx.below hb2 hbx.lt
          replace lo := lo.trans (hb2.mono lo.size)
          have c0 := hbx.cell 0; have c1 := hbx.cell 1; have c2 := hbx.cell 2; have c3 := hbx.cell 3; have c4 := hbx.cell 4; have c5 := hbx.cell 5; have c6 := hbx.cell 6; have c7 := hbx.cell 7; simp only [List.getElem?_toArray, List.getElem?_cons_zero, List.getElem?_cons_succ] at c0 c1 c2 c3 c4 c5 c6 c7
          clear HNU hb2
          generalize Cm.digS (s.extract 1 s.size) = d at *
          cases d with
          | none =>
            simp only
            go_wp2
            go_ret
            exact ⟨by rw [HZ2.out]; rfl, lo⟩
          | some n =>
            simp only at HZ2
            simp only
            go_upto_region 14 with fail
            have hwr : IntKind.i32.wrap (r0 : Int) = r0 := by rw [IntKind.wrap_i32]; omega
            have HSG2 : Hid (∀ V, Below w.heap.size w V → Calls Try.prog 27 #[.agg #[.int .i64 c.n, .slice c.aL c.ls.length c.cL, .slice c.aG c.gs.length c.cG, .slice c.aO c.os.length c.cO, .slice c.aB c.bs.length c.cB, .slice c.aC c.cs.length c.cC, .slice c.aF c.fs.length c.cF, .slice c.aN c.ns.length c.cN], .int .i32 (IntKind.i32.wrap (r0 : Int)), .int .i64 (n : Int)] V fun e w' => e = .returned (.int .i64 (Cm.sigS c r0 n)) ∧ Below V.heap.size V w') := fun V hb => by
              rw [hwr]
              exact HSG.out (r0 : Int) (n : Int) V hb trivial
            clear hwr
            have HK : Hid (∀ V, Below w2.heap.size w2 V → V.cell? ⟨w.heap.size, 0, none⟩ = some (.int .i64 c.n) ∧ V.cell? ⟨w.heap.size, 1, none⟩ = some (.slice c.aL c.ls.length c.cL) ∧ V.cell? ⟨w.heap.size, 2, none⟩ = some (.slice c.aG c.gs.length c.cG) ∧ V.cell? ⟨w.heap.size, 3, none⟩ = some (.slice c.aO c.os.length c.cO) ∧ V.cell? ⟨w.heap.size, 4, none⟩ = some (.slice c.aB c.bs.length c.cB) ∧ V.cell? ⟨w.heap.size, 5, none⟩ = some (.slice c.aC c.cs.length c.cC) ∧ V.cell? ⟨w.heap.size, 6, none⟩ = some (.slice c.aF c.fs.length c.cF) ∧ V.cell? ⟨w.heap.size, 7, none⟩ = some (.slice c.aN c.ns.length c.cN)) := by
              intro V hb
              have h := hbx.below hb hbx.lt
              exact ⟨h.cell 0, h.cell 1, h.cell 2, h.cell 3, h.cell 4, h.cell 5, h.cell 6, h.cell 7⟩
            have lx0 := Below.refl w2.heap.size w2
            have hr1 : (r0 : Int) ≤ 255 := by omega
            clear HSG hbx hM hW c0 c1 c2 c3 c4 c5 c6 c7
            go_region_held3 (fun V => V.cell? ⟨w.heap.size, 0, none⟩ = some (.int .i64 c.n) ∧ V.cell? ⟨w.heap.size, 1, none⟩ = some (.slice c.aL c.ls.length c.cL) ∧ V.cell? ⟨w.heap.size, 2, none⟩ = some (.slice c.aG c.gs.length c.cG) ∧ V.cell? ⟨w.heap.size, 3, none⟩ = some (.slice c.aO c.os.length c.cO) ∧ V.cell? ⟨w.heap.size, 4, none⟩ = some (.slice c.aB c.bs.length c.cB) ∧ V.cell? ⟨w.heap.size, 5, none⟩ = some (.slice c.aC c.cs.length c.cC) ∧ V.cell? ⟨w.heap.size, 6, none⟩ = some (.slice c.aF c.fs.length c.cF) ∧ V.cell? ⟨w.heap.size, 7, none⟩ = some (.slice c.aN c.ns.length c.cN))
              (first | exact HK.out _ lx0 | exact HK.out _ lx0.drew | exact HK.out _ lx6 | exact HK.out _ lx6.drew)
              (first | (go_at_call 27; (with_reducible refine (HSG2.out _ lo.drew).mono ?_); rintro e w3 ⟨rfl, hb3⟩; have lx6 := lx0.drew.trans hb3))
            go_wp2
            go_ret
            exact ⟨by rw [HZ2.out]; rfl, lo.trans (lx6.mono lo.size)⟩
end Go.Proofs.Yteabffdddlihnaa
