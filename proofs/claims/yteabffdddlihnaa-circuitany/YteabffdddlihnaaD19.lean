/- The reference's Find. -/
import Derived.Test.YteabffdddlihnaaD18
namespace Go.Proofs.Yteabffdddlihnaa
open Go.RowKit

set_option maxRecDepth 100000 in
set_option maxHeartbeats 8000000 in
theorem refFind_any (c : Cir) (s : ByteArray) (w : World) (hM : CirM w w.heap.size c) (hW : CirW c) (hs : s.size ≤ maxLen) : Calls Try.prog 21 #[.agg #[.int .i64 c.n, .slice c.aL c.ls.length c.cL, .slice c.aG c.gs.length c.cG, .slice c.aO c.os.length c.cO, .slice c.aB c.bs.length c.cB, .slice c.aC c.cs.length c.cC, .slice c.aF c.fs.length c.cF, .slice c.aN c.ns.length c.cN], .string s] w fun e w' => e = .returned (.int .i64 (Cm.findS c s)) ∧ Below w.heap.size w w' := by
  have hbx := boxed w c
  have lo := lowAlloc w (Obj.cells #[.int .i64 c.n, .slice c.aL c.ls.length c.cL, .slice c.aG c.gs.length c.cG, .slice c.aO c.os.length c.cO, .slice c.aB c.bs.length c.cB, .slice c.aC c.cs.length c.cC, .slice c.aF c.fs.length c.cF, .slice c.aN c.ns.length c.cN] 27)
  have hnot : ∀ (x : Bool) (w : World), (Op.unary .not (.bool x)).run Try.prog w = .ok (.bool (!x)) w := fun _ _ => rfl
  have HR := Lib.hid (refRight4_any c _ ((hM.below lo (Nat.le_refl _)).more lo.size) hW)
  have HSG := Lib.hid (fun k at_ V (hb : Below w.heap.size w V) h0 h1 => refSignal_any c k at_ V ((hM.below hb (Nat.le_refl _)).more hb.size) hW h0 h1)
  have HFS : Hid (Cm.findS c s = if Cm.rightC c = true then match c.ns.find? (fun x => decide (x.2.2 = s)) with | some x => Cm.sigS c x.1 x.2.1 | none => Cm.spelS c s else -1) := rfl
  have HSS : Hid (∀ k a, Cm.signalS c k a = if Cm.rightC c = true then Cm.sigS c k a else -1) := fun _ _ => rfl
  generalize Cm.findS c s = z at *
  generalize Cm.rightC c = t at *
  have c0 := hbx.cell 0; have c1 := hbx.cell 1; have c2 := hbx.cell 2; have c3 := hbx.cell 3; have c4 := hbx.cell 4; have c5 := hbx.cell 5; have c6 := hbx.cell 6; have c7 := hbx.cell 7; simp only [List.getElem?_toArray, List.getElem?_cons_zero, List.getElem?_cons_succ] at c0 c1 c2 c3 c4 c5 c6 c7
  have hln := hW.ln
  go_enter Try.func21, Try.ntmps21
  go_wp2_with fail
  refine HR.out.mono ?_
  rintro e w1 ⟨rfl, hb1⟩
  replace hbx := hbx.below hb1 hbx.lt
  replace lo := lo.trans (hb1.mono lo.size)
  clear c0 c1 c2 c3 c4 c5 c6 c7
  clear HR hb1
  cases t with
  | false =>
    go_wp2
    go_ret
    exact ⟨by rw [HFS.out]; rfl, lo⟩
  | true =>
    rw [if_pos rfl] at HFS
    have HSS2 : Hid (∀ k a, Cm.signalS c k a = Cm.sigS c k a) := fun k a => by rw [HSS.out, if_pos rfl]
    have HLO := Lib.hid lo
    have HBX := Lib.hid hbx
    clear lo hbx HSS
    go_wp2
    go_loopw [5] (fun iv wr => ∃ k : Nat, k ≤ c.ns.length ∧ iv = .int .i64 k ∧ (c.ns.take k).find? (fun x => decide (x.2.2 = s)) = none ∧ Below w.heap.size w wr ∧ Blk wr w.heap.size 27 #[.int .i64 c.n, .slice c.aL c.ls.length c.cL, .slice c.aG c.gs.length c.cG, .slice c.aO c.os.length c.cO, .slice c.aB c.bs.length c.cB, .slice c.aC c.cs.length c.cC, .slice c.aF c.fs.length c.cF, .slice c.aN c.ns.length c.cN]) (fun iv _ => c.ns.length - (intOf iv).toNat)
    case atStart => exact ⟨0, Nat.zero_le _, rfl, rfl, HLO.out, HBX.out⟩
    case round =>
      obtain ⟨k, hk, rfl, hfn, lo, hbx⟩ := hrel
      by_cases hlt : k < c.ns.length
      · obtain ⟨b, off, hA, hbw, g1, g2, g3⟩ := (hM.hn.below lo (Nat.le_refl _)) k hlt
        have hkk := hW.hk c.ns[k] (by simp)
        have hfe : c.ns.find? (fun x => decide (x.2.2 = s)) = if c.ns[k].2.2 = s then some c.ns[k] else (c.ns.drop (k + 1)).find? (fun x => decide (x.2.2 = s)) := by
          have : c.ns = c.ns.take k ++ c.ns[k] :: c.ns.drop (k + 1) := by rw [← List.drop_eq_getElem_cons hlt, List.take_append_drop]
          conv => lhs; rw [this]
          rw [List.find?_append, hfn, Option.none_or, List.find?_cons]
          by_cases h : c.ns[k].2.2 = s
          · simp [h]
          · simp [h]
        have hf2 : c.ns[k].2.2 ≠ s → (c.ns.take (k + 1)).find? (fun x => decide (x.2.2 = s)) = none := fun h => by
          rw [List.take_succ_eq_append_getElem hlt, List.find?_append, hfn]
          simp [h]
        have HFE := Lib.hid hfe
        have HF2 := Lib.hid hf2
        have hix := ixN b off c.ns.length c.cN k hln hlt
        have c7 := hbx.cell 7
        simp only [List.getElem?_toArray, List.getElem?_cons_zero, List.getElem?_cons_succ] at c7
        clear hfe hf2 hfn
        rw [hA]
        rw [hA] at HSG hbx c7
        clear hA
        generalize c.ns[k] = x at *
        obtain ⟨kd, at_, tx⟩ := x
        simp only at g1 g2 g3 hkk HFE HF2
        obtain ⟨⟨hk0, hk1⟩, _, _⟩ := hkk
        have hse := str_eq tx s
        by_cases he : tx = s
        · have d0 : (tx.toList == s.toList) = true := by rw [hse]; exact decide_eq_true he
          have HZ : Hid (z = Cm.signalS c kd at_) := by
            unfold Hid
            rw [HFS.out, HFE.out, if_pos he, HSS2.out]
          have HSG2 := Lib.hid (fun V hb => HSG.out kd at_ V hb hk0 hk1)
          have HK : Hid (∀ V, Below wr.heap.size wr V → (fun V => V.cell? ⟨w.heap.size, 0, none⟩ = some (.int .i64 c.n) ∧ V.cell? ⟨w.heap.size, 1, none⟩ = some (.slice c.aL c.ls.length c.cL) ∧ V.cell? ⟨w.heap.size, 2, none⟩ = some (.slice c.aG c.gs.length c.cG) ∧ V.cell? ⟨w.heap.size, 3, none⟩ = some (.slice c.aO c.os.length c.cO) ∧ V.cell? ⟨w.heap.size, 4, none⟩ = some (.slice c.aB c.bs.length c.cB) ∧ V.cell? ⟨w.heap.size, 5, none⟩ = some (.slice c.aC c.cs.length c.cC) ∧ V.cell? ⟨w.heap.size, 6, none⟩ = some (.slice c.aF c.fs.length c.cF) ∧ V.cell? ⟨w.heap.size, 7, none⟩ = some (.slice (some ⟨b, off, none⟩) c.ns.length c.cN)) V ∧ V.cell? ⟨b, off + k * 3, none⟩ = some (.int .u8 kd) ∧ V.cell? ⟨b, off + k * 3 + 1, none⟩ = some (.int .i64 at_)) := by
            intro V hb
            have h := hbx.below hb hbx.lt
            have hbl := Nat.lt_of_lt_of_le hbw lo.size
            exact ⟨⟨h.cell 0, h.cell 1, h.cell 2, h.cell 3, h.cell 4, h.cell 5, h.cell 6, h.cell 7⟩, (hb.cell (p := ⟨b, _, none⟩) hbl).trans g1, (hb.cell (p := ⟨b, _, none⟩) hbl).trans g2⟩
          have lx := Below.refl wr.heap.size wr
          clear HFS HFE HF2 hse he HSG HSS2
          go_upto_region 7 with fail
          clear c7 g1 g2 g3
          go_region_held3 (fun V => (fun V => V.cell? ⟨w.heap.size, 0, none⟩ = some (.int .i64 c.n) ∧ V.cell? ⟨w.heap.size, 1, none⟩ = some (.slice c.aL c.ls.length c.cL) ∧ V.cell? ⟨w.heap.size, 2, none⟩ = some (.slice c.aG c.gs.length c.cG) ∧ V.cell? ⟨w.heap.size, 3, none⟩ = some (.slice c.aO c.os.length c.cO) ∧ V.cell? ⟨w.heap.size, 4, none⟩ = some (.slice c.aB c.bs.length c.cB) ∧ V.cell? ⟨w.heap.size, 5, none⟩ = some (.slice c.aC c.cs.length c.cC) ∧ V.cell? ⟨w.heap.size, 6, none⟩ = some (.slice c.aF c.fs.length c.cF) ∧ V.cell? ⟨w.heap.size, 7, none⟩ = some (.slice (some ⟨b, off, none⟩) c.ns.length c.cN)) V ∧ V.cell? ⟨b, off + k * 3, none⟩ = some (.int .u8 kd) ∧ V.cell? ⟨b, off + k * 3 + 1, none⟩ = some (.int .i64 at_))
            (first | exact HK.out _ lx | exact HK.out _ lx.drew)
            (first | (go_at_call 20; (with_reducible refine (HSG2.out _ (lo.trans (lx.drew.mono lo.size))).mono ?_); rintro e w2 ⟨rfl, hb2⟩; replace lx := lx.drew.trans hb2))
          go_wp2
          go_ret
          exact ⟨by rw [HZ.out]; rfl, lo.trans (lx.mono lo.size)⟩
        · have d0 : (tx.toList == s.toList) = false := by rw [hse]; exact decide_eq_false he
          have HNX := Lib.hid (HF2.out he)
          clear HFE HF2 hse he
          go_wp2
          go_roundw
          case rel => exact ⟨k + 1, by omega, by go_num, HNX.out, lo, hbx⟩
          case measure => simp [intOf]; omega
      · obtain rfl : k = c.ns.length := by omega
        rw [List.take_length] at hfn
        have HZ : Hid (z = Cm.spelS c s) := by
          unfold Hid
          rw [HFS.out, hfn]
        have c7 := hbx.cell 7
        simp only [List.getElem?_toArray, List.getElem?_cons_zero, List.getElem?_cons_succ] at c7
        clear hfn HFS
        unfold maxLen at hs
        by_cases h2 : s.size < 2
        · have HZ2 : Hid (z = -1) := by
            unfold Hid
            rw [HZ.out, Cm.spelS]
            by_cases h0 : 0 < s.size
            · rw [dif_pos h0]
              have : Cm.digS (s.extract 1 s.size) = none := by
                unfold Cm.digS
                rw [if_neg]
                rw [ByteArray.size_extract]
                omega
              rw [this]
            · rw [dif_neg h0]
          have dd : decide ((s.size : Int) < 2) = true := decide_eq_true (by omega)
          clear HZ
          go_wp2
          go_ret
          exact ⟨by rw [HZ2.out]; rfl, lo⟩
        · have dd : decide ((s.size : Int) < 2) = false := decide_eq_false (by omega)
          have hsl : ∀ w, (Instr.slice 9 (.string s) (some (.int .i64 1)) none none).run Try.prog w = .ok (.string (s.extract 1 s.size)) w := fun w => by
            rw [run_slice_string_from_if w _ _ _ _ Try.underlying9, if_pos (by omega)]
            rfl
          have hss : (s.extract 1 s.size).size ≤ maxLen := by
            rw [ByteArray.size_extract]
            unfold maxLen
            omega
          have HZ2 : Hid (z = Cm.signalS c ((s[0]'(by omega)).toNat : Int) (refNum (s.extract 1 s.size))) := by
            unfold Hid
            rw [HZ.out, Cm.spelS, dif_pos (by omega), HSS2.out]
            unfold refNum
            cases Cm.digS (s.extract 1 s.size) with
            | none => simp only; rw [Cm.sigS, if_pos (Or.inl (by omega))]
            | some n => rfl
          have HNU := Lib.hid (fun V => Number_any (s.extract 1 s.size) V hss)
          have hix0 : ∀ w, (Instr.index 9 (.string s) (.int .i64 0)).run Try.prog w = .ok (.int .u8 ((s[0]'(by omega)).toNat : Int)) w := fun w => index_str s 0 (by omega) w
          have hr0 : ((s[0]'(by omega : 0 < s.size)).toNat) < 256 := UInt8.toNat_lt _
          generalize hgr : (s[0]'(by omega : 0 < s.size)).toNat = r0 at *
          generalize refNum (s.extract 1 s.size) = nn at *
          have HSG2 := Lib.hid (fun V hb => HSG.out (r0 : Int) nn V hb (by omega) (by omega))
          have HK : Hid (∀ V, Below wr.heap.size wr V → (fun V => V.cell? ⟨w.heap.size, 0, none⟩ = some (.int .i64 c.n) ∧ V.cell? ⟨w.heap.size, 1, none⟩ = some (.slice c.aL c.ls.length c.cL) ∧ V.cell? ⟨w.heap.size, 2, none⟩ = some (.slice c.aG c.gs.length c.cG) ∧ V.cell? ⟨w.heap.size, 3, none⟩ = some (.slice c.aO c.os.length c.cO) ∧ V.cell? ⟨w.heap.size, 4, none⟩ = some (.slice c.aB c.bs.length c.cB) ∧ V.cell? ⟨w.heap.size, 5, none⟩ = some (.slice c.aC c.cs.length c.cC) ∧ V.cell? ⟨w.heap.size, 6, none⟩ = some (.slice c.aF c.fs.length c.cF) ∧ V.cell? ⟨w.heap.size, 7, none⟩ = some (.slice c.aN c.ns.length c.cN)) V) := by
            intro V hb
            have h := hbx.below hb hbx.lt
            exact ⟨h.cell 0, h.cell 1, h.cell 2, h.cell 3, h.cell 4, h.cell 5, h.cell 6, h.cell 7⟩
          have lx := Below.refl wr.heap.size wr
          clear HZ hss hgr HSG HSS2
          go_upto_region 10 with fail
          clear c7
          go_region_held3 (fun V => V.cell? ⟨w.heap.size, 0, none⟩ = some (.int .i64 c.n) ∧ V.cell? ⟨w.heap.size, 1, none⟩ = some (.slice c.aL c.ls.length c.cL) ∧ V.cell? ⟨w.heap.size, 2, none⟩ = some (.slice c.aG c.gs.length c.cG) ∧ V.cell? ⟨w.heap.size, 3, none⟩ = some (.slice c.aO c.os.length c.cO) ∧ V.cell? ⟨w.heap.size, 4, none⟩ = some (.slice c.aB c.bs.length c.cB) ∧ V.cell? ⟨w.heap.size, 5, none⟩ = some (.slice c.aC c.cs.length c.cC) ∧ V.cell? ⟨w.heap.size, 6, none⟩ = some (.slice c.aF c.fs.length c.cF) ∧ V.cell? ⟨w.heap.size, 7, none⟩ = some (.slice c.aN c.ns.length c.cN))
            (first | exact HK.out _ lx | exact HK.out _ lx.drew)
            (first | (go_at_call 45; (with_reducible refine (HNU.out _).mono ?_); rintro e w3 ⟨rfl, rfl⟩) | (go_at_call 20; (with_reducible refine (HSG2.out _ (lo.trans (lx.drew.mono lo.size))).mono ?_); rintro e w2 ⟨rfl, hb2⟩; replace lx := lx.drew.trans hb2))
          all_goals go_wp2
          all_goals go_ret
          all_goals exact ⟨by rw [HZ2.out]; rfl, lo.trans (lx.mono lo.size)⟩
end Go.Proofs.Yteabffdddlihnaa
