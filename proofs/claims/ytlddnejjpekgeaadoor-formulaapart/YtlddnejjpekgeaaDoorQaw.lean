/- Formulas in memory: texts. -/
import Derived.Test.YtlddnejjpekgeaaDoorQav
set_option linter.unusedSimpArgs false
set_option linter.unusedVariables false
namespace Go.Proofs.YtlddnejjpekgeaaDoor
open Go.RowKit

def TextC (n : Nat) : Prop := ∀ (f : Fm.F) (v T : Value) (w : World), f.okB = true → f.cnt ≤ n → FV w (Lo w.heap.size) f v → KT w T → Sig w → 0 < w.heap.size →
  Calls Tryd.prog 38 #[T, v] w fun e w' => e = .returned (.string (bsv f.text)) ∧ Below w.heap.size w w'
def InnerC (n : Nat) : Prop := ∀ (f : Fm.F) (v T : Value) (w : World), f.okB = true → f.cnt ≤ n → FV w (Lo w.heap.size) f v → KT w T → Sig w → 0 < w.heap.size →
  Calls Tryd.prog 47 #[T, v] w fun e w' => e = .returned (.string (bsv (Fm.parS f.k f.text))) ∧ Below w.heap.size w w'
theorem klook1 {w : World} {m : Value} (h : KT w m) (k : Int) :
    (Instr.lookup 65 m (.int .i64 k) false).run Tryd.prog w = .ok (.agg #[.int .i64 (kidsI k), .string (bsv (Fm.befS k)), .string (bsv (Fm.betS k)), .string (bsv (Fm.behS k)), .bool (Fm.looseB k)]) w := by
  rw [klook h k false, if_neg (by simp), kOf_is]
theorem pfield (k : Int) (a b c : ByteArray) (l : Bool) (w : World) : (Instr.field 77 (.agg #[.int .i64 (kidsI k), .string a, .string b, .string c, .bool l]) 4).run Tryd.prog w = .ok (.bool l) w := by
  generalize kidsI k = z
  kernel_rfl
set_option maxRecDepth 10000 in
set_option maxHeartbeats 4000000 in
theorem inner_of (n : Nat) (hn : n ≤ 2000) (ih0 : TextC n) : InnerC n := by
  have ih := Lib.hid ih0
  clear ih0
  intro f v T w hok hc hf hT hg h0
  cases f with
  | mk k nm lit ks =>
    have hf0 := hf
    rw [FV] at hf
    obtain ⟨A, c, rfl, hl⟩ := hf
    have lo := lowAlloc w (Obj.cells #[.int .i64 k, .string ⟨nm.toArray⟩, .int .i64 lit, .slice A ks.length c] 24)
    have hb0 := Blk.new w 24 #[.int .i64 k, .string ⟨nm.toArray⟩, .int .i64 lit, .slice A ks.length c]
    have hTA := hT.on lo
    have HX := Lib.hid (ih.out (.mk k nm lit ks) _ T _ hok hc (hf0.on lo) hTA (hg.below lo h0) (Nat.lt_of_lt_of_le h0 lo.size))
    have hlk := klook1 hTA k
    have htl := Fm.text_len hok
    have hP : Hid (Fm.parS k (Fm.F.text (.mk k nm lit ks)) = if Fm.looseB k = true then 40 :: (Fm.F.text (.mk k nm lit ks) ++ [41]) else Fm.F.text (.mk k nm lit ks)) := rfl
    show Calls Tryd.prog 47 _ w fun e w' => e = .returned (.string (bsv (Fm.parS k (Fm.F.text (.mk k nm lit ks))))) ∧ Below w.heap.size w w'
    generalize Fm.F.text (.mk k nm lit ks) = t at *
    have ad1 : ∀ w, (Op.stringOp .add ⟨#[40]⟩ (bsv t)).run Tryd.prog w = .ok (.string (bsv (40 :: t))) w := addw [40] t (by simp; omega)
    have ad2 : ∀ w, (Op.stringOp .add (bsv (40 :: t)) ⟨#[41]⟩).run Tryd.prog w = .ok (.string (bsv (40 :: (t ++ [41])))) w := addw (40 :: t) [41] (by simp; omega)
    clear hl hf0 hT hTA hg h0 hok hc htl
    go_enter Tryd.func47, Tryd.ntmps47
    go_upto_region 1 with fail
    generalize w.alloc (Obj.cells #[.int .i64 k, .string ⟨nm.toArray⟩, .int .i64 lit, .slice A ks.length c] 24) = W at *
    have k0 := hb0.cell 0
    have k1 := hb0.cell 1
    have k2 := hb0.cell 2
    have k3 := hb0.cell 3
    simp only [List.getElem?_toArray, List.getElem?_cons_zero, List.getElem?_cons_succ] at k0 k1 k2 k3
    cases hlo : Fm.looseB k with
    | true =>
      rw [hlo] at hlk hP
      have hfd := pfield k (bsv (Fm.befS k)) (bsv (Fm.betS k)) (bsv (Fm.behS k)) true
      have HP := hP
      clear hP hlo
      go_wp2_with fail
      refine HX.out.mono ?_
      rintro e w2 ⟨rfl, hb2⟩
      clear HX k0 k1 k2 k3
      go_wp2
      go_ret
      exact ⟨by rw [HP.out]; rfl, lo.trans (hb2.mono lo.size)⟩
    | false =>
      rw [hlo] at hlk hP
      have hfd := pfield k (bsv (Fm.befS k)) (bsv (Fm.betS k)) (bsv (Fm.behS k)) false
      have HP := hP
      clear hP hlo
      go_wp2_with fail
      refine HX.out.mono ?_
      rintro e w2 ⟨rfl, hb2⟩
      clear HX k0 k1 k2 k3
      go_wp2
      go_ret
      exact ⟨by rw [HP.out]; rfl, lo.trans (hb2.mono lo.size)⟩
theorem okb_mk {k : Int} {nm : Tk.Bs} {lit : Int} {ks : List Fm.F} (h : (Fm.F.mk k nm lit ks).okB = true) : Fm.nodeB k nm lit ks.length = true ∧ Fm.okL ks = true := by
  rw [Fm.F.okB, Bool.and_eq_true] at h
  exact h
theorem node_word {nm : Tk.Bs} {lit : Int} {n : Nat} (h : Fm.nodeB 3 nm lit n = true) : Fm.wordB nm = true := by
  unfold Fm.nodeB at h
  simp only [Bool.and_eq_true, if_pos] at h
  exact h.2.2
theorem cnt_kid {ks : List Fm.F} {f : Fm.F} (h : f ∈ ks) : f.cnt ≤ Fm.cntL ks := by
  induction ks with
  | nil => cases h
  | cons a r ih =>
    rw [Fm.cntL]
    rcases List.mem_cons.1 h with rfl | h
    · omega
    · have := ih h
      omega
set_option maxRecDepth 10000 in
set_option maxHeartbeats 4000000 in
theorem text_step (n : Nat) (hn : n < 2000) (ih0 : InnerC n) : TextC (n + 1) := by
  have ih := Lib.hid ih0
  clear ih0
  intro f v T w hok hc hf hT hg h0
  cases f with
  | mk k nm lit ks =>
    rw [FV] at hf
    obtain ⟨A, c, rfl, hl⟩ := hf
    obtain ⟨hnode, hkok⟩ := okb_mk hok
    have lo := lowAlloc w (Obj.cells #[.int .i64 k, .string ⟨nm.toArray⟩, .int .i64 lit, .slice A ks.length c] 24)
    have hb0 := Blk.new w 24 #[.int .i64 k, .string ⟨nm.toArray⟩, .int .i64 lit, .slice A ks.length c]
    have hTA := hT.on lo
    have hgA := hg.below lo h0
    have h0A := Nat.lt_of_lt_of_le h0 lo.size
    have hlA := hl.on lo
    have htl := Fm.text_len hok
    have hcc : (Fm.F.mk k nm lit ks).cnt = 1 + Fm.cntL ks := rfl
    have hP : Fm.F.text (.mk k nm lit ks) = if k = 3 then Fm.atomS nm else Fm.befS k ++ (Fm.textL k true ks ++ Fm.behS k) := by rw [Fm.F.text]
    clear hl hT hg h0 hok
    by_cases h3 : k = 3
    · subst h3
      have HX := Lib.hid (atom_text nm _ (node_word hnode) hgA h0A)
      have HP : Hid (Fm.F.text (.mk 3 nm lit ks) = Fm.atomS nm) := by unfold Hid; rw [hP, if_pos rfl]
      clear hP hnode hkok hTA hgA h0A hlA htl hcc hc
      go_enter Tryd.func38, Tryd.ntmps38
      go_upto_region 1 with fail
      generalize w.alloc (Obj.cells #[.int .i64 3, .string ⟨nm.toArray⟩, .int .i64 lit, .slice A ks.length c] 24) = W at *
      have k0 := hb0.cell 0
      have k1 := hb0.cell 1
      simp only [List.getElem?_toArray, List.getElem?_cons_zero, List.getElem?_cons_succ] at k0 k1
      go_wp2_with fail
      refine HX.out.mono ?_
      rintro e w2 ⟨rfl, hb2⟩
      clear HX k0 k1
      go_wp2
      go_ret
      exact ⟨by rw [HP.out]; rfl, lo.trans (hb2.mono lo.size)⟩
    · have HP : Hid (Fm.F.text (.mk k nm lit ks) = Fm.befS k ++ (Fm.textL k true ks ++ Fm.behS k)) := by unfold Hid; rw [hP, if_neg h3]
      have hq3 : (k == 3) = false := by rw [beq_eq_false_iff_ne]; exact h3
      have hk2 := node_small hnode
      have hlen : (Fm.befS k ++ (Fm.textL k true ks ++ Fm.behS k)).length ≤ 44000 := by
        rw [← HP.out]
        omega
      have hlk := klook1 hTA k
      have HOK := Lib.hid (Fm.okL_mem hkok)
      clear hP hnode hkok htl h3
      go_enter Tryd.func38, Tryd.ntmps38
      go_upto_region 1 with fail
      generalize w.alloc (Obj.cells #[.int .i64 k, .string ⟨nm.toArray⟩, .int .i64 lit, .slice A ks.length c] 24) = W at *
      have hWw : w.heap.size < W.heap.size := hb0.lt
      have k0 := hb0.cell 0
      have k3 := hb0.cell 3
      simp only [List.getElem?_toArray, List.getElem?_cons_zero, List.getElem?_cons_succ] at k0 k3
      go_upto_region 4 with fail
      have lo2 := lowAlloc W (Obj.cells #[.int .i64 (kidsI k), .string (bsv (Fm.befS k)), .string (bsv (Fm.betS k)), .string (bsv (Fm.behS k)), .bool (Fm.looseB k)] 77)
      have hbp := Blk.new W 77 #[.int .i64 (kidsI k), .string (bsv (Fm.befS k)), .string (bsv (Fm.betS k)), .string (bsv (Fm.behS k)), .bool (Fm.looseB k)]
      have hb2 := hb0.below lo2 hb0.lt
      have hl2 := hlA.on lo2
      have hT2 := hTA.on lo2
      have hg2 := hgA.below lo2 h0A
      have h02 := Nat.lt_of_lt_of_le h0A lo2.size
      have hlo := lo.trans (lo2.mono lo.size)
      clear k0 k3 lo lo2 hb0 hlk hTA hgA h0A hlA hq3
      generalize W.alloc (Obj.cells #[.int .i64 (kidsI k), .string (bsv (Fm.befS k)), .string (bsv (Fm.betS k)), .string (bsv (Fm.behS k)), .bool (Fm.looseB k)] 77) = W2 at *
      have k3 := hb2.cell 3
      have p1 := hbp.cell 1
      simp only [List.getElem?_toArray, List.getElem?_cons_zero, List.getElem?_cons_succ] at k3 p1
      go_wp2
      clear k3 p1 hb2
      have HL := Lib.hid hl2
      have HT := Lib.hid hT2
      have HG := Lib.hid hg2
      have HB := Lib.hid hbp
      have HLN := Lib.hid hlen
      clear hl2 hT2 hg2 hbp hlen
      go_loopw [6, 24] (fun a i wr => ∃ (j : Nat) (t : Tk.Bs), j ≤ ks.length ∧ i = .int .i64 (j : Int) ∧ a = .string (bsv t) ∧ Fm.befS k ++ Fm.textL k true ks = t ++ Fm.textL k (decide (j = 0)) (ks.drop j) ∧ Below W2.heap.size W2 wr) (fun _ i _ => ks.length - (intOf i).toNat)
      case atStart => exact ⟨0, Fm.befS k, Nat.zero_le _, rfl, rfl, rfl, Below.refl _ _⟩
      case round =>
        obtain ⟨j, t, hj, rfl, rfl, hE, hbw⟩ := hrel
        have hEl : t.length + (Fm.textL k (decide (j = 0)) (ks.drop j)).length + (Fm.behS k).length ≤ 44000 := by
          have e1 := congrArg List.length hE
          have e2 := HLN.out
          simp only [List.length_append] at e1 e2
          omega
        have HE := Lib.hid hE
        clear hE
        have hBW := hlo.trans (hbw.mono hlo.size)
        have hbpr := HB.out.below hbw HB.out.lt
        by_cases hlt : j < ks.length
        · obtain ⟨b, off, A', c', hA, hK, g0, g1, g2, g3, hfv⟩ := FL.at ks A 0 (HL.out.on hbw) j hlt
          subst hA
          have hix := ixF b off ks.length c j (by omega) hlt
          rw [Nat.zero_add] at g0 g1 g2 g3
          have hlB := lowAlloc wr (Obj.cells #[.int .i64 ks[j].k, .string ⟨ks[j].nm.toArray⟩, .int .i64 ks[j].lit, .slice A' ks[j].ks.length c'] 24)
          have hbB := Blk.new wr 24 #[.int .i64 ks[j].k, .string ⟨ks[j].nm.toArray⟩, .int .i64 ks[j].lit, .slice A' ks[j].ks.length c']
          have hfB := hfv.on hlB
          have hTB := (HT.out.on hbw).on hlB
          have hgB := (HG.out.below hbw h02).below hlB (Nat.lt_of_lt_of_le h02 hbw.size)
          have h0B := Nat.lt_of_lt_of_le (Nat.lt_of_lt_of_le h02 hbw.size) hlB.size
          have hBB := hBW.trans (hlB.mono hBW.size)
          have hbB2 := hbw.trans (hlB.mono hbw.size)
          have hbpB := hbpr.below hlB hbpr.lt
          have hmem : ks[j] ∈ ks := List.getElem_mem hlt
          have hdr : ks.drop j = ks[j] :: ks.drop (j + 1) := List.drop_eq_getElem_cons hlt
          have HS := Lib.hid (ih.out ks[j] _ T _ (HOK.out _ hmem) (by have := cnt_kid hmem; omega) hfB hTB hgB h0B)
          rw [hdr, Fm.textL] at hEl
          have HE2 : Hid (Fm.befS k ++ Fm.textL k true ks = (t ++ (if decide (j = 0) = true then [] else Fm.betS k)) ++ Fm.parS ks[j].k ks[j].text ++ Fm.textL k (decide (j + 1 = 0)) (ks.drop (j + 1))) := by
            unfold Hid
            rw [HE.out, hdr, Fm.textL, decide_eq_false (by omega : ¬ j + 1 = 0)]
            simp only [List.append_assoc]
          clear HE hdr hmem
          simp only [List.length_append] at hEl
          generalize Fm.parS ks[j].k ks[j].text = x at *
          go_upto_region 8 with fail
          clear hix g0 g1 g2 g3 hfv hlB hK hbw hBW hTB hgB h0B hbpr hfB
          generalize wr.alloc (Obj.cells #[.int .i64 ks[j].k, .string ⟨ks[j].nm.toArray⟩, .int .i64 ks[j].lit, .slice A' ks[j].ks.length c'] 24) = W3 at *
          have q0 := hbB.cell 0
          have q1 := hbB.cell 1
          have q2 := hbB.cell 2
          have q3 := hbB.cell 3
          have p2 := hbpB.cell 2
          simp only [List.getElem?_toArray, List.getElem?_cons_zero, List.getElem?_cons_succ] at q0 q1 q2 q3 p2
          clear hbB hbpB
          by_cases hj0 : j = 0
          · subst hj0
            rw [if_pos (by rfl)] at hEl
            have HE3 : Hid (Fm.befS k ++ Fm.textL k true ks = (t ++ x) ++ Fm.textL k (decide (0 + 1 = 0)) (ks.drop (0 + 1))) := by
              unfold Hid
              rw [HE2.out, if_pos (by rfl), List.append_nil]
            have hadd := addw t x (by simp at hEl; omega)
            clear HE2 hEl
            go_wp2_with fail
            refine HS.out.mono ?_
            rintro e w4 ⟨rfl, hb4⟩
            have hBn := hBB.trans (hb4.mono hBB.size)
            have hbn := hbB2.trans (hb4.mono hbB2.size)
            clear HS q0 q1 q2 q3 p2 hb4 hBB hbB2
            go_wp2
            go_roundw
            case rel => exact ⟨0 + 1, t ++ x, by omega, by go_num, rfl, HE3.out, hbn⟩
            case measure => simp [intOf]; omega
          · rw [if_neg (by simp [hj0])] at hEl
            have hjp : (0 : Int) < (j : Int) := by omega
            have HE3 : Hid (Fm.befS k ++ Fm.textL k true ks = ((t ++ Fm.betS k) ++ x) ++ Fm.textL k (decide (j + 1 = 0)) (ks.drop (j + 1))) := by
              unfold Hid
              rw [HE2.out, if_neg (by simp [hj0])]
            have hadd0 := addw t (Fm.betS k) (by omega)
            have hadd := addw (t ++ Fm.betS k) x (by rw [List.length_append]; omega)
            clear HE2 hEl
            go_wp2_with fail
            refine HS.out.mono ?_
            rintro e w4 ⟨rfl, hb4⟩
            have hBn := hBB.trans (hb4.mono hBB.size)
            have hbn := hbB2.trans (hb4.mono hbB2.size)
            clear HS q0 q1 q2 q3 p2 hb4 hBB hbB2
            go_wp2
            go_roundw
            case rel => exact ⟨j + 1, t ++ (Fm.betS k ++ x), by omega, by go_num, rfl, by rw [HE3.out, List.append_assoc t], hbn⟩
            case measure => simp [intOf]; omega
        · obtain rfl : j = ks.length := by omega
          have HF : Hid (Fm.F.text (.mk k nm lit ks) = t ++ Fm.behS k) := by
            unfold Hid
            have := HE.out
            rw [List.drop_length, Fm.textL, List.append_nil] at this
            rw [HP.out, ← List.append_assoc, this]
          have p3 := hbpr.cell 3
          simp only [List.getElem?_toArray, List.getElem?_cons_zero, List.getElem?_cons_succ] at p3
          have hadd := addw t (Fm.behS k) (by omega)
          clear HE HP hEl
          go_wp2
          go_ret
          exact ⟨by rw [HF.out]; rfl, hBW⟩
theorem texts_all : ∀ n, n ≤ 2000 → TextC n ∧ InnerC n
  | 0, _ => by
    have h : TextC 0 := fun f _ _ _ _ hc => by have := Fm.cnt_pos f; omega
    exact ⟨h, inner_of 0 (by omega) h⟩
  | n + 1, h => by
    have h1 := text_step n (by omega) (texts_all n (by omega)).2
    exact ⟨h1, inner_of (n + 1) (by omega) h1⟩
end Go.Proofs.YtlddnejjpekgeaaDoor
/- Formulas in memory: Print. -/
namespace Go.Proofs.YtlddnejjpekgeaaDoor
open Go.RowKit

/-- What Print answers. -/
def printV (f : Fm.F) : Value := .tuple #[.string (bsv (if Fm.validB f = true then f.text else [])), .int .i64 (if Fm.validB f = true then 0 else 1)]
theorem printV_ok {f : Fm.F} (h : Fm.validB f = true) : printV f = .tuple #[.string (bsv f.text), .int .i64 0] := by
  unfold printV
  rw [if_pos h, if_pos h]
theorem printV_bad {f : Fm.F} (h : Fm.validB f = false) : printV f = .tuple #[.string ⟨#[]⟩, .int .i64 1] := by
  unfold printV
  rw [h]
  rfl
theorem Sig.drew {w : World} (h : Sig w) : Sig w.drew := h
set_option maxRecDepth 10000 in
set_option maxHeartbeats 4000000 in
theorem Print_any (f : Fm.F) (v : Value) (w : World) (hf : FV w (Lo w.heap.size) f v) (hg : Sig w) (h0 : 0 < w.heap.size) :
    Calls Tryd.prog 21 #[v] w fun e w' => e = .returned (printV f) ∧ Below w.heap.size w w' := by
  cases f with
  | mk k nm lit ks =>
    have hf0 := hf
    rw [FV] at hf
    obtain ⟨A, c, rfl, hl⟩ := hf
    have lo := lowAlloc w (Obj.cells #[.int .i64 k, .string ⟨nm.toArray⟩, .int .i64 lit, .slice A ks.length c] 24)
    have hb0 := Blk.new w 24 #[.int .i64 k, .string ⟨nm.toArray⟩, .int .i64 lit, .slice A ks.length c]
    have hfA := hf0.on lo
    have hgA := hg.below lo h0
    have h0A := Nat.lt_of_lt_of_le h0 lo.size
    have HR := Lib.hid (Right_any (.mk k nm lit ks) _ _ hfA)
    clear hl hf0 hg h0
    go_enter Tryd.func21, Tryd.ntmps21
    go_upto_region 1 with fail
    generalize w.alloc (Obj.cells #[.int .i64 k, .string ⟨nm.toArray⟩, .int .i64 lit, .slice A ks.length c] 24) = W at *
    have k0 := hb0.cell 0
    have k1 := hb0.cell 1
    have k2 := hb0.cell 2
    have k3 := hb0.cell 3
    simp only [List.getElem?_toArray, List.getElem?_cons_zero, List.getElem?_cons_succ] at k0 k1 k2 k3
    cases hv : Fm.validB (.mk k nm lit ks) with
    | false =>
      rw [hv] at HR
      have HV := Lib.hid (printV_bad hv)
      clear hv hfA hgA h0A
      go_wp2_with fail
      refine HR.out.mono ?_
      rintro e w2 ⟨rfl, hb2⟩
      clear HR k0 k1 k2 k3
      go_wp2
      refine bodyPost_ret (v := .tuple #[.string ⟨#[]⟩, .int .i64 1]) (by simp [results, Tryd.results21, go_sem]) rfl ?_
      exact ⟨by rw [HV.out], lo.trans (hb2.mono lo.size)⟩
    | true =>
      rw [hv] at HR
      have hok : (Fm.F.mk k nm lit ks).okB = true ∧ (Fm.F.mk k nm lit ks).cnt ≤ 2000 := by
        unfold Fm.validB at hv
        simp only [Bool.and_eq_true, decide_eq_true_eq] at hv
        exact ⟨hv.1, hv.2.2⟩
      have HV := Lib.hid (printV_ok hv)
      clear hv
      go_wp2_with fail
      refine HR.out.mono ?_
      rintro e w2 ⟨rfl, hb2⟩
      clear HR k0 k1 k2 k3
      have hfB := hfA.on hb2
      have hgB := hgA.below hb2 h0A
      have h0B := Nat.lt_of_lt_of_le h0A hb2.size
      have hbB := hb0.below hb2 hb0.lt
      have hlo := lo.trans (hb2.mono lo.size)
      clear hfA hgA h0A hb0 hb2 lo
      have HS : Hid (∀ V T, KT V T → Below w2.heap.size w2 V → Calls Tryd.prog 38 #[T, .agg #[.int .i64 k, .string ⟨nm.toArray⟩, .int .i64 lit, .slice A ks.length c]] V fun e w' => e = .returned (.string (bsv (Fm.F.text (.mk k nm lit ks)))) ∧ Below V.heap.size V w') := by
        intro V T hT hb
        exact (texts_all 2000 (Nat.le_refl _)).1 _ _ T V hok.1 hok.2 (hfB.on hb) hT (hgB.below hb h0B) (Nat.lt_of_lt_of_le h0B hb.size)
      have HK : Hid (∀ V, Below w2.heap.size w2 V → (V.cell? ⟨w.heap.size, 0, none⟩ = some (.int .i64 k) ∧ V.cell? ⟨w.heap.size, 1, none⟩ = some (.string ⟨nm.toArray⟩) ∧ V.cell? ⟨w.heap.size, 2, none⟩ = some (.int .i64 lit) ∧ V.cell? ⟨w.heap.size, 3, none⟩ = some (.slice A ks.length c))) := fun V hV => by
        have hb := hbB.below hV hbB.lt
        exact ⟨hb.cell 0, hb.cell 1, hb.cell 2, hb.cell 3⟩
      have HN := Lib.hid kinds_any
      have lx := Below.refl w2.heap.size w2
      clear hfB hgB h0B hbB hok
      go_upto_region 3 with fail
      go_region_held3 (fun V => V.cell? ⟨w.heap.size, 0, none⟩ = some (.int .i64 k) ∧ V.cell? ⟨w.heap.size, 1, none⟩ = some (.string ⟨nm.toArray⟩) ∧ V.cell? ⟨w.heap.size, 2, none⟩ = some (.int .i64 lit) ∧ V.cell? ⟨w.heap.size, 3, none⟩ = some (.slice A ks.length c))
        (first | exact HK.out _ lx | exact HK.out _ lx.drew)
        (first | (go_at_call 37; (with_reducible refine (HN.out _).mono ?_); rintro e w1 ⟨T, rfl, hT, hb1⟩; have hT1 := hT; replace lx := lx.drew.trans (hb1.mono lx.size))
               | (go_at_call 38; (with_reducible refine (HS.out _ _ hT1.drew lx.drew).mono ?_); rintro e w3 ⟨rfl, hb3⟩; replace lx := lx.drew.trans (hb3.mono lx.size))
               | (go_at_call 38; (with_reducible refine (HS.out _ _ hT1 lx).mono ?_); rintro e w3 ⟨rfl, hb3⟩; replace lx := lx.trans (hb3.mono lx.size)))
      go_wp2
      refine bodyPost_ret (v := .tuple #[.string (bsv (Fm.F.text (.mk k nm lit ks))), .int .i64 0]) (by simp [results, Tryd.results21, go_sem]) rfl ?_
      exact ⟨by rw [HV.out], hlo.trans (lx.mono hlo.size)⟩
end Go.Proofs.YtlddnejjpekgeaaDoor
