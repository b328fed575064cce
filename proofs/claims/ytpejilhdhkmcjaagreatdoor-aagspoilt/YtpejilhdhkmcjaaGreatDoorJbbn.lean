/- The document's reader of texts: the first line. -/
import Derived.Test.YtpejilhdhkmcjaaGreatDoorJbAl
import Derived.Test.YtpejilhdhkmcjaaGreatDoorJbbm
namespace Go.Proofs.YtpejilhdhkmcjaaGreatDoor
open Go.RowKit

namespace Ag
/-- What stands at place j of the first line's numbers. -/
def hv (ws : List Bs) (j : Nat) : Int := (ws.map refN).getD j 0
theorem hv_in {ws : List Bs} {j : Nat} (h : j < ws.length) : hv ws j = refN ws[j] := by
 unfold hv
 rw [List.getD_eq_getElem?_getD, List.getElem?_map, List.getElem?_eq_getElem h]
 rfl
theorem hv_out {ws : List Bs} {j : Nat} (h : ws.length ≤ j) : hv ws j = 0 := by
 unfold hv
 rw [List.getD_eq_getElem?_getD, List.getElem?_eq_none (by rw [List.length_map]; exact h)]
 rfl
theorem head_ok {ws : List Bs} (h : ∀ j, j < ws.length → 0 ≤ hv ws j ∧ hv ws j ≤ 2000) : ∃ m, ws.mapM digL = some m ∧ natV m = ws.map refN ∧ m.length = ws.length ∧ (∀ x ∈ m, x ≤ 2000) ∧ ∀ j, hv ws j = (ge m j : Int) := by
 have ha : ws.any (fun x => (digL x).isNone) = false := by
  rw [List.any_eq_false]
  intro x hx
  obtain ⟨j, hj, rfl⟩ := List.getElem_of_mem hx
  have := (h j hj).1
  rw [hv_in hj] at this
  rw [← refN_neg]
  simp
  omega
 obtain ⟨m, h1, h2, h3⟩ := mapM_some ha
 have hgj : ∀ j, hv ws j = (ge m j : Int) := by
  intro j
  unfold hv ge
  rw [h2]
  unfold natV
  rw [List.getD_eq_getElem?_getD, List.getD_eq_getElem?_getD, List.getElem?_map]
  cases m[j]? <;> rfl
 refine ⟨m, h1, h2.symm, h3, fun x hx => ?_, hgj⟩
 obtain ⟨j, hj, rfl⟩ := List.getElem_of_mem hx
 have := (h j (by omega)).2
 rw [hgj j] at this
 unfold ge at this
 rw [List.getD_eq_getElem?_getD, List.getElem?_eq_getElem hj] at this
 simp only [Option.getD_some] at this
 omega
theorem head_bad {ws : List Bs} {j : Nat} (hj : j < ws.length) (h : hv ws j < 0 ∨ 2000 < hv ws j) : ∀ m, ws.mapM digL = some m → ¬ (∀ x ∈ m, x ≤ 2000) := by
 intro m hm hall
 have ha : ws.any (fun x => (digL x).isNone) = false := by
  cases hb : ws.any (fun x => (digL x).isNone) with
  | false => rfl
  | true => rw [mapM_none hb] at hm; cases hm
 obtain ⟨m', h1, h2, h3⟩ := mapM_some ha
 rw [hm] at h1
 injection h1 with h1
 subst h1
 rw [hv_in hj] at h
 have e : refN ws[j] = (m[j]'(by omega) : Int) := by
  have := congrArg (fun l => l[j]?) h2
  simp only [natV, List.getElem?_map, List.getElem?_eq_getElem hj, List.getElem?_eq_getElem (show j < m.length by omega), Option.map_some, Option.some.injEq] at this
  exact this
 have := hall (m[j]'(by omega)) (List.getElem_mem _)
 omega
/-- Nine numbers. -/
def pad9 (m : List Nat) : List Nat := m ++ List.replicate (9 - m.length) 0
theorem pad_ge (m : List Nat) (j : Nat) : ge (pad9 m) j = ge m j := by
 unfold ge pad9
 rw [List.getD_eq_getElem?_getD, List.getD_eq_getElem?_getD]
 by_cases h : j < m.length
 ·
  rw [List.getElem?_append_left h]
 rw [List.getElem?_append_right (by omega), List.getElem?_eq_none (show m.length ≤ j by omega), List.getElem?_replicate]
 split <;> rfl
theorem pad_len {m : List Nat} (h : m.length ≤ 9) : (pad9 m).length = 9 := by
 unfold pad9
 rw [List.length_append, List.length_replicate]
 omega
theorem pad_low {m : List Nat} (h : ∀ x ∈ m, x ≤ 2000) : ∀ x ∈ pad9 m, x ≤ 2000 := by
 intro x hx
 rcases List.mem_append.1 hx with hx | hx
 ·
  exact h x hx
 have := (List.mem_replicate.1 hx).2
 omega
theorem pad_vals {ws : List Bs} {m : List Nat} (hl : m.length ≤ 9) (h : ∀ j, hv ws j = (ge m j : Int)) : (List.range 9).map (hv ws) = natV (pad9 m) := by
 apply List.ext_getElem?
 intro j
 unfold natV
 rw [List.getElem?_map, List.getElem?_map]
 by_cases hj : j < 9
 ·
  have h9 : j < (pad9 m).length := by rw [pad_len hl]; exact hj
  rw [List.getElem?_range hj, List.getElem?_eq_getElem h9]
  have e : (pad9 m)[j] = ge (pad9 m) j := by unfold ge; rw [List.getD_eq_getElem?_getD, List.getElem?_eq_getElem h9]; rfl
  simp only [Option.map_some]
  rw [h j, e, pad_ge]
 rw [List.getElem?_eq_none (by simp; omega), List.getElem?_eq_none (by rw [pad_len hl]; omega)]
 rfl
end Ag
/-- The first line is taken, or it is none. -/
def THeadP (R : Nat) (rest : List Value) (w : World) (o : Option (List Nat × Ag.Bs)) (len : Nat) (e : Ending) (w' : World) : Prop :=
 RKeep R w w' ∧ match o with
 | none => e = .returned (.bool false)
 | some (m, r) => e = .returned (.bool true) ∧ r.length ≤ len ∧ ∃ gm cm, TK w' R r false (.slice (some ⟨gm, 0, none⟩) 9 cm :: .int .i64 (Ag.ge m 1 : Int) :: rest) ∧ Mw w' R gm (Ag.pad9 m) ∧ w.heap.size ≤ gm
theorem bsv_eq (x y : Ag.Bs) : ((bsv x).toList == (bsv y).toList) = decide (x = y) := by
 rw [Lib.toList_data, Lib.toList_data, show (bsv x).data.toList = x from rfl, show (bsv y).data.toList = y from rfl]
 by_cases h : x = y
 ·
  simp [h]
 simp [h]
set_option maxRecDepth 10000 in
set_option maxHeartbeats 4000000 in
theorem thead_any (R : Nat) (s word : Ag.Bs) (rest : List Value) (w : World) (h : TK w R s false (.slice none 0 0 :: .int .i64 0 :: rest)) (hs : s.length ≤ 40000) :
  Calls Tryz.prog 42 #[.pointer (some ⟨R, 0, none⟩), .string (bsv word)] w (THeadP R rest w (Ag.headS word s) s.length) := by
 have HRZ : Hid (R < w.heap.size) := h.lt
 have HL := Lib.hid (tline_any R s false _ w h (by omega))
 obtain ⟨o, ho⟩ : ∃ o, o = Ag.headS word s := ⟨_, rfl⟩
 rw [← ho]
 have HO := Lib.hid ho
 clear ho
 go_enter Tryz.func42, Tryz.ntmps42
 go_wp2_with fail
 refine HL.out.mono ?_
 intro e w1 hP
 unfold TLineP at hP
 cases hli : Ag.lineS s with
 | none =>
  rw [hli] at hP
  obtain ⟨rfl, hT, hk1⟩ := hP
  have HE : Hid (o = none) := by
   unfold Hid
   rw [HO.out]
   unfold Ag.headS
   rw [hli]
  clear HL h HO hli
  go_wp2_with fail
  refine (twords_any [] w1 (by simp)).mono ?_
  rintro e w2 ⟨vw, rfl, hrw, lo⟩
  obtain ⟨A9, c9, hsl⟩ := row_slice hrw
  subst hsl
  have c1 := (hT.keep lo).c1
  have hk2 := hk1.below lo
  clear hrw hT hk1
  go_wp2
  go_ret
  exact ⟨hk2, by rw [HE.out]; rfl⟩
 | some q =>
  obtain ⟨l, r⟩ := q
  rw [hli] at hP
  obtain ⟨rfl, hT, hk1⟩ := hP
  have hll := congrArg List.length (Ag.line_some hli).1
  simp at hll
  have HO1 : Hid (o = match Ag.wordsS l with
   | [] => none
   | w :: ws =>
    if w = word ∧ 5 ≤ ws.length ∧ ws.length ≤ 9 then
     match ws.mapM Ag.digL with
     | none => none
     | some m => if (∀ x ∈ m, x ≤ 2000) ∧ Ag.ge m 0 = Ag.ge m 1 + Ag.ge m 2 + Ag.ge m 4 ∧ Ag.ge m 7 = 0 then some (m, r) else none
    else none) := by
   unfold Hid
   rw [HO.out]
   unfold Ag.headS
   rw [hli]
   rfl
  have hRL : r.length ≤ s.length := by omega
  have HRL := Lib.hid hRL
  clear HL h HO hli hRL
  go_wp2_with fail
  refine (twords_any l w1 (by omega)).mono ?_
  rintro e w2 ⟨vw, rfl, hrw, lo⟩
  obtain ⟨g, cw, rfl, hg0, hg1, hW⟩ := row_words hrw (Ag.words_ne l)
  have hT2 := hT.keep lo
  have hk2 := hk1.below lo
  have HGR : Hid (R < w2.heap.size ∧ R ≠ g ∧ g < w2.heap.size ∧ w.heap.size ≤ w2.heap.size) := by
   have := hk1.size
   have := HRZ.out
   have := lo.size
   exact ⟨by omega, by omega, by omega, by omega⟩
  have HWX : Hid (∀ x ∈ Ag.wordsS l, (bsv x).size ≤ maxLen) := by
   intro x hx
   have := word_le l x hx
   rw [bsv_size]
   unfold maxLen
   omega
  have hwn := Ag.words_ne l
  have hwl := words_len l
  generalize Ag.wordsS l = ws0 at *
  obtain ⟨wd, ws, rfl⟩ : ∃ wd ws, ws0 = wd :: ws := by
   cases ws0 with
   | nil => exact absurd rfl hwn
   | cons a t => exact ⟨a, t, rfl⟩
  simp only [List.length_cons] at hwl
  have HO2 : Hid (o = if wd = word ∧ 5 ≤ ws.length ∧ ws.length ≤ 9 then
     match ws.mapM Ag.digL with
     | none => none
     | some m => if (∀ x ∈ m, x ≤ 2000) ∧ Ag.ge m 0 = Ag.ge m 1 + Ag.ge m 2 + Ag.ge m 4 ∧ Ag.ge m 7 = 0 then some (m, r) else none
    else none) := HO1.out
  have HWL : Hid (ws.length ≤ 50000) := by unfold Hid; omega
  have hcw0 := hW 0 (by simp)
  simp only [List.getElem_cons_zero] at hcw0
  have hixw : ∀ W, (Instr.indexAt 70 (.slice (some ⟨g, 0, none⟩) (wd :: ws).length cw) (.int .i64 0)).run Tryz.prog W = .ok (.pointer (some ⟨g, 0, none⟩)) W := fun W => ixWd g (wd :: ws).length cw 0 (by simp; omega) (by simp) W
  have c1 := hT2.c1
  clear hrw lo hT hk1 hg0 hg1 HO1 hwl hwn hll
  simp only [List.length_cons] at hixw
  by_cases hwd : wd = word
  ·
   have he : ((bsv wd).toList == (bsv word).toList) = true := by rw [bsv_eq, hwd]; simp
   have HWD := Lib.hid hwd
   clear hwd
   by_cases h5 : ws.length < 5
   ·
    have d5 : decide (((ws.length : Int) + 1) < 6) = true := decide_eq_true (by omega)
    have HE : Hid (o = none) := HO2.out.trans (if_neg (by omega))
    go_wp2
    go_ret
    exact ⟨hk2, by rw [HE.out]; rfl⟩
   have d5 : decide (((ws.length : Int) + 1) < 6) = false := decide_eq_false (by omega)
   by_cases h9 : 9 < ws.length
   ·
    have d9 : decide ((10 : Int) < (ws.length : Int) + 1) = true := decide_eq_true (by omega)
    have HE : Hid (o = none) := HO2.out.trans (if_neg (by omega))
    go_wp2
    go_ret
    exact ⟨hk2, by rw [HE.out]; rfl⟩
   have d9 : decide ((10 : Int) < (ws.length : Int) + 1) = false := decide_eq_false (by omega)
   have hk22 := RKeep.refl R w2
   have HW0 := Lib.hid hW
   have HK2 := Lib.hid hk2
   clear hk2
   go_wp2
   clear hcw0 hixw c1 he d5 d9
   go_loopw [6, 7] (fun i n wr => ∃ (k : Nat) (vM : Value), k ≤ 9 ∧ i = .int .i64 ((k + 1 : Nat) : Int) ∧ wr.ownsRow w2.heap.size 3 1 vM k (iv ((List.range k).map (Ag.hv ws))) ∧ TK wr R r false (vM :: .int .i64 0 :: rest) ∧ Wd wr g (wd :: ws) ∧ RKeep R w2 wr ∧ ∀ j, j < k → 0 ≤ Ag.hv ws j ∧ Ag.hv ws j ≤ 2000) (fun i _ _ => 10 - (intOf i).toNat)
   case atStart => exact ⟨0, _, Nat.zero_le _, rfl, World.ownsRow_nil w2 _ _ _, hT2, hW, hk22, fun j hj => absurd hj (Nat.not_lt_zero _)⟩
   clear hT2 hW hk22
   obtain ⟨k, vM, hk, rfl, hrow, hT, hW, hkp, hlow⟩ := hrel
   have HLW := Lib.hid hlow
   clear hlow
   obtain ⟨AM, cM, hsl⟩ := row_slice hrow
   subst hsl
   by_cases hlt : k < 9
   ·
    have dl : decide (((k + 1 : Nat) : Int) < 10) = true := decide_eq_true (by omega)
    have dl2 : decide ((k : Int) + 1 < 10) = true := decide_eq_true (by omega)
    have hkp2 := hkp.size
    by_cases hin : k < ws.length
    ·
     have di : decide (((k + 1 : Nat) : Int) < (ws.length : Int) + 1) = true := decide_eq_true (by omega)
     have di2 : decide ((k : Int) + 1 < (ws.length : Int) + 1) = true := decide_eq_true (by omega)
     have hcw := hW (k + 1) (by simp; omega)
     simp only [List.getElem_cons_succ] at hcw
     have hix := ixWd g (ws.length + 1) cw (k + 1) (by omega) (by omega)
     have HNB := Lib.hid (fun W => Number_any (bsv ws[k]) W (HWX.out _ (by simp)))
     rw [refNum_bsv] at HNB
     have hzz : Ag.hv ws k = Ag.refN ws[k] := Ag.hv_in hin
     have HZZ := Lib.hid hzz
     have HBD := Lib.hid (Ag.head_bad (ws := ws) (j := k) hin)
     have HLO := Lib.hid (Ag.refN_low ws[k])
     clear hzz
     generalize Ag.refN ws[k] = z at *
     go_wp2_with fail
     refine (HNB.out _).mono ?_
     rintro e w3 ⟨rfl, rfl⟩
     clear HNB hcw hix
     by_cases hz : z < 0
     ·
      have dz : decide (z < 0) = true := decide_eq_true hz
      have HE : Hid (o = none) := by
       have hb := HBD.out (Or.inl (by rw [HZZ.out]; exact hz))
       unfold Hid
       rw [HO2.out]
       split
       ·
        cases hm : ws.mapM Ag.digL with
        | none => rfl
        | some m => simp only; rw [if_neg (fun h => hb m hm h.1)]
       rfl
      have hkt := HK2.out.trans hkp
      go_wp2
      go_ret
      exact ⟨hkt, by rw [HE.out]; rfl⟩
     have dz : decide (z < 0) = false := decide_eq_false hz
     by_cases hz2 : 2000 < z
     ·
      have dz2 : decide ((2000 : Int) < z) = true := decide_eq_true hz2
      have HE : Hid (o = none) := by
       have hb := HBD.out (Or.inr (by rw [HZZ.out]; exact hz2))
       unfold Hid
       rw [HO2.out]
       split
       ·
        cases hm : ws.mapM Ag.digL with
        | none => rfl
        | some m => simp only; rw [if_neg (fun h => hb m hm h.1)]
       rfl
      have hkt := HK2.out.trans hkp
      go_wp2
      go_ret
      exact ⟨hkt, by rw [HE.out]; rfl⟩
     have dz2 : decide ((2000 : Int) < z) = false := decide_eq_false hz2
     go_upto_region 12 with fail
     have hrow3 := hrow
     have hT3 := hT
     have hk3 := hkp
     have hW3 := hW
     have hs3 := hkp2
     clear hrow hT hkp hW hkp2
     have HRUN : Hid _ := Lib.hid (fun ty => app_int1 wr w2.heap.size ty (.slice AM k cM) k _ hrow3 z (by omega) hs3)
     have HRB := Lib.hid (row_base hrow3)
     have c2 : wr.cell? ⟨R, 2, none⟩ = some (.slice AM k cM) := hT3.cell 0
     have f2 := hT3.fz 2
     have HK3 := Lib.hid hk3
     have HW3 := Lib.hid hW3
     clear hrow3 hk3 hW3
     go_wp2_with (at_builtin; go_loud (refine wpList_app rfl (.tmp 55) (.tmp 57) 26 rfl _ _ rfl rfl _ HRUN.out ?_); intro v' W4 hR4; obtain ⟨A5, c5, hsl⟩ := row_slice hR4.1; subst hsl; have hT5 := (hT3.keep (lowAlloc wr (Obj.cells #[.int .i64 z] 3))).grown hR4.2 (fun e => by have := HRB.out R e.symm; have := HGR.out.1; omega); have c2 : W4.cell? ⟨R, 2, none⟩ = some (.slice AM k cM) := hT5.cell 0; have f2 := hT5.fz 2)
     have hk4 := (HK3.out.below (lowAlloc wr (Obj.cells #[.int .i64 z] 3))).grown hR4.2 (fun g e => HRB.out g e)
     have hU := hT5.put 0 (.slice A5 (k + 1) c5)
     simp only [List.set_cons_zero] at hU
     have hk5 := hk4.set (p := ⟨R, 2, none⟩) rfl (.slice A5 (k + 1) c5)
     have hrow5 := row_set hR4.1 (p := ⟨R, 2, none⟩) (by have := HGR.out.1; simp only; omega) (.slice A5 (k + 1) c5)
     have hW5 : Wd (W4.setCell ⟨R, 2, none⟩ (.slice A5 (k + 1) c5)) g (wd :: ws) := HW0.out.keep (hk5.blk g HGR.out.2.2.1 (fun e => HGR.out.2.1 e.symm))
     constructor
     ·
      refine ⟨k + 1, .slice A5 (k + 1) c5, by omega, by go_num, ?_, hU, hW5, hk5, ?_⟩
      ·
       have e : iv ((List.range (k + 1)).map (Ag.hv ws)) = iv ((List.range k).map (Ag.hv ws)) ++ [.int .i64 z] := by
        rw [List.range_succ]
        simp only [iv, List.map_append, List.map_cons, List.map_nil, HZZ.out]
       rw [e]
       exact hrow5
      intro j hj
      by_cases hjk : j = k
      ·
       subst hjk
       rw [HZZ.out]
       omega
      exact HLW.out j (by omega)
     simp [intOf]; omega
    have di : decide (((k + 1 : Nat) : Int) < (ws.length : Int) + 1) = false := decide_eq_false (by omega)
    have di2 : decide ((k : Int) + 1 < (ws.length : Int) + 1) = false := decide_eq_false (by omega)
    have HZZ : Hid (Ag.hv ws k = 0) := Ag.hv_out (by omega)
    go_upto_region 12 with fail
    have hrow3 := hrow
    have hT3 := hT
    have hk3 := hkp
    have hW3 := hW
    have hs3 := hkp2
    clear hrow hT hkp hW hkp2
    have HRUN : Hid _ := Lib.hid (fun ty => app_int1 wr w2.heap.size ty (.slice AM k cM) k _ hrow3 0 (by omega) hs3)
    have HRB := Lib.hid (row_base hrow3)
    have c2 : wr.cell? ⟨R, 2, none⟩ = some (.slice AM k cM) := hT3.cell 0
    have f2 := hT3.fz 2
    have HK3 := Lib.hid hk3
    have HW3 := Lib.hid hW3
    clear hrow3 hk3 hW3
    go_wp2_with (at_builtin; go_loud (refine wpList_app rfl (.tmp 55) (.tmp 57) 26 rfl _ _ rfl rfl _ HRUN.out ?_); intro v' W4 hR4; obtain ⟨A5, c5, hsl⟩ := row_slice hR4.1; subst hsl; have hT5 := (hT3.keep (lowAlloc wr (Obj.cells #[.int .i64 0] 3))).grown hR4.2 (fun e => by have := HRB.out R e.symm; have := HGR.out.1; omega); have c2 : W4.cell? ⟨R, 2, none⟩ = some (.slice AM k cM) := hT5.cell 0; have f2 := hT5.fz 2)
    have hk4 := (HK3.out.below (lowAlloc wr (Obj.cells #[.int .i64 0] 3))).grown hR4.2 (fun g e => HRB.out g e)
    have hU := hT5.put 0 (.slice A5 (k + 1) c5)
    simp only [List.set_cons_zero] at hU
    have hk5 := hk4.set (p := ⟨R, 2, none⟩) rfl (.slice A5 (k + 1) c5)
    have hrow5 := row_set hR4.1 (p := ⟨R, 2, none⟩) (by have := HGR.out.1; simp only; omega) (.slice A5 (k + 1) c5)
    have hW5 : Wd (W4.setCell ⟨R, 2, none⟩ (.slice A5 (k + 1) c5)) g (wd :: ws) := HW0.out.keep (hk5.blk g HGR.out.2.2.1 (fun e => HGR.out.2.1 e.symm))
    constructor
    ·
     refine ⟨k + 1, .slice A5 (k + 1) c5, by omega, by go_num, ?_, hU, hW5, hk5, ?_⟩
     ·
      have e : iv ((List.range (k + 1)).map (Ag.hv ws)) = iv ((List.range k).map (Ag.hv ws)) ++ [.int .i64 0] := by
       rw [List.range_succ]
       simp only [iv, List.map_append, List.map_cons, List.map_nil, HZZ.out]
      rw [e]
      exact hrow5
     intro j hj
     by_cases hjk : j = k
     ·
      subst hjk
      rw [HZZ.out]
      omega
     exact HLW.out j (by omega)
    simp [intOf]; omega
   obtain rfl : k = 9 := by omega
   obtain ⟨m, hm1, hm2, hm3, hm4, hm5⟩ := Ag.head_ok (ws := ws) (fun j hj => HLW.out j (by omega))
   have hml : m.length ≤ 9 := by omega
   rw [Ag.pad_vals hml hm5] at hrow
   have hnl : (natV (Ag.pad9 m)).length = 9 := by rw [natV_len, Ag.pad_len hml]
   rw [← hnl] at hrow
   obtain ⟨gm, cm, hsl, hgb, hgz, hgc⟩ := row_ints (zs := natV (Ag.pad9 m)) (by rw [hnl] at hrow ⊢; exact hrow) (by omega)
   rw [hnl] at hsl
   injection hsl with e1 e2 e3
   subst e1 e3
   have hMw : Mw wr R gm (Ag.pad9 m) := ⟨Ag.pad_len hml, Ag.pad_low hm4, by have := HGR.out.1; omega, hgz, fun j hj => by
    have := hgc j (by rw [natV_len]; exact hj)
    rw [this]
    simp [natV]⟩
   have hq := fun j hj => hMw.at j hj
   have q0 := (hMw.at 0 (by omega)).1
   have q1 := (hMw.at 1 (by omega)).1
   have q2 := (hMw.at 2 (by omega)).1
   have q4 := (hMw.at 4 (by omega)).1
   have q7 := (hMw.at 7 (by omega)).1
   have b1 := (hMw.at 1 (by omega)).2
   have b2 := (hMw.at 2 (by omega)).2
   have b4 := (hMw.at 4 (by omega)).2
   rw [Ag.pad_ge] at q0 q1 q2 q4 q7 b1 b2 b4
   have HOF : Hid (o = if Ag.ge m 0 = Ag.ge m 1 + Ag.ge m 2 + Ag.ge m 4 ∧ Ag.ge m 7 = 0 then some (m, r) else none) := by
    unfold Hid
    rw [HO2.out, if_pos ⟨HWD.out, by omega, by omega⟩, hm1]
    simp only
    by_cases hc : Ag.ge m 0 = Ag.ge m 1 + Ag.ge m 2 + Ag.ge m 4 ∧ Ag.ge m 7 = 0
    ·
     rw [if_pos ⟨hm4, hc⟩, if_pos hc]
    rw [if_neg (fun h => hc h.2), if_neg hc]
   have hkt := HK2.out.trans hkp
   have c2 : wr.cell? ⟨R, 2, none⟩ = some (.slice (some ⟨gm, 0, none⟩) 9 cM) := hT.cell 0
   have c3 : wr.cell? ⟨R, 3, none⟩ = some (.int .i64 0) := hT.cell 1
   have f3 := hT.fz 3
   have HMW := Lib.hid hMw
   have HG9 : Hid (w.heap.size ≤ gm) := by
    have := HGR.out.2.2.2
    unfold Hid
    omega
   clear hq hMw hgc hrow hm1 hm2 hm3 hm4 hm5 hgb hgz hnl hml hW
   go_upto_region 14 with fail
   have hU := hT.put 1 (.int .i64 (Ag.ge m 1 : Int))
   simp only [List.set_cons_succ, List.set_cons_zero] at hU
   have hk5 := hkt.set (p := ⟨R, 3, none⟩) rfl (.int .i64 (Ag.ge m 1 : Int))
   have hM5 := HMW.out.keep ((RKeep.refl R wr).set (p := ⟨R, 3, none⟩) rfl (.int .i64 (Ag.ge m 1 : Int)))
   have hgne := HMW.out.ne
   clear c2 c3 f3 hT hkt q0 q1 q2 q4 q7
   have q0 := (hM5.at 0 (by omega)).1
   have q1 := (hM5.at 1 (by omega)).1
   have q2 := (hM5.at 2 (by omega)).1
   have q4 := (hM5.at 4 (by omega)).1
   have q7 := (hM5.at 7 (by omega)).1
   rw [Ag.pad_ge] at q0 q1 q2 q4 q7
   have HM5 := Lib.hid hM5
   have HK5 := Lib.hid hk5
   have HU5 := Lib.hid hU
   have c2 : (wr.setCell ⟨R, 3, none⟩ (.int .i64 (Ag.ge m 1 : Int))).cell? ⟨R, 2, none⟩ = some (.slice (some ⟨gm, 0, none⟩) 9 cM) := hU.cell 0
   clear hM5 hk5 hU
   generalize wr.setCell ⟨R, 3, none⟩ (.int .i64 (Ag.ge m 1 : Int)) = W5 at *
   by_cases hA : Ag.ge m 0 = Ag.ge m 1 + Ag.ge m 2 + Ag.ge m 4
   ·
    have dA : ((Ag.ge m 0 : Int) == (Ag.ge m 1 : Int) + (Ag.ge m 2 : Int) + (Ag.ge m 4 : Int)) = true := by simp; omega
    by_cases hB : Ag.ge m 7 = 0
    ·
     have dB : ((Ag.ge m 7 : Int) == 0) = true := by simp [hB]
     have HE : Hid (o = some (m, r)) := HOF.out.trans (if_pos ⟨hA, hB⟩)
     clear hA hB
     go_wp2
     go_quiet (fail)
     go_wp2
     go_ret
     refine ⟨?_, ?_⟩
     ·
      first | exact HK5.out | exact HK5.out.below (below_drewN (Below.refl _ _) _)
     rw [HE.out]
     refine ⟨rfl, HRL.out, gm, cM, ?_, ?_, HG9.out⟩
     ·
      first | exact HU5.out | exact HU5.out.keep (below_drewN (Below.refl _ _) _)
     first | exact HM5.out | exact HM5.out.keep ((RKeep.refl R _).below (below_drewN (Below.refl _ _) _))
    have dB : ((Ag.ge m 7 : Int) == 0) = false := by simp; omega
    have HE : Hid (o = none) := HOF.out.trans (if_neg (fun h => hB h.2))
    clear hA hB
    go_wp2
    go_quiet (fail)
    go_wp2
    go_ret
    refine ⟨?_, by rw [HE.out]; rfl⟩
    first | exact HK5.out | exact HK5.out.below (below_drewN (Below.refl _ _) _)
   have dA : ((Ag.ge m 0 : Int) == (Ag.ge m 1 : Int) + (Ag.ge m 2 : Int) + (Ag.ge m 4 : Int)) = false := by simp; omega
   have HE : Hid (o = none) := HOF.out.trans (if_neg (fun h => hA h.1))
   clear hA
   go_wp2
   go_quiet (fail)
   go_wp2
   go_ret
   refine ⟨?_, by rw [HE.out]; rfl⟩
   first | exact HK5.out | exact HK5.out.below (below_drewN (Below.refl _ _) _)
  have he : ((bsv wd).toList == (bsv word).toList) = false := by rw [bsv_eq]; simp [hwd]
  have HE : Hid (o = none) := HO2.out.trans (if_neg (fun h => hwd h.1))
  clear hwd
  go_wp2
  go_ret
  exact ⟨hk2, by rw [HE.out]; rfl⟩
end Go.Proofs.YtpejilhdhkmcjaaGreatDoor
