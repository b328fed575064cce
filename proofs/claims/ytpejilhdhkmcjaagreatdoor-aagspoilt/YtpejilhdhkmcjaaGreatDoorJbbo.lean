/- The document's reader of texts: names. -/
import Derived.Test.YtpejilhdhkmcjaaGreatDoorJbAl
import Derived.Test.YtpejilhdhkmcjaaGreatDoorJbbn
namespace Go.Proofs.YtpejilhdhkmcjaaGreatDoor
open Go.RowKit

theorem row_lt {w : World} {base : Nat} {e : TypeId} {size : Nat} {v : Value} {n : Nat} {xs : List Value} (h : w.ownsRow base e size v n xs) : ∀ k, v.ownBlock = some k → k < w.heap.size := by
 intro k hk
 rcases h.2 with ⟨rfl, _⟩ | ⟨g, cap, cur, rfl, _, hh, _⟩
 ·
  cases hk
 injection hk with hk
 subst hk
 exact Blk.lt (t := e) hh
def tleft (w : World) (R : Nat) : Nat := match w.cell? ⟨R, 0, none⟩ with | some (.string b) => b.size | _ => 0
theorem TK.leftLen {w : World} {R : Nat} {s : Ag.Bs} {bad : Bool} {cs : List Value} (h : TK w R s bad cs) : tleft w R = s.length := by
 unfold tleft
 rw [h.c0]
 exact bsv_size s
namespace Ag
def nmM (xs : List Nm) (o : Option (List Nm)) : Option (List Nm) := match o with | none => none | some ys => some (xs ++ ys)
theorem nm_step (xs : List Nm) (f : Nat) (s : Bs) (hs : s ≠ []) : nmM xs (namesF (f + 1) s) = match lineS s with
  | none => none
  | some (l, r) => if l = [99] then some xs else match nameS l with | none => none | some x => nmM (xs ++ [x]) (namesF f r) := by
 rw [namesF, if_neg hs]
 cases lineS s with
 | none => rfl
 | some q =>
  obtain ⟨l, r⟩ := q
  simp only
  by_cases hl : l = [99]
  ·
   rw [if_pos hl, if_pos hl]
   simp [nmM]
  rw [if_neg hl, if_neg hl]
  cases nameS l with
  | none => rfl
  | some x =>
   simp only
   cases namesF f r with
   | none => rfl
   | some ys => simp [nmM]
theorem nm_end (xs : List Nm) (f : Nat) : nmM xs (namesF f []) = some xs := by
 cases f with
 | zero => simp [namesF, nmM]
 | succ f => simp [namesF, nmM]
theorem name_two {l : Bs} (h : (wordsS l).length ≠ 2) : nameS l = none := by
 unfold nameS
 match hw : wordsS l with
 | [] => rfl
 | [a] => cases a <;> rfl
 | [k :: ds, tx] => rw [hw] at h; simp at h
 | [[], tx] => rfl
 | (a :: b :: c :: t) => cases a <;> rfl
def nameW (a b : Bs) : Option Nm := match a with | k :: ds => (match digL ds with | some n => some ((k.toNat : Int), (n : Int), ⟨b.toArray⟩) | none => none) | [] => none
theorem name_word {l a b : Bs} (h : wordsS l = [a, b]) : nameS l = nameW a b := by
 unfold nameS nameW
 rw [h]
 cases a with
 | nil => rfl
 | cons k ds => rfl
end Ag
/-- Names are small. -/
def NmOk (x : Nm) : Prop := (0 ≤ x.1 ∧ x.1 ≤ 255) ∧ (0 ≤ x.2.1 ∧ x.2.1 ≤ 999999) ∧ x.2.2.size ≤ 40000
/-- Names are taken, or the mark is set. -/
def TNamesP (R : Nat) (s : Ag.Bs) (x0 x1 x2 x3 x4 x5 x6 x7 : Value) (w : World) (o : Option (List Nm)) (e : Ending) (w' : World) : Prop :=
 ∃ vN xs s' b', e = .returned (.tuple #[]) ∧ RKeep R w w' ∧ w'.ownsRow w.heap.size 69 3 vN xs.length (flatN xs) ∧ xs.length ≤ s.length ∧ (∀ x ∈ xs, NmOk x) ∧ TK w' R s' b' [x0, x1, x2, x3, x4, x5, x6, x7, vN] ∧ o = if b' = true then none else some xs
theorem flatN_snoc (ns : List Nm) (k a : Int) (t : ByteArray) : flatN (ns ++ [(k, a, t)]) = flatN ns ++ [.int .u8 k, .int .i64 a, .string t] := by
 rw [flatN_append]
 rfl
set_option maxRecDepth 10000 in
set_option maxHeartbeats 8000000 in
theorem tnames_any (R : Nat) (s : Ag.Bs) (bad : Bool) (x0 x1 x2 x3 x4 x5 x6 x7 : Value) (w : World) (h : TK w R s bad [x0, x1, x2, x3, x4, x5, x6, x7, (.slice none 0 0)]) (hs : s.length ≤ 40000) :
  Calls Tryz.prog 46 #[.pointer (some ⟨R, 0, none⟩)] w (TNamesP R s x0 x1 x2 x3 x4 x5 x6 x7 w (if bad = true then none else Ag.namesF s.length s)) := by
 have HRZ : Hid (R < w.heap.size) := h.lt
 obtain ⟨o, ho⟩ : ∃ o, o = (if bad = true then none else Ag.namesF s.length s) := ⟨_, rfl⟩
 rw [← ho]
 have HO0 : Hid (o = if bad = true then none else Ag.nmM [] (Ag.namesF s.length s)) := by
  unfold Hid
  rw [ho]
  cases Ag.namesF s.length s <;> rfl
 clear ho
 have HSL := Lib.hid hs
 clear hs
 go_enter Tryz.func46, Tryz.ntmps46
 go_wp2
 go_loopw [2, 3] (fun _ _ wr => ∃ (xs : List Nm) (vN : Value) (f : Nat) (s' : Ag.Bs) (b : Bool), s'.length ≤ f ∧ xs.length + s'.length ≤ s.length ∧ (o = if b = true then none else Ag.nmM xs (Ag.namesF f s')) ∧ (∀ x ∈ xs, NmOk x) ∧ wr.ownsRow w.heap.size 69 3 vN xs.length (flatN xs) ∧ TK wr R s' b [x0, x1, x2, x3, x4, x5, x6, x7, vN] ∧ RKeep R w wr) (fun _ _ wr => tleft wr R)
 case atStart => exact ⟨[], _, s.length, s, bad, Nat.le_refl _, by simp, HO0.out, by simp, World.ownsRow_nil w _ _ _, h, RKeep.refl _ _⟩
 clear h
 obtain ⟨xs, vN, f, s', b, hf, hl, ho, hx, hrow, hT, hk⟩ := hrel
 have HF := Lib.hid hf
 have HL2 := Lib.hid hl
 have HO := Lib.hid ho
 have HX := Lib.hid hx
 have HLL := Lib.hid hT.leftLen
 clear hf hl ho hx
 have c0 := hT.c0
 have c1 := hT.c1
 have hz := bsv_size s'
 by_cases hse : s' = []
 ·
  subst hse
  have hem : (bsv []).toList = [] := by rw [Lib.toList_data]; rfl
  have hb : ((bsv []).toList == (⟨#[]⟩ : ByteArray).toList) = true := by rw [show (⟨#[]⟩ : ByteArray) = bsv [] from rfl, bsv_eq]; simp
  have HE : Hid (o = if b = true then none else some xs) := by
   unfold Hid
   rw [HO.out, Ag.nm_end]
  go_wp2
  go_end0
  exact ⟨_, xs, [], b, rfl, hk, hrow, by have := HL2.out; omega, HX.out, hT, HE.out⟩
 have hem : ¬ (bsv s').toList = [] := by rw [Lib.toList_data]; exact hse
 have hem2 : (bsv s').toList.isEmpty = false := by
  cases he : (bsv s').toList with
  | nil => exact absurd he hem
  | cons a t => rfl
 have hb : ((bsv s').toList == (⟨#[]⟩ : ByteArray).toList) = false := by rw [show (⟨#[]⟩ : ByteArray) = bsv [] from rfl, bsv_eq]; simp [hse]
 cases b with
 | true =>
  have HE : Hid (o = none) := HO.out
  go_wp2
  go_end0
  exact ⟨_, xs, s', true, rfl, hk, hrow, by have := HL2.out; omega, HX.out, hT, HE.out⟩
 | false =>
  obtain ⟨f', rfl⟩ : ∃ f', f = f' + 1 := ⟨f - 1, by
   have := HF.out
   have : 0 < s'.length := by cases s' with | nil => exact absurd rfl hse | cons a t => simp
   omega⟩
  have HON : Hid (o = match Ag.lineS s' with
    | none => none
    | some (l, r) => if l = [99] then some xs else match Ag.nameS l with | none => none | some x => Ag.nmM (xs ++ [x]) (Ag.namesF f' r)) := by
   unfold Hid
   rw [HO.out, ← Ag.nm_step xs f' s' hse]
   rfl
  have HLN := Lib.hid (tline_any R s' false _ wr hT (by have := HL2.out; have := HSL.out; omega))
  clear hse HO
  go_wp2_with fail
  refine HLN.out.mono ?_
  intro e w1 hP
  unfold TLineP at hP
  clear c0 c1 hb hem hem2
  cases hli : Ag.lineS s' with
  | none =>
   rw [hli] at hP HON
   obtain ⟨rfl, hT1, hk1⟩ := hP
   have HE : Hid (o = none) := HON.out
   have hb : ((bsv []).toList == (⟨#[99]⟩ : ByteArray).toList) = false := by rw [show (⟨#[99]⟩ : ByteArray) = bsv [99] from rfl, bsv_eq]; simp
   have hem : (bsv []).toList = [] := by rw [Lib.toList_data]; rfl
   have hrow1 := row_kept hrow hk1 HRZ.out
   have hkt := hk.trans hk1
   clear HLN HON hli hrow hk hk1 hT
   go_wp2_with fail
   refine (twords_any [] w1 (by simp)).mono ?_
   rintro e w2 ⟨vw, rfl, hrw, lo⟩
   obtain ⟨A9, c9, hsl⟩ := row_slice hrw
   subst hsl
   have hT2 := hT1.keep lo
   have c1 := hT2.c1
   have f1 := hT2.fz 1
   have hT3 := hT2.mark true
   have hrow3 := row_set (row_low hrow1 lo) (p := ⟨R, 1, none⟩) (by have := HRZ.out; simp only; omega) (.bool true)
   have hk3 := (hkt.below lo).set (p := ⟨R, 1, none⟩) rfl (.bool true)
   clear hrw hT1 hT2 hrow1 hkt
   go_wp2
   go_end0
   exact ⟨_, xs, s', true, rfl, hk3, hrow3, by have := HL2.out; omega, HX.out, hT3, HE.out⟩
  | some q =>
   obtain ⟨l, r⟩ := q
   rw [hli] at hP HON
   obtain ⟨rfl, hT1, hk1⟩ := hP
   have hll := congrArg List.length (Ag.line_some hli).1
   simp at hll
   have hrow1 := row_kept hrow hk1 HRZ.out
   have hkt := hk.trans hk1
   have HLE : Hid (s'.length = l.length + (r.length + 1)) := by unfold Hid; omega
   clear HLN hli hrow hk hk1 hT hll
   by_cases h99 : l = [99]
   ·
    have hb : ((bsv l).toList == (⟨#[99]⟩ : ByteArray).toList) = true := by rw [show (⟨#[99]⟩ : ByteArray) = bsv [99] from rfl, bsv_eq]; simp [h99]
    have HE : Hid (o = some xs) := HON.out.trans (if_pos h99)
    have hem : (bsv l).toList = [99] := by rw [Lib.toList_data]; exact h99
    clear h99
    go_wp2
    go_end0
    exact ⟨_, xs, r, false, rfl, hkt, hrow1, by have := HL2.out; omega, HX.out, hT1, HE.out⟩
   have hb : ((bsv l).toList == (⟨#[99]⟩ : ByteArray).toList) = false := by rw [show (⟨#[99]⟩ : ByteArray) = bsv [99] from rfl, bsv_eq]; simp [h99]
   have hem : ¬ (bsv l).toList = [99] := by rw [Lib.toList_data]; exact h99
   have hem2 : ((bsv l).toList == [99]) = false := by
    cases he : ((bsv l).toList == [99]) with
    | false => rfl
    | true => exact absurd (by simpa using he) hem
   have HO2 : Hid (o = match Ag.nameS l with | none => none | some x => Ag.nmM (xs ++ [x]) (Ag.namesF f' r)) := HON.out.trans (if_neg h99)
   clear h99 HON
   go_wp2_with fail
   refine (twords_any l w1 (by have := HLE.out; have := HL2.out; have := HSL.out; omega)).mono ?_
   rintro e w2 ⟨vw, rfl, hrw, lo⟩
   obtain ⟨g, cw, rfl, hg0, hg1, hW⟩ := row_words hrw (Ag.words_ne l)
   have hT2 := hT1.keep lo
   have HOB : Hid (∀ k, vN.ownBlock = some k → k < g) := fun k hk => Nat.lt_of_lt_of_le (row_lt hrow1 k hk) hg0
   have HGW : Hid (w.heap.size ≤ g) := Nat.le_trans hkt.size hg0
   have hrow2 := row_low hrow1 lo
   have hk2 := hkt.below lo
   have HGR : Hid (R ≠ g ∧ g < w2.heap.size) := by
    have := hT1.lt
    exact ⟨by omega, hg1⟩
   have hwl := words_len l
   have HWX := Lib.hid (word_le l)
   have c1 := hT2.c1
   have f1 := hT2.fz 1
   have HBAD : Hid (TK (w2.setCell ⟨R, 1, none⟩ (.bool true)) R r true [x0, x1, x2, x3, x4, x5, x6, x7, vN] ∧ (w2.setCell ⟨R, 1, none⟩ (.bool true)).ownsRow w.heap.size 69 3 vN xs.length (flatN xs) ∧ RKeep R w (w2.setCell ⟨R, 1, none⟩ (.bool true))) :=
    ⟨hT2.mark true, row_set hrow2 (p := ⟨R, 1, none⟩) (by have := HRZ.out; simp only; omega) (.bool true), hk2.set (p := ⟨R, 1, none⟩) rfl (.bool true)⟩
   clear hrw hrow1 hkt hg0 hg1 hT1
   by_cases h2 : (Ag.wordsS l).length = 2
   ·
    obtain ⟨wa, wb, hab⟩ : ∃ wa wb, Ag.wordsS l = [wa, wb] := by
     match hw : Ag.wordsS l, h2 with
     | [a, b], _ => exact ⟨a, b, rfl⟩
    have HNM := Lib.hid (Ag.name_word hab)
    rw [hab] at hW HWX
    rw [h2]
    have ca : w2.cell? ⟨g, 0, none⟩ = some (.string (bsv wa)) := hW 0 (by simp)
    have cb : w2.cell? ⟨g, 1, none⟩ = some (.string (bsv wb)) := hW 1 (by simp)
    have hza := bsv_size wa
    have hix0 : ∀ W, (Instr.indexAt 70 (.slice (some ⟨g, 0, none⟩) 2 cw) (.int .i64 0)).run Tryz.prog W = .ok (.pointer (some ⟨g, 0, none⟩)) W := fun W => ixWd g 2 cw 0 (by omega) (by omega) W
    have hix1 : ∀ W, (Instr.indexAt 70 (.slice (some ⟨g, 0, none⟩) 2 cw) (.int .i64 1)).run Tryz.prog W = .ok (.pointer (some ⟨g, 1, none⟩)) W := fun W => ixWd g 2 cw 1 (by omega) (by omega) W
    have hla : wa.length ≤ l.length := HWX.out wa (by simp)
    have hlb : wb.length ≤ l.length := HWX.out wb (by simp)
    have HLA := Lib.hid hla
    have HLB := Lib.hid hlb
    clear hab h2 hwl hla hlb hW
    rcases wa with _ | ⟨kb, _ | ⟨d0, dr⟩⟩
    ·
     have dl : decide (((bsv []).size : Int) < 2) = true := by rw [hza]; decide
     have HE : Hid (o = none) := by
      unfold Hid
      rw [HO2.out, HNM.out]
      rfl
     obtain ⟨p1, p2, p3⟩ := HBAD.out
     go_wp2
     go_end0
     exact ⟨_, xs, r, true, rfl, p3, p2, by have := HL2.out; omega, HX.out, p1, HE.out⟩
    ·
     have dl : decide (((bsv [kb]).size : Int) < 2) = true := by rw [hza]; simp
     have HE : Hid (o = none) := by
      unfold Hid
      rw [HO2.out, HNM.out]
      rfl
     obtain ⟨p1, p2, p3⟩ := HBAD.out
     go_wp2
     go_end0
     exact ⟨_, xs, r, true, rfl, p3, p2, by have := HL2.out; omega, HX.out, p1, HE.out⟩
    have dl : decide (((bsv (kb :: d0 :: dr)).size : Int) < 2) = false := by rw [hza]; simp; omega
    have hsl1 : ∀ W, (Instr.slice 9 (.string (bsv (kb :: d0 :: dr))) (some (.int .i64 1)) none none).run Tryz.prog W = .ok (.string (bsv (d0 :: dr))) W := fun W => sl_bsv (kb :: d0 :: dr) 1 (by simp) W
    have hib : ∀ W, (Instr.index 9 (.string (bsv (kb :: d0 :: dr))) (.int .i64 0)).run Tryz.prog W = .ok (.int .u8 ((kb).toNat : Int)) W := fun W => ix_bsv (kb :: d0 :: dr) 0 (by simp) W
    have HNB := Lib.hid (fun W => Number_any (bsv (d0 :: dr)) W (by rw [bsv_size]; have := HLA.out; have := HLE.out; have := HL2.out; have := HSL.out; simp at *; unfold maxLen; omega))
    rw [refNum_bsv] at HNB
    have HZD : Hid (Ag.refN (d0 :: dr) < 0 → Ag.nameS l = none) := by
     intro hz
     rw [HNM.out]
     unfold Ag.nameW
     simp only
     unfold Ag.refN at hz
     cases hd : Ag.digL (d0 :: dr) with
     | none => rfl
     | some n => rw [hd] at hz; simp only at hz; omega
    have HZS : Hid (¬ Ag.refN (d0 :: dr) < 0 → Ag.nameS l = some ((kb.toNat : Int), Ag.refN (d0 :: dr), ⟨wb.toArray⟩)) := by
     intro hz
     rw [HNM.out]
     unfold Ag.nameW
     simp only
     unfold Ag.refN at hz ⊢
     cases hd : Ag.digL (d0 :: dr) with
     | none => rw [hd] at hz; simp only at hz; omega
     | some n => rfl
    have HZL := Lib.hid (Ag.refN_low (d0 :: dr))
    have HKB : Hid ((kb.toNat : Int) ≤ 255) := by
     have := kb.toNat_lt
     unfold Hid
     omega
    generalize Ag.refN (d0 :: dr) = z at *
    generalize bsv (kb :: d0 :: dr) = ta at *
    generalize bsv (d0 :: dr) = td at *
    have HKN : Hid (0 ≤ (kb.toNat : Int)) := by unfold Hid; omega
    generalize (kb.toNat : Int) = kz at *
    clear HNM hza
    go_wp2_with fail
    refine (HNB.out _).mono ?_
    rintro e w3 ⟨rfl, rfl⟩
    by_cases hz : z < 0
    ·
     have dz : decide (z < 0) = true := decide_eq_true hz
     have HE : Hid (o = none) := by
      unfold Hid
      rw [HO2.out, HZD.out hz]
     obtain ⟨p1, p2, p3⟩ := HBAD.out
     go_wp2
     go_end0
     exact ⟨_, xs, r, true, rfl, p3, p2, by have := HL2.out; omega, HX.out, p1, HE.out⟩
    have dz : decide (z < 0) = false := decide_eq_false hz
    have HON : Hid (o = Ag.nmM (xs ++ [(kz, z, (⟨wb.toArray⟩ : ByteArray))]) (Ag.namesF f' r)) := by
     unfold Hid
     rw [HO2.out, HZS.out (by first | exact hz | omega)]
    go_upto_region 6 with fail
    clear HZD HZS HBAD HO2 dz dl
    have HSW : Hid (∀ V : World, (∀ b, b < w2.heap.size → b ≠ R → some b ≠ vN.ownBlock → V.heap[b]? = w2.heap[b]?) → (fun V : World => V.cell? ⟨g, 0, none⟩ = some (.string ta) ∧ V.cell? ⟨g, 1, none⟩ = some (.string (bsv wb))) V) := by
     intro V hV
     have hbk := hV g HGR.out.2 (fun e => HGR.out.1 e.symm) (fun e => by have := HOB.out g e.symm; omega)
     exact ⟨(World.cell?_of_block (w := w2) (a := ⟨g, 0, none⟩) hbk).trans ca, (World.cell?_of_block (w := w2) (a := ⟨g, 1, none⟩) hbk).trans cb⟩
    obtain ⟨AN, cN, hsl⟩ := row_slice hrow2
    subst hsl
    have c10 : w2.drew.cell? ⟨R, 10, none⟩ = some (.slice AN xs.length cN) := hT2.cell 8
    have HB0 : Hid (∀ b, b < w2.heap.size → b ≠ R → some b ≠ (Value.slice AN xs.length cN).ownBlock → w2.drew.heap[b]? = w2.heap[b]?) := fun _ _ _ _ => rfl
    clear ca cb c1 f1
    refine wp_region_held_drew (S := (fun V : World => V.cell? ⟨g, 0, none⟩ = some (.string ta) ∧ V.cell? ⟨g, 1, none⟩ = some (.string (bsv wb)))) (by kernel_rfl) (HSW.out _ HB0.out) (fun hHeld => ?_)
    refine zT 0 ⟨some 49, _, _, _, _, _⟩ ?_ rfl (by kernel_rfl) (fun _ _ _ h => h) (by rfl) hHeld ?_ ?_
    rotate_left
    ·
     rintro w ⟨s0, s1⟩
     first | (go_simp; done) | (go_simp; with_reducible rfl) | with_reducible rfl
    try simp only [Act.put, zA, zB, zC]
    refine zT 1 ⟨some 50, _, _, _, _, _⟩ ?_ rfl (by kernel_rfl) (fun _ _ _ h => h) (by rfl) hHeld ?_ ?_
    rotate_left
    ·
     rintro w ⟨s0, s1⟩
     first | (go_simp; done) | (go_simp; with_reducible rfl) | with_reducible rfl
    try simp only [Act.put, zA, zB, zC]
    refine zT 2 ⟨some 51, _, _, _, _, _⟩ ?_ rfl (by kernel_rfl) (fun _ _ _ h => h) (by rfl) hHeld ?_ ?_
    rotate_left
    ·
     rintro w ⟨s0, s1⟩
     first | (go_simp; done) | (go_simp; with_reducible rfl) | with_reducible rfl
    try simp only [Act.put, zA, zB, zC]
    refine zT 3 ⟨some 52, _, _, _, _, _⟩ ?_ rfl (by kernel_rfl) (fun _ _ _ h => h) (by rfl) hHeld ?_ ?_
    rotate_left
    ·
     rintro w ⟨s0, s1⟩
     first | (go_simp; done) | (go_simp; with_reducible rfl) | with_reducible rfl
    try simp only [Act.put, zA, zB, zC]
    refine zT 4 ⟨some 53, _, _, _, _, _⟩ ?_ rfl (by kernel_rfl) (fun _ _ _ h => h) (by rfl) hHeld ?_ ?_
    rotate_left
    ·
     rintro w ⟨s0, s1⟩
     first | (go_simp; done) | (go_simp; with_reducible rfl) | with_reducible rfl
    try simp only [Act.put, zA, zB, zC]
    refine zT 6 ⟨some 55, _, _, _, _, _⟩ ?_ rfl (by kernel_rfl) (fun _ _ _ h => h) (by rfl) hHeld ?_ ?_
    rotate_left
    ·
     rintro w ⟨s0, s1⟩
     first | (go_simp; done) | (go_simp; with_reducible rfl) | with_reducible rfl
    try simp only [Act.put, zA, zB, zC]
    refine zT 7 ⟨some 56, _, _, _, _, _⟩ ?_ rfl (by kernel_rfl) (fun _ _ _ h => h) (by rfl) hHeld ?_ ?_
    rotate_left
    ·
     rintro w ⟨s0, s1⟩
     first | (go_simp; done) | (go_simp; with_reducible rfl) | with_reducible rfl
    try simp only [Act.put, zA, zB, zC]
    refine zT 8 ⟨some 57, _, _, _, _, _⟩ ?_ rfl (by kernel_rfl) (fun _ _ _ h => h) (by rfl) hHeld ?_ ?_
    rotate_left
    ·
     rintro w ⟨s0, s1⟩
     first | (go_simp; done) | (go_simp; with_reducible rfl) | with_reducible rfl
    try simp only [Act.put, zA, zB, zC]
    refine zT 9 ⟨some 58, _, _, _, _, _⟩ ?_ rfl (by kernel_rfl) (fun _ _ _ h => h) (by rfl) hHeld ?_ ?_
    rotate_left
    ·
     rintro w ⟨s0, s1⟩
     first | (go_simp; done) | (go_simp; with_reducible rfl) | with_reducible rfl
    try simp only [Act.put, zA, zB, zC]
    refine zT 10 ⟨some 59, _, _, _, _, _⟩ ?_ rfl (by kernel_rfl) (fun _ _ _ h => h) (by rfl) hHeld ?_ ?_
    rotate_left
    ·
     rintro w ⟨s0, s1⟩
     first | (go_simp; done) | (go_simp; with_reducible rfl) | with_reducible rfl
    try simp only [Act.put, zA, zB, zC]
    refine zT 11 ⟨some 60, _, _, _, _, _⟩ ?_ rfl (by kernel_rfl) (fun _ _ _ h => h) (by rfl) hHeld ?_ ?_
    rotate_left
    ·
     rintro w ⟨s0, s1⟩
     first | (go_simp; done) | (go_simp; with_reducible rfl) | with_reducible rfl
    try simp only [Act.put, zA, zB, zC]
    refine zT 12 ⟨some 61, _, _, _, _, _⟩ ?_ rfl (by kernel_rfl) (fun _ _ _ h => h) (by rfl) hHeld ?_ ?_
    rotate_left
    ·
     rintro w ⟨s0, s1⟩
     first | (go_simp; done) | (go_simp; with_reducible rfl) | with_reducible rfl
    try simp only [Act.put, zA, zB, zC]
    refine zT 13 ⟨some 62, _, _, _, _, _⟩ ?_ rfl (by kernel_rfl) (fun _ _ _ h => h) (by rfl) hHeld ?_ ?_
    rotate_left
    ·
     rintro w ⟨s0, s1⟩
     first | (go_simp; done) | (go_simp; with_reducible rfl) | with_reducible rfl
    try simp only [Act.put, zA, zB, zC]
    refine zT 15 ⟨some 64, _, _, _, _, _⟩ ?_ rfl (by kernel_rfl) (fun _ _ _ h => h) (by rfl) hHeld ?_ ?_
    rotate_left
    ·
     rintro w ⟨s0, s1⟩
     first | (go_simp; done) | (go_simp; with_reducible rfl) | with_reducible rfl
    try simp only [Act.put, zA, zB, zC]
    refine zT 16 ⟨some 65, _, _, _, _, _⟩ ?_ rfl (by kernel_rfl) (fun _ _ _ h => h) (by rfl) hHeld ?_ ?_
    rotate_left
    ·
     rintro w ⟨s0, s1⟩
     first | (go_simp; done) | (go_simp; with_reducible rfl) | with_reducible rfl
    try simp only [Act.put, zA, zB, zC]
    refine zT 17 ⟨some 66, _, _, _, _, _⟩ ?_ rfl (by kernel_rfl) (fun _ _ _ h => h) (by rfl) hHeld ?_ ?_
    rotate_left
    ·
     rintro w ⟨s0, s1⟩
     first | (go_simp; done) | (go_simp; with_reducible rfl) | with_reducible rfl
    try simp only [Act.put, zA, zB, zC]
    refine wpAnyH_ready (rs := [5, 14]) (by kernel_rfl) (by simp) ?_
    refine (AllReadyH.cons (o := ⟨some 54, _, _, _, _, _⟩) rfl (fun K hK => ?_) (AllReadyH.cons (o := ⟨some 63, _, _, _, _, _⟩) rfl (fun K hK => ?_) AllReadyH.nil))
    ·
     go_simp
     refine hK.out _ _ ?_ (fun hHeld => ?_)
     ·
      exact HSW.out _ HB0.out
     clear hK K
     try simp only [Act.put, zA, zB, zC]
     refine wpAnyH_ready (rs := [14]) (by kernel_rfl) (by simp) ?_
     refine AllReadyH.cons (o := ⟨some 63, _, _, _, _, _⟩) rfl (fun K hK => ?_) AllReadyH.nil
     go_simp
     refine (HNB.out _).mono ?_
     rintro e wz ⟨rfl, rfl⟩
     refine hK.out _ _ ?_ (fun hHeld => ?_)
     ·
      exact HSW.out _ HB0.out
     clear hK K
     try simp only [Act.put, zA, zB, zC]
     refine zT 18 ⟨some 67, _, _, _, _, _⟩ ?_ rfl (by kernel_rfl) (fun _ _ _ h => h) (by rfl) hHeld ?_ ?_
     rotate_left
     ·
      rintro w ⟨s0, s1⟩
      first | (go_simp; done) | (go_simp; with_reducible rfl) | with_reducible rfl
     try simp only [Act.put, zA, zB, zC]
     refine wpAnyH_ready (rs := [19]) (by kernel_rfl) (by simp) ?_
     refine AllReadyH.cons (o := ⟨some 68, _, _, _, _, _⟩) rfl (fun K hK => ?_) AllReadyH.nil
     go_simp
     have hlow := lowAlloc w2 (Obj.cells #[.int .u8 kz, .int .i64 z, .string (bsv wb)] 69)
     have hbk := Blk.new w2 69 #[.int .u8 kz, .int .i64 z, .string (bsv wb)]
     have hT4 : TK (w2.alloc (Obj.cells #[.int .u8 kz, .int .i64 z, .string (bsv wb)] 69)).drew R r false [x0, x1, x2, x3, x4, x5, x6, x7, .slice AN xs.length cN] := hT2.keep hlow.drew
     have hrow4 : World.ownsRow (w2.alloc (Obj.cells #[.int .u8 kz, .int .i64 z, .string (bsv wb)] 69)).drew w.heap.size 69 3 (.slice AN xs.length cN) xs.length (flatN xs) := World.ownsRow.alloc hrow2 (Obj.cells #[.int .u8 kz, .int .i64 z, .string (bsv wb)] 69)
     have hk4 : RKeep R w (w2.alloc (Obj.cells #[.int .u8 kz, .int .i64 z, .string (bsv wb)] 69)).drew := (fun (k : RKeep R w (w2.alloc (Obj.cells #[.int .u8 kz, .int .i64 z, .string (bsv wb)] 69))) => ⟨k.os, k.tape, k.output, k.size, k.blk⟩) (hk2.below hlow)
     have HB4 : Hid (∀ b, b < w2.heap.size → b ≠ R → some b ≠ (Value.slice AN xs.length cN).ownBlock → (w2.alloc (Obj.cells #[.int .u8 kz, .int .i64 z, .string (bsv wb)] 69)).drew.heap[b]? = w2.heap[b]?) := fun b hb _ _ => hlow.block b hb
     have c10 : (w2.alloc (Obj.cells #[.int .u8 kz, .int .i64 z, .string (bsv wb)] 69)).drew.cell? ⟨R, 10, none⟩ = some (.slice AN xs.length cN) := hT4.cell 8
     refine hK.out _ _ ?_ (fun hHeld => ?_)
     ·
      exact HSW.out _ HB4.out
     clear hK K
     try simp only [Act.put, zA, zB, zC]
     refine wpAnyH_ready (rs := [20]) (by kernel_rfl) (by simp) ?_
     refine AllReadyH.cons (o := ⟨some 69, _, _, _, _, _⟩) rfl (fun K hK => ?_) AllReadyH.nil
     rw [if_pos (by rfl)]
     refine oper_app (.tmp 54) (.tmp 68) 27 rfl (.slice AN xs.length cN) (.slice (some ⟨w2.heap.size, 0, none⟩) 1 1) rfl rfl (fun v' w' => w'.ownsRow w.heap.size 69 3 v' (xs.length + 1) (flatN xs ++ [.int .u8 kz, .int .i64 z, .string (bsv wb)]) ∧ (w2.alloc (Obj.cells #[.int .u8 kz, .int .i64 z, .string (bsv wb)] 69)).drew.grownBy w' (Value.slice AN xs.length cN).ownBlock) (fun ty => (by obtain ⟨v', w', r1, r2, r3, _⟩ := app_name (w2.alloc (Obj.cells #[.int .u8 kz, .int .i64 z, .string (bsv wb)] 69)).drew w.heap.size ty (.slice AN xs.length cN) xs.length _ hrow4 w2.heap.size 1 kz z (bsv wb) hbk (by have := HL2.out; have := HSL.out; omega) (by have := hk2.size; simp; omega); exact ⟨v', w', r1, r2, r3⟩)) ?_
     intro v' w10 hR10
     obtain ⟨AL, cL, rfl⟩ := row_slice hR10.1
     have HRB := Lib.hid (row_base hrow4)
     have hT5 : TK w10 R r false _ := hT4.grown hR10.2 (fun e => by have := HRB.out R e.symm; have := HRZ.out; omega)
     have hk5 := hk4.grown hR10.2 (fun g e => HRB.out g e)
     have HB5 : Hid (∀ b, b < w2.heap.size → b ≠ R → some b ≠ (Value.slice AN xs.length cN).ownBlock → w10.heap[b]? = w2.heap[b]?) := fun b hb h1 h2 => (hR10.2.block b (by simp; omega) h2).trans (HB4.out b hb h1 h2)
     have hU := hT5.put 8 (.slice AL (xs.length + 1) cL)
     simp only [List.set_cons_succ, List.set_cons_zero] at hU
     have hk6 := hk5.set (p := ⟨R, 10, none⟩) rfl (.slice AL (xs.length + 1) cL)
     have hrow6 := row_set hR10.1 (p := ⟨R, 10, none⟩) (by have := HRZ.out; simp only; omega) (.slice AL (xs.length + 1) cL)
     have c10 : w10.cell? ⟨R, 10, none⟩ = some (.slice AN xs.length cN) := hT5.cell 8
     have f10 := hT5.fz 10
     have HB6 : Hid (∀ b, b < w2.heap.size → b ≠ R → some b ≠ (Value.slice AN xs.length cN).ownBlock → (w10.setCell ⟨R, 10, none⟩ (.slice AL (xs.length + 1) cL)).heap[b]? = w2.heap[b]?) := fun b hb h1 h2 => (Below.heap_setCell w10 ⟨R, 10, none⟩ _ b (by simp only; omega)).trans (HB5.out b hb h1 h2)
     refine hK.out _ _ ?_ (fun hHeld => ?_)
     ·
      exact HSW.out _ HB5.out
     clear hK K
     try simp only [Act.put, zA, zB, zC]
     refine zT 21 ⟨some 70, _, _, _, _, _⟩ ?_ rfl (by kernel_rfl) (fun _ _ _ h => h) (by rfl) hHeld ?_ ?_
     rotate_left
     ·
      rintro w ⟨s0, s1⟩
      first | (go_simp; done) | (go_simp; with_reducible rfl) | with_reducible rfl
     try simp only [Act.put, zA, zB, zC]
     refine zT 22 ⟨some 71, _, _, _, _, _⟩ ?_ rfl (by kernel_rfl) (fun _ _ _ h => h) (by rfl) hHeld ?_ ?_
     rotate_left
     ·
      rintro w ⟨s0, s1⟩
      first | (go_simp; done) | (go_simp; with_reducible rfl) | with_reducible rfl
     try simp only [Act.put, zA, zB, zC]
     refine zT 23 ⟨some 72, _, _, _, _, _⟩ ?_ rfl (by kernel_rfl) (fun _ _ _ h => h) (by rfl) hHeld ?_ ?_
     rotate_left
     ·
      rintro w ⟨s0, s1⟩
      first | (go_simp; done) | (go_simp; with_reducible rfl) | with_reducible rfl
     try simp only [Act.put, zA, zB, zC]
     refine wpAnyH_ready (rs := [24]) (by kernel_rfl) (by simp) ?_
     refine AllReadyH.cons (o := ⟨none, _, _, _, _, _⟩) rfl (fun K hK => ?_) AllReadyH.nil
     go_simp
     refine hK.out _ _ ?_ (fun hHeld => ?_)
     ·
      exact HSW.out _ HB6.out
     clear hK K
     try simp only [Act.put, zA, zB, zC]
     refine wpAnyH_done (by kernel_rfl) ?_ _
     have HLLx := HLL.out
     have hlx := hU.leftLen
     clear hT4 hT5 hT2 hk4 hk5 hrow4 hR10 hHeld c10 f10
     go_wp2
     constructor
     ·
      refine ⟨xs ++ [(kz, z, bsv wb)], .slice AL (xs.length + 1) cL, f', r, false, by have := HF.out; have := HLE.out; omega, by have := HL2.out; have := HLE.out; simp; omega, HON.out, ?_, by rw [List.length_append, flatN_snoc]; exact hrow6, hU, hk6⟩
      intro x hx
      rcases List.mem_append.1 hx with hx | hx
      ·
       exact HX.out x hx
      simp at hx
      subst hx
      have h1 := HZL.out
      have h2 := HKB.out
      have h3 := HLB.out
      refine ⟨⟨HKN.out, h2⟩, ⟨by simp only; omega, h1.2⟩, ?_⟩
      rw [bsv_size]
      have := HLE.out
      have := HL2.out
      have := HSL.out
      omega
     have := HLE.out
     rw [hlx]
     omega
    go_simp
    refine (HNB.out _).mono ?_
    rintro e wz ⟨rfl, rfl⟩
    refine hK.out _ _ ?_ (fun hHeld => ?_)
    ·
     exact HSW.out _ HB0.out
    clear hK K
    try simp only [Act.put, zA, zB, zC]
    refine zT 18 ⟨some 67, _, _, _, _, _⟩ ?_ rfl (by kernel_rfl) (fun _ _ _ h => h) (by rfl) hHeld ?_ ?_
    rotate_left
    ·
     rintro w ⟨s0, s1⟩
     first | (go_simp; done) | (go_simp; with_reducible rfl) | with_reducible rfl
    try simp only [Act.put, zA, zB, zC]
    refine wpAnyH_ready (rs := [5, 19]) (by kernel_rfl) (by simp) ?_
    refine (AllReadyH.cons (o := ⟨some 54, _, _, _, _, _⟩) rfl (fun K hK => ?_) (AllReadyH.cons (o := ⟨some 68, _, _, _, _, _⟩) rfl (fun K hK => ?_) AllReadyH.nil))
    ·
     go_simp
     refine hK.out _ _ ?_ (fun hHeld => ?_)
     ·
      exact HSW.out _ HB0.out
     clear hK K
     try simp only [Act.put, zA, zB, zC]
     refine wpAnyH_ready (rs := [19]) (by kernel_rfl) (by simp) ?_
     refine AllReadyH.cons (o := ⟨some 68, _, _, _, _, _⟩) rfl (fun K hK => ?_) AllReadyH.nil
     go_simp
     have hlow := lowAlloc w2 (Obj.cells #[.int .u8 kz, .int .i64 z, .string (bsv wb)] 69)
     have hbk := Blk.new w2 69 #[.int .u8 kz, .int .i64 z, .string (bsv wb)]
     have hT4 : TK (w2.alloc (Obj.cells #[.int .u8 kz, .int .i64 z, .string (bsv wb)] 69)).drew R r false [x0, x1, x2, x3, x4, x5, x6, x7, .slice AN xs.length cN] := hT2.keep hlow.drew
     have hrow4 : World.ownsRow (w2.alloc (Obj.cells #[.int .u8 kz, .int .i64 z, .string (bsv wb)] 69)).drew w.heap.size 69 3 (.slice AN xs.length cN) xs.length (flatN xs) := World.ownsRow.alloc hrow2 (Obj.cells #[.int .u8 kz, .int .i64 z, .string (bsv wb)] 69)
     have hk4 : RKeep R w (w2.alloc (Obj.cells #[.int .u8 kz, .int .i64 z, .string (bsv wb)] 69)).drew := (fun (k : RKeep R w (w2.alloc (Obj.cells #[.int .u8 kz, .int .i64 z, .string (bsv wb)] 69))) => ⟨k.os, k.tape, k.output, k.size, k.blk⟩) (hk2.below hlow)
     have HB4 : Hid (∀ b, b < w2.heap.size → b ≠ R → some b ≠ (Value.slice AN xs.length cN).ownBlock → (w2.alloc (Obj.cells #[.int .u8 kz, .int .i64 z, .string (bsv wb)] 69)).drew.heap[b]? = w2.heap[b]?) := fun b hb _ _ => hlow.block b hb
     have c10 : (w2.alloc (Obj.cells #[.int .u8 kz, .int .i64 z, .string (bsv wb)] 69)).drew.cell? ⟨R, 10, none⟩ = some (.slice AN xs.length cN) := hT4.cell 8
     refine hK.out _ _ ?_ (fun hHeld => ?_)
     ·
      exact HSW.out _ HB4.out
     clear hK K
     try simp only [Act.put, zA, zB, zC]
     refine wpAnyH_ready (rs := [20]) (by kernel_rfl) (by simp) ?_
     refine AllReadyH.cons (o := ⟨some 69, _, _, _, _, _⟩) rfl (fun K hK => ?_) AllReadyH.nil
     rw [if_pos (by rfl)]
     refine oper_app (.tmp 54) (.tmp 68) 27 rfl (.slice AN xs.length cN) (.slice (some ⟨w2.heap.size, 0, none⟩) 1 1) rfl rfl (fun v' w' => w'.ownsRow w.heap.size 69 3 v' (xs.length + 1) (flatN xs ++ [.int .u8 kz, .int .i64 z, .string (bsv wb)]) ∧ (w2.alloc (Obj.cells #[.int .u8 kz, .int .i64 z, .string (bsv wb)] 69)).drew.grownBy w' (Value.slice AN xs.length cN).ownBlock) (fun ty => (by obtain ⟨v', w', r1, r2, r3, _⟩ := app_name (w2.alloc (Obj.cells #[.int .u8 kz, .int .i64 z, .string (bsv wb)] 69)).drew w.heap.size ty (.slice AN xs.length cN) xs.length _ hrow4 w2.heap.size 1 kz z (bsv wb) hbk (by have := HL2.out; have := HSL.out; omega) (by have := hk2.size; simp; omega); exact ⟨v', w', r1, r2, r3⟩)) ?_
     intro v' w10 hR10
     obtain ⟨AL, cL, rfl⟩ := row_slice hR10.1
     have HRB := Lib.hid (row_base hrow4)
     have hT5 : TK w10 R r false _ := hT4.grown hR10.2 (fun e => by have := HRB.out R e.symm; have := HRZ.out; omega)
     have hk5 := hk4.grown hR10.2 (fun g e => HRB.out g e)
     have HB5 : Hid (∀ b, b < w2.heap.size → b ≠ R → some b ≠ (Value.slice AN xs.length cN).ownBlock → w10.heap[b]? = w2.heap[b]?) := fun b hb h1 h2 => (hR10.2.block b (by simp; omega) h2).trans (HB4.out b hb h1 h2)
     have hU := hT5.put 8 (.slice AL (xs.length + 1) cL)
     simp only [List.set_cons_succ, List.set_cons_zero] at hU
     have hk6 := hk5.set (p := ⟨R, 10, none⟩) rfl (.slice AL (xs.length + 1) cL)
     have hrow6 := row_set hR10.1 (p := ⟨R, 10, none⟩) (by have := HRZ.out; simp only; omega) (.slice AL (xs.length + 1) cL)
     have c10 : w10.cell? ⟨R, 10, none⟩ = some (.slice AN xs.length cN) := hT5.cell 8
     have f10 := hT5.fz 10
     have HB6 : Hid (∀ b, b < w2.heap.size → b ≠ R → some b ≠ (Value.slice AN xs.length cN).ownBlock → (w10.setCell ⟨R, 10, none⟩ (.slice AL (xs.length + 1) cL)).heap[b]? = w2.heap[b]?) := fun b hb h1 h2 => (Below.heap_setCell w10 ⟨R, 10, none⟩ _ b (by simp only; omega)).trans (HB5.out b hb h1 h2)
     refine hK.out _ _ ?_ (fun hHeld => ?_)
     ·
      exact HSW.out _ HB5.out
     clear hK K
     try simp only [Act.put, zA, zB, zC]
     refine zT 21 ⟨some 70, _, _, _, _, _⟩ ?_ rfl (by kernel_rfl) (fun _ _ _ h => h) (by rfl) hHeld ?_ ?_
     rotate_left
     ·
      rintro w ⟨s0, s1⟩
      first | (go_simp; done) | (go_simp; with_reducible rfl) | with_reducible rfl
     try simp only [Act.put, zA, zB, zC]
     refine zT 22 ⟨some 71, _, _, _, _, _⟩ ?_ rfl (by kernel_rfl) (fun _ _ _ h => h) (by rfl) hHeld ?_ ?_
     rotate_left
     ·
      rintro w ⟨s0, s1⟩
      first | (go_simp; done) | (go_simp; with_reducible rfl) | with_reducible rfl
     try simp only [Act.put, zA, zB, zC]
     refine zT 23 ⟨some 72, _, _, _, _, _⟩ ?_ rfl (by kernel_rfl) (fun _ _ _ h => h) (by rfl) hHeld ?_ ?_
     rotate_left
     ·
      rintro w ⟨s0, s1⟩
      first | (go_simp; done) | (go_simp; with_reducible rfl) | with_reducible rfl
     try simp only [Act.put, zA, zB, zC]
     refine wpAnyH_ready (rs := [24]) (by kernel_rfl) (by simp) ?_
     refine AllReadyH.cons (o := ⟨none, _, _, _, _, _⟩) rfl (fun K hK => ?_) AllReadyH.nil
     go_simp
     refine hK.out _ _ ?_ (fun hHeld => ?_)
     ·
      exact HSW.out _ HB6.out
     clear hK K
     try simp only [Act.put, zA, zB, zC]
     refine wpAnyH_done (by kernel_rfl) ?_ _
     have HLLx := HLL.out
     have hlx := hU.leftLen
     clear hT4 hT5 hT2 hk4 hk5 hrow4 hR10 hHeld c10 f10
     go_wp2
     constructor
     ·
      refine ⟨xs ++ [(kz, z, bsv wb)], .slice AL (xs.length + 1) cL, f', r, false, by have := HF.out; have := HLE.out; omega, by have := HL2.out; have := HLE.out; simp; omega, HON.out, ?_, by rw [List.length_append, flatN_snoc]; exact hrow6, hU, hk6⟩
      intro x hx
      rcases List.mem_append.1 hx with hx | hx
      ·
       exact HX.out x hx
      simp at hx
      subst hx
      have h1 := HZL.out
      have h2 := HKB.out
      have h3 := HLB.out
      refine ⟨⟨HKN.out, h2⟩, ⟨by simp only; omega, h1.2⟩, ?_⟩
      rw [bsv_size]
      have := HLE.out
      have := HL2.out
      have := HSL.out
      omega
     have := HLE.out
     rw [hlx]
     omega
    go_simp
    have hlow := lowAlloc w2 (Obj.cells #[.int .u8 kz, .int .i64 z, .string (bsv wb)] 69)
    have hbk := Blk.new w2 69 #[.int .u8 kz, .int .i64 z, .string (bsv wb)]
    have hT4 : TK (w2.alloc (Obj.cells #[.int .u8 kz, .int .i64 z, .string (bsv wb)] 69)).drew R r false [x0, x1, x2, x3, x4, x5, x6, x7, .slice AN xs.length cN] := hT2.keep hlow.drew
    have hrow4 : World.ownsRow (w2.alloc (Obj.cells #[.int .u8 kz, .int .i64 z, .string (bsv wb)] 69)).drew w.heap.size 69 3 (.slice AN xs.length cN) xs.length (flatN xs) := World.ownsRow.alloc hrow2 (Obj.cells #[.int .u8 kz, .int .i64 z, .string (bsv wb)] 69)
    have hk4 : RKeep R w (w2.alloc (Obj.cells #[.int .u8 kz, .int .i64 z, .string (bsv wb)] 69)).drew := (fun (k : RKeep R w (w2.alloc (Obj.cells #[.int .u8 kz, .int .i64 z, .string (bsv wb)] 69))) => ⟨k.os, k.tape, k.output, k.size, k.blk⟩) (hk2.below hlow)
    have HB4 : Hid (∀ b, b < w2.heap.size → b ≠ R → some b ≠ (Value.slice AN xs.length cN).ownBlock → (w2.alloc (Obj.cells #[.int .u8 kz, .int .i64 z, .string (bsv wb)] 69)).drew.heap[b]? = w2.heap[b]?) := fun b hb _ _ => hlow.block b hb
    have c10 : (w2.alloc (Obj.cells #[.int .u8 kz, .int .i64 z, .string (bsv wb)] 69)).drew.cell? ⟨R, 10, none⟩ = some (.slice AN xs.length cN) := hT4.cell 8
    refine hK.out _ _ ?_ (fun hHeld => ?_)
    ·
     exact HSW.out _ HB4.out
    clear hK K
    try simp only [Act.put, zA, zB, zC]
    refine wpAnyH_ready (rs := [5]) (by kernel_rfl) (by simp) ?_
    refine AllReadyH.cons (o := ⟨some 54, _, _, _, _, _⟩) rfl (fun K hK => ?_) AllReadyH.nil
    go_simp
    refine hK.out _ _ ?_ (fun hHeld => ?_)
    ·
     exact HSW.out _ HB4.out
    clear hK K
    try simp only [Act.put, zA, zB, zC]
    refine wpAnyH_ready (rs := [20]) (by kernel_rfl) (by simp) ?_
    refine AllReadyH.cons (o := ⟨some 69, _, _, _, _, _⟩) rfl (fun K hK => ?_) AllReadyH.nil
    rw [if_pos (by rfl)]
    refine oper_app (.tmp 54) (.tmp 68) 27 rfl (.slice AN xs.length cN) (.slice (some ⟨w2.heap.size, 0, none⟩) 1 1) rfl rfl (fun v' w' => w'.ownsRow w.heap.size 69 3 v' (xs.length + 1) (flatN xs ++ [.int .u8 kz, .int .i64 z, .string (bsv wb)]) ∧ (w2.alloc (Obj.cells #[.int .u8 kz, .int .i64 z, .string (bsv wb)] 69)).drew.grownBy w' (Value.slice AN xs.length cN).ownBlock) (fun ty => (by obtain ⟨v', w', r1, r2, r3, _⟩ := app_name (w2.alloc (Obj.cells #[.int .u8 kz, .int .i64 z, .string (bsv wb)] 69)).drew w.heap.size ty (.slice AN xs.length cN) xs.length _ hrow4 w2.heap.size 1 kz z (bsv wb) hbk (by have := HL2.out; have := HSL.out; omega) (by have := hk2.size; simp; omega); exact ⟨v', w', r1, r2, r3⟩)) ?_
    intro v' w10 hR10
    obtain ⟨AL, cL, rfl⟩ := row_slice hR10.1
    have HRB := Lib.hid (row_base hrow4)
    have hT5 : TK w10 R r false _ := hT4.grown hR10.2 (fun e => by have := HRB.out R e.symm; have := HRZ.out; omega)
    have hk5 := hk4.grown hR10.2 (fun g e => HRB.out g e)
    have HB5 : Hid (∀ b, b < w2.heap.size → b ≠ R → some b ≠ (Value.slice AN xs.length cN).ownBlock → w10.heap[b]? = w2.heap[b]?) := fun b hb h1 h2 => (hR10.2.block b (by simp; omega) h2).trans (HB4.out b hb h1 h2)
    have hU := hT5.put 8 (.slice AL (xs.length + 1) cL)
    simp only [List.set_cons_succ, List.set_cons_zero] at hU
    have hk6 := hk5.set (p := ⟨R, 10, none⟩) rfl (.slice AL (xs.length + 1) cL)
    have hrow6 := row_set hR10.1 (p := ⟨R, 10, none⟩) (by have := HRZ.out; simp only; omega) (.slice AL (xs.length + 1) cL)
    have c10 : w10.cell? ⟨R, 10, none⟩ = some (.slice AN xs.length cN) := hT5.cell 8
    have f10 := hT5.fz 10
    have HB6 : Hid (∀ b, b < w2.heap.size → b ≠ R → some b ≠ (Value.slice AN xs.length cN).ownBlock → (w10.setCell ⟨R, 10, none⟩ (.slice AL (xs.length + 1) cL)).heap[b]? = w2.heap[b]?) := fun b hb h1 h2 => (Below.heap_setCell w10 ⟨R, 10, none⟩ _ b (by simp only; omega)).trans (HB5.out b hb h1 h2)
    refine hK.out _ _ ?_ (fun hHeld => ?_)
    ·
     exact HSW.out _ HB5.out
    clear hK K
    try simp only [Act.put, zA, zB, zC]
    refine zT 21 ⟨some 70, _, _, _, _, _⟩ ?_ rfl (by kernel_rfl) (fun _ _ _ h => h) (by rfl) hHeld ?_ ?_
    rotate_left
    ·
     rintro w ⟨s0, s1⟩
     first | (go_simp; done) | (go_simp; with_reducible rfl) | with_reducible rfl
    try simp only [Act.put, zA, zB, zC]
    refine zT 22 ⟨some 71, _, _, _, _, _⟩ ?_ rfl (by kernel_rfl) (fun _ _ _ h => h) (by rfl) hHeld ?_ ?_
    rotate_left
    ·
     rintro w ⟨s0, s1⟩
     first | (go_simp; done) | (go_simp; with_reducible rfl) | with_reducible rfl
    try simp only [Act.put, zA, zB, zC]
    refine zT 23 ⟨some 72, _, _, _, _, _⟩ ?_ rfl (by kernel_rfl) (fun _ _ _ h => h) (by rfl) hHeld ?_ ?_
    rotate_left
    ·
     rintro w ⟨s0, s1⟩
     first | (go_simp; done) | (go_simp; with_reducible rfl) | with_reducible rfl
    try simp only [Act.put, zA, zB, zC]
    refine wpAnyH_ready (rs := [24]) (by kernel_rfl) (by simp) ?_
    refine AllReadyH.cons (o := ⟨none, _, _, _, _, _⟩) rfl (fun K hK => ?_) AllReadyH.nil
    go_simp
    refine hK.out _ _ ?_ (fun hHeld => ?_)
    ·
     exact HSW.out _ HB6.out
    clear hK K
    try simp only [Act.put, zA, zB, zC]
    refine wpAnyH_done (by kernel_rfl) ?_ _
    have HLLx := HLL.out
    have hlx := hU.leftLen
    clear hT4 hT5 hT2 hk4 hk5 hrow4 hR10 hHeld c10 f10
    go_wp2
    constructor
    ·
     refine ⟨xs ++ [(kz, z, bsv wb)], .slice AL (xs.length + 1) cL, f', r, false, by have := HF.out; have := HLE.out; omega, by have := HL2.out; have := HLE.out; simp; omega, HON.out, ?_, by rw [List.length_append, flatN_snoc]; exact hrow6, hU, hk6⟩
     intro x hx
     rcases List.mem_append.1 hx with hx | hx
     ·
      exact HX.out x hx
     simp at hx
     subst hx
     have h1 := HZL.out
     have h2 := HKB.out
     have h3 := HLB.out
     refine ⟨⟨HKN.out, h2⟩, ⟨by simp only; omega, h1.2⟩, ?_⟩
     rw [bsv_size]
     have := HLE.out
     have := HL2.out
     have := HSL.out
     omega
    have := HLE.out
    rw [hlx]
    omega
   have HE : Hid (o = none) := by
    unfold Hid
    rw [HO2.out, Ag.name_two h2]
   have d2 : (((Ag.wordsS l).length : Int) != 2) = true := by simp; omega
   obtain ⟨p1, p2, p3⟩ := HBAD.out
   clear h2
   generalize (Ag.wordsS l).length = nw at *
   go_wp2
   go_end0
   exact ⟨_, xs, r, true, rfl, p3, p2, by have := HL2.out; omega, HX.out, p1, HE.out⟩
end Go.Proofs.YtpejilhdhkmcjaaGreatDoor
