/- The document's reader of texts: the numbers of a line. -/
import Derived.Test.YtpejilhdhkmcjaaGreatDoorJbAl
import Derived.Test.YtpejilhdhkmcjaaGreatDoorJbay
namespace Go.Proofs.YtpejilhdhkmcjaaGreatDoor
open Go.RowKit

namespace Ag
/-- A line's numbers, from so many to so many. -/
def numL (s : Bs) (least most : Nat) : Option (List Nat × Bs) := match lineS s with
 | none => none
 | some (l, r) => match numsS l with
  | none => none
  | some ns => if least ≤ ns.length ∧ ns.length ≤ most then some (ns, r) else none
/-- The document's number: -1 is none. -/
def refN (x : Bs) : Int := match digL x with | some n => (n : Int) | none => -1
theorem refN_some {x : Bs} {n : Nat} (h : digL x = some n) : refN x = (n : Int) := by simp [refN, h]
theorem refN_low (x : Bs) : -1 ≤ refN x ∧ refN x ≤ 999999 := by
 unfold refN
 cases h : digL x with
 | none => simp
 | some n =>
  have := (num_dig h).2
  simp only
  omega
theorem refN_neg (x : Bs) : decide (refN x < 0) = (digL x).isNone := by
 unfold refN
 cases h : digL x with
 | none => simp
 | some n => simp
theorem mapM_none {xs : List Bs} (h : xs.any (fun x => (digL x).isNone) = true) : xs.mapM digL = none := by
 induction xs with
 | nil => simp at h
 | cons x t ih =>
  rw [List.any_cons] at h
  rw [List.mapM_cons]
  cases hx : digL x with
  | none => rfl
  | some n =>
   rw [hx] at h
   rw [ih (by simpa using h)]
   rfl
theorem mapM_some {xs : List Bs} (h : xs.any (fun x => (digL x).isNone) = false) : ∃ ns, xs.mapM digL = some ns ∧ xs.map refN = natV ns ∧ ns.length = xs.length := by
 induction xs with
 | nil => exact ⟨[], rfl, rfl, rfl⟩
 | cons x t ih =>
  rw [List.any_cons, Bool.or_eq_false_iff] at h
  obtain ⟨ns, h1, h2, h3⟩ := ih h.2
  cases hx : digL x with
  | none => rw [hx] at h; simp at h
  | some n =>
   refine ⟨n :: ns, ?_, ?_, by simp [h3]⟩
   ·
    rw [List.mapM_cons, hx, h1]; rfl
   rw [List.map_cons, h2, refN_some hx]; rfl
end Ag
theorem app_int1 (w : World) (base : Nat) (ty : TypeId) (v : Value) (n : Nat) (xs : List Value) (hown : w.ownsRow base 3 1 v n xs) (x : Int) (hn : n ≤ 100000) (hbase : base ≤ w.heap.size) :
  ∃ v' w', (Builtin.append_ #[26, 26] ty #[v, .slice (some ⟨w.heap.size, 0, none⟩) 1 1]).run Tryz.prog (w.alloc (Obj.cells #[.int .i64 x] 3)) = .ok v' w' ∧ (w'.ownsRow base 3 1 v' (n + 1) (xs ++ [.int .i64 x]) ∧ (w.alloc (Obj.cells #[.int .i64 x] 3)).grownBy w' v.ownBlock) := by
 have hbk := (Blk.new w 3 #[.int .i64 x]).cell 0
 have hrow1 := World.ownsRow.alloc hown (Obj.cells #[.int .i64 x] 3)
 obtain ⟨v', w', r1, r2, r3, _⟩ := app_at (w.alloc (Obj.cells #[.int .i64 x] 3)) base ty v n xs hrow1 w.heap.size 0 1 x hbk hn (by simp; omega)
 exact ⟨v', w', r1, r2, r3⟩
theorem refNum_bsv (x : Ag.Bs) : refNum (bsv x) = Ag.refN x := by
 unfold refNum Ag.refN
 rw [Ag.dig_list]
 rfl
/-- The words lie in a block. -/
def Wd (w : World) (g : Nat) (ws : List Ag.Bs) : Prop := ∀ j (hj : j < ws.length), w.cell? ⟨g, j, none⟩ = some (.string (bsv ws[j]))
theorem row_words {w : World} {base : Nat} {v : Value} {ws : List Ag.Bs} (h : w.ownsRow base 9 1 v ws.length (strV ws)) (hne : ws ≠ []) : ∃ g c, v = .slice (some ⟨g, 0, none⟩) ws.length c ∧ base ≤ g ∧ g < w.heap.size ∧ Wd w g ws := by
 rcases h.2 with ⟨rfl, h0⟩ | ⟨g, cap, cur, rfl, hb, hh, hn, _, hs, ht⟩
 ·
  exact absurd (List.length_eq_zero_iff.1 h0) hne
 refine ⟨g, cap, rfl, hb, Blk.lt (t := 9) hh, fun j hj => ?_⟩
 have f1 : (strV ws)[j]? = some (.string (bsv ws[j])) := by simp [strV, hj]
 rw [← ht, List.getElem?_take_of_lt (by omega)] at f1
 rw [Blk.cell (t := 9) hh, ← Array.getElem?_toList]
 exact f1
theorem Wd.keep {w w' : World} {g : Nat} {ws : List Ag.Bs} (h : Wd w g ws) (hk : w'.heap[g]? = w.heap[g]?) : Wd w' g ws :=
 fun j hj => (World.cell?_of_block (w := w) (a := ⟨g, j, none⟩) hk).trans (h j hj)
theorem ixWd (g n c r : Nat) (_hm : n ≤ 100000) (hr : r < n) (w : World) : (Instr.indexAt 70 (.slice (some ⟨g, 0, none⟩) n c) (.int .i64 (r : Int))).run Tryz.prog w = .ok (.pointer (some ⟨g, r, none⟩)) w := by go_simp
theorem words_len (l : Ag.Bs) : (Ag.wordsS l).length ≤ l.length + 1 := by
 rw [words_count]
 have := List.count_le_length (a := (32 : UInt8)) (l := l)
 omega
/-- Numbers are taken, or the mark is set. -/
def TNumsP (R : Nat) (s : Ag.Bs) (bad : Bool) (cs : List Value) (least most : Nat) (w : World) (e : Ending) (w' : World) : Prop :=
 ∃ v zs, e = .returned v ∧ w'.ownsRow w.heap.size 3 1 v zs.length (iv zs) ∧ most ≤ zs.length ∧ zs.length ≤ 50000 ∧ (∀ z ∈ zs, -1 ≤ z ∧ z ≤ 999999) ∧ RKeep R w w' ∧
 match Ag.numL s least most with
 | some (ns, r) => zs = natV ns ++ List.replicate (most - ns.length) 0 ∧ TK w' R r bad cs
 | none => ∃ s', s'.length ≤ s.length ∧ TK w' R s' true cs
theorem num_spec (s l left : Ag.Bs) (b1 bad : Bool) (least most : Nat) (h : match Ag.lineS s with | some (l', r) => l = l' ∧ left = r ∧ b1 = bad | none => l = [] ∧ b1 = true) :
  match Ag.numL s least most with
  | some (ns, r) => (Ag.wordsS l).map Ag.refN = natV ns ∧ ns.length = (Ag.wordsS l).length ∧ left = r ∧ (b1 || (Ag.wordsS l).any (fun x => (Ag.digL x).isNone) || (decide ((Ag.wordsS l).length < least) || decide (most < (Ag.wordsS l).length))) = bad
  | none => (b1 || (Ag.wordsS l).any (fun x => (Ag.digL x).isNone) || (decide ((Ag.wordsS l).length < least) || decide (most < (Ag.wordsS l).length))) = true := by
 unfold Ag.numL
 cases hli : Ag.lineS s with
 | none =>
  rw [hli] at h
  obtain ⟨_, rfl⟩ := h
  simp
 | some q =>
  obtain ⟨l', r⟩ := q
  rw [hli] at h
  obtain ⟨rfl, rfl, rfl⟩ := h
  simp only
  unfold Ag.numsS
  cases ha : (Ag.wordsS l).any (fun x => (Ag.digL x).isNone) with
  | true =>
   rw [Ag.mapM_none ha]
   simp
  | false =>
   obtain ⟨ns, h1, h2, h3⟩ := Ag.mapM_some ha
   rw [h1]
   simp only
   by_cases hb : least ≤ ns.length ∧ ns.length ≤ most
   ·
    rw [if_pos hb]
    refine ⟨h2, h3, rfl, ?_⟩
    rw [decide_eq_false (by omega), decide_eq_false (by omega)]
    simp
   rw [if_neg hb]
   by_cases h4 : (Ag.wordsS l).length < least
   ·
    simp [h4]
   rw [decide_eq_true (show most < (Ag.wordsS l).length by omega)]
   simp
def slLen : Value → Nat
 | .slice _ n _ => n
 | _ => 0
theorem row_more {w : World} {base b2 : Nat} {e : TypeId} {size : Nat} {v : Value} {n : Nat} {xs : List Value} (h : w.ownsRow base e size v n xs) (hb : b2 ≤ base) : w.ownsRow b2 e size v n xs := by
 refine ⟨h.1, ?_⟩
 rcases h.2 with h2 | ⟨g, cap, cur, he, hbs, r⟩
 ·
  exact Or.inl h2
 exact Or.inr ⟨g, cap, cur, he, Nat.le_trans hb hbs, r⟩
theorem word_le (l : Ag.Bs) : ∀ x ∈ Ag.wordsS l, x.length ≤ l.length := by
 induction l with
 | nil => intro x hx; simp [Ag.wordsS] at hx; simp [hx]
 | cons b t ih =>
  intro x hx
  rw [Ag.wordsS] at hx
  split at hx
  ·
   rcases List.mem_cons.1 hx with rfl | hx
   ·
    simp
   have := ih x hx
   simp; omega
  split at hx
  ·
   rename_i w0 ws0 hw0
   rcases List.mem_cons.1 hx with rfl | hx
   ·
    have := ih w0 (by rw [hw0]; simp)
    simp; omega
   have := ih x (by rw [hw0]; simp [hx])
   simp; omega
  simp at hx
  subst hx
  simp
set_option maxRecDepth 10000 in
set_option maxHeartbeats 4000000 in
theorem tnums_any (R : Nat) (s : Ag.Bs) (bad : Bool) (cs : List Value) (least most : Nat) (w : World) (h : TK w R s bad cs) (hs : s.length ≤ 40000) (hm : most ≤ 3) (hlm : least ≤ 3) :
  Calls Tryz.prog 43 #[.pointer (some ⟨R, 0, none⟩), .int .i64 (least : Int), .int .i64 (most : Int)] w (TNumsP R s bad cs least most w) := by
 have HRZ : Hid (R < w.heap.size) := h.lt
 have HL := Lib.hid (tline_any R s bad cs w h (by omega))
 go_enter Tryz.func43, Tryz.ntmps43
 go_wp2_with fail
 refine HL.out.mono ?_
 intro e w1 hP
 have hQ : ∃ (l left : Ag.Bs) (b1 : Bool), e = .returned (.string (bsv l)) ∧ l.length ≤ s.length ∧ left.length ≤ s.length ∧ TK w1 R left b1 cs ∧ RKeep R w w1 ∧
   (match Ag.lineS s with | some (l', r) => l = l' ∧ left = r ∧ b1 = bad | none => l = [] ∧ b1 = true) := by
  unfold TLineP at hP
  cases hli : Ag.lineS s with
  | none =>
   rw [hli] at hP
   obtain ⟨e1, e2, e3⟩ := hP
   exact ⟨[], s, true, e1, by simp, Nat.le_refl _, e2, e3, rfl, rfl⟩
  | some q =>
   obtain ⟨l, r⟩ := q
   rw [hli] at hP
   obtain ⟨e1, e2, e3⟩ := hP
   have hll := congrArg List.length (Ag.line_some hli).1
   simp at hll
   exact ⟨l, r, bad, e1, by omega, by omega, e2, e3, rfl, rfl, rfl⟩
 obtain ⟨l, left, b1, rfl, hl, hleft, hT, hk1, HSP⟩ := hQ
 have HSP := Lib.hid (num_spec s l left b1 bad least most HSP)
 have HLT := Lib.hid hleft
 clear hP HL h hleft
 go_wp2_with fail
 refine (twords_any l w1 (by omega)).mono ?_
 rintro e w2 ⟨vw, rfl, hrw, lo⟩
 obtain ⟨g, cw, rfl, hg0, hg1, hW⟩ := row_words hrw (Ag.words_ne l)
 have hT2 := hT.keep lo
 have hk2 := hk1.below lo
 have HWL : Hid ((Ag.wordsS l).length ≤ 40001) := by
  unfold Hid
  have := words_len l
  omega
 have HGR : Hid (R < w2.heap.size ∧ R ≠ g ∧ g < w2.heap.size ∧ w.heap.size ≤ w2.heap.size) := by
  have := hk1.size
  have := HRZ.out
  have := lo.size
  exact ⟨by omega, by omega, by omega, by omega⟩
 have HWX : Hid (∀ x ∈ Ag.wordsS l, (bsv x).size ≤ maxLen) := by
  intro x hx
  have := word_le l x hx
  rw [bsv_size]
  unfold maxLen
  omega
 generalize Ag.wordsS l = ws at *
 have HLM := Lib.hid hm
 clear hrw lo hT hk1 hl hg0 hg1 hs
 go_wp2
 go_loopw [8, 9, 10] (fun v i m wr => ∃ k : Nat, k ≤ ws.length ∧ i = .int .i64 (k : Int) ∧ wr.ownsRow w2.heap.size 3 1 v k (iv ((ws.take k).map Ag.refN)) ∧ TK wr R left (b1 || (ws.take k).any (fun x => (Ag.digL x).isNone)) cs ∧ Wd wr g ws ∧ RKeep R w wr ∧ w2.heap.size ≤ wr.heap.size) (fun _ i _ _ => ws.length - (intOf i).toNat)
 case atStart => exact ⟨0, Nat.zero_le _, rfl, World.ownsRow_nil w2 _ _ _, by simpa using hT2, hW, hk2, Nat.le_refl _⟩
 clear hT2 hW hk2
 obtain ⟨k, hk, rfl, hrow, hT, hW, hkp, hsz⟩ := hrel
 have hwl := HWL.out
 by_cases hlt : k < ws.length
 ·
  have dl : decide ((k : Int) < (ws.length : Int)) = true := decide_eq_true (by omega)
  have hcw := hW k hlt
  have hix := ixWd g ws.length cw k (by have := HWL.out; omega) hlt
  have HNB := Lib.hid (fun W => Number_any (bsv ws[k]) W (HWX.out _ (List.getElem_mem hlt)))
  rw [refNum_bsv] at HNB
  have e1 : iv ((ws.take (k + 1)).map Ag.refN) = iv ((ws.take k).map Ag.refN) ++ [.int .i64 (Ag.refN ws[k])] := by
   rw [List.take_succ_eq_append_getElem hlt]
   simp only [iv, List.map_append, List.map_cons, List.map_nil]
  have e2 : (ws.take (k + 1)).any (fun x => (Ag.digL x).isNone) = ((ws.take k).any (fun x => (Ag.digL x).isNone) || decide (Ag.refN ws[k] < 0)) := by
   rw [List.take_succ_eq_append_getElem hlt, List.any_append, Ag.refN_neg]
   simp
  have HLO := Lib.hid (Ag.refN_low ws[k])
  have HE1 := Lib.hid e1
  have HE2 := Lib.hid e2
  have HKL := Lib.hid hk
  clear e1 e2
  generalize Ag.refN ws[k] = z at *
  generalize (ws.take k).any (fun x => (Ag.digL x).isNone) = ba at *
  go_wp2_with fail
  refine (HNB.out _).mono ?_
  rintro e w3 ⟨rfl, rfl⟩
  clear HNB hcw hix
  by_cases hz : z < 0
  ·
   have dz : decide (z < 0) = true := decide_eq_true hz
   have c1 := hT.c1
   have f1 := hT.fz 1
   have hT3 := hT.mark true
   have hk3 := hkp.set (p := ⟨R, 1, none⟩) rfl (.bool true)
   have hrow3 := row_set hrow (p := ⟨R, 1, none⟩) (by have := HGR.out.1; simp only; omega) (.bool true)
   have hW3 : Wd (wr.setCell ⟨R, 1, none⟩ (.bool true)) g ws := hW.keep (Below.heap_setCell wr ⟨R, 1, none⟩ (.bool true) g (by have := HGR.out.2.1; simp only; omega))
   have hs3 : w2.heap.size ≤ (wr.setCell ⟨R, 1, none⟩ (.bool true)).heap.size := by simpa using hsz
   go_upto_region 9 with fail
   clear c1 f1 hT hkp hrow hW hsz
   generalize wr.setCell ⟨R, 1, none⟩ (.bool true) = W at *
   have HRUN : Hid _ := Lib.hid (fun ty => app_int1 W w2.heap.size ty u8 k _ hrow3 z (by have := HWL.out; have := HKL.out; omega) hs3)
   have HRB := Lib.hid (row_base hrow3)
   have HW3 := Lib.hid hW3
   have HS3 := Lib.hid hs3
   clear hrow3 hW3 hs3
   go_wp2_with (at_builtin; go_loud (refine wpList_app rfl (.tmp 30) (.tmp 32) 26 rfl _ _ rfl rfl _ HRUN.out ?_); intro v' W4 hR4)
   have hlow := lowAlloc W (Obj.cells #[.int .i64 z] 3)
   have hT4 : TK W4 R left true cs := (hT3.keep hlow).grown hR4.2 (fun e => by have := HRB.out R e.symm; have := HGR.out.1; omega)
   have hk4 := (hk3.below hlow).grown hR4.2 (fun g e => by have := HRB.out g e; have := HGR.out.2.2.2; omega)
   have hW4 : Wd W4 g ws := HW3.out.keep ((hR4.2.block g (by have := HGR.out.2.2.1; have := HS3.out; simp; omega) (fun e => by have := HRB.out g e.symm; have := HGR.out.2.2.1; omega)).trans (hlow.block g (by have := HGR.out.2.2.1; have := HS3.out; omega)))
   have hs4 : w2.heap.size ≤ W4.heap.size := Nat.le_trans (Nat.le_trans HS3.out hlow.size) hR4.2.size
   have hrow4 : W4.ownsRow w2.heap.size 3 1 v' (k + 1) (iv ((ws.take (k + 1)).map Ag.refN)) := by
    rw [HE1.out]
    exact hR4.1
   constructor
   ·
    have := HWL.out
    exact ⟨k + 1, by omega, by go_num, hrow4, by rw [HE2.out, dz]; simpa using hT4, hW4, hk4, hs4⟩
   have := HWL.out
   simp [intOf]; omega
  have dz : decide (z < 0) = false := decide_eq_false hz
  go_upto_region 9 with fail
  have hT3 := hT
  have hk3 := hkp
  have hrow3 := hrow
  have hW3 := hW
  have hs3 := hsz
  clear hT hkp hrow hW hsz
  generalize wr = W at *
  have HRUN : Hid _ := Lib.hid (fun ty => app_int1 W w2.heap.size ty u8 k _ hrow3 z (by have := HWL.out; have := HKL.out; omega) hs3)
  have HRB := Lib.hid (row_base hrow3)
  have HW3 := Lib.hid hW3
  have HS3 := Lib.hid hs3
  clear hrow3 hW3 hs3
  go_wp2_with (at_builtin; go_loud (refine wpList_app rfl (.tmp 30) (.tmp 32) 26 rfl _ _ rfl rfl _ HRUN.out ?_); intro v' W4 hR4)
  have hlow := lowAlloc W (Obj.cells #[.int .i64 z] 3)
  have hT4 : TK W4 R left (b1 || ba) cs := (hT3.keep hlow).grown hR4.2 (fun e => by have := HRB.out R e.symm; have := HGR.out.1; omega)
  have hk4 := (hk3.below hlow).grown hR4.2 (fun g e => by have := HRB.out g e; have := HGR.out.2.2.2; omega)
  have hW4 : Wd W4 g ws := HW3.out.keep ((hR4.2.block g (by have := HGR.out.2.2.1; have := HS3.out; simp; omega) (fun e => by have := HRB.out g e.symm; have := HGR.out.2.2.1; omega)).trans (hlow.block g (by have := HGR.out.2.2.1; have := HS3.out; omega)))
  have hs4 : w2.heap.size ≤ W4.heap.size := Nat.le_trans (Nat.le_trans HS3.out hlow.size) hR4.2.size
  have hrow4 : W4.ownsRow w2.heap.size 3 1 v' (k + 1) (iv ((ws.take (k + 1)).map Ag.refN)) := by
   rw [HE1.out]
   exact hR4.1
  constructor
  ·
   have := HWL.out
   exact ⟨k + 1, by omega, by go_num, hrow4, by rw [HE2.out, dz]; simpa using hT4, hW4, hk4, hs4⟩
  have := HWL.out
  simp [intOf]; omega
 have dl : decide ((k : Int) < (ws.length : Int)) = false := decide_eq_false (by omega)
 obtain rfl : k = ws.length := by omega
 rw [List.take_length] at hrow hT
 clear hW
 by_cases h1 : ws.length < least
 ·
  have d1 : decide ((ws.length : Int) < (least : Int)) = true := decide_eq_true (by omega)
  have HXW : Hid ((b1 || ws.any (fun x => (Ag.digL x).isNone) || (decide (ws.length < least) || decide (most < ws.length))) = true) := by
   unfold Hid
   rw [decide_eq_true h1]
   simp
  have c1 := hT.c1
  have f1 := hT.fz 1
  have hT3 := hT.mark true
  have hk3 := hkp.set (p := ⟨R, 1, none⟩) rfl (.bool true)
  have hrow3 := row_set hrow (p := ⟨R, 1, none⟩) (by have := HGR.out.1; simp only; omega) (.bool true)
  have hs3 : w2.heap.size ≤ (wr.setCell ⟨R, 1, none⟩ (.bool true)).heap.size := by simpa using hsz
  go_upto_region 12 with fail
  clear c1 f1 hT hkp hrow hsz
  generalize wr.setCell ⟨R, 1, none⟩ (.bool true) = W at *
  obtain ⟨A8, c8, hsl⟩ := row_slice hrow3
  subst hsl
  go_wp2
  go_loopw [8] (fun v wr => ∃ j : Nat, (j = 0 ∨ ws.length + j ≤ most) ∧ wr.ownsRow w2.heap.size 3 1 v (ws.length + j) (iv (ws.map Ag.refN ++ List.replicate j 0)) ∧ TK wr R left true cs ∧ RKeep R w wr ∧ w2.heap.size ≤ wr.heap.size) (fun v _ => most - slLen v)
  case atStart => exact ⟨0, Or.inl rfl, by simpa using hrow3, hT3, hk3, hs3⟩
  clear hrow3 hT3 hk3 hs3
  obtain ⟨j, hj, hrow, hT, hkp, hsz⟩ := hrel
  have HWL2 := HWL.out
  obtain ⟨A9, c9, hsl⟩ := row_slice hrow
  subst hsl
  by_cases hlt : ws.length + j < most
  ·
   have dl : decide (((ws.length + j : Nat) : Int) < (most : Int)) = true := decide_eq_true (by omega)
   have dl2 : decide ((ws.length : Int) + (j : Int) < (most : Int)) = true := decide_eq_true (by omega)
   have HRUN : Hid _ := Lib.hid (fun ty => app_int1 wr w2.heap.size ty (.slice A9 (ws.length + j) c9) (ws.length + j) _ hrow 0 (by omega) hsz)
   have HRB := Lib.hid (row_base hrow)
   clear hrow
   go_wp2_with (at_builtin; go_loud (refine wpList_app rfl (.tmp 51) (.tmp 52) 26 rfl _ _ rfl rfl _ HRUN.out ?_); intro v' W4 hR4)
   have hlow := lowAlloc wr (Obj.cells #[.int .i64 0] 3)
   have hT4 : TK W4 R left true cs := (hT.keep hlow).grown hR4.2 (fun e => by have := HRB.out R e.symm; have := HGR.out.1; omega)
   have hk4 := (hkp.below hlow).grown hR4.2 (fun g e => by have := HRB.out g e; have := HGR.out.2.2.2; omega)
   have hs4 : w2.heap.size ≤ W4.heap.size := Nat.le_trans (Nat.le_trans hsz hlow.size) hR4.2.size
   have hrow4 : W4.ownsRow w2.heap.size 3 1 v' (ws.length + (j + 1)) (iv (ws.map Ag.refN ++ List.replicate (j + 1) 0)) := by
    have e : iv (ws.map Ag.refN ++ List.replicate (j + 1) 0) = iv (ws.map Ag.refN ++ List.replicate j 0) ++ [.int .i64 0] := by
     rw [List.replicate_succ']
     simp only [iv, List.map_append, List.map_cons, List.map_nil, List.append_assoc]
    rw [e]
    exact hR4.1
   obtain ⟨A5, c5, hsl⟩ := row_slice hrow4
   subst hsl
   constructor
   ·
    exact ⟨j + 1, Or.inr (by omega), hrow4, hT4, hk4, hs4⟩
   simp only [slLen]
   omega
  have dl : decide (((ws.length + j : Nat) : Int) < (most : Int)) = false := decide_eq_false (by omega)
  have dl2 : decide ((ws.length : Int) + (j : Int) < (most : Int)) = false := decide_eq_false (by omega)
  have hjm : j = most - ws.length := by omega
  have HJM := Lib.hid hjm
  clear hjm
  go_wp2
  go_ret
  refine ⟨_, ws.map Ag.refN ++ List.replicate j 0, rfl, ?_, ?_, ?_, ?_, hkp, ?_⟩
  ·
   have := row_more hrow HGR.out.2.2.2
   simpa using this
  ·
   have := HJM.out
   simp
   omega
  ·
   have := HJM.out
   have := HLM.out
   simp
   omega
  ·
   intro z hz
   rcases List.mem_append.1 hz with hz | hz
   ·
    obtain ⟨x, _, rfl⟩ := List.mem_map.1 hz
    exact Ag.refN_low x
   have := (List.mem_replicate.1 hz).2
   subst this
   omega
  have hsp := HSP.out
  cases hnl : Ag.numL s least most with
  | none =>
   rw [hnl] at hsp
   refine ⟨left, HLT.out, ?_⟩
   have e : true = true := HXW.out.symm.trans hsp
   exact Eq.mp (by rw [e]) hT
  | some q =>
   obtain ⟨ns, r⟩ := q
   rw [hnl] at hsp
   obtain ⟨p1, p2, p3, p4⟩ := hsp
   have e : true = bad := HXW.out.symm.trans p4
   subst p3
   refine ⟨?_, ?_⟩
   ·
    rw [p1, p2, HJM.out]
   exact Eq.mp (by rw [e]) hT
 have d1 : decide ((ws.length : Int) < (least : Int)) = false := decide_eq_false (by omega)
 by_cases h2 : most < ws.length
 ·
  have d2 : decide ((most : Int) < (ws.length : Int)) = true := decide_eq_true (by omega)
  have HXW : Hid ((b1 || ws.any (fun x => (Ag.digL x).isNone) || (decide (ws.length < least) || decide (most < ws.length))) = true) := by
   unfold Hid
   rw [decide_eq_true h2]
   simp
  have c1 := hT.c1
  have f1 := hT.fz 1
  have hT3 := hT.mark true
  have hk3 := hkp.set (p := ⟨R, 1, none⟩) rfl (.bool true)
  have hrow3 := row_set hrow (p := ⟨R, 1, none⟩) (by have := HGR.out.1; simp only; omega) (.bool true)
  have hs3 : w2.heap.size ≤ (wr.setCell ⟨R, 1, none⟩ (.bool true)).heap.size := by simpa using hsz
  go_upto_region 12 with fail
  clear c1 f1 hT hkp hrow hsz
  generalize wr.setCell ⟨R, 1, none⟩ (.bool true) = W at *
  obtain ⟨A8, c8, hsl⟩ := row_slice hrow3
  subst hsl
  go_wp2
  go_loopw [8] (fun v wr => ∃ j : Nat, (j = 0 ∨ ws.length + j ≤ most) ∧ wr.ownsRow w2.heap.size 3 1 v (ws.length + j) (iv (ws.map Ag.refN ++ List.replicate j 0)) ∧ TK wr R left true cs ∧ RKeep R w wr ∧ w2.heap.size ≤ wr.heap.size) (fun v _ => most - slLen v)
  case atStart => exact ⟨0, Or.inl rfl, by simpa using hrow3, hT3, hk3, hs3⟩
  clear hrow3 hT3 hk3 hs3
  obtain ⟨j, hj, hrow, hT, hkp, hsz⟩ := hrel
  have HWL2 := HWL.out
  obtain ⟨A9, c9, hsl⟩ := row_slice hrow
  subst hsl
  by_cases hlt : ws.length + j < most
  ·
   exfalso
   omega
  have dl : decide (((ws.length + j : Nat) : Int) < (most : Int)) = false := decide_eq_false (by omega)
  have dl2 : decide ((ws.length : Int) + (j : Int) < (most : Int)) = false := decide_eq_false (by omega)
  have hjm : j = most - ws.length := by omega
  have HJM := Lib.hid hjm
  clear hjm
  go_wp2
  go_ret
  refine ⟨_, ws.map Ag.refN ++ List.replicate j 0, rfl, ?_, ?_, ?_, ?_, hkp, ?_⟩
  ·
   have := row_more hrow HGR.out.2.2.2
   simpa using this
  ·
   have := HJM.out
   simp
   omega
  ·
   have := HJM.out
   have := HLM.out
   simp
   omega
  ·
   intro z hz
   rcases List.mem_append.1 hz with hz | hz
   ·
    obtain ⟨x, _, rfl⟩ := List.mem_map.1 hz
    exact Ag.refN_low x
   have := (List.mem_replicate.1 hz).2
   subst this
   omega
  have hsp := HSP.out
  cases hnl : Ag.numL s least most with
  | none =>
   rw [hnl] at hsp
   refine ⟨left, HLT.out, ?_⟩
   have e : true = true := HXW.out.symm.trans hsp
   exact Eq.mp (by rw [e]) hT
  | some q =>
   obtain ⟨ns, r⟩ := q
   rw [hnl] at hsp
   obtain ⟨p1, p2, p3, p4⟩ := hsp
   have e : true = bad := HXW.out.symm.trans p4
   subst p3
   refine ⟨?_, ?_⟩
   ·
    rw [p1, p2, HJM.out]
   exact Eq.mp (by rw [e]) hT
 have d2 : decide ((most : Int) < (ws.length : Int)) = false := decide_eq_false (by omega)
 have HXW : Hid ((b1 || ws.any (fun x => (Ag.digL x).isNone) || (decide (ws.length < least) || decide (most < ws.length))) = (b1 || ws.any (fun x => (Ag.digL x).isNone))) := by
  unfold Hid
  rw [decide_eq_false h1, decide_eq_false h2]
  simp
 have hT3 := hT
 have hk3 := hkp
 have hrow3 := hrow
 have hs3 := hsz
 clear hT hkp hrow hsz
 obtain ⟨A8, c8, hsl⟩ := row_slice hrow3
 subst hsl
 go_wp2
 go_loopw [8] (fun v wr => ∃ j : Nat, (j = 0 ∨ ws.length + j ≤ most) ∧ wr.ownsRow w2.heap.size 3 1 v (ws.length + j) (iv (ws.map Ag.refN ++ List.replicate j 0)) ∧ TK wr R left (b1 || ws.any (fun x => (Ag.digL x).isNone)) cs ∧ RKeep R w wr ∧ w2.heap.size ≤ wr.heap.size) (fun v _ => most - slLen v)
 case atStart => exact ⟨0, Or.inl rfl, by simpa using hrow3, hT3, hk3, hs3⟩
 clear hrow3 hT3 hk3 hs3
 obtain ⟨j, hj, hrow, hT, hkp, hsz⟩ := hrel
 have HWL2 := HWL.out
 obtain ⟨A9, c9, hsl⟩ := row_slice hrow
 subst hsl
 by_cases hlt : ws.length + j < most
 ·
  have dl : decide (((ws.length + j : Nat) : Int) < (most : Int)) = true := decide_eq_true (by omega)
  have dl2 : decide ((ws.length : Int) + (j : Int) < (most : Int)) = true := decide_eq_true (by omega)
  have HRUN : Hid _ := Lib.hid (fun ty => app_int1 wr w2.heap.size ty (.slice A9 (ws.length + j) c9) (ws.length + j) _ hrow 0 (by omega) hsz)
  have HRB := Lib.hid (row_base hrow)
  clear hrow
  go_wp2_with (at_builtin; go_loud (refine wpList_app rfl (.tmp 51) (.tmp 52) 26 rfl _ _ rfl rfl _ HRUN.out ?_); intro v' W4 hR4)
  have hlow := lowAlloc wr (Obj.cells #[.int .i64 0] 3)
  have hT4 : TK W4 R left (b1 || ws.any (fun x => (Ag.digL x).isNone)) cs := (hT.keep hlow).grown hR4.2 (fun e => by have := HRB.out R e.symm; have := HGR.out.1; omega)
  have hk4 := (hkp.below hlow).grown hR4.2 (fun g e => by have := HRB.out g e; have := HGR.out.2.2.2; omega)
  have hs4 : w2.heap.size ≤ W4.heap.size := Nat.le_trans (Nat.le_trans hsz hlow.size) hR4.2.size
  have hrow4 : W4.ownsRow w2.heap.size 3 1 v' (ws.length + (j + 1)) (iv (ws.map Ag.refN ++ List.replicate (j + 1) 0)) := by
   have e : iv (ws.map Ag.refN ++ List.replicate (j + 1) 0) = iv (ws.map Ag.refN ++ List.replicate j 0) ++ [.int .i64 0] := by
    rw [List.replicate_succ']
    simp only [iv, List.map_append, List.map_cons, List.map_nil, List.append_assoc]
   rw [e]
   exact hR4.1
  obtain ⟨A5, c5, hsl⟩ := row_slice hrow4
  subst hsl
  constructor
  ·
   exact ⟨j + 1, Or.inr (by omega), hrow4, hT4, hk4, hs4⟩
  simp only [slLen]
  omega
 have dl : decide (((ws.length + j : Nat) : Int) < (most : Int)) = false := decide_eq_false (by omega)
 have dl2 : decide ((ws.length : Int) + (j : Int) < (most : Int)) = false := decide_eq_false (by omega)
 have hjm : j = most - ws.length := by omega
 have HJM := Lib.hid hjm
 clear hjm
 go_wp2
 go_ret
 refine ⟨_, ws.map Ag.refN ++ List.replicate j 0, rfl, ?_, ?_, ?_, ?_, hkp, ?_⟩
 ·
  have := row_more hrow HGR.out.2.2.2
  simpa using this
 ·
  have := HJM.out
  simp
  omega
 ·
  have := HJM.out
  have := HLM.out
  simp
  omega
 ·
  intro z hz
  rcases List.mem_append.1 hz with hz | hz
  ·
   obtain ⟨x, _, rfl⟩ := List.mem_map.1 hz
   exact Ag.refN_low x
  have := (List.mem_replicate.1 hz).2
  subst this
  omega
 have hsp := HSP.out
 cases hnl : Ag.numL s least most with
 | none =>
  rw [hnl] at hsp
  refine ⟨left, HLT.out, ?_⟩
  have e : (b1 || ws.any (fun x => (Ag.digL x).isNone)) = true := HXW.out.symm.trans hsp
  exact Eq.mp (by rw [e]) hT
 | some q =>
  obtain ⟨ns, r⟩ := q
  rw [hnl] at hsp
  obtain ⟨p1, p2, p3, p4⟩ := hsp
  have e : (b1 || ws.any (fun x => (Ag.digL x).isNone)) = bad := HXW.out.symm.trans p4
  subst p3
  refine ⟨?_, ?_⟩
  ·
   rw [p1, p2, HJM.out]
  exact Eq.mp (by rw [e]) hT
end Go.Proofs.YtpejilhdhkmcjaaGreatDoor
