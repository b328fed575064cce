/- The reader of texts: the names. -/
import Derived.Test.YtpejilhdhkmcjaaGreatDoorJaAl
import Derived.Test.YtpejilhdhkmcjaaGreatDoorJaaw
import Derived.Test.YtpejilhdhkmcjaaGreatDoorJaat
namespace Go.Proofs.YtpejilhdhkmcjaaGreatDoor
open Go.RowKit

def nmM (xs : List Nm) (o : Option (List Nm)) : Option (List Nm) := match o with | none => none | some ys => some (xs ++ ys)
theorem names_end (f : Nat) : Ag.namesF f [] = some [] := by
 cases f <;> simp [Ag.namesF]
theorem names_step (xs : List Nm) (f : Nat) (s : Ag.Bs) (h : s ≠ []) : nmM xs (Ag.namesF (f + 1) s) = match Ag.lineS s with | none => none | some (l, r) => if l = [99] then some xs else match Ag.nameS l with | none => none | some x => nmM (xs ++ [x]) (Ag.namesF f r) := by
 rw [Ag.namesF, if_neg h]
 cases Ag.lineS s with
 | none => rfl
 | some q =>
  obtain ⟨l, r⟩ := q
  simp only
  by_cases hl : l = [99]
  ·
   rw [if_pos hl, if_pos hl]
   simp [nmM]
  rw [if_neg hl, if_neg hl]
  cases Ag.nameS l with
  | none => rfl
  | some x =>
   simp only
   cases Ag.namesF f r with
   | none => rfl
   | some ys => simp [nmM]
/-- Names are read, or the reading ends. -/
def NamesP (R : Nat) (k : Int) (w : World) (o : Option (List Nm)) (e : Ending) (w' : World) : Prop :=
 match o with
 | none => e = faultE k ∧ RKeep R w w'
 | some xs => ∃ v s', e = .returned v ∧ w'.ownsRow w.heap.size 69 3 v xs.length (flatN xs) ∧ RB w' R s' k ∧ RKeep R w w'
set_option maxRecDepth 10000 in
set_option maxHeartbeats 4000000 in
theorem rnames_any (R : Nat) (s : Ag.Bs) (k : Int) (B : Nat) (w : World) (h : RB w R ⟨s.toArray⟩ k) (hs : s.length ≤ 90000) (hA : Amb B w) (hR : B ≤ R) :
  Calls Tryz.prog 67 #[.pointer (some ⟨R, 0, none⟩)] w (NamesP R k w (Ag.namesF s.length s)) := by
 have HC0 : Hid (Ag.namesF s.length s = nmM [] (Ag.namesF s.length s)) := by
  unfold Hid nmM
  cases Ag.namesF s.length s with
  | none => rfl
  | some q => rfl
 have HRZ : Hid (R < w.heap.size) := Blk.lt h
 obtain ⟨o, ho⟩ : ∃ o, o = Ag.namesF s.length s := ⟨_, rfl⟩
 rw [← ho]
 have HO := Lib.hid (ho.trans HC0.out)
 clear ho HC0
 go_enter Tryz.func67, Tryz.ntmps67
 go_wp2
 go_loopw [3, 4] (fun v _ wr => ∃ (xs : List Nm) (s' : Ag.Bs) (f : Nat), o = nmM xs (Ag.namesF f s') ∧ s'.length ≤ f ∧ xs.length + s'.length ≤ 90000 ∧ wr.ownsRow w.heap.size 69 3 v xs.length (flatN xs) ∧ RB wr R ⟨s'.toArray⟩ k ∧ RKeep R w wr) (fun _ _ wr => leftLen R wr)
 case atStart => exact ⟨[], s, s.length, HO.out, Nat.le_refl _, by simpa using hs, World.ownsRow_nil w _ _ _, h, RKeep.refl _ _⟩
 clear h
 obtain ⟨xs, s', f, hco, hsf, hxs, hrow, hrb, hk⟩ := hrel
 have HCO := Lib.hid hco
 have HLW := Lib.hid (left_len hrb)
 clear hco
 have c0 := Blk.cell hrb 0
 simp only [zD, zE] at c0
 have hsz : (⟨s'.toArray⟩ : ByteArray).size = s'.length := by simp [ByteArray.size]
 by_cases he : s' = []
 ·
  subst he
  have HE : Hid (o = some xs) := by
   unfold Hid
   rw [HCO.out, names_end]
   simp [nmM]
  go_wp2
  go_ret
  rw [HE.out]
  exact ⟨_, _, rfl, hrow, hrb, hk⟩
 have hpos : 0 < s'.length := List.length_pos_iff.2 he
 obtain ⟨f', rfl⟩ : ∃ f', f = f' + 1 := ⟨f - 1, by omega⟩
 have HST := Lib.hid (names_step xs f' s' he)
 have HL := Lib.hid (line_any R s' k wr hrb (by omega))
 have hd : decide ((0 : Int) < ((⟨s'.toArray⟩ : ByteArray).size : Int)) = true := decide_eq_true (by omega)
 have hd2 : decide ((0 : Int) < (s'.length : Int)) = true := decide_eq_true (by omega)
 have hd3 : (0 : Int) < (s'.length : Int) := by omega
 clear he
 go_wp2_with fail
 refine HL.out.mono ?_
 intro e w2 hP
 unfold LineP at hP
 have HON : Hid (o = match Ag.lineS s' with | none => none | some (l, r) => if l = [99] then some xs else match Ag.nameS l with | none => none | some x => nmM (xs ++ [x]) (Ag.namesF f' r)) := by
  unfold Hid
  rw [HCO.out, HST.out]
 cases hli : Ag.lineS s' with
 | none =>
  rw [hli] at hP HON
  obtain ⟨rfl, hk2⟩ := hP
  have HE : Hid (o = none) := HON.out
  exact ⟨rfl, by rw [HE.out]; exact ⟨rfl, hk.trans hk2⟩⟩
 | some q =>
  obtain ⟨l, r⟩ := q
  have hll := congrArg List.length (Ag.line_some hli).1
  simp only [List.length_append, List.length_cons] at hll
  rw [hli] at hP HON
  simp only at hP HON
  obtain ⟨rfl, hrb2, hk2⟩ := hP
  have hkt := hk.trans hk2
  have hrow2 : w2.ownsRow w.heap.size 69 3 u3 xs.length (flatN xs) := by
   refine ⟨hrow.1, ?_⟩
   rcases hrow.2 with h2 | ⟨g', cap, cur, he, hbs, hh, rr⟩
   ·
    exact Or.inl h2
   exact Or.inr ⟨g', cap, cur, he, hbs, (hk2.blk g' (Blk.lt (t := 69) hh) (by have := HRZ.out; omega)).trans hh, rr⟩
  have HLL := Lib.hid hll
  clear hrow hrb hk hk2 c0 hll HL HST HCO hli
  by_cases hc : l = [99]
  ·
   have HE : Hid (o = some xs) := by
    unfold Hid
    rw [HON.out, if_pos hc]
   have dc : (l == [99]) = true := by rw [hc]; rfl
   clear hc
   go_wp2
   go_ret
   rw [HE.out]
   exact ⟨_, _, rfl, hrow2, hrb2, hkt⟩
  have dc : (l == [99]) = false := beq_eq_false_iff_ne.2 hc
  have HN := Lib.hid (rname_any R ⟨r.toArray⟩ l k B w2 hrb2 (by have := HLL.out; omega) (hA.keep hkt hR) hR)
  rw [if_neg hc] at HON
  clear hc
  go_wp2_with fail
  refine HN.out.mono ?_
  intro e w3 hP
  unfold NameP at hP
  cases hnm : Ag.nameS l with
  | none =>
   rw [hnm] at hP HON
   obtain ⟨rfl, hk3⟩ := hP
   have HE : Hid (o = none) := HON.out
   exact ⟨rfl, by rw [HE.out]; exact ⟨rfl, hkt.trans hk3⟩⟩
  | some x =>
   rw [hnm] at hP HON
   simp only at hP HON
   obtain ⟨rfl, hrb3, hk3⟩ := hP
   have hrow3 : w3.ownsRow w.heap.size 69 3 u3 xs.length (flatN xs) := by
    refine ⟨hrow2.1, ?_⟩
    rcases hrow2.2 with h2 | ⟨g', cap, cur, he, hbs, hh, rr⟩
    ·
     exact Or.inl h2
    exact Or.inr ⟨g', cap, cur, he, hbs, (hk3.blk g' (Blk.lt (t := 69) hh) (by have := HRZ.out; omega)).trans hh, rr⟩
   have hkt3 := hkt.trans hk3
   obtain ⟨x1, x2, x3⟩ := x
   simp only
   have hx3 : w.heap.size ≤ w3.heap.size := hkt3.size
   have hbk := Blk.new w3 69 #[.int .u8 x1, .int .i64 x2, .string x3]
   have hlow := lowAlloc w3 (Obj.cells #[.int .u8 x1, .int .i64 x2, .string x3] 69)
   have hrow4 := World.ownsRow.alloc hrow3 (Obj.cells #[.int .u8 x1, .int .i64 x2, .string x3] 69)
   have hrb4 : RB (w3.alloc (Obj.cells #[.int .u8 x1, .int .i64 x2, .string x3] 69)) R ⟨r.toArray⟩ k := Blk.alloc hrb3 _
   have hk4 := hkt3.below hlow
   have HRUN : Hid (∀ ty, ∃ v' w', (Builtin.append_ #[27, 27] ty #[u3, .slice (some ⟨w3.heap.size, 0, none⟩) 1 1]).run Tryz.prog (w3.alloc (Obj.cells #[.int .u8 x1, .int .i64 x2, .string x3] 69)) = .ok v' w' ∧ (w'.ownsRow w.heap.size 69 3 v' (xs.length + 1) (flatN xs ++ [.int .u8 x1, .int .i64 x2, .string x3]) ∧ (w3.alloc (Obj.cells #[.int .u8 x1, .int .i64 x2, .string x3] 69)).grownBy w' u3.ownBlock)) := by
    intro ty
    obtain ⟨v', w', r1, r2, r3, _⟩ := app_name (w3.alloc (Obj.cells #[.int .u8 x1, .int .i64 x2, .string x3] 69)) w.heap.size ty u3 xs.length _ hrow4 w3.heap.size 1 x1 x2 x3 hbk (by omega) (by simp; omega)
    exact ⟨v', w', r1, r2, r3⟩
   have HRB := Lib.hid (row_base hrow4)
   have HHX := Lib.hid hxs
   clear hbk hrow4 hrow3 hrow2 hrb3 hrb2 hkt hkt3 hk3 hlow HN hxs
   go_wp2_with (at_builtin; go_loud (refine wpList_app rfl (.tmp 15) (.tmp 19) 27 rfl _ _ rfl rfl _ HRUN.out ?_); intro v' W4 hR4)
   have hrb5 := hrb4.grown hR4.2 (fun e => by have := HRB.out R e.symm; have := HRZ.out; omega)
   have hk5 := hk4.grown hR4.2 (fun g e => HRB.out g e)
   have hrow5 : W4.ownsRow w.heap.size 69 3 v' (xs ++ [(x1, x2, x3)]).length (flatN (xs ++ [(x1, x2, x3)])) := by
    rw [flatN_append, List.length_append]
    exact hR4.1
   have hl1 := HLL.out
   have hl2 := HHX.out
   refine ⟨⟨xs ++ [(x1, x2, x3)], r, f', HON.out, by omega, by simp; omega, hrow5, hrb5, hk5⟩, ?_⟩
   rw [left_len hrb5, HLW.out]
   omega
end Go.Proofs.YtpejilhdhkmcjaaGreatDoor
/- The reader of texts: the signals that are literals and no more. -/
namespace Go.Proofs.YtpejilhdhkmcjaaGreatDoor
open Go.RowKit

/-- A slice of numbers in memory behind a bound. -/
def NRow (w : World) (lo : Nat) (v : Value) (zs : List Int) : Prop := ∃ A c, v = .slice A zs.length c ∧ Vs w w.heap.size A (iv zs) ∧ ∀ ad, A = some ad → lo ≤ ad.block
theorem row_of {w : World} {lo : Nat} {v : Value} {zs : List Int} (h : w.ownsRow lo 3 1 v zs.length (iv zs)) : NRow w lo v zs := by
 obtain ⟨A, c, e, hV⟩ := int_vs h
 exact ⟨A, c, e, hV, fun ad ha => row_base h ad.block (by rw [e, ha]; rfl)⟩
theorem NRow.kept {w w' : World} {lo : Nat} {v : Value} {zs : List Int} (h : NRow w lo v zs) (hs : w.heap.size ≤ w'.heap.size) (hk : ∀ b, lo ≤ b → b < w.heap.size → w'.heap[b]? = w.heap[b]?) : NRow w' lo v zs := by
 obtain ⟨A, c, e, hV, ha⟩ := h
 refine ⟨A, c, e, fun j hj => ?_, ha⟩
 obtain ⟨b, off, rfl, hb, hc⟩ := hV j hj
 exact ⟨b, off, rfl, by omega, (World.cell?_of_block (w := w) (a := ⟨b, _, none⟩) (hk b (ha _ rfl) hb)).trans hc⟩
theorem NRow.keep {w w' : World} {lo R : Nat} {v : Value} {zs : List Int} (h : NRow w lo v zs) (hk : RKeep R w w') (hR : R < lo) : NRow w' lo v zs := h.kept hk.size (fun b hb hl => hk.blk b hl (by omega))
theorem NRow.set {w : World} {lo : Nat} {v : Value} {zs : List Int} (h : NRow w lo v zs) {p : Addr} (hp : p.block < lo) (u : Value) : NRow (w.setCell p u) lo v zs := h.kept (by simp) (fun b hb _ => Below.heap_setCell w p u b (by omega))
theorem NRow.more {w : World} {lo lo' : Nat} {v : Value} {zs : List Int} (h : NRow w lo v zs) (hl : lo' ≤ lo) : NRow w lo' v zs := by
 obtain ⟨A, c, e, hV, ha⟩ := h
 exact ⟨A, c, e, hV, fun ad he => Nat.le_trans hl (ha ad he)⟩
/-- Every block but the reader's and the circuit's stays as it was. -/
structure RCKeep (R C : Nat) (w w' : World) : Prop where
 os : w'.os = w.os
 tape : w'.tape = w.tape
 output : w'.output = w.output
 size : w.heap.size ≤ w'.heap.size
 blk : ∀ b, b < w.heap.size → b ≠ R → b ≠ C → w'.heap[b]? = w.heap[b]?
theorem RCKeep.refl (R C : Nat) (w : World) : RCKeep R C w w := ⟨rfl, rfl, rfl, Nat.le_refl _, fun _ _ _ _ => rfl⟩
theorem RCKeep.keep {R C : Nat} {a b c : World} (h : RCKeep R C a b) (k : RKeep R b c) : RCKeep R C a c :=
 ⟨k.os.trans h.os, k.tape.trans h.tape, k.output.trans h.output, Nat.le_trans h.size k.size, fun i hi hn hm => (k.blk i (Nat.lt_of_lt_of_le hi h.size) hn).trans (h.blk i hi hn hm)⟩
theorem RCKeep.set {R C : Nat} {a b : World} (h : RCKeep R C a b) {p : Addr} (hp : p.block = C) (u : Value) : RCKeep R C a (b.setCell p u) :=
 ⟨h.os, h.tape, h.output, by simpa using h.size, fun i hi hn hm => (Below.heap_setCell b p u i (fun e => hm (by omega))).trans (h.blk i hi hn hm)⟩
theorem RCKeep.low {R C B : Nat} {w w' : World} (h : RCKeep R C w w') (hB : B ≤ w.heap.size) (hR : B ≤ R) (hC : B ≤ C) : Below B w w' := ⟨h.os, h.tape, h.output, h.size, fun i hi => h.blk i (by omega) (by omega) (by omega)⟩
/-- The signals are read, or the reading ends. -/
def SigsP (R C : Nat) (k : Int) (w : World) (x0 x1 x2 x7 : Value) (o : Option ((List Int × List Int × List Int × List Int) × Ag.Bs)) (e : Ending) (w' : World) : Prop :=
 match o with
 | none => e = faultE k ∧ RCKeep R C w w'
 | some ((os, bs, cs, fs), r) => ∃ vO vB vC vF, e = .returned (.tuple #[]) ∧ Blk w' C 29 #[x0, x1, x2, vO, vB, vC, vF, x7] ∧ NRow w' w.heap.size vO os ∧ NRow w' w.heap.size vB bs ∧ NRow w' w.heap.size vC cs ∧ NRow w' w.heap.size vF fs ∧ RB w' R ⟨r.toArray⟩ k ∧ RCKeep R C w w'
theorem col_short {n : Nat} {s r : Ag.Bs} {zs : List Int} (h : Ag.colS n s = some (zs, r)) : r.length ≤ s.length := by
 have := congrArg List.length (Ag.col_eq n s r zs h).2
 simp at this
 omega
set_option maxRecDepth 10000 in
set_option maxHeartbeats 4000000 in
theorem rsignals_any (R C : Nat) (s : Ag.Bs) (k : Int) (B : Nat) (m0 m1 m2 m3 m4 m5 m6 m7 m8 : Nat) (x0 x1 x2 x3 x4 x5 x6 x7 : Value) (w : World) (h : RB w R ⟨s.toArray⟩ k) (hs : s.length ≤ 100000) (hA : Amb B w) (hR : B ≤ R) (hC : B ≤ C) (hRC : R ≠ C)
  (hbx : Blk w C 29 #[x0, x1, x2, x3, x4, x5, x6, x7]) (h3 : m3 ≤ 2000) (h5 : m5 ≤ 2000) (h6 : m6 ≤ 2000) (h8 : m8 ≤ 2000) :
  Calls Tryz.prog 66 #[.pointer (some ⟨R, 0, none⟩), .agg #[.int .i64 (m0 : Int), .int .i64 (m1 : Int), .int .i64 (m2 : Int), .int .i64 (m3 : Int), .int .i64 (m4 : Int), .int .i64 (m5 : Int), .int .i64 (m6 : Int), .int .i64 (m7 : Int), .int .i64 (m8 : Int)], .pointer (some ⟨C, 0, none⟩)] w (SigsP R C k w x0 x1 x2 x7 (Ag.sigsS [m0, m1, m2, m3, m4, m5, m6, m7, m8] s)) := by
 have HSG : Hid (Ag.sigsS [m0, m1, m2, m3, m4, m5, m6, m7, m8] s = match Ag.colS m3 s with
  | none => none
  | some (os, r1) => match Ag.colS m5 r1 with
   | none => none
   | some (bs, r2) => match Ag.colS m6 r2 with
    | none => none
    | some (cs, r3) => match Ag.colS m8 r3 with
     | none => none
     | some (fs, r4) => some ((os, bs, cs, fs), r4)) := rfl
 generalize Ag.sigsS [m0, m1, m2, m3, m4, m5, m6, m7, m8] s = o at *
 have hR0 : R < w.heap.size := Blk.lt h
 have hC0 : C < w.heap.size := hbx.lt
 go_enter Tryz.func66, Tryz.ntmps66
 have lo := lowAlloc w (Obj.cells #[.int .i64 (m0 : Int), .int .i64 (m1 : Int), .int .i64 (m2 : Int), .int .i64 (m3 : Int), .int .i64 (m4 : Int), .int .i64 (m5 : Int), .int .i64 (m6 : Int), .int .i64 (m7 : Int), .int .i64 (m8 : Int)] 87)
 have hsz := Blk.new w 87 #[.int .i64 (m0 : Int), .int .i64 (m1 : Int), .int .i64 (m2 : Int), .int .i64 (m3 : Int), .int .i64 (m4 : Int), .int .i64 (m5 : Int), .int .i64 (m6 : Int), .int .i64 (m7 : Int), .int .i64 (m8 : Int)]
 have hk0 : RCKeep R C w (w.alloc (Obj.cells #[.int .i64 (m0 : Int), .int .i64 (m1 : Int), .int .i64 (m2 : Int), .int .i64 (m3 : Int), .int .i64 (m4 : Int), .int .i64 (m5 : Int), .int .i64 (m6 : Int), .int .i64 (m7 : Int), .int .i64 (m8 : Int)] 87)) := (RCKeep.refl R C w).keep ((RKeep.refl R w).below lo)
 have hrb0 : RB (w.alloc (Obj.cells #[.int .i64 (m0 : Int), .int .i64 (m1 : Int), .int .i64 (m2 : Int), .int .i64 (m3 : Int), .int .i64 (m4 : Int), .int .i64 (m5 : Int), .int .i64 (m6 : Int), .int .i64 (m7 : Int), .int .i64 (m8 : Int)] 87)) R ⟨s.toArray⟩ k := Blk.alloc h _
 have hbx0 := hbx.alloc (Obj.cells #[.int .i64 (m0 : Int), .int .i64 (m1 : Int), .int .i64 (m2 : Int), .int .i64 (m3 : Int), .int .i64 (m4 : Int), .int .i64 (m5 : Int), .int .i64 (m6 : Int), .int .i64 (m7 : Int), .int .i64 (m8 : Int)] 87)
 have hl0 := hs
 clear h hbx lo hs
 go_wp2_with fail
 generalize w.alloc (Obj.cells #[.int .i64 (m0 : Int), .int .i64 (m1 : Int), .int .i64 (m2 : Int), .int .i64 (m3 : Int), .int .i64 (m4 : Int), .int .i64 (m5 : Int), .int .i64 (m6 : Int), .int .i64 (m7 : Int), .int .i64 (m8 : Int)] 87) = V0 at *
 refine (literals_any R s k B m3 V0 hrb0 hl0 (hA.on (hk0.low hA.le hR hC)) hR h3).mono ?_
 intro e W0 hP
 cases hc0 : Ag.colS m3 s with
 | none =>
  rw [hc0] at hP
  obtain ⟨rfl, hkk⟩ := hP
  have HE : Hid (o = none) := by
   unfold Hid
   rw [HSG.out]
   simp only [hc0]
  exact ⟨rfl, by rw [HE.out]; exact ⟨rfl, hk0.keep hkk⟩⟩
 | some p0 =>
  obtain ⟨os, r1⟩ := p0
  rw [hc0] at hP
  obtain ⟨v0, rfl, hrow0, hrbw0, hkw0⟩ := hP
  obtain ⟨A0, q0, rfl⟩ := row_slice hrow0
  have hl1 : r1.length ≤ 100000 := Nat.le_trans (col_short hc0) hl0
  have hbw0 := hkw0.blkOf hbx0 (Ne.symm hRC)
  have hszw0 := hkw0.blkOf hsz (by omega)
  have hsv0 : w.heap.size ≤ V0.heap.size := hk0.size
  have hn0 : NRow W0 w.heap.size (.slice A0 os.length q0) os := (row_of hrow0).more hsv0
  have cf := hbw0.cell 3
  have ff := hbw0.frozen 3
  simp only [zD, zE, zF] at cf
  have hbx1 : Blk (W0.setCell ⟨C, 3, none⟩ (.slice A0 os.length q0)) C 29 #[x0, x1, x2, (.slice A0 os.length q0), x4, x5, x6, x7] := hbw0.put 3 (.slice A0 os.length q0)
  have hrb1 : RB (W0.setCell ⟨C, 3, none⟩ (.slice A0 os.length q0)) R ⟨r1.toArray⟩ k := hrbw0.far (p := ⟨C, 3, none⟩) hRC (.slice A0 os.length q0)
  have hk1 : RCKeep R C w (W0.setCell ⟨C, 3, none⟩ (.slice A0 os.length q0)) := (hk0.keep hkw0).set (p := ⟨C, 3, none⟩) rfl (.slice A0 os.length q0)
  replace hsz := hszw0.far (p := ⟨C, 3, none⟩) (by simp only; omega) (.slice A0 os.length q0)
  replace hn0 := hn0.set (p := ⟨C, 3, none⟩) hC0 (.slice A0 os.length q0)
  have cz := hsz.cell 5
  simp only [zD, zE, zF] at cz
  clear hrow0 hbw0 hszw0
  go_wp2_with fail
  (try clear cf); (try clear ff); (try clear cz)
  generalize W0.setCell ⟨C, 3, none⟩ (.slice A0 os.length q0) = V1 at *
  refine (literals_any R r1 k B m5 V1 hrb1 hl1 (hA.on (hk1.low hA.le hR hC)) hR h5).mono ?_
  intro e W1 hP
  cases hc1 : Ag.colS m5 r1 with
  | none =>
   rw [hc1] at hP
   obtain ⟨rfl, hkk⟩ := hP
   have HE : Hid (o = none) := by
    unfold Hid
    rw [HSG.out]
    simp only [hc0, hc1]
   exact ⟨rfl, by rw [HE.out]; exact ⟨rfl, hk1.keep hkk⟩⟩
  | some p1 =>
   obtain ⟨bs, r2⟩ := p1
   rw [hc1] at hP
   obtain ⟨v1, rfl, hrow1, hrbw1, hkw1⟩ := hP
   obtain ⟨A1, q1, rfl⟩ := row_slice hrow1
   have hl2 : r2.length ≤ 100000 := Nat.le_trans (col_short hc1) hl1
   have hbw1 := hkw1.blkOf hbx1 (Ne.symm hRC)
   have hszw1 := hkw1.blkOf hsz (by omega)
   have hsv1 : w.heap.size ≤ V1.heap.size := hk1.size
   have hn1 : NRow W1 w.heap.size (.slice A1 bs.length q1) bs := (row_of hrow1).more hsv1
   replace hn0 := hn0.keep hkw1 hR0
   have cf := hbw1.cell 4
   have ff := hbw1.frozen 4
   simp only [zD, zE, zF] at cf
   have hbx2 : Blk (W1.setCell ⟨C, 4, none⟩ (.slice A1 bs.length q1)) C 29 #[x0, x1, x2, (.slice A0 os.length q0), (.slice A1 bs.length q1), x5, x6, x7] := hbw1.put 4 (.slice A1 bs.length q1)
   have hrb2 : RB (W1.setCell ⟨C, 4, none⟩ (.slice A1 bs.length q1)) R ⟨r2.toArray⟩ k := hrbw1.far (p := ⟨C, 4, none⟩) hRC (.slice A1 bs.length q1)
   have hk2 : RCKeep R C w (W1.setCell ⟨C, 4, none⟩ (.slice A1 bs.length q1)) := (hk1.keep hkw1).set (p := ⟨C, 4, none⟩) rfl (.slice A1 bs.length q1)
   replace hsz := hszw1.far (p := ⟨C, 4, none⟩) (by simp only; omega) (.slice A1 bs.length q1)
   replace hn0 := hn0.set (p := ⟨C, 4, none⟩) hC0 (.slice A1 bs.length q1)
   replace hn1 := hn1.set (p := ⟨C, 4, none⟩) hC0 (.slice A1 bs.length q1)
   have cz := hsz.cell 6
   simp only [zD, zE, zF] at cz
   clear hrow1 hbw1 hszw1
   go_wp2_with fail
   (try clear cf); (try clear ff); (try clear cz)
   generalize W1.setCell ⟨C, 4, none⟩ (.slice A1 bs.length q1) = V2 at *
   refine (literals_any R r2 k B m6 V2 hrb2 hl2 (hA.on (hk2.low hA.le hR hC)) hR h6).mono ?_
   intro e W2 hP
   cases hc2 : Ag.colS m6 r2 with
   | none =>
    rw [hc2] at hP
    obtain ⟨rfl, hkk⟩ := hP
    have HE : Hid (o = none) := by
     unfold Hid
     rw [HSG.out]
     simp only [hc0, hc1, hc2]
    exact ⟨rfl, by rw [HE.out]; exact ⟨rfl, hk2.keep hkk⟩⟩
   | some p2 =>
    obtain ⟨cs, r3⟩ := p2
    rw [hc2] at hP
    obtain ⟨v2, rfl, hrow2, hrbw2, hkw2⟩ := hP
    obtain ⟨A2, q2, rfl⟩ := row_slice hrow2
    have hl3 : r3.length ≤ 100000 := Nat.le_trans (col_short hc2) hl2
    have hbw2 := hkw2.blkOf hbx2 (Ne.symm hRC)
    have hszw2 := hkw2.blkOf hsz (by omega)
    have hsv2 : w.heap.size ≤ V2.heap.size := hk2.size
    have hn2 : NRow W2 w.heap.size (.slice A2 cs.length q2) cs := (row_of hrow2).more hsv2
    replace hn0 := hn0.keep hkw2 hR0
    replace hn1 := hn1.keep hkw2 hR0
    have cf := hbw2.cell 5
    have ff := hbw2.frozen 5
    simp only [zD, zE, zF] at cf
    have hbx3 : Blk (W2.setCell ⟨C, 5, none⟩ (.slice A2 cs.length q2)) C 29 #[x0, x1, x2, (.slice A0 os.length q0), (.slice A1 bs.length q1), (.slice A2 cs.length q2), x6, x7] := hbw2.put 5 (.slice A2 cs.length q2)
    have hrb3 : RB (W2.setCell ⟨C, 5, none⟩ (.slice A2 cs.length q2)) R ⟨r3.toArray⟩ k := hrbw2.far (p := ⟨C, 5, none⟩) hRC (.slice A2 cs.length q2)
    have hk3 : RCKeep R C w (W2.setCell ⟨C, 5, none⟩ (.slice A2 cs.length q2)) := (hk2.keep hkw2).set (p := ⟨C, 5, none⟩) rfl (.slice A2 cs.length q2)
    replace hsz := hszw2.far (p := ⟨C, 5, none⟩) (by simp only; omega) (.slice A2 cs.length q2)
    replace hn0 := hn0.set (p := ⟨C, 5, none⟩) hC0 (.slice A2 cs.length q2)
    replace hn1 := hn1.set (p := ⟨C, 5, none⟩) hC0 (.slice A2 cs.length q2)
    replace hn2 := hn2.set (p := ⟨C, 5, none⟩) hC0 (.slice A2 cs.length q2)
    have cz := hsz.cell 8
    simp only [zD, zE, zF] at cz
    clear hrow2 hbw2 hszw2
    go_wp2_with fail
    (try clear cf); (try clear ff); (try clear cz)
    generalize W2.setCell ⟨C, 5, none⟩ (.slice A2 cs.length q2) = V3 at *
    refine (literals_any R r3 k B m8 V3 hrb3 hl3 (hA.on (hk3.low hA.le hR hC)) hR h8).mono ?_
    intro e W3 hP
    cases hc3 : Ag.colS m8 r3 with
    | none =>
     rw [hc3] at hP
     obtain ⟨rfl, hkk⟩ := hP
     have HE : Hid (o = none) := by
      unfold Hid
      rw [HSG.out]
      simp only [hc0, hc1, hc2, hc3]
     exact ⟨rfl, by rw [HE.out]; exact ⟨rfl, hk3.keep hkk⟩⟩
    | some p3 =>
     obtain ⟨fs, r4⟩ := p3
     rw [hc3] at hP
     obtain ⟨v3, rfl, hrow3, hrbw3, hkw3⟩ := hP
     obtain ⟨A3, q3, rfl⟩ := row_slice hrow3
     have hl4 : r4.length ≤ 100000 := Nat.le_trans (col_short hc3) hl3
     have hbw3 := hkw3.blkOf hbx3 (Ne.symm hRC)
     have hszw3 := hkw3.blkOf hsz (by omega)
     have hsv3 : w.heap.size ≤ V3.heap.size := hk3.size
     have hn3 : NRow W3 w.heap.size (.slice A3 fs.length q3) fs := (row_of hrow3).more hsv3
     replace hn0 := hn0.keep hkw3 hR0
     replace hn1 := hn1.keep hkw3 hR0
     replace hn2 := hn2.keep hkw3 hR0
     have cf := hbw3.cell 6
     have ff := hbw3.frozen 6
     simp only [zD, zE, zF] at cf
     have hbx4 : Blk (W3.setCell ⟨C, 6, none⟩ (.slice A3 fs.length q3)) C 29 #[x0, x1, x2, (.slice A0 os.length q0), (.slice A1 bs.length q1), (.slice A2 cs.length q2), (.slice A3 fs.length q3), x7] := hbw3.put 6 (.slice A3 fs.length q3)
     have hrb4 : RB (W3.setCell ⟨C, 6, none⟩ (.slice A3 fs.length q3)) R ⟨r4.toArray⟩ k := hrbw3.far (p := ⟨C, 6, none⟩) hRC (.slice A3 fs.length q3)
     have hk4 : RCKeep R C w (W3.setCell ⟨C, 6, none⟩ (.slice A3 fs.length q3)) := (hk3.keep hkw3).set (p := ⟨C, 6, none⟩) rfl (.slice A3 fs.length q3)
     replace hsz := hszw3.far (p := ⟨C, 6, none⟩) (by simp only; omega) (.slice A3 fs.length q3)
     replace hn0 := hn0.set (p := ⟨C, 6, none⟩) hC0 (.slice A3 fs.length q3)
     replace hn1 := hn1.set (p := ⟨C, 6, none⟩) hC0 (.slice A3 fs.length q3)
     replace hn2 := hn2.set (p := ⟨C, 6, none⟩) hC0 (.slice A3 fs.length q3)
     replace hn3 := hn3.set (p := ⟨C, 6, none⟩) hC0 (.slice A3 fs.length q3)
     have HE : Hid (o = some ((os, bs, cs, fs), r4)) := by
      unfold Hid
      rw [HSG.out]
      simp only [hc0, hc1, hc2, hc3]
     go_wp2
     go_end0
     rw [HE.out]
     exact ⟨_, _, _, _, rfl, hbx4, hn0, hn1, hn2, hn3, hrb4, hk4⟩
end Go.Proofs.YtpejilhdhkmcjaaGreatDoor
