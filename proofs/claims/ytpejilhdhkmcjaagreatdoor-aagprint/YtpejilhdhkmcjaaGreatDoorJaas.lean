/- The reader of texts: a line. -/
import Derived.Test.YtpejilhdhkmcjaaGreatDoorJaAl
import Derived.Test.YtpejilhdhkmcjaaGreatDoorJaaq
import Derived.Test.YtpejilhdhkmcjaaGreatDoorJaar
import Derived.Test.YtpejilhdhkmcjaaGreatDoorJaal
import Derived.Test.YtpejilhdhkmcjaaGreatDoorJaSh
import Derived.Lib.SmallJoins
namespace Go.Proofs.YtpejilhdhkmcjaaGreatDoor
open Go.RowKit

theorem extract_tail (b : UInt8) (t : Ag.Bs) : (⟨(b :: t).toArray⟩ : ByteArray).extract 1 (⟨(b :: t).toArray⟩ : ByteArray).size = ⟨t.toArray⟩ := by
 apply ByteArray.ext
 simp [ByteArray.data_extract, ByteArray.size]
theorem Byte_list (R : Nat) (b : UInt8) (t : Ag.Bs) (k : Int) (w : World) (h : RB w R ⟨(b :: t).toArray⟩ k) (hm : t.length ≤ 100000) : Calls Tryz.prog 106 #[.pointer (some ⟨R, 0, none⟩)] w fun e w' => e = .returned (.int .u8 (b.toNat : Int)) ∧ w' = w.setCell ⟨R, 0, none⟩ (.string ⟨t.toArray⟩) := by
 have hs : 0 < (⟨(b :: t).toArray⟩ : ByteArray).size := by simp [ByteArray.size]
 have := Byte_ok R ⟨(b :: t).toArray⟩ k w h hs (by simp [ByteArray.size, maxLen]; omega)
 rw [extract_tail] at this
 exact this
theorem Byte_nil (R : Nat) (k : Int) (w : World) (h : RB w R ⟨([] : Ag.Bs).toArray⟩ k) : Calls Tryz.prog 106 #[.pointer (some ⟨R, 0, none⟩)] w fun e w' => e = faultE k ∧ w = w' := Byte_end R _ k w h rfl
def leftLen (R : Nat) (w : World) : Nat := match w.cell? ⟨R, 0, none⟩ with | some (.string s) => s.size | _ => 0
theorem left_len {w : World} {R : Nat} {t : Ag.Bs} {k : Int} (h : RB w R ⟨t.toArray⟩ k) : leftLen R w = t.length := by
 unfold leftLen
 have c0 := Blk.cell h 0
 simp only [zD, zE] at c0
 rw [c0]
 simp [ByteArray.size]
theorem line_open {l : Ag.Bs} (h : ∀ b ∈ l, b ≠ 10) : Ag.lineS l = none := by
 induction l with
 | nil => rfl
 | cons a t ih =>
  have ha : a ≠ 10 := h a (by simp)
  rw [Ag.lineS, if_neg ha, ih (fun b hb => h b (by simp [hb]))]
/-- A line is read, or the reading ends. -/
def LineP (R : Nat) (k : Int) (w : World) (o : Option (Ag.Bs × Ag.Bs)) (e : Ending) (w' : World) : Prop :=
 match o with
 | some (l, r) => e = .returned (.string ⟨l.toArray⟩) ∧ RB w' R ⟨r.toArray⟩ k ∧ RKeep R w w'
 | none => e = faultE k ∧ RKeep R w w'
set_option maxRecDepth 10000 in
set_option maxHeartbeats 4000000 in
theorem line_any (R : Nat) (s : Ag.Bs) (k : Int) (w : World) (h : RB w R ⟨s.toArray⟩ k) (hs : s.length ≤ 100000) : Calls Tryz.prog 93 #[.pointer (some ⟨R, 0, none⟩)] w (LineP R k w (Ag.lineS s)) := by
 have hR : R < w.heap.size := Blk.lt h
 generalize hlo : Ag.lineS s = o at *
 have HLO := Lib.hid hlo
 clear hlo
 go_enter Tryz.func93, Tryz.ntmps93
 go_wp2_with fail
 cases s with
 | nil =>
  refine (Byte_nil R k w h).mono ?_
  rintro e w1 ⟨rfl, rfl⟩
  have : o = none := HLO.out.symm.trans rfl
  subst this
  exact ⟨rfl, rfl, RKeep.refl _ _⟩
 | cons b0 t0 =>
  have ht0 : t0.length ≤ 100000 := by simp at hs; omega
  refine (Byte_list R b0 t0 k w h ht0).mono ?_
  rintro e w1 ⟨rfl, hw1⟩
  have hrb := h.put ⟨t0.toArray⟩
  rw [← hw1] at hrb
  have hk : RKeep R w w1 := by rw [hw1]; exact (RKeep.refl R w).set rfl _
  clear hw1 h
  go_wp2
  go_loopw [3, 4] (fun v c wr => ∃ (l : Ag.Bs) (b : UInt8) (t : Ag.Bs), c = .int .u8 (b.toNat : Int) ∧ b0 :: t0 = l ++ b :: t ∧ (∀ x ∈ l, x ≠ 10) ∧ wr.ownsRow w.heap.size 5 1 v l.length (Lib.byteCells l) ∧ RB wr R ⟨t.toArray⟩ k ∧ RKeep R w wr) (fun _ _ wr => leftLen R wr)
  case atStart => exact ⟨[], b0, t0, rfl, rfl, by simp, World.ownsRow_nil w1 _ _ _, hrb, hk⟩
  clear hk hrb
  obtain ⟨l, b, t, rfl, hst, hl, hrow, hrb, hk⟩ := hrel
  have hlen := congrArg List.length hst
  simp only [List.length_cons, List.length_append] at hlen hs
  have HLN := Lib.hid hlen
  clear hlen
  by_cases hb : b = 10
  ·
   subst hb
   have HE : Hid (o = some (l, t)) := HLO.out.symm.trans (by rw [hst]; exact Ag.line_of hl t)
   have hcv := row_string hrow
   have hd : ((10 : UInt8).toNat : Int) = 10 := rfl
   go_wp2
   go_ret
   rw [HE.out]
   exact ⟨rfl, hrb, hk⟩
  have hbn : ¬ ((b.toNat : Int) = 10) := fun e => hb (by
   have : b.toNat = 10 := by omega
   exact UInt8.toNat_inj.1 this)
  have hx : wr.heap.size ≥ w.heap.size := hk.size
  have hbk := Blk.new wr 5 #[.int .u8 (b.toNat : Int)]
  have hlow := lowAlloc wr (Obj.cells #[.int .u8 (b.toNat : Int)] 5)
  have hrow1 := World.ownsRow.alloc hrow (Obj.cells #[.int .u8 (b.toNat : Int)] 5)
  have hrb1 : RB (wr.alloc (Obj.cells #[.int .u8 (b.toNat : Int)] 5)) R ⟨t.toArray⟩ k := Blk.alloc hrb _
  have hk1 := hk.below hlow
  have HRUN : Hid (∀ ty, ∃ v' w', (Builtin.append_ #[37, 37] ty #[u3, .slice (some ⟨wr.heap.size, 0, none⟩) 1 1]).run Tryz.prog (wr.alloc (Obj.cells #[.int .u8 (b.toNat : Int)] 5)) = .ok v' w' ∧ (w'.ownsRow w.heap.size 5 1 v' (l.length + 1) (Lib.byteCells l ++ [.int .u8 (b.toNat : Int)]) ∧ (wr.alloc (Obj.cells #[.int .u8 (b.toNat : Int)] 5)).grownBy w' u3.ownBlock)) := by
   intro ty
   obtain ⟨v', w', r1, r2, r3, _⟩ := app_u8 (wr.alloc (Obj.cells #[.int .u8 (b.toNat : Int)] 5)) w.heap.size ty u3 l.length _ hrow1 wr.heap.size 1 (b.toNat : Int) hbk (by have := HLN.out; omega) (by simp; omega)
   exact ⟨v', w', r1, r2, r3⟩
  have HRB := Lib.hid (row_base hrow1)
  have HLW := Lib.hid (left_len hrb)
  clear hbk hrow1 hrow hrb hk hlow
  go_wp2_with (at_builtin; go_loud (refine wpList_app rfl (.tmp 11) (.tmp 13) 37 rfl _ _ rfl rfl _ HRUN.out ?_); intro v' W4 hR4)
  have hrb4 := hrb1.grown hR4.2 (fun e => by have := HRB.out R e.symm; omega)
  have hk4 := hk1.grown hR4.2 (fun g e => HRB.out g e)
  have hrow4 : W4.ownsRow w.heap.size 5 1 v' (l ++ [b]).length (Lib.byteCells (l ++ [b])) := by
   rw [Lib.byteCells_append, List.length_append]
   exact hR4.1
  clear HRUN HRB hR4 hrb1 hk1
  have hl' : ∀ x ∈ l ++ [b], x ≠ 10 := by
   intro x hx
   rcases List.mem_append.1 hx with hx | hx
   ·
    exact hl x hx
   simp at hx
   subst hx
   exact hb
  cases t with
  | nil =>
   refine (Byte_nil R k W4 hrb4).mono ?_
   rintro e W5 ⟨rfl, rfl⟩
   have HE : o = none := HLO.out.symm.trans (by rw [hst]; exact line_open hl')
   exact ⟨rfl, by rw [HE]; exact ⟨rfl, hk4⟩⟩
  | cons b1 t1 =>
   refine (Byte_list R b1 t1 k W4 hrb4 (by have := HLN.out; simp at this; omega)).mono ?_
   rintro e W5 ⟨rfl, hw5⟩
   have hrb5 := hrb4.put ⟨t1.toArray⟩
   have hrow5 := row_set hrow4 (p := ⟨R, 0, none⟩) (by simp only; omega) (.string ⟨t1.toArray⟩)
   have hk5 := hk4.set (p := ⟨R, 0, none⟩) rfl (.string ⟨t1.toArray⟩)
   rw [← hw5] at hrb5 hrow5 hk5
   go_wp2
   refine ⟨⟨l ++ [b], b1, t1, rfl, by rw [hst]; simp, hl', by rw [← hw5]; exact hrow5, by rw [← hw5]; exact hrb5, by rw [← hw5]; exact hk5⟩, ?_⟩
   rw [← hw5, left_len hrb5, HLW.out]
   simp
end Go.Proofs.YtpejilhdhkmcjaaGreatDoor
/- The reader of texts: the words of a line. -/
namespace Go.Proofs.YtpejilhdhkmcjaaGreatDoor
open Go.RowKit

/-- What the library's variables hold, as long as the memory below B stays. -/
structure Amb (B : Nat) (w : World) : Prop where
 le : B ≤ w.heap.size
 big : 8 ≤ B
 ml : ∃ m, w.cell? ⟨3, 0, none⟩ = some (.int .i64 m)
 es : ∃ ev, w.cell? ⟨1, 0, none⟩ = some ev ∧ (ev = .nilIface ∨ ∃ te pe, ev = .iface te pe)
 er : ∃ ev, w.cell? ⟨2, 0, none⟩ = some ev ∧ (ev = .nilIface ∨ ∃ te pe, ev = .iface te pe)
 tab : Lib.TabBelow Tryz.prog B w "internal/strconv.uint64pow10" .u64 Lib.pow10Tab
theorem Amb.on {B : Nat} {w w' : World} (h : Amb B w) (hb : Below B w w') : Amb B w' := by
 have h8 := h.big
 obtain ⟨m, hm⟩ := h.ml
 obtain ⟨e1, h1, k1⟩ := h.es
 obtain ⟨e2, h2, k2⟩ := h.er
 exact ⟨Nat.le_trans h.le hb.size, h8, ⟨m, (hb.cell (p := ⟨_, 0, none⟩) (by simp only; omega)).trans hm⟩, ⟨e1, (hb.cell (p := ⟨_, 0, none⟩) (by simp only; omega)).trans h1, k1⟩, ⟨e2, (hb.cell (p := ⟨_, 0, none⟩) (by simp only; omega)).trans h2, k2⟩, h.tab.on hb⟩
theorem RKeep.low {R B : Nat} {w w' : World} (h : RKeep R w w') (hB : B ≤ w.heap.size) (hR : B ≤ R) : Below B w w' := ⟨h.os, h.tape, h.output, h.size, fun i hi => h.blk i (by omega) (by omega)⟩
theorem Amb.keep {R B : Nat} {w w' : World} (h : Amb B w) (hk : RKeep R w w') (hR : B ≤ R) : Amb B w' := h.on (hk.low h.le hR)
theorem words_count (l : Ag.Bs) : (Ag.wordsS l).length = l.count 32 + 1 := by
 induction l with
 | nil => rfl
 | cons b t ih =>
  rw [Ag.wordsS]
  split
  ·
   rename_i e
   subst e
   rw [List.length_cons, ih, List.count_cons_self]
  rename_i e
  rw [List.count_cons_of_ne e]
  split
  ·
   rename_i w ws hw
   rw [hw] at ih
   simpa using ih
  rename_i hw
  exact absurd hw (Ag.words_ne t)
theorem countB_words (l : Ag.Bs) : Lib.countB ⟨l.toArray⟩ ⟨#[32]⟩ = l.count 32 := Lib.count_one 32 l
theorem splitB_words (l : Ag.Bs) : Lib.splitB ⟨#[32]⟩ 0 (Lib.countB ⟨l.toArray⟩ ⟨#[32]⟩) ⟨l.toArray⟩ = (Ag.wordsS l).map (fun x => (⟨x.toArray⟩ : ByteArray)) := by
 have h := Lib.splitB_data ⟨#[32]⟩ 0 (Lib.countB ⟨l.toArray⟩ ⟨#[32]⟩) ⟨l.toArray⟩
 have h2 := Ag.split_words (Lib.countB ⟨l.toArray⟩ ⟨#[32]⟩) l (by rw [countB_words]; exact Nat.le_refl _)
 rw [show ((⟨l.toArray⟩ : ByteArray).data.toList) = l from rfl, show ((⟨#[32]⟩ : ByteArray).data.toList) = [32] from rfl, h2] at h
 rw [← h, List.map_map]
 generalize Lib.splitB ⟨#[32]⟩ 0 (Lib.countB ⟨l.toArray⟩ ⟨#[32]⟩) ⟨l.toArray⟩ = xs
 induction xs with
 | nil => rfl
 | cons a t ih =>
  rw [List.map_cons, ← ih]
  congr 1
/-- Words are read, or the reading ends. -/
def WordsP (R : Nat) (k : Int) (w : World) (o : Option (Ag.Bs × Ag.Bs)) (e : Ending) (w' : World) : Prop :=
 match o with
 | some (l, r) => ∃ g, e = .returned (.slice (some ⟨g, 0, none⟩) (Ag.wordsS l).length (Ag.wordsS l).length) ∧ Blk w' g 9 ((Ag.wordsS l).map (fun x => Value.string ⟨x.toArray⟩)).toArray ∧ w.heap.size ≤ g ∧ RB w' R ⟨r.toArray⟩ k ∧ RKeep R w w'
 | none => e = faultE k ∧ RKeep R w w'
set_option maxRecDepth 10000 in
set_option maxHeartbeats 4000000 in
theorem words_any (R : Nat) (s : Ag.Bs) (k : Int) (B : Nat) (w : World) (h : RB w R ⟨s.toArray⟩ k) (hs : s.length ≤ 100000) (hA : Amb B w) (hR : B ≤ R) : Calls Tryz.prog 87 #[.pointer (some ⟨R, 0, none⟩)] w (WordsP R k w (Ag.lineS s)) := by
 have HL := Lib.hid (line_any R s k w h hs)
 have HLL : Hid (∀ l r, Ag.lineS s = some (l, r) → l.length ≤ 100000) := by
  intro l r e
  have := congrArg List.length (Ag.line_some e).1
  simp at this
  omega
 have HRZ : Hid (R < w.heap.size) := Blk.lt h
 generalize Ag.lineS s = o at *
 go_enter Tryz.func87, Tryz.ntmps87
 go_wp2_with fail
 refine HL.out.mono ?_
 intro e w1 hP
 cases o with
 | none =>
  obtain ⟨rfl, hk⟩ := hP
  exact ⟨rfl, rfl, hk⟩
 | some q =>
  obtain ⟨l, r⟩ := q
  obtain ⟨rfl, hrb, hk⟩ := hP
  have hA1 := hA.keep hk hR
  obtain ⟨m, hm⟩ := hA1.ml
  have HSP := Lib.hid (Tryz.strings_Split ⟨l.toArray⟩ ⟨#[32]⟩ m w1 (by have := HLL.out l r rfl; simp [ByteArray.size]; omega) hm (by decide))
  rw [splitB_words, countB_words, ← words_count, List.map_map] at HSP
  clear hm hA1 HL HLL
  go_wp2_with fail
  refine HSP.out.mono ?_
  rintro e w2 ⟨rfl, hw2⟩
  have hbk := Blk.new w1 9 ((Ag.wordsS l).map (fun x => Value.string ⟨x.toArray⟩)).toArray
  have hrb2 : RB (w1.alloc (Obj.cells ((Ag.wordsS l).map (fun x => Value.string ⟨x.toArray⟩)).toArray 9)) R ⟨r.toArray⟩ k := Blk.alloc hrb _
  have hk2 := hk.below (lowAlloc w1 (Obj.cells ((Ag.wordsS l).map (fun x => Value.string ⟨x.toArray⟩)).toArray 9))
  have hw2' : w2 = w1.alloc (Obj.cells ((Ag.wordsS l).map (fun x => Value.string ⟨x.toArray⟩)).toArray 9) := hw2
  rw [← hw2'] at hbk hrb2 hk2
  clear hw2 hw2'
  go_wp2
  go_ret
  exact ⟨_, rfl, hbk, hk.size, hrb2, hk2⟩
end Go.Proofs.YtpejilhdhkmcjaaGreatDoor
/- The reader of texts: the number that a word spells. -/
namespace Go.Proofs.YtpejilhdhkmcjaaGreatDoor
open Go.RowKit

theorem below_grow (w : World) (k : Nat) (os : Array Obj) : Below w.heap.size w («Sort».grow (w.drewN k) os) := by
 refine ⟨rfl, rfl, rfl, ?_, fun i hi => ?_⟩
 ·
  show w.heap.size ≤ (w.heap ++ os).size
  simp
 show (w.heap ++ os)[i]? = w.heap[i]?
 rw [Array.getElem?_append_left hi]
/-- A number is told, or the reading ends. -/
def NumP (k : Int) (w : World) (o : Option Nat) (e : Ending) (w' : World) : Prop :=
 match o with
 | some n => e = .returned (.int .i64 (n : Int)) ∧ Below w.heap.size w w'
 | none => e = faultE k ∧ Below w.heap.size w w'
set_option maxRecDepth 10000 in
set_option maxHeartbeats 4000000 in
theorem rnumber_any (R : Nat) (s : ByteArray) (l : Ag.Bs) (k : Int) (B : Nat) (w : World) (h : RB w R s k) (hl : l.length ≤ 100000) (hA : Amb B w) : Calls Tryz.prog 89 #[.pointer (some ⟨R, 0, none⟩), .string ⟨l.toArray⟩] w (NumP k w (Ag.digL l)) := by
 have hsz : (⟨l.toArray⟩ : ByteArray).size = l.length := by simp [ByteArray.size]
 have hND := Ag.number_dig l
 have HND := Lib.hid hND
 clear hND
 generalize hdo : Ag.digL l = o at *
 obtain ⟨es, hes, kes⟩ := hA.es
 obtain ⟨er, her, ker⟩ := hA.er
 cases ha : Lib.atoiAll l with
 | «syntax» =>
  have HE : o = none := by have := HND.out; rw [ha] at this; exact this
  subst HE
  have HAT := Lib.hid (Tryz.strconv_Atoi_syntax ⟨l.toArray⟩ (by omega) ha es w hes kes)
  go_enter Tryz.func89, Tryz.ntmps89
  go_wp2_with fail
  refine HAT.out.mono ?_
  rintro e w1 ⟨N, rfl, _, _, hb1⟩
  have h1 : RB w1 R s k := Blk.below h hb1 (Blk.lt h)
  clear hes her HAT
  go_wp2_with fail
  refine (Need_bad R s k w1 h1).mono ?_
  rintro e w2 ⟨rfl, rfl⟩
  exact ⟨rfl, rfl, hb1⟩
 | range =>
  have HE : o = none := by have := HND.out; rw [ha] at this; exact this
  subst HE
  have HAT := Lib.hid (Tryz.strconv_Atoi_range ⟨l.toArray⟩ (by omega) ha er w her ker)
  go_enter Tryz.func89, Tryz.ntmps89
  go_wp2_with fail
  refine HAT.out.mono ?_
  rintro e w1 ⟨N, rfl, _, _, hb1⟩
  have h1 : RB w1 R s k := Blk.below h hb1 (Blk.lt h)
  clear hes her HAT
  go_wp2_with fail
  refine (Need_bad R s k w1 h1).mono ?_
  rintro e w2 ⟨rfl, rfl⟩
  exact ⟨rfl, rfl, hb1⟩
 | ok v =>
  have hbd := Lib.atoiAll_bounds ha
  have HV : Hid (o = if 0 ≤ v ∧ v ≤ 999999 ∧ Lib.itoa v = l then some v.toNat else none) := by have := HND.out; rw [ha] at this; exact this
  have HAT := Lib.hid (Tryz.strconv_Atoi_ok ⟨l.toArray⟩ (by omega) v ha w)
  go_enter Tryz.func89, Tryz.ntmps89
  go_wp2_with fail
  refine HAT.out.mono ?_
  rintro e w1 ⟨rfl, hw1⟩
  have hb1 : Below w.heap.size w w1 := by
   rcases hw1 with rfl | ⟨t, rfl⟩
   ·
    exact Below.refl _ _
   exact Joins.below_bytesWorld _ _ _ _ (Nat.le_refl _)
  have h1 : RB w1 R s k := Blk.below h hb1 (Blk.lt h)
  have hA1 := hA.on (hb1.mono hA.le)
  have HIT := Lib.hid (fun (W : World) (hb : Below B w1 W) => Tryz.strconv_Itoa v hbd.1 hbd.2 W (hA1.tab.on hb).here)
  clear hes her HAT hw1
  by_cases c1 : 0 ≤ v
  ·
   have d1 : decide (0 ≤ v) = true := decide_eq_true c1
   by_cases c2 : v ≤ 999999
   ·
    have d2 : decide (v ≤ 999999) = true := decide_eq_true c2
    go_wp2_with fail
    refine (HIT.out _ (Below.refl _ _)).mono ?_
    rintro e w2 ⟨rfl, q, os, hw2⟩
    have hb2 : Below w1.heap.size w1 w2 := by rw [hw2]; exact below_grow w1 q os
    have h2 : RB w2 R s k := Blk.below h1 hb2 (Blk.lt h1)
    have hb12 := hb1.trans (hb2.mono hb1.size)
    clear hw2 HIT
    by_cases c3 : Lib.itoa v = l
    ·
     have HE : o = some v.toNat := by rw [HV.out, if_pos ⟨c1, c2, c3⟩]
     subst HE
     have d3 : (Lib.itoa v == l) = true := by rw [c3]; simp
     go_wp2_with fail
     refine (Need_ok R s k w2 h2).mono ?_
     rintro e w3 ⟨rfl, rfl⟩
     go_wp2
     go_ret
     exact ⟨by simp only [Ending.returned.injEq]; rw [show ((v.toNat : Nat) : Int) = v by omega]; rfl, hb12⟩
    have HE : o = none := by rw [HV.out, if_neg (fun h => c3 h.2.2)]
    subst HE
    have d3 : (Lib.itoa v == l) = false := beq_eq_false_iff_ne.2 c3
    go_wp2_with fail
    refine (Need_bad R s k w2 h2).mono ?_
    rintro e w3 ⟨rfl, rfl⟩
    exact ⟨rfl, rfl, hb12⟩
   have HE : o = none := by rw [HV.out, if_neg (fun h => c2 h.2.1)]
   subst HE
   have d2 : decide (v ≤ 999999) = false := decide_eq_false c2
   go_wp2_with fail
   refine (Need_bad R s k w1 h1).mono ?_
   rintro e w3 ⟨rfl, rfl⟩
   exact ⟨rfl, rfl, hb1⟩
  have HE : o = none := by rw [HV.out, if_neg (fun h => c1 h.1)]
  subst HE
  have d1 : decide (0 ≤ v) = false := decide_eq_false c1
  go_wp2_with fail
  refine (Need_bad R s k w1 h1).mono ?_
  rintro e w3 ⟨rfl, rfl⟩
  exact ⟨rfl, rfl, hb1⟩
end Go.Proofs.YtpejilhdhkmcjaaGreatDoor
