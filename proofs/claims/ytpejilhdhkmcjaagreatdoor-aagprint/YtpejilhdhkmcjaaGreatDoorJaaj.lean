/- ordered; wrong. -/
import Derived.Test.YtpejilhdhkmcjaaGreatDoorJaAl
import Derived.Test.YtpejilhdhkmcjaaGreatDoorJaai
import Derived.Laws.RangeAny
namespace Go.Proofs.YtpejilhdhkmcjaaGreatDoor
open Go.RowKit

namespace Cm
/-- Are the names' signals there, in order? f: how many kinds are left. -/
def ordS (c : Cir) : Nat → Int → List Nm → Bool
 | _, _, [] => true
 | 0, _, _ :: _ => false
 | f + 1, least, x :: l => if x.1 = kindAt (5 - f) then (decide (least ≤ x.2.1) && decide (x.2.1 < numS c x.1)) && ordS c (f + 1) (x.2.1 + 1) l else ordS c f 0 (x :: l)
 termination_by f _ l => (f, l.length)
theorem ordS_nil (c : Cir) (f : Nat) (z : Int) : ordS c f z [] = true := by rw [ordS]
theorem ordS_none (c : Cir) (z : Int) (x : Nm) (l : List Nm) : ordS c 0 z (x :: l) = false := by rw [ordS]
theorem ordS_cons (c : Cir) (f : Nat) (z : Int) (x : Nm) (l : List Nm) : ordS c (f + 1) z (x :: l) = if x.1 = kindAt (5 - f) then (decide (z ≤ x.2.1) && decide (x.2.1 < numS c x.1)) && ordS c (f + 1) (x.2.1 + 1) l else ordS c f 0 (x :: l) := by rw [ordS]
end Cm
def lenOf (v : Value) : Nat := match v with | .slice _ n _ => n | _ => 0
theorem Ns.tail {w : World} {B b off : Nat} {x : Nm} {l : List Nm} (h : Ns w B (some ⟨b, off, none⟩) (x :: l)) : Ns w B (some ⟨b, off + 3, none⟩) l := by
 intro k hk
 obtain ⟨b', off', e, hb, h1, h2, h3⟩ := h (k + 1) (by simpa using hk)
 injection e with e
 injection e with e1 e2
 subst e1 e2
 have ea : off + (k + 1) * 3 = off + 3 + k * 3 := by omega
 rw [ea] at h1 h2 h3
 exact ⟨b, off + 3, rfl, hb, by simpa using h1, by simpa using h2, by simpa using h3⟩
theorem Ns.tailIf {w : World} {B b off : Nat} {x : Nm} {l : List Nm} {P : Prop} [Decidable P] {a : Option Addr} (h : Ns w B (some ⟨b, off, none⟩) (x :: l)) (ha : P → l = []) : Ns w B (if P then a else some ⟨b, off + 3, none⟩) l := by
 split
 ·
  rename_i hp
  rw [ha hp]
  exact fun k hk => by simp at hk
 exact h.tail
theorem slice_names (b off : Nat) (n q : Nat) (w : World) : (Instr.slice 27 (.slice (some ⟨b, off, none⟩) (n + 1) q) (some (.int .i64 1)) none none).run Tryz.prog w = .ok (.slice (if q = 1 then some ⟨b, off, none⟩ else some ⟨b, off + 3, none⟩) n (q - 1)) w := by
 have h1 : (1 : Int) ≤ (n : Int) + 1 := by omega
 go_simp

theorem num_le {c : Cir} (hW : CirW c) (k : Int) : Cm.numS c k ≤ 9223372036854775807 := by
 have h1 := hW.hn.2
 have h2 := hW.ll
 have h3 := hW.lo
 have h4 := hW.lb
 have h5 := hW.lc
 have h6 := hW.lf
 unfold maxLen at *
 unfold Cm.numS Cm.lstS
 repeat' split
 all_goals first | omega | (simp; done) | simp

set_option maxRecDepth 100000 in
set_option maxHeartbeats 8000000 in
theorem ordered4_any (c : Cir) (w : World) (hM : CirM w w.heap.size c) (hW : CirW c) (hcap : c.ns.length ≤ c.cN) : Calls Tryz.prog 79 #[.agg #[.int .i64 c.n, .slice c.aL c.ls.length c.cL, .slice c.aG c.gs.length c.cG, .slice c.aO c.os.length c.cO, .slice c.aB c.bs.length c.cB, .slice c.aC c.cs.length c.cC, .slice c.aF c.fs.length c.cF, .slice c.aN c.ns.length c.cN]] w fun e w' => e = .returned (.bool (Cm.ordS c 6 0 c.ns)) ∧ Below w.heap.size w w' := by
 have hbx := boxed w c
 have c0 := hbx.cell 0
 have c1 := hbx.cell 1
 have c2 := hbx.cell 2
 have c3 := hbx.cell 3
 have c4 := hbx.cell 4
 have c5 := hbx.cell 5
 have c6 := hbx.cell 6
 have c7 := hbx.cell 7
 simp only [zD, zE, zF] at c0 c1 c2 c3 c4 c5 c6 c7
 obtain ⟨z, hz⟩ : ∃ z, z = Cm.ordS c 6 0 c.ns := ⟨_, rfl⟩
 rw [← hz]
 have HZ := Lib.hid hz
 have hln := hW.ln
 have HWk := Lib.hid hW.hk
 clear hz
 go_enter Tryz.func79, Tryz.ntmps79
 go_wp2_with fail
 refine (counts_any c _).mono ?_
 rintro e w1 ⟨b, rfl, hb, hmp, hlo⟩
 replace hbx := hbx.below hlo (by simp)
 have hbs := hmp.lt
 simp at hb
 have hst : KL w (w1.iter Cm.kinds 0) c b w1.heap.size 0 := by
  refine ⟨((lowAlloc w _).trans (hlo.mono (by simp))).alloc (by omega) _, hbx.alloc _, hmp.alloc _, Hp.new w1 _, by omega, hbs⟩
 have HST := Lib.hid hst
 clear hst c0 c1 c2 c3 c4 c5 c6 c7
 have c7 := hbx.cell 7
 simp only [zD, zE, zF] at c7
 clear hbx hmp hlo
 go_wp2
 clear c7
 go_loopw [4] (fun v wr => ∃ (k : Nat) (r : List Nm) (A : Option Addr) (q : Nat), k ≤ 6 ∧ v = .slice A r.length q ∧ r.length ≤ q ∧ r.length ≤ 1000000 ∧ (∀ x ∈ r, x ∈ c.ns) ∧ Ns wr w.heap.size A r ∧ Cm.ordS c (6 - k) 0 r = z ∧ KL w wr c b w1.heap.size k) (fun _ wr => 6 - iterPos wr w1.heap.size)
 case atStart => exact ⟨0, c.ns, c.aN, c.cN, by omega, rfl, hcap, hln, fun _ h => h, hM.hn.below HST.out.low (Nat.le_refl _), HZ.out.symm, HST.out⟩
 obtain ⟨k, r, A, q, hk, rfl, hrq, hrl, hin, hN, ho, hi⟩ := hrel
 have hip := hi.it.pos
 by_cases hlt : k < 6
 ·
  obtain ⟨wn, hnx, hit, hgr⟩ := next_kind wr _ k hi.it hlt
  have hls := hi.low.size
  have hlb := hi.lb
  have hli := hi.li
  have lo := below_grown hi.low hgr (by omega) hi.low.size
  have hbx := hi.box.grown hgr (fun e => by injection e with e; omega)
  have hmp := hi.map.grown hgr (fun e => by injection e with e; omega)
  have hlk := look_kind wn b c k hlt hmp
  have hNn : Ns wn w.heap.size A r := hN.keep fun p hp => World.cell?_of_block (hgr.block p.block (by omega) (fun e => by injection e with e; omega))
  have hfin : KL w wn c b w1.heap.size (k + 1) := ⟨lo, hbx, hmp, hit, hi.lb, hi.li⟩
  have hf : 6 - k = (5 - k) + 1 := by omega
  have hkk : 5 - (5 - k) = k := by omega
  rw [hf] at ho
  have HK := Lib.hid hkk
  have HIP := Lib.hid hip
  have HFIN := Lib.hid hfin
  have HO := Lib.hid ho
  have hsl := slice_names
  clear hip hbx hmp hgr hN hf hkk hfin ho
  go_wp2
  clear hnx
  go_loop [4, 7, 8] (fun v z0 _ => ∃ (r : List Nm) (A : Option Addr) (q : Nat) (y : Int), v = .slice A r.length q ∧ r.length ≤ q ∧ r.length ≤ 1000000 ∧ (∀ x ∈ r, x ∈ c.ns) ∧ Ns wn w.heap.size A r ∧ z0 = .int .i64 y ∧ 0 ≤ y ∧ y ≤ 9223372036854775807 ∧ Cm.ordS c (5 - k + 1) y r = z) (fun v _ _ => lenOf v)
  case atStart => exact ⟨r, A, q, 0, rfl, hrq, hrl, hin, hNn, rfl, by omega, by omega, HO.out⟩
  obtain ⟨r, A, q, y, rfl, hrq, hrl, hin, hN, rfl, hy0, hy1, ho⟩ := hrel
  cases r with
  | nil =>
   have HFO : Hid (Cm.ordS c (6 - (k + 1)) 0 [] = z) := by
    unfold Hid
    rw [Cm.ordS_nil] at ho ⊢
    exact ho
   clear ho
   have hd0 : decide ((0 : Int) < (([] : List Nm).length : Int)) = false := by simp
   go_wp2
   go_roundw
   case rel => exact ⟨k + 1, [], A, q, by omega, rfl, hrq, hrl, hin, hN, HFO.out, HFIN.out⟩
   case measure => rw [HIP.out, HFIN.out.it.pos]; omega
  | cons x l =>
   obtain ⟨b0, off, hA, hbw, g1, g2, g3⟩ := hN 0 (by simp)
   subst hA
   have hxm := HWk.out x (hin x (by simp))
   have htail := hN
   obtain ⟨kd, at_, tx⟩ := x
   simp only [Nat.zero_mul, Nat.add_zero, List.getElem_cons_zero] at g1 g2 g3
   simp only at hxm
   obtain ⟨⟨hk0, hk1⟩, ⟨ha0, ha1⟩, _⟩ := hxm
   rw [Cm.ordS_cons] at ho
   simp only at ho
   rw [HK.out] at ho
   have HO2 := Lib.hid ho
   have HT := Lib.hid htail
   have HIN := Lib.hid (fun y (hy : y ∈ l) => hin y (List.mem_cons_of_mem _ hy))
   have HRQ := Lib.hid hrq
   simp only [List.length_cons] at hrl
   have hd0 : decide ((0 : Int) < ((l.length : Int) + 1)) = true := decide_eq_true (by omega)
   have HINX := Lib.hid hin
   have hmx := num_le hW (Cm.kindAt k)
   clear ho htail hin hN hrq
   by_cases hkd : kd = Cm.kindAt k
   ·
    have HV := Lib.hid (show ((decide (y ≤ at_) && decide (at_ < Cm.numS c (Cm.kindAt k))) && Cm.ordS c (5 - k + 1) (at_ + 1) l) = z by have := HO2.out; rw [if_pos hkd, hkd] at this; exact this)
    subst hkd
    clear HO2
    generalize Cm.numS c (Cm.kindAt k) = m at *
    generalize Cm.kindAt k = kd at *
    by_cases h1 : at_ < y
    ·
     have HF : Hid (z = false) := by
      unfold Hid
      rw [← HV.out, decide_eq_false (by omega : ¬ y ≤ at_)]
      rfl
     go_wp2
     go_ret
     exact ⟨ret_bool HF.out.symm, HFIN.out.low⟩
    by_cases h2 : m ≤ at_
    ·
     have HF : Hid (z = false) := by
      unfold Hid
      rw [← HV.out, decide_eq_false (by omega : ¬ at_ < m)]
      simp
     go_wp2
     go_ret
     exact ⟨ret_bool HF.out.symm, HFIN.out.low⟩
    have HNX : Hid (Cm.ordS c (5 - k + 1) (at_ + 1) l = z) := by
     have := HV.out
     rw [decide_eq_true (by omega : y ≤ at_), decide_eq_true (by omega : at_ < m)] at this
     unfold Hid
     simpa using this
    have hlk2 : at_ < 9223372036854775807 := by omega
    go_wp2
    refine ⟨⟨l, _, _, at_ + 1, rfl, ?_, by omega, HIN.out, HT.out.tailIf (fun hq => ?_), by go_num, by omega, by omega, HNX.out⟩, by simp [lenOf]⟩
    ·
     have := HRQ.out
     simp at this
     omega
    have := HRQ.out
    simp at this
    exact List.length_eq_zero_iff.1 (by omega)
   have HNX : Hid (Cm.ordS c (6 - (k + 1)) 0 ((kd, at_, tx) :: l) = z) := by
    have := HO2.out
    rw [if_neg hkd] at this
    rw [show 6 - (k + 1) = 5 - k by omega]
    exact this
   have hd : (kd == Cm.kindAt k) = false := by simpa using hkd
   clear HO2 hkd
   go_wp2
   go_roundw
   case rel => exact ⟨k + 1, (kd, at_, tx) :: l, _, q, by omega, rfl, HRQ.out, by simp; omega, HINX.out, HT.out, HNX.out, HFIN.out⟩
   case measure => rw [HIP.out, HFIN.out.it.pos]; omega
 obtain rfl : k = 6 := by omega
 have hnx := next_kend wr _ hi.it
 have lo := hi.low
 have HE : Hid (z = decide ((r.length : Int) = 0)) := by
  unfold Hid
  rw [← ho]
  cases r with
  | nil => rw [Cm.ordS_nil]; rfl
  | cons x l =>
   rw [show 6 - 6 = 0 from rfl, Cm.ordS_none]
   symm
   simp
   omega
 clear ho hi hip hin hN
 go_wp2
 go_ret
 exact ⟨ret_bool HE.out.symm, lo⟩
end Go.Proofs.YtpejilhdhkmcjaaGreatDoor
/- wrong, ContainsFunc over names, distinct. -/
namespace Go.Proofs.YtpejilhdhkmcjaaGreatDoor
open Go.RowKit

namespace Cm
def okB (b : UInt8) : Bool := decide (33 ≤ b.toNat) && decide (b.toNat ≤ 126)
def wordB (t : ByteArray) : Bool := decide (0 < t.size) && decide (t.size ≤ 20) && t.data.toList.all okB
end Cm
theorem bytes_take (t : ByteArray) (p : Nat) (h : p < t.size) (f : UInt8 → Bool) (ha : (t.data.toList.take p).all f = true) : (t.data.toList.take (p + 1)).all f = f (t[p]'h) := by
 have hl : p < t.data.toList.length := by simpa using h
 rw [List.take_succ_eq_append_getElem hl, List.all_append, ha]
 simp
 rfl
theorem bytes_all (t : ByteArray) (p : Nat) (h : p < t.size) (f : UInt8 → Bool) (ha : f (t[p]'h) = false) : t.data.toList.all f = false := by
 have hl : p < t.data.toList.length := by simpa using h
 refine List.all_eq_false.2 ⟨t.data.toList[p], by simp, ?_⟩
 have e : t.data.toList[p] = t[p]'h := by simp; rfl
 rw [e, ha]
 simp
/-- What a step over a text tells. -/
theorem decode_cases (t : ByteArray) (p : Nat) (h : p < t.size) : ((t[p]'h).toNat < 128 ∧ Utf8.decode t p = ((t[p]'h).toNat, 1)) ∨ (128 ≤ (t[p]'h).toNat ∧ 128 ≤ (Utf8.decode t p).1) := by
 by_cases ha : (t[p]'h).toNat < 128
 ·
  exact Or.inl ⟨ha, decode_ascii t p h ha⟩
 exact Or.inr ⟨by omega, (decode_high t p h (by omega)).1⟩

set_option maxRecDepth 100000 in
set_option maxHeartbeats 4000000 in
theorem wrong_any (kd at_ : Int) (t : ByteArray) (w : World) (hs : t.size ≤ maxLen) : Calls Tryz.prog 81 #[.agg #[.int .u8 kd, .int .i64 at_, .string t]] w fun e w' => e = .returned (.bool (!Cm.wordB t)) ∧ Below w.heap.size w w' := by
 unfold maxLen at hs
 have lo := lowAlloc w (Obj.cells #[.int .u8 kd, .int .i64 at_, .string t] 69)
 obtain ⟨z, hz⟩ : ∃ z, z = Cm.wordB t := ⟨_, rfl⟩
 rw [← hz]
 by_cases h0 : t.size = 0
 ·
  have HZ : Hid (z = false) := by
   unfold Hid
   rw [hz, Cm.wordB, decide_eq_false (by omega : ¬ 0 < t.size)]
   rfl
  clear hz
  go_enter Tryz.func81, Tryz.ntmps81
  go_wp2
  go_ret
  exact ⟨by rw [HZ.out]; rfl, lo⟩
 by_cases h20 : 20 < t.size
 ·
  have HZ : Hid (z = false) := by
   unfold Hid
   rw [hz, Cm.wordB, decide_eq_false (by omega : ¬ t.size ≤ 20)]
   simp
  clear hz
  go_enter Tryz.func81, Tryz.ntmps81
  go_wp2
  go_ret
  exact ⟨by rw [HZ.out]; rfl, lo⟩
 have HZ : Hid (z = t.data.toList.all Cm.okB) := by
  unfold Hid
  rw [hz, Cm.wordB, decide_eq_true (by omega : 0 < t.size), decide_eq_true (by omega : t.size ≤ 20)]
  rfl
 have hit0 : Hp ((w.alloc (Obj.cells #[.int .u8 kd, .int .i64 at_, .string t] 69)).iter t 0) (w.heap.size + 1) (.stringIter t 0) := by
  have := Hp.new (w.alloc (Obj.cells #[.int .u8 kd, .int .i64 at_, .string t] 69)) (.stringIter t 0)
  simp at this
  exact this
 have HIT := Lib.hid hit0
 have HLO : Hid (Below w.heap.size w ((w.alloc (Obj.cells #[.int .u8 kd, .int .i64 at_, .string t] 69)).iter t 0)) := lo.alloc (by simp) _
 clear hz hit0 lo
 have d0 : ((t.size : Int) == 0) = false := by rw [beq_eq_false_iff_ne]; omega
 have d1 : decide ((20 : Int) < (t.size : Int)) = false := by simp; omega
 go_enter Tryz.func81, Tryz.ntmps81
 go_wp2
 go_loopw [4] (fun _ wr => ∃ p : Nat, p ≤ t.size ∧ (t.data.toList.take p).all Cm.okB = true ∧ Below w.heap.size w wr ∧ Hp wr (w.heap.size + 1) (.stringIter t p)) (fun _ wr => t.size - iterPos wr (w.heap.size + 1))
 case atStart => exact ⟨0, Nat.zero_le _, rfl, HLO.out, HIT.out⟩
 obtain ⟨p, hp, hal, lo, hit⟩ := hrel
 have hip := hit.pos
 by_cases hlt : p < t.size
 ·
  obtain ⟨wn, hnx, hitn, hgr⟩ := next_any wr _ t p hit hlt
  have lon := below_grown lo hgr (by omega) lo.size
  have HIP := Lib.hid hip
  have HA := Lib.hid (bytes_take t p hlt Cm.okB hal)
  have HN := Lib.hid (bytes_all t p hlt Cm.okB)
  rcases decode_cases t p hlt with ⟨hlow, hd⟩ | ⟨hhi, hd⟩
  ·
   rw [hd] at hnx hitn
   simp only at hnx hitn
   have hok : Cm.okB (t[p]'hlt) = (decide (33 ≤ (t[p]'hlt).toNat) && decide ((t[p]'hlt).toNat ≤ 126)) := rfl
   rw [hok] at HA HN
   clear hal hip hgr hit hd hok
   generalize (t[p]'hlt).toNat = r at *
   by_cases h1 : r < 33
   ·
    have HF := Lib.hid (HN.out (by rw [decide_eq_false (by omega : ¬ 33 ≤ r)]; rfl))
    have dd : decide ((r : Int) < 33) = true := decide_eq_true (by omega)
    go_wp2
    go_ret
    exact ⟨by rw [HZ.out, HF.out]; rfl, lon⟩
   by_cases h2 : 126 < r
   ·
    have HF := Lib.hid (HN.out (by rw [decide_eq_false (by omega : ¬ r ≤ 126)]; simp))
    have dd : decide ((r : Int) < 33) = false := decide_eq_false (by omega)
    have dd2 : decide ((126 : Int) < (r : Int)) = true := decide_eq_true (by omega)
    go_wp2
    go_ret
    exact ⟨by rw [HZ.out, HF.out]; rfl, lon⟩
   have HT := Lib.hid (HA.out.trans (by rw [decide_eq_true (by omega : 33 ≤ r), decide_eq_true (by omega : r ≤ 126)]; rfl : _ = true))
   have dd : decide ((r : Int) < 33) = false := decide_eq_false (by omega)
   have dd2 : decide ((126 : Int) < (r : Int)) = false := decide_eq_false (by omega)
   go_wp2
   go_roundw
   case rel => exact ⟨p + 1, by omega, HT.out, lon, hitn⟩
   case measure => rw [HIP.out, hitn.pos]; omega
  have HF := Lib.hid (HN.out (by unfold Cm.okB; rw [decide_eq_false (by omega : ¬ (t[p]'hlt).toNat ≤ 126)]; simp))
  clear hal hip hgr hit HA HN
  generalize (Utf8.decode t p).1 = r at *
  have dd : decide ((r : Int) < 33) = false := decide_eq_false (by omega)
  have dd2 : decide ((126 : Int) < (r : Int)) = true := decide_eq_true (by omega)
  go_wp2
  go_ret
  exact ⟨by rw [HZ.out, HF.out]; rfl, lon⟩
 obtain rfl : p = t.size := by omega
 have hnx := next_end wr _ t t.size hit hlt
 rw [List.take_of_length_le (by simp)] at hal
 have HA := Lib.hid hal
 clear hal hip hit
 go_wp2
 go_ret
 exact ⟨by rw [HZ.out, HA.out]; rfl, lo⟩

set_option maxRecDepth 100000 in
set_option maxHeartbeats 4000000 in
theorem indexNames_any (A : Option Addr) (q : Nat) (ns : List Nm) (w : World) (hl : ns.length ≤ 1000000) (hN : Ns w w.heap.size A ns) (hW : ∀ x ∈ ns, x.2.2.size ≤ maxLen) :
  Calls Tryz.prog 100 #[.slice A ns.length q, .func (.func 81) #[] #[]] w fun e w' => (∃ r, e = .returned (.int .i64 r) ∧ decide (0 ≤ r) = ns.any (fun x => !Cm.wordB x.2.2)) ∧ Below w.heap.size w w' := by
 go_enter Tryz.func100, Tryz.ntmps100
 go_wp2
 go_loopw [8] (fun i wr => ∃ k : Nat, k ≤ ns.length ∧ i = .int .i64 k ∧ (ns.take k).any (fun x => !Cm.wordB x.2.2) = false ∧ Below w.heap.size w wr) (fun i _ => ns.length - (intOf i).toNat)
 case atStart => exact ⟨0, Nat.zero_le _, rfl, rfl, Below.refl _ _⟩
 obtain ⟨k, hk, rfl, hany, lo⟩ := hrel
 by_cases hlt : k < ns.length
 ·
  obtain ⟨b, off, hA, hbw, g1, g2, g3⟩ := (hN.below lo (Nat.le_refl _)) k hlt
  subst hA
  have e1 : (ns.take (k + 1)).any (fun x => !Cm.wordB x.2.2) = !Cm.wordB ns[k].2.2 := by rw [List.take_succ_eq_append_getElem hlt, List.any_append, hany]; simp
  have e2 : Cm.wordB ns[k].2.2 = false → ns.any (fun x => !Cm.wordB x.2.2) = true := fun h => List.any_eq_true.2 ⟨ns[k], by simp, by simp [h]⟩
  have E1 := Lib.hid e1
  have E2 := Lib.hid e2
  have HS := Lib.hid (wrong_any ns[k].1 ns[k].2.1 ns[k].2.2 wr (hW _ (by simp)))
  have HAny := Lib.hid hany
  clear e1 e2 hany
  generalize ns[k] = x at *
  obtain ⟨kd, at_, t⟩ := x
  simp only at g1 g2 g3 E1 E2 HS
  generalize Cm.wordB t = z at *
  go_wp2_with fail
  refine HS.out.mono ?_
  rintro e w1 ⟨rfl, hb1⟩
  have lo1 := lo.trans (hb1.mono lo.size)
  cases z with
  | true =>
   go_wp2
   go_roundw
   case rel => exact ⟨k + 1, by omega, by go_num, by rw [E1.out]; rfl, lo1⟩
   case measure => simp [intOf]; omega
  | false =>
   go_wp2
   go_ret
   exact ⟨⟨_, rfl, by rw [E2.out (by trivial)]; simp⟩, lo1⟩
 obtain rfl : k = ns.length := by omega
 rw [List.take_length] at hany
 have HA := Lib.hid hany
 clear hany
 go_wp2
 go_ret
 exact ⟨⟨_, rfl, by rw [HA.out]; rfl⟩, lo⟩

set_option maxHeartbeats 1000000 in
theorem containsNames_any (A : Option Addr) (q : Nat) (ns : List Nm) (w : World) (hl : ns.length ≤ 1000000) (hN : Ns w w.heap.size A ns) (hW : ∀ x ∈ ns, x.2.2.size ≤ maxLen) :
  Calls Tryz.prog 80 #[.slice A ns.length q, .func (.func 81) #[] #[]] w fun e w' => e = .returned (.bool (!ns.all (fun x => Cm.wordB x.2.2))) ∧ Below w.heap.size w w' := by
 have HI := Lib.hid (indexNames_any A q ns w hl hN hW)
 rw [Cm.not_any (fun x : Nm => Cm.wordB x.2.2)] at HI
 generalize (!ns.all (fun x => Cm.wordB x.2.2)) = z at *
 go_enter Tryz.func80, Tryz.ntmps80
 go_wp2_with fail
 refine HI.out.mono ?_
 rintro e w1 ⟨⟨r, rfl, hr⟩, hb1⟩
 have HR := Lib.hid hr
 clear hr
 go_wp2
 go_ret
 exact ⟨ret_bool HR.out, hb1⟩
end Go.Proofs.YtpejilhdhkmcjaaGreatDoor
