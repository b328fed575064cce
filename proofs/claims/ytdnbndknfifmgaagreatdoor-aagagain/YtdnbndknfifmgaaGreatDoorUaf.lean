/- ordered; wrong. -/
import Derived.Test.YtdnbndknfifmgaaGreatDoorUae
import Derived.Laws.RangeAny
namespace Go.Proofs.YtdnbndknfifmgaaGreatDoor
open Go.RowKit

namespace Cm
/-- Are the names' signals there, in order? f: how many kinds are left. -/
def ordS (c : Cir) : Nat → Int → List Nm → Bool
  | _, _, [] => true
  | 0, _, _ :: _ => false
  | f + 1, least, x :: l => if x.1 = kindAt (5 - f) then (decide (least ≤ x.2.1) && decide (x.2.1 < numS c x.1)) && ordS c (f + 1) (x.2.1 + 1) l else ordS c f 0 (x :: l)
  termination_by f _ l => (f, l.length)
theorem ordS_nil (c : Cir) (f : Nat) (z : Int) : ordS c f z [] = true := by rw [ordS]
theorem ordS_none (c : Cir) (z : Int) (x : Nm) (l : List Nm) : ordS c 0 z (x :: l) = false := by rw [ordS]
theorem ordS_cons (c : Cir) (f : Nat) (z : Int) (x : Nm) (l : List Nm) : ordS c (f + 1) z (x :: l) = if x.1 = kindAt (5 - f) then (decide (z ≤ x.2.1) && decide (x.2.1 < numS c x.1)) && ordS c (f + 1) (x.2.1 + 1) l else ordS c f 0 (x :: l) := by rw [ordS]
end Cm
def lenOf (v : Value) : Nat := match v with | .slice _ n _ => n | _ => 0
theorem Ns.tail {w : World} {B b off : Nat} {x : Nm} {l : List Nm} (h : Ns w B (some ⟨b, off, none⟩) (x :: l)) : Ns w B (some ⟨b, off + 3, none⟩) l := by
  intro k hk
  obtain ⟨b', off', e, hb, h1, h2, h3⟩ := h (k + 1) (by simpa using hk)
  injection e with e
  injection e with e1 e2
  subst e1 e2
  have ea : off + (k + 1) * 3 = off + 3 + k * 3 := by omega
  rw [ea] at h1 h2 h3
  exact ⟨b, off + 3, rfl, hb, by simpa using h1, by simpa using h2, by simpa using h3⟩
theorem Ns.tailIf {w : World} {B b off : Nat} {x : Nm} {l : List Nm} {P : Prop} [Decidable P] {a : Option Addr} (h : Ns w B (some ⟨b, off, none⟩) (x :: l)) (ha : P → l = []) : Ns w B (if P then a else some ⟨b, off + 3, none⟩) l := by
  split
  · rename_i hp
    rw [ha hp]
    exact fun k hk => by simp at hk
  · exact h.tail
theorem slice_names (b off : Nat) (n q : Nat) (w : World) : (Instr.slice 27 (.slice (some ⟨b, off, none⟩) (n + 1) q) (some (.int .i64 1)) none none).run Tryz.prog w = .ok (.slice (if q = 1 then some ⟨b, off, none⟩ else some ⟨b, off + 3, none⟩) n (q - 1)) w := by
  have h1 : (1 : Int) ≤ (n : Int) + 1 := by omega
  go_simp

theorem num_le {c : Cir} (hW : CirW c) (k : Int) : Cm.numS c k ≤ 9223372036854775807 := by
  have h1 := hW.hn.2
  have h2 := hW.ll
  have h3 := hW.lo
  have h4 := hW.lb
  have h5 := hW.lc
  have h6 := hW.lf
  unfold maxLen at *
  unfold Cm.numS Cm.lstS
  repeat' split
  all_goals first | omega | (simp; done) | simp

set_option maxRecDepth 100000 in
set_option maxHeartbeats 8000000 in
theorem ordered4_any (c : Cir) (w : World) (hM : CirM w w.heap.size c) (hW : CirW c) (hcap : c.ns.length ≤ c.cN) : Calls Tryz.prog 79 #[.agg #[.int .i64 c.n, .slice c.aL c.ls.length c.cL, .slice c.aG c.gs.length c.cG, .slice c.aO c.os.length c.cO, .slice c.aB c.bs.length c.cB, .slice c.aC c.cs.length c.cC, .slice c.aF c.fs.length c.cF, .slice c.aN c.ns.length c.cN]] w fun e w' => e = .returned (.bool (Cm.ordS c 6 0 c.ns)) ∧ Below w.heap.size w w' := by
  have hbx := boxed w c
  have c0 := hbx.cell 0
  have c1 := hbx.cell 1
  have c2 := hbx.cell 2
  have c3 := hbx.cell 3
  have c4 := hbx.cell 4
  have c5 := hbx.cell 5
  have c6 := hbx.cell 6
  have c7 := hbx.cell 7
  simp only [List.getElem?_toArray, List.getElem?_cons_zero, List.getElem?_cons_succ] at c0 c1 c2 c3 c4 c5 c6 c7
  obtain ⟨z, hz⟩ : ∃ z, z = Cm.ordS c 6 0 c.ns := ⟨_, rfl⟩
  rw [← hz]
  have HZ := Lib.hid hz
  have hln := hW.ln
  have HWk := Lib.hid hW.hk
  clear hz
  go_enter Tryz.func79, Tryz.ntmps79
  go_wp2_with fail
  refine (counts_any c _).mono ?_
  rintro e w1 ⟨b, rfl, hb, hmp, hlo⟩
  replace hbx := hbx.below hlo (by simp)
  have hbs := hmp.lt
  simp at hb
  have hst : KL w (w1.iter Cm.kinds 0) c b w1.heap.size 0 := by
    refine ⟨((lowAlloc w _).trans (hlo.mono (by simp))).alloc (by omega) _, hbx.alloc _, hmp.alloc _, Hp.new w1 _, by omega, hbs⟩
  have HST := Lib.hid hst
  clear hst c0 c1 c2 c3 c4 c5 c6 c7
  have c7 := hbx.cell 7
  simp only [List.getElem?_toArray, List.getElem?_cons_zero, List.getElem?_cons_succ] at c7
  clear hbx hmp hlo
  go_wp2
  clear c7
  go_loopw [4] (fun v wr => ∃ (k : Nat) (r : List Nm) (A : Option Addr) (q : Nat), k ≤ 6 ∧ v = .slice A r.length q ∧ r.length ≤ q ∧ r.length ≤ 1000000 ∧ (∀ x ∈ r, x ∈ c.ns) ∧ Ns wr w.heap.size A r ∧ Cm.ordS c (6 - k) 0 r = z ∧ KL w wr c b w1.heap.size k) (fun _ wr => 6 - iterPos wr w1.heap.size)
  case atStart => exact ⟨0, c.ns, c.aN, c.cN, by omega, rfl, hcap, hln, fun _ h => h, hM.hn.below HST.out.low (Nat.le_refl _), HZ.out.symm, HST.out⟩
  case round =>
    obtain ⟨k, r, A, q, hk, rfl, hrq, hrl, hin, hN, ho, hi⟩ := hrel
    have hip := hi.it.pos
    by_cases hlt : k < 6
    · obtain ⟨wn, hnx, hit, hgr⟩ := next_kind wr _ k hi.it hlt
      have hls := hi.low.size
      have hlb := hi.lb
      have hli := hi.li
      have lo := below_grown hi.low hgr (by omega) hi.low.size
      have hbx := hi.box.grown hgr (fun e => by injection e with e; omega)
      have hmp := hi.map.grown hgr (fun e => by injection e with e; omega)
      have hlk := look_kind wn b c k hlt hmp
      have hNn : Ns wn w.heap.size A r := hN.keep fun p hp => World.cell?_of_block (hgr.block p.block (by omega) (fun e => by injection e with e; omega))
      have hfin : KL w wn c b w1.heap.size (k + 1) := ⟨lo, hbx, hmp, hit, hi.lb, hi.li⟩
      have hf : 6 - k = (5 - k) + 1 := by omega
      have hkk : 5 - (5 - k) = k := by omega
      rw [hf] at ho
      have HK := Lib.hid hkk
      have HIP := Lib.hid hip
      have HFIN := Lib.hid hfin
      have HO := Lib.hid ho
      have hsl := slice_names
      clear hip hbx hmp hgr hN hf hkk hfin ho
      go_wp2
      clear hnx
      go_loop [4, 7, 8] (fun v z0 _ => ∃ (r : List Nm) (A : Option Addr) (q : Nat) (y : Int), v = .slice A r.length q ∧ r.length ≤ q ∧ r.length ≤ 1000000 ∧ (∀ x ∈ r, x ∈ c.ns) ∧ Ns wn w.heap.size A r ∧ z0 = .int .i64 y ∧ 0 ≤ y ∧ y ≤ 9223372036854775807 ∧ Cm.ordS c (5 - k + 1) y r = z) (fun v _ _ => lenOf v)
      case atStart => exact ⟨r, A, q, 0, rfl, hrq, hrl, hin, hNn, rfl, by omega, by omega, HO.out⟩
      case round =>
        obtain ⟨r, A, q, y, rfl, hrq, hrl, hin, hN, rfl, hy0, hy1, ho⟩ := hrel
        cases r with
        | nil =>
          have HFO : Hid (Cm.ordS c (6 - (k + 1)) 0 [] = z) := by
            unfold Hid
            rw [Cm.ordS_nil] at ho ⊢
            exact ho
          clear ho
          have hd0 : decide ((0 : Int) < (([] : List Nm).length : Int)) = false := by simp
          go_wp2
          go_roundw
          case rel => exact ⟨k + 1, [], A, q, by omega, rfl, hrq, hrl, hin, hN, HFO.out, HFIN.out⟩
          case measure => rw [HIP.out, HFIN.out.it.pos]; omega
        | cons x l =>
          obtain ⟨b0, off, hA, hbw, g1, g2, g3⟩ := hN 0 (by simp)
          subst hA
          have hxm := HWk.out x (hin x (by simp))
          have htail := hN
          obtain ⟨kd, at_, tx⟩ := x
          simp only [Nat.zero_mul, Nat.add_zero, List.getElem_cons_zero] at g1 g2 g3
          simp only at hxm
          obtain ⟨⟨hk0, hk1⟩, ⟨ha0, ha1⟩, _⟩ := hxm
          rw [Cm.ordS_cons] at ho
          simp only at ho
          rw [HK.out] at ho
          have HO2 := Lib.hid ho
          have HT := Lib.hid htail
          have HIN := Lib.hid (fun y (hy : y ∈ l) => hin y (List.mem_cons_of_mem _ hy))
          have HRQ := Lib.hid hrq
          simp only [List.length_cons] at hrl
          have hd0 : decide ((0 : Int) < ((l.length : Int) + 1)) = true := decide_eq_true (by omega)
          have HINX := Lib.hid hin
          have hmx := num_le hW (Cm.kindAt k)
          clear ho htail hin hN hrq
          by_cases hkd : kd = Cm.kindAt k
          · have HV := Lib.hid (show ((decide (y ≤ at_) && decide (at_ < Cm.numS c (Cm.kindAt k))) && Cm.ordS c (5 - k + 1) (at_ + 1) l) = z by have := HO2.out; rw [if_pos hkd, hkd] at this; exact this)
            subst hkd
            clear HO2
            generalize Cm.numS c (Cm.kindAt k) = m at *
            generalize Cm.kindAt k = kd at *
            by_cases h1 : at_ < y
            · have HF : Hid (z = false) := by
                unfold Hid
                rw [← HV.out, decide_eq_false (by omega : ¬ y ≤ at_)]
                rfl
              go_wp2
              go_ret
              exact ⟨ret_bool HF.out.symm, HFIN.out.low⟩
            · by_cases h2 : m ≤ at_
              · have HF : Hid (z = false) := by
                  unfold Hid
                  rw [← HV.out, decide_eq_false (by omega : ¬ at_ < m)]
                  simp
                go_wp2
                go_ret
                exact ⟨ret_bool HF.out.symm, HFIN.out.low⟩
              · have HNX : Hid (Cm.ordS c (5 - k + 1) (at_ + 1) l = z) := by
                  have := HV.out
                  rw [decide_eq_true (by omega : y ≤ at_), decide_eq_true (by omega : at_ < m)] at this
                  unfold Hid
                  simpa using this
                have hlk2 : at_ < 9223372036854775807 := by omega
                go_wp2
                refine ⟨⟨l, _, _, at_ + 1, rfl, ?_, by omega, HIN.out, HT.out.tailIf (fun hq => ?_), by go_num, by omega, by omega, HNX.out⟩, by simp [lenOf]⟩
                · have := HRQ.out
                  simp at this
                  omega
                · have := HRQ.out
                  simp at this
                  exact List.length_eq_zero_iff.1 (by omega)
          · have HNX : Hid (Cm.ordS c (6 - (k + 1)) 0 ((kd, at_, tx) :: l) = z) := by
              have := HO2.out
              rw [if_neg hkd] at this
              rw [show 6 - (k + 1) = 5 - k by omega]
              exact this
            have hd : (kd == Cm.kindAt k) = false := by simpa using hkd
            clear HO2 hkd
            go_wp2
            go_roundw
            case rel => exact ⟨k + 1, (kd, at_, tx) :: l, _, q, by omega, rfl, HRQ.out, by simp; omega, HINX.out, HT.out, HNX.out, HFIN.out⟩
            case measure => rw [HIP.out, HFIN.out.it.pos]; omega
    · obtain rfl : k = 6 := by omega
      have hnx := next_kend wr _ hi.it
      have lo := hi.low
      have HE : Hid (z = decide ((r.length : Int) = 0)) := by
        unfold Hid
        rw [← ho]
        cases r with
        | nil => rw [Cm.ordS_nil]; rfl
        | cons x l =>
          rw [show 6 - 6 = 0 from rfl, Cm.ordS_none]
          symm
          simp
          omega
      clear ho hi hip hin hN
      go_wp2
      go_ret
      exact ⟨ret_bool HE.out.symm, lo⟩
end Go.Proofs.YtdnbndknfifmgaaGreatDoor
/- wrong, ContainsFunc over names, distinct. -/
namespace Go.Proofs.YtdnbndknfifmgaaGreatDoor
open Go.RowKit

namespace Cm
def okB (b : UInt8) : Bool := decide (33 ≤ b.toNat) && decide (b.toNat ≤ 126)
def wordB (t : ByteArray) : Bool := decide (0 < t.size) && decide (t.size ≤ 20) && t.data.toList.all okB
end Cm
theorem bytes_take (t : ByteArray) (p : Nat) (h : p < t.size) (f : UInt8 → Bool) (ha : (t.data.toList.take p).all f = true) : (t.data.toList.take (p + 1)).all f = f (t[p]'h) := by
  have hl : p < t.data.toList.length := by simpa using h
  rw [List.take_succ_eq_append_getElem hl, List.all_append, ha]
  simp
  rfl
theorem bytes_all (t : ByteArray) (p : Nat) (h : p < t.size) (f : UInt8 → Bool) (ha : f (t[p]'h) = false) : t.data.toList.all f = false := by
  have hl : p < t.data.toList.length := by simpa using h
  refine List.all_eq_false.2 ⟨t.data.toList[p], by simp, ?_⟩
  have e : t.data.toList[p] = t[p]'h := by simp; rfl
  rw [e, ha]
  simp
/-- What a step over a text tells. -/
theorem decode_cases (t : ByteArray) (p : Nat) (h : p < t.size) : ((t[p]'h).toNat < 128 ∧ Utf8.decode t p = ((t[p]'h).toNat, 1)) ∨ (128 ≤ (t[p]'h).toNat ∧ 128 ≤ (Utf8.decode t p).1) := by
  by_cases ha : (t[p]'h).toNat < 128
  · exact Or.inl ⟨ha, decode_ascii t p h ha⟩
  · exact Or.inr ⟨by omega, (decode_high t p h (by omega)).1⟩

set_option maxRecDepth 100000 in
set_option maxHeartbeats 4000000 in
theorem wrong_any (kd at_ : Int) (t : ByteArray) (w : World) (hs : t.size ≤ maxLen) : Calls Tryz.prog 81 #[.agg #[.int .u8 kd, .int .i64 at_, .string t]] w fun e w' => e = .returned (.bool (!Cm.wordB t)) ∧ Below w.heap.size w w' := by
  unfold maxLen at hs
  have lo := lowAlloc w (Obj.cells #[.int .u8 kd, .int .i64 at_, .string t] 69)
  obtain ⟨z, hz⟩ : ∃ z, z = Cm.wordB t := ⟨_, rfl⟩
  rw [← hz]
  by_cases h0 : t.size = 0
  · have HZ : Hid (z = false) := by
      unfold Hid
      rw [hz, Cm.wordB, decide_eq_false (by omega : ¬ 0 < t.size)]
      rfl
    clear hz
    go_enter Tryz.func81, Tryz.ntmps81
    go_wp2
    go_ret
    exact ⟨by rw [HZ.out]; rfl, lo⟩
  · by_cases h20 : 20 < t.size
    · have HZ : Hid (z = false) := by
        unfold Hid
        rw [hz, Cm.wordB, decide_eq_false (by omega : ¬ t.size ≤ 20)]
        simp
      clear hz
      go_enter Tryz.func81, Tryz.ntmps81
      go_wp2
      go_ret
      exact ⟨by rw [HZ.out]; rfl, lo⟩
    · have HZ : Hid (z = t.data.toList.all Cm.okB) := by
        unfold Hid
        rw [hz, Cm.wordB, decide_eq_true (by omega : 0 < t.size), decide_eq_true (by omega : t.size ≤ 20)]
        rfl
      have hit0 : Hp ((w.alloc (Obj.cells #[.int .u8 kd, .int .i64 at_, .string t] 69)).iter t 0) (w.heap.size + 1) (.stringIter t 0) := by
        have := Hp.new (w.alloc (Obj.cells #[.int .u8 kd, .int .i64 at_, .string t] 69)) (.stringIter t 0)
        simp at this
        exact this
      have HIT := Lib.hid hit0
      have HLO : Hid (Below w.heap.size w ((w.alloc (Obj.cells #[.int .u8 kd, .int .i64 at_, .string t] 69)).iter t 0)) := lo.alloc (by simp) _
      clear hz hit0 lo
      have d0 : ((t.size : Int) == 0) = false := by rw [beq_eq_false_iff_ne]; omega
      have d1 : decide ((20 : Int) < (t.size : Int)) = false := by simp; omega
      go_enter Tryz.func81, Tryz.ntmps81
      go_wp2
      go_loopw [4] (fun _ wr => ∃ p : Nat, p ≤ t.size ∧ (t.data.toList.take p).all Cm.okB = true ∧ Below w.heap.size w wr ∧ Hp wr (w.heap.size + 1) (.stringIter t p)) (fun _ wr => t.size - iterPos wr (w.heap.size + 1))
      case atStart => exact ⟨0, Nat.zero_le _, rfl, HLO.out, HIT.out⟩
      case round =>
        obtain ⟨p, hp, hal, lo, hit⟩ := hrel
        have hip := hit.pos
        by_cases hlt : p < t.size
        · obtain ⟨wn, hnx, hitn, hgr⟩ := next_any wr _ t p hit hlt
          have lon := below_grown lo hgr (by omega) lo.size
          have HIP := Lib.hid hip
          have HA := Lib.hid (bytes_take t p hlt Cm.okB hal)
          have HN := Lib.hid (bytes_all t p hlt Cm.okB)
          rcases decode_cases t p hlt with ⟨hlow, hd⟩ | ⟨hhi, hd⟩
          · rw [hd] at hnx hitn
            simp only at hnx hitn
            have hok : Cm.okB (t[p]'hlt) = (decide (33 ≤ (t[p]'hlt).toNat) && decide ((t[p]'hlt).toNat ≤ 126)) := rfl
            rw [hok] at HA HN
            clear hal hip hgr hit hd hok
            generalize (t[p]'hlt).toNat = r at *
            by_cases h1 : r < 33
            · have HF := Lib.hid (HN.out (by rw [decide_eq_false (by omega : ¬ 33 ≤ r)]; rfl))
              have dd : decide ((r : Int) < 33) = true := decide_eq_true (by omega)
              go_wp2
              go_ret
              exact ⟨by rw [HZ.out, HF.out]; rfl, lon⟩
            · by_cases h2 : 126 < r
              · have HF := Lib.hid (HN.out (by rw [decide_eq_false (by omega : ¬ r ≤ 126)]; simp))
                have dd : decide ((r : Int) < 33) = false := decide_eq_false (by omega)
                have dd2 : decide ((126 : Int) < (r : Int)) = true := decide_eq_true (by omega)
                go_wp2
                go_ret
                exact ⟨by rw [HZ.out, HF.out]; rfl, lon⟩
              · have HT := Lib.hid (HA.out.trans (by rw [decide_eq_true (by omega : 33 ≤ r), decide_eq_true (by omega : r ≤ 126)]; rfl : _ = true))
                have dd : decide ((r : Int) < 33) = false := decide_eq_false (by omega)
                have dd2 : decide ((126 : Int) < (r : Int)) = false := decide_eq_false (by omega)
                go_wp2
                go_roundw
                case rel => exact ⟨p + 1, by omega, HT.out, lon, hitn⟩
                case measure => rw [HIP.out, hitn.pos]; omega
          · have HF := Lib.hid (HN.out (by unfold Cm.okB; rw [decide_eq_false (by omega : ¬ (t[p]'hlt).toNat ≤ 126)]; simp))
            clear hal hip hgr hit HA HN
            generalize (Utf8.decode t p).1 = r at *
            have dd : decide ((r : Int) < 33) = false := decide_eq_false (by omega)
            have dd2 : decide ((126 : Int) < (r : Int)) = true := decide_eq_true (by omega)
            go_wp2
            go_ret
            exact ⟨by rw [HZ.out, HF.out]; rfl, lon⟩
        · obtain rfl : p = t.size := by omega
          have hnx := next_end wr _ t t.size hit hlt
          rw [List.take_of_length_le (by simp)] at hal
          have HA := Lib.hid hal
          clear hal hip hit
          go_wp2
          go_ret
          exact ⟨by rw [HZ.out, HA.out]; rfl, lo⟩

set_option maxRecDepth 100000 in
set_option maxHeartbeats 4000000 in
theorem indexNames_any (A : Option Addr) (q : Nat) (ns : List Nm) (w : World) (hl : ns.length ≤ 1000000) (hN : Ns w w.heap.size A ns) (hW : ∀ x ∈ ns, x.2.2.size ≤ maxLen) :
    Calls Tryz.prog 100 #[.slice A ns.length q, .func (.func 81) #[] #[]] w fun e w' => (∃ r, e = .returned (.int .i64 r) ∧ decide (0 ≤ r) = ns.any (fun x => !Cm.wordB x.2.2)) ∧ Below w.heap.size w w' := by
  go_enter Tryz.func100, Tryz.ntmps100
  go_wp2
  go_loopw [8] (fun i wr => ∃ k : Nat, k ≤ ns.length ∧ i = .int .i64 k ∧ (ns.take k).any (fun x => !Cm.wordB x.2.2) = false ∧ Below w.heap.size w wr) (fun i _ => ns.length - (intOf i).toNat)
  case atStart => exact ⟨0, Nat.zero_le _, rfl, rfl, Below.refl _ _⟩
  case round =>
    obtain ⟨k, hk, rfl, hany, lo⟩ := hrel
    by_cases hlt : k < ns.length
    · obtain ⟨b, off, hA, hbw, g1, g2, g3⟩ := (hN.below lo (Nat.le_refl _)) k hlt
      subst hA
      have e1 : (ns.take (k + 1)).any (fun x => !Cm.wordB x.2.2) = !Cm.wordB ns[k].2.2 := by rw [List.take_succ_eq_append_getElem hlt, List.any_append, hany]; simp
      have e2 : Cm.wordB ns[k].2.2 = false → ns.any (fun x => !Cm.wordB x.2.2) = true := fun h => List.any_eq_true.2 ⟨ns[k], by simp, by simp [h]⟩
      have E1 := Lib.hid e1
      have E2 := Lib.hid e2
      have HS := Lib.hid (wrong_any ns[k].1 ns[k].2.1 ns[k].2.2 wr (hW _ (by simp)))
      have HAny := Lib.hid hany
      clear e1 e2 hany
      generalize ns[k] = x at *
      obtain ⟨kd, at_, t⟩ := x
      simp only at g1 g2 g3 E1 E2 HS
      generalize Cm.wordB t = z at *
      go_wp2_with fail
      refine HS.out.mono ?_
      rintro e w1 ⟨rfl, hb1⟩
      have lo1 := lo.trans (hb1.mono lo.size)
      cases z with
      | true =>
        go_wp2
        go_roundw
        case rel => exact ⟨k + 1, by omega, by go_num, by rw [E1.out]; rfl, lo1⟩
        case measure => simp [intOf]; omega
      | false =>
        go_wp2
        go_ret
        exact ⟨⟨_, rfl, by rw [E2.out (by trivial)]; simp⟩, lo1⟩
    · obtain rfl : k = ns.length := by omega
      rw [List.take_length] at hany
      have HA := Lib.hid hany
      clear hany
      go_wp2
      go_ret
      exact ⟨⟨_, rfl, by rw [HA.out]; rfl⟩, lo⟩

set_option maxHeartbeats 1000000 in
theorem containsNames_any (A : Option Addr) (q : Nat) (ns : List Nm) (w : World) (hl : ns.length ≤ 1000000) (hN : Ns w w.heap.size A ns) (hW : ∀ x ∈ ns, x.2.2.size ≤ maxLen) :
    Calls Tryz.prog 80 #[.slice A ns.length q, .func (.func 81) #[] #[]] w fun e w' => e = .returned (.bool (!ns.all (fun x => Cm.wordB x.2.2))) ∧ Below w.heap.size w w' := by
  have HI := Lib.hid (indexNames_any A q ns w hl hN hW)
  rw [Cm.not_any (fun x : Nm => Cm.wordB x.2.2)] at HI
  generalize (!ns.all (fun x => Cm.wordB x.2.2)) = z at *
  go_enter Tryz.func80, Tryz.ntmps80
  go_wp2_with fail
  refine HI.out.mono ?_
  rintro e w1 ⟨⟨r, rfl, hr⟩, hb1⟩
  have HR := Lib.hid hr
  clear hr
  go_wp2
  go_ret
  exact ⟨ret_bool HR.out, hb1⟩
end Go.Proofs.YtdnbndknfifmgaaGreatDoor
/- distinct, named, Right. -/
namespace Go.Proofs.YtdnbndknfifmgaaGreatDoor
open Go.RowKit

instance decBytes : DecidableEq ByteArray := fun a b => if h : a.data = b.data then isTrue (by cases a; cases b; simp_all) else isFalse (fun e => h (by rw [e]))
instance lawBytes : LawfulBEq ByteArray where
  eq_of_beq {a b} h := (MapKept.bytes_beq a b).1 h
  rfl {a} := (MapKept.bytes_beq a a).2 rfl
theorem keyStr (t : ByteArray) : MapKept.IsKey .string (.string t) := by simp [MapKept.IsKey]
theorem map_modify (es : List MapEntry) (i : Nat) (e0 : MapEntry) (k v : Value) (he : es[i]? = some e0) (hk : e0.key = k) : (es.modify i (fun e => { e with key := k, val := v })).map (·.key) = es.map (·.key) := by
  apply List.ext_getElem?
  intro j
  simp only [List.getElem?_map, List.getElem?_modify]
  by_cases hj : i = j
  · subst hj
    simp [he, hk]
  · simp [hj]
theorem store_str (w : World) (b : Nat) (es : List MapEntry) (clock : Nat) (ks : List ByteArray) (t : ByteArray) (v : Value) (hb : Hp w b (.map es.toArray clock)) (hks : es.map (·.key) = ks.map .string) :
    ∃ (wn : World) (es' : List MapEntry) (clock' : Nat), (Instr.mapUpdate 142 (.map (some b)) (.string t) v).run Tryz.prog w = .ok () wn ∧ Hp wn b (.map es'.toArray clock') ∧ es'.map (·.key) = (if t ∈ ks then ks else ks ++ [t]).map .string ∧ w.grownBy wn (some b) := by
  have hall : ∀ x ∈ es, MapKept.IsKey .string x.key := by
    intro x hx
    have : x.key ∈ es.map (·.key) := List.mem_map_of_mem hx
    rw [hks] at this
    obtain ⟨y, _, hy⟩ := List.mem_map.1 this
    rw [← hy]
    exact keyStr y
  rcases MapKept.findNow_spec (keyStr t) es 0 hall with ⟨hf, hno⟩ | ⟨j, e0, hf, he, hk⟩
  · have hnot : t ∉ ks := by
      intro ht
      have : Value.string t ∈ ks.map Value.string := List.mem_map_of_mem ht
      rw [← hks] at this
      obtain ⟨x, hx, hy⟩ := List.mem_map.1 this
      exact hno x hx hy
    have hs := set_grown hb (.map (es ++ [MapEntry.mk (.string t) v clock]).toArray (clock + 1))
    refine ⟨_, es ++ [MapEntry.mk (.string t) v clock], clock + 1, ?_, hs.1, by simp [hnot, hks], hs.2⟩
    simp only [Instr.mapUpdate, Sem.run_bind, run_underlying Tryz.underlying142, Result.andThen, MapKept.run_getObj_map hb, MapKept.run_checkKey Tryz.underlying9 (keyStr t), MapKept.run_findKey Tryz.underlying9 hf]
    rw [MapKept.run_setObj_map _ hb]
    simp
  · have hin : t ∈ ks := by
      have : e0.key ∈ es.map (·.key) := List.mem_map_of_mem (List.mem_of_getElem? he)
      rw [hks, hk] at this
      obtain ⟨y, hy, e⟩ := List.mem_map.1 this
      injection e with e
      rw [← e]
      exact hy
    rw [Nat.zero_add] at hf
    have hs := set_grown hb (.map (es.modify j (fun e => { e with key := .string t, val := v })).toArray clock)
    refine ⟨_, es.modify j (fun e => { e with key := .string t, val := v }), clock, ?_, hs.1, by rw [map_modify es j e0 _ _ he hk, hks, if_pos hin], hs.2⟩
    have hsb : Instr.sameBits 10000 (.string t) (.string t) = true := by
      exact (MapKept.bytes_beq t t).2 rfl
    simp only [Instr.mapUpdate, Sem.run_bind, run_underlying Tryz.underlying142, Result.andThen, MapKept.run_getObj_map hb, MapKept.run_checkKey Tryz.underlying9 (keyStr t), MapKept.run_findKey Tryz.underlying9 hf, Instr.keyThatStays]
    simp only [List.getElem?_toArray, he, Option.map_some, Option.getD_some, hk, hsb, if_true, Sem.run_pure]
    rw [MapKept.run_setObj_map _ hb]
    simp
theorem make_set (w : World) (n : Int) : (Instr.makeMap 142 (some (.int .i64 n))).run Tryz.prog w = .ok (.map (some w.heap.size)) (w.alloc (.map #[] 0)) := by
  simp only [Instr.makeMap, Sem.run_bind, run_underlying Tryz.underlying142, Result.andThen]
  rfl
theorem len_set (w : World) (b : Nat) (es : List MapEntry) (clock : Nat) (hb : Hp w b (.map es.toArray clock)) (ty : TypeId) : (Builtin.len_ #[142] ty #[.map (some b)]).run Tryz.prog w = .ok (.int .i64 (es.length : Int)) w := by
  simp [Builtin.len_, run_underlying Tryz.underlying142, Result.andThen, MapKept.run_getObj_map hb, goInt, Sem.run_bind]

namespace Cm
def texts (ns : List Nm) : List ByteArray := ns.map (·.2.2)
/-- The keys that are there, when k texts have been put in. -/
structure Keys (ts : List ByteArray) (k : Nat) (ks : List ByteArray) : Prop where
  nod : ks.Nodup
  mem : ∀ t, t ∈ ks ↔ t ∈ ts.take k
  le : ks.length ≤ k
  eq : ks.length = k ↔ (ts.take k).Nodup
theorem Keys.zero (ts : List ByteArray) : Keys ts 0 [] := ⟨by simp, by simp, by simp, by simp⟩
theorem Keys.step {ts : List ByteArray} {k : Nat} {ks : List ByteArray} (h : Keys ts k ks) (hk : k < ts.length) : Keys ts (k + 1) (if ts[k] ∈ ks then ks else ks ++ [ts[k]]) := by
  have hn : (ts.take (k + 1)).Nodup ↔ (ts.take k).Nodup ∧ ts[k] ∉ ts.take k := by
    rw [List.take_succ_eq_append_getElem hk, List.nodup_append]
    constructor
    · rintro ⟨h1, _, h3⟩
      exact ⟨h1, fun hm => h3 _ hm _ (by simp) rfl⟩
    · rintro ⟨h1, h2⟩
      refine ⟨h1, by simp, ?_⟩
      intro a ha b hb
      simp at hb
      subst hb
      intro e
      subst e
      exact h2 ha
  have hle := h.le
  split
  · rename_i hin
    refine ⟨h.nod, fun t => ?_, by omega, ?_⟩
    · rw [List.take_succ_eq_append_getElem hk, List.mem_append, ← h.mem]
      constructor
      · exact Or.inl
      · rintro (h1 | h1)
        · exact h1
        · simp at h1
          rw [h1]
          exact hin
    · rw [hn]
      constructor
      · intro h1; omega
      · rintro ⟨_, h2⟩
        exact absurd ((h.mem _).1 hin) h2
  · rename_i hin
    refine ⟨?_, fun t => ?_, by simp; omega, ?_⟩
    · rw [List.nodup_append]
      refine ⟨h.nod, by simp, ?_⟩
      intro a ha b hb e
      simp at hb
      subst hb e
      exact hin ha
    · rw [List.take_succ_eq_append_getElem hk, List.mem_append, List.mem_append, h.mem]
    · rw [hn, ← h.eq, ← h.mem]
      simp [hin]
def namedB (c : Cir) : Bool := ordS c 6 0 c.ns && c.ns.all (fun x => wordB x.2.2) && decide (texts c.ns).Nodup
def rightC (c : Cir) : Bool := fitsB c && Gm.rightB (c.n + c.ls.length) c.gs && drivenB c && namedB c
end Cm

set_option maxRecDepth 100000 in
set_option maxHeartbeats 4000000 in
theorem distinct_any (A : Option Addr) (q : Nat) (ns : List Nm) (w : World) (hl : ns.length ≤ 1000000) (hN : Ns w w.heap.size A ns) :
    Calls Tryz.prog 82 #[.slice A ns.length q] w fun e w' => e = .returned (.bool (decide (Cm.texts ns).Nodup)) ∧ Below w.heap.size w w' := by
  have hmk := make_set
  have hst := Hp.new w (.map #[] 0)
  have HST := Lib.hid hst
  clear hst
  go_enter Tryz.func82, Tryz.ntmps82
  go_wp2
  go_loopw [11] (fun i wr => ∃ (k : Nat) (es : List MapEntry) (ck : Nat) (ks : List ByteArray), k ≤ ns.length ∧ i = .int .i64 k ∧ Below w.heap.size w wr ∧ Hp wr w.heap.size (.map es.toArray ck) ∧ es.map (·.key) = ks.map .string ∧ Cm.Keys (Cm.texts ns) k ks) (fun i _ => ns.length - (intOf i).toNat)
  case atStart => exact ⟨0, [], 0, [], Nat.zero_le _, rfl, lowAlloc w _, HST.out, rfl, Cm.Keys.zero _⟩
  case round =>
    obtain ⟨k, es, ck, ks, hk, rfl, lo, hmp, hks, hK⟩ := hrel
    by_cases hlt : k < ns.length
    · obtain ⟨b, off, hA, hbw, g1, g2, g3⟩ := (hN.below lo (Nat.le_refl _)) k hlt
      subst hA
      have htk : (Cm.texts ns)[k]'(by simpa [Cm.texts] using hlt) = ns[k].2.2 := by simp [Cm.texts]
      have hK2 := hK.step (by simpa [Cm.texts] using hlt)
      rw [htk] at hK2
      generalize ns[k] = x at *
      obtain ⟨kd, at_, t⟩ := x
      simp only at g1 g2 g3 hK2
      have lo1 := lo.alloc lo.size (Obj.cells #[.int .u8 kd, .int .i64 at_, .string t] 69)
      obtain ⟨wn, es', ck', hup, hmp2, hks2, hgr⟩ := store_str _ _ es ck ks t (.agg #[]) (hmp.alloc (Obj.cells #[.int .u8 kd, .int .i64 at_, .string t] 69)) hks
      have lon := below_grown lo1 hgr (Nat.le_refl _) lo1.size
      have HK2 := Lib.hid hK2
      have HKS2 := Lib.hid hks2
      clear htk hK hK2 hks hks2
      go_wp2
      go_roundw
      case rel => exact ⟨k + 1, es', ck', _, by omega, by go_num, lon, hmp2, HKS2.out, HK2.out⟩
      case measure => simp [intOf]; omega
    · obtain rfl : k = ns.length := by omega
      have hlen := len_set wr _ es ck hmp
      have he : es.length = ks.length := by have := congrArg List.length hks; simpa using this
      have hE : decide ((es.length : Int) = (ns.length : Int)) = decide (Cm.texts ns).Nodup := by
        have := hK.eq
        rw [List.take_of_length_le (by simp [Cm.texts])] at this
        rw [he]
        by_cases hn : (Cm.texts ns).Nodup
        · rw [decide_eq_true hn, decide_eq_true]
          have := this.2 hn
          omega
        · rw [decide_eq_false hn, decide_eq_false]
          intro h
          exact hn (this.1 (by omega))
      have HE := Lib.hid hE
      clear hK hks he hE
      go_wp2
      go_ret
      exact ⟨ret_bool HE.out, lo⟩

set_option maxRecDepth 100000 in
set_option maxHeartbeats 4000000 in
theorem named_any (c : Cir) (w : World) (hM : CirM w w.heap.size c) (hW : CirW c) (hcap : c.ns.length ≤ c.cN) : Calls Tryz.prog 52 #[.agg #[.int .i64 c.n, .slice c.aL c.ls.length c.cL, .slice c.aG c.gs.length c.cG, .slice c.aO c.os.length c.cO, .slice c.aB c.bs.length c.cB, .slice c.aC c.cs.length c.cC, .slice c.aF c.fs.length c.cF, .slice c.aN c.ns.length c.cN]] w fun e w' => e = .returned (.bool (Cm.namedB c)) ∧ Below w.heap.size w w' := by
  have hbx := boxed w c
  have lo := lowAlloc w (Obj.cells #[.int .i64 c.n, .slice c.aL c.ls.length c.cL, .slice c.aG c.gs.length c.cG, .slice c.aO c.os.length c.cO, .slice c.aB c.bs.length c.cB, .slice c.aC c.cs.length c.cC, .slice c.aF c.fs.length c.cF, .slice c.aN c.ns.length c.cN] 29)
  have hnot : ∀ (x : Bool) (w : World), (Op.unary .not (.bool x)).run Tryz.prog w = .ok (.bool (!x)) w := fun _ _ => rfl
  have hM1 := (hM.below lo (Nat.le_refl _)).more lo.size
  have H1 := Lib.hid (ordered4_any c _ hM1 hW hcap)
  have H2 : Hid (∀ V, Below w.heap.size w V → Calls Tryz.prog 80 #[.slice c.aN c.ns.length c.cN, .func (.func 81) #[] #[]] V fun e w' => e = .returned (.bool (!c.ns.all (fun x => Cm.wordB x.2.2))) ∧ Below V.heap.size V w') := fun V hb =>
    containsNames_any c.aN c.cN c.ns V hW.ln ((hM.hn.below hb (Nat.le_refl _)).more hb.size) (fun x hx => (hW.hk x hx).2.2)
  have H3 : Hid (∀ V, Below w.heap.size w V → Calls Tryz.prog 82 #[.slice c.aN c.ns.length c.cN] V fun e w' => e = .returned (.bool (decide (Cm.texts c.ns).Nodup)) ∧ Below V.heap.size V w') := fun V hb =>
    distinct_any c.aN c.cN c.ns V hW.ln ((hM.hn.below hb (Nat.le_refl _)).more hb.size)
  unfold Cm.namedB
  generalize Cm.ordS c 6 0 c.ns = x at *
  generalize c.ns.all (fun x => Cm.wordB x.2.2) = y at *
  generalize decide (Cm.texts c.ns).Nodup = z at *
  have c0 := hbx.cell 0; have c1 := hbx.cell 1; have c2 := hbx.cell 2; have c3 := hbx.cell 3; have c4 := hbx.cell 4; have c5 := hbx.cell 5; have c6 := hbx.cell 6; have c7 := hbx.cell 7; simp only [List.getElem?_toArray, List.getElem?_cons_zero, List.getElem?_cons_succ] at c0 c1 c2 c3 c4 c5 c6 c7
  go_enter Tryz.func52, Tryz.ntmps52
  go_wp2_with fail
  refine H1.out.mono ?_
  rintro e w1 ⟨rfl, hb1⟩
  replace hbx := hbx.below hb1 hbx.lt
  replace lo := lo.trans (hb1.mono lo.size)
  clear c0 c1 c2 c3 c4 c5 c6 c7
  have c0 := hbx.cell 0; have c1 := hbx.cell 1; have c2 := hbx.cell 2; have c3 := hbx.cell 3; have c4 := hbx.cell 4; have c5 := hbx.cell 5; have c6 := hbx.cell 6; have c7 := hbx.cell 7; simp only [List.getElem?_toArray, List.getElem?_cons_zero, List.getElem?_cons_succ] at c0 c1 c2 c3 c4 c5 c6 c7
  cases x with
  | false =>
    go_wp2
    go_ret
    exact ⟨rfl, lo⟩
  | true =>
    go_wp2_with fail
    refine (H2.out _ lo).mono ?_
    rintro e w2 ⟨rfl, hb2⟩
    replace hbx := hbx.below hb2 hbx.lt
    replace lo := lo.trans (hb2.mono lo.size)
    clear c0 c1 c2 c3 c4 c5 c6 c7
    have c0 := hbx.cell 0; have c1 := hbx.cell 1; have c2 := hbx.cell 2; have c3 := hbx.cell 3; have c4 := hbx.cell 4; have c5 := hbx.cell 5; have c6 := hbx.cell 6; have c7 := hbx.cell 7; simp only [List.getElem?_toArray, List.getElem?_cons_zero, List.getElem?_cons_succ] at c0 c1 c2 c3 c4 c5 c6 c7
    cases y with
    | false =>
      go_wp2
      go_ret
      exact ⟨rfl, lo⟩
    | true =>
      go_wp2_with fail
      refine (H3.out _ lo).mono ?_
      rintro e w3 ⟨rfl, hb3⟩
      replace lo := lo.trans (hb3.mono lo.size)
      go_wp2
      go_ret
      exact ⟨by simp, lo⟩

set_option maxRecDepth 100000 in
set_option maxHeartbeats 4000000 in
theorem Right4_any (c : Cir) (w : World) (hM : CirM w w.heap.size c) (hW : CirW c) (hcap : c.ns.length ≤ c.cN) : Calls Tryz.prog 21 #[.agg #[.int .i64 c.n, .slice c.aL c.ls.length c.cL, .slice c.aG c.gs.length c.cG, .slice c.aO c.os.length c.cO, .slice c.aB c.bs.length c.cB, .slice c.aC c.cs.length c.cC, .slice c.aF c.fs.length c.cF, .slice c.aN c.ns.length c.cN]] w fun e w' => e = .returned (.bool (Cm.rightC c)) ∧ Below w.heap.size w w' := by
  have hbx := boxed w c
  have lo := lowAlloc w (Obj.cells #[.int .i64 c.n, .slice c.aL c.ls.length c.cL, .slice c.aG c.gs.length c.cG, .slice c.aO c.os.length c.cO, .slice c.aB c.bs.length c.cB, .slice c.aC c.cs.length c.cC, .slice c.aF c.fs.length c.cF, .slice c.aN c.ns.length c.cN] 29)
  have HMB : Hid (∀ V, Below w.heap.size w V → CirM V V.heap.size c) := fun V hb => (hM.below hb (Nat.le_refl _)).more hb.size
  have hrc : Cm.rightC c = (Cm.fitsB c && Gm.rightB (c.n + c.ls.length) c.gs && Cm.drivenB c && Cm.namedB c) := rfl
  generalize Cm.rightC c = z at *
  have c0 := hbx.cell 0; have c1 := hbx.cell 1; have c2 := hbx.cell 2; have c3 := hbx.cell 3; have c4 := hbx.cell 4; have c5 := hbx.cell 5; have c6 := hbx.cell 6; have c7 := hbx.cell 7; simp only [List.getElem?_toArray, List.getElem?_cons_zero, List.getElem?_cons_succ] at c0 c1 c2 c3 c4 c5 c6 c7
  have HRC := Lib.hid hrc
  clear hrc
  go_enter Tryz.func21, Tryz.ntmps21
  go_wp2_with fail
  refine (fits4_any c _).mono ?_
  rintro e w1 ⟨rfl, hb1⟩
  replace hbx := hbx.below hb1 hbx.lt
  replace lo := lo.trans (hb1.mono lo.size)
  clear c0 c1 c2 c3 c4 c5 c6 c7
  have c0 := hbx.cell 0; have c1 := hbx.cell 1; have c2 := hbx.cell 2; have c3 := hbx.cell 3; have c4 := hbx.cell 4; have c5 := hbx.cell 5; have c6 := hbx.cell 6; have c7 := hbx.cell 7; simp only [List.getElem?_toArray, List.getElem?_cons_zero, List.getElem?_cons_succ] at c0 c1 c2 c3 c4 c5 c6 c7
  have HF := Lib.hid (fun h => Cm.wrapW (c := c) h)
  have HD := Lib.hid (fun V (hb : Below w.heap.size w V) h => driven_any c V (HMB.out V hb) hW h)
  generalize Cm.fitsB c = f at *
  cases f with
  | false =>
    go_wp2
    go_ret
    exact ⟨ret_bool (by rw [HRC.out]; simp), lo⟩
  | true =>
    go_wp2_with fail
    refine (inner_any c _).mono ?_
    rintro e w2 ⟨rfl, hb2⟩
    rw [HF.out trivial]
    replace hbx := hbx.below hb2 hbx.lt
    replace lo := lo.trans (hb2.mono lo.size)
    clear c0 c1 c2 c3 c4 c5 c6 c7
    have c0 := hbx.cell 0; have c1 := hbx.cell 1; have c2 := hbx.cell 2; have c3 := hbx.cell 3; have c4 := hbx.cell 4; have c5 := hbx.cell 5; have c6 := hbx.cell 6; have c7 := hbx.cell 7; simp only [List.getElem?_toArray, List.getElem?_cons_zero, List.getElem?_cons_succ] at c0 c1 c2 c3 c4 c5 c6 c7
    have HR := Lib.hid (Right_any (c.n + c.ls.length) c.aG c.cG c.gs w2 w2.heap.size hW.lg (HMB.out _ lo).hg (Nat.le_refl _) hW.hg)
    go_wp2_with fail
    refine HR.out.mono ?_
    rintro e w3 ⟨rfl, hb3⟩
    replace hbx := hbx.below hb3 hbx.lt
    replace lo := lo.trans (hb3.mono lo.size)
    clear c0 c1 c2 c3 c4 c5 c6 c7
    have c0 := hbx.cell 0; have c1 := hbx.cell 1; have c2 := hbx.cell 2; have c3 := hbx.cell 3; have c4 := hbx.cell 4; have c5 := hbx.cell 5; have c6 := hbx.cell 6; have c7 := hbx.cell 7; simp only [List.getElem?_toArray, List.getElem?_cons_zero, List.getElem?_cons_succ] at c0 c1 c2 c3 c4 c5 c6 c7
    clear HR
    generalize Gm.rightB (c.n + c.ls.length) c.gs = g at *
    cases g with
    | false =>
      go_wp2
      go_ret
      exact ⟨ret_bool (by rw [HRC.out]; simp), lo⟩
    | true =>
      go_wp2_with fail
      refine (HD.out _ lo trivial).mono ?_
      rintro e w4 ⟨rfl, hb4⟩
      replace hbx := hbx.below hb4 hbx.lt
      replace lo := lo.trans (hb4.mono lo.size)
      clear c0 c1 c2 c3 c4 c5 c6 c7
      have c0 := hbx.cell 0; have c1 := hbx.cell 1; have c2 := hbx.cell 2; have c3 := hbx.cell 3; have c4 := hbx.cell 4; have c5 := hbx.cell 5; have c6 := hbx.cell 6; have c7 := hbx.cell 7; simp only [List.getElem?_toArray, List.getElem?_cons_zero, List.getElem?_cons_succ] at c0 c1 c2 c3 c4 c5 c6 c7
      clear HD HF
      generalize Cm.drivenB c = d at *
      cases d with
      | false =>
        go_wp2
        go_ret
        exact ⟨ret_bool (by rw [HRC.out]; simp), lo⟩
      | true =>
        have HN := Lib.hid (named_any c w4 (HMB.out _ lo) hW hcap)
        generalize Cm.namedB c = m at *
        go_wp2_with fail
        refine HN.out.mono ?_
        rintro e w5 ⟨rfl, hb5⟩
        replace lo := lo.trans (hb5.mono lo.size)
        go_wp2
        go_ret
        exact ⟨ret_bool (by rw [HRC.out]; simp), lo⟩
end Go.Proofs.YtdnbndknfifmgaaGreatDoor
/- literal, signal, Signal, number, Find. -/
namespace Go.Proofs.YtdnbndknfifmgaaGreatDoor
open Go.RowKit

namespace Cm
def isDig (b : UInt8) : Bool := decide (48 ≤ b.toNat) && decide (b.toNat ≤ 57)
def valS (l : List UInt8) : Nat := l.foldl (fun n b => 10 * n + (b.toNat - 48)) 0
theorem valS_snoc (l : List UInt8) (b : UInt8) : valS (l ++ [b]) = 10 * valS l + (b.toNat - 48) := by simp [valS]
theorem val_acc (l : List UInt8) (h : l.all isDig = true) (a : Nat) : l.foldl (fun n b => 10 * n + (b.toNat - 48)) a < (a + 1) * 10 ^ l.length := by
  induction l generalizing a with
  | nil => simp
  | cons b t ih =>
    simp only [List.all_cons, Bool.and_eq_true] at h
    have hb := h.1
    simp [isDig] at hb
    have := ih h.2 (10 * a + (b.toNat - 48))
    rw [List.foldl_cons, List.length_cons, Nat.pow_succ, Nat.mul_comm _ 10, ← Nat.mul_assoc]
    refine Nat.lt_of_lt_of_le this (Nat.mul_le_mul_right _ ?_)
    omega
theorem valS_le (l : List UInt8) (h : l.all isDig = true) : valS l < 10 ^ l.length := by
  have := val_acc l h 0
  simpa [valS] using this
end Cm

end Go.Proofs.YtdnbndknfifmgaaGreatDoor
/- inputs, value, steps, Find, Of. -/
namespace Go.Proofs.YtdnbndknfifmgaaGreatDoor
open Go.RowKit

namespace Cm
theorem right_fits {c : Cir} (h : rightC c = true) : fitsB c = true := by
  simp only [Cm.rightC, Bool.and_eq_true] at h
  exact h.1.1.1
end Cm

end Go.Proofs.YtdnbndknfifmgaaGreatDoor
/- Find, Is, After. -/
namespace Go.Proofs.YtdnbndknfifmgaaGreatDoor
open Go.RowKit

namespace Cm
end Cm

end Go.Proofs.YtdnbndknfifmgaaGreatDoor
/- Is and After. -/
namespace Go.Proofs.YtdnbndknfifmgaaGreatDoor
open Go.RowKit

end Go.Proofs.YtdnbndknfifmgaaGreatDoor
/- After. -/
namespace Go.Proofs.YtdnbndknfifmgaaGreatDoor
open Go.RowKit

namespace Cm
end Cm
end Go.Proofs.YtdnbndknfifmgaaGreatDoor
/- awake of layer 4. -/
namespace Go.Proofs.YtdnbndknfifmgaaGreatDoor
open Go.RowKit

end Go.Proofs.YtdnbndknfifmgaaGreatDoor
