/- wrong, ContainsFunc over names, distinct. -/
import Derived.Test.YteabffdddlihnaaD5
import Derived.Laws.RangeAny
namespace Go.Proofs.Yteabffdddlihnaa
open Go.RowKit

namespace Cm
def okB (b : UInt8) : Bool := decide (33 ≤ b.toNat) && decide (b.toNat ≤ 126)
def wordB (t : ByteArray) : Bool := decide (0 < t.size) && decide (t.size ≤ 20) && t.data.toList.all okB
end Cm
theorem bytes_take (t : ByteArray) (p : Nat) (h : p < t.size) (f : UInt8 → Bool) (ha : (t.data.toList.take p).all f = true) : (t.data.toList.take (p + 1)).all f = f (t[p]'h) := by
  have hl : p < t.data.toList.length := by simpa using h
  rw [List.take_succ_eq_append_getElem hl, List.all_append, ha]
  simp
  rfl
theorem bytes_all (t : ByteArray) (p : Nat) (h : p < t.size) (f : UInt8 → Bool) (ha : f (t[p]'h) = false) : t.data.toList.all f = false := by
  have hl : p < t.data.toList.length := by simpa using h
  refine List.all_eq_false.2 ⟨t.data.toList[p], by simp, ?_⟩
  have e : t.data.toList[p] = t[p]'h := by simp; rfl
  rw [e, ha]
  simp
/-- What a step over a text tells. -/
theorem decode_cases (t : ByteArray) (p : Nat) (h : p < t.size) : ((t[p]'h).toNat < 128 ∧ Utf8.decode t p = ((t[p]'h).toNat, 1)) ∨ (128 ≤ (t[p]'h).toNat ∧ 128 ≤ (Utf8.decode t p).1) := by
  by_cases ha : (t[p]'h).toNat < 128
  · exact Or.inl ⟨ha, decode_ascii t p h ha⟩
  · exact Or.inr ⟨by omega, (decode_high t p h (by omega)).1⟩

set_option maxRecDepth 100000 in
set_option maxHeartbeats 4000000 in
theorem wrong_any (kd at_ : Int) (t : ByteArray) (w : World) (hs : t.size ≤ maxLen) : Calls Try.prog 64 #[.agg #[.int .u8 kd, .int .i64 at_, .string t]] w fun e w' => e = .returned (.bool (!Cm.wordB t)) ∧ Below w.heap.size w w' := by
  unfold maxLen at hs
  have lo := lowAlloc w (Obj.cells #[.int .u8 kd, .int .i64 at_, .string t] 34)
  obtain ⟨z, hz⟩ : ∃ z, z = Cm.wordB t := ⟨_, rfl⟩
  rw [← hz]
  by_cases h0 : t.size = 0
  · have HZ : Hid (z = false) := by
      unfold Hid
      rw [hz, Cm.wordB, decide_eq_false (by omega : ¬ 0 < t.size)]
      rfl
    clear hz
    go_enter Try.func64, Try.ntmps64
    go_wp2
    go_ret
    exact ⟨by rw [HZ.out]; rfl, lo⟩
  · by_cases h20 : 20 < t.size
    · have HZ : Hid (z = false) := by
        unfold Hid
        rw [hz, Cm.wordB, decide_eq_false (by omega : ¬ t.size ≤ 20)]
        simp
      clear hz
      go_enter Try.func64, Try.ntmps64
      go_wp2
      go_ret
      exact ⟨by rw [HZ.out]; rfl, lo⟩
    · have HZ : Hid (z = t.data.toList.all Cm.okB) := by
        unfold Hid
        rw [hz, Cm.wordB, decide_eq_true (by omega : 0 < t.size), decide_eq_true (by omega : t.size ≤ 20)]
        rfl
      have hit0 : Hp ((w.alloc (Obj.cells #[.int .u8 kd, .int .i64 at_, .string t] 34)).iter t 0) (w.heap.size + 1) (.stringIter t 0) := by
        have := Hp.new (w.alloc (Obj.cells #[.int .u8 kd, .int .i64 at_, .string t] 34)) (.stringIter t 0)
        simp at this
        exact this
      have HIT := Lib.hid hit0
      have HLO : Hid (Below w.heap.size w ((w.alloc (Obj.cells #[.int .u8 kd, .int .i64 at_, .string t] 34)).iter t 0)) := lo.alloc (by simp) _
      clear hz hit0 lo
      have d0 : ((t.size : Int) == 0) = false := by rw [beq_eq_false_iff_ne]; omega
      have d1 : decide ((20 : Int) < (t.size : Int)) = false := by simp; omega
      go_enter Try.func64, Try.ntmps64
      go_wp2
      go_loopw [4] (fun _ wr => ∃ p : Nat, p ≤ t.size ∧ (t.data.toList.take p).all Cm.okB = true ∧ Below w.heap.size w wr ∧ Hp wr (w.heap.size + 1) (.stringIter t p)) (fun _ wr => t.size - iterPos wr (w.heap.size + 1))
      case atStart => exact ⟨0, Nat.zero_le _, rfl, HLO.out, HIT.out⟩
      case round =>
        obtain ⟨p, hp, hal, lo, hit⟩ := hrel
        have hip := hit.pos
        by_cases hlt : p < t.size
        · obtain ⟨wn, hnx, hitn, hgr⟩ := next_any wr _ t p hit hlt
          have lon := below_grown lo hgr (by omega) lo.size
          have HIP := Lib.hid hip
          have HA := Lib.hid (bytes_take t p hlt Cm.okB hal)
          have HN := Lib.hid (bytes_all t p hlt Cm.okB)
          rcases decode_cases t p hlt with ⟨hlow, hd⟩ | ⟨hhi, hd⟩
          · rw [hd] at hnx hitn
            simp only at hnx hitn
            have hok : Cm.okB (t[p]'hlt) = (decide (33 ≤ (t[p]'hlt).toNat) && decide ((t[p]'hlt).toNat ≤ 126)) := rfl
            rw [hok] at HA HN
            clear hal hip hgr hit hd hok
            generalize (t[p]'hlt).toNat = r at *
            by_cases h1 : r < 33
            · have HF := Lib.hid (HN.out (by rw [decide_eq_false (by omega : ¬ 33 ≤ r)]; rfl))
              have dd : decide ((r : Int) < 33) = true := decide_eq_true (by omega)
              go_wp2
              go_ret
              exact ⟨by rw [HZ.out, HF.out]; rfl, lon⟩
            · by_cases h2 : 126 < r
              · have HF := Lib.hid (HN.out (by rw [decide_eq_false (by omega : ¬ r ≤ 126)]; simp))
                have dd : decide ((r : Int) < 33) = false := decide_eq_false (by omega)
                have dd2 : decide ((126 : Int) < (r : Int)) = true := decide_eq_true (by omega)
                go_wp2
                go_ret
                exact ⟨by rw [HZ.out, HF.out]; rfl, lon⟩
              · have HT := Lib.hid (HA.out.trans (by rw [decide_eq_true (by omega : 33 ≤ r), decide_eq_true (by omega : r ≤ 126)]; rfl : _ = true))
                have dd : decide ((r : Int) < 33) = false := decide_eq_false (by omega)
                have dd2 : decide ((126 : Int) < (r : Int)) = false := decide_eq_false (by omega)
                go_wp2
                go_roundw
                case rel => exact ⟨p + 1, by omega, HT.out, lon, hitn⟩
                case measure => rw [HIP.out, hitn.pos]; omega
          · have HF := Lib.hid (HN.out (by unfold Cm.okB; rw [decide_eq_false (by omega : ¬ (t[p]'hlt).toNat ≤ 126)]; simp))
            clear hal hip hgr hit HA HN
            generalize (Utf8.decode t p).1 = r at *
            have dd : decide ((r : Int) < 33) = false := decide_eq_false (by omega)
            have dd2 : decide ((126 : Int) < (r : Int)) = true := decide_eq_true (by omega)
            go_wp2
            go_ret
            exact ⟨by rw [HZ.out, HF.out]; rfl, lon⟩
        · obtain rfl : p = t.size := by omega
          have hnx := next_end wr _ t t.size hit hlt
          rw [List.take_of_length_le (by simp)] at hal
          have HA := Lib.hid hal
          clear hal hip hit
          go_wp2
          go_ret
          exact ⟨by rw [HZ.out, HA.out]; rfl, lo⟩

set_option maxRecDepth 100000 in
set_option maxHeartbeats 4000000 in
theorem indexNames_any (A : Option Addr) (q : Nat) (ns : List Nm) (w : World) (hl : ns.length ≤ 1000000) (hN : Ns w w.heap.size A ns) (hW : ∀ x ∈ ns, x.2.2.size ≤ maxLen) :
    Calls Try.prog 76 #[.slice A ns.length q, .func (.func 64) #[] #[]] w fun e w' => (∃ r, e = .returned (.int .i64 r) ∧ decide (0 ≤ r) = ns.any (fun x => !Cm.wordB x.2.2)) ∧ Below w.heap.size w w' := by
  go_enter Try.func76, Try.ntmps76
  go_wp2
  go_loopw [8] (fun i wr => ∃ k : Nat, k ≤ ns.length ∧ i = .int .i64 k ∧ (ns.take k).any (fun x => !Cm.wordB x.2.2) = false ∧ Below w.heap.size w wr) (fun i _ => ns.length - (intOf i).toNat)
  case atStart => exact ⟨0, Nat.zero_le _, rfl, rfl, Below.refl _ _⟩
  case round =>
    obtain ⟨k, hk, rfl, hany, lo⟩ := hrel
    by_cases hlt : k < ns.length
    · obtain ⟨b, off, hA, hbw, g1, g2, g3⟩ := (hN.below lo (Nat.le_refl _)) k hlt
      subst hA
      have e1 : (ns.take (k + 1)).any (fun x => !Cm.wordB x.2.2) = !Cm.wordB ns[k].2.2 := by rw [List.take_succ_eq_append_getElem hlt, List.any_append, hany]; simp
      have e2 : Cm.wordB ns[k].2.2 = false → ns.any (fun x => !Cm.wordB x.2.2) = true := fun h => List.any_eq_true.2 ⟨ns[k], by simp, by simp [h]⟩
      have E1 := Lib.hid e1
      have E2 := Lib.hid e2
      have HS := Lib.hid (wrong_any ns[k].1 ns[k].2.1 ns[k].2.2 wr (hW _ (by simp)))
      have HAny := Lib.hid hany
      clear e1 e2 hany
      generalize ns[k] = x at *
      obtain ⟨kd, at_, t⟩ := x
      simp only at g1 g2 g3 E1 E2 HS
      generalize Cm.wordB t = z at *
      go_wp2_with fail
      refine HS.out.mono ?_
      rintro e w1 ⟨rfl, hb1⟩
      have lo1 := lo.trans (hb1.mono lo.size)
      cases z with
      | true =>
        go_wp2
        go_roundw
        case rel => exact ⟨k + 1, by omega, by go_num, by rw [E1.out]; rfl, lo1⟩
        case measure => simp [intOf]; omega
      | false =>
        go_wp2
        go_ret
        exact ⟨⟨_, rfl, by rw [E2.out (by trivial)]; simp⟩, lo1⟩
    · obtain rfl : k = ns.length := by omega
      rw [List.take_length] at hany
      have HA := Lib.hid hany
      clear hany
      go_wp2
      go_ret
      exact ⟨⟨_, rfl, by rw [HA.out]; rfl⟩, lo⟩

set_option maxHeartbeats 1000000 in
theorem containsNames_any (A : Option Addr) (q : Nat) (ns : List Nm) (w : World) (hl : ns.length ≤ 1000000) (hN : Ns w w.heap.size A ns) (hW : ∀ x ∈ ns, x.2.2.size ≤ maxLen) :
    Calls Try.prog 63 #[.slice A ns.length q, .func (.func 64) #[] #[]] w fun e w' => e = .returned (.bool (!ns.all (fun x => Cm.wordB x.2.2))) ∧ Below w.heap.size w w' := by
  have HI := Lib.hid (indexNames_any A q ns w hl hN hW)
  rw [Cm.not_any (fun x : Nm => Cm.wordB x.2.2)] at HI
  generalize (!ns.all (fun x => Cm.wordB x.2.2)) = z at *
  go_enter Try.func63, Try.ntmps63
  go_wp2_with fail
  refine HI.out.mono ?_
  rintro e w1 ⟨⟨r, rfl, hr⟩, hb1⟩
  have HR := Lib.hid hr
  clear hr
  go_wp2
  go_ret
  exact ⟨ret_bool HR.out, hb1⟩
end Go.Proofs.Yteabffdddlihnaa
