/- The reference of layer 4: Of, rank, many, Word, Number, lits. -/
import Derived.Test.YtpejilhdhkmcjaaGreatDoorJaAl
import Derived.Test.YtpejilhdhkmcjaaGreatDoorJaak
namespace Go.Proofs.YtpejilhdhkmcjaaGreatDoor
open Go.RowKit

set_option maxHeartbeats 2000000 in
theorem refOf_any (c : Cir) (w : World) : Calls Tryz.prog 40 #[.agg #[.int .i64 c.n, .slice c.aL c.ls.length c.cL, .slice c.aG c.gs.length c.cG, .slice c.aO c.os.length c.cO, .slice c.aB c.bs.length c.cB, .slice c.aC c.cs.length c.cC, .slice c.aF c.fs.length c.cF, .slice c.aN c.ns.length c.cN]] w fun e w' => e = .returned (.agg #[.int .i64 (wrap64 (c.n + c.ls.length)), .slice c.aG c.gs.length c.cG]) ∧ Below w.heap.size w w' := by
 have hbx := (boxed w c).alloc (Obj.cells #[.int .i64 0, .slice none 0 0] 64)
 have hgx : Blk ((w.alloc (Obj.cells #[.int .i64 c.n, .slice c.aL c.ls.length c.cL, .slice c.aG c.gs.length c.cG, .slice c.aO c.os.length c.cO, .slice c.aB c.bs.length c.cB, .slice c.aC c.cs.length c.cC, .slice c.aF c.fs.length c.cF, .slice c.aN c.ns.length c.cN] 29)).alloc (Obj.cells #[.int .i64 0, .slice none 0 0] 64)) (w.heap.size + 1) 64 #[.int .i64 0, .slice none 0 0] := by
  have := Blk.new (w.alloc (Obj.cells #[.int .i64 c.n, .slice c.aL c.ls.length c.cL, .slice c.aG c.gs.length c.cG, .slice c.aO c.os.length c.cO, .slice c.aB c.bs.length c.cB, .slice c.aC c.cs.length c.cC, .slice c.aF c.fs.length c.cF, .slice c.aN c.ns.length c.cN] 29)) 64 #[.int .i64 0, .slice none 0 0]
  simpa using this
 have lo := (lowAlloc w (Obj.cells #[.int .i64 c.n, .slice c.aL c.ls.length c.cL, .slice c.aG c.gs.length c.cG, .slice c.aO c.os.length c.cO, .slice c.aB c.bs.length c.cB, .slice c.aC c.cs.length c.cC, .slice c.aF c.fs.length c.cF, .slice c.aN c.ns.length c.cN] 29)).alloc (by simp) (Obj.cells #[.int .i64 0, .slice none 0 0] 64)
 go_enter Tryz.func40, Tryz.ntmps40
 go_upto_region 1 with fail
 generalize ((w.alloc (Obj.cells #[.int .i64 c.n, .slice c.aL c.ls.length c.cL, .slice c.aG c.gs.length c.cG, .slice c.aO c.os.length c.cO, .slice c.aB c.bs.length c.cB, .slice c.aC c.cs.length c.cC, .slice c.aF c.fs.length c.cF, .slice c.aN c.ns.length c.cN] 29)).alloc (Obj.cells #[.int .i64 0, .slice none 0 0] 64)) = W at *
 have x0 := hgx.cell 0
 have x1 := hgx.cell 1
 have y0 := hgx.frozen 0
 have y1 := hgx.frozen 1
 have c0 := hbx.cell 0
 have c1 := hbx.cell 1
 have c2 := hbx.cell 2
 simp only [zD, zE, zF] at x0 x1 c0 c1 c2
 go_wp2
 have hbf : Below w.heap.size w ((W.setCell ⟨w.heap.size + 1, 0, none⟩ (.int .i64 (wrap64 (c.n + c.ls.length)))).setCell ⟨w.heap.size + 1, 1, none⟩ (.slice c.aG c.gs.length c.cG)) :=
  (lo.setCell (by simp) _).setCell (by simp) _
 have r0 : ((W.setCell ⟨w.heap.size + 1, 0, none⟩ (.int .i64 (wrap64 (c.n + c.ls.length)))).setCell ⟨w.heap.size + 1, 1, none⟩ (.slice c.aG c.gs.length c.cG)).cell? ⟨w.heap.size + 1, 0, none⟩ = some (.int .i64 (wrap64 (c.n + c.ls.length))) :=
  (World.cell?_setCell_other _ _ _ _ (by simp)).trans (World.cell?_setCell_same _ _ _ x0)
 have r1 : ((W.setCell ⟨w.heap.size + 1, 0, none⟩ (.int .i64 (wrap64 (c.n + c.ls.length)))).setCell ⟨w.heap.size + 1, 1, none⟩ (.slice c.aG c.gs.length c.cG)).cell? ⟨w.heap.size + 1, 1, none⟩ = some (.slice c.aG c.gs.length c.cG) :=
  World.cell?_setCell_same _ _ _ ((World.cell?_setCell_other _ _ _ _ (by simp)).trans x1)
 exact bodyPost_ret (v := .agg #[.int .i64 (wrap64 (c.n + c.ls.length)), .slice c.aG c.gs.length c.cG]) (by simp [results, Tryz.results40, go_sem, r0, r1]) rfl ⟨rfl, hbf⟩

namespace Cm
/-- Which kind of signals a number is; below 0: none. -/
def rankS (k : Int) : Int := if k = 105 then 0 else if k = 108 then 1 else if k = 111 then 2 else if k = 98 then 3 else if k = 99 then 4 else if k = 102 then 5 else -1
theorem rank_at (j : Nat) (h : j < 6) : rankS (kindAt j) = j := by
 match j, h with
 | 0, _ => rfl
 | 1, _ => rfl
 | 2, _ => rfl
 | 3, _ => rfl
 | 4, _ => rfl
 | 5, _ => rfl
theorem rank_none (k : Int) (h : ∀ j, j < 6 → kindAt j ≠ k) : rankS k = -1 := by
 have h0 := h 0 (by omega)
 have h1 := h 1 (by omega)
 have h2 := h 2 (by omega)
 have h3 := h 3 (by omega)
 have h4 := h 4 (by omega)
 have h5 := h 5 (by omega)
 simp only [kindAt, List.getD_cons_zero, List.getD_cons_succ] at h0 h1 h2 h3 h4 h5
 unfold rankS
 rw [if_neg (Ne.symm h0), if_neg (Ne.symm h1), if_neg (Ne.symm h2), if_neg (Ne.symm h3), if_neg (Ne.symm h4), if_neg (Ne.symm h5)]
end Cm
theorem index_kinds (i : Nat) (h : i < 6) (w : World) : (Instr.index 9 (.string ⟨#[105, 108, 111, 98, 99, 102]⟩) (.int .i64 (i : Int))).run Tryz.prog w = .ok (.int .u8 (Cm.kindAt i)) w := by
 rw [show (⟨#[105, 108, 111, 98, 99, 102]⟩ : ByteArray) = Cm.kinds from rfl, index_str Cm.kinds i h w]
 match i, h with
 | 0, _ => rfl
 | 1, _ => rfl
 | 2, _ => rfl
 | 3, _ => rfl
 | 4, _ => rfl
 | 5, _ => rfl

set_option maxRecDepth 100000 in
set_option maxHeartbeats 4000000 in
theorem rank_any (k : Int) (w : World) : Calls Tryz.prog 86 #[.int .u8 k] w fun e w' => e = .returned (.int .i64 (Cm.rankS k)) ∧ w = w' := by
 have HA := Lib.hid Cm.rank_at
 have HN := Lib.hid (Cm.rank_none k)
 go_enter Tryz.func86, Tryz.ntmps86
 go_wp2
 go_loop [4] (fun i => ∃ j : Nat, j ≤ 6 ∧ i = .int .i64 j ∧ ∀ t, t < j → Cm.kindAt t ≠ k) (fun i => 6 - (intOf i).toNat)
 case atStart => exact ⟨0, by omega, rfl, fun t ht => by omega⟩
 obtain ⟨j, hj, rfl, hall⟩ := hrel
 have HALL := Lib.hid hall
 clear hall
 have hsz : (ByteArray.size ⟨#[105, 108, 111, 98, 99, 102]⟩) = 6 := rfl
 by_cases hlt : j < 6
 ·
  have hix := index_kinds j hlt
  by_cases he : Cm.kindAt j = k
  ·
   have HZ := Lib.hid (HA.out j hlt)
   rw [he] at HZ hix
   have hd : (k == k) = true := by simp
   clear he
   go_wp2
   go_ret
   exact ⟨by rw [HZ.out]; rfl, rfl⟩
  have hd : (Cm.kindAt j == k) = false := by simpa using he
  have HNX : Hid (∀ t, t < j + 1 → Cm.kindAt t ≠ k) := fun t ht => by
   by_cases e : t = j
   ·
    rw [e]; exact he
   exact HALL.out t (by omega)
  clear he
  go_wp2
  exact ⟨⟨j + 1, by omega, by go_num, HNX.out⟩, by simp [intOf]; omega⟩
 obtain rfl : j = 6 := by omega
 have HZ := Lib.hid (HN.out HALL.out)
 go_wp2
 go_ret
 exact ⟨by rw [HZ.out]; rfl, rfl⟩

set_option maxRecDepth 100000 in
set_option maxHeartbeats 4000000 in
theorem many_any (c : Cir) (k : Int) (w : World) : Calls Tryz.prog 85 #[.agg #[.int .i64 c.n, .slice c.aL c.ls.length c.cL, .slice c.aG c.gs.length c.cG, .slice c.aO c.os.length c.cO, .slice c.aB c.bs.length c.cB, .slice c.aC c.cs.length c.cC, .slice c.aF c.fs.length c.cF, .slice c.aN c.ns.length c.cN], .int .u8 k] w fun e w' => e = .returned (.int .i64 (Cm.numS c k)) ∧ Below w.heap.size w w' := by
 have hbx := boxed w c
 have lo := lowAlloc w (Obj.cells #[.int .i64 c.n, .slice c.aL c.ls.length c.cL, .slice c.aG c.gs.length c.cG, .slice c.aO c.os.length c.cO, .slice c.aB c.bs.length c.cB, .slice c.aC c.cs.length c.cC, .slice c.aF c.fs.length c.cF, .slice c.aN c.ns.length c.cN] 29)
 have lo2 := lo.alloc lo.size (Obj.cells #[.int .i64 c.n, .int .i64 c.ls.length, .int .i64 c.os.length, .int .i64 c.bs.length, .int .i64 c.cs.length, .int .i64 c.fs.length] 3)
 have c0 := hbx.cell 0; have c1 := hbx.cell 1; have c2 := hbx.cell 2; have c3 := hbx.cell 3; have c4 := hbx.cell 4; have c5 := hbx.cell 5; have c6 := hbx.cell 6; have c7 := hbx.cell 7; simp only [zD, zE, zF] at c0 c1 c2 c3 c4 c5 c6 c7
 by_cases h0 : k = 105
 ·
  subst h0
  have hr : Cm.rankS 105 = 0 := rfl
  have HRK := Lib.hid (rank_any 105 (w.alloc (Obj.cells #[.int .i64 c.n, .slice c.aL c.ls.length c.cL, .slice c.aG c.gs.length c.cG, .slice c.aO c.os.length c.cO, .slice c.aB c.bs.length c.cB, .slice c.aC c.cs.length c.cC, .slice c.aF c.fs.length c.cF, .slice c.aN c.ns.length c.cN] 29)))
  rw [hr] at HRK
  go_enter Tryz.func85, Tryz.ntmps85
  go_wp2_with fail
  refine HRK.out.mono ?_
  rintro e w1 ⟨rfl, rfl⟩
  go_wp2
  go_ret
  exact ⟨rfl, lo2⟩
 by_cases h1 : k = 108
 ·
  subst h1
  have hr : Cm.rankS 108 = 1 := rfl
  have HRK := Lib.hid (rank_any 108 (w.alloc (Obj.cells #[.int .i64 c.n, .slice c.aL c.ls.length c.cL, .slice c.aG c.gs.length c.cG, .slice c.aO c.os.length c.cO, .slice c.aB c.bs.length c.cB, .slice c.aC c.cs.length c.cC, .slice c.aF c.fs.length c.cF, .slice c.aN c.ns.length c.cN] 29)))
  rw [hr] at HRK
  go_enter Tryz.func85, Tryz.ntmps85
  go_wp2_with fail
  refine HRK.out.mono ?_
  rintro e w1 ⟨rfl, rfl⟩
  go_wp2
  go_ret
  exact ⟨rfl, lo2⟩
 by_cases h2 : k = 111
 ·
  subst h2
  have hr : Cm.rankS 111 = 2 := rfl
  have HRK := Lib.hid (rank_any 111 (w.alloc (Obj.cells #[.int .i64 c.n, .slice c.aL c.ls.length c.cL, .slice c.aG c.gs.length c.cG, .slice c.aO c.os.length c.cO, .slice c.aB c.bs.length c.cB, .slice c.aC c.cs.length c.cC, .slice c.aF c.fs.length c.cF, .slice c.aN c.ns.length c.cN] 29)))
  rw [hr] at HRK
  go_enter Tryz.func85, Tryz.ntmps85
  go_wp2_with fail
  refine HRK.out.mono ?_
  rintro e w1 ⟨rfl, rfl⟩
  go_wp2
  go_ret
  exact ⟨rfl, lo2⟩
 by_cases h3 : k = 98
 ·
  subst h3
  have hr : Cm.rankS 98 = 3 := rfl
  have HRK := Lib.hid (rank_any 98 (w.alloc (Obj.cells #[.int .i64 c.n, .slice c.aL c.ls.length c.cL, .slice c.aG c.gs.length c.cG, .slice c.aO c.os.length c.cO, .slice c.aB c.bs.length c.cB, .slice c.aC c.cs.length c.cC, .slice c.aF c.fs.length c.cF, .slice c.aN c.ns.length c.cN] 29)))
  rw [hr] at HRK
  go_enter Tryz.func85, Tryz.ntmps85
  go_wp2_with fail
  refine HRK.out.mono ?_
  rintro e w1 ⟨rfl, rfl⟩
  go_wp2
  go_ret
  exact ⟨rfl, lo2⟩
 by_cases h4 : k = 99
 ·
  subst h4
  have hr : Cm.rankS 99 = 4 := rfl
  have HRK := Lib.hid (rank_any 99 (w.alloc (Obj.cells #[.int .i64 c.n, .slice c.aL c.ls.length c.cL, .slice c.aG c.gs.length c.cG, .slice c.aO c.os.length c.cO, .slice c.aB c.bs.length c.cB, .slice c.aC c.cs.length c.cC, .slice c.aF c.fs.length c.cF, .slice c.aN c.ns.length c.cN] 29)))
  rw [hr] at HRK
  go_enter Tryz.func85, Tryz.ntmps85
  go_wp2_with fail
  refine HRK.out.mono ?_
  rintro e w1 ⟨rfl, rfl⟩
  go_wp2
  go_ret
  exact ⟨rfl, lo2⟩
 by_cases h5 : k = 102
 ·
  subst h5
  have hr : Cm.rankS 102 = 5 := rfl
  have HRK := Lib.hid (rank_any 102 (w.alloc (Obj.cells #[.int .i64 c.n, .slice c.aL c.ls.length c.cL, .slice c.aG c.gs.length c.cG, .slice c.aO c.os.length c.cO, .slice c.aB c.bs.length c.cB, .slice c.aC c.cs.length c.cC, .slice c.aF c.fs.length c.cF, .slice c.aN c.ns.length c.cN] 29)))
  rw [hr] at HRK
  go_enter Tryz.func85, Tryz.ntmps85
  go_wp2_with fail
  refine HRK.out.mono ?_
  rintro e w1 ⟨rfl, rfl⟩
  go_wp2
  go_ret
  exact ⟨rfl, lo2⟩
 have hr : Cm.rankS k = -1 := by unfold Cm.rankS; rw [if_neg h0, if_neg h1, if_neg h2, if_neg h3, if_neg h4, if_neg h5]
 have hz : Cm.numS c k = 0 := by simp [Cm.numS, Cm.lstS, h0, h1, h2, h3, h4, h5]
 have HRK := Lib.hid (rank_any k (w.alloc (Obj.cells #[.int .i64 c.n, .slice c.aL c.ls.length c.cL, .slice c.aG c.gs.length c.cG, .slice c.aO c.os.length c.cO, .slice c.aB c.bs.length c.cB, .slice c.aC c.cs.length c.cC, .slice c.aF c.fs.length c.cF, .slice c.aN c.ns.length c.cN] 29)))
 rw [hr] at HRK
 rw [hz]
 go_enter Tryz.func85, Tryz.ntmps85
 go_wp2_with fail
 refine HRK.out.mono ?_
 rintro e w1 ⟨rfl, rfl⟩
 go_wp2
 go_ret
 exact ⟨rfl, lo⟩

set_option maxRecDepth 100000 in
set_option maxHeartbeats 4000000 in
theorem Word_any (t : ByteArray) (w : World) (hs : t.size ≤ maxLen) : Calls Tryz.prog 84 #[.string t] w fun e w' => e = .returned (.bool (Cm.wordB t)) ∧ w = w' := by
 unfold maxLen at hs
 have HW : Hid (Cm.wordB t = (decide (0 < t.size) && decide (t.size ≤ 20) && t.data.toList.all Cm.okB)) := rfl
 generalize Cm.wordB t = z at *
 go_enter Tryz.func84, Tryz.ntmps84
 go_wp2
 go_loop [3] (fun i => ∃ p : Nat, p ≤ t.size ∧ i = .int .i64 p ∧ (t.data.toList.take p).all Cm.okB = true) (fun i => t.size - (intOf i).toNat)
 case atStart => exact ⟨0, Nat.zero_le _, rfl, rfl⟩
 obtain ⟨p, hp, rfl, hal⟩ := hrel
 by_cases hlt : p < t.size
 ·
  have HA := Lib.hid (bytes_take t p hlt Cm.okB hal)
  have HN := Lib.hid (bytes_all t p hlt Cm.okB)
  have hix := index_str t p hlt
  have hok : Cm.okB (t[p]'hlt) = (decide (33 ≤ (t[p]'hlt).toNat) && decide ((t[p]'hlt).toNat ≤ 126)) := rfl
  rw [hok] at HA HN
  clear hal hok
  generalize (t[p]'hlt).toNat = r at *
  by_cases h1 : r < 33
  ·
   have HF := Lib.hid (HN.out (by rw [decide_eq_false (by omega : ¬ 33 ≤ r)]; rfl))
   have dd : decide ((r : Int) < 33) = true := decide_eq_true (by omega)
   go_wp2
   go_ret
   exact ⟨by rw [HW.out, HF.out]; simp, rfl⟩
  by_cases h2 : 126 < r
  ·
   have HF := Lib.hid (HN.out (by rw [decide_eq_false (by omega : ¬ r ≤ 126)]; simp))
   have dd : decide ((r : Int) < 33) = false := decide_eq_false (by omega)
   have dd2 : decide ((126 : Int) < (r : Int)) = true := decide_eq_true (by omega)
   go_wp2
   go_ret
   exact ⟨by rw [HW.out, HF.out]; simp, rfl⟩
  have HT : Hid ((t.data.toList.take (p + 1)).all Cm.okB = true) := HA.out.trans (by rw [decide_eq_true (by omega : 33 ≤ r), decide_eq_true (by omega : r ≤ 126)]; rfl)
  have dd : decide ((r : Int) < 33) = false := decide_eq_false (by omega)
  have dd2 : decide ((126 : Int) < (r : Int)) = false := decide_eq_false (by omega)
  go_wp2
  exact ⟨⟨p + 1, by omega, by go_num, HT.out⟩, by simp [intOf]; omega⟩
 obtain rfl : p = t.size := by omega
 rw [List.take_of_length_le (by simp)] at hal
 have HA := Lib.hid hal
 clear hal
 by_cases h0 : t.size = 0
 ·
  have dd : decide ((0 : Int) < (t.size : Int)) = false := decide_eq_false (by omega)
  have HZ : Hid (z = false) := by
   unfold Hid
   rw [HW.out, decide_eq_false (by omega : ¬ 0 < t.size)]
   rfl
  go_wp2
  go_ret
  exact ⟨by rw [HZ.out]; rfl, rfl⟩
 have dd : decide ((0 : Int) < (t.size : Int)) = true := decide_eq_true (by omega)
 have HZ : Hid (z = decide ((t.size : Int) ≤ 20)) := by
  unfold Hid
  rw [HW.out, HA.out, decide_eq_true (by omega : 0 < t.size)]
  simp only [Bool.true_and, Bool.and_true]
  rw [Bool.eq_iff_iff]
  simp only [decide_eq_true_eq]
  omega
 go_wp2
 go_ret
 exact ⟨by rw [HZ.out]; rfl, rfl⟩

theorem ixI2 (sb off N c r : Nat) (_hm : N ≤ 9223372036854775807) (hr : r < N) (w : World) : (Instr.indexAt 26 (.slice (some ⟨sb, off, none⟩) N c) (.int .i64 (r : Int))).run Tryz.prog w = .ok (.pointer (some ⟨sb, off + r, none⟩)) w := by go_simp
set_option maxRecDepth 100000 in
set_option maxHeartbeats 4000000 in
theorem lits_any (N : Int) (A : Option Addr) (l q : Nat) (Ax : Option Addr) (cx : Nat) (xs : List Int) (w : World) (hl : l ≤ 1000000) (hxs : xs.length ≤ maxLen) (hV : Vs w w.heap.size Ax (iv xs)) (hX : IWf xs) :
  Calls Tryz.prog 58 #[.agg #[.int .i64 N, .slice A l q], .slice Ax xs.length cx] w fun e w' => e = .returned (.bool (xs.all (Gm.litB N l) && decide (xs.length ≤ 2000))) ∧ Below w.heap.size w w' := by
 unfold maxLen at hxs
 have hnot : ∀ (x : Bool) (w : World), (Op.unary .not (.bool x)).run Tryz.prog w = .ok (.bool (!x)) w := fun _ _ => rfl
 have hbx := Blk.new w 64 #[.int .i64 N, .slice A l q]
 have HBX := Lib.hid hbx
 clear hbx
 obtain ⟨z, hz⟩ : ∃ z, z = (xs.all (Gm.litB N l) && decide (xs.length ≤ 2000)) := ⟨_, rfl⟩
 rw [← hz]
 have HZ := Lib.hid hz
 clear hz
 go_enter Tryz.func58, Tryz.ntmps58
 go_wp2
 go_loopw [5] (fun i wr => ∃ k : Nat, k ≤ xs.length ∧ i = .int .i64 k ∧ (xs.take k).all (Gm.litB N l) = true ∧ Below w.heap.size w wr ∧ Blk wr w.heap.size 64 #[.int .i64 N, .slice A l q]) (fun i _ => xs.length - (intOf i).toNat)
 case atStart => exact ⟨0, Nat.zero_le _, rfl, rfl, lowAlloc w _, HBX.out⟩
 obtain ⟨k, hk, rfl, hall, lo, hbx⟩ := hrel
 by_cases hlt : k < xs.length
 ·
  obtain ⟨b, off, hA, hbw, g1⟩ := (hV.below lo (Nat.le_refl _)) k (by simpa using hlt)
  subst hA
  have e1 : (xs.take (k + 1)).all (Gm.litB N l) = Gm.litB N l xs[k] := by rw [List.take_succ_eq_append_getElem hlt, List.all_append, hall]; simp
  have e2 : Gm.litB N l xs[k] = false → xs.all (Gm.litB N l) = false := fun h => List.all_eq_false.2 ⟨xs[k], by simp, by simp [h]⟩
  have E1 := Lib.hid e1
  have E2 := Lib.hid e2
  have hxk := (hX xs[k] (by simp)).2
  have g1' : wr.cell? ⟨b, off + k, none⟩ = some (.int .i64 xs[k]) := by simpa using g1
  have HS := Lib.hid (fun V => refLit_any N A l q xs[k] V hl hxk)
  have HK : Hid (∀ V, Below wr.heap.size wr V → V.cell? ⟨w.heap.size, 0, none⟩ = some (.int .i64 N) ∧ V.cell? ⟨w.heap.size, 1, none⟩ = some (.slice A l q) ∧ V.cell? ⟨b, off + k, none⟩ = some (.int .i64 xs[k])) := fun V hb => ⟨(hbx.below hb hbx.lt).cell 0, (hbx.below hb hbx.lt).cell 1, (hb.cell (p := ⟨b, off + k, none⟩) (Nat.lt_of_lt_of_le hbw lo.size)).trans g1'⟩
  have hix := ixI2 b off xs.length cx k (by omega) hlt
  have lx := Below.refl wr.heap.size wr
  have HAll := Lib.hid hall
  clear e1 e2 g1 hall
  generalize xs[k] = x at *
  generalize Gm.litB N l x = t at *
  go_upto_region 4 with fail
  clear g1'
  go_region_held3 (fun V => V.cell? ⟨w.heap.size, 0, none⟩ = some (.int .i64 N) ∧ V.cell? ⟨w.heap.size, 1, none⟩ = some (.slice A l q) ∧ V.cell? ⟨b, off + k, none⟩ = some (.int .i64 x))
   (first | exact HK.out _ lx | exact HK.out _ lx.drew)
   (first | (go_at_call 57; (with_reducible refine (HS.out _).mono ?_); rintro e w1 ⟨rfl, hb1⟩; replace lx := lx.drew.trans hb1))
  have lo1 := lo.trans (lx.mono lo.size)
  have hbx1 := hbx.below lx hbx.lt
  cases t with
  | true =>
   go_wp2
   go_roundw
   case rel => exact ⟨k + 1, by omega, by go_num, E1.out, lo1, hbx1⟩
   case measure => simp [intOf]; omega
  | false =>
   go_wp2
   go_ret
   exact ⟨by rw [HZ.out, E2.out (by trivial)]; rfl, lo1⟩
 obtain rfl : k = xs.length := by omega
 rw [List.take_length] at hall
 have HA : Hid (z = decide ((xs.length : Int) ≤ 2000)) := by
  unfold Hid
  rw [HZ.out, hall, Bool.true_and, Bool.eq_iff_iff]
  simp
  omega
 clear hall
 go_wp2
 go_ret
 exact ⟨by rw [HA.out]; rfl, lo⟩

/-- What the reference's Number answers. -/
def refNum (t : ByteArray) : Int := match Cm.digS t with | some n => (n : Int) | none => -1
set_option maxRecDepth 100000 in
set_option maxHeartbeats 4000000 in
theorem Number_any (t : ByteArray) (w : World) (hs : t.size ≤ maxLen) : Calls Tryz.prog 70 #[.string t] w fun e w' => e = .returned (.int .i64 (refNum t)) ∧ w = w' := by
 unfold maxLen at hs
 have HN : Hid (¬ (1 ≤ t.size ∧ t.size ≤ 6 ∧ ¬ (1 < t.size ∧ (t.data.toList.headD 0).toNat = 48) ∧ t.data.toList.all Cm.isDig = true) → refNum t = -1) := fun h => by
  unfold refNum Cm.digS
  rw [if_neg h]
 have HY : Hid ((1 ≤ t.size ∧ t.size ≤ 6 ∧ ¬ (1 < t.size ∧ (t.data.toList.headD 0).toNat = 48) ∧ t.data.toList.all Cm.isDig = true) → refNum t = (Cm.valS t.data.toList : Int)) := fun h => by
  unfold refNum Cm.digS
  rw [if_pos h]
 generalize refNum t = z at *
 go_enter Tryz.func70, Tryz.ntmps70
 go_wp2
 go_loop [3, 4] (fun v i => ∃ (p : Nat) (x : Int), p ≤ t.size ∧ i = .int .i64 p ∧ v = .int .i64 x ∧ (t.data.toList.take p).all Cm.isDig = true ∧ (t.size ≤ 6 → x = (Cm.valS (t.data.toList.take p) : Int))) (fun _ i => t.size - (intOf i).toNat)
 case atStart => exact ⟨0, 0, Nat.zero_le _, rfl, rfl, rfl, fun _ => rfl⟩
 obtain ⟨p, x, hp, rfl, rfl, hal, hx⟩ := hrel
 by_cases hlt : p < t.size
 ·
  have HA := Lib.hid (bytes_take t p hlt Cm.isDig hal)
  have HNB := Lib.hid (bytes_all t p hlt Cm.isDig)
  have hix := index_str t p hlt
  have hok : Cm.isDig (t[p]'hlt) = (decide (48 ≤ (t[p]'hlt).toNat) && decide ((t[p]'hlt).toNat ≤ 57)) := rfl
  rw [hok] at HA HNB
  have HVS : Hid (Cm.valS (t.data.toList.take (p + 1)) = 10 * Cm.valS (t.data.toList.take p) + ((t[p]'hlt).toNat - 48)) := by
   have hl : p < t.data.toList.length := by simpa using hlt
   unfold Hid
   rw [List.take_succ_eq_append_getElem hl, Cm.valS_snoc]
   rfl
  have HVL : Hid (t.size ≤ 6 → Cm.valS (t.data.toList.take p) ≤ 1000000) := fun h6 => by
   have hvl := Cm.valS_le _ hal
   rw [List.length_take, show t.data.toList.length = t.size from rfl, Nat.min_eq_left hp] at hvl
   have : 10 ^ p ≤ 10 ^ 6 := Nat.pow_le_pow_right (by omega) (by omega)
   omega
  have HX := Lib.hid hx
  clear hal hok hx
  have hr256 : (t[p]'hlt).toNat < 256 := UInt8.toNat_lt _
  generalize (t[p]'hlt).toNat = r at *
  by_cases h1 : r < 48
  ·
   have HF := Lib.hid (HN.out (by rw [HNB.out (by rw [decide_eq_false (by omega : ¬ 48 ≤ r)]; rfl)]; simp))
   have dd : decide ((r : Int) < 48) = true := decide_eq_true (by omega)
   go_wp2
   go_ret
   exact ⟨by rw [HF.out]; rfl, rfl⟩
  by_cases h2 : 57 < r
  ·
   have HF := Lib.hid (HN.out (by rw [HNB.out (by rw [decide_eq_false (by omega : ¬ r ≤ 57)]; simp)]; simp))
   have dd : decide ((r : Int) < 48) = false := decide_eq_false (by omega)
   have dd2 : decide ((57 : Int) < (r : Int)) = true := decide_eq_true (by omega)
   go_wp2
   go_ret
   exact ⟨by rw [HF.out]; rfl, rfl⟩
  have HT : Hid ((t.data.toList.take (p + 1)).all Cm.isDig = true) := HA.out.trans (by rw [decide_eq_true (by omega : 48 ≤ r), decide_eq_true (by omega : r ≤ 57)]; rfl)
  have dd : decide ((r : Int) < 48) = false := decide_eq_false (by omega)
  have dd2 : decide ((57 : Int) < (r : Int)) = false := decide_eq_false (by omega)
  go_wp2
  refine ⟨⟨p + 1, _, by omega, by go_num, rfl, HT.out, fun h6 => ?_⟩, by simp [intOf]; omega⟩
  have e1 := HX.out h6
  have e2 := HVL.out h6
  rw [HVS.out]
  subst e1
  simp only [wrap64]
  omega
 obtain rfl : p = t.size := by omega
 rw [List.take_of_length_le (by simp)] at hal hx
 have HA := Lib.hid hal
 have HX := Lib.hid hx
 clear hal hx
 by_cases h0 : t.size = 0
 ·
  have HF := Lib.hid (HN.out (by omega))
  have dd : decide ((t.size : Int) < 1) = true := decide_eq_true (by omega)
  go_wp2
  go_ret
  exact ⟨by rw [HF.out]; rfl, rfl⟩
 have dd : decide ((t.size : Int) < 1) = false := decide_eq_false (by omega)
 by_cases h6 : 6 < t.size
 ·
  have HF := Lib.hid (HN.out (by omega))
  have dd2 : decide ((6 : Int) < (t.size : Int)) = true := decide_eq_true (by omega)
  go_wp2
  go_ret
  exact ⟨by rw [HF.out]; rfl, rfl⟩
 have dd2 : decide ((6 : Int) < (t.size : Int)) = false := decide_eq_false (by omega)
 rw [head_byte t (by omega)] at HN HY
 have hix0 : ∀ w, (Instr.index 9 (.string t) (.int .i64 0)).run Tryz.prog w = .ok (.int .u8 ((t[0]'(by omega)).toNat : Int)) w := fun w => index_str t 0 (by omega) w
 obtain ⟨r0, he0⟩ : ∃ r0 : Nat, r0 = (t[0]'(by omega : 0 < t.size)).toNat := ⟨_, rfl⟩
 rw [← he0] at hix0 HN HY
 clear he0
 by_cases h1 : 1 < t.size
 ·
  have dd3 : decide ((1 : Int) < (t.size : Int)) = true := decide_eq_true (by omega)
  by_cases hz : r0 = 48
  ·
   have HF := Lib.hid (HN.out (by omega))
   subst hz
   go_wp2
   go_ret
   exact ⟨by rw [HF.out]; rfl, rfl⟩
  have HF := Lib.hid ((HY.out ⟨by omega, by omega, by omega, HA.out⟩).trans (HX.out (by omega)).symm)
  have d4 : ((r0 : Int) == 48) = false := by rw [beq_eq_false_iff_ne]; omega
  go_wp2
  go_ret
  exact ⟨by rw [HF.out]; rfl, rfl⟩
 have dd3 : decide ((1 : Int) < (t.size : Int)) = false := decide_eq_false (by omega)
 have HF := Lib.hid ((HY.out ⟨by omega, by omega, by omega, HA.out⟩).trans (HX.out (by omega)).symm)
 go_wp2
 go_ret
 exact ⟨by rw [HF.out]; rfl, rfl⟩
end Go.Proofs.YtpejilhdhkmcjaaGreatDoor
