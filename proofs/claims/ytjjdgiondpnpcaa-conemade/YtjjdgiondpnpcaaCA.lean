/- Small functions of package cone: variable, constant, suits, own, literals; lists that are made. -/
import Derived.Test.YtjjdgiondpnpcaaCQ
import Derived.Test.YtjjdgiondpnpcaaSM
import Derived.Laws.CopyOwn
namespace Go.Proofs.Ytjjdgiondpnpcaa
open Go.RowKit

def falses (N : Nat) : Array Value := Array.replicate N (.bool false)
theorem made_falses (N : Nat) : madeCells (Value.bool false).cells N = falses N := by
  unfold madeCells falses
  apply Array.ext
  · simp
  · intro i h1 h2
    simp [Value.cells, Nat.mod_one]
theorem make_bools (N : Nat) (hN : N ≤ 1000000) (w : World) : (Instr.makeSlice 35 (.int .i64 (N : Int)) (.int .i64 (N : Int))).run Try.prog w = .ok (.slice (some ⟨w.heap.size, 0, none⟩) N N) (w.alloc (.cells (falses N) 4)) := by
  have hb : (Try.t4).bytes = 1 := by kernel_rfl
  have hs : (Try.t4).size = 1 := by kernel_rfl
  have := run_make (P := Try.prog) w 35 4 Try.t4 (.bool false) Try.underlying35 (by kernel_rfl) (by kernel_rfl) .i64 .i64 N N (by omega) (by omega) (by rw [hb]; omega) (by omega)
  rw [hs, Nat.mul_one, Int.toNat_natCast, made_falses] at this
  exact this
theorem splice_row (k z : Value) (cs : List Value) (m : Nat) : splice (k :: List.replicate (cs.length + m) z) 1 cs = k :: (cs ++ List.replicate m z) := by
  simp [splice, Nat.add_comm 1]
theorem falses_get (N i : Nat) (h : i < N) : (falses N)[i]? = some (.bool false) := by simp [falses, Array.getElem?_replicate, h]
theorem zeros_get0 (N i : Nat) (h : i < N) : (zeros N)[i]? = some (.int .i64 0) := zeros_get N i h
theorem set_zeros (N : Nat) (k : Int) : (zeros (1 + N)).setIfInBounds 0 (.int .i64 k) = (Value.int .i64 k :: List.replicate N (.int .i64 0)).toArray := by
  apply Array.ext'
  simp [zeros, Nat.add_comm 1, List.replicate_succ]

theorem iv_set (zs : List Int) (k : Nat) (x : Int) : (iv zs).toArray.setIfInBounds k (.int .i64 x) = (iv (zs.set k x)).toArray := by
  apply Array.ext'
  simp [List.map_set]
theorem bv_set (zs : List Bool) (k : Nat) (x : Bool) : (bv zs).toArray.setIfInBounds k (.bool x) = (bv (zs.set k x)).toArray := by
  apply Array.ext'
  simp [List.map_set]
theorem ixB0 (sb N r : Nat) (hm : N ≤ 1000000) (hr : r < N) (w : World) : (Instr.indexAt 35 (.slice (some ⟨sb, 0, none⟩) N N) (.int .i64 (r : Int))).run Try.prog w = .ok (.pointer (some ⟨sb, r, none⟩)) w := by go_simp
theorem grown_low {w w' : World} {B g : Nat} (h : w.grownBy w' (some g)) (hg : B ≤ g) (hB : B ≤ w.heap.size) : Below B w w' :=
  ⟨h.os, h.tape, h.output, h.size, fun k hk => h.block k (by omega) (fun e => by injection e with e; omega)⟩

set_option maxHeartbeats 400000 in
theorem cvar_any (a : Int) (w : World) (h0 : 0 ≤ a) (h1 : a ≤ 9223372036854775807) :
    Calls Try.prog 36 #[.int .i64 a] w fun e w' => e = .returned (.int .i64 (a / 2)) ∧ w' = w := by
  go_enter Try.func36, Try.ntmps36
  go_wp2
  go_ret
  exact ⟨rfl, rfl⟩

set_option maxHeartbeats 400000 in
theorem const_any (b : Bool) (w : World) :
    Calls Try.prog 30 #[.bool b] w fun e w' => e = .returned (.int .i64 (if b then 1 else 0)) ∧ w' = w := by
  cases b <;>
  · go_enter Try.func30, Try.ntmps30
    go_wp2
    go_ret
    exact ⟨rfl, rfl⟩

set_option maxRecDepth 100000 in
set_option maxHeartbeats 2000000 in
theorem csuits_any (n : Int) (A : Option Addr) (c : Nat) (gs : List (Int × Int)) (l : Int) (w : World) (B : Nat) (hl : gs.length ≤ 1000000) (hg : Gr w B A gs) (hB : B ≤ w.heap.size) (hw : Wf gs) :
    Calls Try.prog 22 #[.agg #[.int .i64 n, .slice A gs.length c], .int .i64 l] w fun e w' => e = .returned (.bool (Gm.litB n gs.length l && Gm.rightB n gs)) ∧ Below w.heap.size w w' := by
  have g0 := GX.new (n := n) (c := c) (l := gs.length) (hg.more hB) 26
  have lo : Below w.heap.size w (w.alloc (Obj.cells #[.int .i64 n, .slice A gs.length c] 26)) := (Below.refl _ _).alloc (Nat.le_refl _) _
  have HL := Lib.hid (lit_any n A gs.length c l (w.alloc (Obj.cells #[.int .i64 n, .slice A gs.length c] 26)) hl)
  have HR := Lib.hid (fun V (hG : Gr V V.heap.size A gs) => Right_any n A c gs V V.heap.size hl hG (Nat.le_refl _) hw)
  generalize Gm.rightB n gs = r at *
  generalize Gm.litB n gs.length l = t at *
  cases t with
  | false =>
    rw [Bool.false_and]
    clear HR
    go_enter Try.func22, Try.ntmps22
    go_wp2_with (go_at_call 35; refine HL.out.mono ?_; rintro e w1 ⟨rfl, hb1⟩)
    go_ret
    exact ⟨rfl, lo.trans (hb1.mono lo.size)⟩
  | true =>
    rw [Bool.true_and]
    go_enter Try.func22, Try.ntmps22
    go_wp2_with (first | (go_at_call 35; refine HL.out.mono ?_; rintro e w1 ⟨rfl, hb1⟩; replace g0 := g0.below hb1; have k0 := g0.c0; have k1 := g0.c1) | (go_at_call 32; refine (HR.out _ g0.gr).mono ?_; rintro e w2 ⟨rfl, hb2⟩))
    go_ret
    exact ⟨rfl, (lo.trans (hb1.mono lo.size)).trans (hb2.mono (Nat.le_trans lo.size hb1.size))⟩

/-- A list of ints, as a call answers it, in a block of its own. -/
theorem self_step (n k : Nat) (hk : k < n) : ((iv (Cm.selfBy n)).take k ++ List.replicate (n - k) (Value.int .i64 0)).set k (.int .i64 (2 * ((k : Int) + 1))) = (iv (Cm.selfBy n)).take (k + 1) ++ List.replicate (n - (k + 1)) (Value.int .i64 0) := by
  have hl : (iv (Cm.selfBy n)).length = n := by simp [Cm.selfBy_len]
  have ht : ((iv (Cm.selfBy n)).take k).length = k := by rw [List.length_take, hl]; omega
  have hg : (iv (Cm.selfBy n))[k]'(by omega) = .int .i64 (2 * ((k : Int) + 1)) := by simp [iv, Cm.selfBy]
  rw [List.set_append, ht, if_neg (by omega), Nat.sub_self, show n - k = (n - (k + 1)) + 1 by omega, List.replicate_succ, List.set_cons_zero, List.take_succ_eq_append_getElem (by omega), hg]
  simp

set_option maxRecDepth 100000 in
set_option maxHeartbeats 4000000 in
theorem own_any (n : Nat) (s : Value) (w : World) (hn : n ≤ 2000) :
    Calls Try.prog 29 #[.agg #[.int .i64 n, s]] w fun e w' => ∃ vb, e = .returned (.slice (some ⟨vb, 0, none⟩) n n) ∧ w.heap.size ≤ vb ∧ Blk w' vb 3 (iv (Cm.selfBy n)).toArray ∧ Below w.heap.size w w' := by
  have hmk := make_ints n (by omega)
  go_enter Try.func29, Try.ntmps29
  go_wp2_with fail
  clear hmk
  have lo : Below w.heap.size w ((w.alloc (Obj.cells #[.int .i64 n, s] 26)).alloc (Obj.cells (zeros n) 3)) := ((Below.refl _ _).alloc (Nat.le_refl _) _).alloc (by simp) _
  have hk : Blk ((w.alloc (Obj.cells #[.int .i64 n, s] 26)).alloc (Obj.cells (zeros n) 3)) (w.heap.size + 1) 3 (zeros n) := by
    have := Blk.new (w.alloc (Obj.cells #[.int .i64 n, s] 26)) 3 (zeros n)
    simpa using this
  have hz : zeros n = ((iv (Cm.selfBy n)).take 0 ++ List.replicate (n - 0) (Value.int .i64 0)).toArray := by simp [zeros]
  generalize (w.alloc (Obj.cells #[.int .i64 n, s] 26)).alloc (Obj.cells (zeros n) 3) = V at *
  rw [hz] at hk
  go_loopw [10] (fun i wr => ∃ k : Nat, k ≤ n ∧ i = .int .i64 k ∧ Hid (Blk wr (w.heap.size + 1) 3 ((iv (Cm.selfBy n)).take k ++ List.replicate (n - k) (Value.int .i64 0)).toArray) ∧ Below w.heap.size w wr) (fun i _ => n - (intOf i).toNat)
  case atStart => exact ⟨0, Nat.zero_le _, rfl, hk, lo⟩
  case round =>
    obtain ⟨k, hkl, rfl, HB, lw⟩ := hrel
    by_cases hlt : k < n
    · have hix := ixI (w.heap.size + 1) 0 n n k (by omega) hlt
      rw [Nat.zero_add] at hix
      have hc : wr.cell? ⟨w.heap.size + 1, k, none⟩ = some (.int .i64 0) := by
        rw [HB.out.cell k, List.getElem?_toArray, List.getElem?_append_right (by simp [Cm.selfBy_len]; omega), List.getElem?_replicate, if_pos (by simp [Cm.selfBy_len]; omega)]
      have hf := HB.out.frozen k
      go_wp2_with fail
      go_roundw
      case rel =>
        refine ⟨k + 1, by omega, by go_num, ?_, lw.setCell (by simp) _⟩
        rw [← self_step n k hlt]
        have := HB.out.put k (.int .i64 (2 * ((k : Int) + 1)))
        unfold Hid
        simpa using this
      case measure => simp [intOf]; omega
    · obtain rfl : k = n := by omega
      go_wp2_with fail
      go_ret
      refine ⟨w.heap.size + 1, rfl, Nat.le_succ _, ?_, lw⟩
      have := HB.out
      rw [Nat.sub_self, List.replicate_zero, List.append_nil, List.take_of_length_le (by simp [Cm.selfBy_len])] at this
      exact this

set_option maxRecDepth 100000 in
set_option maxHeartbeats 2000000 in
theorem lit1_any (gb : Nat) (n : Int) (A : Option Addr) (gl c : Nat) (x : Int) (w : World) (h0 : w.cell? ⟨gb, 0, none⟩ = some (.int .i64 n)) (h1 : w.cell? ⟨gb, 1, none⟩ = some (.slice A gl c)) (hl : gl ≤ 1000000) :
    Calls Try.prog 44 #[.int .i64 x, .pointer (some ⟨gb, 0, none⟩)] w fun e w' => e = .returned (.bool (!Gm.litB n gl x)) ∧ Below w.heap.size w w' := by
  have HL := Lib.hid (lit_any n A gl c x w hl)
  have hnot : ∀ (x : Bool) (w : World), (Op.unary .not (.bool x)).run Try.prog w = .ok (.bool (!x)) w := fun _ _ => rfl
  generalize Gm.litB n gl x = t at *
  go_enter Try.func44, Try.ntmps44
  go_wp2_with (go_at_call 35; refine HL.out.mono ?_; rintro e w1 ⟨rfl, hb1⟩)
  go_ret
  exact ⟨rfl, hb1⟩

set_option maxRecDepth 100000 in
set_option maxHeartbeats 4000000 in
theorem idx_any (A2 : Option Addr) (c2 : Nat) (zs : List Int) (gb : Nat) (n : Int) (A : Option Addr) (gl c : Nat) (w : World) (hz : zs.length ≤ 1000000) (hV : Vs w w.heap.size A2 (iv zs)) (hg : gb < w.heap.size) (h0 : w.cell? ⟨gb, 0, none⟩ = some (.int .i64 n)) (h1 : w.cell? ⟨gb, 1, none⟩ = some (.slice A gl c)) (hl : gl ≤ 1000000) :
    Calls Try.prog 55 #[.slice A2 zs.length c2, .func (.func 44) #[] #[.pointer (some ⟨gb, 0, none⟩)]] w fun e w' => ∃ r : Int, e = .returned (.int .i64 r) ∧ decide (0 ≤ r) = !(zs.all (Gm.litB n gl)) ∧ Below w.heap.size w w' := by
  go_enter Try.func55, Try.ntmps55
  go_wp2_with fail
  go_loopw [8] (fun i wr => ∃ k : Nat, k ≤ zs.length ∧ i = .int .i64 k ∧ Hid ((zs.take k).all (Gm.litB n gl) = true) ∧ Below w.heap.size w wr) (fun i _ => zs.length - (intOf i).toNat)
  case atStart => exact ⟨0, Nat.zero_le _, rfl, rfl, Below.refl _ _⟩
  case round =>
    obtain ⟨k, hkl, rfl, HA, lw⟩ := hrel
    by_cases hlt : k < zs.length
    · obtain ⟨b, off, rfl, hb, hc⟩ := (hV.below lw (Nat.le_refl _)).int k hlt
      have hix := ixI b off zs.length c2 k hz hlt
      have HS := Lib.hid (List.take_succ_eq_append_getElem hlt)
      have hx : zs.getD k 0 = zs[k] := by simp [List.getD_eq_getElem?_getD, List.getElem?_eq_getElem hlt]
      have hmem := Lib.hid (List.getElem_mem hlt)
      rw [hx] at hc
      clear hx
      generalize zs[k] = x at *
      have HC := Lib.hid (lit1_any gb n A gl c x wr ((lw.cell (p := ⟨gb, 0, none⟩) hg).trans h0) ((lw.cell (p := ⟨gb, 1, none⟩) hg).trans h1) hl)
      cases ht : Gm.litB n gl x with
      | true =>
        rw [ht] at HC
        have HT := Lib.hid ht
        clear ht
        go_wp2_with (go_at_call 44; refine HC.out.mono ?_; rintro e w1 ⟨rfl, hb1⟩)
        go_roundw
        case rel => exact ⟨k + 1, by omega, by go_num, by unfold Hid; rw [HS.out, List.all_append, HA.out]; simp [HT.out], lw.trans (hb1.mono lw.size)⟩
        case measure => simp [intOf]; omega
      | false =>
        rw [ht] at HC
        have HT := Lib.hid ht
        clear ht
        go_wp2_with (go_at_call 44; refine HC.out.mono ?_; rintro e w1 ⟨rfl, hb1⟩)
        go_ret
        refine ⟨k, rfl, ?_, lw.trans (hb1.mono lw.size)⟩
        have : zs.all (Gm.litB n gl) = false := by
          rw [List.all_eq_false]
          exact ⟨x, hmem.out, by simp [HT.out]⟩
        rw [this]
        simp
    · obtain rfl : k = zs.length := by omega
      go_wp2_with fail
      go_ret
      have := HA.out
      rw [List.take_length] at this
      exact ⟨-1, rfl, by rw [this]; rfl, lw⟩

set_option maxRecDepth 100000 in
set_option maxHeartbeats 4000000 in
theorem literals_any (n : Int) (A : Option Addr) (gl c : Nat) (A2 : Option Addr) (c2 : Nat) (zs : List Int) (w : World) (hz : zs.length ≤ 1000000) (hV : Vs w w.heap.size A2 (iv zs)) (hl : gl ≤ 1000000) :
    Calls Try.prog 33 #[.agg #[.int .i64 n, .slice A gl c], .slice A2 zs.length c2] w fun e w' => e = .returned (.bool (zs.all (Gm.litB n gl))) ∧ Below w.heap.size w w' := by
  have lo : Below w.heap.size w (w.alloc (Obj.cells #[.int .i64 n, .slice A gl c] 26)) := (Below.refl _ _).alloc (Nat.le_refl _) _
  have hk := Blk.new w 26 #[.int .i64 n, .slice A gl c]
  have HI := Lib.hid (idx_any A2 c2 zs w.heap.size n A gl c (w.alloc (Obj.cells #[.int .i64 n, .slice A gl c] 26)) hz ((hV.below lo (Nat.le_refl _)).more lo.size) hk.lt (hk.cell 0) (hk.cell 1) hl)
  have hnot : ∀ (x : Bool) (w : World), (Op.unary .not (.bool x)).run Try.prog w = .ok (.bool (!x)) w := fun _ _ => rfl
  have HC : Hid (Calls Try.prog 43 #[.slice A2 zs.length c2, .func (.func 44) #[] #[.pointer (some ⟨w.heap.size, 0, none⟩)]] (w.alloc (Obj.cells #[.int .i64 n, .slice A gl c] 26)) fun e w' => e = .returned (.bool (!(zs.all (Gm.litB n gl)))) ∧ Below (w.alloc (Obj.cells #[.int .i64 n, .slice A gl c] 26)).heap.size (w.alloc (Obj.cells #[.int .i64 n, .slice A gl c] 26)) w') := by
    unfold Hid
    generalize w.alloc (Obj.cells #[.int .i64 n, .slice A gl c] 26) = V at *
    generalize zs.all (Gm.litB n gl) = t at *
    go_enter Try.func43, Try.ntmps43
    go_wp2_with (go_at_call 55; refine HI.out.mono ?_; rintro e w1 ⟨r, rfl, hr, hb1⟩)
    go_ret
    exact ⟨rfl, hb1⟩
  generalize zs.all (Gm.litB n gl) = t at *
  clear HI hk
  go_enter Try.func33, Try.ntmps33
  go_wp2_with (go_at_call 43; refine HC.out.mono ?_; rintro e w1 ⟨rfl, hb1⟩)
  go_ret
  exact ⟨ret_bool (by simp), lo.trans (hb1.mono lo.size)⟩
end Go.Proofs.Ytjjdgiondpnpcaa
