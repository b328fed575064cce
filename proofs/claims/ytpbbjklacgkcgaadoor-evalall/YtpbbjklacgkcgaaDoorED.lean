/- start, of both kinds. -/
import Derived.Test.YtpbbjklacgkcgaaDoorEC
namespace Go.Proofs.YtpbbjklacgkcgaaDoor
open Go.RowKit

theorem Vs.src {w : World} {B : Nat} {A : Option Addr} {vs : List Value} (h : Vs w B A vs) (h0 : 0 < vs.length) : ∃ ad, A = some ad ∧ ∀ j v, vs[j]? = some v → w.cell? (ad.add j) = some v := by
  obtain ⟨b, off, rfl, _⟩ := h 0 h0
  refine ⟨_, rfl, fun j v hj => ?_⟩
  obtain ⟨hlt, e⟩ := List.getElem?_eq_some_iff.1 hj
  obtain ⟨b', off', e', _, h1⟩ := h j hlt
  injection e' with e'
  injection e' with e1 e2
  subst e1 e2 e
  have ha : (⟨b, off, none⟩ : Addr).add j = ⟨b, off + j, none⟩ := by simp [Addr.add]
  rw [ha]
  exact h1
theorem bv_one (bs : List Bool) : ∀ v ∈ bv bs, v.oneCell' = true := by
  intro v hv
  obtain ⟨b, _, rfl⟩ := List.mem_map.1 hv
  rfl
theorem iv_one (zs : List Int) : ∀ v ∈ iv zs, v.oneCell' = true := by
  intro v hv
  obtain ⟨b, _, rfl⟩ := List.mem_map.1 hv
  rfl
theorem splice_row (k z : Value) (cs : List Value) (m : Nat) : splice (k :: List.replicate (cs.length + m) z) 1 cs = k :: (cs ++ List.replicate m z) := by
  simp [splice, Nat.add_comm 1]
theorem falses_get (N i : Nat) (h : i < N) : (falses N)[i]? = some (.bool false) := by simp [falses, Array.getElem?_replicate, h]
theorem set_falses (N : Nat) (k : Bool) : (falses (1 + N)).setIfInBounds 0 (.bool k) = (Value.bool k :: List.replicate N (.bool false)).toArray := by
  apply Array.ext'
  simp [falses, Nat.add_comm 1, List.replicate_succ]

set_option maxRecDepth 100000 in
set_option maxHeartbeats 4000000 in
theorem startB_any (n : Int) (A : Option Addr) (c : Nat) (gl : Nat) (k : Bool) (A2 : Option Addr) (c2 : Nat) (ins : List Bool) (w : World) (B : Nat) (hg : gl ≤ 100000) (hi : ins.length ≤ 100000) (hV : Vs w B A2 (bv ins)) (hB : B ≤ w.heap.size) :
    Calls Tryd.prog 24 #[.agg #[.int .i64 n, .slice A gl c], .bool k, .slice A2 ins.length c2] w
      fun e w' => ∃ vb, e = .returned (.slice (some ⟨vb, 0, none⟩) (1 + (ins.length + gl)) (1 + (ins.length + gl))) ∧ w.heap.size ≤ vb ∧ Blk w' vb 4 (.bool k :: (bv ins ++ List.replicate gl (.bool false))).toArray ∧ Below w.heap.size w w' := by
  have hmk : ∀ w, (Instr.makeSlice 25 (.int .i64 (1 + (ins.length : Int) + (gl : Int))) (.int .i64 (1 + (ins.length : Int) + (gl : Int)))).run Tryd.prog w = .ok (.slice (some ⟨w.heap.size, 0, none⟩) (1 + (ins.length + gl)) (1 + (ins.length + gl))) (w.alloc (.cells (falses (1 + (ins.length + gl))) 4)) := fun w => by
    have := make_bools (1 + (ins.length + gl)) (by omega) w
    rwa [show ((1 + (ins.length + gl) : Nat) : Int) = 1 + (ins.length : Int) + (gl : Int) by omega] at this
  have HM := Lib.hid hmk
  have HI := Lib.hid (show (bv ins).length = ins.length by simp)
  have H1 := Lib.hid (bv_one ins)
  generalize hvs : bv ins = vs at *
  generalize hL : ins.length = L at *
  go_enter Tryd.func24, Tryd.ntmps24
  have hmk := HM.out
  go_upto_region 2 with fail
  have hk : Blk ((w.alloc (Obj.cells #[.int .i64 n, .slice A gl c] 24)).alloc (Obj.cells (falses (1 + (L + gl))) 4)) (w.heap.size + 1) 4 (falses (1 + (L + gl))) := by
    have := Blk.new (w.alloc (Obj.cells #[.int .i64 n, .slice A gl c] 24)) 4 (falses (1 + (L + gl)))
    simpa using this
  have lo : Below w.heap.size w ((w.alloc (Obj.cells #[.int .i64 n, .slice A gl c] 24)).alloc (Obj.cells (falses (1 + (L + gl))) 4)) := ((Below.refl _ _).alloc (Nat.le_refl _) _).alloc (by simp) _
  generalize (w.alloc (Obj.cells #[.int .i64 n, .slice A gl c] 24)).alloc (Obj.cells (falses (1 + (L + gl))) 4) = V at *
  have k0 : V.cell? ⟨w.heap.size + 1, 0, none⟩ = some (.bool false) := by rw [hk.cell 0]; exact falses_get _ _ (by omega)
  have f0 := hk.frozen 0
  go_upto_region 3 with fail
  have hk2 := hk.put 0 (.bool k)
  rw [set_falses] at hk2
  have lo2 : Below w.heap.size w (V.setCell ⟨w.heap.size + 1, 0, none⟩ (.bool k)) := lo.setCell (by simp) _
  have hV2 := (hV.below lo2 hB)
  clear hk k0 f0 lo hmk hV
  generalize V.setCell ⟨w.heap.size + 1, 0, none⟩ (.bool k) = V2 at *
  have HL := HI.out
  have hpos : 0 < vs.length → ∃ ad, A2 = some ad ∧ ∀ j v, vs[j]? = some v → V2.cell? (ad.add j) = some v := fun h => hV2.src h
  have HP := Lib.hid hpos
  clear hpos hV2 hvs hL
  by_cases hz : L = 0 ∧ gl = 0
  · obtain ⟨hL0, rfl⟩ := hz
    subst hL0
    obtain rfl : vs = [] := List.eq_nil_of_length_eq_zero HL
    go_wp2_with (with_reducible refine wpList_copy_nothing rfl (.tmp 20) (.tmp 21) 25 25 rfl 4 Tryd.underlying25 (by kernel_rfl) _ _ _ _ _ _ rfl rfl rfl ?_)
    go_ret
    exact ⟨w.heap.size + 1, rfl, Nat.le_succ _, by simpa using hk2, lo2⟩
  · have HK := Lib.hid (show V2.heap[w.heap.size + 1]? = some (.cells (Value.bool k :: List.replicate (L + gl) (.bool false)).toArray 4 (0, 0)) from hk2)
    have HN := Lib.hid (show vs.length = Nat.min L (L + gl) by rw [HL]; exact (Nat.min_eq_left (Nat.le_add_right _ _)).symm)
    have HF := Lib.hid (show 1 + vs.length ≤ (Value.bool k :: List.replicate (L + gl) (.bool false)).length by simp [HL]; omega)
    clear hk2
    go_wp2_with (with_reducible refine wpList_copy_splice rfl (.tmp 20) (.tmp 21) 25 25 rfl 4 Tryd.underlying25 (by kernel_rfl) _ _ _ _ _ _ rfl rfl (w.heap.size + 1) 1 (.bool k :: List.replicate (L + gl) (.bool false)) 4 HK.out vs HN.out (fun h => ⟨rfl, HP.out h⟩) HF.out H1.out w.heap.size w lo2 (Nat.le_succ _) ?_; intro w4 hg4 hb4)
    go_ret
    have hg5 := hg4.out
    rw [← HL, splice_row] at hg5
    exact ⟨w.heap.size + 1, rfl, Nat.le_succ _, hg5, hb4⟩
theorem zeros_get0 (N i : Nat) (h : i < N) : (zeros N)[i]? = some (.int .i64 0) := zeros_get N i h
theorem set_zeros (N : Nat) (k : Int) : (zeros (1 + N)).setIfInBounds 0 (.int .i64 k) = (Value.int .i64 k :: List.replicate N (.int .i64 0)).toArray := by
  apply Array.ext'
  simp [zeros, Nat.add_comm 1, List.replicate_succ]

set_option maxRecDepth 100000 in
set_option maxHeartbeats 4000000 in
theorem startI_any (n : Int) (A : Option Addr) (c : Nat) (gl : Nat) (k : Int) (A2 : Option Addr) (c2 : Nat) (ins : List Int) (w : World) (B : Nat) (hg : gl ≤ 100000) (hi : ins.length ≤ 100000) (hV : Vs w B A2 (iv ins)) (hB : B ≤ w.heap.size) :
    Calls Tryd.prog 32 #[.agg #[.int .i64 n, .slice A gl c], .int .i64 k, .slice A2 ins.length c2] w
      fun e w' => ∃ vb, e = .returned (.slice (some ⟨vb, 0, none⟩) (1 + (ins.length + gl)) (1 + (ins.length + gl))) ∧ w.heap.size ≤ vb ∧ Blk w' vb 3 (.int .i64 k :: (iv ins ++ List.replicate gl (.int .i64 0))).toArray ∧ Below w.heap.size w w' := by
  have hmk : ∀ w, (Instr.makeSlice 26 (.int .i64 (1 + (ins.length : Int) + (gl : Int))) (.int .i64 (1 + (ins.length : Int) + (gl : Int)))).run Tryd.prog w = .ok (.slice (some ⟨w.heap.size, 0, none⟩) (1 + (ins.length + gl)) (1 + (ins.length + gl))) (w.alloc (.cells (zeros (1 + (ins.length + gl))) 3)) := fun w => by
    have := make_ints (1 + (ins.length + gl)) (by omega) w
    rwa [show ((1 + (ins.length + gl) : Nat) : Int) = 1 + (ins.length : Int) + (gl : Int) by omega] at this
  have HM := Lib.hid hmk
  have HI := Lib.hid (show (iv ins).length = ins.length by simp)
  have H1 := Lib.hid (iv_one ins)
  generalize hvs : iv ins = vs at *
  generalize hL : ins.length = L at *
  go_enter Tryd.func32, Tryd.ntmps32
  have hmk := HM.out
  go_upto_region 2 with fail
  have hk : Blk ((w.alloc (Obj.cells #[.int .i64 n, .slice A gl c] 24)).alloc (Obj.cells (zeros (1 + (L + gl))) 3)) (w.heap.size + 1) 3 (zeros (1 + (L + gl))) := by
    have := Blk.new (w.alloc (Obj.cells #[.int .i64 n, .slice A gl c] 24)) 3 (zeros (1 + (L + gl)))
    simpa using this
  have lo : Below w.heap.size w ((w.alloc (Obj.cells #[.int .i64 n, .slice A gl c] 24)).alloc (Obj.cells (zeros (1 + (L + gl))) 3)) := ((Below.refl _ _).alloc (Nat.le_refl _) _).alloc (by simp) _
  generalize (w.alloc (Obj.cells #[.int .i64 n, .slice A gl c] 24)).alloc (Obj.cells (zeros (1 + (L + gl))) 3) = V at *
  have k0 : V.cell? ⟨w.heap.size + 1, 0, none⟩ = some (.int .i64 0) := by rw [hk.cell 0]; exact zeros_get0 _ _ (by omega)
  have f0 := hk.frozen 0
  go_upto_region 3 with fail
  have hk2 := hk.put 0 (.int .i64 k)
  rw [set_zeros] at hk2
  have lo2 : Below w.heap.size w (V.setCell ⟨w.heap.size + 1, 0, none⟩ (.int .i64 k)) := lo.setCell (by simp) _
  have hV2 := (hV.below lo2 hB)
  clear hk k0 f0 lo hmk hV
  generalize V.setCell ⟨w.heap.size + 1, 0, none⟩ (.int .i64 k) = V2 at *
  have HL := HI.out
  have hpos : 0 < vs.length → ∃ ad, A2 = some ad ∧ ∀ j v, vs[j]? = some v → V2.cell? (ad.add j) = some v := fun h => hV2.src h
  have HP := Lib.hid hpos
  clear hpos hV2 hvs hL
  by_cases hz : L = 0 ∧ gl = 0
  · obtain ⟨hL0, rfl⟩ := hz
    subst hL0
    obtain rfl : vs = [] := List.eq_nil_of_length_eq_zero HL
    go_wp2_with (with_reducible refine wpList_copy_nothing rfl (.tmp 20) (.tmp 21) 26 26 rfl 3 Tryd.underlying26 (by kernel_rfl) _ _ _ _ _ _ rfl rfl rfl ?_)
    go_ret
    exact ⟨w.heap.size + 1, rfl, Nat.le_succ _, by simpa using hk2, lo2⟩
  · have HK := Lib.hid (show V2.heap[w.heap.size + 1]? = some (.cells (Value.int .i64 k :: List.replicate (L + gl) (.int .i64 0)).toArray 3 (0, 0)) from hk2)
    have HN := Lib.hid (show vs.length = Nat.min L (L + gl) by rw [HL]; exact (Nat.min_eq_left (Nat.le_add_right _ _)).symm)
    have HF := Lib.hid (show 1 + vs.length ≤ (Value.int .i64 k :: List.replicate (L + gl) (.int .i64 0)).length by simp [HL]; omega)
    clear hk2
    go_wp2_with (with_reducible refine wpList_copy_splice rfl (.tmp 20) (.tmp 21) 26 26 rfl 3 Tryd.underlying26 (by kernel_rfl) _ _ _ _ _ _ rfl rfl (w.heap.size + 1) 1 (Value.int .i64 k :: List.replicate (L + gl) (.int .i64 0)) 3 HK.out vs HN.out (fun h => ⟨rfl, HP.out h⟩) HF.out H1.out w.heap.size w lo2 (Nat.le_succ _) ?_; intro w4 hg4 hb4)
    go_ret
    have hg5 := hg4.out
    rw [← HL, splice_row] at hg5
    exact ⟨w.heap.size + 1, rfl, Nat.le_succ _, hg5, hb4⟩

theorem norm_step (zs : List Int) (k : Nat) (hk : k < zs.length) : (zs.take (k + 1)).map Em.normT ++ zs.drop (k + 1) = ((zs.take k).map Em.normT ++ zs.drop k).set k (Em.normT zs[k]) := by
  rw [List.take_succ_eq_append_getElem hk, List.map_append, List.set_append, List.length_map, List.length_take, Nat.min_eq_left (by omega), if_neg (by omega), Nat.sub_self, List.drop_eq_getElem_cons hk]
  simp only [List.map_cons, List.map_nil, List.append_assoc, List.cons_append, List.nil_append, List.set_cons_zero]
theorem iv_set (zs : List Int) (k : Nat) (x : Int) : (iv zs).toArray.setIfInBounds k (.int .i64 x) = (iv (zs.set k x)).toArray := by
  apply Array.ext'
  simp [List.map_set]
theorem norm_keep (zs : List Int) (k : Nat) (hk : k < zs.length) (h : Em.normT zs[k] = zs[k]) : (zs.take (k + 1)).map Em.normT ++ zs.drop (k + 1) = (zs.take k).map Em.normT ++ zs.drop k := by
  rw [List.take_succ_eq_append_getElem hk, List.map_append, List.append_assoc, List.drop_eq_getElem_cons hk]
  simp [h]
theorem norm_get (zs : List Int) (k : Nat) (hk : k < zs.length) : (iv ((zs.take k).map Em.normT ++ zs.drop k))[k]? = some (.int .i64 zs[k]) := by
  rw [List.getElem?_map, List.getElem?_append_right (by simp [Nat.min_eq_left (Nat.le_of_lt hk)]), List.drop_eq_getElem_cons hk]
  simp [Nat.min_eq_left (Nat.le_of_lt hk)]

set_option maxHeartbeats 2000000 in
theorem open_any (vb : Nat) (zs : List Int) (w : World) (hm : zs.length ≤ 1000000) (hk : Blk w vb 3 (iv zs).toArray) :
    Calls Tryd.prog 33 #[.slice (some ⟨vb, 0, none⟩) zs.length zs.length] w fun e w' => e = .returned (.tuple #[]) ∧ Blk w' vb 3 (iv (zs.map Em.normT)).toArray ∧ w.grownBy w' (some vb) := by
  go_enter Tryd.func33, Tryd.ntmps33
  go_wp2
  go_loopw [6] (fun i wr => ∃ k : Nat, k ≤ zs.length ∧ i = .int .i64 k ∧ Hid (Blk wr vb 3 (iv ((zs.take k).map Em.normT ++ zs.drop k)).toArray) ∧ w.grownBy wr (some vb)) (fun i _ => zs.length - (intOf i).toNat)
  case atStart => exact ⟨0, Nat.zero_le _, rfl, by simpa [Hid] using hk, World.grownBy.refl w _⟩
  case round =>
    obtain ⟨k, hkl, rfl, HB, hgr⟩ := hrel
    by_cases hlt : k < zs.length
    · have hix := ix1 vb zs.length k hm hlt
      have hc : wr.cell? ⟨vb, k, none⟩ = some (.int .i64 zs[k]) := by rw [HB.out.cell k, List.getElem?_toArray]; exact norm_get zs k hlt
      have hf := HB.out.frozen k
      have HK := Lib.hid (norm_keep zs k hlt)
      have HS := Lib.hid (norm_step zs k hlt)
      generalize zs[k] = x at *
      by_cases hx : x = 0 ∨ x = 1
      · have e : Em.normT x = x := by unfold Em.normT; rw [if_pos hx]
        have HE := Lib.hid (HK.out e)
        clear e HK HS
        rcases hx with rfl | rfl
        · go_wp2
          go_roundw
          case rel => exact ⟨k + 1, by omega, by go_num, by rw [HE.out]; exact HB, hgr⟩
          case measure => simp [intOf]; omega
        · go_wp2
          go_roundw
          case rel => exact ⟨k + 1, by omega, by go_num, by rw [HE.out]; exact HB, hgr⟩
          case measure => simp [intOf]; omega
      · have e : Em.normT x = 2 := by unfold Em.normT; rw [if_neg hx]
        rw [e] at HS
        have hx0 : (x != 0) = true := by simpa using fun h => hx (Or.inl h)
        have hx1 : (x != 1) = true := by simpa using fun h => hx (Or.inr h)
        clear e HK hx
        go_wp2
        go_roundw
        case rel =>
          refine ⟨k + 1, by omega, by go_num, ?_, grown_set hgr (Or.inl rfl) _⟩
          rw [HS.out, ← iv_set]
          exact HB.out.put k _
        case measure => simp [intOf]; omega
    · have hkk : k = zs.length := by omega
      have HB2 : Hid (Blk wr vb 3 (iv (zs.map Em.normT)).toArray) := by
        have := HB.out
        rw [hkk, List.take_length, List.drop_length, List.append_nil] at this
        exact this
      clear HB hkk
      go_wp2
      go_end0
      exact ⟨rfl, HB2.out, hgr⟩
end Go.Proofs.YtpbbjklacgkcgaaDoor
