/- Of package eval: two, start, fill, suits, All and Eval, of bools. -/
import Derived.Test.YtdbmepndebdbpaaGreatQag
import Derived.Laws.CopyOwn
import Derived.MapKept
import Derived.Carry
import Derived.Lib.OthersKept
import Derived.ChangeMaps5
namespace Go.Proofs.YtdbmepndebdbpaaGreat
open Go.RowKit

set_option maxHeartbeats 400000 in
theorem negative_any (l : Int) (w : World) (h0 : 0 ≤ l) (h1 : l ≤ 9223372036854775807) :
    Calls Tryz.prog 72 #[.int .i64 l] w fun e w' => e = .returned (.bool (Em.negL l)) ∧ w' = w := by
  go_enter Tryz.func72, Tryz.ntmps72
  go_wp2
  go_ret
  exact ⟨rfl, rfl⟩

set_option maxHeartbeats 2000000 in
theorem two_any (A : Option Addr) (c : Nat) (bs : List Bool) (l : Int) (w : World) (B : Nat) (hV : Vs w B A (bv bs)) (h0 : 0 ≤ l) (h1 : (l / 2).toNat < bs.length) (hm : bs.length ≤ 1000000) :
    Calls Tryz.prog 59 #[.slice A bs.length c, .int .i64 l] w fun e w' => e = .returned (.bool (Em.bitB bs l)) ∧ ∃ m, w' = w.drewN m := by
  obtain ⟨b, off, rfl, _, hc⟩ := hV.bool _ h1
  have hq : l / 2 = ((l / 2).toNat : Int) := by omega
  unfold Em.bitB
  generalize bs.getD (l / 2).toNat false = x at *
  generalize (l / 2).toNat = r at *
  have hix := ixB b off bs.length c r hm h1
  have hn := Lib.hid (negative_any l)
  generalize Em.negL l = y at *
  go_enter Tryz.func59, Tryz.ntmps59
  go_wp2_with fail
  go_quiet ((go_at_call 72; exact Calls.quiet_of_same (hn.out _ h0 (by omega))))
  go_wp2
  go_ret
  exact ⟨rfl, _, rfl⟩
/-- The package's tables lie where they were laid. -/
structure Tabs (w : World) : Prop where
  gate : ∀ i j : Nat, i < 3 → j < 3 → w.cell? ⟨0, i * 3 + j, none⟩ = some (.int .i64 (Em.andT i j))
  neg : ∀ i : Nat, i < 3 → w.cell? ⟨1, i, none⟩ = some (.int .i64 (Em.turnT i))
  sz : 2 ≤ w.heap.size
theorem Tabs.below {w w' : World} {B : Nat} (h : Tabs w) (hb : Below B w w') (hB : 2 ≤ B) : Tabs w' :=
  ⟨fun i j hi hj => (hb.cell (p := ⟨0, _, none⟩) (by simp; omega)).trans (h.gate i j hi hj), fun i hi => (hb.cell (p := ⟨1, _, none⟩) (by simp; omega)).trans (h.neg i hi), Nat.le_trans h.sz hb.size⟩
theorem Tabs.drewN {w : World} (h : Tabs w) (n : Nat) : Tabs (w.drewN n) := ⟨h.gate, h.neg, h.sz⟩
theorem Tabs.drew {w : World} (h : Tabs w) : Tabs w.drew := ⟨h.gate, h.neg, h.sz⟩
theorem Tabs.set {w : World} (h : Tabs w) {p : Addr} (hp : 2 ≤ p.block) (u : Value) : Tabs (w.setCell p u) :=
  ⟨fun i j hi hj => (World.cell?_setCell_other w p ⟨0, _, none⟩ u (fun e => by subst e; simp at hp)).trans (h.gate i j hi hj), fun i hi => (World.cell?_setCell_other w p ⟨1, _, none⟩ u (fun e => by subst e; simp at hp)).trans (h.neg i hi), by simpa [World.setCell] using h.sz⟩
theorem T3_nat {x : Int} (h : Em.T3 x) : ∃ i : Nat, i < 3 ∧ x = (i : Int) := by
  rcases h with rfl | rfl | rfl
  · exact ⟨0, by omega, rfl⟩
  · exact ⟨1, by omega, rfl⟩
  · exact ⟨2, by omega, rfl⟩

set_option maxHeartbeats 2000000 in
theorem all1_any (cb : Nat) (A : Option Addr) (c : Nat) (bs : List Bool) (x y : Int) (_u1 _u2 : Array Value) (w : World) (B : Nat) (hV : Vs w B A (bv bs)) (hcb : w.cell? ⟨cb, 0, none⟩ = some (.slice A bs.length c)) (hx0 : 0 ≤ x) (hx1 : (x / 2).toNat < bs.length) (hy0 : 0 ≤ y) (hy1 : (y / 2).toNat < bs.length) (hm : bs.length ≤ 1000000) :
    Calls Tryz.prog 65 #[.int .i64 x, .int .i64 y, .pointer (some ⟨cb, 0, none⟩)] w fun e w' => e = .returned (.bool (Em.gateB bs (x, y))) ∧ ∃ m, w' = w.drewN m := by
  have h1 := Lib.hid (two_any A c bs x w B hV hx0 hx1 hm)
  have h2 := Lib.hid (fun m => two_any A c bs y (w.drewN m) B (hV.drewN m) hy0 hy1 hm)
  unfold Em.gateB
  simp only
  generalize Em.bitB bs x = p at *
  generalize Em.bitB bs y = q at *
  cases p with
  | false =>
    go_enter Tryz.func65, Tryz.ntmps65
    go_wp2_with (go_at_call 59; refine h1.out.mono ?_; rintro e w' ⟨rfl, m, rfl⟩)
    go_ret
    exact ⟨rfl, _, rfl⟩
  | true =>
    go_enter Tryz.func65, Tryz.ntmps65
    go_wp2_with (first | (go_at_call 59; with_reducible refine h1.out.mono ?_; rintro e w' ⟨rfl, m, rfl⟩) | (go_at_call 59; refine (h2.out _).mono ?_; rintro e w' ⟨rfl, m2, rfl⟩))
    go_ret
    exact ⟨rfl, m + m2, rfl⟩
def falses (N : Nat) : Array Value := Array.replicate N (.bool false)
theorem made_falses (N : Nat) : madeCells (Value.bool false).cells N = falses N := by
  unfold madeCells falses
  apply Array.ext
  · simp
  · intro i h1 h2
    simp [Value.cells, Nat.mod_one]
theorem make_bools (N : Nat) (hN : N ≤ 1000000) (w : World) : (Instr.makeSlice 66 (.int .i64 (N : Int)) (.int .i64 (N : Int))).run Tryz.prog w = .ok (.slice (some ⟨w.heap.size, 0, none⟩) N N) (w.alloc (.cells (falses N) 4)) := by
  have hb : (Tryz.t4).bytes = 1 := by kernel_rfl
  have hs : (Tryz.t4).size = 1 := by kernel_rfl
  have := run_make (P := Tryz.prog) w 66 4 Tryz.t4 (.bool false) Tryz.underlying66 (by kernel_rfl) (by kernel_rfl) .i64 .i64 N N (by omega) (by omega) (by rw [hb]; omega) (by omega)
  rw [hs, Nat.mul_one, Int.toNat_natCast, made_falses] at this
  exact this
theorem splice_row (k z : Value) (cs : List Value) (m : Nat) : splice (k :: List.replicate (cs.length + m) z) 1 cs = k :: (cs ++ List.replicate m z) := by
  simp [splice, Nat.add_comm 1]
theorem falses_get (N i : Nat) (h : i < N) : (falses N)[i]? = some (.bool false) := by simp [falses, h]
theorem set_falses (N : Nat) (k : Bool) : (falses (1 + N)).setIfInBounds 0 (.bool k) = (Value.bool k :: List.replicate N (.bool false)).toArray := by
  apply Array.ext'
  simp [falses, Nat.add_comm 1, List.replicate_succ]

set_option maxRecDepth 100000 in
set_option maxHeartbeats 4000000 in
theorem startB_any (n : Int) (A : Option Addr) (c : Nat) (gl : Nat) (k : Bool) (A2 : Option Addr) (c2 : Nat) (ins : List Bool) (w : World) (B : Nat) (hg : gl ≤ 100000) (hi : ins.length ≤ 100000) (hV : Vs w B A2 (bv ins)) (hB : B ≤ w.heap.size) :
    Calls Tryz.prog 63 #[.agg #[.int .i64 n, .slice A gl c], .bool k, .slice A2 ins.length c2] w
      fun e w' => ∃ vb, e = .returned (.slice (some ⟨vb, 0, none⟩) (1 + (ins.length + gl)) (1 + (ins.length + gl))) ∧ w.heap.size ≤ vb ∧ Blk w' vb 4 (.bool k :: (bv ins ++ List.replicate gl (.bool false))).toArray ∧ Below w.heap.size w w' := by
  have hmk : ∀ w, (Instr.makeSlice 66 (.int .i64 (1 + (ins.length : Int) + (gl : Int))) (.int .i64 (1 + (ins.length : Int) + (gl : Int)))).run Tryz.prog w = .ok (.slice (some ⟨w.heap.size, 0, none⟩) (1 + (ins.length + gl)) (1 + (ins.length + gl))) (w.alloc (.cells (falses (1 + (ins.length + gl))) 4)) := fun w => by
    have := make_bools (1 + (ins.length + gl)) (by omega) w
    rwa [show ((1 + (ins.length + gl) : Nat) : Int) = 1 + (ins.length : Int) + (gl : Int) by omega] at this
  have HM := Lib.hid hmk
  have HI := Lib.hid (show (bv ins).length = ins.length by simp)
  have H1 := Lib.hid (bv_one ins)
  generalize hvs : bv ins = vs at *
  generalize hL : ins.length = L at *
  go_enter Tryz.func63, Tryz.ntmps63
  have hmk := HM.out
  go_upto_region 2 with fail
  have hk : Blk ((w.alloc (Obj.cells #[.int .i64 n, .slice A gl c] 41)).alloc (Obj.cells (falses (1 + (L + gl))) 4)) (w.heap.size + 1) 4 (falses (1 + (L + gl))) := by
    have := Blk.new (w.alloc (Obj.cells #[.int .i64 n, .slice A gl c] 41)) 4 (falses (1 + (L + gl)))
    simpa using this
  have lo : Below w.heap.size w ((w.alloc (Obj.cells #[.int .i64 n, .slice A gl c] 41)).alloc (Obj.cells (falses (1 + (L + gl))) 4)) := ((Below.refl _ _).alloc (Nat.le_refl _) _).alloc (by simp) _
  generalize (w.alloc (Obj.cells #[.int .i64 n, .slice A gl c] 41)).alloc (Obj.cells (falses (1 + (L + gl))) 4) = V at *
  have k0 : V.cell? ⟨w.heap.size + 1, 0, none⟩ = some (.bool false) := by rw [hk.cell 0]; exact falses_get _ _ (by omega)
  have f0 := hk.frozen 0
  go_upto_region 3 with fail
  have hk2 := hk.put 0 (.bool k)
  rw [set_falses] at hk2
  have lo2 : Below w.heap.size w (V.setCell ⟨w.heap.size + 1, 0, none⟩ (.bool k)) := lo.setCell (by simp) _
  have hV2 := (hV.below lo2 hB)
  clear hk k0 f0 lo hmk hV
  generalize V.setCell ⟨w.heap.size + 1, 0, none⟩ (.bool k) = V2 at *
  have HL := HI.out
  have hpos : 0 < vs.length → ∃ ad, A2 = some ad ∧ ∀ j v, vs[j]? = some v → V2.cell? (ad.add j) = some v := fun h => hV2.src h
  have HP := Lib.hid hpos
  clear hpos hV2 hvs hL
  by_cases hz : L = 0 ∧ gl = 0
  · obtain ⟨hL0, rfl⟩ := hz
    subst hL0
    obtain rfl : vs = [] := List.eq_nil_of_length_eq_zero HL
    go_wp2_with (with_reducible refine wpList_copy_nothing rfl (.tmp 20) (.tmp 21) 66 66 rfl 4 Tryz.underlying66 (by kernel_rfl) _ _ _ _ _ _ rfl rfl rfl ?_)
    go_ret
    exact ⟨w.heap.size + 1, rfl, Nat.le_succ _, by simpa using hk2, lo2⟩
  · have HK := Lib.hid (show V2.heap[w.heap.size + 1]? = some (.cells (Value.bool k :: List.replicate (L + gl) (.bool false)).toArray 4 (0, 0)) from hk2)
    have HN := Lib.hid (show vs.length = Nat.min L (L + gl) by rw [HL]; exact (Nat.min_eq_left (Nat.le_add_right _ _)).symm)
    have HF := Lib.hid (show 1 + vs.length ≤ (Value.bool k :: List.replicate (L + gl) (.bool false)).length by simp [HL]; omega)
    clear hk2
    go_wp2_with (with_reducible refine wpList_copy_splice rfl (.tmp 20) (.tmp 21) 66 66 rfl 4 Tryz.underlying66 (by kernel_rfl) _ _ _ _ _ _ rfl rfl (w.heap.size + 1) 1 (.bool k :: List.replicate (L + gl) (.bool false)) 4 HK.out vs HN.out (fun h => ⟨rfl, HP.out h⟩) HF.out H1.out w.heap.size w lo2 (Nat.le_succ _) ?_; intro w4 hg4 hb4)
    go_ret
    have hg5 := hg4.out
    rw [← HL, splice_row] at hg5
    exact ⟨w.heap.size + 1, rfl, Nat.le_succ _, hg5, hb4⟩
theorem zeros_get0 (N i : Nat) (h : i < N) : (zeros N)[i]? = some (.int .i64 0) := zeros_get N i h
theorem set_zeros (N : Nat) (k : Int) : (zeros (1 + N)).setIfInBounds 0 (.int .i64 k) = (Value.int .i64 k :: List.replicate N (.int .i64 0)).toArray := by
  apply Array.ext'
  simp [zeros, Nat.add_comm 1, List.replicate_succ]

theorem norm_step (zs : List Int) (k : Nat) (hk : k < zs.length) : (zs.take (k + 1)).map Em.normT ++ zs.drop (k + 1) = ((zs.take k).map Em.normT ++ zs.drop k).set k (Em.normT zs[k]) := by
  rw [List.take_succ_eq_append_getElem hk, List.map_append, List.set_append, List.length_map, List.length_take, Nat.min_eq_left (by omega), if_neg (by omega), Nat.sub_self, List.drop_eq_getElem_cons hk]
  simp only [List.map_cons, List.map_nil, List.append_assoc, List.cons_append, List.nil_append, List.set_cons_zero]
theorem iv_set (zs : List Int) (k : Nat) (x : Int) : (iv zs).toArray.setIfInBounds k (.int .i64 x) = (iv (zs.set k x)).toArray := by
  apply Array.ext'
  simp [List.map_set]
theorem norm_keep (zs : List Int) (k : Nat) (hk : k < zs.length) (h : Em.normT zs[k] = zs[k]) : (zs.take (k + 1)).map Em.normT ++ zs.drop (k + 1) = (zs.take k).map Em.normT ++ zs.drop k := by
  rw [List.take_succ_eq_append_getElem hk, List.map_append, List.append_assoc, List.drop_eq_getElem_cons hk]
  simp [h]
theorem norm_get (zs : List Int) (k : Nat) (hk : k < zs.length) : (iv ((zs.take k).map Em.normT ++ zs.drop k))[k]? = some (.int .i64 zs[k]) := by
  rw [List.getElem?_map, List.getElem?_append_right (by simp [Nat.min_eq_left (Nat.le_of_lt hk)]), List.drop_eq_getElem_cons hk]
  simp [Nat.min_eq_left (Nat.le_of_lt hk)]

section
variable {α : Type} {f : List α → Int × Int → α}
/-- What stands in the list when k gates have been filled. -/
def padded (f : List α → Int × Int → α) (d : α) (v : List α) (gs : List (Int × Int)) (k : Nat) : List α := Em.vals f v (gs.take k) ++ List.replicate (gs.length - k) d
theorem padded_length (d : α) (v : List α) (gs : List (Int × Int)) (k : Nat) (hk : k ≤ gs.length) : (padded f d v gs k).length = v.length + gs.length := by
  simp [padded, Em.vals_length, Nat.min_eq_left hk]; omega
theorem padded_zero (d : α) (v : List α) (gs : List (Int × Int)) : padded f d v gs 0 = v ++ List.replicate gs.length d := rfl
theorem padded_all (d : α) (v : List α) (gs : List (Int × Int)) : padded f d v gs gs.length = Em.vals f v gs := by simp [padded]
theorem padded_step (d : α) (v : List α) (gs : List (Int × Int)) (k : Nat) (hk : k < gs.length) : padded f d v gs (k + 1) = (padded f d v gs k).set (v.length + k) (f (Em.vals f v (gs.take k)) gs[k]) := by
  have hl : (Em.vals f v (gs.take k)).length = v.length + k := by rw [Em.vals_length, List.length_take, Nat.min_eq_left (by omega)]
  unfold padded
  rw [Em.vals_take v gs k hk, List.set_append, hl, if_neg (by omega), Nat.sub_self, show gs.length - k = (gs.length - (k + 1)) + 1 by omega, List.replicate_succ]
  simp only [List.append_assoc, List.cons_append, List.nil_append, List.set_cons_zero]
end
theorem bv_set (zs : List Bool) (k : Nat) (x : Bool) : (bv zs).toArray.setIfInBounds k (.bool x) = (bv (zs.set k x)).toArray := by
  apply Array.ext'
  simp [List.map_set]
theorem lit_in {n : Int} {L k : Nat} {l : Int} (hn : (L : Int) = n) (_h0 : 0 ≤ l) (h : l / 2 < n + 1 + k) : (l / 2).toNat < 1 + L + k := by omega
theorem gateB_eq (v : List Bool) (g : Int × Int) : Em.gateB v g = (Em.bitB v g.1 && Em.bitB v g.2) := rfl
theorem gateT_eq (v : List Int) (g : Int × Int) : Em.gateT v g = Em.andT (Em.triT v g.1) (Em.triT v g.2) := rfl
theorem ixB0 (sb N r : Nat) (_hm : N ≤ 1000000) (hr : r < N) (w : World) : (Instr.indexAt 66 (.slice (some ⟨sb, 0, none⟩) N N) (.int .i64 (r : Int))).run Tryz.prog w = .ok (.pointer (some ⟨sb, r, none⟩)) w := by go_simp
theorem gateB_pad {ins : List Bool} {gs : List (Int × Int)} {n : Int} {k : Nat} (ho : Gm.ordB n 0 gs = true) (hn : (ins.length : Int) = n) (hk : k < gs.length) :
    Em.gateB (padded Em.gateB false (false :: ins) gs k) gs[k] = Em.gateB (Em.vals Em.gateB (false :: ins) (gs.take k)) gs[k] := by
  obtain ⟨h1, h2, h3⟩ := Em.gate_low ho hk
  have hl : (Em.vals Em.gateB (false :: ins) (gs.take k)).length = 1 + ins.length + k := by rw [Em.vals_length, List.length_take, Nat.min_eq_left (by omega), List.length_cons, Nat.add_comm ins.length]
  unfold padded
  rw [gateB_eq, gateB_eq (Em.vals Em.gateB (false :: ins) (gs.take k)), Em.bitB_pre _ _ (by rw [hl]; omega), Em.bitB_pre _ _ (by rw [hl]; omega)]
theorem gateT_pad {ins : List Int} {gs : List (Int × Int)} {n : Int} {k : Nat} (ho : Gm.ordB n 0 gs = true) (hn : (ins.length : Int) = n) (hk : k < gs.length) :
    Em.gateT (padded Em.gateT 0 (0 :: ins) gs k) gs[k] = Em.gateT (Em.vals Em.gateT (0 :: ins) (gs.take k)) gs[k] := by
  obtain ⟨h1, h2, h3⟩ := Em.gate_low ho hk
  have hl : (Em.vals Em.gateT (0 :: ins) (gs.take k)).length = 1 + ins.length + k := by rw [Em.vals_length, List.length_take, Nat.min_eq_left (by omega), List.length_cons, Nat.add_comm ins.length]
  unfold padded
  rw [gateT_eq, gateT_eq (Em.vals Em.gateT (0 :: ins) (gs.take k)), Em.triT_pre _ _ (by rw [hl]; omega), Em.triT_pre _ _ (by rw [hl]; omega)]

set_option maxRecDepth 100000 in
set_option maxHeartbeats 4000000 in
theorem fillB_any (n : Int) (A : Option Addr) (c : Nat) (gs : List (Int × Int)) (vb cb : Nat) (ins : List Bool) (w : World) (B : Nat) (hr : Gm.rightB n gs = true) (hn : (ins.length : Int) = n) (hg : Gr w B A gs) (hB : B ≤ w.heap.size) (hBv : B ≤ vb)
    (hne : cb ≠ vb) (hcl : cb < w.heap.size) (hcb : w.cell? ⟨cb, 0, none⟩ = some (.slice (some ⟨vb, 0, none⟩) (1 + (ins.length + gs.length)) (1 + (ins.length + gs.length))))
    (hk : Blk w vb 4 (bv (padded Em.gateB false (false :: ins) gs 0)).toArray) :
    Calls Tryz.prog 64 #[.agg #[.int .i64 n, .slice A gs.length c], .slice (some ⟨vb, 0, none⟩) (1 + (ins.length + gs.length)) (1 + (ins.length + gs.length)), .func (.func 65) #[] #[.pointer (some ⟨cb, 0, none⟩)]] w
      fun e w' => e = .returned (.tuple #[]) ∧ Blk w' vb 4 (bv (padded Em.gateB false (false :: ins) gs gs.length)).toArray ∧ w.grownBy w' (some vb) := by
  obtain ⟨hn0, hn1, hn2, _⟩ := right_facts hr
  have HO := Lib.hid (Em.right_ord hr)
  have hgl : gs.length ≤ 2000 := by omega
  have hil : ins.length ≤ 2000 := by omega
  clear hr
  go_enter Tryz.func64, Tryz.ntmps64
  go_wp2_with fail
  go_loopw [15] (fun i wr => ∃ k : Nat, k ≤ gs.length ∧ i = .int .i64 k ∧ Hid (Blk wr vb 4 (bv (padded Em.gateB false (false :: ins) gs k)).toArray) ∧ w.grownBy wr (some vb)) (fun i _ => gs.length - (intOf i).toNat)
  case atStart => exact ⟨0, Nat.zero_le _, rfl, hk.alloc _, grown_alloc (World.grownBy.refl w _) _⟩
  case round =>
    obtain ⟨k, hkl, rfl, HB, hgr⟩ := hrel
    by_cases hlt : k < gs.length
    · obtain ⟨b, off, hA, hbw, g1, g2⟩ := (hg.grown hgr hB (fun q e => by injection e with e; omega)) k hlt
      subst hA
      have hlow := Em.gate_low HO.out hlt
      have hpad := Lib.hid (gateB_pad (ins := ins) HO.out hn hlt)
      have hstep := Lib.hid (padded_step (f := Em.gateB) false (false :: ins) gs k hlt)
      have hpl := padded_length (f := Em.gateB) false (false :: ins) gs k hkl
      generalize gs[k] = g at *
      obtain ⟨x, y⟩ := g
      simp only at g1 g2 hlow
      have hcb2 : wr.cell? ⟨cb, 0, none⟩ = some (.slice (some ⟨vb, 0, none⟩) (1 + (ins.length + gs.length)) (1 + (ins.length + gs.length))) := (World.cell?_of_block (a := ⟨cb, 0, none⟩) (hgr.block cb hcl (fun e => by injection e with e; exact hne e))).trans hcb
      have hbx := HB.out.alloc (Obj.cells #[.int .i64 x, .int .i64 y] 58)
      have hgx := grown_alloc hgr (Obj.cells #[.int .i64 x, .int .i64 y] 58)
      have hcx : (wr.alloc (Obj.cells #[.int .i64 x, .int .i64 y] 58)).cell? ⟨cb, 0, none⟩ = some (.slice (some ⟨vb, 0, none⟩) (1 + (ins.length + gs.length)) (1 + (ins.length + gs.length))) := (World.cell?_alloc_lt wr _ ⟨cb, 0, none⟩ (Nat.lt_of_lt_of_le hcl hgr.size)).trans hcb2
      rw [show (1 + (ins.length + gs.length)) = (padded Em.gateB false (false :: ins) gs k).length by rw [hpl]; simp; omega] at hcx
      have HC := Lib.hid (all1_any cb (some ⟨vb, 0, none⟩) _ (padded Em.gateB false (false :: ins) gs k) x y #[] #[] _ _ hbx.vs hcx (by omega) (by rw [hpl]; simp; omega) (by omega) (by rw [hpl]; simp; omega) (by rw [hpl]; simp; omega))
      have HX := Lib.hid hbx
      have HG := Lib.hid hgx
      have hix := ixB0 vb (1 + (ins.length + gs.length)) (1 + ins.length + k) (by omega) (by omega)
      rw [show ((1 + ins.length + k : Nat) : Int) = 1 + n + (k : Int) by omega] at hix
      have hcell : ∃ z, (wr.alloc (Obj.cells #[.int .i64 x, .int .i64 y] 58)).cell? ⟨vb, 1 + ins.length + k, none⟩ = some (.bool z) := by
        obtain ⟨b', o', e', _, h1⟩ := hbx.vs.bool (1 + ins.length + k) (by rw [hpl]; simp; omega)
        injection e' with e'
        injection e' with e1 e2
        subst e1 e2
        exact ⟨_, by simpa using h1⟩
      obtain ⟨z, hz⟩ := hcell
      have hfz := hbx.frozen (1 + ins.length + k)
      clear hbx hgx hcx hcb2 hpl
      rw [hpad.out] at HC
      generalize Em.gateB (Em.vals Em.gateB (false :: ins) (gs.take k)) (x, y) = r at *
      have h1 : wr.cell? ⟨b, off + k * 2 + 1, none⟩ = some (.int .i64 y) := g2
      go_wp2_with (go_at_call 65; refine HC.out.mono ?_; rintro e w' ⟨rfl, m, rfl⟩)
      go_roundw
      case rel =>
        refine ⟨k + 1, by omega, by go_num, ?_, grown_set (grown_below HG.out (below_drewN (Below.refl _ _) _)) (Or.inl rfl) _⟩
        rw [hstep.out, ← bv_set]
        have := (HX.out.drewN m).put (1 + ins.length + k) (.bool r)
        rw [show (false :: ins).length + k = 1 + ins.length + k by simp; omega]
        exact this
      case measure => simp [intOf]; omega
    · have hkk : k = gs.length := by omega
      subst hkk
      go_wp2_with fail
      go_end0
      exact ⟨rfl, HB.out, hgr⟩
theorem Tabs.grown {w w' : World} {g : Nat} (h : Tabs w) (hg : w.grownBy w' (some g)) (h2 : 2 ≤ g) : Tabs w' := by
  have hs := h.sz
  have hc : ∀ b i, b < 2 → w'.cell? ⟨b, i, none⟩ = w.cell? ⟨b, i, none⟩ := fun b i hb => World.cell?_of_block (a := ⟨b, i, none⟩) (hg.block b (by omega) (fun e => by injection e with e; omega))
  exact ⟨fun i j hi hj => (hc _ _ (by omega)).trans (h.gate i j hi hj), fun i hi => (hc _ _ (by omega)).trans (h.neg i hi), Nat.le_trans hs hg.size⟩
theorem All3.append {u v : List Int} (h : Em.All3 u) (k : Em.All3 v) : Em.All3 (u ++ v) := by
  intro i
  rw [List.getD_eq_getElem?_getD]
  by_cases hi : i < u.length
  · rw [List.getElem?_append_left hi, ← List.getD_eq_getElem?_getD]; exact h i
  · rw [List.getElem?_append_right (by omega), ← List.getD_eq_getElem?_getD]; exact k _
theorem All3.zeros (n : Nat) : Em.All3 (List.replicate n 0) := by
  intro i
  rw [List.getD_eq_getElem?_getD, List.getElem?_replicate]
  split <;> exact Or.inl rfl
theorem All3.padded {v : List Int} (h : Em.All3 v) (gs : List (Int × Int)) (k : Nat) : Em.All3 (padded Em.gateT 0 v gs k) := All3.append (Em.All3.vals h _) (All3.zeros _)

theorem grown_low {w w' : World} {B g : Nat} (h : w.grownBy w' (some g)) (hg : B ≤ g) (hB : B ≤ w.heap.size) : Below B w w' :=
  ⟨h.os, h.tape, h.output, h.size, fun k hk => h.block k (by omega) (fun e => by injection e with e; omega)⟩
def suitB (n : Int) (gs : List (Int × Int)) (k : Int) : Bool := decide (k = n) && Gm.rightB n gs

set_option maxRecDepth 100000 in
set_option maxHeartbeats 2000000 in
theorem suits_any (n : Int) (A : Option Addr) (c : Nat) (gs : List (Int × Int)) (k : Int) (w : World) (B : Nat) (hl : gs.length ≤ 1000000) (hg : Gr w B A gs) (hB : B ≤ w.heap.size) (hw : Wf gs) :
    Calls Tryz.prog 62 #[.agg #[.int .i64 n, .slice A gs.length c], .int .i64 k] w fun e w' => e = .returned (.bool (suitB n gs k)) ∧ Below w.heap.size w w' := by
  have lo : Below w.heap.size w (w.alloc (Obj.cells #[.int .i64 n, .slice A gs.length c] 41)) := (Below.refl _ _).alloc (Nat.le_refl _) _
  have HR := Lib.hid (Right_any n A c gs _ B hl (hg.below lo hB) (Nat.le_trans hB lo.size) hw)
  unfold suitB
  by_cases hk : k = n
  · subst hk
    rw [decide_eq_true rfl, Bool.true_and]
    go_enter Tryz.func62, Tryz.ntmps62
    go_wp2_with (go_at_call 25; refine HR.out.mono ?_; rintro e w1 ⟨rfl, hb1⟩)
    go_ret
    exact ⟨rfl, lo.trans (hb1.mono lo.size)⟩
  · have e : decide (k = n) = false := decide_eq_false hk
    rw [e, Bool.false_and]
    clear HR
    go_enter Tryz.func62, Tryz.ntmps62
    go_wp2_with fail
    go_ret
    exact ⟨rfl, lo⟩

theorem allB_no {n : Int} {gs : List (Int × Int)} {ins : List Bool} (h : suitB n gs ins.length = false) : Em.allB n gs ins = [] := by
  unfold Em.allB
  rw [if_neg]
  rintro ⟨h1, h2⟩
  simp [suitB, h1, h2] at h
theorem suit_facts {n : Int} {gs : List (Int × Int)} {k : Int} (h : suitB n gs k = true) : k = n ∧ Gm.rightB n gs = true := by
  simpa [suitB] using h

set_option maxRecDepth 100000 in
set_option maxHeartbeats 4000000 in
theorem all_any (n : Int) (A : Option Addr) (c : Nat) (gs : List (Int × Int)) (A2 : Option Addr) (c2 : Nat) (ins : List Bool) (w : World) (hl : gs.length ≤ 100000) (hi : ins.length ≤ 100000) (hg : Gr w w.heap.size A gs) (hw : Wf gs) (hV : Vs w w.heap.size A2 (bv ins)) :
    Calls Tryz.prog 43 #[.agg #[.int .i64 n, .slice A gs.length c], .slice A2 ins.length c2] w (BList (Em.allB n gs ins) w) := by
  have g0 := GX.new (n := n) (c := c) (l := gs.length) hg 41
  have lo : Below w.heap.size w (w.alloc (Obj.cells #[.int .i64 n, .slice A gs.length c] 41)) := (Below.refl _ _).alloc (Nat.le_refl _) _
  have HV := (hV.below lo (Nat.le_refl _)).more lo.size
  have HS := Lib.hid (suits_any n A c gs ins.length _ _ (by omega) g0.gr (Nat.le_refl _) hw)
  have HN := Lib.hid (allB_no (n := n) (gs := gs) (ins := ins))
  have HF := Lib.hid (suit_facts (n := n) (gs := gs) (k := ins.length))
  have hnot : ∀ (x : Bool) (w : World), (Op.unary .not (.bool x)).run Tryz.prog w = .ok (.bool (!x)) w := fun _ _ => rfl
  generalize suitB n gs ins.length = s at *
  cases s with
  | false =>
    rw [HN.out rfl]
    clear HN HF g0 HV
    go_enter Tryz.func43, Tryz.ntmps43
    go_wp2_with (go_at_call 62; refine HS.out.mono ?_; rintro e w1 ⟨rfl, hb1⟩)
    go_ret
    exact ⟨none, 0, rfl, vs_nil, lo.trans (hb1.mono lo.size)⟩
  | true =>
    obtain ⟨hn, hr⟩ := HF.out rfl
    have e : Em.allB n gs ins = Em.vals Em.gateB (false :: ins) gs := by unfold Em.allB; rw [if_pos ⟨hr, hn⟩]
    rw [e]
    have HE := Lib.hid hn
    have HR := Lib.hid hr
    clear HN HF e hr hn
    go_enter Tryz.func43, Tryz.ntmps43
    go_wp2_with fail
    refine HS.out.mono ?_
    rintro e w1 ⟨rfl, hb1⟩
    replace g0 := g0.below hb1
    replace HV := (HV.below hb1 (Nat.le_refl _)).more hb1.size
    replace lo := lo.trans (hb1.mono lo.size)
    have k0 := g0.c0
    have k1 := g0.c1
    clear HS hb1
    go_wp2_with fail
    refine (startB_any n A c gs.length false A2 c2 ins w1 _ hl hi HV (Nat.le_refl _)).mono ?_
    rintro e w2 ⟨vb, rfl, hvb, hblk, hb2⟩
    have hls := lo.size
    replace g0 := (g0.below hb2).alloc (Obj.cells #[.slice (some ⟨vb, 0, none⟩) (1 + (ins.length + gs.length)) (1 + (ins.length + gs.length))] 66)
    have hvl := hblk.lt
    have hcbk := Blk.new w2 66 #[.slice (some ⟨vb, 0, none⟩) (1 + (ins.length + gs.length)) (1 + (ins.length + gs.length))]
    replace hblk := hblk.alloc (Obj.cells #[.slice (some ⟨vb, 0, none⟩) (1 + (ins.length + gs.length)) (1 + (ins.length + gs.length))] 66)
    have hbs := hb2.size
    replace lo := (lo.trans (hb2.mono lo.size)).alloc (Nat.le_trans lo.size hb2.size) (Obj.cells #[.slice (some ⟨vb, 0, none⟩) (1 + (ins.length + gs.length)) (1 + (ins.length + gs.length))] 66)
    have hg3 : Gr (w2.alloc (Obj.cells #[.slice (some ⟨vb, 0, none⟩) (1 + (ins.length + gs.length)) (1 + (ins.length + gs.length))] 66)) w.heap.size A gs := hg.below lo (Nat.le_refl _)
    clear k0 k1 hb2 HV
    go_upto_region 4 with fail
    generalize w2.alloc (Obj.cells #[.slice (some ⟨vb, 0, none⟩) (1 + (ins.length + gs.length)) (1 + (ins.length + gs.length))] 66) = V at *
    have k0 := g0.c0
    have k1 := g0.c1
    have kc := hcbk.cell 0
    have HB : Hid (Blk V vb 4 (bv (padded Em.gateB false (false :: ins) gs 0)).toArray) := by
      have := hblk
      simp only [padded_zero, bv, List.map_append, List.map_replicate, List.map_cons, List.cons_append]
      exact this
    clear hblk
    simp only [List.getElem?_toArray, List.getElem?_cons_zero] at kc
    go_wp2_with fail
    refine (fillB_any n A c gs vb w2.heap.size ins V w.heap.size HR.out HE.out hg3 lo.size (by omega) (by omega) hcbk.lt kc HB.out).mono ?_
    rintro e w3 ⟨rfl, hfin, hgr⟩
    have kc3 : w3.cell? ⟨w2.heap.size, 0, none⟩ = some (.slice (some ⟨vb, 0, none⟩) (1 + (ins.length + gs.length)) (1 + (ins.length + gs.length))) := (World.cell?_of_block (a := ⟨w2.heap.size, 0, none⟩) (hgr.block w2.heap.size hcbk.lt (fun e => by injection e with e; omega))).trans kc
    clear k0 k1 kc
    go_wp2_with fail
    go_ret
    rw [padded_all] at hfin
    refine ⟨some ⟨vb, 0, none⟩, 1 + (ins.length + gs.length), ?_, hfin.vs, lo.trans (grown_low hgr (by omega) lo.size)⟩
    rw [Em.vals_length, List.length_cons, show ins.length + 1 + gs.length = 1 + (ins.length + gs.length) by omega]
    rfl

set_option maxRecDepth 100000 in
set_option maxHeartbeats 4000000 in
theorem eval_any (n : Int) (A : Option Addr) (c : Nat) (gs : List (Int × Int)) (l : Int) (A2 : Option Addr) (c2 : Nat) (ins : List Bool) (w : World) (hl : gs.length ≤ 100000) (hi : ins.length ≤ 100000) (hg : Gr w w.heap.size A gs) (hw : Wf gs) (hV : Vs w w.heap.size A2 (bv ins)) :
    Calls Tryz.prog 39 #[.agg #[.int .i64 n, .slice A gs.length c], .int .i64 l, .slice A2 ins.length c2] w fun e w' => e = .returned (.bool (Em.evalB n gs l ins)) ∧ Below w.heap.size w w' := by
  have g0 := GX.new (n := n) (c := c) (l := gs.length) hg 41
  have lo : Below w.heap.size w (w.alloc (Obj.cells #[.int .i64 n, .slice A gs.length c] 41)) := (Below.refl _ _).alloc (Nat.le_refl _) _
  have HV := (hV.below lo (Nat.le_refl _)).more lo.size
  have HA := Lib.hid (all_any n A c gs A2 c2 ins _ hl hi g0.gr hw HV)
  have HL := Lib.hid (fun w => lit_any n A gs.length c l w (by omega))
  have HLF := Lib.hid (fun h => lit_facts (n := n) (l := gs.length) (x := l) h)
  have HN : Hid ((Em.allB n gs ins) = [] ∨ 0 ≤ n ∧ ((Em.allB n gs ins).length : Int) = 1 + n + gs.length ∧ (Em.allB n gs ins).length ≤ 1000000) := by
    unfold Hid Em.allB
    split
    · rename_i h
      right
      have := right_facts h.1
      rw [Em.vals_length, List.length_cons]
      omega
    · exact Or.inl rfl
  unfold Em.evalB
  generalize Em.allB n gs ins = v at *
  generalize Gm.litB n gs.length l = b at *
  clear HV
  obtain ⟨z, hz⟩ : ∃ z, z = (decide (0 < v.length) && b && Em.bitB v l) := ⟨_, rfl⟩
  rw [← hz]
  have HZ := Lib.hid hz
  clear hz
  go_enter Tryz.func39, Tryz.ntmps39
  go_wp2_with fail
  refine HA.out.mono ?_
  rintro e w1 ⟨A', c', rfl, hV1, hb1⟩
  replace g0 := g0.below hb1
  replace lo := lo.trans (hb1.mono lo.size)
  have k0 := g0.c0
  have k1 := g0.c1
  clear HA hb1
  go_upto_region 2 with fail
  rcases HN.out with rfl | ⟨hn0, hvl, hvm⟩
  · go_wp2_with fail
    go_ret
    exact ⟨ret_bool (by rw [HZ.out]; rfl), lo⟩
  · have hpos : 0 < v.length := by omega
    have hpi : (0 : Int) < (v.length : Int) := by omega
    rw [decide_eq_true hpos, Bool.true_and] at HZ
    have HP := Lib.hid hvl
    clear hvl
    cases b with
    | false =>
      go_wp2_with (go_at_call 48; refine (HL.out _).mono ?_; rintro e w2 ⟨rfl, hb2⟩)
      go_ret
      exact ⟨ret_bool HZ.out.symm, lo.trans (hb2.mono lo.size)⟩
    | true =>
      have hlf := HLF.out rfl
      have HT := Lib.hid (fun w hb => two_any A' c' v l w w1.heap.size hb hlf.1 (by have := HP.out; omega) hvm)
      rw [Bool.true_and] at HZ
      generalize Em.bitB v l = r at *
      clear hlf
      go_wp2_with (first | (go_at_call 48; refine (HL.out _).mono ?_; rintro e w2 ⟨rfl, hb2⟩) | (go_at_call 59; refine (HT.out _ (hV1.below hb2 (Nat.le_refl _))).mono ?_; rintro e w3 ⟨rfl, m, rfl⟩))
      go_ret
      exact ⟨ret_bool HZ.out.symm, below_drewN (lo.trans (hb2.mono lo.size)) _⟩

theorem three_no {n : Int} {gs : List (Int × Int)} {l : Int} {ins : List Int} (h : (Gm.litB n gs.length l && suitB n gs ins.length) = false) : Em.threeS n gs l ins = 2 := by
  unfold Em.threeS
  rw [if_neg]
  rintro ⟨h1, h2, h3⟩
  simp [suitB, h1, h2, h3] at h

end Go.Proofs.YtdbmepndebdbpaaGreat
/- Circuits in memory; maps by runes; ranges over strings; listed, width, counts, fits. -/
namespace Go.Proofs.YtdbmepndebdbpaaGreat
open Go.RowKit

/-- A name: kind, index, text. -/
abbrev Nm := Int × Int × ByteArray
/-- A circuit, and where its lists lie. -/
structure Cir where
  n : Int
  aL : Option Addr
  cL : Nat
  ls : List (Int × Int)
  aG : Option Addr
  cG : Nat
  gs : List (Int × Int)
  aO : Option Addr
  cO : Nat
  os : List Int
  aB : Option Addr
  cB : Nat
  bs : List Int
  aC : Option Addr
  cC : Nat
  cs : List Int
  aF : Option Addr
  cF : Nat
  fs : List Int
  aN : Option Addr
  cN : Nat
  ns : List Nm

/-- The slice at A holds the names ns. -/
def Ns (w : World) (B : Nat) (A : Option Addr) (ns : List Nm) : Prop :=
  ∀ k (hk : k < ns.length), ∃ b off, A = some ⟨b, off, none⟩ ∧ b < B ∧
    w.cell? ⟨b, off + k * 3, none⟩ = some (.int .u8 (ns[k]).1) ∧ w.cell? ⟨b, off + k * 3 + 1, none⟩ = some (.int .i64 (ns[k]).2.1) ∧ w.cell? ⟨b, off + k * 3 + 2, none⟩ = some (.string (ns[k]).2.2)
theorem Ns.keep {w w' : World} {B : Nat} {A : Option Addr} {ns : List Nm} (h : Ns w B A ns) (hk : ∀ p : Addr, p.block < B → w'.cell? p = w.cell? p) : Ns w' B A ns := by
  intro k hlt
  obtain ⟨b, off, rfl, hb, h1, h2, h3⟩ := h k hlt
  exact ⟨b, off, rfl, hb, (hk ⟨b, _, none⟩ hb).trans h1, (hk ⟨b, _, none⟩ hb).trans h2, (hk ⟨b, _, none⟩ hb).trans h3⟩
theorem Ns.below {w w' : World} {B C : Nat} {A : Option Addr} {ns : List Nm} (h : Ns w B A ns) (hb : Below C w w') (hB : B ≤ C) : Ns w' B A ns :=
  h.keep fun _ hp => hb.cell (Nat.lt_of_lt_of_le hp hB)
theorem Ns.more {w : World} {B C : Nat} {A : Option Addr} {ns : List Nm} (h : Ns w B A ns) (hB : B ≤ C) : Ns w C A ns := by
  intro k hlt
  obtain ⟨b, off, rfl, hb, h1⟩ := h k hlt
  exact ⟨b, off, rfl, Nat.lt_of_lt_of_le hb hB, h1⟩
/-- The circuit's lists lie in memory. -/
structure CirM (w : World) (B : Nat) (c : Cir) : Prop where
  hl : Gr w B c.aL c.ls
  hg : Gr w B c.aG c.gs
  ho : Vs w B c.aO (iv c.os)
  hb : Vs w B c.aB (iv c.bs)
  hc : Vs w B c.aC (iv c.cs)
  hf : Vs w B c.aF (iv c.fs)
  hn : Ns w B c.aN c.ns
theorem CirM.below {w w' : World} {B C : Nat} {c : Cir} (h : CirM w B c) (hb : Below C w w') (hB : B ≤ C) : CirM w' B c :=
  ⟨h.hl.below hb hB, h.hg.below hb hB, h.ho.below hb hB, h.hb.below hb hB, h.hc.below hb hB, h.hf.below hb hB, h.hn.below hb hB⟩
theorem CirM.more {w : World} {B C : Nat} {c : Cir} (h : CirM w B c) (hB : B ≤ C) : CirM w C c :=
  ⟨h.hl.more hB, h.hg.more hB, h.ho.more hB, h.hb.more hB, h.hc.more hB, h.hf.more hB, h.hn.more hB⟩
def I64 (x : Int) : Prop := -9223372036854775808 ≤ x ∧ x ≤ 9223372036854775807
def IWf (xs : List Int) : Prop := ∀ x ∈ xs, I64 x
/-- The numbers are numbers of their kinds; the lists are as long as lists may be. -/
structure CirW (c : Cir) : Prop where
  hn : I64 c.n
  hl : Wf c.ls
  hg : Wf c.gs
  ho : IWf c.os
  hb : IWf c.bs
  hc : IWf c.cs
  hf : IWf c.fs
  hk : ∀ x ∈ c.ns, (0 ≤ x.1 ∧ x.1 ≤ 255) ∧ I64 x.2.1 ∧ x.2.2.size ≤ maxLen
  ll : c.ls.length ≤ 1000000
  lg : c.gs.length ≤ 1000000
  lo : c.os.length ≤ maxLen
  lb : c.bs.length ≤ maxLen
  lc : c.cs.length ≤ maxLen
  lf : c.fs.length ≤ maxLen
  ln : c.ns.length ≤ 1000000

namespace Cm
def kindAt (k : Nat) : Int := [105, 108, 111, 98, 99, 102].getD k 0
def kinds : ByteArray := ⟨#[105, 108, 111, 98, 99, 102]⟩
/-- How many signals of a kind are listed. -/
def lstS (c : Cir) (k : Int) : List Int := if k = 111 then c.os else if k = 98 then c.bs else if k = 99 then c.cs else if k = 102 then c.fs else []
def numS (c : Cir) (k : Int) : Int := if k = 105 then c.n else if k = 108 then c.ls.length else (lstS c k).length
end Cm

/-- Block b of w is o. -/
def Hp (w : World) (b : Nat) (o : Obj) : Prop := w.heap[b]? = some o
theorem Hp.lt {w : World} {b : Nat} {o : Obj} (h : Hp w b o) : b < w.heap.size := (Array.getElem?_eq_some_iff.1 h).1
theorem Hp.below {w w' : World} {b B : Nat} {o : Obj} (h : Hp w b o) (hb : Below B w w') (hB : b < B) : Hp w' b o := (hb.block b hB).trans h
theorem Hp.grown {w w' : World} {b : Nat} {o : Obj} {row : Option Nat} (h : Hp w b o) (hg : w.grownBy w' row) (hne : some b ≠ row) : Hp w' b o := (hg.block b h.lt hne).trans h
theorem Hp.new (w : World) (o : Obj) : Hp (w.alloc o) w.heap.size o := heap_alloc_new w o
theorem Hp.alloc {w : World} {b : Nat} {o : Obj} (h : Hp w b o) (o' : Obj) : Hp (w.alloc o') b o := (Below.heap_alloc w o' b h.lt).trans h
theorem Hp.drewN {w : World} {b : Nat} {o : Obj} (h : Hp w b o) (n : Nat) : Hp (w.drewN n) b o := h
theorem set_grown {w : World} {b : Nat} {o : Obj} (h : Hp w b o) (o' : Obj) : Hp { w with heap := w.heap.setIfInBounds b o' } b o' ∧ w.grownBy { w with heap := w.heap.setIfInBounds b o' } (some b) := by
  have hlt := h.lt
  refine ⟨by simp [Hp, hlt], rfl, rfl, rfl, by simp, fun i _ hne => ?_⟩
  have : b ≠ i := fun e => hne (by rw [e])
  simp [this]
theorem below_grown {w V V' : World} {B b : Nat} (h : Below B w V) (hg : V.grownBy V' (some b)) (hB : B ≤ b) (hs : B ≤ V.heap.size) : Below B w V' :=
  h.grown hg hs (fun k e => by injection e with e; omega)

/-- A step of a range over a string. -/
theorem next_any (w : World) (ib : Nat) (s : ByteArray) (pos : Nat) (hk : Hp w ib (.stringIter s pos)) (h : pos < s.size) :
    ∃ wn, (∀ ty, (Instr.next (.pointer (some ⟨ib, 0, none⟩)) true ty).run Tryz.prog w = .ok (.tuple #[.bool true, .int .i64 pos, .int .i32 (Utf8.decode s pos).1]) wn) ∧ Hp wn ib (.stringIter s (pos + (Utf8.decode s pos).2)) ∧ w.grownBy wn (some ib) := by
  have := set_grown hk (.stringIter s (pos + (Utf8.decode s pos).2))
  exact ⟨_, fun ty => Lib.run_next_any_at w ib s pos ty hk h, this.1, this.2⟩
theorem next_end (w : World) (ib : Nat) (s : ByteArray) (pos : Nat) (hk : Hp w ib (.stringIter s pos)) (h : ¬ pos < s.size) :
    ∀ ty, (Instr.next (.pointer (some ⟨ib, 0, none⟩)) true ty).run Tryz.prog w = .ok (.tuple #[.bool false]) w := fun ty => Lib.run_next_end_at w ib s pos ty hk h
/-- Where a range over a string stands. -/
def iterPos (w : World) (b : Nat) : Nat := match w.heap[b]? with | some (.stringIter _ p) => p | _ => 0
theorem Hp.pos {w : World} {b : Nat} {s : ByteArray} {p : Nat} (h : Hp w b (.stringIter s p)) : iterPos w b = p := by
  unfold Hp at h
  simp [iterPos, h]

/-- The map of numbers by kinds, of the first k of them. -/
def ents (L : Nat → Int) (k : Nat) : List MapEntry := (List.range k).map fun i => ⟨.int .i32 (Cm.kindAt i), .int .i64 (L i), i⟩
def cmap (L : Nat → Int) (k : Nat) : Obj := .map (ents L k).toArray k
theorem keyIs (j : Int) : MapKept.IsKey (.int .i32) (.int .i32 j) := by simp [MapKept.IsKey]
theorem store_new (w : World) (b : Nat) (es : List MapEntry) (clock : Nat) (j : Int) (v : Value) (hb : Hp w b (.map es.toArray clock)) (hf : Instr.findNow (.int .i32) (.int .i32 j) es 0 = some none) :
    ∃ wn, (Instr.mapUpdate 71 (.map (some b)) (.int .i32 j) v).run Tryz.prog w = .ok () wn ∧ Hp wn b (.map (es ++ [MapEntry.mk (.int .i32 j) v clock]).toArray (clock + 1)) ∧ w.grownBy wn (some b) := by
  have hs := set_grown hb (.map (es ++ [MapEntry.mk (.int .i32 j) v clock]).toArray (clock + 1))
  refine ⟨_, ?_, hs.1, hs.2⟩
  simp only [Instr.mapUpdate, Sem.run_bind, run_underlying Tryz.underlying71, Result.andThen, MapKept.run_getObj_map hb, MapKept.run_checkKey Tryz.underlying21 (keyIs j), MapKept.run_findKey Tryz.underlying21 hf]
  rw [MapKept.run_setObj_map _ hb]
  simp
theorem store_old (w : World) (b : Nat) (es : List MapEntry) (clock : Nat) (j : Int) (v v0 : Value) (i : Nat) (e0 : MapEntry) (hb : Hp w b (.map es.toArray clock)) (hf : Instr.findNow (.int .i32) (.int .i32 j) es 0 = some (some (i, v0))) (he : es[i]? = some e0) (hk : e0.key = .int .i32 j) :
    ∃ wn, (Instr.mapUpdate 71 (.map (some b)) (.int .i32 j) v).run Tryz.prog w = .ok () wn ∧ Hp wn b (.map (es.modify i (fun e => { e with key := .int .i32 j, val := v })).toArray clock) ∧ w.grownBy wn (some b) := by
  have hs := set_grown hb (.map (es.modify i (fun e => { e with key := .int .i32 j, val := v })).toArray clock)
  refine ⟨_, ?_, hs.1, hs.2⟩
  have hsb : Instr.sameBits 10000 (.int .i32 j) (.int .i32 j) = true := by simp [Instr.sameBits]
  simp only [Instr.mapUpdate, Sem.run_bind, run_underlying Tryz.underlying71, Result.andThen, MapKept.run_getObj_map hb, MapKept.run_checkKey Tryz.underlying21 (keyIs j), MapKept.run_findKey Tryz.underlying21 hf, Instr.keyThatStays]
  simp only [List.getElem?_toArray, he, Option.map_some, Option.getD_some, hk, hsb, if_true, Sem.run_pure]
  rw [MapKept.run_setObj_map _ hb]
  simp
theorem look_any (w : World) (b : Nat) (es : List MapEntry) (clock : Nat) (j x : Int) (hb : Hp w b (.map es.toArray clock)) (hf : (Instr.findNow (.int .i32) (.int .i32 j) es 0 = some none ∧ x = 0) ∨ ∃ i, Instr.findNow (.int .i32) (.int .i32 j) es 0 = some (some (i, .int .i64 x))) :
    (Instr.lookup 71 (.map (some b)) (.int .i32 j) false).run Tryz.prog w = .ok (.int .i64 x) w := by
  have hz : (zeroValue 3).run Tryz.prog w = .ok (.int .i64 0) w := by kernel_rfl
  rcases hf with ⟨hf, rfl⟩ | ⟨i, hf⟩
  · simp only [Instr.lookup, Sem.run_bind, run_underlying Tryz.underlying71, Result.andThen, MapKept.run_getObj_map hb, Sem.run_pure, MapKept.run_checkKey Tryz.underlying21 (keyIs j), MapKept.run_findKey Tryz.underlying21 hf, hz]
    rfl
  · simp only [Instr.lookup, Sem.run_bind, run_underlying Tryz.underlying71, Result.andThen, MapKept.run_getObj_map hb, Sem.run_pure, MapKept.run_checkKey Tryz.underlying21 (keyIs j), MapKept.run_findKey Tryz.underlying21 hf]
    rfl
end Go.Proofs.YtdbmepndebdbpaaGreat
