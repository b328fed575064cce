/- fill, of both kinds, with the closures of All and Three. -/
import Derived.Test.YtpbbjklacgkcgaaDoorED
namespace Go.Proofs.YtpbbjklacgkcgaaDoor
open Go.RowKit

theorem Blk.vs {w : World} {g : Nat} {t : TypeId} {vs : List Value} (h : Blk w g t vs.toArray) : Vs w w.heap.size (some ⟨g, 0, none⟩) vs := by
  intro k hk
  refine ⟨g, 0, rfl, h.lt, ?_⟩
  rw [Nat.zero_add, h.cell k, List.getElem?_toArray, List.getElem?_eq_getElem hk]
section
variable {α : Type} {f : List α → Int × Int → α}
/-- What stands in the list when k gates have been filled. -/
def padded (f : List α → Int × Int → α) (d : α) (v : List α) (gs : List (Int × Int)) (k : Nat) : List α := Em.vals f v (gs.take k) ++ List.replicate (gs.length - k) d
theorem padded_length (d : α) (v : List α) (gs : List (Int × Int)) (k : Nat) (hk : k ≤ gs.length) : (padded f d v gs k).length = v.length + gs.length := by
  simp [padded, Em.vals_length, Nat.min_eq_left hk]; omega
theorem padded_zero (d : α) (v : List α) (gs : List (Int × Int)) : padded f d v gs 0 = v ++ List.replicate gs.length d := rfl
theorem padded_all (d : α) (v : List α) (gs : List (Int × Int)) : padded f d v gs gs.length = Em.vals f v gs := by simp [padded]
theorem padded_step (d : α) (v : List α) (gs : List (Int × Int)) (k : Nat) (hk : k < gs.length) : padded f d v gs (k + 1) = (padded f d v gs k).set (v.length + k) (f (Em.vals f v (gs.take k)) gs[k]) := by
  have hl : (Em.vals f v (gs.take k)).length = v.length + k := by rw [Em.vals_length, List.length_take, Nat.min_eq_left (by omega)]
  unfold padded
  rw [Em.vals_take v gs k hk, List.set_append, hl, if_neg (by omega), Nat.sub_self, show gs.length - k = (gs.length - (k + 1)) + 1 by omega, List.replicate_succ]
  simp only [List.append_assoc, List.cons_append, List.nil_append, List.set_cons_zero]
end
theorem bv_set (zs : List Bool) (k : Nat) (x : Bool) : (bv zs).toArray.setIfInBounds k (.bool x) = (bv (zs.set k x)).toArray := by
  apply Array.ext'
  simp [List.map_set]
theorem lit_in {n : Int} {L k : Nat} {l : Int} (hn : (L : Int) = n) (h0 : 0 ≤ l) (h : l / 2 < n + 1 + k) : (l / 2).toNat < 1 + L + k := by omega
theorem gateB_eq (v : List Bool) (g : Int × Int) : Em.gateB v g = (Em.bitB v g.1 && Em.bitB v g.2) := rfl
theorem gateT_eq (v : List Int) (g : Int × Int) : Em.gateT v g = Em.andT (Em.triT v g.1) (Em.triT v g.2) := rfl
theorem ixB0 (sb N r : Nat) (hm : N ≤ 1000000) (hr : r < N) (w : World) : (Instr.indexAt 25 (.slice (some ⟨sb, 0, none⟩) N N) (.int .i64 (r : Int))).run Tryd.prog w = .ok (.pointer (some ⟨sb, r, none⟩)) w := by go_simp
theorem gateB_pad {ins : List Bool} {gs : List (Int × Int)} {n : Int} {k : Nat} (ho : Gm.ordB n 0 gs = true) (hn : (ins.length : Int) = n) (hk : k < gs.length) :
    Em.gateB (padded Em.gateB false (false :: ins) gs k) gs[k] = Em.gateB (Em.vals Em.gateB (false :: ins) (gs.take k)) gs[k] := by
  obtain ⟨h1, h2, h3⟩ := Em.gate_low ho hk
  have hl : (Em.vals Em.gateB (false :: ins) (gs.take k)).length = 1 + ins.length + k := by rw [Em.vals_length, List.length_take, Nat.min_eq_left (by omega), List.length_cons, Nat.add_comm ins.length]
  unfold padded
  rw [gateB_eq, gateB_eq (Em.vals Em.gateB (false :: ins) (gs.take k)), Em.bitB_pre _ _ (by rw [hl]; omega), Em.bitB_pre _ _ (by rw [hl]; omega)]
theorem gateT_pad {ins : List Int} {gs : List (Int × Int)} {n : Int} {k : Nat} (ho : Gm.ordB n 0 gs = true) (hn : (ins.length : Int) = n) (hk : k < gs.length) :
    Em.gateT (padded Em.gateT 0 (0 :: ins) gs k) gs[k] = Em.gateT (Em.vals Em.gateT (0 :: ins) (gs.take k)) gs[k] := by
  obtain ⟨h1, h2, h3⟩ := Em.gate_low ho hk
  have hl : (Em.vals Em.gateT (0 :: ins) (gs.take k)).length = 1 + ins.length + k := by rw [Em.vals_length, List.length_take, Nat.min_eq_left (by omega), List.length_cons, Nat.add_comm ins.length]
  unfold padded
  rw [gateT_eq, gateT_eq (Em.vals Em.gateT (0 :: ins) (gs.take k)), Em.triT_pre _ _ (by rw [hl]; omega), Em.triT_pre _ _ (by rw [hl]; omega)]

set_option maxRecDepth 100000 in
set_option maxHeartbeats 4000000 in
theorem fillB_any (n : Int) (A : Option Addr) (c : Nat) (gs : List (Int × Int)) (vb cb : Nat) (ins : List Bool) (w : World) (B : Nat) (hr : Gm.rightB n gs = true) (hn : (ins.length : Int) = n) (hg : Gr w B A gs) (hB : B ≤ w.heap.size) (hBv : B ≤ vb)
    (hne : cb ≠ vb) (hcl : cb < w.heap.size) (hcb : w.cell? ⟨cb, 0, none⟩ = some (.slice (some ⟨vb, 0, none⟩) (1 + (ins.length + gs.length)) (1 + (ins.length + gs.length))))
    (hk : Blk w vb 4 (bv (padded Em.gateB false (false :: ins) gs 0)).toArray) :
    Calls Tryd.prog 25 #[.agg #[.int .i64 n, .slice A gs.length c], .slice (some ⟨vb, 0, none⟩) (1 + (ins.length + gs.length)) (1 + (ins.length + gs.length)), .func (.func 26) #[] #[.pointer (some ⟨cb, 0, none⟩)]] w
      fun e w' => e = .returned (.tuple #[]) ∧ Blk w' vb 4 (bv (padded Em.gateB false (false :: ins) gs gs.length)).toArray ∧ w.grownBy w' (some vb) := by
  obtain ⟨hn0, hn1, hn2, _⟩ := right_facts hr
  have HO := Lib.hid (Em.right_ord hr)
  have hgl : gs.length ≤ 2000 := by omega
  have hil : ins.length ≤ 2000 := by omega
  clear hr
  go_enter Tryd.func25, Tryd.ntmps25
  go_wp2_with fail
  go_loopw [15] (fun i wr => ∃ k : Nat, k ≤ gs.length ∧ i = .int .i64 k ∧ Hid (Blk wr vb 4 (bv (padded Em.gateB false (false :: ins) gs k)).toArray) ∧ w.grownBy wr (some vb)) (fun i _ => gs.length - (intOf i).toNat)
  case atStart => exact ⟨0, Nat.zero_le _, rfl, hk.alloc _, grown_alloc (World.grownBy.refl w _) _⟩
  case round =>
    obtain ⟨k, hkl, rfl, HB, hgr⟩ := hrel
    by_cases hlt : k < gs.length
    · obtain ⟨b, off, hA, hbw, g1, g2⟩ := (hg.grown hgr hB (fun q e => by injection e with e; omega)) k hlt
      subst hA
      have hlow := Em.gate_low HO.out hlt
      have hpad := Lib.hid (gateB_pad (ins := ins) HO.out hn hlt)
      have hstep := Lib.hid (padded_step (f := Em.gateB) false (false :: ins) gs k hlt)
      have hpl := padded_length (f := Em.gateB) false (false :: ins) gs k hkl
      generalize gs[k] = g at *
      obtain ⟨x, y⟩ := g
      simp only at g1 g2 hlow
      have hcb2 : wr.cell? ⟨cb, 0, none⟩ = some (.slice (some ⟨vb, 0, none⟩) (1 + (ins.length + gs.length)) (1 + (ins.length + gs.length))) := (World.cell?_of_block (a := ⟨cb, 0, none⟩) (hgr.block cb hcl (fun e => by injection e with e; exact hne e))).trans hcb
      have hbx := HB.out.alloc (Obj.cells #[.int .i64 x, .int .i64 y] 46)
      have hgx := grown_alloc hgr (Obj.cells #[.int .i64 x, .int .i64 y] 46)
      have hcx : (wr.alloc (Obj.cells #[.int .i64 x, .int .i64 y] 46)).cell? ⟨cb, 0, none⟩ = some (.slice (some ⟨vb, 0, none⟩) (1 + (ins.length + gs.length)) (1 + (ins.length + gs.length))) := (World.cell?_alloc_lt wr _ ⟨cb, 0, none⟩ (Nat.lt_of_lt_of_le hcl hgr.size)).trans hcb2
      rw [show (1 + (ins.length + gs.length)) = (padded Em.gateB false (false :: ins) gs k).length by rw [hpl]; simp; omega] at hcx
      have HC := Lib.hid (all1_any cb (some ⟨vb, 0, none⟩) _ (padded Em.gateB false (false :: ins) gs k) x y #[] #[] _ _ hbx.vs hcx (by omega) (by rw [hpl]; simp; omega) (by omega) (by rw [hpl]; simp; omega) (by rw [hpl]; simp; omega))
      have HX := Lib.hid hbx
      have HG := Lib.hid hgx
      have hix := ixB0 vb (1 + (ins.length + gs.length)) (1 + ins.length + k) (by omega) (by omega)
      rw [show ((1 + ins.length + k : Nat) : Int) = 1 + n + (k : Int) by omega] at hix
      have hcell : ∃ z, (wr.alloc (Obj.cells #[.int .i64 x, .int .i64 y] 46)).cell? ⟨vb, 1 + ins.length + k, none⟩ = some (.bool z) := by
        obtain ⟨b', o', e', _, h1⟩ := hbx.vs.bool (1 + ins.length + k) (by rw [hpl]; simp; omega)
        injection e' with e'
        injection e' with e1 e2
        subst e1 e2
        exact ⟨_, by simpa using h1⟩
      obtain ⟨z, hz⟩ := hcell
      have hfz := hbx.frozen (1 + ins.length + k)
      clear hbx hgx hcx hcb2 hpl
      rw [hpad.out] at HC
      generalize Em.gateB (Em.vals Em.gateB (false :: ins) (gs.take k)) (x, y) = r at *
      have h1 : wr.cell? ⟨b, off + k * 2 + 1, none⟩ = some (.int .i64 y) := g2
      go_wp2_with (go_at_call 26; refine HC.out.mono ?_; rintro e w' ⟨rfl, m, rfl⟩)
      go_roundw
      case rel =>
        refine ⟨k + 1, by omega, by go_num, ?_, grown_set (grown_below HG.out (below_drewN (Below.refl _ _) _)) (Or.inl rfl) _⟩
        rw [hstep.out, ← bv_set]
        have := (HX.out.drewN m).put (1 + ins.length + k) (.bool r)
        rw [show (false :: ins).length + k = 1 + ins.length + k by simp; omega]
        exact this
      case measure => simp [intOf]; omega
    · have hkk : k = gs.length := by omega
      subst hkk
      go_wp2_with fail
      go_end0
      exact ⟨rfl, HB.out, hgr⟩
theorem Tabs.grown {w w' : World} {g : Nat} (h : Tabs w) (hg : w.grownBy w' (some g)) (h2 : 2 ≤ g) : Tabs w' := by
  have hs := h.sz
  have hc : ∀ b i, b < 2 → w'.cell? ⟨b, i, none⟩ = w.cell? ⟨b, i, none⟩ := fun b i hb => World.cell?_of_block (a := ⟨b, i, none⟩) (hg.block b (by omega) (fun e => by injection e with e; omega))
  exact ⟨fun i j hi hj => (hc _ _ (by omega)).trans (h.gate i j hi hj), fun i hi => (hc _ _ (by omega)).trans (h.neg i hi), Nat.le_trans hs hg.size⟩
theorem All3.append {u v : List Int} (h : Em.All3 u) (k : Em.All3 v) : Em.All3 (u ++ v) := by
  intro i
  rw [List.getD_eq_getElem?_getD]
  by_cases hi : i < u.length
  · rw [List.getElem?_append_left hi, ← List.getD_eq_getElem?_getD]; exact h i
  · rw [List.getElem?_append_right (by omega), ← List.getD_eq_getElem?_getD]; exact k _
theorem All3.zeros (n : Nat) : Em.All3 (List.replicate n 0) := by
  intro i
  rw [List.getD_eq_getElem?_getD, List.getElem?_replicate]
  split <;> exact Or.inl rfl
theorem All3.padded {v : List Int} (h : Em.All3 v) (gs : List (Int × Int)) (k : Nat) : Em.All3 (padded Em.gateT 0 v gs k) := All3.append (Em.All3.vals h _) (All3.zeros _)

set_option maxRecDepth 100000 in
set_option maxHeartbeats 4000000 in
theorem fillI_any (n : Int) (A : Option Addr) (c : Nat) (gs : List (Int × Int)) (vb cb : Nat) (ins : List Int) (w : World) (B : Nat) (hr : Gm.rightB n gs = true) (hn : (ins.length : Int) = n) (hg : Gr w B A gs) (hB : B ≤ w.heap.size) (hBv : B ≤ vb)
    (hT : Tabs w) (hv2 : 2 ≤ vb) (h3 : Em.All3 (0 :: ins)) (hne : cb ≠ vb) (hcl : cb < w.heap.size) (hcb : w.cell? ⟨cb, 0, none⟩ = some (.slice (some ⟨vb, 0, none⟩) (1 + (ins.length + gs.length)) (1 + (ins.length + gs.length))))
    (hk : Blk w vb 3 (iv (padded Em.gateT 0 (0 :: ins) gs 0)).toArray) :
    Calls Tryd.prog 34 #[.agg #[.int .i64 n, .slice A gs.length c], .slice (some ⟨vb, 0, none⟩) (1 + (ins.length + gs.length)) (1 + (ins.length + gs.length)), .func (.func 35) #[] #[.pointer (some ⟨cb, 0, none⟩)]] w
      fun e w' => e = .returned (.tuple #[]) ∧ Blk w' vb 3 (iv (padded Em.gateT 0 (0 :: ins) gs gs.length)).toArray ∧ w.grownBy w' (some vb) := by
  obtain ⟨hn0, hn1, hn2, _⟩ := right_facts hr
  have HO := Lib.hid (Em.right_ord hr)
  have hgl : gs.length ≤ 2000 := by omega
  have hil : ins.length ≤ 2000 := by omega
  clear hr
  go_enter Tryd.func34, Tryd.ntmps34
  go_wp2_with fail
  go_loopw [15] (fun i wr => ∃ k : Nat, k ≤ gs.length ∧ i = .int .i64 k ∧ Hid (Blk wr vb 3 (iv (padded Em.gateT 0 (0 :: ins) gs k)).toArray) ∧ w.grownBy wr (some vb)) (fun i _ => gs.length - (intOf i).toNat)
  case atStart => exact ⟨0, Nat.zero_le _, rfl, hk.alloc _, grown_alloc (World.grownBy.refl w _) _⟩
  case round =>
    obtain ⟨k, hkl, rfl, HB, hgr⟩ := hrel
    by_cases hlt : k < gs.length
    · obtain ⟨b, off, hA, hbw, g1, g2⟩ := (hg.grown hgr hB (fun q e => by injection e with e; omega)) k hlt
      subst hA
      have hlow := Em.gate_low HO.out hlt
      have hpad := Lib.hid (gateT_pad (ins := ins) HO.out hn hlt)
      have hstep := Lib.hid (padded_step (f := Em.gateT) 0 (0 :: ins) gs k hlt)
      have hpl := padded_length (f := Em.gateT) 0 (0 :: ins) gs k hkl
      generalize gs[k] = g at *
      obtain ⟨x, y⟩ := g
      simp only at g1 g2 hlow
      have hcb2 : wr.cell? ⟨cb, 0, none⟩ = some (.slice (some ⟨vb, 0, none⟩) (1 + (ins.length + gs.length)) (1 + (ins.length + gs.length))) := (World.cell?_of_block (a := ⟨cb, 0, none⟩) (hgr.block cb hcl (fun e => by injection e with e; exact hne e))).trans hcb
      have hbx := HB.out.alloc (Obj.cells #[.int .i64 x, .int .i64 y] 46)
      have hgx := grown_alloc hgr (Obj.cells #[.int .i64 x, .int .i64 y] 46)
      have hcx : (wr.alloc (Obj.cells #[.int .i64 x, .int .i64 y] 46)).cell? ⟨cb, 0, none⟩ = some (.slice (some ⟨vb, 0, none⟩) (1 + (ins.length + gs.length)) (1 + (ins.length + gs.length))) := (World.cell?_alloc_lt wr _ ⟨cb, 0, none⟩ (Nat.lt_of_lt_of_le hcl hgr.size)).trans hcb2
      rw [show (1 + (ins.length + gs.length)) = (padded Em.gateT 0 (0 :: ins) gs k).length by rw [hpl]; simp; omega] at hcx
      have HC := Lib.hid (three1_any cb (some ⟨vb, 0, none⟩) _ (padded Em.gateT 0 (0 :: ins) gs k) x y _ _ hbx.vs (hT.grown hgx hv2) (All3.padded h3 gs k) hcx (by omega) (by rw [hpl]; simp; omega) (by omega) (by rw [hpl]; simp; omega) (by rw [hpl]; simp; omega))
      have HX := Lib.hid hbx
      have HG := Lib.hid hgx
      have hix := ix1 vb (1 + (ins.length + gs.length)) (1 + ins.length + k) (by omega) (by omega)
      rw [show ((1 + ins.length + k : Nat) : Int) = 1 + n + (k : Int) by omega] at hix
      have hcell : ∃ z, (wr.alloc (Obj.cells #[.int .i64 x, .int .i64 y] 46)).cell? ⟨vb, 1 + ins.length + k, none⟩ = some (.int .i64 z) := by
        obtain ⟨b', o', e', _, h1⟩ := hbx.vs.int (1 + ins.length + k) (by rw [hpl]; simp; omega)
        injection e' with e'
        injection e' with e1 e2
        subst e1 e2
        exact ⟨_, by simpa using h1⟩
      obtain ⟨z, hz⟩ := hcell
      have hfz := hbx.frozen (1 + ins.length + k)
      clear hbx hgx hcx hcb2 hpl
      rw [hpad.out] at HC
      generalize Em.gateT (Em.vals Em.gateT (0 :: ins) (gs.take k)) (x, y) = r at *
      have h1 : wr.cell? ⟨b, off + k * 2 + 1, none⟩ = some (.int .i64 y) := g2
      go_wp2_with (go_at_call 35; refine HC.out.mono ?_; rintro e w' ⟨rfl, m, rfl⟩)
      go_roundw
      case rel =>
        refine ⟨k + 1, by omega, by go_num, ?_, grown_set (grown_below HG.out (below_drewN (Below.refl _ _) _)) (Or.inl rfl) _⟩
        rw [hstep.out, ← iv_set]
        have := (HX.out.drewN m).put (1 + ins.length + k) (.int .i64 r)
        rw [show (0 :: ins).length + k = 1 + ins.length + k by simp; omega]
        exact this
      case measure => simp [intOf]; omega
    · have hkk : k = gs.length := by omega
      subst hkk
      go_wp2_with fail
      go_end0
      exact ⟨rfl, HB.out, hgr⟩
end Go.Proofs.YtpbbjklacgkcgaaDoor
