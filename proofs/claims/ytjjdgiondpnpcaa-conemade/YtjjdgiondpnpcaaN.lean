/- graph.And. -/
import Derived.Test.YtjjdgiondpnpcaaK
namespace Go.Proofs.Ytjjdgiondpnpcaa
open Go.RowKit

/-- A graph, a literal and an error are handed back. -/
def AndPost (r : Gm.Res) (B : Nat) (w : World) (e : Ending) (w' : World) : Prop :=
  ∃ A' c', e = .returned (.tuple #[.agg #[.int .i64 r.1.1, .slice A' r.1.2.length c'], .int .i64 r.2.1, .int .i64 r.2.2]) ∧ Gr w' w'.heap.size A' r.1.2 ∧ Sep B w.heap.size A' ∧ Below w.heap.size w w'

/-- The boxes of a call: the graph at block k, the result behind it. -/
structure Boxes (w W : World) (n : Int) (s : Value) : Prop where
  low : Below w.heap.size w W
  d0 : W.cell? ⟨w.heap.size, 0, none⟩ = some (.int .i64 n)
  d1 : W.cell? ⟨w.heap.size, 1, none⟩ = some s
  e0 : W.cell? ⟨w.heap.size + 1, 0, none⟩ = some (.int .i64 0)
  e1 : W.cell? ⟨w.heap.size + 1, 1, none⟩ = some (.slice none 0 0)
  f0 : W.frozen? ⟨w.heap.size + 1, 0, none⟩ = false
  f1 : W.frozen? ⟨w.heap.size + 1, 1, none⟩ = false
  sz : w.heap.size + 1 < W.heap.size
theorem Boxes.grown {w W W' : World} {n : Int} {s : Value} {k : Nat} (h : Boxes w W n s) (hg : W.grownBy W' (some k)) (hk : w.heap.size + 1 < k) : Boxes w W' n s := by
  have hc : ∀ b i, b < w.heap.size + 2 → W'.cell? ⟨b, i, none⟩ = W.cell? ⟨b, i, none⟩ := fun b i hb => World.cell?_of_block (hg.block b (by have := h.sz; omega) (fun e => by injection e with e; omega))
  have hf : ∀ b i, b < w.heap.size + 2 → W'.frozen? ⟨b, i, none⟩ = W.frozen? ⟨b, i, none⟩ := fun b i hb => World.frozen?_of_block (hg.block b (by have := h.sz; omega) (fun e => by injection e with e; omega))
  exact ⟨h.low.grown hg h.low.size (fun j e => by injection e with e; omega), (hc _ _ (by omega)).trans h.d0, (hc _ _ (by omega)).trans h.d1, (hc _ _ (by omega)).trans h.e0, (hc _ _ (by omega)).trans h.e1, (hf _ _ (by omega)).trans h.f0, (hf _ _ (by omega)).trans h.f1, Nat.lt_of_lt_of_le h.sz hg.size⟩
theorem Boxes.below {w W W' : World} {n : Int} {s : Value} (h : Boxes w W n s) (hb : Below W.heap.size W W') : Boxes w W' n s :=
  h.grown (k := w.heap.size + 2) (grown_of_below hb _) (by omega)

theorem and_close {w w2 : World} {n : Int} {s : Value} {r : Gm.Res} {B : Nat} {A' : Option Addr} {c' : Nat} (h : Boxes w w2 n s) (hB : B ≤ w.heap.size) (hG : Gr w2 w2.heap.size A' r.1.2) (hsep : Sep B (w.heap.size + 2) A') :
    AndPost r B w (.returned (.tuple #[.agg #[.int .i64 r.1.1, .slice A' r.1.2.length c'], .int .i64 r.2.1, .int .i64 r.2.2]))
      ((w2.setCell ⟨w.heap.size + 1, 0, none⟩ (.int .i64 r.1.1)).setCell ⟨w.heap.size + 1, 1, none⟩ (.slice A' r.1.2.length c')) := by
  have hne : ∀ ad, A' = some ad → ad.block ≠ w.heap.size + 1 := hsep.ne (by omega) (by omega)
  refine ⟨A', c', rfl, ?_, hsep.mono (Nat.le_refl _) (by omega), (h.low.setCell (by simp) _).setCell (by simp) _⟩
  have := (hG.set (p := ⟨w.heap.size + 1, 0, none⟩) hne (.int .i64 r.1.1)).set (p := ⟨w.heap.size + 1, 1, none⟩) hne (.slice A' r.1.2.length c')
  simpa using this
theorem and_cells {w w2 : World} {n : Int} {s u v : Value} (h : Boxes w w2 n s) :
    ((w2.setCell ⟨w.heap.size + 1, 0, none⟩ u).setCell ⟨w.heap.size + 1, 1, none⟩ v).cell? ⟨w.heap.size + 1, 0, none⟩ = some u ∧ ((w2.setCell ⟨w.heap.size + 1, 0, none⟩ u).setCell ⟨w.heap.size + 1, 1, none⟩ v).cell? ⟨w.heap.size + 1, 1, none⟩ = some v :=
  ⟨(World.cell?_setCell_other _ _ _ _ (by simp)).trans (World.cell?_setCell_same _ _ _ h.e0), World.cell?_setCell_same _ _ _ ((World.cell?_setCell_other _ _ _ _ (by simp)).trans h.e1)⟩
theorem and_bad {w w2 : World} {n : Int} {s : Value} {B : Nat} {r : Gm.Res} {e : Int} (h : Boxes w w2 n s) (hB : B ≤ w.heap.size) (hr : r = Gm.bad e) :
    AndPost r B w (.returned (.tuple #[.agg #[.int .i64 0, .slice none 0 0], .int .i64 0, .int .i64 e])) ((w2.setCell ⟨w.heap.size + 1, 0, none⟩ (.int .i64 0)).setCell ⟨w.heap.size + 1, 1, none⟩ (.slice none 0 0)) := by
  subst hr
  exact and_close (r := Gm.bad e) (A' := none) (c' := 0) h hB (fun k hk => by simp [Gm.bad] at hk) Sep.none_

set_option maxRecDepth 100000 in
set_option maxHeartbeats 2000000 in
theorem and_arg (n : Int) (A : Option Addr) (c : Nat) (gs : List (Int × Int)) (a b : Int) (w : World) (B : Nat) (hl : gs.length ≤ 1000000) (hg : Gr w B A gs) (hB : B ≤ w.heap.size) (hw : Wf gs)
    (hbad : ¬ (Gm.rightB n gs = true ∧ Gm.litB n gs.length a = true ∧ Gm.litB n gs.length b = true)) :
    Calls Try.prog 41 #[.agg #[.int .i64 n, .slice A gs.length c], .int .i64 a, .int .i64 b] w (AndPost (Gm.andS n gs a b) 0 w) := by
  have hnot : ∀ (x : Bool) (w : World), (Op.unary .not (.bool x)).run Try.prog w = .ok (.bool (!x)) w := fun _ _ => rfl
  have hS : Gm.andS n gs a b = Gm.bad 1 := by unfold Gm.andS; rw [if_neg hbad]
  have HS := Lib.hid hS
  clear hS
  obtain ⟨W, hW⟩ : ∃ W, W = (((w.alloc (Obj.cells #[Value.int .i64 n, .slice A gs.length c] 26)).alloc (Obj.cells #[.int .i64 0, .slice none 0 0] 26)).alloc (Obj.cells #[.slice A gs.length c, .int .u32 0, .int .i32 0, .int .u32 0, .slice none 0 0, .bool false] 79)) := ⟨_, rfl⟩
  have hbx : Boxes w W n (.slice A gs.length c) := by
    rw [hW]
    exact ⟨(((Below.refl w.heap.size w).alloc (Nat.le_refl _) _).alloc (by simp) _).alloc (by simp; omega) _, by go_simp, by go_simp, by go_simp, by go_simp, by go_simp, by go_simp, by simp⟩
  have hk : Blk W (w.heap.size + 1 + 1) 79 #[.slice A gs.length c, .int .u32 0, .int .i32 0, .int .u32 0, .slice none 0 0, .bool false] := by
    rw [hW]
    have := Blk.new ((w.alloc (Obj.cells #[Value.int .i64 n, .slice A gs.length c] 26)).alloc (Obj.cells #[.int .i64 0, .slice none 0 0] 26)) 79 #[.slice A gs.length c, .int .u32 0, .int .i32 0, .int .u32 0, .slice none 0 0, .bool false]
    simpa using this
  have HL := Lib.hid hl
  clear hl
  by_cases ha : Gm.litB n gs.length a = true
  · by_cases hb : Gm.litB n gs.length b = true
    · have hr : Gm.rightB n gs = false := by
        cases h : Gm.rightB n gs with
        | false => rfl
        | true => exact absurd ⟨h, ha, hb⟩ hbad
      have HA := Lib.hid ha
      have HB := Lib.hid hb
      have HR := Lib.hid hr
      clear ha hb hr hbad
      go_enter Try.func41, Try.ntmps41
      go_wp2_with fail
      rw [← hW]
      clear hW
      refine (lit_any n A gs.length c a W HL.out).mono ?_
      rintro e w1 ⟨rfl, hb1⟩
      rw [HA.out]
      have hx1 := hbx.below hb1
      have d0 := hx1.d0
      have d1 := hx1.d1
      go_wp2_with fail
      refine (lit_any n A gs.length c b w1 HL.out).mono ?_
      rintro e w2 ⟨rfl, hb2⟩
      rw [HB.out]
      have hx2 := hx1.below hb2
      have hk2 := (hk.below hb1 hk.lt).below hb2 (Nat.lt_of_lt_of_le hk.lt hb1.size)
      clear d0 d1
      have l2 := hx2.low
      have d0 := hx2.d0
      have d1 := hx2.d1
      go_wp2_with fail
      refine (right_first n (w.heap.size + 1 + 1) A c gs _ _ w2 B HL.out hk2 (hg.below l2 hB) (by omega) hw).mono ?_
      rintro e w3 ⟨rfl, hg3, _⟩
      rw [HR.out]
      have hx3 := hx2.grown hg3 (by omega)
      clear d0 d1
      have d0 := hx3.d0
      have d1 := hx3.d1
      have e0 := hx3.e0
      have e1 := hx3.e1
      have f0 := hx3.f0
      have f1 := hx3.f1
      go_wp2
      obtain ⟨r0, r1⟩ := and_cells (u := .int .i64 0) (v := .slice none 0 0) hx3
      exact bodyPost_ret (v := .tuple #[.agg #[.int .i64 0, .slice none 0 0], .int .i64 0, .int .i64 1]) (by simp [results, Try.results41, go_sem, r0, r1]) rfl (and_bad hx3 (Nat.zero_le _) HS.out)
    · have HA := Lib.hid ha
      have HB := Lib.hid (show Gm.litB n gs.length b = false by simpa using hb)
      clear ha hb hbad
      go_enter Try.func41, Try.ntmps41
      go_wp2_with fail
      rw [← hW]
      clear hW
      refine (lit_any n A gs.length c a W HL.out).mono ?_
      rintro e w1 ⟨rfl, hb1⟩
      rw [HA.out]
      have hx1 := hbx.below hb1
      have d0 := hx1.d0
      have d1 := hx1.d1
      go_wp2_with fail
      refine (lit_any n A gs.length c b w1 HL.out).mono ?_
      rintro e w3 ⟨rfl, hb2⟩
      rw [HB.out]
      have hx3 := hx1.below hb2
      clear d0 d1
      have d0 := hx3.d0
      have d1 := hx3.d1
      have e0 := hx3.e0
      have e1 := hx3.e1
      have f0 := hx3.f0
      have f1 := hx3.f1
      go_wp2
      obtain ⟨r0, r1⟩ := and_cells (u := .int .i64 0) (v := .slice none 0 0) hx3
      exact bodyPost_ret (v := .tuple #[.agg #[.int .i64 0, .slice none 0 0], .int .i64 0, .int .i64 1]) (by simp [results, Try.results41, go_sem, r0, r1]) rfl (and_bad hx3 (Nat.zero_le _) HS.out)
  · have HA := Lib.hid (show Gm.litB n gs.length a = false by simpa using ha)
    clear ha hbad
    go_enter Try.func41, Try.ntmps41
    go_wp2_with fail
    rw [← hW]
    clear hW
    refine (lit_any n A gs.length c a W HL.out).mono ?_
    rintro e w3 ⟨rfl, hb1⟩
    rw [HA.out]
    have hx3 := hbx.below hb1
    have d0 := hx3.d0
    have d1 := hx3.d1
    have e0 := hx3.e0
    have e1 := hx3.e1
    have f0 := hx3.f0
    have f1 := hx3.f1
    go_wp2
    obtain ⟨r0, r1⟩ := and_cells (u := .int .i64 0) (v := .slice none 0 0) hx3
    exact bodyPost_ret (v := .tuple #[.agg #[.int .i64 0, .slice none 0 0], .int .i64 0, .int .i64 1]) (by simp [results, Try.results41, go_sem, r0, r1]) rfl (and_bad hx3 (Nat.zero_le _) HS.out)
end Go.Proofs.Ytjjdgiondpnpcaa
