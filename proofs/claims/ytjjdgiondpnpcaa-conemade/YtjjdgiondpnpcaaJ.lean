/- extended. -/
import Derived.Test.YtjjdgiondpnpcaaI
namespace Go.Proofs.Ytjjdgiondpnpcaa
open Go.RowKit

theorem keep2 {w : World} {g i k : Nat} {u v1 v2 : Value} (h : w.cell? ⟨g, i, none⟩ = some u) (hne : k ≠ g) : ((w.setCell ⟨k, 0, none⟩ v1).setCell ⟨k, 1, none⟩ v2).cell? ⟨g, i, none⟩ = some u :=
  (World.cell?_setCell_other _ _ _ _ (fun e => hne (congrArg Addr.block e))).trans ((World.cell?_setCell_other _ _ _ _ (fun e => hne (congrArg Addr.block e))).trans h)

set_option maxRecDepth 100000 in
set_option maxHeartbeats 2000000 in
theorem extended_any (n : Int) (A : Option Addr) (c : Nat) (gs : List (Int × Int)) (x y : Int) (w : World) (B : Nat) (hl : gs.length ≤ 1000000) (hg : Gr w B A gs) (hB : B ≤ w.heap.size) :
    Calls Try.prog 51 #[.agg #[.int .i64 n, .slice A gs.length c], .agg #[.int .i64 x, .int .i64 y]] w (GraphPost n (gs ++ [(x, y)]) w) := by
  have HL := Lib.hid hl
  clear hl
  go_enter Try.func51, Try.ntmps51
  go_wp2
  obtain ⟨W, hW⟩ : ∃ W, W = (((w.alloc (Obj.cells #[Value.int .i64 n, .slice A gs.length c] 26)).alloc (Obj.cells #[.int .i64 x, .int .i64 y] 44)).alloc (Obj.cells #[.int .i64 0, .slice none 0 0] 26)) := ⟨_, rfl⟩
  have hbw : Below w.heap.size w W := by rw [hW]; exact (((Below.refl w.heap.size w).alloc (Nat.le_refl _) _).alloc (by simp) _).alloc (by simp; omega) _
  have d0 : W.cell? ⟨w.heap.size, 0, none⟩ = some (.int .i64 n) := by rw [hW]; go_simp
  have d1 : W.cell? ⟨w.heap.size, 1, none⟩ = some (.slice A gs.length c) := by rw [hW]; go_simp
  have d2 : W.cell? ⟨w.heap.size + 1, 0, none⟩ = some (.int .i64 x) := by rw [hW]; go_simp
  have d3 : W.cell? ⟨w.heap.size + 1, 1, none⟩ = some (.int .i64 y) := by rw [hW]; go_simp
  have e0 : W.cell? ⟨w.heap.size + 1 + 1, 0, none⟩ = some (.int .i64 0) := by rw [hW]; go_simp
  have e1 : W.cell? ⟨w.heap.size + 1 + 1, 1, none⟩ = some (.slice none 0 0) := by rw [hW]; go_simp
  have f0 : W.frozen? ⟨w.heap.size + 1 + 1, 0, none⟩ = false := by rw [hW]; go_simp
  have f1 : W.frozen? ⟨w.heap.size + 1 + 1, 1, none⟩ = false := by rw [hW]; go_simp
  have hz : W.heap.size = w.heap.size + 3 := by rw [hW]; simp
  rw [← hW]
  clear hW
  have HZ := Lib.hid hz
  have hz0 : w.heap.size < W.heap.size := by omega
  have hz1 : w.heap.size + 1 < W.heap.size := by omega
  have hz2 : w.heap.size + 1 + 1 < W.heap.size := by omega
  have hn0 : w.heap.size + 1 + 1 ≠ w.heap.size := by omega
  have hn1 : w.heap.size + 1 + 1 ≠ w.heap.size + 1 := by omega
  clear hz
  have HU := Lib.hid (((Below.refl W.heap.size W).alloc (Nat.le_refl _) (Obj.cells #[.int .i64 x, .int .i64 y] 44)).alloc (by simp) (Obj.cells #[.slice A gs.length c, .slice (some ⟨W.heap.size, 0, none⟩) 1 1] 24))
  have hgx : Gr ((W.alloc (Obj.cells #[.int .i64 x, .int .i64 y] 44)).alloc (Obj.cells #[.slice A gs.length c, .slice (some ⟨W.heap.size, 0, none⟩) 1 1] 24)) (W.heap.size + 1) (some ⟨W.heap.size, 0, none⟩) [(x, y)] := by
    intro k hk
    have : k = 0 := by simpa using hk
    subst this
    exact ⟨W.heap.size, 0, rfl, by omega, by go_simp, by go_simp⟩
  have HC := Lib.hid (concat_any (W.heap.size + 1) A (some ⟨W.heap.size, 0, none⟩) c 1 gs [(x, y)] ((W.alloc (Obj.cells #[.int .i64 x, .int .i64 y] 44)).alloc (Obj.cells #[.slice A gs.length c, .slice (some ⟨W.heap.size, 0, none⟩) 1 1] 24)).drew (W.heap.size + 1)
    (by simp) (by go_simp) (by go_simp) HL.out (by simp) (by simp)
    (((hg.below hbw hB).below HU.out (Nat.le_trans hB hbw.size)).more (by omega)) hgx (by simp))
  have HB2 := Lib.hid (fun w2 (hb : Below ((W.alloc (Obj.cells #[.int .i64 x, .int .i64 y] 44)).alloc (Obj.cells #[.slice A gs.length c, .slice (some ⟨W.heap.size, 0, none⟩) 1 1] 24)).drew.heap.size ((W.alloc (Obj.cells #[.int .i64 x, .int .i64 y] 44)).alloc (Obj.cells #[.slice A gs.length c, .slice (some ⟨W.heap.size, 0, none⟩) 1 1] 24)).drew w2) => (show Below W.heap.size W w2 from HU.out.drew.trans (hb.mono HU.out.size)))
  go_region_held3 (fun W => W.cell? ⟨w.heap.size, 0, none⟩ = some (.int .i64 n) ∧ W.cell? ⟨w.heap.size, 1, none⟩ = some (.slice A gs.length c) ∧ W.cell? ⟨w.heap.size + 1, 0, none⟩ = some (.int .i64 x) ∧ W.cell? ⟨w.heap.size + 1, 1, none⟩ = some (.int .i64 y))
    (first | exact ⟨d0, d1, d2, d3⟩ | exact ⟨(hb.cell (p := ⟨w.heap.size, 0, none⟩) hz0).trans d0, (hb.cell (p := ⟨w.heap.size, 1, none⟩) hz0).trans d1, (hb.cell (p := ⟨w.heap.size + 1, 0, none⟩) hz1).trans d2, (hb.cell (p := ⟨w.heap.size + 1, 1, none⟩) hz1).trans d3⟩ | exact ⟨keep2 ((hb.cell (p := ⟨w.heap.size, 0, none⟩) hz0).trans d0) hn0, keep2 ((hb.cell (p := ⟨w.heap.size, 1, none⟩) hz0).trans d1) hn0, keep2 ((hb.cell (p := ⟨w.heap.size + 1, 0, none⟩) hz1).trans d2) hn1, keep2 ((hb.cell (p := ⟨w.heap.size + 1, 1, none⟩) hz1).trans d3) hn1⟩ | go_keep)
    (first | (go_at_call 60; refine HC.out.mono ?_; rintro e w2 ⟨A', c', rfl, hG, hsep, hb0⟩; have hb := HB2.out w2 hb0; have x0 := (hb.cell (p := ⟨w.heap.size + 1 + 1, 0, none⟩) hz2).trans e0; have x1 := (hb.cell (p := ⟨w.heap.size + 1 + 1, 1, none⟩) hz2).trans e1; have y0 := (hb.frozen (p := ⟨w.heap.size + 1 + 1, 0, none⟩) hz2).trans f0; have y1 := (hb.frozen (p := ⟨w.heap.size + 1 + 1, 1, none⟩) hz2).trans f1))
  go_wp2
  have hsep1 : Sep 0 W.heap.size A' := hsep.mono (Nat.le_refl _) HU.out.size
  have hne : ∀ ad, A' = some ad → ad.block ≠ w.heap.size + 1 + 1 := hsep1.ne (Nat.zero_le _) hz2
  have hbf : Below w.heap.size w ((w2.setCell ⟨w.heap.size + 1 + 1, 0, none⟩ (.int .i64 n)).setCell ⟨w.heap.size + 1 + 1, 1, none⟩ (.slice A' (gs.length + 1) c')) :=
    ((hbw.trans (hb.mono hbw.size)).setCell (by simp; omega) _).setCell (by simp; omega) _
  have r0 : ((w2.setCell ⟨w.heap.size + 1 + 1, 0, none⟩ (.int .i64 n)).setCell ⟨w.heap.size + 1 + 1, 1, none⟩ (.slice A' (gs.length + 1) c')).cell? ⟨w.heap.size + 1 + 1, 0, none⟩ = some (.int .i64 n) :=
    (World.cell?_setCell_other _ _ _ _ (by simp)).trans (World.cell?_setCell_same _ _ _ x0)
  have r1 : ((w2.setCell ⟨w.heap.size + 1 + 1, 0, none⟩ (.int .i64 n)).setCell ⟨w.heap.size + 1 + 1, 1, none⟩ (.slice A' (gs.length + 1) c')).cell? ⟨w.heap.size + 1 + 1, 1, none⟩ = some (.slice A' (gs.length + 1) c') :=
    World.cell?_setCell_same _ _ _ ((World.cell?_setCell_other _ _ _ _ (by simp)).trans x1)
  have hGf : Gr ((w2.setCell ⟨w.heap.size + 1 + 1, 0, none⟩ (.int .i64 n)).setCell ⟨w.heap.size + 1 + 1, 1, none⟩ (.slice A' (gs.length + 1) c')) w2.heap.size A' (gs ++ [(x, y)]) := (hG.set hne _).set hne _
  exact bodyPost_ret (v := .agg #[.int .i64 n, .slice A' (gs.length + 1) c']) (by simp only [results, Try.results51]; go_simp) rfl ⟨A', c', by simp, by simpa using hGf, hsep1.mono (Nat.le_refl _) hbw.size, hbf⟩
end Go.Proofs.Ytjjdgiondpnpcaa
