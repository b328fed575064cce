/- CircuitWide, walked. -/
import Derived.Test.YteabffdddlihnaaD20
namespace Go.Proofs.Yteabffdddlihnaa
open Go.RowKit

/-- A circuit of many inputs and two latches. -/
def wideC (h : Nat) (x : Int) : Cir := { n := x, aL := some ⟨h, 0, none⟩, cL := 2, ls := [(3, 0), (4, 0)], aG := none, cG := 0, gs := [], aO := none, cO := 0, os := [], aB := none, cB := 0, bs := [], aC := none, cC := 0, cs := [], aF := none, cF := 0, fs := [], aN := none, cN := 0, ns := [] }
theorem wideC_w (h : Nat) (x : Int) (h0 : 0 ≤ x) (h1 : x ≤ 100) : CirW (wideC h x) := by
  refine ⟨⟨by simp [wideC]; omega, by simp [wideC]; omega⟩, ?_, ?_, ?_, ?_, ?_, ?_, ?_, by simp [wideC], by simp [wideC], by simp [wideC, maxLen], by simp [wideC, maxLen], by simp [wideC, maxLen], by simp [wideC, maxLen], by simp [wideC]⟩
  · intro g hg
    simp [wideC] at hg
    rcases hg with rfl | rfl <;> simp
  all_goals
    intro g hg
    simp [wideC] at hg

set_option maxRecDepth 100000 in
set_option maxHeartbeats 8000000 in
theorem circuitWide_walk (a0 a1 a2 : Int) (w : World) (h0 : 0 ≤ a0) (h0' : a0 ≤ 255) (h1 : -9223372036854775808 ≤ a1) (h1' : a1 ≤ 9223372036854775807) (h2 : 0 ≤ a2) (h2' : a2 ≤ 255) :
    Calls Try.prog 6 #[.int .u8 a0, .int .i64 a1, .int .u8 a2] w fun e w' => e = .returned (.bool true) ∧ Below w.heap.size w w' := by
  have hx0 : 0 ≤ a0 % 20 := by omega
  have hx1 : a0 % 20 ≤ 19 := by omega
  obtain ⟨x, hx⟩ : ∃ x, x = 50 + a0 % 20 := ⟨_, rfl⟩
  have b1 := (Blk.new w 41 #[.int .i64 3, .int .i64 0, .int .i64 4, .int .i64 0]).alloc (Obj.cells #[.int .i64 (50 + a0 % 20), .slice (some ⟨w.heap.size, 0, none⟩) 2 2, .slice none 0 0, .slice none 0 0, .slice none 0 0, .slice none 0 0, .slice none 0 0, .slice none 0 0] 27)
  have b2 := Blk.new (w.alloc (Obj.cells #[.int .i64 3, .int .i64 0, .int .i64 4, .int .i64 0] 41)) 27 #[.int .i64 (50 + a0 % 20), .slice (some ⟨w.heap.size, 0, none⟩) 2 2, .slice none 0 0, .slice none 0 0, .slice none 0 0, .slice none 0 0, .slice none 0 0, .slice none 0 0]
  rw [heap_size_alloc] at b2
  have lo := (lowAlloc w (Obj.cells #[.int .i64 3, .int .i64 0, .int .i64 4, .int .i64 0] 41)).alloc (by simp) (Obj.cells #[.int .i64 (50 + a0 % 20), .slice (some ⟨w.heap.size, 0, none⟩) 2 2, .slice none 0 0, .slice none 0 0, .slice none 0 0, .slice none 0 0, .slice none 0 0, .slice none 0 0] 27)
  go_enter Try.func6, Try.ntmps6
  go_upto_region 2 with fail
  generalize (w.alloc (Obj.cells #[.int .i64 3, .int .i64 0, .int .i64 4, .int .i64 0] 41)).alloc (Obj.cells #[.int .i64 (50 + a0 % 20), .slice (some ⟨w.heap.size, 0, none⟩) 2 2, .slice none 0 0, .slice none 0 0, .slice none 0 0, .slice none 0 0, .slice none 0 0, .slice none 0 0] 27) = W at *
  go_wp2_with fail
  refine (awake4_any W).mono ?_
  rintro e w1 ⟨rfl, hb1⟩
  replace b1 := b1.below hb1 b1.lt
  replace b2 := b2.below hb1 b2.lt
  replace lo := lo.trans (hb1.mono lo.size)
  have HS : Hid (Calls Try.prog 9 #[.agg #[.int .i64 (50 + a0 % 20), .slice (some ⟨w.heap.size, 0, none⟩) 2 2, .slice none 0 0, .slice none 0 0, .slice none 0 0, .slice none 0 0, .slice none 0 0, .slice none 0 0], .int .u8 108, .int .i64 1, .string ⟨#[105, 52, 57]⟩, .int .i64 a1, .int .i64 a2] w1 fun e w' => e = .returned (.bool true) ∧ Below w1.heap.size w1 w') := by
    have hM : CirM w1 w1.heap.size (wideC w.heap.size (50 + a0 % 20)) := by
      refine ⟨?_, fun k hk => by simp [wideC] at hk, fun k hk => by simp [wideC] at hk, fun k hk => by simp [wideC] at hk, fun k hk => by simp [wideC] at hk, fun k hk => by simp [wideC] at hk, fun k hk => by simp [wideC] at hk⟩
      intro k hk
      have hk2 : k < 2 := by simpa [wideC] using hk
      match k, hk2 with
      | 0, _ => exact ⟨w.heap.size, 0, rfl, b1.lt, by simpa [wideC] using b1.cell 0, by simpa [wideC] using b1.cell 1⟩
      | 1, _ => exact ⟨w.heap.size, 0, rfl, b1.lt, by simpa [wideC] using b1.cell 2, by simpa [wideC] using b1.cell 3⟩
    exact same4_any (wideC w.heap.size (50 + a0 % 20)) 108 1 ⟨#[105, 52, 57]⟩ a1 a2 w1 hM (wideC_w _ _ (by omega) (by omega)) (by simp [wideC]) (by omega) (by omega) (by decide) ⟨h1, h1'⟩ ⟨by omega, by omega⟩ (by simp [wideC])
  have c0 := b2.cell 0; have c1 := b2.cell 1; have c2 := b2.cell 2; have c3 := b2.cell 3; have c4 := b2.cell 4; have c5 := b2.cell 5; have c6 := b2.cell 6; have c7 := b2.cell 7; simp only [List.getElem?_toArray, List.getElem?_cons_zero, List.getElem?_cons_succ] at c0 c1 c2 c3 c4 c5 c6 c7
  clear hb1 hx
  go_wp2_with fail
  refine HS.out.mono ?_
  rintro e w2 ⟨rfl, hb2⟩
  replace lo := lo.trans (hb2.mono lo.size)
  go_wp2
  go_ret
  exact ⟨rfl, lo⟩
end Go.Proofs.Yteabffdddlihnaa
