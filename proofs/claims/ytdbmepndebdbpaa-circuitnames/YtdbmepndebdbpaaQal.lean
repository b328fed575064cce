/- awake of layer 4. -/
import Derived.Test.YtdbmepndebdbpaaQak
import Derived.Test.YtdbmepndebdbpaaQad
import Derived.ChangeMaps5
import Derived.Deep.Fields
namespace Go.Proofs.Ytdbmepndebdbpaa
open Go.RowKit

theorem heap_size_alloc (w : World) (o : Obj) : (w.alloc o).heap.size = w.heap.size + 1 := by simp
/-- The circuit that awake asks about. -/
def awC (h : Nat) : Cir := { n := 1, aL := some ⟨h, 0, none⟩, cL := 1, ls := [(5, 0)], aG := none, cG := 0, gs := [], aO := some ⟨h + 1, 0, none⟩, cO := 1, os := [3], aB := none, cB := 0, bs := [], aC := none, cC := 0, cs := [], aF := none, cF := 0, fs := [], aN := some ⟨h + 1 + 1, 0, none⟩, cN := 1, ns := [(108, 0, ⟨#[113]⟩)] }
theorem ns_nil {w : World} {B : Nat} {A : Option Addr} : Ns w B A [] := fun k hk => by simp at hk
theorem awC_w (h : Nat) : CirW (awC h) := by
  refine ⟨by simp [awC, I64], ?_, ?_, ?_, ?_, ?_, ?_, ?_, by simp [awC], by simp [awC], by simp [awC, maxLen], by simp [awC, maxLen], by simp [awC, maxLen], by simp [awC, maxLen], by simp [awC]⟩
  · intro g hg
    simp [awC] at hg
    subst hg
    simp
  · intro g hg
    simp [awC] at hg
  · intro x hx
    simp [awC] at hx
    subst hx
    simp [I64]
  · intro x hx
    simp [awC] at hx
  · intro x hx
    simp [awC] at hx
  · intro x hx
    simp [awC] at hx
  · intro x hx
    simp [awC] at hx
    subst hx
    simp [I64, maxLen]
    decide
theorem awC_right (h : Nat) : Cm.rightC (awC h) = true := by
  have e1 : Cm.fitsB (awC h) = true := rfl
  have e2 : Gm.rightB ((awC h).n + (awC h).ls.length) (awC h).gs = true := by
    show Gm.rightB 2 [] = true
    decide
  have e3 : Cm.drivenB (awC h) = true := rfl
  have e4 : Cm.namedB (awC h) = true := by
    have o : Cm.ordS (awC h) 6 0 (awC h).ns = true := by
      show Cm.ordS (awC h) 6 0 [(108, 0, ⟨#[113]⟩)] = true
      rw [Cm.ordS_cons, if_neg (by decide), Cm.ordS_cons, if_pos (by decide), Cm.ordS_nil]
      rfl
    unfold Cm.namedB
    rw [o]
    rfl
  unfold Cm.rightC
  rw [e1, e2, e3, e4]
  rfl
theorem awC_step (h : Nat) : Cm.stepB (awC h) = true := by
  unfold Cm.stepB
  rw [awC_right]
  rfl
theorem awC_is (h : Nat) (st l : Int) : Cm.isS (awC h) st l = Em.evalB 2 [] l (bitsB st 2) := by
  unfold Cm.isS
  rw [awC_step]
  rfl
theorem awC_after (h : Nat) (st : Int) : Cm.afterS (awC h) st = if Em.evalB 2 [] 5 (bitsB st 2) = true then 2 else 0 := by
  unfold Cm.afterS
  rw [if_pos (awC_step h)]
  show ((Cm.aftS (awC h) st 1 : Nat) : Int) = _
  rw [Cm.aftS, Cm.aftS]
  show (((0 + if Cm.isS (awC h) st 5 = true then 2 else 0 : Nat)) : Int) = _
  rw [awC_is]
  split <;> rfl
theorem awC_sig0 (h : Nat) : Cm.signalS (awC h) 111 0 = 3 := by
  unfold Cm.signalS
  rw [if_pos (awC_right h)]
  rfl
theorem awC_sig1 (h : Nat) : Cm.signalS (awC h) 111 1 = -1 := by
  unfold Cm.signalS
  rw [if_pos (awC_right h)]
  rfl
theorem awC_find (h : Nat) : Cm.findS (awC h) ⟨#[113]⟩ = 4 := by
  unfold Cm.findS
  rw [if_pos (awC_right h)]
  rfl
theorem awC_find2 (h : Nat) : Cm.findS (awC h) ⟨#[108, 48]⟩ = 4 := by
  unfold Cm.findS
  rw [if_pos (awC_right h)]
  rfl
theorem awC_find3 (h : Nat) : Cm.findS (awC h) ⟨#[120]⟩ = -1 := by
  unfold Cm.findS
  rw [if_pos (awC_right h)]
  rfl

theorem field_graph (A : Option Addr) (n q : Nat) (x : Int) (w : World) : (Instr.field 43 (.agg #[.int .i64 x, .slice A n q]) 0).run Try.prog w = .ok (.int .i64 x) w := by kernel_rfl
set_option maxRecDepth 100000 in
set_option maxHeartbeats 8000000 in
theorem awake4_any (w : World) : Calls Try.prog 5 #[] w fun e w' => e = .returned (.bool true) ∧ Below w.heap.size w w' := by
  have b1 := Blk.new w 39 #[.int .i64 5, .int .i64 0]
  have b2 := Blk.new (w.alloc (Obj.cells #[.int .i64 5, .int .i64 0] 39)) 3 #[.int .i64 3]
  have b3 := Blk.new ((w.alloc (Obj.cells #[.int .i64 5, .int .i64 0] 39)).alloc (Obj.cells #[.int .i64 3] 3)) 32 #[.int .u8 108, .int .i64 0, .string ⟨#[113]⟩]
  have b4 := Blk.new (((w.alloc (Obj.cells #[.int .i64 5, .int .i64 0] 39)).alloc (Obj.cells #[.int .i64 3] 3)).alloc (Obj.cells #[.int .u8 108, .int .i64 0, .string ⟨#[113]⟩] 32)) 29 #[.int .i64 1, .slice (some ⟨w.heap.size, 0, none⟩) 1 1, .slice none 0 0, .slice (some ⟨w.heap.size + 1, 0, none⟩) 1 1, .slice none 0 0, .slice none 0 0, .slice none 0 0, .slice (some ⟨w.heap.size + 1 + 1, 0, none⟩) 1 1]
  replace b1 := ((b1.alloc (Obj.cells #[.int .i64 3] 3)).alloc (Obj.cells #[.int .u8 108, .int .i64 0, .string ⟨#[113]⟩] 32)).alloc (Obj.cells #[.int .i64 1, .slice (some ⟨w.heap.size, 0, none⟩) 1 1, .slice none 0 0, .slice (some ⟨w.heap.size + 1, 0, none⟩) 1 1, .slice none 0 0, .slice none 0 0, .slice none 0 0, .slice (some ⟨w.heap.size + 1 + 1, 0, none⟩) 1 1] 29)
  replace b2 := (b2.alloc (Obj.cells #[.int .u8 108, .int .i64 0, .string ⟨#[113]⟩] 32)).alloc (Obj.cells #[.int .i64 1, .slice (some ⟨w.heap.size, 0, none⟩) 1 1, .slice none 0 0, .slice (some ⟨w.heap.size + 1, 0, none⟩) 1 1, .slice none 0 0, .slice none 0 0, .slice none 0 0, .slice (some ⟨w.heap.size + 1 + 1, 0, none⟩) 1 1] 29)
  replace b3 := b3.alloc (Obj.cells #[.int .i64 1, .slice (some ⟨w.heap.size, 0, none⟩) 1 1, .slice none 0 0, .slice (some ⟨w.heap.size + 1, 0, none⟩) 1 1, .slice none 0 0, .slice none 0 0, .slice none 0 0, .slice (some ⟨w.heap.size + 1 + 1, 0, none⟩) 1 1] 29)
  have lo : Below w.heap.size w ((((w.alloc (Obj.cells #[.int .i64 5, .int .i64 0] 39)).alloc (Obj.cells #[.int .i64 3] 3)).alloc (Obj.cells #[.int .u8 108, .int .i64 0, .string ⟨#[113]⟩] 32)).alloc (Obj.cells #[.int .i64 1, .slice (some ⟨w.heap.size, 0, none⟩) 1 1, .slice none 0 0, .slice (some ⟨w.heap.size + 1, 0, none⟩) 1 1, .slice none 0 0, .slice none 0 0, .slice none 0 0, .slice (some ⟨w.heap.size + 1 + 1, 0, none⟩) 1 1] 29)) := (((lowAlloc w _).alloc (by simp) _).alloc (by simp; omega) _).alloc (by simp; omega) _
  simp only [heap_size_alloc] at b2 b3 b4
  obtain ⟨W4, hW4⟩ : ∃ W4, W4 = (((w.alloc (Obj.cells #[.int .i64 5, .int .i64 0] 39)).alloc (Obj.cells #[.int .i64 3] 3)).alloc (Obj.cells #[.int .u8 108, .int .i64 0, .string ⟨#[113]⟩] 32)).alloc (Obj.cells #[.int .i64 1, .slice (some ⟨w.heap.size, 0, none⟩) 1 1, .slice none 0 0, .slice (some ⟨w.heap.size + 1, 0, none⟩) 1 1, .slice none 0 0, .slice none 0 0, .slice none 0 0, .slice (some ⟨w.heap.size + 1 + 1, 0, none⟩) 1 1] 29) := ⟨_, rfl⟩
  rw [← hW4] at b1 b2 b3 b4 lo
  have HM : Hid (∀ V, Below W4.heap.size W4 V → CirM V V.heap.size (awC w.heap.size)) := by
    intro V hb
    have B1 := b1.below hb b1.lt
    have B2 := b2.below hb b2.lt
    have B3 := b3.below hb b3.lt
    refine ⟨?_, fun k hk => by simp [awC] at hk, ?_, fun k hk => by simp [awC] at hk, fun k hk => by simp [awC] at hk, fun k hk => by simp [awC] at hk, ?_⟩
    · intro k hk
      obtain rfl : k = 0 := by simpa [awC] using hk
      exact ⟨w.heap.size, 0, rfl, B1.lt, by simpa [awC] using B1.cell 0, by simpa [awC] using B1.cell 1⟩
    · intro k hk
      obtain rfl : k = 0 := by simpa [awC] using hk
      exact ⟨w.heap.size + 1, 0, rfl, B2.lt, by simpa [awC] using B2.cell 0⟩
    · intro k hk
      obtain rfl : k = 0 := by simpa [awC] using hk
      exact ⟨w.heap.size + 1 + 1, 0, rfl, B3.lt, by simpa [awC] using B3.cell 0, by simpa [awC] using B3.cell 1, by simpa [awC] using B3.cell 2⟩
  have H0 : Hid (∀ V, Below W4.heap.size W4 V → Calls Try.prog 11 #[.agg #[.int .i64 1, .slice (some ⟨w.heap.size, 0, none⟩) 1 1, .slice none 0 0, .slice (some ⟨w.heap.size + 1, 0, none⟩) 1 1, .slice none 0 0, .slice none 0 0, .slice none 0 0, .slice (some ⟨w.heap.size + 1 + 1, 0, none⟩) 1 1]] V fun e w' => e = .returned (.bool true) ∧ Below V.heap.size V w') := fun V hb => by
    have h := Right4_any (awC w.heap.size) V (HM.out V hb) (awC_w _) (by simp [awC])
    rw [awC_right] at h
    exact h
  have H1 : Hid (∀ V, Below W4.heap.size W4 V → Calls Try.prog 12 #[.agg #[.int .i64 1, .slice (some ⟨w.heap.size, 0, none⟩) 1 1, .slice none 0 0, .slice (some ⟨w.heap.size + 1, 0, none⟩) 1 1, .slice none 0 0, .slice none 0 0, .slice none 0 0, .slice (some ⟨w.heap.size + 1 + 1, 0, none⟩) 1 1]] V (OfPost 2 [] V)) := fun V hb => by
    have h := Of_any (awC w.heap.size) V (HM.out V hb) (awC_w _)
    rw [show wrap64 ((awC w.heap.size).n + ((awC w.heap.size).ls.length : Int)) = 2 from (by show wrap64 2 = 2; unfold wrap64; omega)] at h
    exact h
  have H2 : Hid (∀ V, Below W4.heap.size W4 V → Calls Try.prog 7 #[.agg #[.int .i64 1, .slice (some ⟨w.heap.size, 0, none⟩) 1 1, .slice none 0 0, .slice (some ⟨w.heap.size + 1, 0, none⟩) 1 1, .slice none 0 0, .slice none 0 0, .slice none 0 0, .slice (some ⟨w.heap.size + 1 + 1, 0, none⟩) 1 1], .int .u8 111, .int .i64 0] V fun e w' => e = .returned (.int .i64 3) ∧ Below V.heap.size V w') := fun V hb => by
    have h := Signal_any (awC w.heap.size) 111 0 V (HM.out V hb) (awC_w _) (by simp [awC]) (by omega) (by omega)
    rw [awC_sig0] at h
    exact h
  have H3 : Hid (∀ V, Below W4.heap.size W4 V → Calls Try.prog 7 #[.agg #[.int .i64 1, .slice (some ⟨w.heap.size, 0, none⟩) 1 1, .slice none 0 0, .slice (some ⟨w.heap.size + 1, 0, none⟩) 1 1, .slice none 0 0, .slice none 0 0, .slice none 0 0, .slice (some ⟨w.heap.size + 1 + 1, 0, none⟩) 1 1], .int .u8 111, .int .i64 1] V fun e w' => e = .returned (.int .i64 (-1)) ∧ Below V.heap.size V w') := fun V hb => by
    have h := Signal_any (awC w.heap.size) 111 1 V (HM.out V hb) (awC_w _) (by simp [awC]) (by omega) (by omega)
    rw [awC_sig1] at h
    exact h
  have H4 : Hid (∀ V, Below W4.heap.size W4 V → Calls Try.prog 8 #[.agg #[.int .i64 1, .slice (some ⟨w.heap.size, 0, none⟩) 1 1, .slice none 0 0, .slice (some ⟨w.heap.size + 1, 0, none⟩) 1 1, .slice none 0 0, .slice none 0 0, .slice none 0 0, .slice (some ⟨w.heap.size + 1 + 1, 0, none⟩) 1 1], .string ⟨#[113]⟩] V fun e w' => e = .returned (.int .i64 4) ∧ Below V.heap.size V w') := fun V hb => by
    have h := Find_any (awC w.heap.size) ⟨#[113]⟩ V (HM.out V hb) (awC_w _) (by simp [awC]) (by decide)
    rw [awC_find] at h
    exact h
  have H5 : Hid (∀ V, Below W4.heap.size W4 V → Calls Try.prog 8 #[.agg #[.int .i64 1, .slice (some ⟨w.heap.size, 0, none⟩) 1 1, .slice none 0 0, .slice (some ⟨w.heap.size + 1, 0, none⟩) 1 1, .slice none 0 0, .slice none 0 0, .slice none 0 0, .slice (some ⟨w.heap.size + 1 + 1, 0, none⟩) 1 1], .string ⟨#[108, 48]⟩] V fun e w' => e = .returned (.int .i64 4) ∧ Below V.heap.size V w') := fun V hb => by
    have h := Find_any (awC w.heap.size) ⟨#[108, 48]⟩ V (HM.out V hb) (awC_w _) (by simp [awC]) (by decide)
    rw [awC_find2] at h
    exact h
  have H6 : Hid (∀ V, Below W4.heap.size W4 V → Calls Try.prog 8 #[.agg #[.int .i64 1, .slice (some ⟨w.heap.size, 0, none⟩) 1 1, .slice none 0 0, .slice (some ⟨w.heap.size + 1, 0, none⟩) 1 1, .slice none 0 0, .slice none 0 0, .slice none 0 0, .slice (some ⟨w.heap.size + 1 + 1, 0, none⟩) 1 1], .string ⟨#[120]⟩] V fun e w' => e = .returned (.int .i64 (-1)) ∧ Below V.heap.size V w') := fun V hb => by
    have h := Find_any (awC w.heap.size) ⟨#[120]⟩ V (HM.out V hb) (awC_w _) (by simp [awC]) (by decide)
    rw [awC_find3] at h
    exact h
  have H7 : Hid (∀ V, Below W4.heap.size W4 V → Calls Try.prog 10 #[.agg #[.int .i64 1, .slice (some ⟨w.heap.size, 0, none⟩) 1 1, .slice none 0 0, .slice (some ⟨w.heap.size + 1, 0, none⟩) 1 1, .slice none 0 0, .slice none 0 0, .slice none 0 0, .slice (some ⟨w.heap.size + 1 + 1, 0, none⟩) 1 1], .int .i64 1, .int .i64 2] V fun e w' => e = .returned (.bool true) ∧ Below V.heap.size V w') := fun V hb => by
    have h := Is_any (awC w.heap.size) 1 2 V (HM.out V hb) (awC_w _) (by simp [awC]) (by simp [I64]) (by simp [awC])
    rw [awC_is, show Em.evalB 2 [] 2 (bitsB 1 2) = true by decide] at h
    exact h
  have H8 : Hid (∀ V, Below W4.heap.size W4 V → Calls Try.prog 9 #[.agg #[.int .i64 1, .slice (some ⟨w.heap.size, 0, none⟩) 1 1, .slice none 0 0, .slice (some ⟨w.heap.size + 1, 0, none⟩) 1 1, .slice none 0 0, .slice none 0 0, .slice none 0 0, .slice (some ⟨w.heap.size + 1 + 1, 0, none⟩) 1 1], .int .i64 1] V fun e w' => e = .returned (.int .i64 2) ∧ Below V.heap.size V w') := fun V hb => by
    have h := After_any (awC w.heap.size) 1 V (HM.out V hb) (awC_w _) (by simp [awC]) (by simp [I64]) (by simp [awC])
    rw [awC_after, if_pos (show Em.evalB 2 [] 5 (bitsB 1 2) = true by decide)] at h
    exact h
  have H9 : Hid (∀ V, Below W4.heap.size W4 V → Calls Try.prog 9 #[.agg #[.int .i64 1, .slice (some ⟨w.heap.size, 0, none⟩) 1 1, .slice none 0 0, .slice (some ⟨w.heap.size + 1, 0, none⟩) 1 1, .slice none 0 0, .slice none 0 0, .slice none 0 0, .slice (some ⟨w.heap.size + 1 + 1, 0, none⟩) 1 1], .int .i64 2] V fun e w' => e = .returned (.int .i64 0) ∧ Below V.heap.size V w') := fun V hb => by
    have h := After_any (awC w.heap.size) 2 V (HM.out V hb) (awC_w _) (by simp [awC]) (by simp [I64]) (by simp [awC])
    rw [awC_after, if_neg (show ¬ Em.evalB 2 [] 5 (bitsB 2 2) = true by decide)] at h
    exact h
  have lx := Below.refl W4.heap.size W4
  have hfd := field_graph
  go_enter Try.func5, Try.ntmps5
  go_upto_region 2 with fail
  rw [← hW4]
  clear hW4 b1 b2 b3 HM
  have c0 := b4.cell 0; have c1 := b4.cell 1; have c2 := b4.cell 2; have c3 := b4.cell 3; have c4 := b4.cell 4; have c5 := b4.cell 5; have c6 := b4.cell 6; have c7 := b4.cell 7; simp only [List.getElem?_toArray, List.getElem?_cons_zero, List.getElem?_cons_succ] at c0 c1 c2 c3 c4 c5 c6 c7
  go_wp2_with fail
  refine (H0.out _ lx).mono ?_
  rintro e w5 ⟨rfl, hb⟩
  replace lx := lx.trans (hb.mono lx.size)
  replace b4 := b4.below hb b4.lt
  clear c0 c1 c2 c3 c4 c5 c6 c7
  clear hb H0
  have c0 := b4.cell 0; have c1 := b4.cell 1; have c2 := b4.cell 2; have c3 := b4.cell 3; have c4 := b4.cell 4; have c5 := b4.cell 5; have c6 := b4.cell 6; have c7 := b4.cell 7; simp only [List.getElem?_toArray, List.getElem?_cons_zero, List.getElem?_cons_succ] at c0 c1 c2 c3 c4 c5 c6 c7
  go_wp2_with fail
  refine (H1.out _ lx).mono ?_
  rintro e w6 ⟨A', q', rfl, _, hb⟩
  replace lx := lx.trans (hb.mono lx.size)
  replace b4 := b4.below hb b4.lt
  clear c0 c1 c2 c3 c4 c5 c6 c7
  clear hb H1
  have c0 := b4.cell 0; have c1 := b4.cell 1; have c2 := b4.cell 2; have c3 := b4.cell 3; have c4 := b4.cell 4; have c5 := b4.cell 5; have c6 := b4.cell 6; have c7 := b4.cell 7; simp only [List.getElem?_toArray, List.getElem?_cons_zero, List.getElem?_cons_succ] at c0 c1 c2 c3 c4 c5 c6 c7
  go_wp2_with fail
  refine (H2.out _ lx).mono ?_
  rintro e w7 ⟨rfl, hb⟩
  replace lx := lx.trans (hb.mono lx.size)
  replace b4 := b4.below hb b4.lt
  clear c0 c1 c2 c3 c4 c5 c6 c7
  clear hb H2
  have c0 := b4.cell 0; have c1 := b4.cell 1; have c2 := b4.cell 2; have c3 := b4.cell 3; have c4 := b4.cell 4; have c5 := b4.cell 5; have c6 := b4.cell 6; have c7 := b4.cell 7; simp only [List.getElem?_toArray, List.getElem?_cons_zero, List.getElem?_cons_succ] at c0 c1 c2 c3 c4 c5 c6 c7
  go_wp2_with fail
  refine (H3.out _ lx).mono ?_
  rintro e w8 ⟨rfl, hb⟩
  replace lx := lx.trans (hb.mono lx.size)
  replace b4 := b4.below hb b4.lt
  clear c0 c1 c2 c3 c4 c5 c6 c7
  clear hb H3
  have c0 := b4.cell 0; have c1 := b4.cell 1; have c2 := b4.cell 2; have c3 := b4.cell 3; have c4 := b4.cell 4; have c5 := b4.cell 5; have c6 := b4.cell 6; have c7 := b4.cell 7; simp only [List.getElem?_toArray, List.getElem?_cons_zero, List.getElem?_cons_succ] at c0 c1 c2 c3 c4 c5 c6 c7
  go_wp2_with fail
  refine (H4.out _ lx).mono ?_
  rintro e w9 ⟨rfl, hb⟩
  replace lx := lx.trans (hb.mono lx.size)
  replace b4 := b4.below hb b4.lt
  clear c0 c1 c2 c3 c4 c5 c6 c7
  clear hb H4
  have c0 := b4.cell 0; have c1 := b4.cell 1; have c2 := b4.cell 2; have c3 := b4.cell 3; have c4 := b4.cell 4; have c5 := b4.cell 5; have c6 := b4.cell 6; have c7 := b4.cell 7; simp only [List.getElem?_toArray, List.getElem?_cons_zero, List.getElem?_cons_succ] at c0 c1 c2 c3 c4 c5 c6 c7
  go_wp2_with fail
  refine (H5.out _ lx).mono ?_
  rintro e w10 ⟨rfl, hb⟩
  replace lx := lx.trans (hb.mono lx.size)
  replace b4 := b4.below hb b4.lt
  clear c0 c1 c2 c3 c4 c5 c6 c7
  clear hb H5
  have c0 := b4.cell 0; have c1 := b4.cell 1; have c2 := b4.cell 2; have c3 := b4.cell 3; have c4 := b4.cell 4; have c5 := b4.cell 5; have c6 := b4.cell 6; have c7 := b4.cell 7; simp only [List.getElem?_toArray, List.getElem?_cons_zero, List.getElem?_cons_succ] at c0 c1 c2 c3 c4 c5 c6 c7
  go_wp2_with fail
  refine (H6.out _ lx).mono ?_
  rintro e w11 ⟨rfl, hb⟩
  replace lx := lx.trans (hb.mono lx.size)
  replace b4 := b4.below hb b4.lt
  clear c0 c1 c2 c3 c4 c5 c6 c7
  clear hb H6
  have c0 := b4.cell 0; have c1 := b4.cell 1; have c2 := b4.cell 2; have c3 := b4.cell 3; have c4 := b4.cell 4; have c5 := b4.cell 5; have c6 := b4.cell 6; have c7 := b4.cell 7; simp only [List.getElem?_toArray, List.getElem?_cons_zero, List.getElem?_cons_succ] at c0 c1 c2 c3 c4 c5 c6 c7
  go_wp2_with fail
  refine (H7.out _ lx).mono ?_
  rintro e w12 ⟨rfl, hb⟩
  replace lx := lx.trans (hb.mono lx.size)
  replace b4 := b4.below hb b4.lt
  clear c0 c1 c2 c3 c4 c5 c6 c7
  clear hb H7
  have c0 := b4.cell 0; have c1 := b4.cell 1; have c2 := b4.cell 2; have c3 := b4.cell 3; have c4 := b4.cell 4; have c5 := b4.cell 5; have c6 := b4.cell 6; have c7 := b4.cell 7; simp only [List.getElem?_toArray, List.getElem?_cons_zero, List.getElem?_cons_succ] at c0 c1 c2 c3 c4 c5 c6 c7
  go_wp2_with fail
  refine (H8.out _ lx).mono ?_
  rintro e w13 ⟨rfl, hb⟩
  replace lx := lx.trans (hb.mono lx.size)
  replace b4 := b4.below hb b4.lt
  clear c0 c1 c2 c3 c4 c5 c6 c7
  clear hb H8
  have c0 := b4.cell 0; have c1 := b4.cell 1; have c2 := b4.cell 2; have c3 := b4.cell 3; have c4 := b4.cell 4; have c5 := b4.cell 5; have c6 := b4.cell 6; have c7 := b4.cell 7; simp only [List.getElem?_toArray, List.getElem?_cons_zero, List.getElem?_cons_succ] at c0 c1 c2 c3 c4 c5 c6 c7
  go_wp2_with fail
  refine (H9.out _ lx).mono ?_
  rintro e w14 ⟨rfl, hb⟩
  replace lx := lx.trans (hb.mono lx.size)
  replace b4 := b4.below hb b4.lt
  clear c0 c1 c2 c3 c4 c5 c6 c7
  clear hb H9
  go_wp2
  go_ret
  exact ⟨rfl, lo.trans (lx.mono lo.size)⟩
end Go.Proofs.Ytdbmepndebdbpaa
/- The reference of layer 4: Of, rank, many, Word, Number, lits. -/
namespace Go.Proofs.Ytdbmepndebdbpaa
open Go.RowKit

namespace Cm
/-- Which kind of signals a number is; below 0: none. -/
def rankS (k : Int) : Int := if k = 105 then 0 else if k = 108 then 1 else if k = 111 then 2 else if k = 98 then 3 else if k = 99 then 4 else if k = 102 then 5 else -1
theorem rank_at (j : Nat) (h : j < 6) : rankS (kindAt j) = j := by
  match j, h with
  | 0, _ => rfl
  | 1, _ => rfl
  | 2, _ => rfl
  | 3, _ => rfl
  | 4, _ => rfl
  | 5, _ => rfl
theorem rank_none (k : Int) (h : ∀ j, j < 6 → kindAt j ≠ k) : rankS k = -1 := by
  have h0 := h 0 (by omega)
  have h1 := h 1 (by omega)
  have h2 := h 2 (by omega)
  have h3 := h 3 (by omega)
  have h4 := h 4 (by omega)
  have h5 := h 5 (by omega)
  simp only [kindAt, List.getD_cons_zero, List.getD_cons_succ] at h0 h1 h2 h3 h4 h5
  unfold rankS
  rw [if_neg (Ne.symm h0), if_neg (Ne.symm h1), if_neg (Ne.symm h2), if_neg (Ne.symm h3), if_neg (Ne.symm h4), if_neg (Ne.symm h5)]
end Cm
theorem index_kinds (i : Nat) (h : i < 6) (w : World) : (Instr.index 9 (.string ⟨#[105, 108, 111, 98, 99, 102]⟩) (.int .i64 (i : Int))).run Try.prog w = .ok (.int .u8 (Cm.kindAt i)) w := by
  rw [show (⟨#[105, 108, 111, 98, 99, 102]⟩ : ByteArray) = Cm.kinds from rfl, index_str Cm.kinds i h w]
  match i, h with
  | 0, _ => rfl
  | 1, _ => rfl
  | 2, _ => rfl
  | 3, _ => rfl
  | 4, _ => rfl
  | 5, _ => rfl

theorem ixI2 (sb off N c r : Nat) (hm : N ≤ 9223372036854775807) (hr : r < N) (w : World) : (Instr.indexAt 26 (.slice (some ⟨sb, off, none⟩) N c) (.int .i64 (r : Int))).run Try.prog w = .ok (.pointer (some ⟨sb, off + r, none⟩)) w := by go_simp
/-- What the reference's Number answers. -/
def refNum (t : ByteArray) : Int := match Cm.digS t with | some n => (n : Int) | none => -1
end Go.Proofs.Ytdbmepndebdbpaa
/- The reference's names. -/
namespace Go.Proofs.Ytdbmepndebdbpaa
open Go.RowKit

namespace Cm
def prevB (c : Cir) (i : Nat) (x : Nm) : Bool := match i with
  | 0 => true
  | j + 1 => match c.ns[j]? with
    | none => true
    | some y => !(decide (rankS x.1 < rankS y.1) || (decide (rankS y.1 = rankS x.1) && decide (x.2.1 ≤ y.2.1)))
def nmOk (c : Cir) (i : Nat) : Bool := match c.ns[i]? with
  | none => true
  | some x => wordB x.2.2 && decide (0 ≤ x.2.1) && decide (x.2.1 < numS c x.1) && decide (x.2.2 ∉ texts (c.ns.take i)) && prevB c i x
def namesB (c : Cir) : Bool := (List.range c.ns.length).all (nmOk c)
end Cm
theorem ixN (sb off N c r : Nat) (hm : N ≤ 1000000) (hr : r < N) (w : World) : (Instr.indexAt 27 (.slice (some ⟨sb, off, none⟩) N c) (.int .i64 (r : Int))).run Try.prog w = .ok (.pointer (some ⟨sb, off + r * 3, none⟩)) w := by go_simp

end Go.Proofs.Ytdbmepndebdbpaa
/- The names, as the program and as the reference look at them: the same. -/
namespace Go.Proofs.Ytdbmepndebdbpaa
open Go.RowKit
namespace Cm

def OkAt (c : Cir) (x : Nm) : Prop := 0 ≤ x.2.1 ∧ x.2.1 < numS c x.1
def Lt2 (y x : Nm) : Prop := rankS y.1 ≤ rankS x.1 ∧ (rankS y.1 = rankS x.1 → y.2.1 < x.2.1)
def Ch (c : Cir) : List Nm → Prop
  | [] => True
  | [x] => OkAt c x
  | x :: y :: l => OkAt c x ∧ Lt2 x y ∧ Ch c (y :: l)
theorem rank_le (k : Int) : rankS k ≤ 5 := by
  unfold rankS
  repeat' split
  all_goals omega
theorem rank_eq (k : Int) (j : Nat) (hj : j < 6) (h : rankS k = j) : k = kindAt j := by
  by_cases hh : ∃ i, i < 6 ∧ kindAt i = k
  · obtain ⟨i, hi, rfl⟩ := hh
    rw [rank_at i hi] at h
    have : i = j := by omega
    rw [this]
  · have := rank_none k (fun i hi e => hh ⟨i, hi, e⟩)
    omega
theorem ok_rank {c : Cir} {x : Nm} (h : OkAt c x) : 0 ≤ rankS x.1 := by
  by_cases hh : ∃ i, i < 6 ∧ kindAt i = x.1
  · obtain ⟨i, hi, e⟩ := hh
    rw [← e, rank_at i hi]
    omega
  · have hn : ∀ j, j < 6 → kindAt j ≠ x.1 := fun i hi e => hh ⟨i, hi, e⟩
    have h0 := hn 0 (by omega)
    have h1 := hn 1 (by omega)
    have h2 := hn 2 (by omega)
    have h3 := hn 3 (by omega)
    have h4 := hn 4 (by omega)
    have h5 := hn 5 (by omega)
    simp only [kindAt, List.getD_cons_zero, List.getD_cons_succ] at h0 h1 h2 h3 h4 h5
    have hz : numS c x.1 = 0 := by
      unfold numS lstS
      rw [if_neg (Ne.symm h0), if_neg (Ne.symm h1), if_neg (Ne.symm h2), if_neg (Ne.symm h3), if_neg (Ne.symm h4), if_neg (Ne.symm h5)]
      rfl
    have := h.1
    have := h.2
    omega
def Hd (f : Nat) (z : Int) : List Nm → Prop
  | [] => True
  | x :: _ => 6 - (f : Int) ≤ rankS x.1 ∧ (rankS x.1 = 6 - (f : Int) → z ≤ x.2.1)
theorem Ch.cons {c : Cir} {x : Nm} {l : List Nm} : Ch c (x :: l) ↔ OkAt c x ∧ Hd 6 0 l ∧ (match l with | [] => True | y :: _ => Lt2 x y) ∧ Ch c l := by
  cases l with
  | nil => simp [Ch, Hd]
  | cons y t =>
    simp only [Ch, Hd]
    constructor
    · rintro ⟨h1, h2, h3⟩
      have : OkAt c y := by
        cases t with
        | nil => exact h3
        | cons u v => exact h3.1
      exact ⟨h1, ⟨by have := ok_rank this; omega, fun _ => this.1⟩, h2, h3⟩
    · rintro ⟨h1, _, h2, h3⟩
      exact ⟨h1, h2, h3⟩
theorem Ch.ok {c : Cir} {x : Nm} {l : List Nm} (h : Ch c (x :: l)) : OkAt c x := (Ch.cons.1 h).1
theorem ord_ch (c : Cir) : ∀ (f : Nat) (l : List Nm) (z : Int), f ≤ 6 → 0 ≤ z → (ordS c f z l = true ↔ Hd f z l ∧ Ch c l) := by
  intro f
  induction f with
  | zero =>
    intro l z _ hz
    cases l with
    | nil => simp [ordS_nil, Hd, Ch]
    | cons x t =>
      rw [ordS_none]
      simp only [Hd]
      have := rank_le x.1
      constructor
      · intro h; cases h
      · rintro ⟨⟨h, _⟩, _⟩
        omega
  | succ f ih =>
    intro l
    induction l with
    | nil => intro z _ _; simp [ordS_nil, Hd, Ch]
    | cons x t iht =>
      intro z hf hz
      rw [ordS_cons]
      have hk : (6 : Int) - ((f + 1 : Nat) : Int) = ((5 - f : Nat) : Int) := by omega
      by_cases hx : x.1 = kindAt (5 - f)
      · rw [if_pos hx]
        have hr : rankS x.1 = ((5 - f : Nat) : Int) := by rw [hx]; exact rank_at _ (by omega)
        simp only [Bool.and_eq_true, decide_eq_true_eq]
        constructor
        · rintro ⟨⟨h1, h2⟩, h3⟩
          rw [iht (x.2.1 + 1) hf (by omega)] at h3
          refine ⟨⟨by omega, fun _ => h1⟩, ?_⟩
          cases t with
          | nil => exact ⟨by omega, h2⟩
          | cons y u =>
            refine ⟨⟨by omega, h2⟩, ?_, h3.2⟩
            have := h3.1
            simp only [Hd] at this
            refine ⟨by omega, fun e => ?_⟩
            have := this.2 (by omega)
            omega
        · rintro ⟨⟨h1, h2⟩, h3⟩
          have hok := h3.ok
          refine ⟨⟨h2 (by omega), hok.2⟩, (iht (x.2.1 + 1) hf (by have := hok.1; omega)).2 ?_⟩
          cases t with
          | nil => exact ⟨trivial, trivial⟩
          | cons y u =>
            obtain ⟨_, hlt, hch⟩ := h3
            refine ⟨⟨by have := hlt.1; omega, fun e => ?_⟩, hch⟩
            have := hlt.2 (by omega)
            omega
      · rw [if_neg hx, ih (x :: t) 0 (by omega) (by omega)]
        have hne : rankS x.1 ≠ ((5 - f : Nat) : Int) := fun e => hx (rank_eq _ _ (by omega) e)
        simp only [Hd]
        constructor
        · rintro ⟨⟨h1, _⟩, h3⟩
          exact ⟨⟨by omega, fun e => absurd (e.trans hk) hne⟩, h3⟩
        · rintro ⟨⟨h1, _⟩, h3⟩
          exact ⟨⟨by omega, fun _ => h3.ok.1⟩, h3⟩
theorem ord_iff (c : Cir) (l : List Nm) : ordS c 6 0 l = true ↔ Ch c l := by
  rw [ord_ch c 6 l 0 (by omega) (by omega)]
  constructor
  · exact fun h => h.2
  · intro h
    refine ⟨?_, h⟩
    cases l with
    | nil => trivial
    | cons x t => exact ⟨by have := ok_rank h.ok; omega, fun _ => h.ok.1⟩
theorem ch_iff (c : Cir) (l : List Nm) : Ch c l ↔ (∀ i (h : i < l.length), OkAt c l[i]) ∧ ∀ j (h : j + 1 < l.length), Lt2 l[j] l[j + 1] := by
  induction l with
  | nil => simp [Ch]
  | cons x t ih =>
    cases t with
    | nil =>
      simp only [Ch]
      constructor
      · intro h
        refine ⟨fun i hi => ?_, fun j hj => by simp at hj⟩
        have : i = 0 := by simpa using hi
        subst this
        exact h
      · intro h
        exact h.1 0 (by simp)
    | cons y u =>
      rw [show Ch c (x :: y :: u) = (OkAt c x ∧ Lt2 x y ∧ Ch c (y :: u)) from rfl, ih]
      constructor
      · rintro ⟨h1, h2, h3, h4⟩
        refine ⟨fun i hi => ?_, fun j hj => ?_⟩
        · cases i with
          | zero => exact h1
          | succ i => exact h3 i (by simpa using hi)
        · cases j with
          | zero => exact h2
          | succ j => exact h4 j (by simpa using hj)
      · rintro ⟨h1, h2⟩
        exact ⟨h1 0 (by simp), h2 0 (by simp), fun i hi => h1 (i + 1) (by simpa using hi), fun j hj => h2 (j + 1) (by simpa using hj)⟩
theorem nodup_iff (ts : List ByteArray) : ts.Nodup ↔ ∀ i (h : i < ts.length), ts[i] ∉ ts.take i := by
  have key : ∀ k, k ≤ ts.length → ((ts.take k).Nodup ↔ ∀ i (h : i < ts.length), i < k → ts[i] ∉ ts.take i) := by
    intro k
    induction k with
    | zero => intro _; simp
    | succ k ih =>
      intro hk
      have hk' : k < ts.length := by omega
      have hn : (ts.take (k + 1)).Nodup ↔ (ts.take k).Nodup ∧ ts[k] ∉ ts.take k := by
        rw [List.take_succ_eq_append_getElem hk', List.nodup_append]
        constructor
        · rintro ⟨h1, _, h3⟩
          exact ⟨h1, fun hm => h3 _ hm _ (by simp) rfl⟩
        · rintro ⟨h1, h2⟩
          refine ⟨h1, by simp, ?_⟩
          intro a ha b hb
          simp at hb
          subst hb
          intro e
          subst e
          exact h2 ha
      rw [hn, ih (by omega)]
      constructor
      · rintro ⟨h1, h2⟩ i hi hik
        by_cases e : i = k
        · subst e; exact h2
        · exact h1 i hi (by omega)
      · intro h
        exact ⟨fun i hi hik => h i hi (by omega), h k hk' (by omega)⟩
  have := key ts.length (Nat.le_refl _)
  rw [List.take_length] at this
  rw [this]
  exact ⟨fun h i hi => h i hi hi, fun h i hi _ => h i hi⟩
theorem names_same (c : Cir) : namesB c = namedB c := by
  rw [Bool.eq_iff_iff]
  unfold namesB namedB
  simp only [List.all_eq_true, List.mem_range, Bool.and_eq_true, decide_eq_true_eq]
  rw [ord_iff, ch_iff, nodup_iff]
  have hnm : ∀ i (h : i < c.ns.length), nmOk c i = true ↔ (wordB c.ns[i].2.2 = true ∧ OkAt c c.ns[i] ∧ c.ns[i].2.2 ∉ texts (c.ns.take i) ∧ prevB c i c.ns[i] = true) := by
    intro i h
    have e0 : c.ns[i]? = some c.ns[i] := by simp [h]
    unfold nmOk
    rw [e0]
    simp only [Bool.and_eq_true, decide_eq_true_eq, OkAt]
    constructor
    · rintro ⟨⟨⟨⟨h1, h2⟩, h3⟩, h4⟩, h5⟩
      exact ⟨h1, ⟨h2, h3⟩, h4, h5⟩
    · rintro ⟨h1, ⟨h2, h3⟩, h4, h5⟩
      exact ⟨⟨⟨⟨h1, h2⟩, h3⟩, h4⟩, h5⟩
  have hpv : ∀ j (h : j + 1 < c.ns.length), prevB c (j + 1) c.ns[j + 1] = true ↔ Lt2 c.ns[j] c.ns[j + 1] := by
    intro j h
    have e0 : c.ns[j]? = some c.ns[j] := by simp [show j < c.ns.length by omega]
    unfold prevB
    simp only [e0]
    simp only [Bool.not_eq_true', Bool.or_eq_false_iff, Bool.and_eq_false_iff, decide_eq_false_iff_not, Lt2]
    omega
  constructor
  · intro h
    refine ⟨⟨⟨fun i hi => ((hnm i hi).1 (h i hi)).2.1, fun j hj => (hpv j hj).1 ((hnm _ hj).1 (h _ hj)).2.2.2⟩, fun x hx => ?_⟩, fun i hi => ?_⟩
    · obtain ⟨i, hi, rfl⟩ := List.mem_iff_getElem.1 hx
      exact ((hnm i hi).1 (h i hi)).1
    · have hi' : i < c.ns.length := by simpa [texts] using hi
      have := ((hnm i hi').1 (h i hi')).2.2.1
      simpa [texts, List.map_take] using this
  · rintro ⟨⟨⟨h1, h2⟩, h3⟩, h4⟩ i hi
    rw [hnm i hi]
    refine ⟨h3 _ (by simp), h1 i hi, ?_, ?_⟩
    · have := h4 i (by simpa [texts] using hi)
      simpa [texts, List.map_take] using this
    · cases i with
      | zero => rfl
      | succ j => exact (hpv j hi).2 (h2 j hi)
end Cm
end Go.Proofs.Ytdbmepndebdbpaa
/- The reference's Right. -/
namespace Go.Proofs.Ytdbmepndebdbpaa
open Go.RowKit
namespace Cm
def litsB (N : Int) (l : Nat) (xs : List Int) : Bool := xs.all (Gm.litB N l) && decide (xs.length ≤ 2000)
theorem right_split (c : Cir) : rightC c = (decide (0 ≤ c.n) && (decide (c.n ≤ 2000) && (decide (c.ls.length ≤ 2000) && (Gm.rightB (c.n + c.ls.length) c.gs && (c.ls.all (latB (c.n + c.ls.length) c.gs.length) && (litsB (c.n + c.ls.length) c.gs.length c.os && (litsB (c.n + c.ls.length) c.gs.length c.bs && (litsB (c.n + c.ls.length) c.gs.length c.cs && (litsB (c.n + c.ls.length) c.gs.length c.fs && namesB c))))))))) := by
  have hr : (List.range 6).all (fun i => (lstS c (kindAt i)).all (Gm.litB (c.n + c.ls.length) c.gs.length)) = (c.os.all (Gm.litB (c.n + c.ls.length) c.gs.length) && (c.bs.all (Gm.litB (c.n + c.ls.length) c.gs.length) && (c.cs.all (Gm.litB (c.n + c.ls.length) c.gs.length) && c.fs.all (Gm.litB (c.n + c.ls.length) c.gs.length)))) := by
    simp [List.range, List.range.loop, lstS, kindAt]
  rw [names_same]
  unfold rightC fitsB drivenB litsB
  rw [hr]
  ac_rfl
end Cm
theorem ixL (sb off N c r : Nat) (hm : N ≤ 1000000) (hr : r < N) (w : World) : (Instr.indexAt 24 (.slice (some ⟨sb, off, none⟩) N c) (.int .i64 (r : Int))).run Try.prog w = .ok (.pointer (some ⟨sb, off + r * 2, none⟩)) w := by go_simp

end Go.Proofs.Ytdbmepndebdbpaa
/- The reference's Signal, Find, Is, After. -/
namespace Go.Proofs.Ytdbmepndebdbpaa
open Go.RowKit

end Go.Proofs.Ytdbmepndebdbpaa
/- The reference's Find. -/
namespace Go.Proofs.Ytdbmepndebdbpaa
open Go.RowKit

end Go.Proofs.Ytdbmepndebdbpaa
/- same of layer 4: what the program tells of a circuit is what the document says. -/
namespace Go.Proofs.Ytdbmepndebdbpaa
open Go.RowKit

end Go.Proofs.Ytdbmepndebdbpaa
/- How a circuit that came in is opened. -/
namespace Go.Proofs.Ytdbmepndebdbpaa
open Go.ChangeShapes Go.WideShapes Go.ChangeAt Go.RowKit Go.Deep Go.Joins Go.WideElems

theorem Try.cellsLatch : Try.prog.cellsOf 39 = 2 := by kernel_rfl
theorem Try.cellsName : Try.prog.cellsOf 32 = 3 := by kernel_rfl
theorem Try.cellsCircuit : Try.prog.cellsOf 29 = 8 := by kernel_rfl
/-- What is known of a circuit that came in. -/
structure CirO (c : Cir) : Prop where
  hn : I64 c.n
  hl : Wf c.ls
  hg : Wf c.gs
  ho : IWf c.os
  hb : IWf c.bs
  hc : IWf c.cs
  hf : IWf c.fs
  hk : ∀ x ∈ c.ns, (0 ≤ x.1 ∧ x.1 ≤ 255) ∧ I64 x.2.1 ∧ x.2.2.size ≤ maxLen
  ml : c.ls.length ≤ maxLen
  mg : c.gs.length ≤ maxLen
  lo : c.os.length ≤ maxLen
  lb : c.bs.length ≤ maxLen
  lc : c.cs.length ≤ maxLen
  lf : c.fs.length ≤ maxLen
  mn : c.ns.length ≤ maxLen
  cap : c.ns.length ≤ c.cN
theorem array8 {α : Type} {cs : Array α} (h : cs.size = 8) : ∃ c0 c1 c2 c3 c4 c5 c6 c7, cs = #[c0, c1, c2, c3, c4, c5, c6, c7] := by
  obtain ⟨l⟩ := cs
  match l, h with
  | [c0, c1, c2, c3, c4, c5, c6, c7], _ => exact ⟨c0, c1, c2, c3, c4, c5, c6, c7, rfl⟩
section
variable {H : Type} {enc : TypeId × Value → H} {W : World} {base : Nat} {spare : Nat → Bool} {held : Bool}
set_option maxRecDepth 100000 in
theorem open_latches {fuel : Nat} {v1 : Value} {x : DataW H × List MemPlace} (h : DataW.trod enc Try.prog W base spare held fuel 24 [v1] = some x) :
    ∃ (A : Option Addr) (c : Nat) (gs : List (Int × Int)), v1 = .slice A gs.length c ∧ Gr W W.heap.size A gs ∧ Wf gs ∧ gs.length ≤ maxLen := by
  rcases open_slice Try.underlying24 h with ⟨hcs, _⟩ | ⟨a, len, cap, m, n, D, Pl, hcs, hb, hl, hm, hmm, _, hx⟩
  · refine ⟨none, 0, [], ?_, gr_nil, wf_nil, Nat.zero_le _⟩
    simpa using hcs
  · have hlm : len ≤ m := by rw [hmm]; split <;> omega
    have each : ∀ i, i < len → ∃ q : Int × Int, W.cell? (a.add (i * 2)) = some (.int .i64 q.1) ∧ W.cell? ((a.add (i * 2)).add 1) = some (.int .i64 q.2) ∧ (Lit.int .i64 q.1).wf = true ∧ (Lit.int .i64 q.2).wf = true := by
      intro i hi
      obtain ⟨cs', h1, h2⟩ := hx i (by omega)
      rw [Try.cellsLatch] at h1
      obtain ⟨_, hlen, hcell⟩ := World.cells?_some h1
      obtain ⟨y0, y1, n', _, _, g0, g1⟩ := trod_struct2 Try.underlying39 h2
      match cs', hlen with
      | [v0, v1], _ =>
        simp [Try.cellsInt] at g0 g1
        obtain ⟨u, hu, _, wu⟩ := DataW.trod_int Try.underlying3 g0
        obtain ⟨v, hv, _, wv⟩ := DataW.trod_int Try.underlying3 g1
        have e0 := hcell 0 (by omega)
        have e1 := hcell 1 (by omega)
        simp at hu hv
        subst hu hv
        exact ⟨(u, v), by simpa [Addr.add] using e0, by simpa using e1, wu, wv⟩
    obtain ⟨q, hq⟩ := choose_lt each
    refine ⟨some a, cap, (List.range len).map q, ?_, fun k hk => ?_, fun g hg => ?_, by simp; omega⟩
    · simpa using hcs
    · have hk' : k < len := by simpa using hk
      obtain ⟨e1, e2, _, _⟩ := hq k hk'
      obtain ⟨b, off, spot⟩ := a
      have hspot : spot = none := by
        have := World.cell?_spot (hq 0 (by omega)).1
        simpa [Addr.add] using this
      subst hspot
      rw [add_add] at e2
      rw [add_plain] at e1 e2
      refine ⟨b, off, rfl, ?_, ?_, ?_⟩
      · exact World.block_lt_of_cell? W ⟨b, off + k * 2, none⟩ e1
      · simpa using e1
      · simpa [Nat.add_assoc] using e2
    · obtain ⟨i, hi, rfl⟩ := List.mem_map.1 hg
      obtain ⟨_, _, w1, w2⟩ := hq i (List.mem_range.1 hi)
      exact ⟨bounds_i64 w1, bounds_i64 w2⟩
set_option maxRecDepth 100000 in
theorem open_names {fuel : Nat} {v1 : Value} {x : DataW H × List MemPlace} (h : DataW.trod enc Try.prog W base spare held fuel 27 [v1] = some x) :
    ∃ (A : Option Addr) (c : Nat) (ns : List Nm), v1 = .slice A ns.length c ∧ Ns W W.heap.size A ns ∧ (∀ x ∈ ns, (0 ≤ x.1 ∧ x.1 ≤ 255) ∧ I64 x.2.1 ∧ x.2.2.size ≤ maxLen) ∧ ns.length ≤ maxLen ∧ ns.length ≤ c := by
  rcases open_slice Try.underlying27 h with ⟨hcs, _⟩ | ⟨a, len, cap, m, n, D, Pl, hcs, hb, hl, hm, hmm, _, hx⟩
  · refine ⟨none, 0, [], ?_, ns_nil, fun x hx => by simp at hx, Nat.zero_le _, Nat.zero_le _⟩
    simpa using hcs
  · have hlm : len ≤ m := by rw [hmm]; split <;> omega
    have each : ∀ i, i < len → ∃ q : Nm, W.cell? (a.add (i * 3)) = some (.int .u8 q.1) ∧ W.cell? ((a.add (i * 3)).add 1) = some (.int .i64 q.2.1) ∧ W.cell? ((a.add (i * 3)).add 2) = some (.string q.2.2) ∧ (Lit.int .u8 q.1).wf = true ∧ (Lit.int .i64 q.2.1).wf = true ∧ q.2.2.size ≤ maxLen := by
      intro i hi
      obtain ⟨cs', h1, h2⟩ := hx i (by omega)
      rw [Try.cellsName] at h1
      obtain ⟨_, hlen, hcell⟩ := World.cells?_some h1
      obtain ⟨y0, y1, y2, n', _, _, g0, g1, g2⟩ := trod_struct3 Try.underlying32 h2
      have c8 : Try.prog.cellsOf 5 = 1 := by kernel_rfl
      have cst : Try.prog.cellsOf 9 = 1 := by kernel_rfl
      match cs', hlen with
      | [v0, v1, v2], _ =>
        simp [Try.cellsInt, c8, cst] at g0 g1 g2
        obtain ⟨u, hu, _, wu⟩ := DataW.trod_int Try.underlying5 g0
        obtain ⟨v, hv, _, wv⟩ := DataW.trod_int Try.underlying3 g1
        obtain ⟨s, hs, _, ws⟩ := DataW.trod_string Try.underlying9 g2
        have e0 := hcell 0 (by omega)
        have e1 := hcell 1 (by omega)
        have e2 := hcell 2 (by omega)
        simp at hu hv hs
        subst hu hv hs
        exact ⟨(u, v, s), by simpa [Addr.add] using e0, by simpa using e1, by simpa using e2, wu, wv, ws⟩
    obtain ⟨q, hq⟩ := choose_lt each
    refine ⟨some a, cap, (List.range len).map q, ?_, fun k hk => ?_, fun g hg => ?_, by simp; omega, by simpa using hl⟩
    · simpa using hcs
    · have hk' : k < len := by simpa using hk
      obtain ⟨e1, e2, e3, _, _, _⟩ := hq k hk'
      obtain ⟨b, off, spot⟩ := a
      have hspot : spot = none := by
        have := World.cell?_spot (hq 0 (by omega)).1
        simpa [Addr.add] using this
      subst hspot
      rw [add_add] at e2 e3
      rw [add_plain] at e1 e2 e3
      refine ⟨b, off, rfl, ?_, ?_, ?_, ?_⟩
      · exact World.block_lt_of_cell? W ⟨b, off + k * 3, none⟩ e1
      · simpa using e1
      · simpa [Nat.add_assoc] using e2
      · simpa [Nat.add_assoc] using e3
    · obtain ⟨i, hi, rfl⟩ := List.mem_map.1 hg
      obtain ⟨_, _, _, w1, w2, w3⟩ := hq i (List.mem_range.1 hi)
      exact ⟨bounds_u8 w1, bounds_i64 w2, w3⟩
theorem open_ints4 {fuel : Nat} {v1 : Value} {x : DataW H × List MemPlace} (h : DataW.trod enc Try.prog W base spare held fuel 26 [v1] = some x) :
    ∃ (A : Option Addr) (c : Nat) (zs : List Int), v1 = .slice A zs.length c ∧ Vs W W.heap.size A (iv zs) ∧ IWf zs ∧ zs.length ≤ maxLen := by
  rcases open_slice Try.underlying26 h with ⟨hcs, _⟩ | ⟨a, len, cap, m, n, D, Pl, hcs, hb, hl, hm, hmm, _, hx⟩
  · refine ⟨none, 0, [], ?_, vs_nil, fun x hx => by simp at hx, Nat.zero_le _⟩
    simpa using hcs
  · have hlm : len ≤ m := by rw [hmm]; split <;> omega
    have each : ∀ i, i < len → ∃ q : Int, W.cell? (a.add (i * 1)) = some (.int .i64 q) ∧ (Lit.int .i64 q).wf = true := by
      intro i hi
      obtain ⟨cs', h1, h2⟩ := hx i (by omega)
      rw [Try.cellsInt] at h1
      obtain ⟨_, hlen, hcell⟩ := World.cells?_some h1
      obtain ⟨u, hu, _, wu⟩ := DataW.trod_int Try.underlying3 h2
      subst hu
      have e0 := hcell 0 (by omega)
      exact ⟨u, by simpa [Addr.add] using e0, wu⟩
    obtain ⟨q, hq⟩ := choose_lt each
    refine ⟨some a, cap, (List.range len).map q, ?_, fun k hk => ?_, fun x hx => ?_, by simp; omega⟩
    · simpa using hcs
    · have hk' : k < len := by simpa [iv] using hk
      obtain ⟨e1, w1⟩ := hq k hk'
      obtain ⟨b, off, spot⟩ := a
      have hspot : spot = none := by
        have := World.cell?_spot (hq 0 (by omega)).1
        simpa [Addr.add] using this
      subst hspot
      rw [add_plain, Nat.mul_one] at e1
      refine ⟨b, off, rfl, World.block_lt_of_cell? W ⟨b, off + k, none⟩ e1, ?_⟩
      simpa [iv] using e1
    · obtain ⟨i, hi, rfl⟩ := List.mem_map.1 hx
      exact bounds_i64 (hq i (List.mem_range.1 hi)).2
set_option maxRecDepth 100000 in
theorem open_circuit {r : Reach} {b0 : Nat} {v : Value} {d : DataW H} {p : List MemPlace} (hv : Value.okWide Try.prog W r b0 29 v) (h : DataW.Trod enc Try.prog W base spare held 29 v d p) :
    ∃ c : Cir, v = .agg #[.int .i64 c.n, .slice c.aL c.ls.length c.cL, .slice c.aG c.gs.length c.cG, .slice c.aO c.os.length c.cO, .slice c.aB c.bs.length c.cB, .slice c.aC c.cs.length c.cC, .slice c.aF c.fs.length c.cF, .slice c.aN c.ns.length c.cN] ∧ CirM W W.heap.size c ∧ CirO c := by
  obtain ⟨cs, rfl, hsz⟩ := okWide_struct Try.underlying29 hv
  obtain ⟨u0, u1, u2, u3, u4, u5, u6, u7, rfl⟩ := array8 (hsz.trans Try.cellsCircuit)
  obtain ⟨fuel, hf⟩ := h
  obtain ⟨xs, n, _, _, hl, hlen, hfl⟩ := DataW.trod_struct Try.underlying29 hf
  have cL : Try.prog.cellsOf 24 = 1 := by kernel_rfl
  have cG : Try.prog.cellsOf 25 = 1 := by kernel_rfl
  have cI : Try.prog.cellsOf 26 = 1 := by kernel_rfl
  have cN : Try.prog.cellsOf 27 = 1 := by kernel_rfl
  match xs, hlen with
  | [y0, y1, y2, y3, y4, y5, y6, y7], _ =>
    have g0 := hfl 0 _ rfl
    have g1 := hfl 1 _ rfl
    have g2 := hfl 2 _ rfl
    have g3 := hfl 3 _ rfl
    have g4 := hfl 4 _ rfl
    have g5 := hfl 5 _ rfl
    have g6 := hfl 6 _ rfl
    have g7 := hfl 7 _ rfl
    simp [Value.cells, Try.cellsInt, cL, cG, cI, cN] at g0 g1 g2 g3 g4 g5 g6 g7
    obtain ⟨nn, e0, _, wn⟩ := DataW.trod_int Try.underlying3 g0
    obtain ⟨aL, kL, ls, e1, mL, wL, lL⟩ := open_latches g1
    obtain ⟨aG, kG, gs, e2, mG, wG, lG⟩ := open_gates g2
    obtain ⟨aO, kO, os, e3, mO, wO, lO⟩ := open_ints4 g3
    obtain ⟨aB, kB, bs, e4, mB, wB, lB⟩ := open_ints4 g4
    obtain ⟨aC, kC, cs', e5, mC, wC, lC⟩ := open_ints4 g5
    obtain ⟨aF, kF, fs, e6, mF, wF, lF⟩ := open_ints4 g6
    obtain ⟨aN, kN, ns, e7, mN, wN, lN, capN⟩ := open_names g7
    simp at e0
    subst e0 e1 e2 e3 e4 e5 e6 e7
    exact ⟨⟨nn, aL, kL, ls, aG, kG, gs, aO, kO, os, aB, kB, bs, aC, kC, cs', aF, kF, fs, aN, kN, ns⟩, rfl, ⟨mL, mG, mO, mB, mC, mF, mN⟩, ⟨bounds_i64 wn, wL, wG, wO, wB, wC, wF, wN, lL, lG, lO, lB, lC, lF, lN, capN⟩⟩
end

namespace Cm
def bigB (c : Cir) : Bool := decide (60 < c.gs.length) || (decide (60 < c.ls.length) || decide (60 < c.ns.length))
end Cm
end Go.Proofs.Ytdbmepndebdbpaa
