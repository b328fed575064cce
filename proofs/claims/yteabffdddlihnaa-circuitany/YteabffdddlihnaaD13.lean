/- awake of layer 4. -/
import Derived.Test.YteabffdddlihnaaD12
namespace Go.Proofs.Yteabffdddlihnaa
open Go.RowKit

theorem heap_size_alloc (w : World) (o : Obj) : (w.alloc o).heap.size = w.heap.size + 1 := by simp
/-- The circuit that awake asks about. -/
def awC (h : Nat) : Cir := { n := 1, aL := some ⟨h, 0, none⟩, cL := 1, ls := [(5, 0)], aG := none, cG := 0, gs := [], aO := some ⟨h + 1, 0, none⟩, cO := 1, os := [3], aB := none, cB := 0, bs := [], aC := none, cC := 0, cs := [], aF := none, cF := 0, fs := [], aN := some ⟨h + 1 + 1, 0, none⟩, cN := 1, ns := [(108, 0, ⟨#[113]⟩)] }
theorem ns_nil {w : World} {B : Nat} {A : Option Addr} : Ns w B A [] := fun k hk => by simp at hk
theorem awC_w (h : Nat) : CirW (awC h) := by
  refine ⟨by simp [awC, I64], ?_, ?_, ?_, ?_, ?_, ?_, ?_, by simp [awC], by simp [awC], by simp [awC, maxLen], by simp [awC, maxLen], by simp [awC, maxLen], by simp [awC, maxLen], by simp [awC]⟩
  · intro g hg
    simp [awC] at hg
    subst hg
    simp
  · intro g hg
    simp [awC] at hg
  · intro x hx
    simp [awC] at hx
    subst hx
    simp [I64]
  · intro x hx
    simp [awC] at hx
  · intro x hx
    simp [awC] at hx
  · intro x hx
    simp [awC] at hx
  · intro x hx
    simp [awC] at hx
    subst hx
    simp [I64, maxLen]
    decide
theorem awC_right (h : Nat) : Cm.rightC (awC h) = true := by
  have e1 : Cm.fitsB (awC h) = true := rfl
  have e2 : Gm.rightB ((awC h).n + (awC h).ls.length) (awC h).gs = true := by
    show Gm.rightB 2 [] = true
    decide
  have e3 : Cm.drivenB (awC h) = true := rfl
  have e4 : Cm.namedB (awC h) = true := by
    have o : Cm.ordS (awC h) 6 0 (awC h).ns = true := by
      show Cm.ordS (awC h) 6 0 [(108, 0, ⟨#[113]⟩)] = true
      rw [Cm.ordS_cons, if_neg (by decide), Cm.ordS_cons, if_pos (by decide), Cm.ordS_nil]
      rfl
    unfold Cm.namedB
    rw [o]
    rfl
  unfold Cm.rightC
  rw [e1, e2, e3, e4]
  rfl
theorem awC_step (h : Nat) : Cm.stepB (awC h) = true := by
  unfold Cm.stepB
  rw [awC_right]
  rfl
theorem awC_is (h : Nat) (st l : Int) : Cm.isS (awC h) st l = Em.evalB 2 [] l (bitsB st 2) := by
  unfold Cm.isS
  rw [awC_step]
  rfl
theorem awC_after (h : Nat) (st : Int) : Cm.afterS (awC h) st = if Em.evalB 2 [] 5 (bitsB st 2) = true then 2 else 0 := by
  unfold Cm.afterS
  rw [if_pos (awC_step h)]
  show ((Cm.aftS (awC h) st 1 : Nat) : Int) = _
  rw [Cm.aftS, Cm.aftS]
  show (((0 + if Cm.isS (awC h) st 5 = true then 2 else 0 : Nat)) : Int) = _
  rw [awC_is]
  split <;> rfl
theorem awC_sig0 (h : Nat) : Cm.signalS (awC h) 111 0 = 3 := by
  unfold Cm.signalS
  rw [if_pos (awC_right h)]
  rfl
theorem awC_sig1 (h : Nat) : Cm.signalS (awC h) 111 1 = -1 := by
  unfold Cm.signalS
  rw [if_pos (awC_right h)]
  rfl
theorem awC_find (h : Nat) : Cm.findS (awC h) ⟨#[113]⟩ = 4 := by
  unfold Cm.findS
  rw [if_pos (awC_right h)]
  rfl
theorem awC_find2 (h : Nat) : Cm.findS (awC h) ⟨#[108, 48]⟩ = 4 := by
  unfold Cm.findS
  rw [if_pos (awC_right h)]
  rfl
theorem awC_find3 (h : Nat) : Cm.findS (awC h) ⟨#[120]⟩ = -1 := by
  unfold Cm.findS
  rw [if_pos (awC_right h)]
  rfl

theorem field_graph (A : Option Addr) (n q : Nat) (x : Int) (w : World) : (Instr.field 45 (.agg #[.int .i64 x, .slice A n q]) 0).run Try.prog w = .ok (.int .i64 x) w := by kernel_rfl
set_option maxRecDepth 100000 in
set_option maxHeartbeats 8000000 in
theorem awake4_any (w : World) : Calls Try.prog 7 #[] w fun e w' => e = .returned (.bool true) ∧ Below w.heap.size w w' := by
  have b1 := Blk.new w 41 #[.int .i64 5, .int .i64 0]
  have b2 := Blk.new (w.alloc (Obj.cells #[.int .i64 5, .int .i64 0] 41)) 3 #[.int .i64 3]
  have b3 := Blk.new ((w.alloc (Obj.cells #[.int .i64 5, .int .i64 0] 41)).alloc (Obj.cells #[.int .i64 3] 3)) 34 #[.int .u8 108, .int .i64 0, .string ⟨#[113]⟩]
  have b4 := Blk.new (((w.alloc (Obj.cells #[.int .i64 5, .int .i64 0] 41)).alloc (Obj.cells #[.int .i64 3] 3)).alloc (Obj.cells #[.int .u8 108, .int .i64 0, .string ⟨#[113]⟩] 34)) 27 #[.int .i64 1, .slice (some ⟨w.heap.size, 0, none⟩) 1 1, .slice none 0 0, .slice (some ⟨w.heap.size + 1, 0, none⟩) 1 1, .slice none 0 0, .slice none 0 0, .slice none 0 0, .slice (some ⟨w.heap.size + 1 + 1, 0, none⟩) 1 1]
  replace b1 := ((b1.alloc (Obj.cells #[.int .i64 3] 3)).alloc (Obj.cells #[.int .u8 108, .int .i64 0, .string ⟨#[113]⟩] 34)).alloc (Obj.cells #[.int .i64 1, .slice (some ⟨w.heap.size, 0, none⟩) 1 1, .slice none 0 0, .slice (some ⟨w.heap.size + 1, 0, none⟩) 1 1, .slice none 0 0, .slice none 0 0, .slice none 0 0, .slice (some ⟨w.heap.size + 1 + 1, 0, none⟩) 1 1] 27)
  replace b2 := (b2.alloc (Obj.cells #[.int .u8 108, .int .i64 0, .string ⟨#[113]⟩] 34)).alloc (Obj.cells #[.int .i64 1, .slice (some ⟨w.heap.size, 0, none⟩) 1 1, .slice none 0 0, .slice (some ⟨w.heap.size + 1, 0, none⟩) 1 1, .slice none 0 0, .slice none 0 0, .slice none 0 0, .slice (some ⟨w.heap.size + 1 + 1, 0, none⟩) 1 1] 27)
  replace b3 := b3.alloc (Obj.cells #[.int .i64 1, .slice (some ⟨w.heap.size, 0, none⟩) 1 1, .slice none 0 0, .slice (some ⟨w.heap.size + 1, 0, none⟩) 1 1, .slice none 0 0, .slice none 0 0, .slice none 0 0, .slice (some ⟨w.heap.size + 1 + 1, 0, none⟩) 1 1] 27)
  have lo : Below w.heap.size w ((((w.alloc (Obj.cells #[.int .i64 5, .int .i64 0] 41)).alloc (Obj.cells #[.int .i64 3] 3)).alloc (Obj.cells #[.int .u8 108, .int .i64 0, .string ⟨#[113]⟩] 34)).alloc (Obj.cells #[.int .i64 1, .slice (some ⟨w.heap.size, 0, none⟩) 1 1, .slice none 0 0, .slice (some ⟨w.heap.size + 1, 0, none⟩) 1 1, .slice none 0 0, .slice none 0 0, .slice none 0 0, .slice (some ⟨w.heap.size + 1 + 1, 0, none⟩) 1 1] 27)) := (((lowAlloc w _).alloc (by simp) _).alloc (by simp; omega) _).alloc (by simp; omega) _
  simp only [heap_size_alloc] at b2 b3 b4
  obtain ⟨W4, hW4⟩ : ∃ W4, W4 = (((w.alloc (Obj.cells #[.int .i64 5, .int .i64 0] 41)).alloc (Obj.cells #[.int .i64 3] 3)).alloc (Obj.cells #[.int .u8 108, .int .i64 0, .string ⟨#[113]⟩] 34)).alloc (Obj.cells #[.int .i64 1, .slice (some ⟨w.heap.size, 0, none⟩) 1 1, .slice none 0 0, .slice (some ⟨w.heap.size + 1, 0, none⟩) 1 1, .slice none 0 0, .slice none 0 0, .slice none 0 0, .slice (some ⟨w.heap.size + 1 + 1, 0, none⟩) 1 1] 27) := ⟨_, rfl⟩
  rw [← hW4] at b1 b2 b3 b4 lo
  have HM : Hid (∀ V, Below W4.heap.size W4 V → CirM V V.heap.size (awC w.heap.size)) := by
    intro V hb
    have B1 := b1.below hb b1.lt
    have B2 := b2.below hb b2.lt
    have B3 := b3.below hb b3.lt
    refine ⟨?_, fun k hk => by simp [awC] at hk, ?_, fun k hk => by simp [awC] at hk, fun k hk => by simp [awC] at hk, fun k hk => by simp [awC] at hk, ?_⟩
    · intro k hk
      obtain rfl : k = 0 := by simpa [awC] using hk
      exact ⟨w.heap.size, 0, rfl, B1.lt, by simpa [awC] using B1.cell 0, by simpa [awC] using B1.cell 1⟩
    · intro k hk
      obtain rfl : k = 0 := by simpa [awC] using hk
      exact ⟨w.heap.size + 1, 0, rfl, B2.lt, by simpa [awC] using B2.cell 0⟩
    · intro k hk
      obtain rfl : k = 0 := by simpa [awC] using hk
      exact ⟨w.heap.size + 1 + 1, 0, rfl, B3.lt, by simpa [awC] using B3.cell 0, by simpa [awC] using B3.cell 1, by simpa [awC] using B3.cell 2⟩
  have H0 : Hid (∀ V, Below W4.heap.size W4 V → Calls Try.prog 15 #[.agg #[.int .i64 1, .slice (some ⟨w.heap.size, 0, none⟩) 1 1, .slice none 0 0, .slice (some ⟨w.heap.size + 1, 0, none⟩) 1 1, .slice none 0 0, .slice none 0 0, .slice none 0 0, .slice (some ⟨w.heap.size + 1 + 1, 0, none⟩) 1 1]] V fun e w' => e = .returned (.bool true) ∧ Below V.heap.size V w') := fun V hb => by
    have h := Right4_any (awC w.heap.size) V (HM.out V hb) (awC_w _) (by simp [awC])
    rw [awC_right] at h
    exact h
  have H1 : Hid (∀ V, Below W4.heap.size W4 V → Calls Try.prog 16 #[.agg #[.int .i64 1, .slice (some ⟨w.heap.size, 0, none⟩) 1 1, .slice none 0 0, .slice (some ⟨w.heap.size + 1, 0, none⟩) 1 1, .slice none 0 0, .slice none 0 0, .slice none 0 0, .slice (some ⟨w.heap.size + 1 + 1, 0, none⟩) 1 1]] V (OfPost 2 [] V)) := fun V hb => by
    have h := Of_any (awC w.heap.size) V (HM.out V hb) (awC_w _)
    rw [show wrap64 ((awC w.heap.size).n + ((awC w.heap.size).ls.length : Int)) = 2 from (by show wrap64 2 = 2; unfold wrap64; omega)] at h
    exact h
  have H2 : Hid (∀ V, Below W4.heap.size W4 V → Calls Try.prog 11 #[.agg #[.int .i64 1, .slice (some ⟨w.heap.size, 0, none⟩) 1 1, .slice none 0 0, .slice (some ⟨w.heap.size + 1, 0, none⟩) 1 1, .slice none 0 0, .slice none 0 0, .slice none 0 0, .slice (some ⟨w.heap.size + 1 + 1, 0, none⟩) 1 1], .int .u8 111, .int .i64 0] V fun e w' => e = .returned (.int .i64 3) ∧ Below V.heap.size V w') := fun V hb => by
    have h := Signal_any (awC w.heap.size) 111 0 V (HM.out V hb) (awC_w _) (by simp [awC]) (by omega) (by omega)
    rw [awC_sig0] at h
    exact h
  have H3 : Hid (∀ V, Below W4.heap.size W4 V → Calls Try.prog 11 #[.agg #[.int .i64 1, .slice (some ⟨w.heap.size, 0, none⟩) 1 1, .slice none 0 0, .slice (some ⟨w.heap.size + 1, 0, none⟩) 1 1, .slice none 0 0, .slice none 0 0, .slice none 0 0, .slice (some ⟨w.heap.size + 1 + 1, 0, none⟩) 1 1], .int .u8 111, .int .i64 1] V fun e w' => e = .returned (.int .i64 (-1)) ∧ Below V.heap.size V w') := fun V hb => by
    have h := Signal_any (awC w.heap.size) 111 1 V (HM.out V hb) (awC_w _) (by simp [awC]) (by omega) (by omega)
    rw [awC_sig1] at h
    exact h
  have H4 : Hid (∀ V, Below W4.heap.size W4 V → Calls Try.prog 12 #[.agg #[.int .i64 1, .slice (some ⟨w.heap.size, 0, none⟩) 1 1, .slice none 0 0, .slice (some ⟨w.heap.size + 1, 0, none⟩) 1 1, .slice none 0 0, .slice none 0 0, .slice none 0 0, .slice (some ⟨w.heap.size + 1 + 1, 0, none⟩) 1 1], .string ⟨#[113]⟩] V fun e w' => e = .returned (.int .i64 4) ∧ Below V.heap.size V w') := fun V hb => by
    have h := Find_any (awC w.heap.size) ⟨#[113]⟩ V (HM.out V hb) (awC_w _) (by simp [awC]) (by decide)
    rw [awC_find] at h
    exact h
  have H5 : Hid (∀ V, Below W4.heap.size W4 V → Calls Try.prog 12 #[.agg #[.int .i64 1, .slice (some ⟨w.heap.size, 0, none⟩) 1 1, .slice none 0 0, .slice (some ⟨w.heap.size + 1, 0, none⟩) 1 1, .slice none 0 0, .slice none 0 0, .slice none 0 0, .slice (some ⟨w.heap.size + 1 + 1, 0, none⟩) 1 1], .string ⟨#[108, 48]⟩] V fun e w' => e = .returned (.int .i64 4) ∧ Below V.heap.size V w') := fun V hb => by
    have h := Find_any (awC w.heap.size) ⟨#[108, 48]⟩ V (HM.out V hb) (awC_w _) (by simp [awC]) (by decide)
    rw [awC_find2] at h
    exact h
  have H6 : Hid (∀ V, Below W4.heap.size W4 V → Calls Try.prog 12 #[.agg #[.int .i64 1, .slice (some ⟨w.heap.size, 0, none⟩) 1 1, .slice none 0 0, .slice (some ⟨w.heap.size + 1, 0, none⟩) 1 1, .slice none 0 0, .slice none 0 0, .slice none 0 0, .slice (some ⟨w.heap.size + 1 + 1, 0, none⟩) 1 1], .string ⟨#[120]⟩] V fun e w' => e = .returned (.int .i64 (-1)) ∧ Below V.heap.size V w') := fun V hb => by
    have h := Find_any (awC w.heap.size) ⟨#[120]⟩ V (HM.out V hb) (awC_w _) (by simp [awC]) (by decide)
    rw [awC_find3] at h
    exact h
  have H7 : Hid (∀ V, Below W4.heap.size W4 V → Calls Try.prog 14 #[.agg #[.int .i64 1, .slice (some ⟨w.heap.size, 0, none⟩) 1 1, .slice none 0 0, .slice (some ⟨w.heap.size + 1, 0, none⟩) 1 1, .slice none 0 0, .slice none 0 0, .slice none 0 0, .slice (some ⟨w.heap.size + 1 + 1, 0, none⟩) 1 1], .int .i64 1, .int .i64 2] V fun e w' => e = .returned (.bool true) ∧ Below V.heap.size V w') := fun V hb => by
    have h := Is_any (awC w.heap.size) 1 2 V (HM.out V hb) (awC_w _) (by simp [awC]) (by simp [I64]) (by simp [awC])
    rw [awC_is, show Em.evalB 2 [] 2 (bitsB 1 2) = true by decide] at h
    exact h
  have H8 : Hid (∀ V, Below W4.heap.size W4 V → Calls Try.prog 13 #[.agg #[.int .i64 1, .slice (some ⟨w.heap.size, 0, none⟩) 1 1, .slice none 0 0, .slice (some ⟨w.heap.size + 1, 0, none⟩) 1 1, .slice none 0 0, .slice none 0 0, .slice none 0 0, .slice (some ⟨w.heap.size + 1 + 1, 0, none⟩) 1 1], .int .i64 1] V fun e w' => e = .returned (.int .i64 2) ∧ Below V.heap.size V w') := fun V hb => by
    have h := After_any (awC w.heap.size) 1 V (HM.out V hb) (awC_w _) (by simp [awC]) (by simp [I64]) (by simp [awC])
    rw [awC_after, if_pos (show Em.evalB 2 [] 5 (bitsB 1 2) = true by decide)] at h
    exact h
  have H9 : Hid (∀ V, Below W4.heap.size W4 V → Calls Try.prog 13 #[.agg #[.int .i64 1, .slice (some ⟨w.heap.size, 0, none⟩) 1 1, .slice none 0 0, .slice (some ⟨w.heap.size + 1, 0, none⟩) 1 1, .slice none 0 0, .slice none 0 0, .slice none 0 0, .slice (some ⟨w.heap.size + 1 + 1, 0, none⟩) 1 1], .int .i64 2] V fun e w' => e = .returned (.int .i64 0) ∧ Below V.heap.size V w') := fun V hb => by
    have h := After_any (awC w.heap.size) 2 V (HM.out V hb) (awC_w _) (by simp [awC]) (by simp [I64]) (by simp [awC])
    rw [awC_after, if_neg (show ¬ Em.evalB 2 [] 5 (bitsB 2 2) = true by decide)] at h
    exact h
  have lx := Below.refl W4.heap.size W4
  have hfd := field_graph
  go_enter Try.func7, Try.ntmps7
  go_upto_region 2 with fail
  rw [← hW4]
  clear hW4 b1 b2 b3 HM
  have c0 := b4.cell 0; have c1 := b4.cell 1; have c2 := b4.cell 2; have c3 := b4.cell 3; have c4 := b4.cell 4; have c5 := b4.cell 5; have c6 := b4.cell 6; have c7 := b4.cell 7; simp only [List.getElem?_toArray, List.getElem?_cons_zero, List.getElem?_cons_succ] at c0 c1 c2 c3 c4 c5 c6 c7
  go_wp2_with fail
  refine (H0.out _ lx).mono ?_
  rintro e w5 ⟨rfl, hb⟩
  replace lx := lx.trans (hb.mono lx.size)
  replace b4 := b4.below hb b4.lt
  clear c0 c1 c2 c3 c4 c5 c6 c7
  clear hb H0
  have c0 := b4.cell 0; have c1 := b4.cell 1; have c2 := b4.cell 2; have c3 := b4.cell 3; have c4 := b4.cell 4; have c5 := b4.cell 5; have c6 := b4.cell 6; have c7 := b4.cell 7; simp only [List.getElem?_toArray, List.getElem?_cons_zero, List.getElem?_cons_succ] at c0 c1 c2 c3 c4 c5 c6 c7
  go_wp2_with fail
  refine (H1.out _ lx).mono ?_
  rintro e w6 ⟨A', q', rfl, _, hb⟩
  replace lx := lx.trans (hb.mono lx.size)
  replace b4 := b4.below hb b4.lt
  clear c0 c1 c2 c3 c4 c5 c6 c7
  clear hb H1
  have c0 := b4.cell 0; have c1 := b4.cell 1; have c2 := b4.cell 2; have c3 := b4.cell 3; have c4 := b4.cell 4; have c5 := b4.cell 5; have c6 := b4.cell 6; have c7 := b4.cell 7; simp only [List.getElem?_toArray, List.getElem?_cons_zero, List.getElem?_cons_succ] at c0 c1 c2 c3 c4 c5 c6 c7
  go_wp2_with fail
  refine (H2.out _ lx).mono ?_
  rintro e w7 ⟨rfl, hb⟩
  replace lx := lx.trans (hb.mono lx.size)
  replace b4 := b4.below hb b4.lt
  clear c0 c1 c2 c3 c4 c5 c6 c7
  clear hb H2
  have c0 := b4.cell 0; have c1 := b4.cell 1; have c2 := b4.cell 2; have c3 := b4.cell 3; have c4 := b4.cell 4; have c5 := b4.cell 5; have c6 := b4.cell 6; have c7 := b4.cell 7; simp only [List.getElem?_toArray, List.getElem?_cons_zero, List.getElem?_cons_succ] at c0 c1 c2 c3 c4 c5 c6 c7
  go_wp2_with fail
  refine (H3.out _ lx).mono ?_
  rintro e w8 ⟨rfl, hb⟩
  replace lx := lx.trans (hb.mono lx.size)
  replace b4 := b4.below hb b4.lt
  clear c0 c1 c2 c3 c4 c5 c6 c7
  clear hb H3
  have c0 := b4.cell 0; have c1 := b4.cell 1; have c2 := b4.cell 2; have c3 := b4.cell 3; have c4 := b4.cell 4; have c5 := b4.cell 5; have c6 := b4.cell 6; have c7 := b4.cell 7; simp only [List.getElem?_toArray, List.getElem?_cons_zero, List.getElem?_cons_succ] at c0 c1 c2 c3 c4 c5 c6 c7
  go_wp2_with fail
  refine (H4.out _ lx).mono ?_
  rintro e w9 ⟨rfl, hb⟩
  replace lx := lx.trans (hb.mono lx.size)
  replace b4 := b4.below hb b4.lt
  clear c0 c1 c2 c3 c4 c5 c6 c7
  clear hb H4
  have c0 := b4.cell 0; have c1 := b4.cell 1; have c2 := b4.cell 2; have c3 := b4.cell 3; have c4 := b4.cell 4; have c5 := b4.cell 5; have c6 := b4.cell 6; have c7 := b4.cell 7; simp only [List.getElem?_toArray, List.getElem?_cons_zero, List.getElem?_cons_succ] at c0 c1 c2 c3 c4 c5 c6 c7
  go_wp2_with fail
  refine (H5.out _ lx).mono ?_
  rintro e w10 ⟨rfl, hb⟩
  replace lx := lx.trans (hb.mono lx.size)
  replace b4 := b4.below hb b4.lt
  clear c0 c1 c2 c3 c4 c5 c6 c7
  clear hb H5
  have c0 := b4.cell 0; have c1 := b4.cell 1; have c2 := b4.cell 2; have c3 := b4.cell 3; have c4 := b4.cell 4; have c5 := b4.cell 5; have c6 := b4.cell 6; have c7 := b4.cell 7; simp only [List.getElem?_toArray, List.getElem?_cons_zero, List.getElem?_cons_succ] at c0 c1 c2 c3 c4 c5 c6 c7
  go_wp2_with fail
  refine (H6.out _ lx).mono ?_
  rintro e w11 ⟨rfl, hb⟩
  replace lx := lx.trans (hb.mono lx.size)
  replace b4 := b4.below hb b4.lt
  clear c0 c1 c2 c3 c4 c5 c6 c7
  clear hb H6
  have c0 := b4.cell 0; have c1 := b4.cell 1; have c2 := b4.cell 2; have c3 := b4.cell 3; have c4 := b4.cell 4; have c5 := b4.cell 5; have c6 := b4.cell 6; have c7 := b4.cell 7; simp only [List.getElem?_toArray, List.getElem?_cons_zero, List.getElem?_cons_succ] at c0 c1 c2 c3 c4 c5 c6 c7
  go_wp2_with fail
  refine (H7.out _ lx).mono ?_
  rintro e w12 ⟨rfl, hb⟩
  replace lx := lx.trans (hb.mono lx.size)
  replace b4 := b4.below hb b4.lt
  clear c0 c1 c2 c3 c4 c5 c6 c7
  clear hb H7
  have c0 := b4.cell 0; have c1 := b4.cell 1; have c2 := b4.cell 2; have c3 := b4.cell 3; have c4 := b4.cell 4; have c5 := b4.cell 5; have c6 := b4.cell 6; have c7 := b4.cell 7; simp only [List.getElem?_toArray, List.getElem?_cons_zero, List.getElem?_cons_succ] at c0 c1 c2 c3 c4 c5 c6 c7
  go_wp2_with fail
  refine (H8.out _ lx).mono ?_
  rintro e w13 ⟨rfl, hb⟩
  replace lx := lx.trans (hb.mono lx.size)
  replace b4 := b4.below hb b4.lt
  clear c0 c1 c2 c3 c4 c5 c6 c7
  clear hb H8
  have c0 := b4.cell 0; have c1 := b4.cell 1; have c2 := b4.cell 2; have c3 := b4.cell 3; have c4 := b4.cell 4; have c5 := b4.cell 5; have c6 := b4.cell 6; have c7 := b4.cell 7; simp only [List.getElem?_toArray, List.getElem?_cons_zero, List.getElem?_cons_succ] at c0 c1 c2 c3 c4 c5 c6 c7
  go_wp2_with fail
  refine (H9.out _ lx).mono ?_
  rintro e w14 ⟨rfl, hb⟩
  replace lx := lx.trans (hb.mono lx.size)
  replace b4 := b4.below hb b4.lt
  clear c0 c1 c2 c3 c4 c5 c6 c7
  clear hb H9
  go_wp2
  go_ret
  exact ⟨rfl, lo.trans (lx.mono lo.size)⟩
end Go.Proofs.Yteabffdddlihnaa
