/- The law's awake. -/
import Derived.Test.YticallikogheiaaZ
namespace Go.Proofs.Yticallikogheiaa
open Go.RowKit

theorem aw1 : Gm.andS 2 [] 2 4 = ((2, [(4, 2)]), 6, 0) := by decide +kernel
theorem aw2 : (Gm.orS 2 [(4, 2)] 7 6).2 = (1, 0) := by decide +kernel
theorem aw3 : Gm.andS 2 [(4, 2)] 8 2 = Gm.bad 1 := by decide +kernel
theorem aw4 : Gm.rightB 2 [(4, 2)] = true := by decide +kernel
theorem aw5 : Gm.litB 2 1 7 = true := by decide +kernel
theorem aw6 : Gm.litB 2 1 8 = false := by decide +kernel
theorem wf_nil : Wf [] := fun g h => by cases h
theorem wf_42 : Wf [(4, 2)] := fun g h => by
  simp at h
  subst h
  simp
theorem gr_nil {w : World} {C : Nat} {A : Option Addr} : Gr w C A [] := fun k hk => by simp at hk

/-- A graph in a box of the law's own. -/
structure GX (k : Nat) (n : Int) (A : Option Addr) (c l : Nat) (gs : List (Int × Int)) (V : World) : Prop where
  c0 : V.cell? ⟨k, 0, none⟩ = some (.int .i64 n)
  c1 : V.cell? ⟨k, 1, none⟩ = some (.slice A l c)
  lt : k < V.heap.size
  gr : Gr V V.heap.size A gs
theorem GX.below {k : Nat} {n : Int} {A : Option Addr} {c l : Nat} {gs : List (Int × Int)} {V V' : World} (h : GX k n A c l gs V) (hb : Below V.heap.size V V') : GX k n A c l gs V' :=
  ⟨(hb.cell (p := ⟨k, 0, none⟩) h.lt).trans h.c0, (hb.cell (p := ⟨k, 1, none⟩) h.lt).trans h.c1, Nat.lt_of_lt_of_le h.lt hb.size, (h.gr.below hb (Nat.le_refl _)).more hb.size⟩
theorem GX.drew {k : Nat} {n : Int} {A : Option Addr} {c l : Nat} {gs : List (Int × Int)} {V : World} (h : GX k n A c l gs V) : GX k n A c l gs V.drew := ⟨h.c0, h.c1, h.lt, h.gr⟩
theorem GX.alloc {k : Nat} {n : Int} {A : Option Addr} {c l : Nat} {gs : List (Int × Int)} {V : World} (h : GX k n A c l gs V) (o : Obj) : GX k n A c l gs (V.alloc o) := h.below ((Below.refl V.heap.size V).alloc (Nat.le_refl _) o)
theorem GX.new {V : World} {n : Int} {A : Option Addr} {c l : Nat} {gs : List (Int × Int)} (h : Gr V V.heap.size A gs) (t : TypeId) : GX V.heap.size n A c l gs (V.alloc (Obj.cells #[.int .i64 n, .slice A l c] t)) := by
  have hk := Blk.new V t #[.int .i64 n, .slice A l c]
  have hb := (Below.refl V.heap.size V).alloc (Nat.le_refl _) (Obj.cells #[.int .i64 n, .slice A l c] t)
  exact ⟨hk.cell 0, hk.cell 1, by simp, (h.below hb (Nat.le_refl _)).more hb.size⟩

set_option maxRecDepth 100000 in
set_option maxHeartbeats 4000000 in
theorem awake_any (w : World) : Calls Try.prog 10 #[] w fun e w' => e = .returned (.bool true) ∧ Below w.heap.size w w' := by
  have hnot : ∀ (x : Bool) (w : World), (Op.unary .not (.bool x)).run Try.prog w = .ok (.bool (!x)) w := fun _ _ => rfl
  have HA := Lib.hid (and_any 2 none 0 [] 2 4 w 0 (by simp) gr_nil (Nat.zero_le _) wf_nil)
  rw [aw1] at HA
  go_enter Try.func10, Try.ntmps10
  go_wp2_with fail
  refine HA.out.mono ?_
  rintro e w1 ⟨A1, c1, rfl, hG1, _, hb1⟩
  have hx1 := GX.new (n := 2) (c := c1) (l := 1) hG1 24
  have hl1 : Below w.heap.size w (w1.alloc (Obj.cells #[.int .i64 2, .slice A1 1 c1] 24)) := hb1.alloc hb1.size _
  go_upto_region 2 with fail
  generalize w1.alloc (Obj.cells #[.int .i64 2, .slice A1 1 c1] 24) = V1 at *
  have k0 := hx1.c0
  have k1 := hx1.c1
  have HO := Lib.hid (or_any 2 A1 c1 [(4, 2)] 7 6 V1 V1.heap.size (by simp) hx1.gr (Nat.le_refl _) wf_42 (by omega) (by omega))
  have h2 := aw2
  generalize Gm.orS 2 [(4, 2)] 7 6 = r2 at *
  obtain ⟨⟨n2, gs2⟩, l2, er2⟩ := r2
  injection h2 with h2 h2'
  subst h2 h2'
  go_wp2_with fail
  refine HO.out.mono ?_
  rintro e w2 ⟨A2, c2, rfl, hG2, _, hb2⟩
  have hx2 := (hx1.below hb2).alloc (Obj.cells #[.int .i64 n2, .slice A2 gs2.length c2] 24)
  have hl2 : Below w.heap.size w (w2.alloc (Obj.cells #[.int .i64 n2, .slice A2 gs2.length c2] 24)) := (hl1.trans (hb2.mono hl1.size)).alloc (Nat.le_trans hl1.size hb2.size) _
  clear k0 k1
  go_upto_region 3 with fail
  generalize w2.alloc (Obj.cells #[.int .i64 n2, .slice A2 gs2.length c2] 24) = V2 at *
  have k0 := hx2.c0
  have k1 := hx2.c1
  have HB := Lib.hid (and_any 2 A1 c1 [(4, 2)] 8 2 V2 V2.heap.size (by simp) hx2.gr (Nat.le_refl _) wf_42)
  rw [aw3] at HB
  go_wp2_with fail
  refine HB.out.mono ?_
  rintro e w3 ⟨A3, c3, rfl, hG3, _, hb3⟩
  have hx3 := (hx2.below hb3).alloc (Obj.cells #[.int .i64 0, .slice A3 0 c3] 24)
  have hl3 : Below w.heap.size w (w3.alloc (Obj.cells #[.int .i64 0, .slice A3 0 c3] 24)) := (hl2.trans (hb3.mono hl2.size)).alloc (Nat.le_trans hl2.size hb3.size) _
  clear k0 k1
  simp only [Gm.bad, List.length_nil]
  go_upto_region 4 with fail
  generalize w3.alloc (Obj.cells #[.int .i64 0, .slice A3 0 c3] 24) = V3 at *
  have k0 := hx3.c0
  have k1 := hx3.c1
  obtain ⟨bb, off, hA, _, g1, g2⟩ := hx3.gr 0 (by simp)
  subst hA
  have hel := eql_arr2 4 2 4 2
  rw [show ((4 : Int) == 4 && (2 : Int) == 2) = true by decide] at hel
  have hgu := eqGuard2
  simp only [Nat.zero_mul, Nat.add_zero, List.getElem_cons_zero] at g1 g2
  have HRT := Lib.hid (Right_any 2 (some ⟨bb, off, none⟩) c1 [(4, 2)] V3 V3.heap.size (by simp) hx3.gr (Nat.le_refl _) wf_42)
  rw [aw4] at HRT
  go_wp2_with fail
  refine HRT.out.mono ?_
  rintro e w4 ⟨rfl, hb4⟩
  have hx4 := hx3.below hb4
  clear k0 k1
  have k0 := hx4.c0
  have k1 := hx4.c1
  have HL1 := Lib.hid (lit_any 2 (some ⟨bb, off, none⟩) 1 c1 7 w4 (by omega))
  rw [aw5] at HL1
  go_wp2_with fail
  refine HL1.out.mono ?_
  rintro e w5 ⟨rfl, hb5⟩
  have hx5 := hx4.below hb5
  clear k0 k1
  have k0 := hx5.c0
  have k1 := hx5.c1
  have HL2 := Lib.hid (lit_any 2 (some ⟨bb, off, none⟩) 1 c1 8 w5 (by omega))
  rw [aw6] at HL2
  go_wp2_with fail
  refine HL2.out.mono ?_
  rintro e w6 ⟨rfl, hb6⟩
  go_wp2
  go_ret
  have t4 := hl3.trans (hb4.mono hl3.size)
  have t5 := t4.trans (hb5.mono t4.size)
  exact ⟨rfl, t5.trans (hb6.mono t5.size)⟩
end Go.Proofs.Yticallikogheiaa
