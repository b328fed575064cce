/- The document's reader of texts: a latch's Next and Reset. -/
import Derived.Test.YtpejilhdhkmcjaaGreatDoorJbAl
import Derived.Test.YtpejilhdhkmcjaaGreatDoorJbbl
namespace Go.Proofs.YtpejilhdhkmcjaaGreatDoor
open Go.RowKit

/-- Every block but the taker's and one row's stays. -/
structure XK (R : Nat) (x : Option Nat) (w w' : World) : Prop where
 os : w'.os = w.os
 tape : w'.tape = w.tape
 output : w'.output = w.output
 size : w.heap.size ≤ w'.heap.size
 blk : ∀ b, b < w.heap.size → b ≠ R → some b ≠ x → w'.heap[b]? = w.heap[b]?
theorem XK.of {R : Nat} {x : Option Nat} {w w' : World} (h : RKeep R w w') : XK R x w w' := ⟨h.os, h.tape, h.output, h.size, fun b hb hR _ => h.blk b hb hR⟩
theorem XK.grown {R : Nat} {x : Option Nat} {a b c : World} (h : XK R x a b) (k : b.grownBy c x) : XK R x a c :=
 ⟨k.os.trans h.os, k.tape.trans h.tape, k.output.trans h.output, Nat.le_trans h.size k.size, fun i hi hR hx => (k.block i (Nat.lt_of_lt_of_le hi h.size) hx).trans (h.blk i hi hR hx)⟩
theorem XK.set {R : Nat} {x : Option Nat} {a b : World} (h : XK R x a b) {p : Addr} (hp : p.block = R) (u : Value) : XK R x a (b.setCell p u) :=
 ⟨h.os, h.tape, h.output, by simpa using h.size, fun i hi hR hx => (Below.heap_setCell b p u i (fun e => hR (by omega))).trans (h.blk i hi hR hx)⟩
theorem RKeep.x {R : Nat} {x : Option Nat} {V a b : World} (h : RKeep R V a) (k : XK R x a b) (hx : ∀ g, x = some g → V.heap.size ≤ g) : RKeep R V b :=
 ⟨k.os.trans h.os, k.tape.trans h.tape, k.output.trans h.output, Nat.le_trans h.size k.size, fun i hi hR => (k.blk i (Nat.lt_of_lt_of_le hi h.size) hR (fun e => by have := hx i e.symm; omega)).trans (h.blk i hi hR)⟩
/-- What a latch's Reset is, of its third number. -/
def kOf (own r : Int) : Int := if r = own then 2 else r
def badR (own r : Int) : Bool := decide (2 < kOf own r) || (decide (kOf own r = 2) && decide (r ≠ own))
theorem badR_spec (own x : Nat) (ho : 2 ≤ own) : match Ag.resetS own x with | some k => kOf own x = k ∧ badR own x = false | none => badR own x = true := by
 unfold Ag.resetS badR kOf
 by_cases h1 : x = own
 ·
  subst h1
  simp
 have h1' : ¬ (x : Int) = (own : Int) := by omega
 rw [if_neg h1, if_neg h1']
 by_cases h2 : x = 0
 ·
  subst h2
  have : ¬ ((0 : Int) = own) := by omega
  simp
 rw [if_neg h2]
 by_cases h3 : x = 1
 ·
  subst h3
  simp
 rw [if_neg h3]
 simp only
 by_cases h4 : x = 2
 ·
  subst h4
  simp
  omega
 rw [decide_eq_true (show (2 : Int) < (x : Int) by omega)]
 rfl
/-- A latch is laid down. -/
def TResetP (R : Nat) (s : Ag.Bs) (bad : Bool) (M N vL : Value) (rest : List Value) (ls : List (Int × Int)) (base : Nat) (own next r : Int) (w : World) (e : Ending) (w' : World) : Prop :=
 ∃ v', e = .returned (.tuple #[]) ∧ w'.ownsRow base 49 2 v' (ls.length + 1) (flat (ls ++ [(next, kOf own r)])) ∧ TK w' R s (bad || badR own r) (M :: N :: v' :: rest) ∧ XK R vL.ownBlock w w'
theorem flat_snoc (ls : List (Int × Int)) (x y : Int) : flat (ls ++ [(x, y)]) = flat ls ++ [.int .i64 x, .int .i64 y] := by
 induction ls with
 | nil => rfl
 | cons q t ih => simp only [List.cons_append, flat, ih]
set_option maxRecDepth 10000 in
set_option maxHeartbeats 4000000 in
theorem treset_any (R : Nat) (s : Ag.Bs) (bad : Bool) (M N vL : Value) (rest : List Value) (ls : List (Int × Int)) (base : Nat) (own next r : Int) (w : World) (h : TK w R s bad (M :: N :: vL :: rest)) (hrow : w.ownsRow base 49 2 vL ls.length (flat ls)) (hRb : R < base) (hbw : base ≤ w.heap.size) (hn : ls.length ≤ 100000) :
  Calls Tryz.prog 44 #[.pointer (some ⟨R, 0, none⟩), .int .i64 own, .int .i64 next, .int .i64 r] w (TResetP R s bad M N vL rest ls base own next r w) := by
 have HK2 : Hid (TResetP R s bad M N vL rest ls base own next r w = TResetP R s bad M N vL rest ls base own next r w) := rfl
 have hnot : ∀ (x : Bool) (w : World), (Op.unary .not (.bool x)).run Tryz.prog w = .ok (.bool (!x)) w := fun _ _ => rfl
 have c1 := h.c1
 have f1 := h.fz 1
 by_cases h1 : r = own
 ·
  have d1 : (r == own) = true := by simp [h1]
  have HKK : Hid (kOf own r = 2) := by unfold Hid kOf; rw [if_pos h1]
  have HBB : Hid ((bad || badR own r) = bad) := by unfold Hid badR; rw [HKK.out]; simp [h1]
  subst h1
  go_enter Tryz.func44, Tryz.ntmps44
  go_upto_region 5 with fail
  have hT3 := h
  have hk3 := RKeep.refl R w
  have hrow3 := hrow
  have hs3 := hbw
  clear h hrow hbw c1 f1
  skip
  obtain ⟨AL, cL, hsl⟩ := row_slice hrow3
  subst hsl
  have c4 : w.cell? ⟨R, 4, none⟩ = some (.slice AL ls.length cL) := hT3.cell 2
  have f4 := hT3.fz 4
  have hbk := Blk.new w 49 #[.int .i64 next, .int .i64 2]
  have hlow := lowAlloc w (Obj.cells #[.int .i64 next, .int .i64 2] 49)
  have hrow4 := World.ownsRow.alloc hrow3 (Obj.cells #[.int .i64 next, .int .i64 2] 49)
  have HRUN : Hid (∀ ty, ∃ v' w', (Builtin.append_ #[24, 24] ty #[.slice AL ls.length cL, .slice (some ⟨w.heap.size, 0, none⟩) 1 1]).run Tryz.prog (w.alloc (Obj.cells #[.int .i64 next, .int .i64 2] 49)) = .ok v' w' ∧ (w'.ownsRow base 49 2 v' (ls.length + 1) (flat ls ++ [.int .i64 next, .int .i64 2]) ∧ (w.alloc (Obj.cells #[.int .i64 next, .int .i64 2] 49)).grownBy w' (Value.slice AL ls.length cL).ownBlock)) := by
   intro ty
   obtain ⟨v', w', r1, r2, r3, _⟩ := app_latch (w.alloc (Obj.cells #[.int .i64 next, .int .i64 2] 49)) base ty (.slice AL ls.length cL) ls.length _ hrow4 w.heap.size 1 next 2 hbk hn (by simp; omega)
   exact ⟨v', w', r1, r2, r3⟩
  have HRB := Lib.hid (row_base hrow3)
  have hT4 := hT3.keep hlow
  have hx4 : XK R (Value.slice AL ls.length cL).ownBlock w (w.alloc (Obj.cells #[.int .i64 next, .int .i64 2] 49)) := XK.of (hk3.below hlow)
  clear hrow3 hrow4 hbk hT3 hk3 hs3 hlow
  go_wp2_with (at_builtin; go_loud (refine wpList_app rfl (.tmp 32) (.tmp 36) 24 rfl _ _ rfl rfl _ HRUN.out ?_); intro v' W4 hR4; obtain ⟨A5, c5, hsl⟩ := row_slice hR4.1; subst hsl; have hT5 := hT4.grown hR4.2 (fun e => by have := HRB.out R e.symm; omega); have c4 : W4.cell? ⟨R, 4, none⟩ = some (.slice AL ls.length cL) := hT5.cell 2; have f4 := hT5.fz 4)
  have hx5 := hx4.grown hR4.2
  have hU := hT5.put 2 (.slice A5 (ls.length + 1) c5)
  simp only [List.set_cons_succ, List.set_cons_zero] at hU
  have hx6 := hx5.set (p := ⟨R, 4, none⟩) rfl (.slice A5 (ls.length + 1) c5)
  have hrow6 := row_set hR4.1 (p := ⟨R, 4, none⟩) (by simp only; omega) (.slice A5 (ls.length + 1) c5)
  go_end0
  refine ⟨.slice A5 (ls.length + 1) c5, rfl, ?_, ?_, hx6⟩
  ·
   rw [flat_snoc, HKK.out]
   exact hrow6
  rw [HBB.out]
  exact hU
 have d1 : (r == own) = false := by simp [h1]
 have d1' : (r != own) = true := by simp [h1]
 have HKK : Hid (kOf own r = r) := by unfold Hid kOf; rw [if_neg h1]
 have HN1 := Lib.hid h1
 clear h1
 by_cases h2 : 2 < r
 ·
  have d2 : decide (2 < r) = true := decide_eq_true h2
  have HBB : Hid ((bad || badR own r) = true) := by unfold Hid badR; rw [HKK.out, d2]; simp
  go_enter Tryz.func44, Tryz.ntmps44
  go_upto_region 5 with fail
  clear c1 f1
  have hT3 := h.mark true
  have hk3 := (RKeep.refl R w).set (p := ⟨R, 1, none⟩) rfl (.bool true)
  have hrow3 := row_set hrow (p := ⟨R, 1, none⟩) (by simp only; omega) (.bool true)
  have hs3 : base ≤ (w.setCell ⟨R, 1, none⟩ (.bool true)).heap.size := by simpa using hbw
  clear h hrow hbw
  generalize w.setCell ⟨R, 1, none⟩ (.bool true) = W at *
  obtain ⟨AL, cL, hsl⟩ := row_slice hrow3
  subst hsl
  have c4 : W.cell? ⟨R, 4, none⟩ = some (.slice AL ls.length cL) := hT3.cell 2
  have f4 := hT3.fz 4
  have hbk := Blk.new W 49 #[.int .i64 next, .int .i64 r]
  have hlow := lowAlloc W (Obj.cells #[.int .i64 next, .int .i64 r] 49)
  have hrow4 := World.ownsRow.alloc hrow3 (Obj.cells #[.int .i64 next, .int .i64 r] 49)
  have HRUN : Hid (∀ ty, ∃ v' w', (Builtin.append_ #[24, 24] ty #[.slice AL ls.length cL, .slice (some ⟨W.heap.size, 0, none⟩) 1 1]).run Tryz.prog (W.alloc (Obj.cells #[.int .i64 next, .int .i64 r] 49)) = .ok v' w' ∧ (w'.ownsRow base 49 2 v' (ls.length + 1) (flat ls ++ [.int .i64 next, .int .i64 r]) ∧ (W.alloc (Obj.cells #[.int .i64 next, .int .i64 r] 49)).grownBy w' (Value.slice AL ls.length cL).ownBlock)) := by
   intro ty
   obtain ⟨v', w', r1, r2, r3, _⟩ := app_latch (W.alloc (Obj.cells #[.int .i64 next, .int .i64 r] 49)) base ty (.slice AL ls.length cL) ls.length _ hrow4 W.heap.size 1 next r hbk hn (by simp; omega)
   exact ⟨v', w', r1, r2, r3⟩
  have HRB := Lib.hid (row_base hrow3)
  have hT4 := hT3.keep hlow
  have hx4 : XK R (Value.slice AL ls.length cL).ownBlock w (W.alloc (Obj.cells #[.int .i64 next, .int .i64 r] 49)) := XK.of (hk3.below hlow)
  clear hrow3 hrow4 hbk hT3 hk3 hs3 hlow
  go_wp2_with (at_builtin; go_loud (refine wpList_app rfl (.tmp 32) (.tmp 36) 24 rfl _ _ rfl rfl _ HRUN.out ?_); intro v' W4 hR4; obtain ⟨A5, c5, hsl⟩ := row_slice hR4.1; subst hsl; have hT5 := hT4.grown hR4.2 (fun e => by have := HRB.out R e.symm; omega); have c4 : W4.cell? ⟨R, 4, none⟩ = some (.slice AL ls.length cL) := hT5.cell 2; have f4 := hT5.fz 4)
  have hx5 := hx4.grown hR4.2
  have hU := hT5.put 2 (.slice A5 (ls.length + 1) c5)
  simp only [List.set_cons_succ, List.set_cons_zero] at hU
  have hx6 := hx5.set (p := ⟨R, 4, none⟩) rfl (.slice A5 (ls.length + 1) c5)
  have hrow6 := row_set hR4.1 (p := ⟨R, 4, none⟩) (by simp only; omega) (.slice A5 (ls.length + 1) c5)
  go_end0
  refine ⟨.slice A5 (ls.length + 1) c5, rfl, ?_, ?_, hx6⟩
  ·
   rw [flat_snoc, HKK.out]
   exact hrow6
  rw [HBB.out]
  exact hU
 have d2 : decide (2 < r) = false := decide_eq_false h2
 by_cases h3 : r = 2
 ·
  have d3 : (r == 2) = true := by simp [h3]
  have HBB : Hid ((bad || badR own r) = true) := by
   have := HN1.out
   unfold Hid badR
   rw [HKK.out, d2, decide_eq_true h3, decide_eq_true (show r ≠ own from this)]
   simp
  have HN3 := Lib.hid h3
  clear h3
  go_enter Tryz.func44, Tryz.ntmps44
  go_upto_region 5 with fail
  clear c1 f1
  have hT3 := h.mark true
  have hk3 := (RKeep.refl R w).set (p := ⟨R, 1, none⟩) rfl (.bool true)
  have hrow3 := row_set hrow (p := ⟨R, 1, none⟩) (by simp only; omega) (.bool true)
  have hs3 : base ≤ (w.setCell ⟨R, 1, none⟩ (.bool true)).heap.size := by simpa using hbw
  clear h hrow hbw
  generalize w.setCell ⟨R, 1, none⟩ (.bool true) = W at *
  obtain ⟨AL, cL, hsl⟩ := row_slice hrow3
  subst hsl
  have c4 : W.cell? ⟨R, 4, none⟩ = some (.slice AL ls.length cL) := hT3.cell 2
  have f4 := hT3.fz 4
  have hbk := Blk.new W 49 #[.int .i64 next, .int .i64 r]
  have hlow := lowAlloc W (Obj.cells #[.int .i64 next, .int .i64 r] 49)
  have hrow4 := World.ownsRow.alloc hrow3 (Obj.cells #[.int .i64 next, .int .i64 r] 49)
  have HRUN : Hid (∀ ty, ∃ v' w', (Builtin.append_ #[24, 24] ty #[.slice AL ls.length cL, .slice (some ⟨W.heap.size, 0, none⟩) 1 1]).run Tryz.prog (W.alloc (Obj.cells #[.int .i64 next, .int .i64 r] 49)) = .ok v' w' ∧ (w'.ownsRow base 49 2 v' (ls.length + 1) (flat ls ++ [.int .i64 next, .int .i64 r]) ∧ (W.alloc (Obj.cells #[.int .i64 next, .int .i64 r] 49)).grownBy w' (Value.slice AL ls.length cL).ownBlock)) := by
   intro ty
   obtain ⟨v', w', r1, r2, r3, _⟩ := app_latch (W.alloc (Obj.cells #[.int .i64 next, .int .i64 r] 49)) base ty (.slice AL ls.length cL) ls.length _ hrow4 W.heap.size 1 next r hbk hn (by simp; omega)
   exact ⟨v', w', r1, r2, r3⟩
  have HRB := Lib.hid (row_base hrow3)
  have hT4 := hT3.keep hlow
  have hx4 : XK R (Value.slice AL ls.length cL).ownBlock w (W.alloc (Obj.cells #[.int .i64 next, .int .i64 r] 49)) := XK.of (hk3.below hlow)
  clear hrow3 hrow4 hbk hT3 hk3 hs3 hlow
  go_wp2_with (at_builtin; go_loud (refine wpList_app rfl (.tmp 32) (.tmp 36) 24 rfl _ _ rfl rfl _ HRUN.out ?_); intro v' W4 hR4; obtain ⟨A5, c5, hsl⟩ := row_slice hR4.1; subst hsl; have hT5 := hT4.grown hR4.2 (fun e => by have := HRB.out R e.symm; omega); have c4 : W4.cell? ⟨R, 4, none⟩ = some (.slice AL ls.length cL) := hT5.cell 2; have f4 := hT5.fz 4)
  have hx5 := hx4.grown hR4.2
  have hU := hT5.put 2 (.slice A5 (ls.length + 1) c5)
  simp only [List.set_cons_succ, List.set_cons_zero] at hU
  have hx6 := hx5.set (p := ⟨R, 4, none⟩) rfl (.slice A5 (ls.length + 1) c5)
  have hrow6 := row_set hR4.1 (p := ⟨R, 4, none⟩) (by simp only; omega) (.slice A5 (ls.length + 1) c5)
  go_end0
  refine ⟨.slice A5 (ls.length + 1) c5, rfl, ?_, ?_, hx6⟩
  ·
   rw [flat_snoc, HKK.out]
   exact hrow6
  rw [HBB.out]
  exact hU
 have d3 : (r == 2) = false := by simp [h3]
 have HBB : Hid ((bad || badR own r) = bad) := by
  unfold Hid badR
  rw [HKK.out, d2, decide_eq_false h3]
  simp
 clear h3
 go_enter Tryz.func44, Tryz.ntmps44
 go_upto_region 5 with fail
 have hT3 := h
 have hk3 := RKeep.refl R w
 have hrow3 := hrow
 have hs3 := hbw
 clear h hrow hbw c1 f1
 skip
 obtain ⟨AL, cL, hsl⟩ := row_slice hrow3
 subst hsl
 have c4 : w.cell? ⟨R, 4, none⟩ = some (.slice AL ls.length cL) := hT3.cell 2
 have f4 := hT3.fz 4
 have hbk := Blk.new w 49 #[.int .i64 next, .int .i64 r]
 have hlow := lowAlloc w (Obj.cells #[.int .i64 next, .int .i64 r] 49)
 have hrow4 := World.ownsRow.alloc hrow3 (Obj.cells #[.int .i64 next, .int .i64 r] 49)
 have HRUN : Hid (∀ ty, ∃ v' w', (Builtin.append_ #[24, 24] ty #[.slice AL ls.length cL, .slice (some ⟨w.heap.size, 0, none⟩) 1 1]).run Tryz.prog (w.alloc (Obj.cells #[.int .i64 next, .int .i64 r] 49)) = .ok v' w' ∧ (w'.ownsRow base 49 2 v' (ls.length + 1) (flat ls ++ [.int .i64 next, .int .i64 r]) ∧ (w.alloc (Obj.cells #[.int .i64 next, .int .i64 r] 49)).grownBy w' (Value.slice AL ls.length cL).ownBlock)) := by
  intro ty
  obtain ⟨v', w', r1, r2, r3, _⟩ := app_latch (w.alloc (Obj.cells #[.int .i64 next, .int .i64 r] 49)) base ty (.slice AL ls.length cL) ls.length _ hrow4 w.heap.size 1 next r hbk hn (by simp; omega)
  exact ⟨v', w', r1, r2, r3⟩
 have HRB := Lib.hid (row_base hrow3)
 have hT4 := hT3.keep hlow
 have hx4 : XK R (Value.slice AL ls.length cL).ownBlock w (w.alloc (Obj.cells #[.int .i64 next, .int .i64 r] 49)) := XK.of (hk3.below hlow)
 clear hrow3 hrow4 hbk hT3 hk3 hs3 hlow
 go_wp2_with (at_builtin; go_loud (refine wpList_app rfl (.tmp 32) (.tmp 36) 24 rfl _ _ rfl rfl _ HRUN.out ?_); intro v' W4 hR4; obtain ⟨A5, c5, hsl⟩ := row_slice hR4.1; subst hsl; have hT5 := hT4.grown hR4.2 (fun e => by have := HRB.out R e.symm; omega); have c4 : W4.cell? ⟨R, 4, none⟩ = some (.slice AL ls.length cL) := hT5.cell 2; have f4 := hT5.fz 4)
 have hx5 := hx4.grown hR4.2
 have hU := hT5.put 2 (.slice A5 (ls.length + 1) c5)
 simp only [List.set_cons_succ, List.set_cons_zero] at hU
 have hx6 := hx5.set (p := ⟨R, 4, none⟩) rfl (.slice A5 (ls.length + 1) c5)
 have hrow6 := row_set hR4.1 (p := ⟨R, 4, none⟩) (by simp only; omega) (.slice A5 (ls.length + 1) c5)
 go_end0
 refine ⟨.slice A5 (ls.length + 1) c5, rfl, ?_, ?_, hx6⟩
 ·
  rw [flat_snoc, HKK.out]
  exact hrow6
 rw [HBB.out]
 exact hU
end Go.Proofs.YtpejilhdhkmcjaaGreatDoor
