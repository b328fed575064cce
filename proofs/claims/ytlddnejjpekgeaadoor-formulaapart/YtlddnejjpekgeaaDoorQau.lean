/- Formulas in memory: the table of the kinds. -/
import Derived.Test.YtlddnejjpekgeaaDoorQat
import Derived.MapKept
set_option linter.unusedSimpArgs false
set_option linter.unusedVariables false
namespace Go.Proofs.YtlddnejjpekgeaaDoor
open Go.RowKit

/-- Block b of w is o. -/
def Hq (w : World) (b : Nat) (o : Obj) : Prop := w.heap[b]? = some o
theorem Hq.lt {w : World} {b : Nat} {o : Obj} (h : Hq w b o) : b < w.heap.size := (Array.getElem?_eq_some_iff.1 h).1
theorem Hq.below {w w' : World} {b B : Nat} {o : Obj} (h : Hq w b o) (hb : Below B w w') (hB : b < B) : Hq w' b o := (hb.block b hB).trans h
theorem Hq.grown {w w' : World} {b : Nat} {o : Obj} {row : Option Nat} (h : Hq w b o) (hg : w.grownBy w' row) (hne : some b ≠ row) : Hq w' b o := (hg.block b h.lt hne).trans h
theorem Hq.new (w : World) (o : Obj) : Hq (w.alloc o) w.heap.size o := heap_alloc_new w o
theorem Hq.drew {w : World} {b : Nat} {o : Obj} (h : Hq w b o) : Hq w.drew b o := h
theorem setq_grown {w : World} {b : Nat} {o : Obj} (h : Hq w b o) (o' : Obj) : Hq { w with heap := w.heap.setIfInBounds b o' } b o' ∧ w.grownBy { w with heap := w.heap.setIfInBounds b o' } (some b) := by
  have hlt := h.lt
  refine ⟨by simp [Hq, hlt], rfl, rfl, rfl, by simp, fun i _ hne => ?_⟩
  have : b ≠ i := fun e => hne (by rw [e])
  simp [this]
theorem belowq_grown {w V V' : World} {B b : Nat} (h : Below B w V) (hg : V.grownBy V' (some b)) (hB : B ≤ b) (hs : B ≤ V.heap.size) : Below B w V' :=
  h.grown hg hs (fun k e => by injection e with e; omega)
/-- What the table holds of a kind. -/
def kV : Nat → Value
  | 0 => .agg #[.int .i64 0, .string ⟨#[102, 97, 108, 115, 101]⟩, .string ⟨#[]⟩, .string ⟨#[]⟩, .bool false]
  | 1 => .agg #[.int .i64 0, .string ⟨#[116, 114, 117, 101]⟩, .string ⟨#[]⟩, .string ⟨#[]⟩, .bool false]
  | 2 => .agg #[.int .i64 0, .string ⟨#[]⟩, .string ⟨#[]⟩, .string ⟨#[]⟩, .bool false]
  | 3 => .agg #[.int .i64 1, .string ⟨#[33]⟩, .string ⟨#[]⟩, .string ⟨#[]⟩, .bool false]
  | 4 => .agg #[.int .i64 2, .string ⟨#[]⟩, .string ⟨#[32, 38, 32]⟩, .string ⟨#[]⟩, .bool true]
  | 5 => .agg #[.int .i64 2, .string ⟨#[]⟩, .string ⟨#[32, 124, 32]⟩, .string ⟨#[]⟩, .bool true]
  | 6 => .agg #[.int .i64 2, .string ⟨#[]⟩, .string ⟨#[32, 45, 62, 32]⟩, .string ⟨#[]⟩, .bool true]
  | 7 => .agg #[.int .i64 2, .string ⟨#[]⟩, .string ⟨#[32, 60, 45, 62, 32]⟩, .string ⟨#[]⟩, .bool true]
  | 8 => .agg #[.int .i64 1, .string ⟨#[69, 88, 32]⟩, .string ⟨#[]⟩, .string ⟨#[]⟩, .bool false]
  | 9 => .agg #[.int .i64 1, .string ⟨#[65, 88, 32]⟩, .string ⟨#[]⟩, .string ⟨#[]⟩, .bool false]
  | 10 => .agg #[.int .i64 1, .string ⟨#[69, 70, 32]⟩, .string ⟨#[]⟩, .string ⟨#[]⟩, .bool false]
  | 11 => .agg #[.int .i64 1, .string ⟨#[65, 70, 32]⟩, .string ⟨#[]⟩, .string ⟨#[]⟩, .bool false]
  | 12 => .agg #[.int .i64 1, .string ⟨#[69, 71, 32]⟩, .string ⟨#[]⟩, .string ⟨#[]⟩, .bool false]
  | 13 => .agg #[.int .i64 1, .string ⟨#[65, 71, 32]⟩, .string ⟨#[]⟩, .string ⟨#[]⟩, .bool false]
  | 14 => .agg #[.int .i64 2, .string ⟨#[69, 32, 91]⟩, .string ⟨#[32, 85, 32]⟩, .string ⟨#[93]⟩, .bool false]
  | 15 => .agg #[.int .i64 2, .string ⟨#[65, 32, 91]⟩, .string ⟨#[32, 85, 32]⟩, .string ⟨#[93]⟩, .bool false]
  | 16 => .agg #[.int .i64 2, .string ⟨#[69, 32, 91]⟩, .string ⟨#[32, 82, 32]⟩, .string ⟨#[93]⟩, .bool false]
  | 17 => .agg #[.int .i64 2, .string ⟨#[65, 32, 91]⟩, .string ⟨#[32, 82, 32]⟩, .string ⟨#[93]⟩, .bool false]
  | _ => .agg #[.int .i64 0, .string ⟨#[]⟩, .string ⟨#[]⟩, .string ⟨#[]⟩, .bool false]
def kE (i : Nat) : MapEntry := ⟨.int .i64 ((i : Int) + 1), kV i, i⟩
def kEs (n : Nat) : List MapEntry := (List.range n).map kE
theorem kEs_succ (n : Nat) : kEs (n + 1) = kEs n ++ [MapEntry.mk (.int .i64 ((n : Int) + 1)) (kV n) n] := by
  unfold kEs
  rw [List.range_succ, List.map_append]
  rfl
theorem keyI (j : Int) : MapKept.IsKey (.int .i64) (.int .i64 j) := by simp [MapKept.IsKey]
theorem kEs_keys (n : Nat) : ∀ x ∈ kEs n, MapKept.IsKey (.int .i64) x.key := by
  intro x hx
  obtain ⟨i, _, rfl⟩ := List.mem_map.1 hx
  exact keyI _
theorem kEs_get (n i : Nat) (h : i < n) : (kEs n)[i]? = some (kE i) := by
  unfold kEs
  rw [List.getElem?_map, List.getElem?_range h]
  rfl
theorem kfind_none (n : Nat) (k : Int) (h : ¬ (1 ≤ k ∧ k ≤ n)) : Instr.findNow (.int .i64) (.int .i64 k) (kEs n) 0 = some none := by
  rcases MapKept.findNow_spec (keyI k) (kEs n) 0 (kEs_keys n) with ⟨h1, _⟩ | ⟨j, e, _, h2, h3⟩
  · exact h1
  · exfalso
    obtain ⟨i, hi, rfl⟩ := List.mem_map.1 (List.mem_of_getElem? h2)
    have hi := List.mem_range.1 hi
    simp only [kE, Value.int.injEq, true_and] at h3
    omega
theorem kfind_some (n i : Nat) (h : i < n) : Instr.findNow (.int .i64) (.int .i64 ((i : Int) + 1)) (kEs n) 0 = some (some (i, kV i)) := by
  rcases MapKept.findNow_spec (keyI ((i : Int) + 1)) (kEs n) 0 (kEs_keys n) with ⟨_, h2⟩ | ⟨j, e, h1, h2, h3⟩
  · exact absurd rfl (h2 (kE i) (List.mem_of_getElem? (kEs_get n i h)))
  · have hj : j < n := by
      have := (List.getElem?_eq_some_iff.1 h2).1
      simpa [kEs] using this
    rw [kEs_get n j hj] at h2
    injection h2 with h2
    subst h2
    simp only [kE, Value.int.injEq, true_and] at h3
    obtain rfl : j = i := by omega
    rw [h1, Nat.zero_add]
    rfl
theorem kstore (w : World) (b n : Nat) (hb : Hq w b (.map (kEs n).toArray n)) :
    ∃ wn, (Instr.mapUpdate 64 (.map (some b)) (.int .i64 ((n : Int) + 1)) (kV n)).run Tryd.prog w = .ok () wn ∧ Hq wn b (.map (kEs (n + 1)).toArray (n + 1)) ∧ w.grownBy wn (some b) := by
  have hs := setq_grown hb (.map (kEs (n + 1)).toArray (n + 1))
  have hf := kfind_none n ((n : Int) + 1) (by omega)
  refine ⟨_, ?_, hs.1, hs.2⟩
  simp only [Instr.mapUpdate, Sem.run_bind, run_underlying Tryd.underlying64, Result.andThen, MapKept.run_getObj_map hb, MapKept.run_checkKey Tryd.underlying3 (keyI ((n : Int) + 1)), MapKept.run_findKey Tryd.underlying3 hf]
  rw [MapKept.run_setObj_map _ hb, kEs_succ]
  simp
/-- The value m is the table of the kinds. -/
def KT (w : World) (m : Value) : Prop := ∃ b, m = .map (some b) ∧ Hq w b (.map (kEs 18).toArray 18)
theorem KT.on {w w' : World} {m : Value} (h : KT w m) (hb : Below w.heap.size w w') : KT w' m := by
  obtain ⟨b, e, hm⟩ := h
  exact ⟨b, e, hm.below hb hm.lt⟩
def kOf (k : Int) : Value := if 1 ≤ k ∧ k ≤ 18 then kV (k.toNat - 1) else kV 18
theorem klook {w : World} {m : Value} (h : KT w m) (k : Int) (ok : Bool) :
    (Instr.lookup 65 m (.int .i64 k) ok).run Tryd.prog w = .ok (if ok = true then .tuple #[kOf k, .bool (decide (1 ≤ k ∧ k ≤ 18))] else kOf k) w := by
  obtain ⟨b, rfl, hb⟩ := h
  have hz : (zeroValue 77).run Tryd.prog w = .ok (kV 18) w := by kernel_rfl
  by_cases hk : 1 ≤ k ∧ k ≤ 18
  · obtain ⟨i, rfl⟩ : ∃ i : Nat, k = (i : Int) + 1 := ⟨k.toNat - 1, by omega⟩
    have hf := kfind_some 18 i (by omega)
    simp only [Instr.lookup, Sem.run_bind, run_underlying Tryd.underlying65, Result.andThen, MapKept.run_getObj_map hb, Sem.run_pure, MapKept.run_checkKey Tryd.underlying3 (keyI ((i : Int) + 1)), MapKept.run_findKey Tryd.underlying3 hf]
    have e : kOf ((i : Int) + 1) = kV i := by
      unfold kOf
      rw [if_pos hk]
      congr 1
    rw [e, decide_eq_true hk]
  · have hf := kfind_none 18 k hk
    simp only [Instr.lookup, Sem.run_bind, run_underlying Tryd.underlying65, Result.andThen, MapKept.run_getObj_map hb, Sem.run_pure, MapKept.run_checkKey Tryd.underlying3 (keyI k), MapKept.run_findKey Tryd.underlying3 hf, hz]
    have e : kOf k = kV 18 := by
      unfold kOf
      rw [if_neg hk]
    rw [e, decide_eq_false hk]
/-- What is told of a kind, in the words of the mathematics. -/
theorem kOf_is (k : Int) : kOf k = .agg #[.int .i64 (kidsI k), .string (bsv (Fm.befS k)), .string (bsv (Fm.betS k)), .string (bsv (Fm.behS k)), .bool (Fm.looseB k)] := by
  by_cases hk : 1 ≤ k ∧ k ≤ 18
  · obtain ⟨i, rfl⟩ : ∃ i : Nat, k = (i : Int) + 1 := ⟨k.toNat - 1, by omega⟩
    have hi : i < 18 := by omega
    have e : kOf ((i : Int) + 1) = kV i := by
      unfold kOf
      rw [if_pos hk]
      congr 1
    rw [e]
    match i, hi with
    | 0, _ => rfl
    | 1, _ => rfl
    | 2, _ => rfl
    | 3, _ => rfl
    | 4, _ => rfl
    | 5, _ => rfl
    | 6, _ => rfl
    | 7, _ => rfl
    | 8, _ => rfl
    | 9, _ => rfl
    | 10, _ => rfl
    | 11, _ => rfl
    | 12, _ => rfl
    | 13, _ => rfl
    | 14, _ => rfl
    | 15, _ => rfl
    | 16, _ => rfl
    | 17, _ => rfl
  · unfold kOf
    rw [if_neg hk]
    have e1 : kidsI k = 0 := by
      unfold kidsI Fm.kidsN
      rw [if_neg (by omega), if_neg (by omega), if_neg (by omega)]
    have e2 : Fm.befS k = [] := by
      unfold Fm.befS
      repeat rw [if_neg (by omega)]
    have e3 : Fm.betS k = [] := by
      unfold Fm.betS
      repeat rw [if_neg (by omega)]
    have e4 : Fm.behS k = [] := by
      unfold Fm.behS
      rw [if_neg (by omega)]
    have e5 : Fm.looseB k = false := by
      unfold Fm.looseB
      exact decide_eq_false (by omega)
    rw [e1, e2, e3, e4, e5]
    rfl
theorem kids_some (k : Int) : decide (1 ≤ k ∧ k ≤ 18) = (Fm.kidsN k).isSome := by
  unfold Fm.kidsN
  by_cases h1 : 1 ≤ k ∧ k ≤ 3
  · rw [if_pos h1, decide_eq_true (by omega)]
    rfl
  · rw [if_neg h1]
    by_cases h2 : k = 4 ∨ (9 ≤ k ∧ k ≤ 14)
    · rw [if_pos h2, decide_eq_true (by omega)]
      rfl
    · rw [if_neg h2]
      by_cases h3 : (5 ≤ k ∧ k ≤ 8) ∨ (15 ≤ k ∧ k ≤ 18)
      · rw [if_pos h3, decide_eq_true (by omega)]
        rfl
      · rw [if_neg h3, decide_eq_false (by omega)]
        rfl
theorem KT.km {w : World} {m : Value} (h : KT w m) : KM w m := by
  intro w' hb k
  refine ⟨bsv (Fm.befS k), bsv (Fm.betS k), bsv (Fm.behS k), Fm.looseB k, (klook (h.on hb) k true).trans ?_⟩
  rw [kOf_is, kids_some]
  rfl
set_option maxRecDepth 20000 in
set_option maxHeartbeats 4000000 in
theorem kinds_any (w : World) : Calls Tryd.prog 37 #[] w fun e w' => ∃ m, e = .returned m ∧ KT w' m ∧ Below w.heap.size w w' := by
  have hb0 : Hq (w.alloc (.map #[] 0)) w.heap.size (.map (kEs 0).toArray 0) := Hq.new w _
  have lo0 := lowAlloc w (.map #[] 0)
  obtain ⟨w1, h1, hb1, hg1⟩ := kstore _ _ 0 hb0
  have lo1 := belowq_grown lo0 hg1 (Nat.le_refl _) lo0.size
  have u1 : (Instr.mapUpdate 64 (.map (some w.heap.size)) (.int .i64 1) (.agg #[.int .i64 0, .string ⟨#[102, 97, 108, 115, 101]⟩, .string ⟨#[]⟩, .string ⟨#[]⟩, .bool false])).run Tryd.prog (w.alloc (.map #[] 0)) = .ok () w1 := h1
  clear h1 hg1 hb0 lo0
  obtain ⟨w2, h2, hb2, hg2⟩ := kstore _ _ 1 hb1
  have lo2 := belowq_grown lo1 hg2 (Nat.le_refl _) lo1.size
  have u2 : (Instr.mapUpdate 64 (.map (some w.heap.size)) (.int .i64 2) (.agg #[.int .i64 0, .string ⟨#[116, 114, 117, 101]⟩, .string ⟨#[]⟩, .string ⟨#[]⟩, .bool false])).run Tryd.prog w1 = .ok () w2 := h2
  clear h2 hg2 hb1 lo1
  obtain ⟨w3, h3, hb3, hg3⟩ := kstore _ _ 2 hb2
  have lo3 := belowq_grown lo2 hg3 (Nat.le_refl _) lo2.size
  have u3 : (Instr.mapUpdate 64 (.map (some w.heap.size)) (.int .i64 3) (.agg #[.int .i64 0, .string ⟨#[]⟩, .string ⟨#[]⟩, .string ⟨#[]⟩, .bool false])).run Tryd.prog w2 = .ok () w3 := h3
  clear h3 hg3 hb2 lo2
  obtain ⟨w4, h4, hb4, hg4⟩ := kstore _ _ 3 hb3
  have lo4 := belowq_grown lo3 hg4 (Nat.le_refl _) lo3.size
  have u4 : (Instr.mapUpdate 64 (.map (some w.heap.size)) (.int .i64 4) (.agg #[.int .i64 1, .string ⟨#[33]⟩, .string ⟨#[]⟩, .string ⟨#[]⟩, .bool false])).run Tryd.prog w3 = .ok () w4 := h4
  clear h4 hg4 hb3 lo3
  obtain ⟨w5, h5, hb5, hg5⟩ := kstore _ _ 4 hb4
  have lo5 := belowq_grown lo4 hg5 (Nat.le_refl _) lo4.size
  have u5 : (Instr.mapUpdate 64 (.map (some w.heap.size)) (.int .i64 5) (.agg #[.int .i64 2, .string ⟨#[]⟩, .string ⟨#[32, 38, 32]⟩, .string ⟨#[]⟩, .bool true])).run Tryd.prog w4 = .ok () w5 := h5
  clear h5 hg5 hb4 lo4
  obtain ⟨w6, h6, hb6, hg6⟩ := kstore _ _ 5 hb5
  have lo6 := belowq_grown lo5 hg6 (Nat.le_refl _) lo5.size
  have u6 : (Instr.mapUpdate 64 (.map (some w.heap.size)) (.int .i64 6) (.agg #[.int .i64 2, .string ⟨#[]⟩, .string ⟨#[32, 124, 32]⟩, .string ⟨#[]⟩, .bool true])).run Tryd.prog w5 = .ok () w6 := h6
  clear h6 hg6 hb5 lo5
  obtain ⟨w7, h7, hb7, hg7⟩ := kstore _ _ 6 hb6
  have lo7 := belowq_grown lo6 hg7 (Nat.le_refl _) lo6.size
  have u7 : (Instr.mapUpdate 64 (.map (some w.heap.size)) (.int .i64 7) (.agg #[.int .i64 2, .string ⟨#[]⟩, .string ⟨#[32, 45, 62, 32]⟩, .string ⟨#[]⟩, .bool true])).run Tryd.prog w6 = .ok () w7 := h7
  clear h7 hg7 hb6 lo6
  obtain ⟨w8, h8, hb8, hg8⟩ := kstore _ _ 7 hb7
  have lo8 := belowq_grown lo7 hg8 (Nat.le_refl _) lo7.size
  have u8 : (Instr.mapUpdate 64 (.map (some w.heap.size)) (.int .i64 8) (.agg #[.int .i64 2, .string ⟨#[]⟩, .string ⟨#[32, 60, 45, 62, 32]⟩, .string ⟨#[]⟩, .bool true])).run Tryd.prog w7 = .ok () w8 := h8
  clear h8 hg8 hb7 lo7
  obtain ⟨w9, h9, hb9, hg9⟩ := kstore _ _ 8 hb8
  have lo9 := belowq_grown lo8 hg9 (Nat.le_refl _) lo8.size
  have u9 : (Instr.mapUpdate 64 (.map (some w.heap.size)) (.int .i64 9) (.agg #[.int .i64 1, .string ⟨#[69, 88, 32]⟩, .string ⟨#[]⟩, .string ⟨#[]⟩, .bool false])).run Tryd.prog w8 = .ok () w9 := h9
  clear h9 hg9 hb8 lo8
  obtain ⟨w10, h10, hb10, hg10⟩ := kstore _ _ 9 hb9
  have lo10 := belowq_grown lo9 hg10 (Nat.le_refl _) lo9.size
  have u10 : (Instr.mapUpdate 64 (.map (some w.heap.size)) (.int .i64 10) (.agg #[.int .i64 1, .string ⟨#[65, 88, 32]⟩, .string ⟨#[]⟩, .string ⟨#[]⟩, .bool false])).run Tryd.prog w9 = .ok () w10 := h10
  clear h10 hg10 hb9 lo9
  obtain ⟨w11, h11, hb11, hg11⟩ := kstore _ _ 10 hb10
  have lo11 := belowq_grown lo10 hg11 (Nat.le_refl _) lo10.size
  have u11 : (Instr.mapUpdate 64 (.map (some w.heap.size)) (.int .i64 11) (.agg #[.int .i64 1, .string ⟨#[69, 70, 32]⟩, .string ⟨#[]⟩, .string ⟨#[]⟩, .bool false])).run Tryd.prog w10 = .ok () w11 := h11
  clear h11 hg11 hb10 lo10
  obtain ⟨w12, h12, hb12, hg12⟩ := kstore _ _ 11 hb11
  have lo12 := belowq_grown lo11 hg12 (Nat.le_refl _) lo11.size
  have u12 : (Instr.mapUpdate 64 (.map (some w.heap.size)) (.int .i64 12) (.agg #[.int .i64 1, .string ⟨#[65, 70, 32]⟩, .string ⟨#[]⟩, .string ⟨#[]⟩, .bool false])).run Tryd.prog w11 = .ok () w12 := h12
  clear h12 hg12 hb11 lo11
  obtain ⟨w13, h13, hb13, hg13⟩ := kstore _ _ 12 hb12
  have lo13 := belowq_grown lo12 hg13 (Nat.le_refl _) lo12.size
  have u13 : (Instr.mapUpdate 64 (.map (some w.heap.size)) (.int .i64 13) (.agg #[.int .i64 1, .string ⟨#[69, 71, 32]⟩, .string ⟨#[]⟩, .string ⟨#[]⟩, .bool false])).run Tryd.prog w12 = .ok () w13 := h13
  clear h13 hg13 hb12 lo12
  obtain ⟨w14, h14, hb14, hg14⟩ := kstore _ _ 13 hb13
  have lo14 := belowq_grown lo13 hg14 (Nat.le_refl _) lo13.size
  have u14 : (Instr.mapUpdate 64 (.map (some w.heap.size)) (.int .i64 14) (.agg #[.int .i64 1, .string ⟨#[65, 71, 32]⟩, .string ⟨#[]⟩, .string ⟨#[]⟩, .bool false])).run Tryd.prog w13 = .ok () w14 := h14
  clear h14 hg14 hb13 lo13
  obtain ⟨w15, h15, hb15, hg15⟩ := kstore _ _ 14 hb14
  have lo15 := belowq_grown lo14 hg15 (Nat.le_refl _) lo14.size
  have u15 : (Instr.mapUpdate 64 (.map (some w.heap.size)) (.int .i64 15) (.agg #[.int .i64 2, .string ⟨#[69, 32, 91]⟩, .string ⟨#[32, 85, 32]⟩, .string ⟨#[93]⟩, .bool false])).run Tryd.prog w14 = .ok () w15 := h15
  clear h15 hg15 hb14 lo14
  obtain ⟨w16, h16, hb16, hg16⟩ := kstore _ _ 15 hb15
  have lo16 := belowq_grown lo15 hg16 (Nat.le_refl _) lo15.size
  have u16 : (Instr.mapUpdate 64 (.map (some w.heap.size)) (.int .i64 16) (.agg #[.int .i64 2, .string ⟨#[65, 32, 91]⟩, .string ⟨#[32, 85, 32]⟩, .string ⟨#[93]⟩, .bool false])).run Tryd.prog w15 = .ok () w16 := h16
  clear h16 hg16 hb15 lo15
  obtain ⟨w17, h17, hb17, hg17⟩ := kstore _ _ 16 hb16
  have lo17 := belowq_grown lo16 hg17 (Nat.le_refl _) lo16.size
  have u17 : (Instr.mapUpdate 64 (.map (some w.heap.size)) (.int .i64 17) (.agg #[.int .i64 2, .string ⟨#[69, 32, 91]⟩, .string ⟨#[32, 82, 32]⟩, .string ⟨#[93]⟩, .bool false])).run Tryd.prog w16 = .ok () w17 := h17
  clear h17 hg17 hb16 lo16
  obtain ⟨w18, h18, hb18, hg18⟩ := kstore _ _ 17 hb17
  have lo18 := belowq_grown lo17 hg18 (Nat.le_refl _) lo17.size
  have u18 : (Instr.mapUpdate 64 (.map (some w.heap.size)) (.int .i64 18) (.agg #[.int .i64 2, .string ⟨#[65, 32, 91]⟩, .string ⟨#[32, 82, 32]⟩, .string ⟨#[93]⟩, .bool false])).run Tryd.prog w17 = .ok () w18 := h18
  clear h18 hg18 hb17 lo17
  have hmk : (Instr.makeMap 64 none).run Tryd.prog w = .ok (.map (some w.heap.size)) (w.alloc (.map #[] 0)) := by simp [Instr.makeMap, Result.andThen]
  go_enter Tryd.func37, Tryd.ntmps37
  go_wp2
  go_ret
  exact ⟨_, rfl, ⟨_, rfl, hb18⟩, lo18⟩
end Go.Proofs.YtlddnejjpekgeaaDoor
/- Formulas in memory: size. -/
namespace Go.Proofs.YtlddnejjpekgeaaDoor
open Go.RowKit

theorem ixF (b off n c r : Nat) (hn : n ≤ 1000000) (hr : r < n) (w : World) : (Instr.indexAt 22 (.slice (some ⟨b, off, none⟩) n c) (.int .i64 (r : Int))).run Tryd.prog w = .ok (.pointer (some ⟨b, off + r * 4, none⟩)) w := by go_simp
theorem node_small {k : Int} {nm : Tk.Bs} {lit : Int} {n : Nat} (h : Fm.nodeB k nm lit n = true) : n ≤ 2 := by
  unfold Fm.nodeB at h
  simp only [Bool.and_eq_true, decide_eq_true_eq] at h
  have h1 := h.1
  unfold Fm.kidsN at h1
  split at h1
  · injection h1 with h1; omega
  · split at h1
    · injection h1 with h1; omega
    · split at h1
      · injection h1 with h1; omega
      · cases h1
theorem sizeP_le (d m : Nat) (f : Fm.F) : Fm.sizeP d m f ≤ m := by
  rw [Fm.sizeP_is]
  split
  · rename_i h; exact h.2.2
  · omega
def SizeC (d : Nat) : Prop := ∀ (f : Fm.F) (v T : Value) (m : Nat) (z y : Int) (w : World), FV w (Lo w.heap.size) f v → KM w T → m ≤ 2000 → z = (d : Int) → y = (m : Int) →
  Calls Tryd.prog 40 #[T, v, .int .i64 z, .int .i64 y] w fun e w' => e = .returned (.int .i64 (Fm.sizeP d m f : Nat)) ∧ Below w.heap.size w w'
theorem size_0 : SizeC 0 := by
  intro f v T m z y w hf hT hm hz hy
  subst hz hy
  cases f with
  | mk k nm lit ks =>
    rw [FV] at hf
    obtain ⟨A, c, rfl, hl⟩ := hf
    have lo := lowAlloc w (Obj.cells #[.int .i64 k, .string ⟨nm.toArray⟩, .int .i64 lit, .slice A ks.length c] 24)
    clear hl hT
    go_enter Tryd.func40, Tryd.ntmps40
    go_wp2
    go_ret
    exact ⟨rfl, lo⟩
set_option maxRecDepth 10000 in
set_option maxHeartbeats 4000000 in
theorem size_step (d : Nat) (hd : d < 60) (ih0 : SizeC d) : SizeC (d + 1) := by
  have ih := Lib.hid ih0
  clear ih0
  intro f v T m z y w hf hT hm hz hy
  subst hz hy
  cases f with
  | mk k nm lit ks =>
    rw [FV] at hf
    obtain ⟨A, c, rfl, hl⟩ := hf
    have lo := lowAlloc w (Obj.cells #[.int .i64 k, .string ⟨nm.toArray⟩, .int .i64 lit, .slice A ks.length c] 24)
    have hb0 := Blk.new w 24 #[.int .i64 k, .string ⟨nm.toArray⟩, .int .i64 lit, .slice A ks.length c]
    have hd0 : (((d : Int) + 1) == 0) = false := by rw [beq_eq_false_iff_ne]; omega
    by_cases hm0 : m = 0
    · subst hm0
      have HW : Hid (Fm.sizeP (d + 1) 0 (.mk k nm lit ks) = 0) := by unfold Hid; rw [Fm.sizeP, if_pos (Or.inl rfl)]
      clear hl hT hm hb0
      go_enter Tryd.func40, Tryd.ntmps40
      go_wp2
      go_ret
      exact ⟨by rw [HW.out]; rfl, lo⟩
    have hm1 : ((m : Int) == 0) = false := by rw [beq_eq_false_iff_ne]; omega
    have hlA := hl.on lo
    have hTA := hT.on lo
    have HF := Lib.hid (fits_any k nm lit A ks.length c T _ hTA)
    clear hl hT
    go_enter Tryd.func40, Tryd.ntmps40
    go_upto_region 1 with fail
    generalize w.alloc (Obj.cells #[.int .i64 k, .string ⟨nm.toArray⟩, .int .i64 lit, .slice A ks.length c] 24) = W at *
    have hWw : w.heap.size < W.heap.size := hb0.lt
    have k0 := hb0.cell 0
    have k1 := hb0.cell 1
    have k2 := hb0.cell 2
    have k3 := hb0.cell 3
    simp only [List.getElem?_toArray, List.getElem?_cons_zero, List.getElem?_cons_succ] at k0 k1 k2 k3
    go_wp2_with fail
    refine HF.out.mono ?_
    rintro e w2 ⟨rfl, hb2⟩
    clear HF k0 k1 k2 k3
    have hbF := hb0.below hb2 hb0.lt
    have hlo := lo.trans (hb2.mono lo.size)
    have hl2 := hlA.on hb2
    have hT2 := hTA.on hb2
    clear lo hlA hTA hb0 hb2
    cases hn : Fm.nodeB k nm lit ks.length with
    | false =>
      have HW : Hid (Fm.sizeP (d + 1) m (.mk k nm lit ks) = 0) := by unfold Hid; rw [Fm.sizeP, if_pos (Or.inr hn)]
      clear hn hl2 hT2 hbF
      go_wp2
      go_ret
      exact ⟨by rw [HW.out]; rfl, hlo⟩
    | true =>
      have hk2 := node_small hn
      have HW : Hid (Fm.sizeP (d + 1) m (.mk k nm lit ks) = Fm.sizeK (Fm.sizeP d) m 1 ks) := by unfold Hid; rw [Fm.sizeP, if_neg (by rw [hn]; simp [hm0])]
      clear hn
      have k3 := hbF.cell 3
      simp only [List.getElem?_toArray, List.getElem?_cons_zero, List.getElem?_cons_succ] at k3
      go_wp2
      clear k3 hd0 hm1
      have HL := Lib.hid hl2
      have HT := Lib.hid hT2
      clear hl2 hT2 hbF
      go_loopw [9, 28] (fun a i wr => ∃ (j acc : Nat), j ≤ ks.length ∧ i = .int .i64 (j : Int) ∧ a = .int .i64 (acc : Int) ∧ 1 ≤ acc ∧ acc ≤ m ∧ Fm.sizeK (Fm.sizeP d) m 1 ks = Fm.sizeK (Fm.sizeP d) m acc (ks.drop j) ∧ Below w2.heap.size w2 wr) (fun _ i _ => ks.length - (intOf i).toNat)
      case atStart => exact ⟨0, 1, Nat.zero_le _, rfl, rfl, Nat.le_refl _, by omega, rfl, Below.refl _ _⟩
      case round =>
        obtain ⟨j, acc, hj, rfl, rfl, ha1, ham, hE, hbw⟩ := hrel
        have HE := Lib.hid hE
        clear hE
        have hBW := hlo.trans (hbw.mono hlo.size)
        by_cases hlt : j < ks.length
        · obtain ⟨b, off, A', c', hA, hK, g0, g1, g2, g3, hfv⟩ := FL.at ks A 0 (HL.out.on hbw) j hlt
          subst hA
          have hix := ixF b off ks.length c j (by omega) hlt
          rw [Nat.zero_add] at g0 g1 g2 g3
          have hlB := lowAlloc wr (Obj.cells #[.int .i64 ks[j].k, .string ⟨ks[j].nm.toArray⟩, .int .i64 ks[j].lit, .slice A' ks[j].ks.length c'] 24)
          have hbB := Blk.new wr 24 #[.int .i64 ks[j].k, .string ⟨ks[j].nm.toArray⟩, .int .i64 ks[j].lit, .slice A' ks[j].ks.length c']
          have hfB := hfv.on hlB
          have hTB := (HT.out.on hbw).on hlB
          have hBB := hBW.trans (hlB.mono hBW.size)
          have hbB2 := hbw.trans (hlB.mono hbw.size)
          go_upto_region 7 with fail
          clear hix g0 g1 g2 g3 hfv hlB hK hbw hBW
          generalize wr.alloc (Obj.cells #[.int .i64 ks[j].k, .string ⟨ks[j].nm.toArray⟩, .int .i64 ks[j].lit, .slice A' ks[j].ks.length c'] 24) = W3 at *
          have q0 := hbB.cell 0
          have q1 := hbB.cell 1
          have q2 := hbB.cell 2
          have q3 := hbB.cell 3
          simp only [List.getElem?_toArray, List.getElem?_cons_zero, List.getElem?_cons_succ] at q0 q1 q2 q3
          have hle := sizeP_le d (m - acc) ks[j]
          have HS := Lib.hid (fun z y => ih.out ks[j] _ T (m - acc) z y W3 hfB hTB (by omega))
          clear hfB hTB hbB
          go_wp2_with fail
          refine (HS.out _ _ (by first | omega | (simp only [IntKind.wrap_i64]; omega)) (by first | omega | (simp only [IntKind.wrap_i64]; omega))).mono ?_
          rintro e w4 ⟨rfl, hb4⟩
          have hBn := hBB.trans (hb4.mono hBB.size)
          have hbn := hbB2.trans (hb4.mono hbB2.size)
          clear HS q0 q1 q2 q3 hb4 hBB hbB2
          have hdr : ks.drop j = ks[j] :: ks.drop (j + 1) := List.drop_eq_getElem_cons hlt
          generalize hx : Fm.sizeP d (m - acc) ks[j] = x at *
          by_cases hx0 : x = 0
          · subst hx0
            have HZ : Hid (Fm.sizeK (Fm.sizeP d) m 1 ks = 0) := by
              unfold Hid
              rw [HE.out, hdr, Fm.sizeK, if_pos hx]
            clear hdr hx
            go_wp2
            go_ret
            refine ⟨?_, hBn⟩
            rw [HW.out, HZ.out]
            rfl
          · have hx1 : ((x : Int) == 0) = false := by rw [beq_eq_false_iff_ne]; omega
            have HZ : Hid (Fm.sizeK (Fm.sizeP d) m 1 ks = Fm.sizeK (Fm.sizeP d) m (acc + x) (ks.drop (j + 1))) := by
              unfold Hid
              rw [HE.out, hdr, Fm.sizeK, hx, if_neg hx0]
            clear hdr hx
            go_wp2
            go_roundw
            case rel => exact ⟨j + 1, acc + x, by omega, by go_num, by go_num, by omega, by omega, HZ.out, hbn⟩
            case measure => simp [intOf]; omega
        · obtain rfl : j = ks.length := by omega
          go_wp2
          go_ret
          refine ⟨?_, hBW⟩
          rw [HW.out, HE.out, List.drop_length]
          rfl
theorem size_all : ∀ d, d ≤ 60 → SizeC d
  | 0, _ => size_0
  | d + 1, h => size_step d (by omega) (size_all d (by omega))
end Go.Proofs.YtlddnejjpekgeaaDoor
/- Formulas in memory: Size and Right. -/
namespace Go.Proofs.YtlddnejjpekgeaaDoor
open Go.RowKit

theorem KT.drew {w : World} {m : Value} (h : KT w m) : KT w.drew m := h
set_option maxRecDepth 10000 in
set_option maxHeartbeats 4000000 in
theorem Size_any (f : Fm.F) (v : Value) (w : World) (hf : FV w (Lo w.heap.size) f v) :
    Calls Tryd.prog 23 #[v] w fun e w' => e = .returned (.int .i64 (Fm.sizeS f : Nat)) ∧ Below w.heap.size w w' := by
  cases f with
  | mk k nm lit ks =>
    have hf0 := hf
    rw [FV] at hf
    obtain ⟨A, c, rfl, hl⟩ := hf
    have lo := lowAlloc w (Obj.cells #[.int .i64 k, .string ⟨nm.toArray⟩, .int .i64 lit, .slice A ks.length c] 24)
    have hb0 := Blk.new w 24 #[.int .i64 k, .string ⟨nm.toArray⟩, .int .i64 lit, .slice A ks.length c]
    have hfA := hf0.on lo
    clear hl hf0
    go_enter Tryd.func23, Tryd.ntmps23
    go_upto_region 1 with fail
    generalize w.alloc (Obj.cells #[.int .i64 k, .string ⟨nm.toArray⟩, .int .i64 lit, .slice A ks.length c] 24) = W at *
    have HS : Hid (∀ V T, KT V T → Below W.heap.size W V → Calls Tryd.prog 40 #[T, .agg #[.int .i64 k, .string ⟨nm.toArray⟩, .int .i64 lit, .slice A ks.length c], .int .i64 60, .int .i64 2000] V fun e w' => e = .returned (.int .i64 (Fm.sizeS (.mk k nm lit ks) : Nat)) ∧ Below V.heap.size V w') := by
      intro V T hT hb
      have := size_all 60 (Nat.le_refl _) (.mk k nm lit ks) _ T 2000 60 2000 V (hfA.on hb) hT.km (Nat.le_refl _) rfl rfl
      rw [Fm.size_is] at this
      exact this
    have HK : Hid (∀ V, Below W.heap.size W V → (V.cell? ⟨w.heap.size, 0, none⟩ = some (.int .i64 k) ∧ V.cell? ⟨w.heap.size, 1, none⟩ = some (.string ⟨nm.toArray⟩) ∧ V.cell? ⟨w.heap.size, 2, none⟩ = some (.int .i64 lit) ∧ V.cell? ⟨w.heap.size, 3, none⟩ = some (.slice A ks.length c))) := fun V hV => by
      have hb := hb0.below hV hb0.lt
      exact ⟨hb.cell 0, hb.cell 1, hb.cell 2, hb.cell 3⟩
    have HN := Lib.hid kinds_any
    have lx := Below.refl W.heap.size W
    clear hfA hb0
    go_region_held3 (fun V => V.cell? ⟨w.heap.size, 0, none⟩ = some (.int .i64 k) ∧ V.cell? ⟨w.heap.size, 1, none⟩ = some (.string ⟨nm.toArray⟩) ∧ V.cell? ⟨w.heap.size, 2, none⟩ = some (.int .i64 lit) ∧ V.cell? ⟨w.heap.size, 3, none⟩ = some (.slice A ks.length c))
      (first | exact HK.out _ lx | exact HK.out _ lx.drew)
      (first | (go_at_call 37; (with_reducible refine (HN.out _).mono ?_); rintro e w1 ⟨T, rfl, hT, hb1⟩; have hT1 := hT; replace lx := lx.drew.trans (hb1.mono lx.size))
             | (go_at_call 40; (with_reducible refine (HS.out _ _ hT1.drew lx.drew).mono ?_); rintro e w2 ⟨rfl, hb2⟩; replace lx := lx.drew.trans (hb2.mono lx.size))
             | (go_at_call 40; (with_reducible refine (HS.out _ _ hT1 lx).mono ?_); rintro e w2 ⟨rfl, hb2⟩; replace lx := lx.trans (hb2.mono lx.size)))
    go_wp2
    go_ret
    exact ⟨rfl, lo.trans (lx.mono lo.size)⟩
set_option maxRecDepth 10000 in
set_option maxHeartbeats 4000000 in
theorem Right_any (f : Fm.F) (v : Value) (w : World) (hf : FV w (Lo w.heap.size) f v) :
    Calls Tryd.prog 29 #[v] w fun e w' => e = .returned (.bool (Fm.validB f)) ∧ Below w.heap.size w w' := by
  cases f with
  | mk k nm lit ks =>
    have hf0 := hf
    rw [FV] at hf
    obtain ⟨A, c, rfl, hl⟩ := hf
    have lo := lowAlloc w (Obj.cells #[.int .i64 k, .string ⟨nm.toArray⟩, .int .i64 lit, .slice A ks.length c] 24)
    have hb0 := Blk.new w 24 #[.int .i64 k, .string ⟨nm.toArray⟩, .int .i64 lit, .slice A ks.length c]
    have HS := Lib.hid (Size_any (.mk k nm lit ks) _ _ (hf0.on lo))
    have HP := Lib.hid (Fm.size_pos (.mk k nm lit ks))
    clear hl hf0
    go_enter Tryd.func29, Tryd.ntmps29
    go_upto_region 1 with fail
    generalize w.alloc (Obj.cells #[.int .i64 k, .string ⟨nm.toArray⟩, .int .i64 lit, .slice A ks.length c] 24) = W at *
    have k0 := hb0.cell 0
    have k1 := hb0.cell 1
    have k2 := hb0.cell 2
    have k3 := hb0.cell 3
    simp only [List.getElem?_toArray, List.getElem?_cons_zero, List.getElem?_cons_succ] at k0 k1 k2 k3
    go_wp2_with fail
    refine HS.out.mono ?_
    rintro e w2 ⟨rfl, hb2⟩
    clear HS k0 k1 k2 k3
    generalize Fm.sizeS (.mk k nm lit ks) = x at *
    have hx : decide ((0 : Int) < (x : Int)) = Fm.validB (.mk k nm lit ks) := by rw [← HP.out]; simp
    have hx2 : decide (0 < x) = Fm.validB (.mk k nm lit ks) := HP.out
    clear HP
    generalize hv : Fm.validB (.mk k nm lit ks) = b at *
    have HV := Lib.hid hv
    clear hv
    go_wp2
    go_ret
    exact ⟨by rw [HV.out]; rfl, lo.trans (hb2.mono lo.size)⟩
theorem rightC : RightC := fun _ f v W hf hK => Right_any f v W (hf.more hK)
end Go.Proofs.YtlddnejjpekgeaaDoor
