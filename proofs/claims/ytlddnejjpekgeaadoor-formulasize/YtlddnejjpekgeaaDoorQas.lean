/- The reader of formulas: what ends a reading is caught. -/
import Derived.Test.YtlddnejjpekgeaaDoorQar
import Derived.Defers
import Derived.Recover
import Derived.Laws.Pointers
set_option linter.unusedSimpArgs false
set_option linter.unusedVariables false
namespace Go.Proofs.YtlddnejjpekgeaaDoor
open Go.RowKit

theorem asFaultP (v : Value) (w : World) : (Instr.typeAssert (.iface 87 v) 20 87 false).run Tryd.prog w = .ok v w := by kernel_rfl
/-- Beside three boxes all stays. -/
structure TriKeep (p B : Nat) (w w' : World) : Prop where
  os : w'.os = w.os
  tape : w'.tape = w.tape
  output : w'.output = w.output
  size : w.heap.size ≤ w'.heap.size
  blk : ∀ b, b < B → b ≠ p → b ≠ p + 1 → b ≠ p + 2 → w'.heap[b]? = w.heap[b]?
theorem TriKeep.set {q B : Nat} {a b : World} (h : TriKeep q B a b) {p : Addr} (hp : p.block = q ∨ p.block = q + 1 ∨ p.block = q + 2) (u : Value) : TriKeep q B a (b.setCell p u) :=
  ⟨h.os, h.tape, h.output, by simpa using h.size, fun i hB h0 h1 h2 => (Below.heap_setCell b p u i (fun e => by rcases hp with hp | hp | hp <;> omega)).trans (h.blk i hB h0 h1 h2)⟩
theorem TriKeep.drew {q B : Nat} {a b : World} (h : TriKeep q B a b) : TriKeep q B a b.drew := ⟨h.os, h.tape, h.output, h.size, h.blk⟩
theorem TriKeep.of {q : Nat} {a b : World} (h : Below a.heap.size a b) : TriKeep q a.heap.size a b := ⟨h.os, h.tape, h.output, h.size, fun i hi _ _ _ => h.block i hi⟩
theorem Blk.dr {w : World} {g : Nat} {t : TypeId} {cs : Array Value} (h : Blk w g t cs) : Blk w.drew g t cs := h
theorem TriKeep.rk {q R : Nat} {a b c : World} (h : TriKeep q b.heap.size b c) (k : RKeep R a b) (hq : a.heap.size ≤ q) : RKeep R a c :=
  ⟨h.os.trans k.os, h.tape.trans k.tape, h.output.trans k.output, Nat.le_trans k.size h.size, fun i hi hn => (h.blk i (Nat.lt_of_lt_of_le hi k.size) (by omega) (by omega) (by omega)).trans (k.blk i hi hn)⟩

set_option maxRecDepth 10000 in
set_option maxHeartbeats 4000000 in
theorem catchP_panicking (p : Nat) (x0 x1 x2 x3 y0 z0 : Value) (k a : Int) (older : List PanicEntry) (w : World) (hC : Blk w p 24 #[x0, x1, x2, x3]) (hE : Blk w (p + 1) 36 #[y0]) (hA : Blk w (p + 2) 3 #[z0]) :
    CallsD Tryd.prog 56 #[.pointer (some ⟨p, 0, none⟩), .pointer (some ⟨p + 1, 0, none⟩), .pointer (some ⟨p + 2, 0, none⟩)] (.panicking ({ v := .iface 87 (.agg #[.int .i64 k, .int .i64 a]), recovered := false } :: older)) w fun e u' w' =>
      e = .returned (.tuple #[]) ∧ u' = .panicking ({ v := .iface 87 (.agg #[.int .i64 k, .int .i64 a]), recovered := true } :: older) ∧ Blk w' p 24 #[.int .i64 0, .string ⟨#[]⟩, .int .i64 0, .slice none 0 0] ∧ Blk w' (p + 1) 36 #[.int .i64 k] ∧ Blk w' (p + 2) 3 #[.int .i64 a] ∧ TriKeep p w.heap.size w w' := by
  refine callsD_of_wpS Tryd.func56 rfl fun c₀ cs hu => ?_
  apply wpS_seq
  apply wpS_region
  simp [wpOpsS, go_sem, recoverD, hu, Tryd.ntmps56, Exit.thenS, show Array.replicate 15 undef = #[undef, undef, undef, undef, undef, undef, undef, undef, undef, undef, undef, undef, undef, undef, undef] from rfl]
  apply wpS_seq
  apply wpS_region
  simp [wpOpsS, go_sem, Exit.thenS]
  refine wpS_cond (t := true) (by simp [Act.eval]) ?_
  simp only [if_true]
  refine wpS_of_wp ?_
  have has := asFaultP (.agg #[.int .i64 k, .int .i64 a])
  have lo := lowAlloc w (Obj.cells #[.int .i64 k, .int .i64 a] 87)
  have hF0 := Blk.new w 87 #[.int .i64 k, .int .i64 a]
  have hC0 := hC.below lo hC.lt
  have hE0 := hE.below lo hE.lt
  have hA0 := hA.below lo hA.lt
  have hK0 := TriKeep.of (q := p) lo
  have hpg : p + 2 < w.heap.size := hA.lt
  clear hC hE hA lo
  go_upto_region 3 with fail
  generalize w.alloc (Obj.cells #[.int .i64 k, .int .i64 a] 87) = W1 at *
  generalize hg5e : w.heap.size = g5 at *
  have HG5 := Lib.hid hg5e
  clear hg5e
  have c0 := hC0.cell 0
  have c1 := hC0.cell 1
  have c2 := hC0.cell 2
  have c3 := hC0.cell 3
  have f0 := hC0.frozen 0
  have f1 := hC0.frozen 1
  have f2 := hC0.frozen 2
  have f3 := hC0.frozen 3
  have e0 := hE0.cell 0
  have e1 := hE0.frozen 0
  have a0 := hA0.cell 0
  have a1 := hA0.frozen 0
  simp only [List.getElem?_toArray, List.getElem?_cons_zero, List.getElem?_cons_succ] at c0 c1 c2 c3 e0 a0
  have hFd := hF0.dr
  refine wp_region_held_drew (S := (fun V => V.cell? ⟨g5, 0, none⟩ = some (.int .i64 k) ∧ V.cell? ⟨g5, 1, none⟩ = some (.int .i64 a))) (by kernel_rfl) (⟨hFd.cell 0, hFd.cell 1⟩) (fun hHeld => ?_)
  refine wpAnyH_take (i := 0) (oi := ⟨some 10, _, _, _, _, _⟩) (v := ?_) rfl (by kernel_rfl) (by kernel_rfl) (by kernel_rfl) (fun _ _ _ h => h) (Or.inl ⟨by rfl, ?_⟩) hHeld ?_
  rotate_left
  · intro w hSw
    (try dsimp only at hSw)
    obtain ⟨s0, s1⟩ := hSw
    first | (go_simp; done) | (go_simp; with_reducible rfl) | with_reducible rfl
  try simp only [Act.put, List.setIfInBounds_toArray, List.set_cons_zero, List.set_cons_succ]
  refine wpAnyH_take (i := 1) (oi := ⟨some 11, _, _, _, _, _⟩) (v := ?_) rfl (by kernel_rfl) (by kernel_rfl) (by kernel_rfl) (fun _ _ _ h => h) (Or.inl ⟨by rfl, ?_⟩) hHeld ?_
  rotate_left
  · intro w hSw
    (try dsimp only at hSw)
    obtain ⟨s0, s1⟩ := hSw
    first | (go_simp; done) | (go_simp; with_reducible rfl) | with_reducible rfl
  try simp only [Act.put, List.setIfInBounds_toArray, List.set_cons_zero, List.set_cons_succ]
  refine wpAnyH_take (i := 3) (oi := ⟨some 13, _, _, _, _, _⟩) (v := ?_) rfl (by kernel_rfl) (by kernel_rfl) (by kernel_rfl) (fun _ _ _ h => h) (Or.inl ⟨by rfl, ?_⟩) hHeld ?_
  rotate_left
  · intro w hSw
    (try dsimp only at hSw)
    obtain ⟨s0, s1⟩ := hSw
    first | (go_simp; done) | (go_simp; with_reducible rfl) | with_reducible rfl
  try simp only [Act.put, List.setIfInBounds_toArray, List.set_cons_zero, List.set_cons_succ]
  refine wpAnyH_take (i := 2) (oi := ⟨some 12, _, _, _, _, _⟩) (v := ?_) rfl (by kernel_rfl) (by kernel_rfl) (by kernel_rfl) (fun _ _ _ h => h) (Or.inl ⟨by rfl, ?_⟩) hHeld ?_
  rotate_left
  · intro w hSw
    (try dsimp only at hSw)
    obtain ⟨s0, s1⟩ := hSw
    first | (go_simp; done) | (go_simp; with_reducible rfl) | with_reducible rfl
  try simp only [Act.put, List.setIfInBounds_toArray, List.set_cons_zero, List.set_cons_succ]
  refine wpAnyH_take (i := 4) (oi := ⟨some 14, _, _, _, _, _⟩) (v := ?_) rfl (by kernel_rfl) (by kernel_rfl) (by kernel_rfl) (fun _ _ _ h => h) (Or.inl ⟨by rfl, ?_⟩) hHeld ?_
  rotate_left
  · intro w hSw
    (try dsimp only at hSw)
    obtain ⟨s0, s1⟩ := hSw
    first | (go_simp; done) | (go_simp; with_reducible rfl) | with_reducible rfl
  try simp only [Act.put, List.setIfInBounds_toArray, List.set_cons_zero, List.set_cons_succ]
  refine wpAnyH_ready (rs := [5]) (by kernel_rfl) (by simp) ?_
  refine AllReadyH.cons (o := ⟨none, _, _, _, _, _⟩) rfl (fun K hK => ?_) AllReadyH.nil
  go_simp
  have hG1 : Blk ((((((W1).setCell ⟨p, 0, none⟩ (.int .i64 0)).setCell ⟨p, 1, none⟩ (.string ⟨#[]⟩)).setCell ⟨p, 2, none⟩ (.int .i64 0)).setCell ⟨p, 3, none⟩ (.slice none 0 0)).drew) g5 87 #[.int .i64 k, .int .i64 a] := ((((hF0.far (p := ⟨p, 0, none⟩) (by simp only; omega) (.int .i64 0)).far (p := ⟨p, 1, none⟩) (by simp only; omega) (.string ⟨#[]⟩)).far (p := ⟨p, 2, none⟩) (by simp only; omega) (.int .i64 0)).far (p := ⟨p, 3, none⟩) (by simp only; omega) (.slice none 0 0)).dr
  have gc10 := hG1.cell 0
  have gc11 := hG1.cell 1
  simp only [List.getElem?_toArray, List.getElem?_cons_zero, List.getElem?_cons_succ] at gc10 gc11
  refine hK.out _ _ ?_ (fun hHeld => ?_)
  · exact ⟨gc10, gc11⟩
  clear hK K
  try simp only [Act.put, List.setIfInBounds_toArray, List.set_cons_zero, List.set_cons_succ]
  refine wpAnyH_ready (rs := [6]) (by kernel_rfl) (by simp) ?_
  refine AllReadyH.cons (o := ⟨none, _, _, _, _, _⟩) rfl (fun K hK => ?_) AllReadyH.nil
  go_simp
  have hG2 : Blk (((((((W1).setCell ⟨p, 0, none⟩ (.int .i64 0)).setCell ⟨p, 1, none⟩ (.string ⟨#[]⟩)).setCell ⟨p, 2, none⟩ (.int .i64 0)).setCell ⟨p, 3, none⟩ (.slice none 0 0)).setCell ⟨p + 1, 0, none⟩ (.int .i64 k)).drew) g5 87 #[.int .i64 k, .int .i64 a] := (((((hF0.far (p := ⟨p, 0, none⟩) (by simp only; omega) (.int .i64 0)).far (p := ⟨p, 1, none⟩) (by simp only; omega) (.string ⟨#[]⟩)).far (p := ⟨p, 2, none⟩) (by simp only; omega) (.int .i64 0)).far (p := ⟨p, 3, none⟩) (by simp only; omega) (.slice none 0 0)).far (p := ⟨p + 1, 0, none⟩) (by simp only; omega) (.int .i64 k)).dr
  have gc20 := hG2.cell 0
  have gc21 := hG2.cell 1
  simp only [List.getElem?_toArray, List.getElem?_cons_zero, List.getElem?_cons_succ] at gc20 gc21
  refine hK.out _ _ ?_ (fun hHeld => ?_)
  · exact ⟨gc20, gc21⟩
  clear hK K
  try simp only [Act.put, List.setIfInBounds_toArray, List.set_cons_zero, List.set_cons_succ]
  refine wpAnyH_ready (rs := [7]) (by kernel_rfl) (by simp) ?_
  refine AllReadyH.cons (o := ⟨none, _, _, _, _, _⟩) rfl (fun K hK => ?_) AllReadyH.nil
  go_simp
  have hG3 : Blk ((((((((W1).setCell ⟨p, 0, none⟩ (.int .i64 0)).setCell ⟨p, 1, none⟩ (.string ⟨#[]⟩)).setCell ⟨p, 2, none⟩ (.int .i64 0)).setCell ⟨p, 3, none⟩ (.slice none 0 0)).setCell ⟨p + 1, 0, none⟩ (.int .i64 k)).setCell ⟨p + 2, 0, none⟩ (.int .i64 a)).drew) g5 87 #[.int .i64 k, .int .i64 a] := ((((((hF0.far (p := ⟨p, 0, none⟩) (by simp only; omega) (.int .i64 0)).far (p := ⟨p, 1, none⟩) (by simp only; omega) (.string ⟨#[]⟩)).far (p := ⟨p, 2, none⟩) (by simp only; omega) (.int .i64 0)).far (p := ⟨p, 3, none⟩) (by simp only; omega) (.slice none 0 0)).far (p := ⟨p + 1, 0, none⟩) (by simp only; omega) (.int .i64 k)).far (p := ⟨p + 2, 0, none⟩) (by simp only; omega) (.int .i64 a)).dr
  have gc30 := hG3.cell 0
  have gc31 := hG3.cell 1
  simp only [List.getElem?_toArray, List.getElem?_cons_zero, List.getElem?_cons_succ] at gc30 gc31
  refine hK.out _ _ ?_ (fun hHeld => ?_)
  · exact ⟨gc30, gc31⟩
  clear hK K
  try simp only [Act.put, List.setIfInBounds_toArray, List.set_cons_zero, List.set_cons_succ]
  refine wpAnyH_done (by kernel_rfl) ?_ _
  have hC8 := ((((((hC0.put 0 (.int .i64 0)).put 1 (.string ⟨#[]⟩)).put 2 (.int .i64 0)).put 3 (.slice none 0 0)).far (p := ⟨p + 1, 0, none⟩) (by simp only; omega) (.int .i64 k)).far (p := ⟨p + 2, 0, none⟩) (by simp only; omega) (.int .i64 a))
  simp only [List.setIfInBounds_toArray, List.set_cons_zero, List.set_cons_succ] at hC8
  have hC9 : Blk ((((((((W1).setCell ⟨p, 0, none⟩ (.int .i64 0)).setCell ⟨p, 1, none⟩ (.string ⟨#[]⟩)).setCell ⟨p, 2, none⟩ (.int .i64 0)).setCell ⟨p, 3, none⟩ (.slice none 0 0)).setCell ⟨p + 1, 0, none⟩ (.int .i64 k)).setCell ⟨p + 2, 0, none⟩ (.int .i64 a)).drew) p 24 #[.int .i64 0, .string ⟨#[]⟩, .int .i64 0, .slice none 0 0] := hC8.dr
  have hE8 := ((((((hE0.far (p := ⟨p, 0, none⟩) (by simp only; omega) (.int .i64 0)).far (p := ⟨p, 1, none⟩) (by simp only; omega) (.string ⟨#[]⟩)).far (p := ⟨p, 2, none⟩) (by simp only; omega) (.int .i64 0)).far (p := ⟨p, 3, none⟩) (by simp only; omega) (.slice none 0 0)).put 0 (.int .i64 k)).far (p := ⟨p + 2, 0, none⟩) (by simp only; omega) (.int .i64 a))
  simp only [List.setIfInBounds_toArray, List.set_cons_zero, List.set_cons_succ] at hE8
  have hE9 : Blk ((((((((W1).setCell ⟨p, 0, none⟩ (.int .i64 0)).setCell ⟨p, 1, none⟩ (.string ⟨#[]⟩)).setCell ⟨p, 2, none⟩ (.int .i64 0)).setCell ⟨p, 3, none⟩ (.slice none 0 0)).setCell ⟨p + 1, 0, none⟩ (.int .i64 k)).setCell ⟨p + 2, 0, none⟩ (.int .i64 a)).drew) (p + 1) 36 #[.int .i64 k] := hE8.dr
  have hA8 := ((((((hA0.far (p := ⟨p, 0, none⟩) (by simp only; omega) (.int .i64 0)).far (p := ⟨p, 1, none⟩) (by simp only; omega) (.string ⟨#[]⟩)).far (p := ⟨p, 2, none⟩) (by simp only; omega) (.int .i64 0)).far (p := ⟨p, 3, none⟩) (by simp only; omega) (.slice none 0 0)).far (p := ⟨p + 1, 0, none⟩) (by simp only; omega) (.int .i64 k)).put 0 (.int .i64 a))
  simp only [List.setIfInBounds_toArray, List.set_cons_zero, List.set_cons_succ] at hA8
  have hA9 : Blk ((((((((W1).setCell ⟨p, 0, none⟩ (.int .i64 0)).setCell ⟨p, 1, none⟩ (.string ⟨#[]⟩)).setCell ⟨p, 2, none⟩ (.int .i64 0)).setCell ⟨p, 3, none⟩ (.slice none 0 0)).setCell ⟨p + 1, 0, none⟩ (.int .i64 k)).setCell ⟨p + 2, 0, none⟩ (.int .i64 a)).drew) (p + 2) 3 #[.int .i64 a] := hA8.dr
  have hK9 := ((((((hK0.set (p := ⟨p, 0, none⟩) (Or.inl rfl) (.int .i64 0)).set (p := ⟨p, 1, none⟩) (Or.inl rfl) (.string ⟨#[]⟩)).set (p := ⟨p, 2, none⟩) (Or.inl rfl) (.int .i64 0)).set (p := ⟨p, 3, none⟩) (Or.inl rfl) (.slice none 0 0)).set (p := ⟨p + 1, 0, none⟩) (Or.inr (Or.inl rfl)) (.int .i64 k)).set (p := ⟨p + 2, 0, none⟩) (Or.inr (Or.inr rfl)) (.int .i64 a)).drew
  change bodyPostS _ _ _ _ _ _ _ _ _
  simp [bodyPostS, results, Tryd.results56]
  rw [← HG5.out] at hK9
  exact ⟨hC9, hE9, hA9, hK9⟩

end Go.Proofs.YtlddnejjpekgeaaDoor
/- The reader of formulas: read. -/
namespace Go.Proofs.YtlddnejjpekgeaaDoor
open Go.RowKit


set_option maxHeartbeats 2000000 in
theorem catchP_idle (a b c : Value) (w : World) :
    CallsD Tryd.prog 56 #[a, b, c] .returning w fun e u' w' => e = .returned (.tuple #[]) ∧ u' = .returning ∧ w' = w := by
  refine callsD_of_wpS Tryd.func56 rfl fun c₀ cs hu => ?_
  apply wpS_seq
  apply wpS_region
  simp [wpOpsS, go_sem, recoverD, hu, Tryd.ntmps56, Exit.thenS, show Array.replicate 15 undef = #[undef, undef, undef, undef, undef, undef, undef, undef, undef, undef, undef, undef, undef, undef, undef] from rfl]
  apply wpS_seq
  apply wpS_region
  simp [wpOpsS, go_sem, Exit.thenS]
  refine wpS_cond (t := false) (by simp [Act.eval]) ?_
  simp only [Bool.false_eq_true, if_false]
  refine wpS_of_wp (wp_skip ?_)
  cases c₀
  simp_all [bodyPostS, results, Tryd.results56]

set_option maxRecDepth 10000 in
set_option maxHeartbeats 4000000 in
/-- What read answers. -/
def ReadQ (w : World) (o : Except (Nat × Nat) Fm.F) (e : Ending) (w' : World) : Prop :=
  match o with
  | .error (k, a) => e = .returned (.tuple #[.agg #[.int .i64 0, .string ⟨#[]⟩, .int .i64 0, .slice none 0 0], .int .i64 (k : Int), .int .i64 (a : Int)]) ∧ Below w.heap.size w w'
  | .ok f => ∃ v, e = .returned (.tuple #[v, .int .i64 0, .int .i64 0]) ∧ FV w' (Fr w.heap.size w'.heap.size) f v ∧ Below w.heap.size w w'

set_option maxRecDepth 10000 in
set_option maxHeartbeats 4000000 in
theorem read_any (HRT : RightC) (HAT : ∀ R, AtomC R) (b off cap : Nat) (ts : List Tk.Tok) (w : World) (hT : TL w w.heap.size b off ts) (hS : ShapeL ts) (hl : ts.length ≤ 20001) (hc : ts.length ≤ cap) :
    Calls Tryd.prog 43 #[.slice (some ⟨b, off, none⟩) ts.length cap] w (ReadQ w (Fm.parseT ts)) := by
  have hmf : ∀ (fn : Fn) (first cap : Array Value) (w : World), (Instr.makeFunc fn first cap).run Tryd.prog w = .ok (.func fn first cap) w := fun _ _ _ _ => rfl
  have hs1 : (w.alloc (Obj.cells #[.int .i64 0, .string ⟨#[]⟩, .int .i64 0, .slice none 0 0] 24)).heap.size = w.heap.size + 1 := by simp
  have hs2 : ((w.alloc (Obj.cells #[.int .i64 0, .string ⟨#[]⟩, .int .i64 0, .slice none 0 0] 24)).alloc (Obj.cells #[.int .i64 0] 36)).heap.size = w.heap.size + 2 := by simp
  have hs3 : (((w.alloc (Obj.cells #[.int .i64 0, .string ⟨#[]⟩, .int .i64 0, .slice none 0 0] 24)).alloc (Obj.cells #[.int .i64 0] 36)).alloc (Obj.cells #[.int .i64 0] 3)).heap.size = w.heap.size + 3 := by simp
  have lo1 := lowAlloc w (Obj.cells #[.int .i64 0, .string ⟨#[]⟩, .int .i64 0, .slice none 0 0] 24)
  have lo2 := lowAlloc (w.alloc (Obj.cells #[.int .i64 0, .string ⟨#[]⟩, .int .i64 0, .slice none 0 0] 24)) (Obj.cells #[.int .i64 0] 36)
  have lo3 := lowAlloc ((w.alloc (Obj.cells #[.int .i64 0, .string ⟨#[]⟩, .int .i64 0, .slice none 0 0] 24)).alloc (Obj.cells #[.int .i64 0] 36)) (Obj.cells #[.int .i64 0] 3)
  have lo4 := lowAlloc (((w.alloc (Obj.cells #[.int .i64 0, .string ⟨#[]⟩, .int .i64 0, .slice none 0 0] 24)).alloc (Obj.cells #[.int .i64 0] 36)).alloc (Obj.cells #[.int .i64 0] 3)) (Obj.cells #[.slice (some ⟨b, off, none⟩) ts.length cap] 89)
  have hC1 := Blk.new w 24 #[.int .i64 0, .string ⟨#[]⟩, .int .i64 0, .slice none 0 0]
  have hE1 := Blk.new (w.alloc (Obj.cells #[.int .i64 0, .string ⟨#[]⟩, .int .i64 0, .slice none 0 0] 24)) 36 #[.int .i64 0]
  have hI1 := Blk.new ((w.alloc (Obj.cells #[.int .i64 0, .string ⟨#[]⟩, .int .i64 0, .slice none 0 0] 24)).alloc (Obj.cells #[.int .i64 0] 36)) 3 #[.int .i64 0]
  have hR1 := Blk.new (((w.alloc (Obj.cells #[.int .i64 0, .string ⟨#[]⟩, .int .i64 0, .slice none 0 0] 24)).alloc (Obj.cells #[.int .i64 0] 36)).alloc (Obj.cells #[.int .i64 0] 3)) 89 #[.slice (some ⟨b, off, none⟩) ts.length cap]
  have hC := ((hC1.below lo2 hC1.lt).below lo3 (hC1.below lo2 hC1.lt).lt).below lo4 ((hC1.below lo2 hC1.lt).below lo3 (hC1.below lo2 hC1.lt).lt).lt
  have hE := (hE1.below lo3 hE1.lt).below lo4 (hE1.below lo3 hE1.lt).lt
  have hI := hI1.below lo4 hI1.lt
  have hk1 := ((((RKeep.refl (w.heap.size + 3) w).below lo1).below lo2).below lo3).below lo4
  have hTT : TL w (w.heap.size + 3) b off ts := ⟨by have := hT.1; omega, hT.2.1, hT.2.2⟩
  have hT1 := hTT.rk hk1
  rw [hs1] at hE
  rw [hs2] at hI
  rw [hs3] at hR1
  have hP : PR ((((w.alloc (Obj.cells #[.int .i64 0, .string ⟨#[]⟩, .int .i64 0, .slice none 0 0] 24)).alloc (Obj.cells #[.int .i64 0] 36)).alloc (Obj.cells #[.int .i64 0] 3)).alloc (Obj.cells #[.slice (some ⟨b, off, none⟩) ts.length cap] 89)) (w.heap.size + 3) ts := ⟨b, off, cap, hR1, hT1, hS, hl, hc⟩
  have HS3 := Lib.hid hs3
  clear lo1 lo2 lo3 lo4 hC1 hE1 hI1 hR1 hT1 hTT hT hS hl hc hs1 hs2 hs3
  go_enter_defers Tryd.func43, Tryd.ntmps43
  go_upto_region 3 with fail
  generalize ((((w.alloc (Obj.cells #[.int .i64 0, .string ⟨#[]⟩, .int .i64 0, .slice none 0 0] 24)).alloc (Obj.cells #[.int .i64 0] 36)).alloc (Obj.cells #[.int .i64 0] 3)).alloc (Obj.cells #[.slice (some ⟨b, off, none⟩) ts.length cap] 89)) = W1 at *
  have HW := Lib.hid (whole_any (w.heap.size + 3) HRT (HAT _) ts W1 hP)
  clear hP HS3
  go_wp2_with fail
  refine HW.out.mono ?_
  intro e w2 hQ
  have hN := hI.lt
  rcases hq : Fm.parseT ts with ⟨ka, aa⟩ | f
  · rw [hq] at hQ
    obtain ⟨rfl, hk2⟩ := hQ
    have hC2 := hk2.blkOf hC (by omega)
    have hE2 := hk2.blkOf hE (by omega)
    have hI2 := hk2.blkOf hI (by omega)
    have hk3 := hk1.trans hk2
    have hsz := hk2.size
    clear HW hC hE hI hk1 hk2
    refine leaves_cons (f := 56) (args := #[.pointer (some ⟨w.heap.size, 0, none⟩), .pointer (some ⟨w.heap.size + 1, 0, none⟩), .pointer (some ⟨w.heap.size + 2, 0, none⟩)]) (by simp) (by simp [go_sem]) ?_
    refine (catchP_panicking w.heap.size _ _ _ _ _ _ (ka : Int) (aa : Int) [] _ hC2 hE2 hI2).mono ?_
    rintro e u' w'' ⟨rfl, rfl, hc, he, ha, hk⟩
    have r0 := hc.cell 0
    have r1 := hc.cell 1
    have r2 := hc.cell 2
    have r3 := hc.cell 3
    have re := he.cell 0
    have ra := ha.cell 0
    simp only [List.getElem?_toArray, List.getElem?_cons_zero, List.getElem?_cons_succ] at r0 r1 r2 r3 re ra
    refine ⟨.tuple #[.agg #[.int .i64 0, .string ⟨#[]⟩, .int .i64 0, .slice none 0 0], .int .i64 (ka : Int), .int .i64 (aa : Int)], by simp [results, Tryd.results43, go_sem, r0, r1, r2, r3, re, ra], ?_⟩
    exact ⟨rfl, (hk.rk hk3 (Nat.le_refl _)).low (Nat.le_refl _) (by omega)⟩
  · rw [hq] at hQ
    obtain ⟨v, rfl, hF, hk2⟩ := hQ
    obtain ⟨k1, s1, l1, A1, n1, c1, rfl⟩ := hF.four
    have hC2 := hk2.blkOf hC (by omega)
    have hE2 := hk2.blkOf hE (by omega)
    have hI2 := hk2.blkOf hI (by omega)
    have hk3 := hk1.trans hk2
    have hsz : W1.heap.size ≤ w2.heap.size := hk2.size
    clear HW hC hE hI hk1 hk2
    have hKn0 : ¬ (W1.heap.size ≤ w.heap.size ∧ w.heap.size < w2.heap.size) := by omega
    have hKn1 : ¬ (W1.heap.size ≤ w.heap.size + 1 ∧ w.heap.size + 1 < w2.heap.size) := by omega
    have hKn2 : ¬ (W1.heap.size ≤ w.heap.size + 2 ∧ w.heap.size + 2 < w2.heap.size) := by omega
    have hF1 : FV w2 (Fr W1.heap.size w2.heap.size) f (.agg #[.int .i64 k1, .string s1, .int .i64 l1, .slice A1 n1 c1]) := hF
    have hF9 := ((((((hF1.far (p := ⟨w.heap.size, 0, none⟩) hKn0 (.int .i64 k1)).far (p := ⟨w.heap.size, 1, none⟩) hKn0 (.string s1)).far (p := ⟨w.heap.size, 2, none⟩) hKn0 (.int .i64 l1)).far (p := ⟨w.heap.size, 3, none⟩) hKn0 (.slice A1 n1 c1)).far (p := ⟨w.heap.size + 1, 0, none⟩) hKn1 (.int .i64 0)).far (p := ⟨w.heap.size + 2, 0, none⟩) hKn2 (.int .i64 0))
    have hF9b := hF9.more (K' := Fr w.heap.size (((((((w2).setCell ⟨w.heap.size, 0, none⟩ (.int .i64 k1)).setCell ⟨w.heap.size, 1, none⟩ (.string s1)).setCell ⟨w.heap.size, 2, none⟩ (.int .i64 l1)).setCell ⟨w.heap.size, 3, none⟩ (.slice A1 n1 c1)).setCell ⟨w.heap.size + 1, 0, none⟩ (.int .i64 0)).setCell ⟨w.heap.size + 2, 0, none⟩ (.int .i64 0)).heap.size) (fun b hb => ⟨by have := hb.1; omega, by have := hb.2; simp; omega⟩)
    have hC9 : Blk (((((((w2).setCell ⟨w.heap.size, 0, none⟩ (.int .i64 k1)).setCell ⟨w.heap.size, 1, none⟩ (.string s1)).setCell ⟨w.heap.size, 2, none⟩ (.int .i64 l1)).setCell ⟨w.heap.size, 3, none⟩ (.slice A1 n1 c1)).setCell ⟨w.heap.size + 1, 0, none⟩ (.int .i64 0)).setCell ⟨w.heap.size + 2, 0, none⟩ (.int .i64 0)) w.heap.size 24 #[.int .i64 k1, .string s1, .int .i64 l1, .slice A1 n1 c1] := by simpa using ((((((hC2.put 0 (.int .i64 k1)).put 1 (.string s1)).put 2 (.int .i64 l1)).put 3 (.slice A1 n1 c1)).far (p := ⟨w.heap.size + 1, 0, none⟩) (by simp only; omega) (.int .i64 0)).far (p := ⟨w.heap.size + 2, 0, none⟩) (by simp only; omega) (.int .i64 0))
    have hE9 : Blk (((((((w2).setCell ⟨w.heap.size, 0, none⟩ (.int .i64 k1)).setCell ⟨w.heap.size, 1, none⟩ (.string s1)).setCell ⟨w.heap.size, 2, none⟩ (.int .i64 l1)).setCell ⟨w.heap.size, 3, none⟩ (.slice A1 n1 c1)).setCell ⟨w.heap.size + 1, 0, none⟩ (.int .i64 0)).setCell ⟨w.heap.size + 2, 0, none⟩ (.int .i64 0)) (w.heap.size + 1) 36 #[.int .i64 0] := by simpa using ((((((hE2.far (p := ⟨w.heap.size, 0, none⟩) (by simp only; omega) (.int .i64 k1)).far (p := ⟨w.heap.size, 1, none⟩) (by simp only; omega) (.string s1)).far (p := ⟨w.heap.size, 2, none⟩) (by simp only; omega) (.int .i64 l1)).far (p := ⟨w.heap.size, 3, none⟩) (by simp only; omega) (.slice A1 n1 c1)).put 0 (.int .i64 0)).far (p := ⟨w.heap.size + 2, 0, none⟩) (by simp only; omega) (.int .i64 0))
    have hI9 : Blk (((((((w2).setCell ⟨w.heap.size, 0, none⟩ (.int .i64 k1)).setCell ⟨w.heap.size, 1, none⟩ (.string s1)).setCell ⟨w.heap.size, 2, none⟩ (.int .i64 l1)).setCell ⟨w.heap.size, 3, none⟩ (.slice A1 n1 c1)).setCell ⟨w.heap.size + 1, 0, none⟩ (.int .i64 0)).setCell ⟨w.heap.size + 2, 0, none⟩ (.int .i64 0)) (w.heap.size + 2) 3 #[.int .i64 0] := by simpa using ((((((hI2.far (p := ⟨w.heap.size, 0, none⟩) (by simp only; omega) (.int .i64 k1)).far (p := ⟨w.heap.size, 1, none⟩) (by simp only; omega) (.string s1)).far (p := ⟨w.heap.size, 2, none⟩) (by simp only; omega) (.int .i64 l1)).far (p := ⟨w.heap.size, 3, none⟩) (by simp only; omega) (.slice A1 n1 c1)).far (p := ⟨w.heap.size + 1, 0, none⟩) (by simp only; omega) (.int .i64 0)).put 0 (.int .i64 0))
    have hk9 := (((((((hk3.far (p := ⟨w.heap.size, 0, none⟩) (Nat.le_refl _) (.int .i64 k1)).far (p := ⟨w.heap.size, 1, none⟩) (Nat.le_refl _) (.string s1)).far (p := ⟨w.heap.size, 2, none⟩) (Nat.le_refl _) (.int .i64 l1)).far (p := ⟨w.heap.size, 3, none⟩) (Nat.le_refl _) (.slice A1 n1 c1)).far (p := ⟨w.heap.size + 1, 0, none⟩) (by simp only; omega) (.int .i64 0)).far (p := ⟨w.heap.size + 2, 0, none⟩) (by simp only; omega) (.int .i64 0))).low (B := w.heap.size) (Nat.le_refl _) (by omega)
    have HC9 := Lib.hid hC9
    have HE9 := Lib.hid hE9
    have HI9 := Lib.hid hI9
    have HF9 := Lib.hid hF9b
    have HK9 := Lib.hid hk9
    have r0 := hC2.cell 0
    have r1 := hC2.cell 1
    have r2 := hC2.cell 2
    have r3 := hC2.cell 3
    simp only [List.getElem?_toArray, List.getElem?_cons_zero, List.getElem?_cons_succ] at r0 r1 r2 r3
    have q0 := hC2.frozen 0
    have q1 := hC2.frozen 1
    have q2 := hC2.frozen 2
    have q3 := hC2.frozen 3
    have e0 := hE2.cell 0
    have e1 := hE2.frozen 0
    have i0 := hI2.cell 0
    have i1 := hI2.frozen 0
    simp only [List.getElem?_toArray, List.getElem?_cons_zero] at e0 i0
    clear hF hF1 hF9 hF9b hC9 hE9 hI9 hk9 hk3 hC2 hE2 hI2 hKn0 hKn1 hKn2
    go_wp2
    clear r0 r1 r2 r3 q0 q1 q2 q3 e0 e1 i0 i1
    generalize ((((((w2).setCell ⟨w.heap.size, 0, none⟩ (.int .i64 k1)).setCell ⟨w.heap.size, 1, none⟩ (.string s1)).setCell ⟨w.heap.size, 2, none⟩ (.int .i64 l1)).setCell ⟨w.heap.size, 3, none⟩ (.slice A1 n1 c1)).setCell ⟨w.heap.size + 1, 0, none⟩ (.int .i64 0)).setCell ⟨w.heap.size + 2, 0, none⟩ (.int .i64 0) = V9 at *
    refine leaves_cons (f := 56) (args := #[.pointer (some ⟨w.heap.size, 0, none⟩), .pointer (some ⟨w.heap.size + 1, 0, none⟩), .pointer (some ⟨w.heap.size + 2, 0, none⟩)]) (by simp) (by simp [go_sem]) ?_
    refine (catchP_idle _ _ _ _).mono ?_
    rintro e u' w'' ⟨rfl, rfl, rfl⟩
    have r0 := HC9.out.cell 0
    have r1 := HC9.out.cell 1
    have r2 := HC9.out.cell 2
    have r3 := HC9.out.cell 3
    have re := HE9.out.cell 0
    have ra := HI9.out.cell 0
    simp only [List.getElem?_toArray, List.getElem?_cons_zero, List.getElem?_cons_succ] at r0 r1 r2 r3 re ra
    refine ⟨.tuple #[.agg #[.int .i64 k1, .string s1, .int .i64 l1, .slice A1 n1 c1], .int .i64 0, .int .i64 0], by simp [results, Tryd.results43, go_sem, r0, r1, r2, r3, re, ra], ?_⟩
    rw [hq]
    exact ⟨_, rfl, HF9.out, HK9.out⟩

end Go.Proofs.YtlddnejjpekgeaaDoor
