/- What Made of layer 4 keeps in its boxes; append as a step. -/
import Derived.Test.YtpejilhdhkmcjaaGreatDoorJbAl
import Derived.Test.YtpejilhdhkmcjaaGreatDoorJbaq
namespace Go.Proofs.YtpejilhdhkmcjaaGreatDoor
open Go.RowKit

theorem wpList_app {ops : Array Oper} {rest : List Oper} {o : Oper} {a : Act} {Q : Exit → Act → World → Prop} {w : World} (hgd : o.guard = none) (s x : Operand) (t : TypeId)
  (ho : o.op = .call { callee := .builtin .append, args := #[s, x], argTypes := #[t, t] }) (v arg : Value) (hs1 : a.eval s = v) (hx : a.eval x = arg) (R : Value → World → Prop)
  (hrun : ∀ ty, ∃ v' w', (Builtin.append_ #[t, t] ty #[v, arg]).run Tryz.prog w = .ok v' w' ∧ R v' w')
  (h : ∀ v' w', R v' w' → wpList Tryz.prog ops Q rest (a.put o.dst v') w') : wpList Tryz.prog ops Q (o :: rest) a w := by
 refine wpList_plain hgd fun K hK => ?_
 obtain ⟨v', w', hr, hR⟩ := hrun o.type
 unfold Oper.wp execOp
 simp only [ho, resolve, invoke, builtin, Sem.run_bind, Sem.run_pure, Result.andThen_ok, List.map_toArray, List.map_cons, List.map_nil, hs1, hx, hr]
 exact hK _ _ (h v' w' hR)
theorem oper_app {o : Oper} {a : Act} {K : Act → World → Prop} {Q : Exit → Act → World → Prop} {w : World} (s x : Operand) (t : TypeId)
  (ho : o.op = .call { callee := .builtin .append, args := #[s, x], argTypes := #[t, t] }) (v arg : Value) (hs1 : a.eval s = v) (hx : a.eval x = arg) (R : Value → World → Prop)
  (hrun : ∀ ty, ∃ v' w', (Builtin.append_ #[t, t] ty #[v, arg]).run Tryz.prog w = .ok v' w' ∧ R v' w')
  (h : ∀ v' w', R v' w' → K (a.put o.dst v') w') : Oper.wp Tryz.prog o a w K Q := by
 obtain ⟨v', w', hr, hR⟩ := hrun o.type
 unfold Oper.wp execOp
 simp only [ho, resolve, invoke, builtin, Sem.run_bind, Sem.run_pure, Result.andThen_ok, List.map_toArray, List.map_cons, List.map_nil, hs1, hx, hr]
 exact h v' w' hR

/-- The boxes of Made: its argument (block hL), the result's (hR), the place (hA), the circuit's (hC). -/
structure MB (w wr : World) (hL hR hA hC : Nat) (A0 : Option Addr) (c0 : Nat) (zs : List Int) (a : Nat) (x0 x1 x2 x3 x4 x5 x6 x7 : Value) : Prop where
 eL : hL = w.heap.size
 eR : hR = w.heap.size + 1
 eA : hA = w.heap.size + 2
 eC : hC = w.heap.size + 3
 low : Below w.heap.size w wr
 lb : Blk wr hL 34 #[.slice A0 zs.length c0]
 rb : Blk wr hR 29 #[.int .i64 0, .slice none 0 0, .slice none 0 0, .slice none 0 0, .slice none 0 0, .slice none 0 0, .slice none 0 0, .slice none 0 0]
 ab : Blk wr hA 3 #[.int .i64 (a : Int)]
 cb : Blk wr hC 29 #[x0, x1, x2, x3, x4, x5, x6, x7]
section
variable {w wr wn : World} {hL hR hA hC : Nat} {A0 : Option Addr} {c0 : Nat} {zs : List Int} {a : Nat} {x0 x1 x2 x3 x4 x5 x6 x7 : Value}
theorem MB.size (h : MB w wr hL hR hA hC A0 c0 zs a x0 x1 x2 x3 x4 x5 x6 x7) : w.heap.size + 4 ≤ wr.heap.size := by have := h.cb.lt; have := h.eC; omega
theorem MB.grown (h : MB w wr hL hR hA hC A0 c0 zs a x0 x1 x2 x3 x4 x5 x6 x7) {row : Option Nat} (hg : wr.grownBy wn row) (hr : ∀ k, row = some k → w.heap.size + 4 ≤ k) : MB w wn hL hR hA hC A0 c0 zs a x0 x1 x2 x3 x4 x5 x6 x7 := by
 have e1 := h.eL
 have e2 := h.eR
 have e3 := h.eA
 have e4 := h.eC
 exact ⟨e1, e2, e3, e4, h.low.grown hg h.low.size (fun k e => by have := hr k e; omega), h.lb.grown hg (fun e => by have := hr _ e.symm; omega), h.rb.grown hg (fun e => by have := hr _ e.symm; omega), h.ab.grown hg (fun e => by have := hr _ e.symm; omega), h.cb.grown hg (fun e => by have := hr _ e.symm; omega)⟩
theorem MB.below (h : MB w wr hL hR hA hC A0 c0 zs a x0 x1 x2 x3 x4 x5 x6 x7) (hb : Below wr.heap.size wr wn) : MB w wn hL hR hA hC A0 c0 zs a x0 x1 x2 x3 x4 x5 x6 x7 :=
 ⟨h.eL, h.eR, h.eA, h.eC, h.low.trans (hb.mono h.low.size), h.lb.below hb h.lb.lt, h.rb.below hb h.rb.lt, h.ab.below hb h.ab.lt, h.cb.below hb h.cb.lt⟩
theorem MB.alloc (h : MB w wr hL hR hA hC A0 c0 zs a x0 x1 x2 x3 x4 x5 x6 x7) (o : Obj) : MB w (wr.alloc o) hL hR hA hC A0 c0 zs a x0 x1 x2 x3 x4 x5 x6 x7 := h.below (lowAlloc wr o)
theorem MB.drew (h : MB w wr hL hR hA hC A0 c0 zs a x0 x1 x2 x3 x4 x5 x6 x7) : MB w wr.drew hL hR hA hC A0 c0 zs a x0 x1 x2 x3 x4 x5 x6 x7 := ⟨h.eL, h.eR, h.eA, h.eC, h.low.drew, h.lb, h.rb, h.ab, h.cb⟩
theorem MB.pick (h : MB w wr hL hR hA hC A0 c0 zs a x0 x1 x2 x3 x4 x5 x6 x7) : MB w (wr.setCell ⟨hA, 0, none⟩ (.int .i64 ((a : Int) + 1))) hL hR hA hC A0 c0 zs (a + 1) x0 x1 x2 x3 x4 x5 x6 x7 := by
 have e1 := h.eL
 have e2 := h.eR
 have e3 := h.eA
 have e4 := h.eC
 refine ⟨e1, e2, e3, e4, h.low.setCell (by simp; omega) _, h.lb.far (by simp; omega) _, h.rb.far (by simp; omega) _, ?_, h.cb.far (by simp; omega) _⟩
 have := h.ab.put 0 (.int .i64 ((a : Int) + 1))
 simpa using this
/-- The field at a place of the circuit's box is written. -/
theorem MB.put (h : MB w wr hL hR hA hC A0 c0 zs a x0 x1 x2 x3 x4 x5 x6 x7) (i : Nat) (u : Value) {y0 y1 y2 y3 y4 y5 y6 y7 : Value} (he : (#[x0, x1, x2, x3, x4, x5, x6, x7] : Array Value).setIfInBounds i u = #[y0, y1, y2, y3, y4, y5, y6, y7]) :
  MB w (wr.setCell ⟨hC, i, none⟩ u) hL hR hA hC A0 c0 zs a y0 y1 y2 y3 y4 y5 y6 y7 := by
 have e1 := h.eL
 have e2 := h.eR
 have e3 := h.eA
 have e4 := h.eC
 refine ⟨e1, e2, e3, e4, h.low.setCell (by simp; omega) _, h.lb.far (by simp; omega) _, h.rb.far (by simp; omega) _, h.ab.far (by simp; omega) _, ?_⟩
 have := h.cb.put i u
 rwa [he] at this
/-- pick: what it answers, and that only the place has turned. -/
theorem MB.call (h : MB w wr hL hR hA hC A0 c0 zs a x0 x1 x2 x3 x4 x5 x6 x7) (hU : Us w w.heap.size A0 zs) (hlen : zs.length ≤ maxLen) (ha : a ≤ 100000) (n : Int) (hn : 0 < n) (hn1 : n ≤ 65536) :
  Calls Tryz.prog 34 #[.int .i64 n, .pointer (some ⟨hA, 0, none⟩), .pointer (some ⟨hL, 0, none⟩)] wr fun e w' => e = .returned (.int .i64 (Cm.pickS zs a n)) ∧ MB w w' hL hR hA hC A0 c0 zs (a + 1) x0 x1 x2 x3 x4 x5 x6 x7 ∧ wr.setCell ⟨hA, 0, none⟩ (.int .i64 ((a : Int) + 1)) = w' := by
 have e1 := h.eL
 have e2 := h.eR
 have e3 := h.eA
 have e4 := h.eC
 refine (pick_any hA hL A0 c0 zs a n wr w.heap.size (by omega) (hU.below h.low (Nat.le_refl _)) hlen ha hn hn1 (by omega) (by simpa using h.ab.cell 0) (h.ab.frozen 0) (by simpa using h.lb.cell 0)).mono ?_
 rintro e w' ⟨r1, r2⟩
 exact ⟨r1, r2 ▸ h.pick, r2⟩
end
/-- A row of the call's own stays, whatever is written elsewhere below it. -/
theorem row_set {w : World} {base : Nat} {e : TypeId} {size : Nat} {v : Value} {n : Nat} {xs : List Value} (h : w.ownsRow base e size v n xs) {p : Addr} (hp : p.block < base) (u : Value) : (w.setCell p u).ownsRow base e size v n xs := by
 obtain ⟨h1, h2⟩ := h
 refine ⟨h1, ?_⟩
 rcases h2 with h2 | ⟨g, cap, cur, rfl, hb, hh, r⟩
 ·
  exact Or.inl h2
 exact Or.inr ⟨g, cap, cur, rfl, hb, (Below.heap_setCell w p u g (by omega)).trans hh, r⟩
theorem row_slice {w : World} {base : Nat} {e : TypeId} {size : Nat} {v : Value} {n : Nat} {xs : List Value} (h : w.ownsRow base e size v n xs) : ∃ A c, v = .slice A n c := by
 rcases h.2 with ⟨rfl, h0⟩ | ⟨g, cap, cur, rfl, _⟩
 ·
  exact ⟨none, 0, by rw [h0]⟩
 exact ⟨_, _, rfl⟩
theorem row_base {w : World} {base : Nat} {e : TypeId} {size : Nat} {v : Value} {n : Nat} {xs : List Value} (h : w.ownsRow base e size v n xs) : ∀ k, v.ownBlock = some k → base ≤ k := by
 intro k hk
 rcases h.2 with ⟨rfl, _⟩ | ⟨g, cap, cur, rfl, hb, _⟩
 ·
  cases hk
 simp [Value.ownBlock] at hk
 omega
end Go.Proofs.YtpejilhdhkmcjaaGreatDoor
