/- What Made of layer 4 keeps in its boxes; append as a step. -/
import Derived.Test.YtpejilhdhkmcjaaGreatDoorJaAl
import Derived.Test.YtpejilhdhkmcjaaGreatDoorJaap
namespace Go.Proofs.YtpejilhdhkmcjaaGreatDoor
open Go.RowKit

theorem wpList_app {ops : Array Oper} {rest : List Oper} {o : Oper} {a : Act} {Q : Exit → Act → World → Prop} {w : World} (hgd : o.guard = none) (s x : Operand) (t : TypeId)
  (ho : o.op = .call { callee := .builtin .append, args := #[s, x], argTypes := #[t, t] }) (v arg : Value) (hs1 : a.eval s = v) (hx : a.eval x = arg) (R : Value → World → Prop)
  (hrun : ∀ ty, ∃ v' w', (Builtin.append_ #[t, t] ty #[v, arg]).run Tryz.prog w = .ok v' w' ∧ R v' w')
  (h : ∀ v' w', R v' w' → wpList Tryz.prog ops Q rest (a.put o.dst v') w') : wpList Tryz.prog ops Q (o :: rest) a w := by
 refine wpList_plain hgd fun K hK => ?_
 obtain ⟨v', w', hr, hR⟩ := hrun o.type
 unfold Oper.wp execOp
 simp only [ho, resolve, invoke, builtin, Sem.run_bind, Sem.run_pure, Result.andThen_ok, List.map_toArray, List.map_cons, List.map_nil, hs1, hx, hr]
 exact hK _ _ (h v' w' hR)
theorem oper_app {o : Oper} {a : Act} {K : Act → World → Prop} {Q : Exit → Act → World → Prop} {w : World} (s x : Operand) (t : TypeId)
  (ho : o.op = .call { callee := .builtin .append, args := #[s, x], argTypes := #[t, t] }) (v arg : Value) (hs1 : a.eval s = v) (hx : a.eval x = arg) (R : Value → World → Prop)
  (hrun : ∀ ty, ∃ v' w', (Builtin.append_ #[t, t] ty #[v, arg]).run Tryz.prog w = .ok v' w' ∧ R v' w')
  (h : ∀ v' w', R v' w' → K (a.put o.dst v') w') : Oper.wp Tryz.prog o a w K Q := by
 obtain ⟨v', w', hr, hR⟩ := hrun o.type
 unfold Oper.wp execOp
 simp only [ho, resolve, invoke, builtin, Sem.run_bind, Sem.run_pure, Result.andThen_ok, List.map_toArray, List.map_cons, List.map_nil, hs1, hx, hr]
 exact h v' w' hR

/-- The boxes of Made: its argument (block hL), the result's (hR), the place (hA), the circuit's (hC). -/
structure MB (w wr : World) (hL hR hA hC : Nat) (A0 : Option Addr) (c0 : Nat) (zs : List Int) (a : Nat) (x0 x1 x2 x3 x4 x5 x6 x7 : Value) : Prop where
 eL : hL = w.heap.size
 eR : hR = w.heap.size + 1
 eA : hA = w.heap.size + 2
 eC : hC = w.heap.size + 3
 low : Below w.heap.size w wr
 lb : Blk wr hL 34 #[.slice A0 zs.length c0]
 rb : Blk wr hR 29 #[.int .i64 0, .slice none 0 0, .slice none 0 0, .slice none 0 0, .slice none 0 0, .slice none 0 0, .slice none 0 0, .slice none 0 0]
 ab : Blk wr hA 3 #[.int .i64 (a : Int)]
 cb : Blk wr hC 29 #[x0, x1, x2, x3, x4, x5, x6, x7]
section
variable {w wr wn : World} {hL hR hA hC : Nat} {A0 : Option Addr} {c0 : Nat} {zs : List Int} {a : Nat} {x0 x1 x2 x3 x4 x5 x6 x7 : Value}
end
/-- A row of the call's own stays, whatever is written elsewhere below it. -/
theorem row_set {w : World} {base : Nat} {e : TypeId} {size : Nat} {v : Value} {n : Nat} {xs : List Value} (h : w.ownsRow base e size v n xs) {p : Addr} (hp : p.block < base) (u : Value) : (w.setCell p u).ownsRow base e size v n xs := by
 obtain ⟨h1, h2⟩ := h
 refine ⟨h1, ?_⟩
 rcases h2 with h2 | ⟨g, cap, cur, rfl, hb, hh, r⟩
 ·
  exact Or.inl h2
 exact Or.inr ⟨g, cap, cur, rfl, hb, (Below.heap_setCell w p u g (by omega)).trans hh, r⟩
theorem row_slice {w : World} {base : Nat} {e : TypeId} {size : Nat} {v : Value} {n : Nat} {xs : List Value} (h : w.ownsRow base e size v n xs) : ∃ A c, v = .slice A n c := by
 rcases h.2 with ⟨rfl, h0⟩ | ⟨g, cap, cur, rfl, _⟩
 ·
  exact ⟨none, 0, by rw [h0]⟩
 exact ⟨_, _, rfl⟩
theorem row_base {w : World} {base : Nat} {e : TypeId} {size : Nat} {v : Value} {n : Nat} {xs : List Value} (h : w.ownsRow base e size v n xs) : ∀ k, v.ownBlock = some k → base ≤ k := by
 intro k hk
 rcases h.2 with ⟨rfl, _⟩ | ⟨g, cap, cur, rfl, hb, _⟩
 ·
  cases hk
 simp [Value.ownBlock] at hk
 omega
end Go.Proofs.YtpejilhdhkmcjaaGreatDoor
/- What stays beside the boxes of Made. -/
namespace Go.Proofs.YtpejilhdhkmcjaaGreatDoor
open Go.RowKit

/-- From W to W' the blocks below B are kept, but for the four boxes from lo on. -/
structure Out (B lo : Nat) (W W' : World) : Prop where
 le : B ≤ W'.heap.size
 blk : ∀ b, b < B → (b < lo ∨ lo + 4 ≤ b) → W'.heap[b]? = W.heap[b]?
theorem int_vs {w : World} {base : Nat} {v : Value} {zs : List Int} (h : w.ownsRow base 3 1 v zs.length (iv zs)) : ∃ A c, v = .slice A zs.length c ∧ Vs w w.heap.size A (iv zs) := by
 obtain ⟨_, h2⟩ := h
 rcases h2 with ⟨rfl, h0⟩ | ⟨g, cap, cur, rfl, _, hh, hn, _, hs, ht⟩
 ·
  refine ⟨none, 0, by rw [h0], fun k hk => ?_⟩
  have : zs.length = 0 := h0
  simp [iv] at hk
  omega
 refine ⟨_, cap, rfl, fun k hk => ⟨g, 0, rfl, Blk.lt (t := 3) hh, ?_⟩⟩
 have hk' : k < zs.length := by simpa [iv] using hk
 have f1 : (iv zs)[k]? = some (iv zs)[k] := List.getElem?_eq_getElem hk
 generalize (iv zs)[k] = y at *
 rw [← ht, List.getElem?_take_of_lt (by omega)] at f1
 rw [Nat.zero_add, Blk.cell (t := 3) hh, ← Array.getElem?_toList]
 exact f1
end Go.Proofs.YtpejilhdhkmcjaaGreatDoor
