/- Loops over iterators: how a round's region that draws is walked; what a round keeps; slices.Backward. -/
import Derived.Test.YtjjdgiondpnpcaaCA
import Derived.RangeFuncNested
import Derived.RangeFuncBound
import Derived.RangeFuncCalls
import Derived.RangeFuncLeaves
import Derived.Shelf.Abstract
import Derived.Shelf.RegionOpen
import Derived.OwnWalkIn
import Derived.TacticsInMore
import Derived.LoopNIn
import Derived.LoopIn
namespace Go.Proofs.Ytjjdgiondpnpcaa
open Go.RowKit Go.Shelf

/-- The post of a region that is left at its end. -/
def Only (Q : Act → World → Prop) : Exit → Act → World → Prop
  | .normal, a, w => Q a w
  | _, _, _ => False
/-- No operation defers. -/
def noDefer (ops : Array Oper) : Bool := ops.all fun o => match o.op with | .defer _ => false | _ => true
theorem noDefer_spec {ops : Array Oper} (h : noDefer ops = true) {i : Nat} {o : Oper} (ho : ops[i]? = some o) (c : Call) : o.op ≠ .defer c := by
  intro e
  obtain ⟨hi, rfl⟩ := Array.getElem?_eq_some_iff.1 ho
  have := Array.all_eq_true.1 h i hi
  rw [e] at this
  cases this
section
variable {P : Program} {l n : Nat} {ops : Array Oper} {Q : Exit → Act → World → Prop}
theorem upon_in {o : Oper} {a : Act} {K K' : Act → World → Prop} {r : Result Next} (hK : ∀ a w, K a w → K' a w) (h : o.upon P a K Q r) : o.uponIn (Fence.wide.inRound l) n P a K' Q r := by
  cases r with
  | ok x w' =>
    cases x with
    | value v => exact hK _ _ h
    | skip => exact hK _ _ h
    | defer d => exact hK _ _ h
    | enter f args =>
      refine ⟨fun hd => (by simp [Fence.wide, Fence.inRound] at hd), CallsIn.inRound l (callsIn_wide.2 (Calls.mono h fun e w'' he => ?_))⟩
      cases e with
      | returned v => exact hK _ _ he
      | panicked c => exact he
      | outgrown => exact he
    | row row args =>
      refine ⟨fun hd => (by simp [Fence.wide, Fence.inRound] at hd), fun c cs _ => ?_⟩
      obtain ⟨v, w2, hv, hs⟩ := h c cs
      exact ⟨v, w2, hK _ _ hv, stepsIn_wide.2 hs⟩
    | round => exact h.elim
    | _ => exact h.elim
  | halt x w' =>
    cases x with
    | panic v => exact h
    | _ => exact h.elim
theorem wpOp_in (hnd : noDefer ops = true) (hlo : ¬ LetsOut Q) {i : Nat} {K K' : Act → World → Prop} {a : Act} {w : World} (hK : ∀ a w, K a w → K' a w) (h : wpOp P ops Q i K a w) : wpOpIn (Fence.wide.inRound l) n P ops Q i K' a w := by
  unfold wpOp at h
  unfold wpOpIn
  cases ho : ops[i]? with
  | none => rw [ho] at h; exact hK _ _ h
  | some o =>
    rw [ho] at h
    simp only at h ⊢
    split
    · rename_i hw
      rw [if_pos hw] at h
      rcases h with h | ⟨_, h⟩
      · refine ⟨fun _ _ => trivial, ?_⟩
        rw [Oper.semAt_eq _ _ _ (noDefer_spec hnd ho)]
        exact upon_in hK h
      · exact (hlo h).elim
    · rename_i hw
      rw [if_neg hw] at h
      exact ⟨fun _ _ => trivial, hK _ _ h⟩
theorem wpAny_in (hnd : noDefer ops = true) (hlo : ¬ LetsOut Q) {md : Region.Mode} : ∀ (fuel : Nat) (listed : Array Bool) (a : Act) (w : World), wpAny P md ops Q fuel listed a w → wpAnyIn (Fence.wide.inRound l) n P md ops Q fuel listed a w
  | 0, _, _, _, h => h
  | fuel + 1, _, _, _, h => ⟨h.1, fun i hi => wpOp_in hnd hlo (fun a' w' h' => wpAny_in hnd hlo fuel _ a' w' h') (h.2 i hi)⟩
/-- A round's region that draws, walked as in a plain frame. -/
theorem round_region {id : Nat} {S : World → Prop} (R : Act → World → Prop) {a : Act} {w : World} (hm : P.follows .mixedOrders = true) (hnd : noDefer ops = true) (hS : S w.drew)
    (h : S w.drew → wpAnyH P .any ops (Only R) S ops.size (Array.replicate ops.size false) a w.drew) (hR : ∀ a w, R a w → Q .normal a w) : (Code.region id ops true).wpIn (Fence.wide.inRound l) n P Q a w := by
  refine wpIn_mono (Q := Only R) (wpIn_region_any hm (wpAny_in hnd (fun ⟨_, _, h⟩ => h) _ _ _ _ (wpAny_of_held _ _ _ _ (h hS)))) ?_
  intro e a w h
  cases e with
  | normal => exact hR _ _ h
  | _ => exact h.elim
/-- The same, where what is asked behind it is asked at its end. -/
theorem round_step {id : Nat} {S : World → Prop} {a : Act} {w : World} (hm : P.follows .mixedOrders = true) (hnd : noDefer ops = true) (hS : S w.drew)
    (h : S w.drew → wpAnyH P .any ops (Only (Q .normal)) S ops.size (Array.replicate ops.size false) a w.drew) : (Code.region id ops true).wpIn (Fence.wide.inRound l) n P Q a w :=
  round_region _ hm hnd hS h (fun _ _ h => h)
theorem only_end {R : Act → World → Prop} {a : Act} {w : World} (h : R a w) : Only R .normal a w := h
end

/-- The blocks of K lie as they lay. -/
structure KS (K : Nat → Prop) (W W' : World) : Prop where
  size : W.heap.size ≤ W'.heap.size
  same : ∀ b, K b → W'.heap[b]? = W.heap[b]?
section
variable {K : Nat → Prop} {W W' W'' : World}
theorem KS.refl (K : Nat → Prop) (W : World) : KS K W W := ⟨Nat.le_refl _, fun _ _ => rfl⟩
theorem KS.trans {A B C : World} (h : KS K A B) (k : KS K B C) : KS K A C := ⟨Nat.le_trans h.size k.size, fun b hb => (k.same b hb).trans (h.same b hb)⟩
theorem KS.put {w : World} (hK : ∀ b, K b → b < w.heap.size) (W : World) (l : Nat) (o o' : Obj) (hl : w.heap.size ≤ l) (_ : W.heap[l]? = some o) (_ : o.isCells = false) (_ : o.isWalk = false) : KS K W (W.putObj l o') :=
  ⟨by simp, fun b hb => World.putObj_heap_other (fun e => by have := hK b hb; omega)⟩
theorem KS.cell (h : KS K W W') {b : Nat} (hb : K b) (i : Nat) : W'.cell? ⟨b, i, none⟩ = W.cell? ⟨b, i, none⟩ := World.cell?_of_block (a := ⟨b, i, none⟩) (h.same b hb)
theorem KS.gr {B : Nat} {A : Option Addr} {gs : List (Int × Int)} (h : KS K W W') (hB : ∀ b, b < B → K b) (hg : Gr W B A gs) : Gr W' B A gs := by
  intro k hk
  obtain ⟨b, off, e, hb, h1, h2⟩ := hg k hk
  exact ⟨b, off, e, hb, (h.cell (hB b hb) _).trans h1, (h.cell (hB b hb) _).trans h2⟩
theorem KS.of_below {B : Nat} (hK : ∀ b, K b → b < B) (h : Below B W W') : KS K W W' := ⟨h.size, fun b hb => h.block b (hK b hb)⟩
theorem KS.of_grown {row : Option Nat} (hK : ∀ b, K b → b < W.heap.size ∧ some b ≠ row) (h : W.grownBy W' row) : KS K W W' := ⟨h.size, fun b hb => h.block b (hK b hb).1 (hK b hb).2⟩
end

/-- The first k numbers below m, from the greatest down. -/
def downF (m : Nat) : Nat → List (Fin m)
  | 0 => []
  | k + 1 => downF m k ++ (if h : m - (k + 1) < m then [⟨m - (k + 1), h⟩] else [])
theorem downF_succ {m k : Nat} (hk : k < m) : downF m (k + 1) = downF m k ++ [⟨m - (k + 1), by omega⟩] := by
  rw [downF, dif_pos (by omega)]
theorem downF_length {m : Nat} : ∀ k, k ≤ m → (downF m k).length = k
  | 0, _ => rfl
  | k + 1, h => by rw [downF_succ (by omega), List.length_append, downF_length k (by omega)]; rfl
/-- The numbers below k that p holds of. -/
def upF (m : Nat) (p : Nat → Bool) : Nat → List (Fin m)
  | 0 => []
  | k + 1 => upF m p k ++ (if h : k < m then (if p k then [⟨k, h⟩] else []) else [])
theorem upF_yes {m k : Nat} {p : Nat → Bool} (hk : k < m) (h : p k = true) : upF m p (k + 1) = upF m p k ++ [⟨k, hk⟩] := by rw [upF, dif_pos hk, if_pos h]
theorem upF_no {m k : Nat} {p : Nat → Bool} (h : p k = false) : upF m p (k + 1) = upF m p k := by rw [upF, h]; simp
theorem upF_le {m : Nat} {p : Nat → Bool} : ∀ k, (upF m p k).length ≤ k
  | 0 => Nat.le_refl _
  | k + 1 => by
    rw [upF, List.length_append]
    have := upF_le (m := m) (p := p) k
    split
    · split <;> simp <;> omega
    · simp; omega

/-- A number and a gate, as an iterator hands them over. -/
def gateV (gs : List (Int × Int)) (d : Int) (i : Fin gs.length) : Array Value := #[.int .i64 (d + (i.1 : Int)), .agg #[.int .i64 (gs[i.1]).1, .int .i64 (gs[i.1]).2]]

attribute [local go_sem] Oper.semAt_some
set_option maxRecDepth 100000 in
set_option maxHeartbeats 2000000 in
theorem back1_in (n l Bs B : Nat) (A : Option Addr) (c : Nat) (gs : List (Int × Int)) (K : Nat → Prop) (hn : 1 ≤ n) (hl : gs.length ≤ 100000) (hKs : K Bs) (hKB : ∀ b, b < B → K b) (J Jx : List (Fin gs.length) → World → Prop)
    (hY : ∀ pre (x : Fin gs.length) W, J pre W → pre.length < gs.length → YieldAt Fence.wide (n - 1) Try.prog l (gateV gs 0 x) W fun e W' =>
      (e = .returned (.bool true) ∧ J (pre ++ [x]) W' ∧ KS K W W') ∨ (e = .returned (.bool false) ∧ Jx (pre ++ [x]) W'))
    (W : World) (hBs : W.cell? ⟨Bs, 0, none⟩ = some (.slice A gs.length c)) (hG : Gr W B A gs) (h0 : J [] W) :
    CallsIn Fence.wide n Try.prog 46 #[.func (.yield l) #[] #[], .pointer (some ⟨Bs, 0, none⟩)] W fun e W' => (∃ v, e = .returned v) ∧
      ((∃ ys, ys = downF gs.length gs.length ∧ J ys W') ∨ (∃ pre, True ∧ Jx pre W')) := by
  refine callsIn_of_wp Try.func46 rfl trivial ?_ rfl
  simp only [Try.ntmps46, List.size_toArray, List.length_cons, List.length_nil, Nat.reduceAdd, Nat.reduceSub, Array.replicate_succ, Array.replicate_zero, List.push_toArray, List.append_toArray, List.nil_append, List.cons_append]
  gi_wp2
  gi_loopw [3] (fun i wr => ∃ k : Nat, k ≤ gs.length ∧ i = .int .i64 ((gs.length : Int) - 1 - k) ∧ J (downF gs.length k) wr ∧ KS K W wr)
    (fun i _ => (intOf i + 1).toNat)
  case atStart => exact ⟨0, Nat.zero_le _, by simp, h0, KS.refl _ _⟩
  case round =>
    obtain ⟨k, hk, rfl, hJs, hks⟩ := hrel
    have hcs := (hks.cell hKs 0).trans hBs
    by_cases hlt : k < gs.length
    · obtain ⟨r, hrl, hrk, hsucc⟩ : ∃ (r : Nat) (hr : r < gs.length), r + k + 1 = gs.length ∧ Hid (downF gs.length (k + 1) = downF gs.length k ++ [⟨r, hr⟩]) := ⟨gs.length - (k + 1), by omega, by omega, Lib.hid (downF_succ hlt)⟩
      obtain ⟨fn, tmps, assign, body, hy, hR⟩ := hY _ ⟨r, hrl⟩ wr hJs (by rw [downF_length k hk]; exact hlt)
      obtain ⟨b, off, hA, hb, g1, g2⟩ := (hks.gr hKB hG) r hrl
      subst hA
      dsimp only [gateV] at hy
      have HNX := Lib.hid (show (r : Int) - 1 = (gs.length : Int) - 1 - ((k + 1 : Nat) : Int) by omega)
      have hri : (gs.length : Int) - 1 - k = (r : Int) := by omega
      rw [hri]
      have HRI := Lib.hid hri
      have HRK := Lib.hid hrk
      clear hri hrk
      rw [Int.zero_add] at hy
      have hix := ix2 b off gs.length c r (by omega) hrl
      generalize gs[r] = g at *
      obtain ⟨x, y⟩ := g
      simp only at g1 g2 hy
      gi_wp2
      refine hR.mono ?_
      rintro e W3 (⟨rfl, hJ3, hk3⟩ | ⟨rfl, hJx3⟩)
      · gi_wp2
        go_roundw
        case rel => exact ⟨k + 1, by omega, by rw [HNX.out], by rw [hsucc.out]; exact hJ3, hks.trans hk3⟩
        case measure => have := HRI.out; have := HRK.out; simp [intOf]
      · gi_wp2
        refine bodyPost_ret (results_none rfl _ _ _) rfl ?_
        exact ⟨⟨_, rfl⟩, .inr ⟨_, trivial, hJx3⟩⟩
    · obtain rfl : k = gs.length := by omega
      gi_wp2
      go_end0
      exact ⟨⟨_, rfl⟩, .inl ⟨_, rfl, hJs⟩⟩
end Go.Proofs.Ytjjdgiondpnpcaa
