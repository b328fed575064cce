/- What the texts of layer 7 share: blocks, rows of the call's own, regions that draw inside a round, loops over iterators. -/
import Derived.Test.YtlddnejjpekgeaaDoorRows
import Derived.WalkSpells
import Derived.WalkLawsBesides
import Derived.BigQuiet
import Derived.Deep.QuietTactic
import Derived.Deep.RegionHeld3
import Derived.Lib.Hide
import Derived.Maps.AppendAt
import Derived.Deep.AppendLies
import Derived.RegionTactic
import Derived.OwnWalk
import Derived.RangeFuncNested
import Derived.RangeFuncBound
import Derived.RangeFuncCalls
import Derived.RangeFuncLeaves
import Derived.Shelf.Abstract
import Derived.Shelf.RegionOpen
import Derived.OwnWalkIn
import Derived.TacticsInMore
import Derived.LoopNIn
import Derived.LoopIn
import Derived.Laws.IdiomStrings
import Derived.Laws.Externs
set_option linter.unusedSimpArgs false
set_option linter.unusedVariables false
namespace Go.Proofs.YtlddnejjpekgeaaDoor
open Go.RowKit Go.Shelf

/-- Block g is just the cells cs of type t, none frozen. -/
def Blk (w : World) (g : Nat) (t : TypeId) (cs : Array Value) : Prop := w.heap[g]? = some (.cells cs t (0, 0))
section
variable {w w' : World} {g : Nat} {t : TypeId} {cs : Array Value}
theorem Blk.lt (h : Blk w g t cs) : g < w.heap.size := by
  apply Classical.byContradiction
  intro hn
  unfold Blk at h
  rw [Array.getElem?_eq_none (by omega)] at h
  cases h
theorem Blk.cell (h : Blk w g t cs) (i : Nat) : w.cell? ⟨g, i, none⟩ = cs[i]? := cell_of_row w g i cs t (0, 0) h
theorem Blk.frozen (h : Blk w g t cs) (i : Nat) : w.frozen? ⟨g, i, none⟩ = false := by
  unfold Blk at h
  simp [World.frozen?, h]
theorem Blk.new (w : World) (t : TypeId) (cs : Array Value) : Blk (w.alloc (.cells cs t)) w.heap.size t cs := heap_alloc_new w _
theorem Blk.keep (h : Blk w g t cs) (hk : w'.heap[g]? = w.heap[g]?) : Blk w' g t cs := hk.trans h
theorem Blk.drewN (h : Blk w g t cs) (n : Nat) : Blk (w.drewN n) g t cs := h
theorem Blk.alloc (h : Blk w g t cs) (o : Obj) : Blk (w.alloc o) g t cs := h.keep (Below.heap_alloc w o g h.lt)
theorem Blk.put (h : Blk w g t cs) (i : Nat) (u : Value) : Blk (w.setCell ⟨g, i, none⟩ u) g t (cs.setIfInBounds i u) := by
  unfold Blk at h ⊢
  simp [World.setCell, Array.getElem?_modify, h]
theorem Blk.far (h : Blk w g t cs) {p : Addr} (hp : g ≠ p.block) (u : Value) : Blk (w.setCell p u) g t cs := h.keep (Below.heap_setCell w p u g hp)
theorem Blk.below {B : Nat} (h : Blk w g t cs) (hb : Below B w w') (hg : g < B) : Blk w' g t cs := h.keep (hb.block g hg)
theorem Blk.grown {row : Option Nat} (h : Blk w g t cs) (hb : w.grownBy w' row) (hg : some g ≠ row) : Blk w' g t cs := h.keep (hb.block g h.lt hg)
end
/-- The post of a region that is left at its end. -/
def Only (Q : Act → World → Prop) : Exit → Act → World → Prop
  | .normal, a, w => Q a w
  | _, _, _ => False
/-- No operation defers. -/
def noDefer (ops : Array Oper) : Bool := ops.all fun o => match o.op with | .defer _ => false | _ => true
theorem noDefer_spec {ops : Array Oper} (h : noDefer ops = true) {i : Nat} {o : Oper} (ho : ops[i]? = some o) (c : Call) : o.op ≠ .defer c := by
  intro e
  obtain ⟨hi, rfl⟩ := Array.getElem?_eq_some_iff.1 ho
  have := Array.all_eq_true.1 h i hi
  rw [e] at this
  cases this
section
variable {P : Program} {l n : Nat} {ops : Array Oper} {Q : Exit → Act → World → Prop}
theorem upon_in {o : Oper} {a : Act} {K K' : Act → World → Prop} {r : Result Next} (hK : ∀ a w, K a w → K' a w) (h : o.upon P a K Q r) : o.uponIn (Fence.wide.inRound l) n P a K' Q r := by
  cases r with
  | ok x w' =>
    cases x with
    | value v => exact hK _ _ h
    | skip => exact hK _ _ h
    | defer d => exact hK _ _ h
    | enter f args =>
      refine ⟨fun hd => (by simp [Fence.wide, Fence.inRound] at hd), CallsIn.inRound l (callsIn_wide.2 (Calls.mono h fun e w'' he => ?_))⟩
      cases e with
      | returned v => exact hK _ _ he
      | panicked c => exact he
      | outgrown => exact he
    | row row args =>
      refine ⟨fun hd => (by simp [Fence.wide, Fence.inRound] at hd), fun c cs _ => ?_⟩
      obtain ⟨v, w2, hv, hs⟩ := h c cs
      exact ⟨v, w2, hK _ _ hv, stepsIn_wide.2 hs⟩
    | round => exact h.elim
    | _ => exact h.elim
  | halt x w' =>
    cases x with
    | panic v => exact h
    | _ => exact h.elim
theorem wpOp_in (hnd : noDefer ops = true) (hlo : ¬ LetsOut Q) {i : Nat} {K K' : Act → World → Prop} {a : Act} {w : World} (hK : ∀ a w, K a w → K' a w) (h : wpOp P ops Q i K a w) : wpOpIn (Fence.wide.inRound l) n P ops Q i K' a w := by
  unfold wpOp at h
  unfold wpOpIn
  cases ho : ops[i]? with
  | none => rw [ho] at h; exact hK _ _ h
  | some o =>
    rw [ho] at h
    simp only at h ⊢
    split
    · rename_i hw
      rw [if_pos hw] at h
      rcases h with h | ⟨_, h⟩
      · refine ⟨fun _ _ => trivial, ?_⟩
        rw [Oper.semAt_eq _ _ _ (noDefer_spec hnd ho)]
        exact upon_in hK h
      · exact (hlo h).elim
    · rename_i hw
      rw [if_neg hw] at h
      exact ⟨fun _ _ => trivial, hK _ _ h⟩
theorem wpAny_in (hnd : noDefer ops = true) (hlo : ¬ LetsOut Q) {md : Region.Mode} : ∀ (fuel : Nat) (listed : Array Bool) (a : Act) (w : World), wpAny P md ops Q fuel listed a w → wpAnyIn (Fence.wide.inRound l) n P md ops Q fuel listed a w
  | 0, _, _, _, h => h
  | fuel + 1, _, _, _, h => ⟨h.1, fun i hi => wpOp_in hnd hlo (fun a' w' h' => wpAny_in hnd hlo fuel _ a' w' h') (h.2 i hi)⟩
/-- A round's region that draws, walked as in a plain frame. -/
theorem round_region {id : Nat} {S : World → Prop} (R : Act → World → Prop) {a : Act} {w : World} (hm : P.follows .mixedOrders = true) (hnd : noDefer ops = true) (hS : S w.drew)
    (h : S w.drew → wpAnyH P .any ops (Only R) S ops.size (Array.replicate ops.size false) a w.drew) (hR : ∀ a w, R a w → Q .normal a w) : (Code.region id ops true).wpIn (Fence.wide.inRound l) n P Q a w := by
  refine wpIn_mono (Q := Only R) (wpIn_region_any hm (wpAny_in hnd (fun ⟨_, _, h⟩ => h) _ _ _ _ (wpAny_of_held _ _ _ _ (h hS)))) ?_
  intro e a w h
  cases e with
  | normal => exact hR _ _ h
  | _ => exact h.elim
/-- The same, where what is asked behind it is asked at its end. -/
theorem round_step {id : Nat} {S : World → Prop} {a : Act} {w : World} (hm : P.follows .mixedOrders = true) (hnd : noDefer ops = true) (hS : S w.drew)
    (h : S w.drew → wpAnyH P .any ops (Only (Q .normal)) S ops.size (Array.replicate ops.size false) a w.drew) : (Code.region id ops true).wpIn (Fence.wide.inRound l) n P Q a w :=
  round_region _ hm hnd hS h (fun _ _ h => h)
theorem only_end {R : Act → World → Prop} {a : Act} {w : World} (h : R a w) : Only R .normal a w := h
end

/-- The blocks of K lie as they lay. -/
structure KS (K : Nat → Prop) (W W' : World) : Prop where
  size : W.heap.size ≤ W'.heap.size
  same : ∀ b, K b → W'.heap[b]? = W.heap[b]?
section
variable {K : Nat → Prop} {W W' W'' : World}
theorem KS.refl (K : Nat → Prop) (W : World) : KS K W W := ⟨Nat.le_refl _, fun _ _ => rfl⟩
theorem KS.trans {A B C : World} (h : KS K A B) (k : KS K B C) : KS K A C := ⟨Nat.le_trans h.size k.size, fun b hb => (k.same b hb).trans (h.same b hb)⟩
theorem KS.put {w : World} (hK : ∀ b, K b → b < w.heap.size) (W : World) (l : Nat) (o o' : Obj) (hl : w.heap.size ≤ l) (_ : W.heap[l]? = some o) (_ : o.isCells = false) (_ : o.isWalk = false) : KS K W (W.putObj l o') :=
  ⟨by simp, fun b hb => World.putObj_heap_other (fun e => by have := hK b hb; omega)⟩
theorem KS.cell (h : KS K W W') {b : Nat} (hb : K b) (i : Nat) : W'.cell? ⟨b, i, none⟩ = W.cell? ⟨b, i, none⟩ := World.cell?_of_block (a := ⟨b, i, none⟩) (h.same b hb)
theorem KS.of_below {B : Nat} (hK : ∀ b, K b → b < B) (h : Below B W W') : KS K W W' := ⟨h.size, fun b hb => h.block b (hK b hb)⟩
theorem KS.of_grown {row : Option Nat} (hK : ∀ b, K b → b < W.heap.size ∧ some b ≠ row) (h : W.grownBy W' row) : KS K W W' := ⟨h.size, fun b hb => h.block b (hK b hb).1 (hK b hb).2⟩

end

/-- A loop over an iterator, in a plain frame. -/
theorem wp_rangeFunc {P : Program} {α : Type} {g : Operand} {ps : Array Tmp} {assign body : Code} {Q : Exit → Act → World → Prop} {a : Act} {w : World}
    {gf : Nat} {lb : Array Value} (hg : a.eval g = .func (.func gf) #[] lb) (eg : ∀ args w, (callFunc gf args).run P w = .ok (.enter gf args) w)
    {encs : α → Array Value} {K : Nat → Prop} {S Sp : List α → Prop} {N : Nat} {w0 : World} (hseq : SeqStopsK Fence.wide 8 P gf lb encs (KS K) S Sp N w0)
    (hK : ∀ b, K b → b < w.heap.size) (hb0 : Below w0.heap.size w0 w) (hps : ∀ x, (encs x).size = ps.size)
    (I : List α → World → Prop) (Ix : Code → List α → World → Prop) (hI : OwnFrom w.heap.size I) (hIx : ∀ c, OwnFrom w.heap.size (Ix c)) (h0 : I [] w) (Ax : α → Act → World → Prop) (hAx : ∀ x a', OwnFrom w.heap.size (fun (_ : Unit) W => Ax x a' W))
    (hassign : ∀ (l : Nat) (pre : List α) (x : α) (W : World) (K' : Act → World → Prop), I pre W → (∀ a' W', KeepsFrom w.heap.size W W' → KS K W W' → I pre W' → Ax x a' W' → K' a' W') →
      assign.wpIn (Fence.wide.inRound l) 7 P (Exit.then K' (fun _ _ _ => False)) { tmps := (ps.zip (encs x)).foldl (fun t (p, v) => t.setIfInBounds p v) a.tmps, defers := [] } W)
    (hbody : ∀ (l : Nat) (pre : List α) (x : α) (a' : Act) (W : World), I pre W → Ax x a' W → pre.length < N → body.wpIn (Fence.wide.inRound l) 7 P (ownPostG w.heap.size (KS K) I Ix (pre ++ [x]) W) a' W)
    (hdone : ∀ (D : Nat) (xs : List α) (W : World), w.heap.size ≤ D → S xs → I xs W → W.heap[D]? = some (.deferred (some [])) → Q .normal { a with defers := { target := .collected D, args := #[] } :: a.defers } W)
    (hstop : ∀ (D : Nat) (c : Code) (pre : List α) (W : World), w.heap.size ≤ D → Sp pre → Ix c pre W → W.heap[D]? = some (.deferred (some [])) → c.wp P Q { a with defers := { target := .collected D, args := #[] } :: a.defers } W) :
    (Code.rangeFunc g ps assign body).wp P Q a w :=
  wpIn_wide.1 (wpIn_rangeFunc_ownH (n := 9) rfl (by omega) hg trivial eg hseq (fun h k => h.trans k) (fun W l o o' a b c d => KS.put hK W l o o' a b c d) hb0 hps I Ix hI hIx h0 Ax hAx hassign
    (fun l pre x a' W _ _ hi hx hlt => hbody l pre x a' W hi hx hlt) hdone (fun D c pre W a b d e => wpIn_wide.2 (hstop D c pre W a b d e)))

theorem Blk.own {W W' : World} {g B : Nat} {t : TypeId} {cs : Array Value} {row : Option Nat} (h : Blk W g t cs) (hg : W.grownBy W' row) (hr : ∀ r, row = some r → B ≤ r ∧ ∃ o : Obj, W.heap[r]? = some o ∧ o.isCells = false) : Blk W' g t cs :=
  h.grown hg (fun e => by obtain ⟨_, o, ho, hc⟩ := hr g e.symm; rw [show W.heap[g]? = _ from h] at ho; cases ho; cases hc)
theorem below_own {w W W' : World} {n₀ B : Nat} {row : Option Nat} (h : Below n₀ w W) (hn : n₀ ≤ w.heap.size) (hB : n₀ ≤ B) (hg : W.grownBy W' row) (hr : ∀ r, row = some r → B ≤ r ∧ ∃ o : Obj, W.heap[r]? = some o ∧ o.isCells = false) : Below n₀ w W' :=
  h.grown hg (Nat.le_trans hn h.size) (fun k e => Nat.le_trans hB (hr k e).1)

theorem KS.set {K : Nat → Prop} {W : World} {p : Addr} (h : ¬ K p.block) (v : Value) : KS K W (W.setCell p v) := ⟨by simp, fun b hb => Below.heap_setCell W _ _ b (fun e => h (e ▸ hb))⟩
theorem KS.drew {K : Nat → Prop} {W W' : World} (h : KS K W W') : KS K W W'.drew := ⟨h.size, h.same⟩
theorem lowAlloc (w : World) (o : Obj) : Below w.heap.size w (w.alloc o) := (Below.refl _ _).alloc (Nat.le_refl _) _
theorem app_own (w : World) (base : Nat) (t ty e : TypeId) (i : TypeInfo) (z : Value) (size bytes : Nat) (ht : Tryd.prog.underlying t = some (.slice e)) (hi : Tryd.prog.info? e = some i) (hz : i.zero = some z)
    (hsize : i.size = size) (hby : i.bytes = bytes) (hb : bytes ≤ 64) (hzs : z.cells.size = size) (hsz : 0 < size) (v : Value) (n : Nat) (xs : List Value) (hown : w.ownsRow base e size v n xs)
    (b c : Nat) (cs : List Value) (hbk : Blk w b e cs.toArray) (hl : cs.length = size) (h1 : ∀ u ∈ cs, u.oneCell' = true) (hn : n ≤ 100000) (hbase : base ≤ w.heap.size) :
    ∃ v' w', (Builtin.append_ #[t, t] ty #[v, .slice (some ⟨b, 0, none⟩) 1 c]).run Tryd.prog w = .ok v' w' ∧ w'.ownsRow base e size v' (n + 1) (xs ++ cs) ∧ w.grownBy w' v.ownBlock ∧ (v'.ownBlock = v.ownBlock ∨ v'.ownBlock = some w.heap.size) := by
  have hcell : ∀ j u, cs[j]? = some u → w.cell? ((⟨b, 0, none⟩ : Addr).add j) = some u := by
    intro j u hj
    have ha : (⟨b, 0, none⟩ : Addr).add j = ⟨b, j, none⟩ := by
      simp [Addr.add]
      exact fun h => h.symm
    rw [ha, hbk.cell j]
    simpa using hj
  have hbb : (n + 1) * bytes ≤ 140737488355328 := by
    have h := Nat.mul_le_mul (show n + 1 ≤ 100001 by omega) hb
    omega
  obtain ⟨v', w', r1, r2, r3, _, r5⟩ := run_append_own_at (P := Tryd.prog) w base t ty e i z size bytes ht hi hz hsize hby hzs hsz v n xs hown ⟨b, 0, none⟩ 1 c cs (by rw [hl, Nat.one_mul]) hcell h1 (by unfold maxLen; omega) hbb hbase
  exact ⟨v', w', r1, r2, r3, r5⟩
theorem wpList_app {ops : Array Oper} {rest : List Oper} {o : Oper} {a : Act} {Q : Exit → Act → World → Prop} {w : World} (hgd : o.guard = none) (s x : Operand) (t : TypeId)
    (ho : o.op = .call { callee := .builtin .append, args := #[s, x], argTypes := #[t, t] }) (v arg : Value) (hs1 : a.eval s = v) (hx : a.eval x = arg) (R : Value → World → Prop)
    (hrun : ∀ ty, ∃ v' w', (Builtin.append_ #[t, t] ty #[v, arg]).run Tryd.prog w = .ok v' w' ∧ R v' w')
    (h : ∀ v' w', R v' w' → wpList Tryd.prog ops Q rest (a.put o.dst v') w') : wpList Tryd.prog ops Q (o :: rest) a w := by
  refine wpList_plain hgd fun K hK => ?_
  obtain ⟨v', w', hr, hR⟩ := hrun o.type
  unfold Oper.wp execOp
  simp only [ho, resolve, invoke, builtin, Sem.run_bind, Sem.run_pure, Result.andThen_ok, List.map_toArray, List.map_cons, List.map_nil, hs1, hx, hr]
  exact hK _ _ (h v' w' hR)
theorem row_set {w : World} {base : Nat} {e : TypeId} {size : Nat} {v : Value} {n : Nat} {xs : List Value} (h : w.ownsRow base e size v n xs) {p : Addr} (hp : p.block < base) (u : Value) : (w.setCell p u).ownsRow base e size v n xs := by
  obtain ⟨h1, h2⟩ := h
  refine ⟨h1, ?_⟩
  rcases h2 with h2 | ⟨g, cap, cur, rfl, hb, hh, r⟩
  · exact Or.inl h2
  · exact Or.inr ⟨g, cap, cur, rfl, hb, (Below.heap_setCell w p u g (by omega)).trans hh, r⟩
theorem row_slice {w : World} {base : Nat} {e : TypeId} {size : Nat} {v : Value} {n : Nat} {xs : List Value} (h : w.ownsRow base e size v n xs) : ∃ A c, v = .slice A n c := by
  rcases h.2 with ⟨rfl, h0⟩ | ⟨g, cap, cur, rfl, _⟩
  · exact ⟨none, 0, by rw [h0]⟩
  · exact ⟨_, _, rfl⟩
theorem row_base {w : World} {base : Nat} {e : TypeId} {size : Nat} {v : Value} {n : Nat} {xs : List Value} (h : w.ownsRow base e size v n xs) : ∀ k, v.ownBlock = some k → base ≤ k := by
  intro k hk
  rcases h.2 with ⟨rfl, _⟩ | ⟨g, cap, cur, rfl, hb, _⟩
  · cases hk
  · simp [Value.ownBlock] at hk
    omega
theorem index_str (t : ByteArray) (i : Nat) (h : i < t.size) (w : World) : (Instr.index 9 (.string t) (.int .i64 (i : Int))).run Tryd.prog w = .ok (.int .u8 ((t[i]'h).toNat : Int)) w := by
  have e : t[i]? = some (t[i]'h) := by simp [h]
  simp [Instr.index, run_underlying Tryd.underlying9, Result.andThen, Sem.run_bind, asIntOf, e]
end Go.Proofs.YtlddnejjpekgeaaDoor
/- Tokens: the mathematics. -/
namespace Go.Proofs.YtlddnejjpekgeaaDoor
namespace Tk
abbrev Bs := List UInt8
def blankB (b : UInt8) : Bool := decide (b.toNat = 32 ∨ b.toNat = 9 ∨ b.toNat = 10)
def plainB (b : UInt8) : Bool := decide (97 ≤ b.toNat ∧ b.toNat ≤ 122 ∨ 65 ≤ b.toNat ∧ b.toNat ≤ 90 ∨ 48 ≤ b.toNat ∧ b.toNat ≤ 57 ∨ b.toNat = 95)
def quotB (b : UInt8) : Bool := decide (33 ≤ b.toNat ∧ b.toNat ≤ 126 ∧ b.toNat ≠ 34)
/-- How many bytes at the beginning belong together. -/
def runS (p : UInt8 → Bool) : Bs → Nat
  | [] => 0
  | b :: t => if p b = true then runS p t + 1 else 0
theorem run_le (p : UInt8 → Bool) (s : Bs) : runS p s ≤ s.length := by
  induction s with
  | nil => exact Nat.le_refl _
  | cons b t ih => rw [runS]; split <;> simp <;> omega
theorem run_before (p : UInt8 → Bool) (s : Bs) {i : Nat} (h : i < runS p s) : ∃ hi : i < s.length, p (s[i]) = true := by
  induction s generalizing i with
  | nil => simp [runS] at h
  | cons b t ih =>
    rw [runS] at h
    split at h
    · rename_i hb
      cases i with
      | zero => exact ⟨by simp, hb⟩
      | succ i =>
        obtain ⟨h1, h2⟩ := ih (by omega : i < runS p t)
        exact ⟨by simp; omega, by simpa using h2⟩
    · omega
theorem run_at (p : UInt8 → Bool) (s : Bs) (h : runS p s < s.length) : p (s[runS p s]) = false := by
  induction s with
  | nil => simp at h
  | cons b t ih =>
    by_cases hb : p b = true
    · have hr : runS p (b :: t) = runS p t + 1 := by rw [runS, if_pos hb]
      rw [hr] at h
      have := ih (by simp at h; omega)
      simpa [hr] using this
    · have hr : runS p (b :: t) = 0 := by rw [runS, if_neg hb]
      simp only [hr, List.getElem_cons_zero]
      simpa using hb
theorem run_of {p : UInt8 → Bool} {s : Bs} {n : Nat} (hn : n ≤ s.length) (h1 : ∀ i (hi : i < s.length), i < n → p (s[i]) = true) (h2 : ∀ h : n < s.length, p (s[n]) = false) : runS p s = n := by
  have ha := run_le p s
  rcases Nat.lt_trichotomy (runS p s) n with h | h | h
  · have hl : runS p s < s.length := by omega
    have := run_at p s hl
    rw [h1 _ hl h] at this
    cases this
  · exact h
  · obtain ⟨hi, hp⟩ := run_before p s h
    rw [h2 hi] at hp
    cases hp
theorem run_app {p : UInt8 → Bool} {b : UInt8} (hb : p b = false) (u t : Bs) : runS p (u ++ b :: t) = runS p u := by
  induction u with
  | nil => simp [runS, hb]
  | cons a u ih => simp only [List.cons_append, runS, ih]
theorem run_take (p : UInt8 → Bool) (s : Bs) : runS p (s.take (runS p s)) = runS p s := by
  induction s with
  | nil => rfl
  | cons a u ih =>
    by_cases ha : p a = true
    · rw [runS, if_pos ha, List.take_succ_cons, runS, if_pos ha, ih]
    · rw [runS, if_neg ha, List.take_zero, runS]
/-- The length of the quoted name at the beginning, or 0. -/
def quotedS (s : Bs) : Nat := if s[0]? = some 34 ∧ runS quotB (s.drop 1) ≠ 0 ∧ (s.drop 1)[runS quotB (s.drop 1)]? = some 34 then runS quotB (s.drop 1) + 2 else 0
def signsL : List Bs := [[60, 45, 62], [45, 62], [33], [38], [124], [40], [41], [91], [93]]
/-- The length of the first of some signs that stands at the beginning, or 0. -/
def signIn : List Bs → Bs → Nat
  | [], _ => 0
  | x :: r, s => if x.isPrefixOf s = true then x.length else signIn r s
def signS (s : Bs) : Nat := signIn signsL s
def firstS (s : Bs) : Nat × Nat := if runS plainB s ≠ 0 then (1, runS plainB s) else if quotedS s ≠ 0 then (1, quotedS s) else (2, signS s)
theorem quoted_le (s : Bs) : quotedS s ≤ s.length := by
  unfold quotedS
  split
  · rename_i h
    have h2 := h.2.2
    have : runS quotB (s.drop 1) < (s.drop 1).length := by
      apply Classical.byContradiction
      intro hn
      rw [List.getElem?_eq_none (by omega)] at h2
      cases h2
    rw [List.length_drop] at this
    omega
  · exact Nat.zero_le _
theorem prefix_len {x s : Bs} (h : x.isPrefixOf s = true) : x.length ≤ s.length := (List.isPrefixOf_iff_prefix.1 h).length_le
theorem signIn_le (l : List Bs) (s : Bs) : signIn l s ≤ s.length := by
  induction l with
  | nil => exact Nat.zero_le _
  | cons x r ih =>
    rw [signIn]
    split
    · rename_i h
      exact prefix_len h
    · exact ih
theorem sign_le (s : Bs) : signS s ≤ s.length := signIn_le _ s
theorem first_le (s : Bs) : (firstS s).2 ≤ s.length := by
  unfold firstS
  split
  · exact run_le _ _
  · split
    · exact quoted_le s
    · exact sign_le s
theorem first_kind (s : Bs) : (firstS s).1 = 1 ∨ (firstS s).1 = 2 := by
  unfold firstS
  split
  · exact Or.inl rfl
  · split
    · exact Or.inl rfl
    · exact Or.inr rfl
/-- The place behind the blanks from a place on. -/
def skipS (s : Bs) (a : Nat) : Nat := a + runS blankB (s.drop a)
theorem skip_le (s : Bs) (a : Nat) (h : a ≤ s.length) : skipS s a ≤ s.length := by
  have := run_le blankB (s.drop a)
  rw [List.length_drop] at this
  unfold skipS
  omega
theorem skip_ge (s : Bs) (a : Nat) : a ≤ skipS s a := by unfold skipS; omega
structure Tok where
  k : Nat
  t : Bs
  a : Nat
/-- The tokens from a place on, and where it goes wrong. -/
def scan (s : Bs) : Nat → Nat → List Tok × Option Nat
  | 0, _ => ([], none)
  | n + 1, a => if s.length ≤ a then ([⟨0, [], s.length⟩], none) else
    if (firstS (s.drop a)).2 = 0 then ([], some a) else
    (⟨(firstS (s.drop a)).1, (s.drop a).take (firstS (s.drop a)).2, a⟩ :: (scan s n (skipS s (a + (firstS (s.drop a)).2))).1, (scan s n (skipS s (a + (firstS (s.drop a)).2))).2)
def lexS (s : Bs) : List Tok × Option Nat := scan s (s.length + 1) (skipS s 0)
/-- What Lex answers: the tokens, the error, its place. -/
def lexA (s : Bs) : List Tok × Nat × Nat := if 20000 < s.length then ([], 2, 0) else match (lexS s).2 with | none => ((lexS s).1, 0, 0) | some a => ([], 40, a)
/-- What the iterator hands over. -/
def itemsS (s : Bs) : List (Tok × Nat) := (lexS s).1.map (fun t => (t, 0)) ++ (match (lexS s).2 with | none => [] | some a => [(⟨0, [], a⟩, 40)])
theorem skip_blank {s : Bs} {a : Nat} (h : a < s.length) (hb : blankB (s[a]) = true) : skipS s a = skipS s (a + 1) := by
  unfold skipS
  rw [List.drop_eq_getElem_cons h, runS, if_pos hb]
  omega
theorem skip_not {s : Bs} {a : Nat} (h : a < s.length) (hb : blankB (s[a]) = false) : skipS s a = a := by
  unfold skipS
  rw [List.drop_eq_getElem_cons h, runS, if_neg (by rw [hb]; simp)]
  rfl
theorem skip_end {s : Bs} {a : Nat} (h : s.length ≤ a) : skipS s a = a := by
  unfold skipS
  rw [List.drop_of_length_le h]
  rfl
theorem scan_end {s : Bs} {n a : Nat} (h : s.length ≤ a) : scan s (n + 1) a = ([⟨0, [], s.length⟩], none) := by rw [scan, if_pos h]
theorem scan_bad {s : Bs} {n a : Nat} (h : a < s.length) (h0 : (firstS (s.drop a)).2 = 0) : scan s (n + 1) a = ([], some a) := by rw [scan, if_neg (by omega), if_pos h0]
theorem scan_tok {s : Bs} {n a : Nat} (h : a < s.length) (h0 : (firstS (s.drop a)).2 ≠ 0) : scan s (n + 1) a = (⟨(firstS (s.drop a)).1, (s.drop a).take (firstS (s.drop a)).2, a⟩ :: (scan s n (skipS s (a + (firstS (s.drop a)).2))).1, (scan s n (skipS s (a + (firstS (s.drop a)).2))).2) := by rw [scan, if_neg (by omega), if_neg h0]
theorem scan_len (s : Bs) : ∀ (n a : Nat), (scan s n a).1.length ≤ n
  | 0, _ => Nat.le_refl _
  | n + 1, a => by
    rw [scan]
    split
    · simp
    · split
      · simp
      · simpa using scan_len s n _
theorem items_len (s : Bs) : (itemsS s).length ≤ s.length + 2 := by
  have := scan_len s (s.length + 1) (skipS s 0)
  unfold itemsS lexS
  rw [List.length_append, List.length_map]
  split <;> simp <;> omega
theorem lexA_len (s : Bs) : (lexA s).1.length ≤ 20001 := by
  unfold lexA
  split
  · simp
  · split
    · have := scan_len s (s.length + 1) (skipS s 0)
      unfold lexS
      simp only
      omega
    · simp
theorem items_done {s : Bs} {ts : List Tok} (hs : s.length ≤ 20000) (h : itemsS s = ts.map (fun t => (t, 0))) : lexA s = (ts, 0, 0) := by
  unfold lexA
  rw [if_neg (by omega)]
  unfold itemsS at h
  split at h
  · simp only [List.append_nil] at h
    have : (lexS s).1 = ts := by
      have := congrArg (List.map Prod.fst) h
      simpa [List.map_map, Function.comp_def] using this
    rw [this]
  · have := congrArg (List.map Prod.snd) h
    have h3 : (40 : Nat) ∈ (ts.map (fun t => (t, 0))).map Prod.snd := by rw [← this]; simp
    simp at h3
theorem items_stop {s : Bs} {ts : List Tok} {t : Tok} {e : Nat} {suf : List (Tok × Nat)} (hs : s.length ≤ 20000) (he : e ≠ 0) (h : itemsS s = (ts.map (fun t => (t, 0)) ++ [(t, e)]) ++ suf) : lexA s = ([], 40, t.a) ∧ e = 40 := by
  unfold lexA
  rw [if_neg (by omega)]
  unfold itemsS at h
  have hm : (t, e) ∈ (ts.map (fun t => (t, 0)) ++ [(t, e)]) ++ suf := by simp
  rw [← h] at hm
  rcases List.mem_append.1 hm with hm | hm
  · obtain ⟨x, _, hx⟩ := List.mem_map.1 hm
    cases hx
    exact absurd rfl he
  · split at hm
    · cases hm
    · simp at hm
      obtain ⟨rfl, rfl⟩ := hm
      exact ⟨rfl, rfl⟩
end Tk
end Go.Proofs.YtlddnejjpekgeaaDoor
