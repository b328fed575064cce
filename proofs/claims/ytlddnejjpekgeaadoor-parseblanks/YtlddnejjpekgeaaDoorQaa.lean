/- What the texts of layer 7 share: blocks, rows of the call's own, regions that draw inside a round, loops over iterators. -/
import Derived.Test.YtlddnejjpekgeaaDoorRows
import Derived.WalkSpells
import Derived.WalkLawsBesides
import Derived.BigQuiet
import Derived.Deep.QuietTactic
import Derived.Deep.RegionHeld3
import Derived.Lib.Hide
import Derived.Maps.AppendAt
import Derived.Deep.AppendLies
import Derived.RegionTactic
import Derived.OwnWalk
import Derived.RangeFuncNested
import Derived.RangeFuncBound
import Derived.RangeFuncCalls
import Derived.RangeFuncLeaves
import Derived.Shelf.Abstract
import Derived.Shelf.RegionOpen
import Derived.OwnWalkIn
import Derived.TacticsInMore
import Derived.LoopNIn
import Derived.LoopIn
import Derived.Laws.IdiomStrings
import Derived.Laws.Externs
import Derived.Lib.Bytealg
namespace Go.Proofs.YtlddnejjpekgeaaDoor
open Go.RowKit Go.Shelf

/-- Block g is just the cells cs of type t, none frozen. -/
def Blk (w : World) (g : Nat) (t : TypeId) (cs : Array Value) : Prop := w.heap[g]? = some (.cells cs t (0, 0))
section
variable {w w' : World} {g : Nat} {t : TypeId} {cs : Array Value}
theorem Blk.lt (h : Blk w g t cs) : g < w.heap.size := by
  apply Classical.byContradiction
  intro hn
  unfold Blk at h
  rw [Array.getElem?_eq_none (by omega)] at h
  cases h
theorem Blk.cell (h : Blk w g t cs) (i : Nat) : w.cell? ⟨g, i, none⟩ = cs[i]? := cell_of_row w g i cs t (0, 0) h
theorem Blk.frozen (h : Blk w g t cs) (i : Nat) : w.frozen? ⟨g, i, none⟩ = false := by
  unfold Blk at h
  simp [World.frozen?, h]
theorem Blk.new (w : World) (t : TypeId) (cs : Array Value) : Blk (w.alloc (.cells cs t)) w.heap.size t cs := heap_alloc_new w _
theorem Blk.keep (h : Blk w g t cs) (hk : w'.heap[g]? = w.heap[g]?) : Blk w' g t cs := hk.trans h
theorem Blk.drewN (h : Blk w g t cs) (n : Nat) : Blk (w.drewN n) g t cs := h
theorem Blk.alloc (h : Blk w g t cs) (o : Obj) : Blk (w.alloc o) g t cs := h.keep (Below.heap_alloc w o g h.lt)
theorem Blk.put (h : Blk w g t cs) (i : Nat) (u : Value) : Blk (w.setCell ⟨g, i, none⟩ u) g t (cs.setIfInBounds i u) := by
  unfold Blk at h ⊢
  simp [World.setCell, Array.getElem?_modify, h]
theorem Blk.far (h : Blk w g t cs) {p : Addr} (hp : g ≠ p.block) (u : Value) : Blk (w.setCell p u) g t cs := h.keep (Below.heap_setCell w p u g hp)
theorem Blk.below {B : Nat} (h : Blk w g t cs) (hb : Below B w w') (hg : g < B) : Blk w' g t cs := h.keep (hb.block g hg)
theorem Blk.grown {row : Option Nat} (h : Blk w g t cs) (hb : w.grownBy w' row) (hg : some g ≠ row) : Blk w' g t cs := h.keep (hb.block g h.lt hg)
end
/-- The post of a region that is left at its end. -/
def Only (Q : Act → World → Prop) : Exit → Act → World → Prop
  | .normal, a, w => Q a w
  | _, _, _ => False
/-- No operation defers. -/
def noDefer (ops : Array Oper) : Bool := ops.all fun o => match o.op with | .defer _ => false | _ => true
theorem noDefer_spec {ops : Array Oper} (h : noDefer ops = true) {i : Nat} {o : Oper} (ho : ops[i]? = some o) (c : Call) : o.op ≠ .defer c := by
  intro e
  obtain ⟨hi, rfl⟩ := Array.getElem?_eq_some_iff.1 ho
  have := Array.all_eq_true.1 h i hi
  rw [e] at this
  cases this
section
variable {P : Program} {l n : Nat} {ops : Array Oper} {Q : Exit → Act → World → Prop}
theorem upon_in {o : Oper} {a : Act} {K K' : Act → World → Prop} {r : Result Next} (hK : ∀ a w, K a w → K' a w) (h : o.upon P a K Q r) : o.uponIn (Fence.wide.inRound l) n P a K' Q r := by
  cases r with
  | ok x w' =>
    cases x with
    | value v => exact hK _ _ h
    | skip => exact hK _ _ h
    | defer d => exact hK _ _ h
    | enter f args =>
      refine ⟨fun hd => (by simp [Fence.wide, Fence.inRound] at hd), CallsIn.inRound l (callsIn_wide.2 (Calls.mono h fun e w'' he => ?_))⟩
      cases e with
      | returned v => exact hK _ _ he
      | panicked c => exact he
      | outgrown => exact he
    | row row args =>
      refine ⟨fun hd => (by simp [Fence.wide, Fence.inRound] at hd), fun c cs _ => ?_⟩
      obtain ⟨v, w2, hv, hs⟩ := h c cs
      exact ⟨v, w2, hK _ _ hv, stepsIn_wide.2 hs⟩
    | round => exact h.elim
    | _ => exact h.elim
  | halt x w' =>
    cases x with
    | panic v => exact h
    | _ => exact h.elim
theorem wpOp_in (hnd : noDefer ops = true) (hlo : ¬ LetsOut Q) {i : Nat} {K K' : Act → World → Prop} {a : Act} {w : World} (hK : ∀ a w, K a w → K' a w) (h : wpOp P ops Q i K a w) : wpOpIn (Fence.wide.inRound l) n P ops Q i K' a w := by
  unfold wpOp at h
  unfold wpOpIn
  cases ho : ops[i]? with
  | none => rw [ho] at h; exact hK _ _ h
  | some o =>
    rw [ho] at h
    simp only at h ⊢
    split
    · rename_i hw
      rw [if_pos hw] at h
      rcases h with h | ⟨_, h⟩
      · refine ⟨fun _ _ => trivial, ?_⟩
        rw [Oper.semAt_eq _ _ _ (noDefer_spec hnd ho)]
        exact upon_in hK h
      · exact (hlo h).elim
    · rename_i hw
      rw [if_neg hw] at h
      exact ⟨fun _ _ => trivial, hK _ _ h⟩
theorem wpAny_in (hnd : noDefer ops = true) (hlo : ¬ LetsOut Q) {md : Region.Mode} : ∀ (fuel : Nat) (listed : Array Bool) (a : Act) (w : World), wpAny P md ops Q fuel listed a w → wpAnyIn (Fence.wide.inRound l) n P md ops Q fuel listed a w
  | 0, _, _, _, h => h
  | fuel + 1, _, _, _, h => ⟨h.1, fun i hi => wpOp_in hnd hlo (fun a' w' h' => wpAny_in hnd hlo fuel _ a' w' h') (h.2 i hi)⟩
/-- A round's region that draws, walked as in a plain frame. -/
theorem round_region {id : Nat} {S : World → Prop} (R : Act → World → Prop) {a : Act} {w : World} (hm : P.follows .mixedOrders = true) (hnd : noDefer ops = true) (hS : S w.drew)
    (h : S w.drew → wpAnyH P .any ops (Only R) S ops.size (Array.replicate ops.size false) a w.drew) (hR : ∀ a w, R a w → Q .normal a w) : (Code.region id ops true).wpIn (Fence.wide.inRound l) n P Q a w := by
  refine wpIn_mono (Q := Only R) (wpIn_region_any hm (wpAny_in hnd (fun ⟨_, _, h⟩ => h) _ _ _ _ (wpAny_of_held _ _ _ _ (h hS)))) ?_
  intro e a w h
  cases e with
  | normal => exact hR _ _ h
  | _ => exact h.elim
/-- The same, where what is asked behind it is asked at its end. -/
theorem round_step {id : Nat} {S : World → Prop} {a : Act} {w : World} (hm : P.follows .mixedOrders = true) (hnd : noDefer ops = true) (hS : S w.drew)
    (h : S w.drew → wpAnyH P .any ops (Only (Q .normal)) S ops.size (Array.replicate ops.size false) a w.drew) : (Code.region id ops true).wpIn (Fence.wide.inRound l) n P Q a w :=
  round_region _ hm hnd hS h (fun _ _ h => h)
theorem only_end {R : Act → World → Prop} {a : Act} {w : World} (h : R a w) : Only R .normal a w := h
end

/-- The blocks of K lie as they lay. -/
structure KS (K : Nat → Prop) (W W' : World) : Prop where
  size : W.heap.size ≤ W'.heap.size
  same : ∀ b, K b → W'.heap[b]? = W.heap[b]?
section
variable {K : Nat → Prop} {W W' W'' : World}
theorem KS.refl (K : Nat → Prop) (W : World) : KS K W W := ⟨Nat.le_refl _, fun _ _ => rfl⟩
theorem KS.trans {A B C : World} (h : KS K A B) (k : KS K B C) : KS K A C := ⟨Nat.le_trans h.size k.size, fun b hb => (k.same b hb).trans (h.same b hb)⟩
theorem KS.put {w : World} (hK : ∀ b, K b → b < w.heap.size) (W : World) (l : Nat) (o o' : Obj) (hl : w.heap.size ≤ l) (_ : W.heap[l]? = some o) (_ : o.isCells = false) (_ : o.isWalk = false) : KS K W (W.putObj l o') :=
  ⟨by simp, fun b hb => World.putObj_heap_other (fun e => by have := hK b hb; omega)⟩
theorem KS.cell (h : KS K W W') {b : Nat} (hb : K b) (i : Nat) : W'.cell? ⟨b, i, none⟩ = W.cell? ⟨b, i, none⟩ := World.cell?_of_block (a := ⟨b, i, none⟩) (h.same b hb)
theorem KS.of_below {B : Nat} (hK : ∀ b, K b → b < B) (h : Below B W W') : KS K W W' := ⟨h.size, fun b hb => h.block b (hK b hb)⟩
theorem KS.of_grown {row : Option Nat} (hK : ∀ b, K b → b < W.heap.size ∧ some b ≠ row) (h : W.grownBy W' row) : KS K W W' := ⟨h.size, fun b hb => h.block b (hK b hb).1 (hK b hb).2⟩

end

/-- A loop over an iterator, in a plain frame. -/
theorem wp_rangeFunc {P : Program} {α : Type} {g : Operand} {ps : Array Tmp} {assign body : Code} {Q : Exit → Act → World → Prop} {a : Act} {w : World}
    {gf : Nat} {lb : Array Value} (hg : a.eval g = .func (.func gf) #[] lb) (eg : ∀ args w, (callFunc gf args).run P w = .ok (.enter gf args) w)
    {encs : α → Array Value} {K : Nat → Prop} {S Sp : List α → Prop} {N : Nat} {w0 : World} (hseq : SeqStopsK Fence.wide 8 P gf lb encs (KS K) S Sp N w0)
    (hK : ∀ b, K b → b < w.heap.size) (hb0 : Below w0.heap.size w0 w) (hps : ∀ x, (encs x).size = ps.size)
    (I : List α → World → Prop) (Ix : Code → List α → World → Prop) (hI : OwnFrom w.heap.size I) (hIx : ∀ c, OwnFrom w.heap.size (Ix c)) (h0 : I [] w) (Ax : α → Act → World → Prop) (hAx : ∀ x a', OwnFrom w.heap.size (fun (_ : Unit) W => Ax x a' W))
    (hassign : ∀ (l : Nat) (pre : List α) (x : α) (W : World) (K' : Act → World → Prop), I pre W → (∀ a' W', KeepsFrom w.heap.size W W' → KS K W W' → I pre W' → Ax x a' W' → K' a' W') →
      assign.wpIn (Fence.wide.inRound l) 7 P (Exit.then K' (fun _ _ _ => False)) { tmps := (ps.zip (encs x)).foldl (fun t (p, v) => t.setIfInBounds p v) a.tmps, defers := [] } W)
    (hbody : ∀ (l : Nat) (pre : List α) (x : α) (a' : Act) (W : World), I pre W → Ax x a' W → pre.length < N → body.wpIn (Fence.wide.inRound l) 7 P (ownPostG w.heap.size (KS K) I Ix (pre ++ [x]) W) a' W)
    (hdone : ∀ (D : Nat) (xs : List α) (W : World), w.heap.size ≤ D → S xs → I xs W → W.heap[D]? = some (.deferred (some [])) → Q .normal { a with defers := { target := .collected D, args := #[] } :: a.defers } W)
    (hstop : ∀ (D : Nat) (c : Code) (pre : List α) (W : World), w.heap.size ≤ D → Sp pre → Ix c pre W → W.heap[D]? = some (.deferred (some [])) → c.wp P Q { a with defers := { target := .collected D, args := #[] } :: a.defers } W) :
    (Code.rangeFunc g ps assign body).wp P Q a w :=
  wpIn_wide.1 (wpIn_rangeFunc_ownH (n := 9) rfl (by omega) hg trivial eg hseq (fun h k => h.trans k) (fun W l o o' a b c d => KS.put hK W l o o' a b c d) hb0 hps I Ix hI hIx h0 Ax hAx hassign
    (fun l pre x a' W _ _ hi hx hlt => hbody l pre x a' W hi hx hlt) hdone (fun D c pre W a b d e => wpIn_wide.2 (hstop D c pre W a b d e)))

theorem Blk.own {W W' : World} {g B : Nat} {t : TypeId} {cs : Array Value} {row : Option Nat} (h : Blk W g t cs) (hg : W.grownBy W' row) (hr : ∀ r, row = some r → B ≤ r ∧ ∃ o : Obj, W.heap[r]? = some o ∧ o.isCells = false) : Blk W' g t cs :=
  h.grown hg (fun e => by obtain ⟨_, o, ho, hc⟩ := hr g e.symm; rw [show W.heap[g]? = _ from h] at ho; cases ho; cases hc)
theorem below_own {w W W' : World} {n₀ B : Nat} {row : Option Nat} (h : Below n₀ w W) (hn : n₀ ≤ w.heap.size) (hB : n₀ ≤ B) (hg : W.grownBy W' row) (hr : ∀ r, row = some r → B ≤ r ∧ ∃ o : Obj, W.heap[r]? = some o ∧ o.isCells = false) : Below n₀ w W' :=
  h.grown hg (Nat.le_trans hn h.size) (fun k e => Nat.le_trans hB (hr k e).1)

theorem KS.set {K : Nat → Prop} {W : World} {p : Addr} (h : ¬ K p.block) (v : Value) : KS K W (W.setCell p v) := ⟨by simp, fun b hb => Below.heap_setCell W _ _ b (fun e => h (e ▸ hb))⟩
theorem KS.drew {K : Nat → Prop} {W W' : World} (h : KS K W W') : KS K W W'.drew := ⟨h.size, h.same⟩
theorem lowAlloc (w : World) (o : Obj) : Below w.heap.size w (w.alloc o) := (Below.refl _ _).alloc (Nat.le_refl _) _
theorem app_own (w : World) (base : Nat) (t ty e : TypeId) (i : TypeInfo) (z : Value) (size bytes : Nat) (ht : Tryd.prog.underlying t = some (.slice e)) (hi : Tryd.prog.info? e = some i) (hz : i.zero = some z)
    (hsize : i.size = size) (hby : i.bytes = bytes) (hb : bytes ≤ 64) (hzs : z.cells.size = size) (hsz : 0 < size) (v : Value) (n : Nat) (xs : List Value) (hown : w.ownsRow base e size v n xs)
    (b c : Nat) (cs : List Value) (hbk : Blk w b e cs.toArray) (hl : cs.length = size) (h1 : ∀ u ∈ cs, u.oneCell' = true) (hn : n ≤ 100000) (hbase : base ≤ w.heap.size) :
    ∃ v' w', (Builtin.append_ #[t, t] ty #[v, .slice (some ⟨b, 0, none⟩) 1 c]).run Tryd.prog w = .ok v' w' ∧ w'.ownsRow base e size v' (n + 1) (xs ++ cs) ∧ w.grownBy w' v.ownBlock ∧ (v'.ownBlock = v.ownBlock ∨ v'.ownBlock = some w.heap.size) := by
  have hcell : ∀ j u, cs[j]? = some u → w.cell? ((⟨b, 0, none⟩ : Addr).add j) = some u := by
    intro j u hj
    have ha : (⟨b, 0, none⟩ : Addr).add j = ⟨b, j, none⟩ := by
      simp [Addr.add]
      exact fun h => h.symm
    rw [ha, hbk.cell j]
    simpa using hj
  have hbb : (n + 1) * bytes ≤ 140737488355328 := by
    have h := Nat.mul_le_mul (show n + 1 ≤ 100001 by omega) hb
    omega
  obtain ⟨v', w', r1, r2, r3, _, r5⟩ := run_append_own_at (P := Tryd.prog) w base t ty e i z size bytes ht hi hz hsize hby hzs hsz v n xs hown ⟨b, 0, none⟩ 1 c cs (by rw [hl, Nat.one_mul]) hcell h1 (by unfold maxLen; omega) hbb hbase
  exact ⟨v', w', r1, r2, r3, r5⟩
theorem wpList_app {ops : Array Oper} {rest : List Oper} {o : Oper} {a : Act} {Q : Exit → Act → World → Prop} {w : World} (hgd : o.guard = none) (s x : Operand) (t : TypeId)
    (ho : o.op = .call { callee := .builtin .append, args := #[s, x], argTypes := #[t, t] }) (v arg : Value) (hs1 : a.eval s = v) (hx : a.eval x = arg) (R : Value → World → Prop)
    (hrun : ∀ ty, ∃ v' w', (Builtin.append_ #[t, t] ty #[v, arg]).run Tryd.prog w = .ok v' w' ∧ R v' w')
    (h : ∀ v' w', R v' w' → wpList Tryd.prog ops Q rest (a.put o.dst v') w') : wpList Tryd.prog ops Q (o :: rest) a w := by
  refine wpList_plain hgd fun K hK => ?_
  obtain ⟨v', w', hr, hR⟩ := hrun o.type
  unfold Oper.wp execOp
  simp only [ho, resolve, invoke, builtin, Sem.run_bind, Sem.run_pure, Result.andThen_ok, List.map_toArray, List.map_cons, List.map_nil, hs1, hx, hr]
  exact hK _ _ (h v' w' hR)
theorem row_set {w : World} {base : Nat} {e : TypeId} {size : Nat} {v : Value} {n : Nat} {xs : List Value} (h : w.ownsRow base e size v n xs) {p : Addr} (hp : p.block < base) (u : Value) : (w.setCell p u).ownsRow base e size v n xs := by
  obtain ⟨h1, h2⟩ := h
  refine ⟨h1, ?_⟩
  rcases h2 with h2 | ⟨g, cap, cur, rfl, hb, hh, r⟩
  · exact Or.inl h2
  · exact Or.inr ⟨g, cap, cur, rfl, hb, (Below.heap_setCell w p u g (by omega)).trans hh, r⟩
theorem row_slice {w : World} {base : Nat} {e : TypeId} {size : Nat} {v : Value} {n : Nat} {xs : List Value} (h : w.ownsRow base e size v n xs) : ∃ A c, v = .slice A n c := by
  rcases h.2 with ⟨rfl, h0⟩ | ⟨g, cap, cur, rfl, _⟩
  · exact ⟨none, 0, by rw [h0]⟩
  · exact ⟨_, _, rfl⟩
theorem row_base {w : World} {base : Nat} {e : TypeId} {size : Nat} {v : Value} {n : Nat} {xs : List Value} (h : w.ownsRow base e size v n xs) : ∀ k, v.ownBlock = some k → base ≤ k := by
  intro k hk
  rcases h.2 with ⟨rfl, _⟩ | ⟨g, cap, cur, rfl, hb, _⟩
  · cases hk
  · simp [Value.ownBlock] at hk
    omega
theorem index_str (t : ByteArray) (i : Nat) (h : i < t.size) (w : World) : (Instr.index 9 (.string t) (.int .i64 (i : Int))).run Tryd.prog w = .ok (.int .u8 ((t[i]'h).toNat : Int)) w := by
  have e : t[i]? = some (t[i]'h) := by simp [h]
  simp [Instr.index, run_underlying Tryd.underlying9, Result.andThen, Sem.run_bind, asIntOf, e]
end Go.Proofs.YtlddnejjpekgeaaDoor
/- Tokens: the mathematics. -/
namespace Go.Proofs.YtlddnejjpekgeaaDoor
namespace Tk
abbrev Bs := List UInt8
def blankB (b : UInt8) : Bool := decide (b.toNat = 32 ∨ b.toNat = 9 ∨ b.toNat = 10)
def plainB (b : UInt8) : Bool := decide (97 ≤ b.toNat ∧ b.toNat ≤ 122 ∨ 65 ≤ b.toNat ∧ b.toNat ≤ 90 ∨ 48 ≤ b.toNat ∧ b.toNat ≤ 57 ∨ b.toNat = 95)
def quotB (b : UInt8) : Bool := decide (33 ≤ b.toNat ∧ b.toNat ≤ 126 ∧ b.toNat ≠ 34)
/-- How many bytes at the beginning belong together. -/
def runS (p : UInt8 → Bool) : Bs → Nat
  | [] => 0
  | b :: t => if p b = true then runS p t + 1 else 0
theorem run_le (p : UInt8 → Bool) (s : Bs) : runS p s ≤ s.length := by
  induction s with
  | nil => exact Nat.le_refl _
  | cons b t ih => rw [runS]; split <;> simp <;> omega
theorem run_before (p : UInt8 → Bool) (s : Bs) {i : Nat} (h : i < runS p s) : ∃ hi : i < s.length, p (s[i]) = true := by
  induction s generalizing i with
  | nil => simp [runS] at h
  | cons b t ih =>
    rw [runS] at h
    split at h
    · rename_i hb
      cases i with
      | zero => exact ⟨by simp, hb⟩
      | succ i =>
        obtain ⟨h1, h2⟩ := ih (by omega : i < runS p t)
        exact ⟨by simp; omega, by simpa using h2⟩
    · omega
theorem run_at (p : UInt8 → Bool) (s : Bs) (h : runS p s < s.length) : p (s[runS p s]) = false := by
  induction s with
  | nil => simp at h
  | cons b t ih =>
    by_cases hb : p b = true
    · have hr : runS p (b :: t) = runS p t + 1 := by rw [runS, if_pos hb]
      rw [hr] at h
      have := ih (by simp at h; omega)
      simpa [hr] using this
    · have hr : runS p (b :: t) = 0 := by rw [runS, if_neg hb]
      simp only [hr, List.getElem_cons_zero]
      simpa using hb
theorem run_of {p : UInt8 → Bool} {s : Bs} {n : Nat} (hn : n ≤ s.length) (h1 : ∀ i (hi : i < s.length), i < n → p (s[i]) = true) (h2 : ∀ h : n < s.length, p (s[n]) = false) : runS p s = n := by
  have ha := run_le p s
  rcases Nat.lt_trichotomy (runS p s) n with h | h | h
  · have hl : runS p s < s.length := by omega
    have := run_at p s hl
    rw [h1 _ hl h] at this
    cases this
  · exact h
  · obtain ⟨hi, hp⟩ := run_before p s h
    rw [h2 hi] at hp
    cases hp
theorem run_app {p : UInt8 → Bool} {b : UInt8} (hb : p b = false) (u t : Bs) : runS p (u ++ b :: t) = runS p u := by
  induction u with
  | nil => simp [runS, hb]
  | cons a u ih => simp only [List.cons_append, runS, ih]
theorem run_take (p : UInt8 → Bool) (s : Bs) : runS p (s.take (runS p s)) = runS p s := by
  induction s with
  | nil => rfl
  | cons a u ih =>
    by_cases ha : p a = true
    · rw [runS, if_pos ha, List.take_succ_cons, runS, if_pos ha, ih]
    · rw [runS, if_neg ha, List.take_zero, runS]
/-- The length of the quoted name at the beginning, or 0. -/
def quotedS (s : Bs) : Nat := if s[0]? = some 34 ∧ runS quotB (s.drop 1) ≠ 0 ∧ (s.drop 1)[runS quotB (s.drop 1)]? = some 34 then runS quotB (s.drop 1) + 2 else 0
def signsL : List Bs := [[60, 45, 62], [45, 62], [33], [38], [124], [40], [41], [91], [93]]
/-- The length of the first of some signs that stands at the beginning, or 0. -/
def signIn : List Bs → Bs → Nat
  | [], _ => 0
  | x :: r, s => if x.isPrefixOf s = true then x.length else signIn r s
def signS (s : Bs) : Nat := signIn signsL s
def firstS (s : Bs) : Nat × Nat := if runS plainB s ≠ 0 then (1, runS plainB s) else if quotedS s ≠ 0 then (1, quotedS s) else (2, signS s)
theorem quoted_le (s : Bs) : quotedS s ≤ s.length := by
  unfold quotedS
  split
  · rename_i h
    have h2 := h.2.2
    have : runS quotB (s.drop 1) < (s.drop 1).length := by
      apply Classical.byContradiction
      intro hn
      rw [List.getElem?_eq_none (by omega)] at h2
      cases h2
    rw [List.length_drop] at this
    omega
  · exact Nat.zero_le _
theorem prefix_len {x s : Bs} (h : x.isPrefixOf s = true) : x.length ≤ s.length := (List.isPrefixOf_iff_prefix.1 h).length_le
theorem signIn_le (l : List Bs) (s : Bs) : signIn l s ≤ s.length := by
  induction l with
  | nil => exact Nat.zero_le _
  | cons x r ih =>
    rw [signIn]
    split
    · rename_i h
      exact prefix_len h
    · exact ih
theorem sign_le (s : Bs) : signS s ≤ s.length := signIn_le _ s
theorem first_le (s : Bs) : (firstS s).2 ≤ s.length := by
  unfold firstS
  split
  · exact run_le _ _
  · split
    · exact quoted_le s
    · exact sign_le s
theorem first_kind (s : Bs) : (firstS s).1 = 1 ∨ (firstS s).1 = 2 := by
  unfold firstS
  split
  · exact Or.inl rfl
  · split
    · exact Or.inl rfl
    · exact Or.inr rfl
/-- The place behind the blanks from a place on. -/
def skipS (s : Bs) (a : Nat) : Nat := a + runS blankB (s.drop a)
theorem skip_le (s : Bs) (a : Nat) (h : a ≤ s.length) : skipS s a ≤ s.length := by
  have := run_le blankB (s.drop a)
  rw [List.length_drop] at this
  unfold skipS
  omega
theorem skip_ge (s : Bs) (a : Nat) : a ≤ skipS s a := by unfold skipS; omega
structure Tok where
  k : Nat
  t : Bs
  a : Nat
/-- The tokens from a place on, and where it goes wrong. -/
def scan (s : Bs) : Nat → Nat → List Tok × Option Nat
  | 0, _ => ([], none)
  | n + 1, a => if s.length ≤ a then ([⟨0, [], s.length⟩], none) else
    if (firstS (s.drop a)).2 = 0 then ([], some a) else
    (⟨(firstS (s.drop a)).1, (s.drop a).take (firstS (s.drop a)).2, a⟩ :: (scan s n (skipS s (a + (firstS (s.drop a)).2))).1, (scan s n (skipS s (a + (firstS (s.drop a)).2))).2)
def lexS (s : Bs) : List Tok × Option Nat := scan s (s.length + 1) (skipS s 0)
/-- What Lex answers: the tokens, the error, its place. -/
def lexA (s : Bs) : List Tok × Nat × Nat := if 20000 < s.length then ([], 2, 0) else match (lexS s).2 with | none => ((lexS s).1, 0, 0) | some a => ([], 40, a)
/-- What the iterator hands over. -/
def itemsS (s : Bs) : List (Tok × Nat) := (lexS s).1.map (fun t => (t, 0)) ++ (match (lexS s).2 with | none => [] | some a => [(⟨0, [], a⟩, 40)])
theorem skip_blank {s : Bs} {a : Nat} (h : a < s.length) (hb : blankB (s[a]) = true) : skipS s a = skipS s (a + 1) := by
  unfold skipS
  rw [List.drop_eq_getElem_cons h, runS, if_pos hb]
  omega
theorem skip_not {s : Bs} {a : Nat} (h : a < s.length) (hb : blankB (s[a]) = false) : skipS s a = a := by
  unfold skipS
  rw [List.drop_eq_getElem_cons h, runS, if_neg (by rw [hb]; simp)]
  rfl
theorem skip_end {s : Bs} {a : Nat} (h : s.length ≤ a) : skipS s a = a := by
  unfold skipS
  rw [List.drop_of_length_le h]
  rfl
theorem scan_end {s : Bs} {n a : Nat} (h : s.length ≤ a) : scan s (n + 1) a = ([⟨0, [], s.length⟩], none) := by rw [scan, if_pos h]
theorem scan_bad {s : Bs} {n a : Nat} (h : a < s.length) (h0 : (firstS (s.drop a)).2 = 0) : scan s (n + 1) a = ([], some a) := by rw [scan, if_neg (by omega), if_pos h0]
theorem scan_tok {s : Bs} {n a : Nat} (h : a < s.length) (h0 : (firstS (s.drop a)).2 ≠ 0) : scan s (n + 1) a = (⟨(firstS (s.drop a)).1, (s.drop a).take (firstS (s.drop a)).2, a⟩ :: (scan s n (skipS s (a + (firstS (s.drop a)).2))).1, (scan s n (skipS s (a + (firstS (s.drop a)).2))).2) := by rw [scan, if_neg (by omega), if_neg h0]
theorem scan_len (s : Bs) : ∀ (n a : Nat), (scan s n a).1.length ≤ n
  | 0, _ => Nat.le_refl _
  | n + 1, a => by
    rw [scan]
    split
    · simp
    · split
      · simp
      · simpa using scan_len s n _
theorem items_len (s : Bs) : (itemsS s).length ≤ s.length + 2 := by
  have := scan_len s (s.length + 1) (skipS s 0)
  unfold itemsS lexS
  rw [List.length_append, List.length_map]
  split <;> simp <;> omega
theorem lexA_len (s : Bs) : (lexA s).1.length ≤ 20001 := by
  unfold lexA
  split
  · simp
  · split
    · have := scan_len s (s.length + 1) (skipS s 0)
      unfold lexS
      simp only
      omega
    · simp
theorem items_done {s : Bs} {ts : List Tok} (hs : s.length ≤ 20000) (h : itemsS s = ts.map (fun t => (t, 0))) : lexA s = (ts, 0, 0) := by
  unfold lexA
  rw [if_neg (by omega)]
  unfold itemsS at h
  split at h
  · simp only [List.append_nil] at h
    have : (lexS s).1 = ts := by
      have := congrArg (List.map Prod.fst) h
      simpa [List.map_map, Function.comp_def] using this
    rw [this]
  · have := congrArg (List.map Prod.snd) h
    have h3 : (40 : Nat) ∈ (ts.map (fun t => (t, 0))).map Prod.snd := by rw [← this]; simp
    simp at h3
theorem items_stop {s : Bs} {ts : List Tok} {t : Tok} {e : Nat} {suf : List (Tok × Nat)} (hs : s.length ≤ 20000) (he : e ≠ 0) (h : itemsS s = (ts.map (fun t => (t, 0)) ++ [(t, e)]) ++ suf) : lexA s = ([], 40, t.a) ∧ e = 40 := by
  unfold lexA
  rw [if_neg (by omega)]
  unfold itemsS at h
  have hm : (t, e) ∈ (ts.map (fun t => (t, 0)) ++ [(t, e)]) ++ suf := by simp
  rw [← h] at hm
  rcases List.mem_append.1 hm with hm | hm
  · obtain ⟨x, _, hx⟩ := List.mem_map.1 hm
    cases hx
    exact absurd rfl he
  · split at hm
    · cases hm
    · simp at hm
      obtain ⟨rfl, rfl⟩ := hm
      exact ⟨rfl, rfl⟩
end Tk
end Go.Proofs.YtlddnejjpekgeaaDoor
/- Tokens: the small functions of package token. -/
namespace Go.Proofs.YtlddnejjpekgeaaDoor
open Go.RowKit

/-- A text as the program's string. -/
def bsv (s : Tk.Bs) : ByteArray := ⟨s.toArray⟩
theorem bsv_size (s : Tk.Bs) : (bsv s).size = s.length := by simp [bsv, ByteArray.size]
theorem bsv_get (s : Tk.Bs) (i : Nat) (h : i < s.length) : (bsv s)[i]'(by rw [bsv_size]; exact h) = s[i] := rfl
theorem ix_bsv (s : Tk.Bs) (i : Nat) (h : i < s.length) (w : World) : (Instr.index 9 (.string (bsv s)) (.int .i64 (i : Int))).run Tryd.prog w = .ok (.int .u8 ((s[i]).toNat : Int)) w := by
  rw [index_str (bsv s) i (by rw [bsv_size]; exact h) w, bsv_get s i h]
theorem bsv_extract (s : Tk.Bs) (a b : Nat) : (bsv s).extract a b = bsv ((s.drop a).take (b - a)) := by
  unfold bsv
  apply ByteArray.ext
  simp [ByteArray.data_extract, List.extract_eq_take_drop]
theorem sl_bsv (s : Tk.Bs) (a : Nat) (h : a ≤ s.length) (w : World) : (Instr.slice 9 (.string (bsv s)) (some (.int .i64 (a : Int))) none none).run Tryd.prog w = .ok (.string (bsv (s.drop a))) w := by
  rw [run_slice_string_from_if w _ _ _ _ Tryd.underlying9, if_pos (by rw [bsv_size]; omega), Int.toNat_natCast, bsv_size, bsv_extract, List.take_of_length_le (by rw [List.length_drop]; omega)]
theorem eq_bsv (x y : Tk.Bs) : ((bsv x).toList == (bsv y).toList) = (x == y) := by
  rw [Lib.toList_data, Lib.toList_data]
  rfl

set_option maxHeartbeats 1000000 in
theorem idx30 (s : ByteArray) (c : Int) (w : World) : Calls Tryd.prog 85 #[.string s, .int .u8 c] w fun e w' => e = .returned (.int .i64 (Lib.indexByte s.data.toList c.toNat.toUInt8)) ∧ w = w' := by
  have hc : ∀ w, (callFunc 92 #[.string s, .int .u8 c]).run Tryd.prog w = .ok (.value (.int .i64 (Lib.indexByte s.data.toList c.toNat.toUInt8))) w := fun w => by
    rw [run_callFunc_extern Tryd.func92 (by kernel_rfl) (by kernel_rfl) (by kernel_rfl) (e := Extern.BytealgIndexByte.indexByte) (by kernel_rfl), Lib.run_indexByteString]
    rfl
  go_enter Tryd.func85, Tryd.ntmps85
  go_wp2
  go_ret
  exact ⟨rfl, rfl⟩
set_option maxHeartbeats 1000000 in
theorem idx26 (s : ByteArray) (c : Int) (w : World) : Calls Tryd.prog 77 #[.string s, .int .u8 c] w fun e w' => e = .returned (.int .i64 (Lib.indexByte s.data.toList c.toNat.toUInt8)) ∧ w = w' := by
  go_enter Tryd.func77, Tryd.ntmps77
  go_wp2_with fail
  refine (idx30 s c w).mono ?_
  rintro e w1 ⟨rfl, rfl⟩
  go_wp2
  go_ret
  exact ⟨rfl, rfl⟩
theorem blank_idx (b : UInt8) : decide (0 ≤ Lib.indexByte (⟨#[32, 9, 10]⟩ : ByteArray).data.toList ((b.toNat : Int)).toNat.toUInt8) = Tk.blankB b := by
  rw [Int.toNat_natCast, show b.toNat.toUInt8 = b by simp]
  show decide (0 ≤ Lib.indexByte [32, 9, 10] b) = _
  have e1 : ∀ c : UInt8, (c == b) = decide (b = c) := fun c => by
    rw [Bool.eq_iff_iff]
    simp
    exact eq_comm
  simp only [Lib.indexByte, e1, Tk.blankB]
  by_cases h1 : b = 32
  · subst h1
    decide
  · by_cases h2 : b = 9
    · subst h2
      decide
    · by_cases h3 : b = 10
      · subst h3
        decide
      · have k1 : b.toNat ≠ 32 := fun h => h1 (UInt8.toNat_inj.1 h)
        have k2 : b.toNat ≠ 9 := fun h => h2 (UInt8.toNat_inj.1 h)
        have k3 : b.toNat ≠ 10 := fun h => h3 (UInt8.toNat_inj.1 h)
        simp [h1, h2, h3, k1, k2, k3]
set_option maxHeartbeats 1000000 in
theorem blank_any (b : UInt8) (w : World) : Calls Tryd.prog 62 #[.int .u8 (b.toNat : Int)] w fun e w' => e = .returned (.bool (Tk.blankB b)) ∧ w = w' := by
  have HB := Lib.hid (blank_idx b)
  go_enter Tryd.func62, Tryd.ntmps62
  go_wp2_with fail
  refine (idx26 _ _ w).mono ?_
  rintro e w1 ⟨rfl, rfl⟩
  generalize Lib.indexByte (⟨#[32, 9, 10]⟩ : ByteArray).data.toList ((b.toNat : Int)).toNat.toUInt8 = x at *
  go_wp2
  go_ret
  exact ⟨by rw [← HB.out]; rfl, rfl⟩

set_option maxHeartbeats 2000000 in
theorem plain_any (b : UInt8) (w : World) : Calls Tryd.prog 63 #[.int .u8 (b.toNat : Int)] w fun e w' => e = .returned (.bool (Tk.plainB b)) ∧ w = w' := by
  have HP : Hid (Tk.plainB b = decide (97 ≤ b.toNat ∧ b.toNat ≤ 122 ∨ 65 ≤ b.toNat ∧ b.toNat ≤ 90 ∨ 48 ≤ b.toNat ∧ b.toNat ≤ 57 ∨ b.toNat = 95)) := rfl
  generalize b.toNat = n at *
  go_enter Tryd.func63, Tryd.ntmps63
  go_wp2
  all_goals (go_ret; refine ⟨?_, rfl⟩; rw [HP.out]; refine congrArg (fun b => Ending.returned (Value.bool b)) ?_; rw [Bool.eq_iff_iff]; simp; try omega)

set_option maxHeartbeats 2000000 in
theorem letter_any (b : UInt8) (w : World) : Calls Tryd.prog 67 #[.int .u8 (b.toNat : Int)] w fun e w' => e = .returned (.bool (Tk.plainB b)) ∧ w = w' := by
  have HP : Hid (Tk.plainB b = decide (97 ≤ b.toNat ∧ b.toNat ≤ 122 ∨ 65 ≤ b.toNat ∧ b.toNat ≤ 90 ∨ 48 ≤ b.toNat ∧ b.toNat ≤ 57 ∨ b.toNat = 95)) := rfl
  generalize b.toNat = n at *
  go_enter Tryd.func67, Tryd.ntmps67
  go_wp2
  all_goals (go_ret; refine ⟨?_, rfl⟩; rw [HP.out]; refine congrArg (fun b => Ending.returned (Value.bool b)) ?_; rw [Bool.eq_iff_iff]; simp; try omega)

set_option maxHeartbeats 2000000 in
theorem quotable_any (b : UInt8) (w : World) : Calls Tryd.prog 79 #[.int .u8 (b.toNat : Int)] w fun e w' => e = .returned (.bool (Tk.quotB b)) ∧ w = w' := by
  have HP : Hid (Tk.quotB b = decide (33 ≤ b.toNat ∧ b.toNat ≤ 126 ∧ b.toNat ≠ 34)) := rfl
  generalize b.toNat = n at *
  go_enter Tryd.func79, Tryd.ntmps79
  go_wp2
  all_goals (go_ret; refine ⟨?_, rfl⟩; rw [HP.out]; refine congrArg (fun b => Ending.returned (Value.bool b)) ?_; rw [Bool.eq_iff_iff]; simp; try omega)

end Go.Proofs.YtlddnejjpekgeaaDoor
/- Tokens: runs of bytes, signs, quoted names, the first token. -/
namespace Go.Proofs.YtlddnejjpekgeaaDoor
open Go.RowKit
attribute [local go_sem] bsv_size

set_option maxHeartbeats 2000000 in
theorem run_blank (s : Tk.Bs) (w : World) (hs : s.length ≤ 100000) : Calls Tryd.prog 61 #[.string (bsv s), .func (.func 62) #[] #[]] w fun e w' => e = .returned (.int .i64 (Tk.runS Tk.blankB s : Nat)) ∧ w = w' := by
  go_enter Tryd.func61, Tryd.ntmps61
  go_wp2
  go_loopw [5] (fun i wr => ∃ k : Nat, k ≤ s.length ∧ i = .int .i64 (k : Int) ∧ (∀ j (hj : j < s.length), j < k → Tk.blankB (s[j]) = true) ∧ w = wr) (fun i _ => s.length - (intOf i).toNat)
  case atStart => exact ⟨0, Nat.zero_le _, rfl, fun _ _ h => absurd h (Nat.not_lt_zero _), rfl⟩
  case round =>
    obtain ⟨k, hk, rfl, hj, rfl⟩ := hrel
    by_cases hlt : k < s.length
    · have hix := ix_bsv s k hlt
      have HJ := Lib.hid hj
      clear hj
      go_wp2_with fail
      refine (blank_any (s[k]) w).mono ?_
      rintro e w1 ⟨rfl, rfl⟩
      cases hp : Tk.blankB (s[k]) with
      | false =>
        go_wp2
        go_ret
        refine ⟨?_, rfl⟩
        rw [Tk.run_of hk HJ.out (fun _ => hp)]
        rfl
      | true =>
        go_wp2
        go_roundw
        case rel =>
          refine ⟨k + 1, by omega, by go_num, fun j hj h => ?_, trivial⟩
          by_cases hjk : j = k
          · subst hjk
            exact hp
          · exact HJ.out j hj (by omega)
        case measure => simp [intOf]; omega
    · obtain rfl : k = s.length := by omega
      have HJ := Lib.hid hj
      clear hj
      go_wp2
      go_ret
      refine ⟨?_, rfl⟩
      rw [Tk.run_of (Nat.le_refl _) HJ.out (fun h => absurd h (Nat.lt_irrefl _))]
      rfl

set_option maxHeartbeats 2000000 in
theorem run_plain (s : Tk.Bs) (w : World) (hs : s.length ≤ 100000) : Calls Tryd.prog 61 #[.string (bsv s), .func (.func 63) #[] #[]] w fun e w' => e = .returned (.int .i64 (Tk.runS Tk.plainB s : Nat)) ∧ w = w' := by
  go_enter Tryd.func61, Tryd.ntmps61
  go_wp2
  go_loopw [5] (fun i wr => ∃ k : Nat, k ≤ s.length ∧ i = .int .i64 (k : Int) ∧ (∀ j (hj : j < s.length), j < k → Tk.plainB (s[j]) = true) ∧ w = wr) (fun i _ => s.length - (intOf i).toNat)
  case atStart => exact ⟨0, Nat.zero_le _, rfl, fun _ _ h => absurd h (Nat.not_lt_zero _), rfl⟩
  case round =>
    obtain ⟨k, hk, rfl, hj, rfl⟩ := hrel
    by_cases hlt : k < s.length
    · have hix := ix_bsv s k hlt
      have HJ := Lib.hid hj
      clear hj
      go_wp2_with fail
      refine (plain_any (s[k]) w).mono ?_
      rintro e w1 ⟨rfl, rfl⟩
      cases hp : Tk.plainB (s[k]) with
      | false =>
        go_wp2
        go_ret
        refine ⟨?_, rfl⟩
        rw [Tk.run_of hk HJ.out (fun _ => hp)]
        rfl
      | true =>
        go_wp2
        go_roundw
        case rel =>
          refine ⟨k + 1, by omega, by go_num, fun j hj h => ?_, trivial⟩
          by_cases hjk : j = k
          · subst hjk
            exact hp
          · exact HJ.out j hj (by omega)
        case measure => simp [intOf]; omega
    · obtain rfl : k = s.length := by omega
      have HJ := Lib.hid hj
      clear hj
      go_wp2
      go_ret
      refine ⟨?_, rfl⟩
      rw [Tk.run_of (Nat.le_refl _) HJ.out (fun h => absurd h (Nat.lt_irrefl _))]
      rfl

set_option maxHeartbeats 2000000 in
theorem run_quotable (s : Tk.Bs) (w : World) (hs : s.length ≤ 100000) : Calls Tryd.prog 61 #[.string (bsv s), .func (.func 79) #[] #[]] w fun e w' => e = .returned (.int .i64 (Tk.runS Tk.quotB s : Nat)) ∧ w = w' := by
  go_enter Tryd.func61, Tryd.ntmps61
  go_wp2
  go_loopw [5] (fun i wr => ∃ k : Nat, k ≤ s.length ∧ i = .int .i64 (k : Int) ∧ (∀ j (hj : j < s.length), j < k → Tk.quotB (s[j]) = true) ∧ w = wr) (fun i _ => s.length - (intOf i).toNat)
  case atStart => exact ⟨0, Nat.zero_le _, rfl, fun _ _ h => absurd h (Nat.not_lt_zero _), rfl⟩
  case round =>
    obtain ⟨k, hk, rfl, hj, rfl⟩ := hrel
    by_cases hlt : k < s.length
    · have hix := ix_bsv s k hlt
      have HJ := Lib.hid hj
      clear hj
      go_wp2_with fail
      refine (quotable_any (s[k]) w).mono ?_
      rintro e w1 ⟨rfl, rfl⟩
      cases hp : Tk.quotB (s[k]) with
      | false =>
        go_wp2
        go_ret
        refine ⟨?_, rfl⟩
        rw [Tk.run_of hk HJ.out (fun _ => hp)]
        rfl
      | true =>
        go_wp2
        go_roundw
        case rel =>
          refine ⟨k + 1, by omega, by go_num, fun j hj h => ?_, trivial⟩
          by_cases hjk : j = k
          · subst hjk
            exact hp
          · exact HJ.out j hj (by omega)
        case measure => simp [intOf]; omega
    · obtain rfl : k = s.length := by omega
      have HJ := Lib.hid hj
      clear hj
      go_wp2
      go_ret
      refine ⟨?_, rfl⟩
      rw [Tk.run_of (Nat.le_refl _) HJ.out (fun h => absurd h (Nat.lt_irrefl _))]
      rfl

set_option maxHeartbeats 1000000 in
theorem behind_any (s : Tk.Bs) (a : Nat) (w : World) (hs : s.length ≤ 100000) (ha : a ≤ s.length) : Calls Tryd.prog 49 #[.string (bsv s), .int .i64 (a : Int)] w fun e w' => e = .returned (.int .i64 (Tk.skipS s a : Nat)) ∧ w = w' := by
  have hsl := sl_bsv s a ha
  have HR := Lib.hid (run_blank (s.drop a) w (by rw [List.length_drop]; omega))
  have hle := Tk.run_le Tk.blankB (s.drop a)
  rw [List.length_drop] at hle
  unfold Tk.skipS
  generalize Tk.runS Tk.blankB (s.drop a) = n at *
  go_enter Tryd.func49, Tryd.ntmps49
  go_wp2_with fail
  refine HR.out.mono ?_
  rintro e w1 ⟨rfl, rfl⟩
  go_wp2
  go_ret
  exact ⟨by simp, rfl⟩
theorem prefix_take (x s : Tk.Bs) (h : x.length ≤ s.length) : (s.take x.length == x) = x.isPrefixOf s := by
  rw [Bool.eq_iff_iff, List.isPrefixOf_iff_prefix, List.prefix_iff_eq_take]
  simp
  exact eq_comm
theorem prefix_long (x s : Tk.Bs) (h : ¬ x.length ≤ s.length) : x.isPrefixOf s = false := by
  cases e : x.isPrefixOf s with
  | false => rfl
  | true => exact absurd (Tk.prefix_len e) h
set_option maxHeartbeats 1000000 in
theorem has32 (s x : Tk.Bs) (w : World) (hs : s.length ≤ 100000) (hx : x.length ≤ 100000) : Calls Tryd.prog 87 #[.string (bsv s), .string (bsv x)] w fun e w' => e = .returned (.bool (x.isPrefixOf s)) ∧ w = w' := by
  by_cases h : x.length ≤ s.length
  · have HP := Lib.hid (prefix_take x s h)
    have hsl : ∀ w, (Instr.slice 9 (.string (bsv s)) none (some (.int .i64 (x.length : Int))) none).run Tryd.prog w = .ok (.string (bsv (s.take x.length))) w := fun w => by
      have e := bsv_extract s 0 x.length
      rw [List.drop_zero, Nat.sub_zero] at e
      rw [← e]
      have : (x.length : Int) ≤ ((bsv s).size : Int) := by rw [bsv_size]; omega
      go_simp
    have heq := eq_bsv (s.take x.length) x
    go_enter Tryd.func87, Tryd.ntmps87
    go_wp2
    go_ret
    exact ⟨by rw [← HP.out]; rfl, rfl⟩
  · have HP := Lib.hid (prefix_long x s h)
    go_enter Tryd.func87, Tryd.ntmps87
    go_wp2
    go_ret
    exact ⟨by rw [HP.out]; rfl, rfl⟩
set_option maxHeartbeats 1000000 in
theorem has29 (s x : Tk.Bs) (w : World) (hs : s.length ≤ 100000) (hx : x.length ≤ 100000) : Calls Tryd.prog 80 #[.string (bsv s), .string (bsv x)] w fun e w' => e = .returned (.bool (x.isPrefixOf s)) ∧ w = w' := by
  have HR := Lib.hid (has32 s x w hs hx)
  go_enter Tryd.func80, Tryd.ntmps80
  go_wp2_with fail
  refine HR.out.mono ?_
  rintro e w1 ⟨rfl, rfl⟩
  go_wp2
  go_ret
  exact ⟨rfl, rfl⟩

set_option maxHeartbeats 1000000 in
theorem cut31 (s x : Tk.Bs) (w : World) (hs : s.length ≤ 100000) (hx : x.length ≤ 100000) : Calls Tryd.prog 86 #[.string (bsv s), .string (bsv x)] w fun e w' => e = .returned (.tuple #[.string (bsv (if x.isPrefixOf s = true then s.drop x.length else s)), .bool (x.isPrefixOf s)]) ∧ w = w' := by
  have HR := Lib.hid (has32 s x w hs hx)
  cases h : x.isPrefixOf s with
  | false =>
    rw [h] at HR
    go_enter Tryd.func86, Tryd.ntmps86
    go_wp2_with fail
    refine HR.out.mono ?_
    rintro e w1 ⟨rfl, rfl⟩
    go_wp2
    go_ret2
    exact ⟨rfl, rfl⟩
  | true =>
    rw [h] at HR
    have hsl := sl_bsv s x.length (Tk.prefix_len h)
    go_enter Tryd.func86, Tryd.ntmps86
    go_wp2_with fail
    refine HR.out.mono ?_
    rintro e w1 ⟨rfl, rfl⟩
    go_wp2
    go_ret2
    exact ⟨rfl, rfl⟩
set_option maxHeartbeats 1000000 in
theorem cut27 (s x : Tk.Bs) (w : World) (hs : s.length ≤ 100000) (hx : x.length ≤ 100000) : Calls Tryd.prog 78 #[.string (bsv s), .string (bsv x)] w fun e w' => e = .returned (.tuple #[.string (bsv (if x.isPrefixOf s = true then s.drop x.length else s)), .bool (x.isPrefixOf s)]) ∧ w = w' := by
  have HR := Lib.hid (cut31 s x w hs hx)
  generalize (if x.isPrefixOf s = true then s.drop x.length else s) = y at *
  generalize x.isPrefixOf s = b at *
  go_enter Tryd.func78, Tryd.ntmps78
  go_wp2_with fail
  refine HR.out.mono ?_
  rintro e w1 ⟨rfl, rfl⟩
  go_wp2
  go_ret2
  exact ⟨rfl, rfl⟩

end Go.Proofs.YtlddnejjpekgeaaDoor
/- Tokens: signs, quoted names, the first token of a text. -/
namespace Go.Proofs.YtlddnejjpekgeaaDoor
open Go.RowKit
attribute [local go_sem] bsv_size

/-- The signs in memory. -/
def Sig (w : World) : Prop := ∀ i, i < 9 → w.cell? ⟨0, i, none⟩ = some (.string (bsv (Tk.signsL.getD i [])))
theorem Sig.below {B : Nat} {w w' : World} (h : Sig w) (hb : Below B w w') (hB : 0 < B) : Sig w' := fun i hi => (hb.cell (p := ⟨_, i, none⟩) hB).trans (h i hi)
theorem prefix_one (s : Tk.Bs) : ([34] : Tk.Bs).isPrefixOf s = decide (s[0]? = some 34) := by
  cases s with
  | nil => rfl
  | cons b t =>
    rw [Bool.eq_iff_iff]
    simp [List.isPrefixOf]
    exact eq_comm
set_option maxHeartbeats 2000000 in
theorem quoted_any (s : Tk.Bs) (w : World) (hs : s.length ≤ 100000) : Calls Tryd.prog 64 #[.string (bsv s)] w fun e w' => e = .returned (.int .i64 (Tk.quotedS s : Nat)) ∧ w = w' := by
  have HC := Lib.hid (cut27 s [34] w hs (by simp))
  rw [prefix_one] at HC
  have HQ : Hid (Tk.quotedS s = if s[0]? = some 34 ∧ Tk.runS Tk.quotB (s.drop 1) ≠ 0 ∧ (s.drop 1)[Tk.runS Tk.quotB (s.drop 1)]? = some 34 then Tk.runS Tk.quotB (s.drop 1) + 2 else 0) := rfl
  generalize Tk.quotedS s = q at *
  have HR := Lib.hid (run_quotable s w hs)
  have HR1 := Lib.hid (run_quotable (s.drop 1) w (by rw [List.length_drop]; omega))
  go_enter Tryd.func64, Tryd.ntmps64
  go_wp2_with fail
  refine HC.out.mono ?_
  by_cases h0 : s[0]? = some 34
  · have d0 : decide (s[0]? = some 34) = true := decide_eq_true h0
    rw [d0]
    simp only [if_true, List.length_cons, List.length_nil, Nat.zero_add]
    have HQ2 : Hid (q = if Tk.runS Tk.quotB (s.drop 1) ≠ 0 ∧ (s.drop 1)[Tk.runS Tk.quotB (s.drop 1)]? = some 34 then Tk.runS Tk.quotB (s.drop 1) + 2 else 0) := by
      unfold Hid
      rw [HQ.out]
      simp only [h0, true_and]
    have hle := Tk.run_le Tk.quotB (s.drop 1)
    have HD : Hid ((s.drop 1).length ≤ 100000) := by unfold Hid; rw [List.length_drop]; omega
    clear HQ HC HR d0 h0
    generalize s.drop 1 = u at *
    rintro e w1 ⟨rfl, rfl⟩
    go_wp2_with fail
    refine HR1.out.mono ?_
    rintro e w1 ⟨rfl, rfl⟩
    clear HR1
    generalize hn : Tk.runS Tk.quotB u = n at *
    have HN := Lib.hid hn
    have HU := HD.out
    clear hn HD
    by_cases hn0 : n = 0
    · subst hn0
      go_wp2
      go_ret
      exact ⟨by rw [HQ2.out]; simp, rfl⟩
    · by_cases hnl : n = u.length
      · have d1 : ((n : Int) == 0) = false := by rw [beq_eq_false_iff_ne]; omega
        have HQ3 : Hid (q = 0) := by
          unfold Hid
          rw [HQ2.out, if_neg]
          intro h
          rw [hnl, List.getElem?_eq_none (Nat.le_refl _)] at h
          cases h.2
        rw [hnl] at d1
        subst hnl
        go_wp2
        go_ret
        exact ⟨by rw [HQ3.out]; rfl, rfl⟩
      · have d1 : ((n : Int) == 0) = false := by rw [beq_eq_false_iff_ne]; omega
        have d2 : ((n : Int) == (u.length : Int)) = false := by rw [beq_eq_false_iff_ne]; omega
        have hlt : n < u.length := by omega
        have hix := ix_bsv u n hlt
        have HQ3 : Hid (q = if (u[n]).toNat = 34 then n + 2 else 0) := by
          unfold Hid
          rw [HQ2.out, List.getElem?_eq_getElem hlt]
          simp only [ne_eq, hn0, not_false_eq_true, true_and, Option.some.injEq]
          have : (u[n] = 34) ↔ ((u[n]).toNat = 34) := ⟨fun h => by rw [h]; rfl, fun h => UInt8.toNat_inj.1 h⟩
          simp only [this]
        clear HQ2
        generalize (u[n]).toNat = b at *
        by_cases hb : b = 34
        · subst hb
          go_wp2
          go_ret
          exact ⟨by rw [HQ3.out]; simp, rfl⟩
        · have hb2 : ((b : Int) == 34) = false := by rw [beq_eq_false_iff_ne]; omega
          go_wp2
          go_ret
          exact ⟨by rw [HQ3.out, if_neg hb]; rfl, rfl⟩
  · have d0 : decide (s[0]? = some 34) = false := decide_eq_false h0
    rw [d0]
    simp only [Bool.false_eq_true, if_false]
    have HQ2 : Hid (q = 0) := by
      unfold Hid
      rw [HQ.out, if_neg (fun h => h0 h.1)]
    clear HQ HR1 HC d0 h0
    rintro e w1 ⟨rfl, rfl⟩
    go_wp2_with fail
    refine HR.out.mono ?_
    rintro e w1 ⟨rfl, rfl⟩
    go_wp2
    go_ret
    exact ⟨by rw [HQ2.out]; rfl, rfl⟩
set_option maxRecDepth 10000 in
theorem ix_signs (k : Nat) (h : k < 9) (w : World) : (Instr.index 101 (.agg #[.string (bsv [60, 45, 62]), .string (bsv [45, 62]), .string (bsv [33]), .string (bsv [38]), .string (bsv [124]), .string (bsv [40]), .string (bsv [41]), .string (bsv [91]), .string (bsv [93])]) (.int .i64 (k : Int))).run Tryd.prog w = .ok (.string (bsv (Tk.signsL.getD k []))) w := by
  have : k = 0 ∨ k = 1 ∨ k = 2 ∨ k = 3 ∨ k = 4 ∨ k = 5 ∨ k = 6 ∨ k = 7 ∨ k = 8 := by omega
  rcases this with rfl | rfl | rfl | rfl | rfl | rfl | rfl | rfl | rfl <;> (go_simp; rfl)
theorem signIn_no {x : Tk.Bs} {r : List Tk.Bs} {s : Tk.Bs} (h : x.isPrefixOf s = false) : Tk.signIn (x :: r) s = Tk.signIn r s := by rw [Tk.signIn, h]; rfl
theorem signIn_yes {x : Tk.Bs} {r : List Tk.Bs} {s : Tk.Bs} (h : x.isPrefixOf s = true) : Tk.signIn (x :: r) s = x.length := by rw [Tk.signIn, h]; rfl
theorem signs_drop (k : Nat) (h : k < 9) : Tk.signsL.drop k = Tk.signsL.getD k [] :: Tk.signsL.drop (k + 1) := by
  have h' : k < Tk.signsL.length := h
  rw [List.drop_eq_getElem_cons h', List.getD_eq_getElem?_getD, List.getElem?_eq_getElem h']
  rfl
theorem signs_short (k : Nat) : (Tk.signsL.getD k []).length ≤ 3 := by
  by_cases h : k < 9
  · have : k = 0 ∨ k = 1 ∨ k = 2 ∨ k = 3 ∨ k = 4 ∨ k = 5 ∨ k = 6 ∨ k = 7 ∨ k = 8 := by omega
    rcases this with rfl | rfl | rfl | rfl | rfl | rfl | rfl | rfl | rfl <;> decide
  · rw [List.getD_eq_getElem?_getD, List.getElem?_eq_none (show Tk.signsL.length ≤ k from by show 9 ≤ k; omega)]
    decide
set_option maxRecDepth 10000 in
set_option maxHeartbeats 2000000 in
theorem sign_any (s : Tk.Bs) (w : World) (hs : s.length ≤ 100000) (hg : Sig w) : Calls Tryd.prog 65 #[.string (bsv s)] w fun e w' => e = .returned (.int .i64 (Tk.signS s : Nat)) ∧ w = w' := by
  have c0 := hg 0 (by omega)
  have c1 := hg 1 (by omega)
  have c2 := hg 2 (by omega)
  have c3 := hg 3 (by omega)
  have c4 := hg 4 (by omega)
  have c5 := hg 5 (by omega)
  have c6 := hg 6 (by omega)
  have c7 := hg 7 (by omega)
  have c8 := hg 8 (by omega)
  simp only [Tk.signsL, List.getD_cons_zero, List.getD_cons_succ] at c0 c1 c2 c3 c4 c5 c6 c7 c8
  have HG := Lib.hid hg
  clear hg
  go_enter Tryd.func65, Tryd.ntmps65
  go_wp2
  clear c0 c1 c2 c3 c4 c5 c6 c7 c8
  go_loopw [6] (fun i wr => ∃ k : Nat, k ≤ 9 ∧ i = .int .i64 (k : Int) ∧ Tk.signS s = Tk.signIn (Tk.signsL.drop k) s ∧ w = wr) (fun i _ => 9 - (intOf i).toNat)
  case atStart => exact ⟨0, Nat.zero_le _, rfl, rfl, rfl⟩
  case round =>
    obtain ⟨k, hk, rfl, hj, rfl⟩ := hrel
    have HJ := Lib.hid hj
    clear hj
    by_cases hlt : k < 9
    · have hix := ix_signs k hlt
      have HS := Lib.hid (signs_drop k hlt)
      have hsh := signs_short k
      generalize Tk.signsL.getD k [] = x at *
      have HH := Lib.hid (has29 s x w hs (by omega))
      cases hp : x.isPrefixOf s with
      | false =>
        rw [hp] at HH
        have HN := Lib.hid (signIn_no (r := Tk.signsL.drop (k + 1)) hp)
        clear hp
        go_wp2_with fail
        refine HH.out.mono ?_
        rintro e w1 ⟨rfl, rfl⟩
        go_wp2
        go_roundw
        case rel => exact ⟨k + 1, by omega, by go_num, by rw [HJ.out, HS.out, HN.out], trivial⟩
        case measure => simp [intOf]; omega
      | true =>
        rw [hp] at HH
        have HN := Lib.hid (signIn_yes (r := Tk.signsL.drop (k + 1)) hp)
        clear hp
        go_wp2_with fail
        refine HH.out.mono ?_
        rintro e w1 ⟨rfl, rfl⟩
        go_wp2
        go_ret
        exact ⟨by rw [HJ.out, HS.out, HN.out]; rfl, rfl⟩
    · obtain rfl : k = 9 := by omega
      go_wp2
      go_ret
      exact ⟨by rw [HJ.out]; rfl, rfl⟩
/-- A kind and a length, as first hands them back. -/
def firstV (p : Nat × Nat) : Value := .tuple #[.int .i64 (p.1 : Int), .int .i64 (p.2 : Int)]
set_option maxHeartbeats 2000000 in
theorem first_any (s : Tk.Bs) (w : World) (hs : s.length ≤ 100000) (hg : Sig w) : Calls Tryd.prog 50 #[.string (bsv s)] w fun e w' => e = .returned (firstV (Tk.firstS s)) ∧ w = w' := by
  have HF : Hid (Tk.firstS s = if Tk.runS Tk.plainB s ≠ 0 then (1, Tk.runS Tk.plainB s) else if Tk.quotedS s ≠ 0 then (1, Tk.quotedS s) else (2, Tk.signS s)) := rfl
  have HR := Lib.hid (run_plain s w hs)
  have HQ := Lib.hid (quoted_any s w hs)
  have HS := Lib.hid (sign_any s w hs hg)
  clear hg
  generalize Tk.firstS s = f at *
  generalize Tk.runS Tk.plainB s = n at *
  generalize Tk.quotedS s = q at *
  generalize Tk.signS s = g at *
  go_enter Tryd.func50, Tryd.ntmps50
  go_wp2_with fail
  refine HR.out.mono ?_
  rintro e w1 ⟨rfl, rfl⟩
  by_cases hn : n = 0
  · subst hn
    go_wp2_with fail
    refine HQ.out.mono ?_
    rintro e w1 ⟨rfl, rfl⟩
    by_cases hq : q = 0
    · subst hq
      go_wp2_with fail
      refine HS.out.mono ?_
      rintro e w1 ⟨rfl, rfl⟩
      go_wp2
      go_ret2
      exact ⟨by rw [HF.out]; rfl, rfl⟩
    · have hq0 : 0 < q := by omega
      go_wp2
      go_ret2
      exact ⟨by rw [HF.out, if_neg (by simp), if_pos hq]; rfl, rfl⟩
  · have hn0 : 0 < n := by omega
    go_wp2
    go_ret2
    exact ⟨by rw [HF.out, if_pos hn]; rfl, rfl⟩
end Go.Proofs.YtlddnejjpekgeaaDoor
/- Tokens: how a reading goes on. -/
namespace Go.Proofs.YtlddnejjpekgeaaDoor
namespace Tk
/-- The tokens ts have been read, and the next one begins at a. -/
def Mid (s : Bs) (ts : List Tok) (a : Nat) : Prop := a ≤ s.length ∧ ∃ n, s.length + 1 ≤ n + a ∧ lexS s = (ts ++ (scan s n a).1, (scan s n a).2)
theorem mid_start (s : Bs) : Mid s [] (skipS s 0) := ⟨skip_le s 0 (Nat.zero_le _), s.length + 1, by omega, rfl⟩
theorem mid_end {s : Bs} {ts : List Tok} {a : Nat} (h : Mid s ts a) (ha : s.length ≤ a) : lexS s = (ts ++ [⟨0, [], s.length⟩], none) := by
  obtain ⟨h1, n, h2, h3⟩ := h
  obtain ⟨m, rfl⟩ : ∃ m, n = m + 1 := ⟨n - 1, by omega⟩
  rw [h3, scan_end ha]
theorem mid_bad {s : Bs} {ts : List Tok} {a : Nat} (h : Mid s ts a) (ha : a < s.length) (h0 : (firstS (s.drop a)).2 = 0) : lexS s = (ts, some a) := by
  obtain ⟨h1, n, h2, h3⟩ := h
  obtain ⟨m, rfl⟩ : ∃ m, n = m + 1 := ⟨n - 1, by omega⟩
  rw [h3, scan_bad ha h0, List.append_nil]
theorem first_room {s : Bs} {a : Nat} (ha : a ≤ s.length) : a + (firstS (s.drop a)).2 ≤ s.length := by
  have := first_le (s.drop a)
  rw [List.length_drop] at this
  omega
theorem mid_tok {s : Bs} {ts : List Tok} {a : Nat} (h : Mid s ts a) (ha : a < s.length) (h0 : (firstS (s.drop a)).2 ≠ 0) : Mid s (ts ++ [⟨(firstS (s.drop a)).1, (s.drop a).take (firstS (s.drop a)).2, a⟩]) (skipS s (a + (firstS (s.drop a)).2)) := by
  obtain ⟨h1, n, h2, h3⟩ := h
  obtain ⟨m, rfl⟩ : ∃ m, n = m + 1 := ⟨n - 1, by omega⟩
  refine ⟨skip_le s _ (first_room h1), m, ?_, ?_⟩
  · have := skip_ge s (a + (firstS (s.drop a)).2)
    omega
  · rw [h3, scan_tok ha h0]
    simp
theorem mid_items {s : Bs} {ts : List Tok} {a : Nat} (h : Mid s ts a) : ∃ suf, ts.map (fun t => (t, 0)) ++ suf = itemsS s := by
  obtain ⟨h1, n, h2, h3⟩ := h
  unfold itemsS
  rw [h3]
  simp only [List.map_append, List.append_assoc]
  exact ⟨_, rfl⟩
theorem mid_len {s : Bs} {ts : List Tok} {a : Nat} (h : Mid s ts a) : ts.length ≤ s.length + 1 := by
  obtain ⟨h1, n, h2, h3⟩ := h
  have := scan_len s (s.length + 1) (skipS s 0)
  have h4 : (scan s (s.length + 1) (skipS s 0)).1 = ts ++ (scan s n a).1 := congrArg Prod.fst h3
  rw [h4, List.length_append] at this
  omega
theorem items_end {s : Bs} {ts : List Tok} {a : Nat} (h : Mid s ts a) (ha : s.length ≤ a) : itemsS s = ts.map (fun t => (t, 0)) ++ [(⟨0, [], s.length⟩, 0)] := by
  unfold itemsS
  rw [mid_end h ha]
  simp
theorem items_bad {s : Bs} {ts : List Tok} {a : Nat} (h : Mid s ts a) (ha : a < s.length) (h0 : (firstS (s.drop a)).2 = 0) : itemsS s = ts.map (fun t => (t, 0)) ++ [(⟨0, [], a⟩, 40)] := by
  unfold itemsS
  rw [mid_bad h ha h0]
end Tk
end Go.Proofs.YtlddnejjpekgeaaDoor
/- Tokens: the iterator over a text's tokens. -/
namespace Go.Proofs.YtlddnejjpekgeaaDoor
open Go.RowKit Go.Shelf

/-- A token as the program's value; what the iterator hands over. -/
def tokV (t : Tk.Tok) : Value := .agg #[.int .i64 (t.k : Int), .string (bsv t.t), .int .i64 (t.a : Int)]
def itemV (x : Tk.Tok × Nat) : Array Value := #[tokV x.1, .int .i64 (x.2 : Int)]
theorem sl2_bsv (s : Tk.Bs) (a n : Nat) (h : a + n ≤ s.length) (w : World) : (Instr.slice 9 (.string (bsv s)) (some (.int .i64 (a : Int))) (some (.int .i64 ((a : Int) + (n : Int)))) none).run Tryd.prog w = .ok (.string (bsv ((s.drop a).take n))) w := by
  have e := bsv_extract s a (a + n)
  rw [Nat.add_sub_cancel_left] at e
  rw [← e]
  have h1 : ((a : Int) + (n : Int)) ≤ ((bsv s).size : Int) := by rw [bsv_size]; omega
  have h2 : ((a : Int) + (n : Int)).toNat = a + n := by omega
  go_simp
  rw [if_pos (by omega), if_pos (by omega)]
theorem Sig.keep {K : Nat → Prop} {W W' : World} (h : Sig W) (hk : KS K W W') (h0 : K 0) : Sig W' := fun i hi => (hk.cell h0 i).trans (h i hi)
attribute [local go_sem] Oper.semAt_some bsv_size
set_option maxHeartbeats 1000000 in
theorem tokens_any (s : Tk.Bs) (w : World) : Calls Tryd.prog 39 #[.string (bsv s)] w fun e w' => e = .returned (.func (.func 48) #[] #[.pointer (some ⟨w.heap.size, 0, none⟩)]) ∧ w' = w.alloc (.cells #[.string (bsv s)] 9) := by
  go_enter Tryd.func39, Tryd.ntmps39
  go_wp2
  go_ret
  exact ⟨rfl, rfl⟩
set_option maxRecDepth 100000 in
set_option maxHeartbeats 4000000 in
theorem tokens1_in (m l Bs : Nat) (s : Tk.Bs) (K : Nat → Prop) (hm : 1 ≤ m) (hs : s.length ≤ 20000) (hK1 : K Bs) (hK2 : K 0) (J Jx : List (Tk.Tok × Nat) → World → Prop)
    (hY : ∀ pre (x : Tk.Tok × Nat) W, J pre W → pre.length < s.length + 2 → YieldAt Fence.wide (m - 1) Tryd.prog l (itemV x) W fun e W' =>
      (e = .returned (.bool true) ∧ J (pre ++ [x]) W' ∧ KS K W W') ∨ (e = .returned (.bool false) ∧ Jx (pre ++ [x]) W'))
    (W : World) (hB : Blk W Bs 9 #[.string (bsv s)]) (hg : Sig W) (h0 : J [] W) :
    CallsIn Fence.wide m Tryd.prog 48 #[.func (.yield l) #[] #[], .pointer (some ⟨Bs, 0, none⟩)] W fun e W' => (∃ v, e = .returned v) ∧
      ((∃ ys, ys = Tk.itemsS s ∧ J ys W') ∨ (∃ pre, (∃ suf, pre ++ suf = Tk.itemsS s) ∧ Jx pre W')) := by
  have c0 := hB.cell 0
  simp only [List.getElem?_toArray, List.getElem?_cons_zero] at c0
  refine callsIn_of_wp Tryd.func48 rfl trivial ?_ rfl
  simp only [Tryd.ntmps48, List.size_toArray, List.length_cons, List.length_nil, Nat.reduceAdd, Nat.reduceSub, Array.replicate_succ, Array.replicate_zero, List.push_toArray, List.append_toArray, List.nil_append, List.cons_append]
  gi_wp2
  refine ⟨trivial, (callsIn_wide.2 (behind_any s 0 W (by omega) (Nat.zero_le _))).mono ?_⟩
  rintro e w1 ⟨rfl, rfl⟩
  gi_wp2
  gi_loopw [3] (fun i wr => ∃ (a : Nat) (ts : List Tk.Tok), i = .int .i64 (a : Int) ∧ Tk.Mid s ts a ∧ J (ts.map (fun t => (t, 0))) wr ∧ KS K W wr) (fun i _ => s.length - (intOf i).toNat)
  case atStart => exact ⟨Tk.skipS s 0, [], rfl, Tk.mid_start s, h0, KS.refl _ _⟩
  case round =>
    obtain ⟨a, ts, rfl, hMid, hJ, hks⟩ := hrel
    have hg1 := hg.keep hks hK2
    have c1 := (hks.cell hK1 0).trans c0
    have hal := hMid.1
    have HLEN : Hid ((ts.map (fun t => (t, 0))).length < s.length + 2) := by
      unfold Hid
      have := Tk.mid_len hMid
      rw [List.length_map]
      omega
    have HM := Lib.hid hMid
    clear hMid c0 hg
    by_cases hlt : a < s.length
    · have hsl := sl_bsv s a hal
      have HF := Lib.hid (first_any (s.drop a) wr (by rw [List.length_drop]; omega) hg1)
      have HR := Lib.hid (Tk.first_room (s := s) hal)
      have HT := Lib.hid (fun h => Tk.mid_tok HM.out hlt h)
      have HB := Lib.hid (fun h => Tk.items_bad HM.out hlt h)
      unfold firstV at HF
      generalize hu : s.drop a = u at *
      generalize Tk.firstS u = f at *
      obtain ⟨k, n⟩ := f
      have hsl2 : a + n ≤ s.length → ∀ w, _ := fun h => sl2_bsv s a n h
      rw [hu] at hsl2
      clear hu
      simp only at HF HR HT HB
      have hr := HR.out
      replace hsl2 := hsl2 hr
      gi_wp2
      refine ⟨trivial, (callsIn_wide.2 HF.out).mono ?_⟩
      rintro e w1 ⟨rfl, rfl⟩
      clear HF
      by_cases hn : n = 0
      · subst hn
        have HB2 := Lib.hid (HB.out rfl)
        obtain ⟨fn, tmps, assign, body, hy, hR⟩ := hY _ (⟨0, [], a⟩, 40) wr hJ HLEN.out
        dsimp only [itemV, tokV] at hy
        rw [show ((40 : Nat) : Int) = 40 from rfl, show ((0 : Nat) : Int) = 0 from rfl] at hy
        rw [show bsv [] = (⟨#[]⟩ : ByteArray) from rfl] at hy
        clear HT HB hsl hsl2 HR hr
        gi_wp2
        refine hR.mono ?_
        rintro e W3 (⟨rfl, hJ3, hk3⟩ | ⟨rfl, hJx3⟩)
        · gi_wp2
          refine bodyPost_ret (results_none rfl _ _ _) rfl ?_
          exact ⟨⟨_, rfl⟩, .inl ⟨_, HB2.out.symm, hJ3⟩⟩
        · gi_wp2
          refine bodyPost_ret (results_none rfl _ _ _) rfl ?_
          exact ⟨⟨_, rfl⟩, .inr ⟨_, ⟨[], by rw [HB2.out, List.append_nil]⟩, hJx3⟩⟩
      · have d1 : ((n : Int) == 0) = false := by rw [beq_eq_false_iff_ne]; omega
        have HT2 := Lib.hid (HT.out hn)
        obtain ⟨fn, tmps, assign, body, hy, hR⟩ := hY _ (⟨k, u.take n, a⟩, 0) wr hJ HLEN.out
        dsimp only [itemV, tokV] at hy
        rw [show ((0 : Nat) : Int) = 0 from rfl] at hy
        clear HT HB HR
        gi_wp2
        refine hR.mono ?_
        rintro e W3 (⟨rfl, hJ3, hk3⟩ | ⟨rfl, hJx3⟩)
        · have c3 := (hk3.cell hK1 0).trans c1
          have HBB : Hid (Calls Tryd.prog 49 #[.string (bsv s), .int .i64 ((a : Int) + (n : Int))] W3 fun e w' => e = .returned (.int .i64 (Tk.skipS s (a + n) : Nat)) ∧ W3 = w') := by
            have := behind_any s (a + n) W3 (by omega) hr
            rwa [show ((a + n : Nat) : Int) = (a : Int) + (n : Int) by omega] at this
          gi_wp2
          refine ⟨trivial, (callsIn_wide.2 HBB.out).mono ?_⟩
          rintro e w1 ⟨rfl, rfl⟩
          gi_wp2
          go_roundw
          case rel => exact ⟨_, _, rfl, HT2.out, by rw [List.map_append]; exact hJ3, hks.trans hk3⟩
          case measure =>
            have := Tk.skip_ge s (a + n)
            simp [intOf]
            omega
        · gi_wp2
          refine bodyPost_ret (results_none rfl _ _ _) rfl ?_
          refine ⟨⟨_, rfl⟩, .inr ⟨_, ?_, hJx3⟩⟩
          obtain ⟨suf, hsuf⟩ := Tk.mid_items HT2.out
          rw [List.map_append] at hsuf
          exact ⟨suf, hsuf⟩
    · have HE := Lib.hid (Tk.items_end HM.out (by omega))
      obtain ⟨fn, tmps, assign, body, hy, hR⟩ := hY _ (⟨0, [], s.length⟩, 0) wr hJ HLEN.out
      dsimp only [itemV, tokV] at hy
      rw [show ((0 : Nat) : Int) = 0 from rfl] at hy
      rw [show bsv [] = (⟨#[]⟩ : ByteArray) from rfl] at hy
      gi_wp2
      refine hR.mono ?_
      rintro e W3 (⟨rfl, hJ3, hk3⟩ | ⟨rfl, hJx3⟩)
      · gi_wp2
        go_end0
        exact ⟨⟨_, rfl⟩, .inl ⟨_, HE.out.symm, hJ3⟩⟩
      · gi_wp2
        go_end0
        exact ⟨⟨_, rfl⟩, .inr ⟨_, ⟨[], by rw [HE.out, List.append_nil]⟩, hJx3⟩⟩
end Go.Proofs.YtlddnejjpekgeaaDoor
