/- Slices of gates that the call itself makes: append; slices.Clone, slices.Concat; same, extended. -/
import Derived.Test.YteabffdddlihnaaG
import Derived.Maps.AppendAt
import Derived.Deep.AppendLies
import Derived.RegionTactic
import Derived.OwnWalk
namespace Go.Proofs.Yteabffdddlihnaa
open Go.RowKit

/-- The cells of gates. -/
def flat : List (Int × Int) → List Value
  | [] => []
  | g :: r => .int .i64 g.1 :: .int .i64 g.2 :: flat r
theorem flat_length (gs : List (Int × Int)) : (flat gs).length = gs.length * 2 := by
  induction gs with
  | nil => rfl
  | cons g r ih => simp only [flat, List.length_cons, ih]; omega
theorem flat_append (gs hs : List (Int × Int)) : flat (gs ++ hs) = flat gs ++ flat hs := by
  induction gs with
  | nil => rfl
  | cons g r ih => simp [flat, ih]
theorem flat_get (gs : List (Int × Int)) (k : Nat) (h : k < gs.length) : (flat gs)[k * 2]? = some (.int .i64 (gs[k]).1) ∧ (flat gs)[k * 2 + 1]? = some (.int .i64 (gs[k]).2) := by
  induction gs generalizing k with
  | nil => simp at h
  | cons g r ih =>
    cases k with
    | zero => simp [flat]
    | succ k =>
      have := ih k (by simpa using h)
      rw [show (k + 1) * 2 = k * 2 + 1 + 1 by omega]
      simpa [flat] using this
theorem flat_one (gs : List (Int × Int)) : ∀ u ∈ flat gs, u.oneCell' = true := by
  induction gs with
  | nil => intro u h; simp [flat] at h
  | cons g r ih =>
    intro u h
    simp only [flat, List.mem_cons] at h
    rcases h with rfl | rfl | h
    · rfl
    · rfl
    · exact ih u h
/-- A row of gates of the call's own. -/
def Own (w : World) (base : Nat) (v : Value) (gs : List (Int × Int)) : Prop := w.ownsRow base 64 2 v gs.length (flat gs)
theorem Own.gr {w : World} {base : Nat} {v : Value} {gs : List (Int × Int)} (h : Own w base v gs) : ∃ A c, v = .slice A gs.length c ∧ Gr w w.heap.size A gs := by
  obtain ⟨_, h2⟩ := h
  rcases h2 with ⟨rfl, h0⟩ | ⟨g, cap, cur, rfl, _, hh, hn, _, hs, ht⟩
  · exact ⟨none, 0, by rw [h0], fun k hk => by omega⟩
  · refine ⟨_, cap, rfl, fun k hk => ⟨g, 0, rfl, ?_, ?_, ?_⟩⟩
    · exact Blk.lt (t := 64) hh
    · obtain ⟨f1, _⟩ := flat_get gs k hk
      rw [← ht, List.getElem?_take_of_lt (by omega)] at f1
      rw [Nat.zero_add, Blk.cell (t := 64) hh, ← Array.getElem?_toList]
      exact f1
    · obtain ⟨_, f2⟩ := flat_get gs k hk
      rw [← ht, List.getElem?_take_of_lt (by omega)] at f2
      rw [Nat.zero_add, Blk.cell (t := 64) hh, ← Array.getElem?_toList]
      exact f2
theorem Gr.cells {w : World} {B : Nat} {ad : Addr} {gs : List (Int × Int)} (h : Gr w B (some ad) gs) : ∀ j u, (flat gs)[j]? = some u → w.cell? (ad.add j) = some u := by
  intro j u hu
  have hj : j < gs.length * 2 := by
    rw [← flat_length]
    exact (List.getElem?_eq_some_iff.1 hu).1
  obtain ⟨b, off, e, _, h1, h2⟩ := h (j / 2) (by omega)
  injection e with e
  subst e
  obtain ⟨f1, f2⟩ := flat_get gs (j / 2) (by omega)
  have ha : (⟨b, off, none⟩ : Addr).add j = ⟨b, off + j, none⟩ := by simp [Addr.add]
  rw [ha]
  rcases Nat.mod_two_eq_zero_or_one j with hm | hm
  · have ej : j / 2 * 2 = j := by omega
    rw [ej] at h1 f1
    rw [h1, ← hu, f1]
  · have ej : j / 2 * 2 + 1 = j := by omega
    rw [Nat.add_assoc, ej] at h2
    rw [ej] at f2
    rw [h2, ← hu, f2]

theorem run_append_gates (w : World) (base B : Nat) (ty : TypeId) (v : Value) (gs hs : List (Int × Int)) (hown : Own w base v gs) (A : Option Addr) (c : Nat) (hg : Gr w B A hs)
    (hl : gs.length + hs.length ≤ 2000000) (hbase : base ≤ w.heap.size) :
    ∃ v' w', (Builtin.append_ #[23, 23] ty #[v, .slice A hs.length c]).run Try.prog w = .ok v' w' ∧ Own w' base v' (gs ++ hs) ∧ w.grownBy w' v.ownBlock ∧ (v'.ownBlock = v.ownBlock ∨ v'.ownBlock = some w.heap.size) := by
  have hi : Try.prog.info? 64 = some Try.t64 := by kernel_rfl
  cases A with
  | none =>
    have h0 : hs = [] := by
      cases hs with
      | nil => rfl
      | cons g r =>
        obtain ⟨_, _, e, _⟩ := hg 0 (by simp)
        cases e
    subst h0
    refine ⟨v, w, ?_, by simpa using hown, World.grownBy.refl w _, Or.inl rfl⟩
    rcases hown.2 with ⟨rfl, _⟩ | ⟨g, cap, cur, rfl, _, _, hnc, _⟩
    · simp [Builtin.append_, run_underlying Try.underlying23, sizeOf, typeInfo, hi, Builtin.lenOf, Builtin.firstCells]
    · simp [Builtin.append_, run_underlying Try.underlying23, sizeOf, typeInfo, hi, Builtin.lenOf, Builtin.firstCells, hnc, storeCells]
  | some ad =>
    have hm : gs.length + hs.length ≤ maxLen := by unfold maxLen; omega
    obtain ⟨v', w', h1, h2, h3, _, h5⟩ := run_append_own_at (P := Try.prog) w base 23 ty 64 Try.t64 (.agg #[.int .i64 0, .int .i64 0]) 2 16 Try.underlying23 hi (by kernel_rfl) (by kernel_rfl) (by kernel_rfl) (by kernel_rfl) (by omega)
      v gs.length (flat gs) hown ad hs.length c (flat hs) (flat_length hs) hg.cells (flat_one hs) hm (by omega) hbase
    exact ⟨v', w', h1, by unfold Own; rw [List.length_append, flat_append]; exact h2, h3, h5⟩

theorem wpList_gates {ops : Array Oper} {rest : List Oper} {o : Oper} {a : Act} {Q : Exit → Act → World → Prop} {w : World} (hgd : o.guard = none) (s x : Operand)
    (ho : o.op = .call { callee := .builtin .append, args := #[s, x], argTypes := #[23, 23] })
    (base B : Nat) (v : Value) (gs hs : List (Int × Int)) (hs1 : a.eval s = v) (hown : Own w base v gs) (A : Option Addr) (c : Nat) (hx : a.eval x = .slice A hs.length c) (hg : Gr w B A hs)
    (hl : gs.length + hs.length ≤ 2000000) (hbase : base ≤ w.heap.size)
    (h : ∀ v' w', Own w' base v' (gs ++ hs) → w.grownBy w' v.ownBlock → (v'.ownBlock = v.ownBlock ∨ v'.ownBlock = some w.heap.size) → wpList Try.prog ops Q rest (a.put o.dst v') w') : wpList Try.prog ops Q (o :: rest) a w := by
  refine wpList_plain hgd fun K hK => ?_
  obtain ⟨v', w', hrun, h2, h3, h4⟩ := run_append_gates w base B o.type v gs hs hown A c hg hl hbase
  unfold Oper.wp execOp
  simp only [ho, resolve, invoke, builtin, Sem.run_bind, Sem.run_pure, Result.andThen_ok, List.map_toArray, List.map_cons, List.map_nil, hs1, hx, hrun]
  exact hK _ _ (h v' w' h2 h3 h4)

/-- The address lies from block lo on, or below block B. -/
def Sep (B lo : Nat) (A : Option Addr) : Prop := ∀ ad, A = some ad → ad.block < B ∨ lo ≤ ad.block
theorem Sep.none_ {B lo : Nat} : Sep B lo none := fun _ h => by cases h
theorem Sep.ne {B lo k : Nat} {A : Option Addr} (h : Sep B lo A) (h1 : B ≤ k) (h2 : k < lo) : ∀ ad, A = some ad → ad.block ≠ k := fun ad e => by
  rcases h ad e with h | h <;> omega
theorem Sep.mono {B B' lo lo' : Nat} {A : Option Addr} (h : Sep B lo A) (h1 : B ≤ B') (h2 : lo' ≤ lo) : Sep B' lo' A := fun ad e => by
  rcases h ad e with h | h <;> omega
theorem Gr.set {w : World} {C : Nat} {A : Option Addr} {gs : List (Int × Int)} (h : Gr w C A gs) {p : Addr} (hp : ∀ ad, A = some ad → ad.block ≠ p.block) (u : Value) : Gr (w.setCell p u) C A gs := by
  intro k hk
  obtain ⟨b, off, e, hb, h1, h2⟩ := h k hk
  have hne := hp _ e
  exact ⟨b, off, e, hb, (World.cell?_setCell_other w p ⟨b, _, none⟩ u (fun e => hne (by rw [e]))).trans h1, (World.cell?_setCell_other w p ⟨b, _, none⟩ u (fun e => hne (by rw [e]))).trans h2⟩

/-- A slice of the gates gs is handed back. -/
def GatesPost (gs : List (Int × Int)) (w : World) (e : Ending) (w' : World) : Prop := ∃ A' c', e = .returned (.slice A' gs.length c') ∧ Gr w' w'.heap.size A' gs ∧ Sep 0 w.heap.size A' ∧ Below w.heap.size w w'
theorem Own.sep {w : World} {base : Nat} {A : Option Addr} {n c : Nat} {gs : List (Int × Int)} (h : Own w base (.slice A n c) gs) : Sep 0 base A := by
  intro ad e
  subst e
  rcases h.2 with ⟨h2, _⟩ | ⟨g, cap, cur, h2, hb, _⟩
  · simp at h2
  · simp only [Value.slice.injEq, Option.some.injEq] at h2
    obtain ⟨rfl, _, _⟩ := h2
    exact Or.inr hb

set_option maxHeartbeats 1000000 in
theorem clone_any (A : Option Addr) (c : Nat) (gs : List (Int × Int)) (w : World) (B : Nat) (hl : gs.length ≤ 1000000) (hg : Gr w B A gs) (hB : B ≤ w.heap.size) :
    Calls Try.prog 39 #[.slice A gs.length c] w (GatesPost gs w) := by
  have HL := Lib.hid hl
  clear hl
  cases A with
  | none =>
    have h0 : gs = [] := by
      cases gs with
      | nil => rfl
      | cons g r =>
        obtain ⟨_, _, e, _⟩ := hg 0 (by simp)
        cases e
    subst h0
    have hnil := fun W a n c => Lib.run_eql_slice_nil (P := Try.prog) W 23 64 a n c 0 0 Try.underlying23
    go_enter Try.func39, Try.ntmps39
    go_wp2
    go_ret
    exact ⟨none, 0, rfl, fun k hk => by simp at hk, Sep.none_, Below.refl _ _⟩
  | some ad =>
    have hnil := fun W a n c => Lib.run_eql_slice_nil (P := Try.prog) W 23 64 a n c 0 0 Try.underlying23
    go_enter Try.func39, Try.ntmps39
    go_wp2_with (at_builtin; go_loud (refine wpList_gates rfl _ _ rfl w.heap.size B _ [] gs rfl ?own _ _ rfl ?gr ?len ?base ?_))
    case own => exact ⟨rfl, Or.inr ⟨w.heap.size, 0, #[], rfl, Nat.le_refl _, Blk.new w _ #[], Nat.le_refl _, by unfold maxLen; omega, rfl, rfl⟩⟩
    case gr => exact hg.keep (fun p hp => World.cell?_alloc_lt w _ p (by omega))
    case len => have := HL.out; simp; omega
    case base => simp
    intro v' w' hown hgr _
    have hbw : Below w.heap.size w w' := ((Below.refl w.heap.size w).alloc (Nat.le_refl _) _).grown hgr (by simp) (fun k e => by simp [Value.ownBlock] at e; omega)
    obtain ⟨A', c', rfl, hG⟩ := hown.gr
    have hsep := hown.sep
    go_wp2
    go_ret
    exact ⟨A', c', rfl, hG, hsep, hbw⟩

/-- A graph is handed back. -/
def GraphPost (n : Int) (gs : List (Int × Int)) (w : World) (e : Ending) (w' : World) : Prop := ∃ A' c', e = .returned (.agg #[.int .i64 n, .slice A' gs.length c']) ∧ Gr w' w'.heap.size A' gs ∧ Sep 0 w.heap.size A' ∧ Below w.heap.size w w'

end Go.Proofs.Yteabffdddlihnaa
