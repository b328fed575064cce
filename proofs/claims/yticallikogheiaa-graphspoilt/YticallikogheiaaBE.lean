/- GraphSpoilt: what it writes. -/
import Derived.Test.YticallikogheiaaBC
namespace Go.Proofs.Yticallikogheiaa
open Go.RowKit

theorem cut_ {P Q : Prop} (h : P) (k : P → Q) : Q := k h
theorem step_gates {ops : Array Oper} {o : Oper} {a : Act} {K : Act → World → Prop} {Q : Exit → Act → World → Prop} {E : Prop} {w : World} (hgd : o.guard = none) (s x : Operand)
    (ho : o.op = .call { callee := .builtin .append, args := #[s, x], argTypes := #[22, 22] })
    (base B : Nat) (v : Value) (gs hs : List (Int × Int)) (hs1 : a.eval s = v) (hown : Own w base v gs) (A : Option Addr) (c : Nat) (hx : a.eval x = .slice A hs.length c) (hg : Gr w B A hs)
    (hl : gs.length + hs.length ≤ 2000000) (hbase : base ≤ w.heap.size)
    (h : ∀ v' w', Own w' base v' (gs ++ hs) → w.grownBy w' v.ownBlock → (v'.ownBlock = v.ownBlock ∨ v'.ownBlock = some w.heap.size) → K (a.put o.dst v') w') :
    if Region.wanted o (yielded ops a.tmps) = true then Oper.wp Try.prog o a w K Q else E := by
  have hw : Region.wanted o (yielded ops a.tmps) = true := by simp [Region.wanted, hgd]
  rw [if_pos hw]
  obtain ⟨v', w', hrun, h2, h3, h4⟩ := run_append_gates w base B o.type v gs hs hown A c hg hl hbase
  unfold Oper.wp execOp
  simp only [ho, resolve, invoke, builtin, Sem.run_bind, Sem.run_pure, Result.andThen_ok, List.map_toArray, List.map_cons, List.map_nil, hs1, hx, hrun]
  exact h v' w' h2 h3 h4

theorem own_nil (w : World) (base : Nat) : Own w base (.slice none 0 0) [] := ⟨rfl, Or.inl ⟨rfl, rfl⟩⟩
theorem own_al {w : World} {base : Nat} {v : Value} {gs : List (Int × Int)} {o : Obj} (h : Own w base v gs) : Own (w.alloc o) base v gs := World.ownsRow.alloc h o
theorem own_dr {w : World} {base : Nat} {v : Value} {gs : List (Int × Int)} (h : Own w base v gs) : Own w.drew base v gs := h
theorem own_ne {w : World} {base g : Nat} {v : Value} {gs : List (Int × Int)} {cs : Array Value} (h : Own w base v gs) (hg : Blk w g 24 cs) : some g ≠ v.ownBlock := by
  rcases h.2 with ⟨rfl, _⟩ | ⟨g', cap, cur, rfl, _, hh, _⟩
  · simp [Value.ownBlock]
  · intro he
    have e : g = g' := by simpa [Value.ownBlock] using he
    subst e
    unfold Blk at hg
    rw [hh] at hg
    injection hg with hg
    injection hg with _ ht
    exact absurd ht (by decide)
theorem blk_grow {w w' : World} {base g : Nat} {v : Value} {gs : List (Int × Int)} {cs : Array Value} (hg : Blk w g 24 cs) (h : Own w base v gs) (hw : w.grownBy w' v.ownBlock) : Blk w' g 24 cs := hg.grown hw (own_ne h hg)
theorem own_sep {w : World} {base g : Nat} {A : Option Addr} {n c : Nat} {gs : List (Int × Int)} {cs : Array Value} (h : Own w base (.slice A n c) gs) (hg : Blk w g 24 cs) : ∀ ad, A = some ad → ad.block ≠ g := by
  rintro ad rfl e
  have := own_ne h hg
  exact this (by simp [Value.ownBlock, e])
theorem own_soft {w : World} {base : Nat} {A : Option Addr} {n c : Nat} {gs : List (Int × Int)} (h : Own w base (.slice A n c) gs) {b off : Nat} (e : A = some ⟨b, off, none⟩) (i : Nat) : w.frozen? ⟨b, i, none⟩ = false := by
  subst e
  rcases h.2 with ⟨h2, _⟩ | ⟨g', cap, cur, h2, _, hh, _⟩
  · simp at h2
  · simp only [Value.slice.injEq, Option.some.injEq, Addr.mk.injEq] at h2
    obtain ⟨⟨rfl, _, _⟩, _, _⟩ := h2
    exact Blk.frozen (t := 32) hh i
theorem own_far {w : World} {base : Nat} {v : Value} {gs : List (Int × Int)} (h : Own w base v gs) {p : Addr} (hp : p.block < base) (u : Value) : Own (w.setCell p u) base v gs := by
  obtain ⟨h1, h2⟩ := h
  refine ⟨h1, ?_⟩
  rcases h2 with h2 | ⟨g, cap, cur, rfl, hb, hh, rest⟩
  · exact Or.inl h2
  · exact Or.inr ⟨g, cap, cur, rfl, hb, Blk.far (t := 32) hh (by omega) u, rest⟩
theorem blk_new {w : World} {j : Nat} {t : TypeId} {cs : Array Value} (h : j = w.heap.size) : Blk (w.alloc (.cells cs t)) j t cs := by
  subst h
  exact Blk.new w t cs
theorem blk_al {w : World} {j : Nat} {t : TypeId} {cs : Array Value} {o : Obj} (h : Blk w j t cs) : Blk (w.alloc o) j t cs := h.alloc o
theorem blk_dr {w : World} {j : Nat} {t : TypeId} {cs : Array Value} (h : Blk w j t cs) : Blk w.drew j t cs := h
theorem below_al {V W : World} {o : Obj} (h : Below V.heap.size V W) : Below V.heap.size V (W.alloc o) := h.alloc h.size o
theorem below_dr {V W : World} (h : Below V.heap.size V W) : Below V.heap.size V W.drew := h.drew
theorem below_set {V W : World} {p : Addr} {u : Value} (hp : V.heap.size ≤ p.block) (h : Below V.heap.size V W) : Below V.heap.size V (W.setCell p u) := h.setCell hp u
theorem gr_one {w : World} {j : Nat} {x y : Int} (h : Blk w j 32 #[.int .i64 x, .int .i64 y]) : Gr w w.heap.size (some ⟨j, 0, none⟩) [(x, y)] := by
  intro k hk
  have : k = 0 := by simpa using hk
  subst this
  exact ⟨j, 0, rfl, h.lt, h.cell 0, h.cell 1⟩
theorem keepS {k : Nat} {n : Int} {A : Option Addr} {c l : Nat} {gs : List (Int × Int)} {V W : World} (h : GX k n A c l gs V) (hb : Below V.heap.size V W) : W.cell? ⟨k, 0, none⟩ = some (.int .i64 n) ∧ W.cell? ⟨k, 1, none⟩ = some (.slice A l c) :=
  ⟨(h.below hb).c0, (h.below hb).c1⟩

theorem gr_put {w : World} {C b off k : Nat} {gs : List (Int × Int)} (h : Gr w C (some ⟨b, off, none⟩) gs) (hk : k < gs.length) (x y : Int) :
    Gr ((w.setCell ⟨b, off + k * 2, none⟩ (.int .i64 x)).setCell ⟨b, off + k * 2 + 1, none⟩ (.int .i64 y)) C (some ⟨b, off, none⟩) (gs.set k (x, y)) := by
  intro j hj
  rw [List.length_set] at hj
  obtain ⟨b', off', e, hb, h1, h2⟩ := h j hj
  simp only [Option.some.injEq, Addr.mk.injEq, and_true] at e
  obtain ⟨rfl, rfl⟩ := e
  refine ⟨b, off, rfl, hb, ?_, ?_⟩
  · by_cases e : k = j
    · subst e
      rw [List.getElem_set_self]
      exact (World.cell?_setCell_other _ _ _ _ (by simp)).trans (World.cell?_setCell_same _ _ _ h1)
    · rw [List.getElem_set_ne e]
      exact (World.cell?_setCell_other _ _ _ _ (fun e' => by simp at e' <;> omega)).trans ((World.cell?_setCell_other _ _ _ _ (fun e' => by simp at e' <;> omega)).trans h1)
  · by_cases e : k = j
    · subst e
      rw [List.getElem_set_self]
      exact World.cell?_setCell_same _ _ _ ((World.cell?_setCell_other _ _ _ _ (by simp)).trans h2)
    · rw [List.getElem_set_ne e]
      exact (World.cell?_setCell_other _ _ _ _ (fun e' => by simp at e' <;> omega)).trans ((World.cell?_setCell_other _ _ _ _ (fun e' => by simp at e' <;> omega)).trans h2)
theorem gx_set {k : Nat} {n : Int} {A : Option Addr} {c l : Nat} {gs : List (Int × Int)} {V : World} (h : GX k n A c l gs V) {p : Addr} (hp : k ≠ p.block) (hA : 0 < gs.length → ∀ ad, A = some ad → ad.block ≠ p.block) (u : Value) : GX k n A c l gs (V.setCell p u) :=
  ⟨(World.cell?_setCell_other V p ⟨k, 0, none⟩ u (fun e => hp (congrArg Addr.block e).symm)).trans h.c0, (World.cell?_setCell_other V p ⟨k, 1, none⟩ u (fun e => hp (congrArg Addr.block e).symm)).trans h.c1, by simpa [World.setCell] using h.lt, by simpa [World.setCell] using h.gr.set0 hA u⟩
theorem wf_set {gs : List (Int × Int)} (h : Wf gs) (k : Nat) {x y : Int} (hx : -9223372036854775808 ≤ x ∧ x ≤ 9223372036854775807) (hy : -9223372036854775808 ≤ y ∧ y ≤ 9223372036854775807) : Wf (gs.set k (x, y)) := by
  intro g hg
  rcases List.mem_or_eq_of_mem_set hg with hg | rfl
  · exact h g hg
  · exact ⟨hx, hy⟩
theorem wf_app {gs : List (Int × Int)} (h : Wf gs) {x y : Int} (hx : -9223372036854775808 ≤ x ∧ x ≤ 9223372036854775807) (hy : -9223372036854775808 ≤ y ∧ y ≤ 9223372036854775807) : Wf (gs ++ [(x, y)]) := by
  intro g hg
  rcases List.mem_append.1 hg with hg | hg
  · exact h g hg
  · have : g = (x, y) := by simpa using hg
    subst this
    exact ⟨hx, hy⟩

/-- Behind the spoiling: h's gates are whatever, as many as g's. -/
def Sp1 (w : World) (kg kh : Nat) (n : Int) (A : Option Addr) (c : Nat) (gs : List (Int × Int)) (wx : World) : Prop :=
  ∃ (hs : List (Int × Int)) (A' : Option Addr) (c' : Nat), hs.length = gs.length ∧ Wf hs ∧ GX kh n A' c' hs.length hs wx ∧ GX kg n A c gs.length gs wx ∧ Below w.heap.size w wx
/-- Behind i's making. -/
def Sp2 (w : World) (kh : Nat) (n : Int) (hs : List (Int × Int)) (A' : Option Addr) (c' : Nat) (js : List (Int × Int)) (l : Nat) (s : Value) (wx : World) : Prop :=
  ∃ (k : Nat) (A2 : Option Addr) (c2 : Nat), s = .pointer (some ⟨k, 0, none⟩) ∧ GX k n A2 c2 l js wx ∧ GX kh n A' c' hs.length hs wx ∧ Below w.heap.size w wx
theorem Sp2.fresh {w V W : World} {kh : Nat} {n : Int} {hs : List (Int × Int)} {A' A2 : Option Addr} {c' c2 l : Nat} {js : List (Int × Int)} (lo : Below w.heap.size w V) (gh : GX kh n A' c' hs.length hs V) (hb : Below V.heap.size V W) (hG : Gr W W.heap.size A2 js) :
    Sp2 w kh n hs A' c' js l (.pointer (some ⟨W.heap.size, 0, none⟩)) (W.alloc (Obj.cells #[.int .i64 n, .slice A2 l c2] 24)) :=
  ⟨_, A2, c2, rfl, GX.new hG _, (gh.below hb).alloc _, (lo.trans (hb.mono lo.size)).alloc (Nat.le_trans lo.size hb.size) _⟩
theorem Sp2.old {w V W : World} {kh k : Nat} {n : Int} {hs : List (Int × Int)} {A' A2 : Option Addr} {c' c2 l : Nat} {js : List (Int × Int)} {cs : Array Value} (lo : Below w.heap.size w V) (gh : GX kh n A' c' hs.length hs V) (hb : Below V.heap.size V W) (hG : Gr W W.heap.size A2 js)
    (hk : V.heap.size ≤ k) (hB : Blk W k 24 cs) (h2 : cs.size = 2) (hne : ∀ ad, A2 = some ad → ad.block ≠ k) :
    Sp2 w kh n hs A' c' js l (.pointer (some ⟨k, 0, none⟩)) ((W.setCell ⟨k, 0, none⟩ (.int .i64 n)).setCell ⟨k, 1, none⟩ (.slice A2 l c2)) := by
  have hB2 := (hB.put 0 (.int .i64 n)).put 1 (.slice A2 l c2)
  refine ⟨k, A2, c2, rfl, ⟨?_, ?_, hB2.lt, ?_⟩, gh.below ((hb.setCell hk _).setCell hk _), (lo.trans ((hb.setCell hk _).setCell hk _ |>.mono lo.size))⟩
  · rw [hB2.cell 0]
    simp [Array.getElem?_setIfInBounds, h2]
  · rw [hB2.cell 1]
    simp [Array.getElem?_setIfInBounds, h2]
  · have := (hG.set (p := ⟨k, 0, none⟩) hne (.int .i64 n)).set (p := ⟨k, 1, none⟩) hne (.slice A2 l c2)
    simpa [World.setCell] using this
theorem Sp2.drew {w W : World} {kh : Nat} {n : Int} {hs : List (Int × Int)} {A' : Option Addr} {c' l : Nat} {js : List (Int × Int)} {s : Value} (h : Sp2 w kh n hs A' c' js l s W) : Sp2 w kh n hs A' c' js l s W.drew := by
  obtain ⟨k, A2, c2, e, h1, h2, h3⟩ := h
  exact ⟨k, A2, c2, e, h1.drew, h2.drew, h3.drew⟩
end Go.Proofs.Yticallikogheiaa
