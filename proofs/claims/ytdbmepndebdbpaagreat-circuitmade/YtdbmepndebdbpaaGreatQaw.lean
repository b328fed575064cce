/- A circuit that Made gave, with one thing spoilt. -/
import Derived.Test.YtdbmepndebdbpaaGreatQau
namespace Go.Proofs.YtdbmepndebdbpaaGreat
open Go.RowKit

/-- Every block below a bound, but one, stays as it was. -/
structure Kept (top : Nat) (k : Option Nat) (V V' : World) : Prop where
  size : V.heap.size ≤ V'.heap.size
  blk : ∀ b, b < top → some b ≠ k → V'.heap[b]? = V.heap[b]?
theorem Kept.set (top : Nat) (V : World) (p : Addr) (u : Value) : Kept top (some p.block) V (V.setCell p u) :=
  ⟨by simp, fun b _ hne => Below.heap_setCell V p u b (fun e => hne (by rw [e]))⟩
theorem Kept.grown {V V' : World} {top : Nat} {k : Option Nat} (h : V.grownBy V' k) (ht : top ≤ V.heap.size) : Kept top k V V' := ⟨h.size, fun b hb hne => h.block b (by omega) hne⟩
theorem Kept.put {V V' : World} {top : Nat} {k : Option Nat} (h : Kept top k V V') {p : Addr} (hp : top ≤ p.block) (u : Value) : Kept top k V (V'.setCell p u) :=
  ⟨by simpa using h.size, fun b hb hne => (Below.heap_setCell V' p u b (by omega)).trans (h.blk b hb hne)⟩
theorem Gr.apart {V V' : World} {C top : Nat} {k : Option Nat} {A : Option Addr} {gs : List (Int × Int)} (h : Gr V C A gs) (hC : C ≤ V.heap.size) (hk : Kept top k V V') (hne : ∀ ad, A = some ad → ad.block < C → ad.block < top ∧ some ad.block ≠ k) : Gr V' V'.heap.size A gs := by
  intro i hi
  obtain ⟨b, off, rfl, hb, h1, h2⟩ := h i hi
  have hs := hk.size
  have e := hk.blk b (hne _ rfl hb).1 (hne _ rfl hb).2
  exact ⟨b, off, rfl, by omega, (World.cell?_of_block (w := V) (a := ⟨b, _, none⟩) e).trans h1, (World.cell?_of_block (w := V) (a := ⟨b, _, none⟩) e).trans h2⟩
theorem Vs.apart {V V' : World} {C top : Nat} {k : Option Nat} {A : Option Addr} {vs : List Value} (h : Vs V C A vs) (hC : C ≤ V.heap.size) (hk : Kept top k V V') (hne : ∀ ad, A = some ad → ad.block < C → ad.block < top ∧ some ad.block ≠ k) : Vs V' V'.heap.size A vs := by
  intro i hi
  obtain ⟨b, off, rfl, hb, h1⟩ := h i hi
  have hs := hk.size
  have e := hk.blk b (hne _ rfl hb).1 (hne _ rfl hb).2
  exact ⟨b, off, rfl, by omega, (World.cell?_of_block (w := V) (a := ⟨b, _, none⟩) e).trans h1⟩
theorem Ns.apart {V V' : World} {C top : Nat} {k : Option Nat} {A : Option Addr} {ns : List Nm} (h : Ns V C A ns) (hC : C ≤ V.heap.size) (hk : Kept top k V V') (hne : ∀ ad, A = some ad → ad.block < C → ad.block < top ∧ some ad.block ≠ k) : Ns V' V'.heap.size A ns := by
  intro i hi
  obtain ⟨b, off, rfl, hb, h1, h2, h3⟩ := h i hi
  have hs := hk.size
  have e := hk.blk b (hne _ rfl hb).1 (hne _ rfl hb).2
  exact ⟨b, off, rfl, by omega, (World.cell?_of_block (w := V) (a := ⟨b, _, none⟩) e).trans h1, (World.cell?_of_block (w := V) (a := ⟨b, _, none⟩) e).trans h2, (World.cell?_of_block (w := V) (a := ⟨b, _, none⟩) e).trans h3⟩
theorem row_in {V : World} {base hi : Nat} {e : TypeId} {size : Nat} {A : Option Addr} {n c : Nat} {xs : List Value} (h : RowIn V base hi e size A n c xs) : ∀ ad, A = some ad → base ≤ ad.block ∧ ad.block < hi :=
  fun ad he => ⟨row_base h.row _ (by rw [he]; rfl), h.top ad he⟩

/-- Its lists, each in memory between two bounds. -/
structure MadeB (V : World) (c : Cir) (top B1 B2 B3 B4 B5 B6 : Nat) : Prop where
  h2 : B1 ≤ B2
  h3 : B2 ≤ B3
  h4 : B3 ≤ B4
  h5 : B4 ≤ B5
  h6 : B5 ≤ B6
  h7 : B6 ≤ top
  ht : top ≤ V.heap.size
  hG : Gr V B1 c.aG c.gs
  hL : RowIn V B1 B2 33 2 c.aL c.ls.length c.cL (flat c.ls)
  hO : RowIn V B2 B3 3 1 c.aO c.os.length c.cO (iv c.os)
  hB : RowIn V B3 B4 3 1 c.aB c.bs.length c.cB (iv c.bs)
  hC : RowIn V B4 B5 3 1 c.aC c.cs.length c.cC (iv c.cs)
  hF : RowIn V B5 B6 3 1 c.aF c.fs.length c.cF (iv c.fs)
  hN : RowIn V B6 top 35 3 c.aN c.ns.length c.cN (flatN c.ns)
theorem RowIn.below {V V' : World} {base hi : Nat} {e : TypeId} {size : Nat} {A : Option Addr} {n c : Nat} {xs : List Value} (h : RowIn V base hi e size A n c xs) (hk : ∀ b, b < hi → V'.heap[b]? = V.heap[b]?) : RowIn V' base hi e size A n c xs := by
  refine ⟨?_, h.top⟩
  obtain ⟨h1, h2⟩ := h.row
  refine ⟨h1, ?_⟩
  rcases h2 with h2 | ⟨g, cap, cur, he, hb, hh, r⟩
  · exact Or.inl h2
  · refine Or.inr ⟨g, cap, cur, he, hb, (hk g ?_).trans hh, r⟩
    injection he with hA
    exact h.top _ hA
theorem MadeM.b {lo : Nat} {w : World} {c : Cir} (h : MadeM lo w c) : ∃ B1 B2 B3 B4 B5 B6, lo + 4 ≤ B1 ∧ MadeB w c w.heap.size B1 B2 B3 B4 B5 B6 := by
  obtain ⟨B1, B2, B3, B4, B5, B6, h1, h2, h3, h4, h5, h6, h7, hG, _, hL, hO, hB, hC, hF, hN⟩ := h
  exact ⟨B1, B2, B3, B4, B5, B6, h1, ⟨h2, h3, h4, h5, h6, h7, Nat.le_refl _, hG, hL, hO, hB, hC, hF, ⟨hN, row_top hN⟩⟩⟩
theorem MadeB.below {V V' : World} {c : Cir} {top B1 B2 B3 B4 B5 B6 C : Nat} (h : MadeB V c top B1 B2 B3 B4 B5 B6) (hb : Below C V V') (hC : top ≤ C) : MadeB V' c top B1 B2 B3 B4 B5 B6 := by
  have k : ∀ b, b < top → V'.heap[b]? = V.heap[b]? := fun b hlt => hb.block b (by omega)
  have h2 := h.h2
  have h3 := h.h3
  have h4 := h.h4
  have h5 := h.h5
  have h6 := h.h6
  have h7 := h.h7
  exact ⟨h.h2, h.h3, h.h4, h.h5, h.h6, h.h7, Nat.le_trans h.ht hb.size, h.hG.below hb (by omega), h.hL.below fun b hl => k b (by omega), h.hO.below fun b hl => k b (by omega), h.hB.below fun b hl => k b (by omega), h.hC.below fun b hl => k b (by omega), h.hF.below fun b hl => k b (by omega), h.hN.below fun b hl => k b (by omega)⟩
theorem MadeB.cir {V : World} {c : Cir} {top B1 B2 B3 B4 B5 B6 : Nat} (h : MadeB V c top B1 B2 B3 B4 B5 B6) : CirM V V.heap.size c := by
  have h2 := h.h2
  have h3 := h.h3
  have h4 := h.h4
  have h5 := h.h5
  have h6 := h.h6
  have h7 := h.h7
  have ht := h.ht
  obtain ⟨A, q, e, gl⟩ := latch_gr h.hL.row
  injection e with e1 e2 e3
  subst e1
  obtain ⟨A, q, e, go⟩ := int_vs h.hO.row
  injection e with e1
  subst e1
  obtain ⟨A, q, e, gb⟩ := int_vs h.hB.row
  injection e with e1
  subst e1
  obtain ⟨A, q, e, gc⟩ := int_vs h.hC.row
  injection e with e1
  subst e1
  obtain ⟨A, q, e, gf⟩ := int_vs h.hF.row
  injection e with e1
  subst e1
  obtain ⟨A, q, e, gn, hc⟩ := name_ns h.hN.row
  injection e with e1 e2 e3
  subst e1 e3
  exact ⟨gl, h.hG.more (by omega), go, gb, gc, gf, gn⟩
/-- One block is written. -/
theorem MadeB.keep {V V' : World} {c : Cir} {top B1 B2 B3 B4 B5 B6 : Nat} {k : Option Nat} (h : MadeB V c top B1 B2 B3 B4 B5 B6) (hk : Kept top k V V') :
    ((∀ b, k = some b → B1 ≤ b) → Gr V' V'.heap.size c.aG c.gs) ∧ ((∀ b, k = some b → B2 ≤ b) → Gr V' V'.heap.size c.aL c.ls) ∧
    ((∀ b, k = some b → b < B2 ∨ B3 ≤ b) → Vs V' V'.heap.size c.aO (iv c.os)) ∧ ((∀ b, k = some b → b < B3 ∨ B4 ≤ b) → Vs V' V'.heap.size c.aB (iv c.bs)) ∧
    ((∀ b, k = some b → b < B4 ∨ B5 ≤ b) → Vs V' V'.heap.size c.aC (iv c.cs)) ∧ ((∀ b, k = some b → b < B5 ∨ B6 ≤ b) → Vs V' V'.heap.size c.aF (iv c.fs)) ∧
    ((∀ b, k = some b → b < B6 ∨ top ≤ b) → Ns V' V'.heap.size c.aN c.ns) := by
  have hc := h.cir
  have h2 := h.h2
  have h3 := h.h3
  have h4 := h.h4
  have h5 := h.h5
  have h6 := h.h6
  have h7 := h.h7
  have ht := h.ht
  refine ⟨fun q => h.hG.apart (by omega) hk fun ad _ hl => ⟨by omega, fun e => ?_⟩, fun q => hc.hl.apart (Nat.le_refl _) hk fun ad ha _ => ⟨by have := row_in h.hL ad ha; omega, fun e => ?_⟩, fun q => hc.ho.apart (Nat.le_refl _) hk fun ad ha _ => ⟨by have := row_in h.hO ad ha; omega, fun e => ?_⟩, fun q => hc.hb.apart (Nat.le_refl _) hk fun ad ha _ => ⟨by have := row_in h.hB ad ha; omega, fun e => ?_⟩, fun q => hc.hc.apart (Nat.le_refl _) hk fun ad ha _ => ⟨by have := row_in h.hC ad ha; omega, fun e => ?_⟩, fun q => hc.hf.apart (Nat.le_refl _) hk fun ad ha _ => ⟨by have := row_in h.hF ad ha; omega, fun e => ?_⟩, fun q => hc.hn.apart (Nat.le_refl _) hk fun ad ha _ => ⟨by have := row_in h.hN ad ha; omega, fun e => ?_⟩⟩
  · have := q _ e.symm
    omega
  · have := q _ e.symm
    have := row_in h.hL ad ha
    omega
  · have := q _ e.symm
    have := row_in h.hO ad ha
    omega
  · have := q _ e.symm
    have := row_in h.hB ad ha
    omega
  · have := q _ e.symm
    have := row_in h.hC ad ha
    omega
  · have := q _ e.symm
    have := row_in h.hF ad ha
    omega
  · have := q _ e.symm
    have := row_in h.hN ad ha
    omega
/-- The box is written: nothing else. -/
theorem MadeB.box {V : World} {c : Cir} {top B1 B2 B3 B4 B5 B6 : Nat} (h : MadeB V c top B1 B2 B3 B4 B5 B6) {p : Addr} (hp : top ≤ p.block) (u : Value) : CirM (V.setCell p u) (V.setCell p u).heap.size c := by
  have h2 := h.h2
  have h3 := h.h3
  have h4 := h.h4
  have h5 := h.h5
  have h6 := h.h6
  have h7 := h.h7
  have q : ∀ b, some p.block = some b → top ≤ b := fun b e => by
    injection e with e
    omega
  obtain ⟨k1, k2, k3, k4, k5, k6, k7⟩ := h.keep (Kept.set top V p u)
  exact ⟨k2 fun b e => by have := q b e; omega, k1 fun b e => by have := q b e; omega, k3 fun b e => by have := q b e; omega, k4 fun b e => by have := q b e; omega, k5 fun b e => by have := q b e; omega, k6 fun b e => by have := q b e; omega, k7 fun b e => by have := q b e; omega⟩
/-- A latch is written. -/
theorem MadeB.latch {V : World} {c : Cir} {top B1 B2 B3 B4 B5 B6 : Nat} (h : MadeB V c top B1 B2 B3 B4 B5 B6) {b off : Nat} (hA : c.aL = some ⟨b, off, none⟩) (j : Nat) (hj : j < c.ls.length) (x : Int) :
    (CirM (V.setCell ⟨b, off + j * 2, none⟩ (.int .i64 x)) (V.setCell ⟨b, off + j * 2, none⟩ (.int .i64 x)).heap.size { c with ls := c.ls.set j (x, c.ls[j].2) }) ∧
    (CirM (V.setCell ⟨b, off + j * 2 + 1, none⟩ (.int .i64 x)) (V.setCell ⟨b, off + j * 2 + 1, none⟩ (.int .i64 x)).heap.size { c with ls := c.ls.set j (c.ls[j].1, x) }) := by
  have h2 := h.h2
  have h3 := h.h3
  have h4 := h.h4
  have h5 := h.h5
  have h6 := h.h6
  have h7 := h.h7
  have hin := row_in h.hL _ hA
  simp only at hin
  have q : ∀ z, some b = some z → B1 ≤ z ∧ z < B2 := fun z e => by
    injection e with e
    omega
  have hcl := h.cir.hl
  constructor
  · obtain ⟨k1, k2, k3, k4, k5, k6, k7⟩ := h.keep (Kept.set top V ⟨b, off + j * 2, none⟩ (.int .i64 x))
    refine ⟨?_, k1 fun b e => by have := q b e; omega, k3 fun b e => by have := q b e; omega, k4 fun b e => by have := q b e; omega, k5 fun b e => by have := q b e; omega, k6 fun b e => by have := q b e; omega, k7 fun b e => by have := q b e; omega⟩
    intro i hi
    have hi' : i < c.ls.length := by simpa using hi
    obtain ⟨b', off', hA', hb, g1, g2⟩ := hcl i hi'
    rw [hA] at hA'
    injection hA' with e
    injection e with e1 e2
    subst e1 e2
    refine ⟨b, off, hA, by simpa using hb, ?_, ?_⟩
    · by_cases hij : i = j
      · subst hij
        rw [World.cell?_setCell_same _ _ _ g1]
        simp
      · rw [World.cell?_setCell_other _ _ _ _ (fun e => by have := congrArg Addr.off e; simp at this; omega), g1]
        simp [Ne.symm hij]
    · rw [World.cell?_setCell_other _ _ _ _ (fun e => by have := congrArg Addr.off e; simp at this; omega), g2]
      by_cases hij : i = j
      · subst hij
        simp
      · simp [Ne.symm hij]
  · obtain ⟨k1, k2, k3, k4, k5, k6, k7⟩ := h.keep (Kept.set top V ⟨b, off + j * 2 + 1, none⟩ (.int .i64 x))
    refine ⟨?_, k1 fun b e => by have := q b e; omega, k3 fun b e => by have := q b e; omega, k4 fun b e => by have := q b e; omega, k5 fun b e => by have := q b e; omega, k6 fun b e => by have := q b e; omega, k7 fun b e => by have := q b e; omega⟩
    intro i hi
    have hi' : i < c.ls.length := by simpa using hi
    obtain ⟨b', off', hA', hb, g1, g2⟩ := hcl i hi'
    rw [hA] at hA'
    injection hA' with e
    injection e with e1 e2
    subst e1 e2
    refine ⟨b, off, hA, by simpa using hb, ?_, ?_⟩
    · rw [World.cell?_setCell_other _ _ _ _ (fun e => by have := congrArg Addr.off e; simp at this; omega), g1]
      by_cases hij : i = j
      · subst hij
        simp
      · simp [Ne.symm hij]
    · by_cases hij : i = j
      · subst hij
        rw [World.cell?_setCell_same _ _ _ g2]
        simp
      · rw [World.cell?_setCell_other _ _ _ _ (fun e => by have := congrArg Addr.off e; simp at this; omega), g2]
        simp [Ne.symm hij]
theorem new_apart {V1 V2 : World} {A' : Option Addr} {n q Bx : Nat} {k : Option Nat} (h : (Value.slice A' n q).ownBlock = k ∨ (Value.slice A' n q).ownBlock = some V1.heap.size) (hk : ∀ b, k = some b → b < Bx) (hB : Bx < V1.heap.size) :
    ∀ ad, A' = some ad → ad.block < V2.heap.size → ad.block < V2.heap.size ∧ some ad.block ≠ some Bx := by
  intro ad ha hl
  refine ⟨hl, fun e => ?_⟩
  injection e with e
  subst ha
  simp only [Value.ownBlock] at h
  rcases h with h | h
  · have := hk _ h.symm
    omega
  · injection h with h
    omega
theorem slice_block {V : World} {base hi : Nat} {e : TypeId} {size : Nat} {A : Option Addr} {n m c : Nat} {xs : List Value} (h : RowIn V base hi e size A n c xs) : ∀ b, (Value.slice A m c).ownBlock = some b → base ≤ b ∧ b < hi := by
  intro b hb
  cases A with
  | none => cases hb
  | some ad =>
    simp only [Value.ownBlock] at hb
    injection hb with hb
    subst hb
    exact row_in h ad rfl
/-- A number is appended to the Outputs. -/
theorem MadeB.outs {V1 V2 : World} {c : Cir} {top B1 B2 B3 B4 B5 B6 : Nat} (h : MadeB V1 c top B1 B2 B3 B4 B5 B6) {v' : Value} {x : Int} {Bx i : Nat} (hB : top ≤ Bx) (hB1 : Bx < V1.heap.size)
    (hg : V1.grownBy V2 (Value.slice c.aO c.os.length c.cO).ownBlock) (hr : V2.ownsRow B2 3 1 v' (c.os.length + 1) (iv c.os ++ [.int .i64 x])) (hv : v'.ownBlock = (Value.slice c.aO c.os.length c.cO).ownBlock ∨ v'.ownBlock = some V1.heap.size) :
    ∃ A' q', v' = .slice A' (c.os.length + 1) q' ∧ CirM (V2.setCell ⟨Bx, i, none⟩ v') (V2.setCell ⟨Bx, i, none⟩ v').heap.size { c with aO := A', cO := q', os := c.os ++ [x] } := by
  have h2 := h.h2
  have h3 := h.h3
  have h4 := h.h4
  have h5 := h.h5
  have h6 := h.h6
  have h7 := h.h7
  have hr2 : V2.ownsRow B2 3 1 v' (c.os ++ [x]).length (iv (c.os ++ [x])) := by
    have e : iv (c.os ++ [x]) = iv c.os ++ [.int .i64 x] := by simp [iv]
    rw [e, List.length_append]
    exact hr
  obtain ⟨A', q', e, hV⟩ := int_vs hr2
  have hin : ∀ b, (Value.slice c.aO c.os.length c.cO).ownBlock = some b → B2 ≤ b ∧ b < B3 := slice_block h.hO
  refine ⟨A', q', by rw [e]; simp, ?_⟩
  rw [e] at hv ⊢
  obtain ⟨k1, k2, k3, k4, k5, k6, k7⟩ := h.keep ((Kept.grown hg h.ht).put (p := ⟨Bx, i, none⟩) hB (.slice A' (c.os ++ [x]).length q'))
  refine ⟨k2 fun b e => by have := hin b e; omega, k1 fun b e => by have := hin b e; omega, ?_, k4 fun b e => by have := hin b e; omega, k5 fun b e => by have := hin b e; omega, k6 fun b e => by have := hin b e; omega, k7 fun b e => by have := hin b e; omega⟩
  exact hV.apart (Nat.le_refl _) (Kept.set V2.heap.size V2 ⟨Bx, i, none⟩ _) (new_apart (Bx := Bx) hv (fun b e => by have := hin b e; omega) hB1)
/-- A number is appended to Fair. -/
theorem MadeB.fair {V1 V2 : World} {c : Cir} {top B1 B2 B3 B4 B5 B6 : Nat} (h : MadeB V1 c top B1 B2 B3 B4 B5 B6) {v' : Value} {x : Int} {Bx i : Nat} (hB : top ≤ Bx) (hB1 : Bx < V1.heap.size)
    (hg : V1.grownBy V2 (Value.slice c.aF c.fs.length c.cF).ownBlock) (hr : V2.ownsRow B5 3 1 v' (c.fs.length + 1) (iv c.fs ++ [.int .i64 x])) (hv : v'.ownBlock = (Value.slice c.aF c.fs.length c.cF).ownBlock ∨ v'.ownBlock = some V1.heap.size) :
    ∃ A' q', v' = .slice A' (c.fs.length + 1) q' ∧ CirM (V2.setCell ⟨Bx, i, none⟩ v') (V2.setCell ⟨Bx, i, none⟩ v').heap.size { c with aF := A', cF := q', fs := c.fs ++ [x] } := by
  have h2 := h.h2
  have h3 := h.h3
  have h4 := h.h4
  have h5 := h.h5
  have h6 := h.h6
  have h7 := h.h7
  have hr2 : V2.ownsRow B5 3 1 v' (c.fs ++ [x]).length (iv (c.fs ++ [x])) := by
    have e : iv (c.fs ++ [x]) = iv c.fs ++ [.int .i64 x] := by simp [iv]
    rw [e, List.length_append]
    exact hr
  obtain ⟨A', q', e, hV⟩ := int_vs hr2
  have hin : ∀ b, (Value.slice c.aF c.fs.length c.cF).ownBlock = some b → B5 ≤ b ∧ b < B6 := slice_block h.hF
  refine ⟨A', q', by rw [e]; simp, ?_⟩
  rw [e] at hv ⊢
  obtain ⟨k1, k2, k3, k4, k5, k6, k7⟩ := h.keep ((Kept.grown hg h.ht).put (p := ⟨Bx, i, none⟩) hB (.slice A' (c.fs ++ [x]).length q'))
  refine ⟨k2 fun b e => by have := hin b e; omega, k1 fun b e => by have := hin b e; omega, k3 fun b e => by have := hin b e; omega, k4 fun b e => by have := hin b e; omega, k5 fun b e => by have := hin b e; omega, ?_, k7 fun b e => by have := hin b e; omega⟩
  exact hV.apart (Nat.le_refl _) (Kept.set V2.heap.size V2 ⟨Bx, i, none⟩ _) (new_apart (Bx := Bx) hv (fun b e => by have := hin b e; omega) hB1)
/-- A name is appended. -/
theorem MadeB.name {V1 V2 : World} {c : Cir} {top B1 B2 B3 B4 B5 B6 : Nat} (h : MadeB V1 c top B1 B2 B3 B4 B5 B6) {v' : Value} {k x : Int} {s : ByteArray} {Bx i : Nat} (hB : top ≤ Bx) (hB1 : Bx < V1.heap.size)
    (hg : V1.grownBy V2 (Value.slice c.aN c.ns.length c.cN).ownBlock) (hr : V2.ownsRow B6 35 3 v' (c.ns.length + 1) (flatN c.ns ++ [.int .u8 k, .int .i64 x, .string s])) (hv : v'.ownBlock = (Value.slice c.aN c.ns.length c.cN).ownBlock ∨ v'.ownBlock = some V1.heap.size) :
    ∃ A' q', v' = .slice A' (c.ns.length + 1) q' ∧ c.ns.length + 1 ≤ q' ∧ CirM (V2.setCell ⟨Bx, i, none⟩ v') (V2.setCell ⟨Bx, i, none⟩ v').heap.size { c with aN := A', cN := q', ns := c.ns ++ [(k, x, s)] } := by
  have h2 := h.h2
  have h3 := h.h3
  have h4 := h.h4
  have h5 := h.h5
  have h6 := h.h6
  have h7 := h.h7
  have hr2 : V2.ownsRow B6 35 3 v' (c.ns ++ [(k, x, s)]).length (flatN (c.ns ++ [(k, x, s)])) := by
    rw [flatN_append, List.length_append]
    exact hr
  obtain ⟨A', q', e, hV, hq⟩ := name_ns hr2
  have hin : ∀ b, (Value.slice c.aN c.ns.length c.cN).ownBlock = some b → B6 ≤ b ∧ b < top := slice_block h.hN
  refine ⟨A', q', by rw [e]; simp, by simpa using hq, ?_⟩
  rw [e] at hv ⊢
  obtain ⟨k1, k2, k3, k4, k5, k6, k7⟩ := h.keep ((Kept.grown hg h.ht).put (p := ⟨Bx, i, none⟩) hB (.slice A' (c.ns ++ [(k, x, s)]).length q'))
  refine ⟨k2 fun b e => by have := hin b e; omega, k1 fun b e => by have := hin b e; omega, k3 fun b e => by have := hin b e; omega, k4 fun b e => by have := hin b e; omega, k5 fun b e => by have := hin b e; omega, k6 fun b e => by have := hin b e; omega, ?_⟩
  exact hV.apart (Nat.le_refl _) (Kept.set V2.heap.size V2 ⟨Bx, i, none⟩ _) (new_apart (Bx := Bx) hv (fun b e => by have := hin b e; omega) hB1)
theorem latch_spot {V : World} {c : Cir} {top B1 B2 B3 B4 B5 B6 : Nat} (h : MadeB V c top B1 B2 B3 B4 B5 B6) (hl : 1 ≤ c.ls.length) : ∃ b, c.aL = some ⟨b, 0, none⟩ ∧ B1 ≤ b ∧ (∀ i, V.frozen? ⟨b, i, none⟩ = false) := by
  rcases h.hL.row.2 with ⟨_, h0⟩ | ⟨g, cap, cur, he, hb, hh, _⟩
  · omega
  · injection he with e1
    exact ⟨g, e1, hb, fun i => Blk.frozen (t := 33) hh i⟩
theorem wf_set {gs : List (Int × Int)} (h : Wf gs) (i : Nat) (x y : Int) (hx : -9223372036854775808 ≤ x ∧ x ≤ 9223372036854775807) (hy : -9223372036854775808 ≤ y ∧ y ≤ 9223372036854775807) : Wf (gs.set i (x, y)) := by
  intro g hg
  rcases List.mem_or_eq_of_mem_set hg with h1 | h1
  · exact h g h1
  · subst h1
    exact ⟨hx, hy⟩
theorem iwf_add {zs : List Int} (h : IWf zs) (x : Int) (hx : -9223372036854775808 ≤ x ∧ x ≤ 9223372036854775807) : IWf (zs ++ [x]) := by
  intro z hz
  rcases List.mem_append.1 hz with h1 | h1
  · exact h z h1
  · simp at h1
    subst h1
    exact hx
theorem CirW.put {c : Cir} (h : CirW c) (x : Int) (hx : -9223372036854775808 ≤ x ∧ x ≤ 9223372036854775807) : CirW { c with n := x } := ⟨hx, h.hl, h.hg, h.ho, h.hb, h.hc, h.hf, h.hk, h.ll, h.lg, h.lo, h.lb, h.lc, h.lf, h.ln⟩
theorem CirW.latch {c : Cir} (h : CirW c) (i : Nat) (x y : Int) (hx : -9223372036854775808 ≤ x ∧ x ≤ 9223372036854775807) (hy : -9223372036854775808 ≤ y ∧ y ≤ 9223372036854775807) : CirW { c with ls := c.ls.set i (x, y) } :=
  ⟨h.hn, wf_set h.hl i x y hx hy, h.hg, h.ho, h.hb, h.hc, h.hf, h.hk, by simpa using h.ll, h.lg, h.lo, h.lb, h.lc, h.lf, h.ln⟩
theorem CirW.outs {c : Cir} (h : CirW c) (A : Option Addr) (q : Nat) (x : Int) (hx : -9223372036854775808 ≤ x ∧ x ≤ 9223372036854775807) (hl : c.os.length ≤ 3) : CirW { c with aO := A, cO := q, os := c.os ++ [x] } :=
  ⟨h.hn, h.hl, h.hg, iwf_add h.ho x hx, h.hb, h.hc, h.hf, h.hk, h.ll, h.lg, by simp [maxLen]; omega, h.lb, h.lc, h.lf, h.ln⟩
theorem CirW.fair {c : Cir} (h : CirW c) (A : Option Addr) (q : Nat) (x : Int) (hx : -9223372036854775808 ≤ x ∧ x ≤ 9223372036854775807) (hl : c.fs.length ≤ 3) : CirW { c with aF := A, cF := q, fs := c.fs ++ [x] } :=
  ⟨h.hn, h.hl, h.hg, h.ho, h.hb, h.hc, iwf_add h.hf x hx, h.hk, h.ll, h.lg, h.lo, h.lb, h.lc, by simp [maxLen]; omega, h.ln⟩
theorem CirW.name {c : Cir} (h : CirW c) (A : Option Addr) (q : Nat) (k x : Int) (s : ByteArray) (hk : 0 ≤ k ∧ k ≤ 255) (hx : -9223372036854775808 ≤ x ∧ x ≤ 9223372036854775807) (hs : s.size ≤ maxLen) (hl : c.ns.length ≤ 100) : CirW { c with aN := A, cN := q, ns := c.ns ++ [(k, x, s)] } := by
  refine ⟨h.hn, h.hl, h.hg, h.ho, h.hb, h.hc, h.hf, ?_, h.ll, h.lg, h.lo, h.lb, h.lc, h.lf, by simp; omega⟩
  intro z hz
  rcases List.mem_append.1 hz with h1 | h1
  · exact h.hk z h1
  · simp at h1
    subst h1
    exact ⟨hk, hx, hs⟩
end Go.Proofs.YtdbmepndebdbpaaGreat
