/- graph.And. -/
import Derived.Test.YtdbmepndebdbpaaGreatQab
import Derived.Deep.DeepCutAuto
import Derived.Deep.RegionWith
namespace Go.Proofs.YtdbmepndebdbpaaGreat
open Go.RowKit

/-- A graph, a literal and an error are handed back. -/
def AndPost (r : Gm.Res) (B : Nat) (w : World) (e : Ending) (w' : World) : Prop :=
  ∃ A' c', e = .returned (.tuple #[.agg #[.int .i64 r.1.1, .slice A' r.1.2.length c'], .int .i64 r.2.1, .int .i64 r.2.2]) ∧ Gr w' w'.heap.size A' r.1.2 ∧ Sep B w.heap.size A' ∧ Below w.heap.size w w'

/-- The boxes of a call: the graph at block k, the result behind it. -/
structure Boxes (w W : World) (n : Int) (s : Value) : Prop where
  low : Below w.heap.size w W
  d0 : W.cell? ⟨w.heap.size, 0, none⟩ = some (.int .i64 n)
  d1 : W.cell? ⟨w.heap.size, 1, none⟩ = some s
  e0 : W.cell? ⟨w.heap.size + 1, 0, none⟩ = some (.int .i64 0)
  e1 : W.cell? ⟨w.heap.size + 1, 1, none⟩ = some (.slice none 0 0)
  f0 : W.frozen? ⟨w.heap.size + 1, 0, none⟩ = false
  f1 : W.frozen? ⟨w.heap.size + 1, 1, none⟩ = false
  sz : w.heap.size + 1 < W.heap.size
theorem Boxes.grown {w W W' : World} {n : Int} {s : Value} {k : Nat} (h : Boxes w W n s) (hg : W.grownBy W' (some k)) (hk : w.heap.size + 1 < k) : Boxes w W' n s := by
  have hc : ∀ b i, b < w.heap.size + 2 → W'.cell? ⟨b, i, none⟩ = W.cell? ⟨b, i, none⟩ := fun b i hb => World.cell?_of_block (hg.block b (by have := h.sz; omega) (fun e => by injection e with e; omega))
  have hf : ∀ b i, b < w.heap.size + 2 → W'.frozen? ⟨b, i, none⟩ = W.frozen? ⟨b, i, none⟩ := fun b i hb => World.frozen?_of_block (hg.block b (by have := h.sz; omega) (fun e => by injection e with e; omega))
  exact ⟨h.low.grown hg h.low.size (fun j e => by injection e with e; omega), (hc _ _ (by omega)).trans h.d0, (hc _ _ (by omega)).trans h.d1, (hc _ _ (by omega)).trans h.e0, (hc _ _ (by omega)).trans h.e1, (hf _ _ (by omega)).trans h.f0, (hf _ _ (by omega)).trans h.f1, Nat.lt_of_lt_of_le h.sz hg.size⟩
theorem Boxes.below {w W W' : World} {n : Int} {s : Value} (h : Boxes w W n s) (hb : Below W.heap.size W W') : Boxes w W' n s :=
  h.grown (k := w.heap.size + 2) (grown_of_below hb _) (by omega)

theorem and_close {w w2 : World} {n : Int} {s : Value} {r : Gm.Res} {B : Nat} {A' : Option Addr} {c' : Nat} (h : Boxes w w2 n s) (hB : B ≤ w.heap.size) (hG : Gr w2 w2.heap.size A' r.1.2) (hsep : Sep B (w.heap.size + 2) A') :
    AndPost r B w (.returned (.tuple #[.agg #[.int .i64 r.1.1, .slice A' r.1.2.length c'], .int .i64 r.2.1, .int .i64 r.2.2]))
      ((w2.setCell ⟨w.heap.size + 1, 0, none⟩ (.int .i64 r.1.1)).setCell ⟨w.heap.size + 1, 1, none⟩ (.slice A' r.1.2.length c')) := by
  have hne : ∀ ad, A' = some ad → ad.block ≠ w.heap.size + 1 := hsep.ne (by omega) (by omega)
  refine ⟨A', c', rfl, ?_, hsep.mono (Nat.le_refl _) (by omega), (h.low.setCell (by simp) _).setCell (by simp) _⟩
  have := (hG.set (p := ⟨w.heap.size + 1, 0, none⟩) hne (.int .i64 r.1.1)).set (p := ⟨w.heap.size + 1, 1, none⟩) hne (.slice A' r.1.2.length c')
  simpa using this
theorem and_cells {w w2 : World} {n : Int} {s u v : Value} (h : Boxes w w2 n s) :
    ((w2.setCell ⟨w.heap.size + 1, 0, none⟩ u).setCell ⟨w.heap.size + 1, 1, none⟩ v).cell? ⟨w.heap.size + 1, 0, none⟩ = some u ∧ ((w2.setCell ⟨w.heap.size + 1, 0, none⟩ u).setCell ⟨w.heap.size + 1, 1, none⟩ v).cell? ⟨w.heap.size + 1, 1, none⟩ = some v :=
  ⟨(World.cell?_setCell_other _ _ _ _ (by simp)).trans (World.cell?_setCell_same _ _ _ h.e0), World.cell?_setCell_same _ _ _ ((World.cell?_setCell_other _ _ _ _ (by simp)).trans h.e1)⟩
theorem and_bad {w w2 : World} {n : Int} {s : Value} {B : Nat} {r : Gm.Res} {e : Int} (h : Boxes w w2 n s) (hB : B ≤ w.heap.size) (hr : r = Gm.bad e) :
    AndPost r B w (.returned (.tuple #[.agg #[.int .i64 0, .slice none 0 0], .int .i64 0, .int .i64 e])) ((w2.setCell ⟨w.heap.size + 1, 0, none⟩ (.int .i64 0)).setCell ⟨w.heap.size + 1, 1, none⟩ (.slice none 0 0)) := by
  subst hr
  exact and_close (r := Gm.bad e) (A' := none) (c' := 0) h hB (fun k hk => by simp [Gm.bad] at hk) Sep.none_

end Go.Proofs.YtdbmepndebdbpaaGreat
/- graph.And of a right graph and its literals. -/
namespace Go.Proofs.YtdbmepndebdbpaaGreat
open Go.RowKit

theorem right_facts {n : Int} {gs : List (Int × Int)} (h : Gm.rightB n gs = true) : 0 ≤ n ∧ n ≤ 2000 ∧ 1 + n + gs.length ≤ 2000 ∧ gs.Nodup := by
  simp [Gm.rightB, Gm.fitB, Gm.nodB] at h
  exact ⟨h.1.1.1.1, h.1.1.1.2, h.1.1.2, h.2⟩
theorem lit_facts {n : Int} {l : Nat} {x : Int} (h : Gm.litB n l x = true) : 0 ≤ x ∧ x < 2 * (1 + n + l) := by
  simp [Gm.litB] at h
  exact ⟨h.1.2, h.2⟩

theorem andS_some {n : Int} {gs : List (Int × Int)} {a b l : Int} (h : Gm.rightB n gs = true ∧ Gm.litB n gs.length a = true ∧ Gm.litB n gs.length b = true) (hs : Gm.simpleS a b = some l) : Gm.andS n gs a b = ((n, gs), l, 0) := by
  unfold Gm.andS; rw [if_pos h, hs]
theorem andS_none {n : Int} {gs : List (Int × Int)} {a b : Int} (h : Gm.rightB n gs = true ∧ Gm.litB n gs.length a = true ∧ Gm.litB n gs.length b = true) (hs : Gm.simpleS a b = none) : Gm.andS n gs a b =
    if gs.idxOf (max a b, min a b) < gs.length then ((n, gs), 2 * (1 + n + gs.idxOf (max a b, min a b)), 0)
      else if 1 + n + gs.length = 2000 then Gm.bad 2
      else ((n, gs ++ [(max a b, min a b)]), 2 * (1 + n + gs.length), 0) := by
  unfold Gm.andS; rw [if_pos h, hs]

theorem keep_res {w : World} {g i k : Nat} {u v1 v2 : Value} (h : w.cell? ⟨g, i, none⟩ = some u) (hne : k ≠ g) : ((w.setCell ⟨k, 0, none⟩ v1).setCell ⟨k, 1, none⟩ v2).cell? ⟨g, i, none⟩ = some u := keep2 h hne
theorem Boxes.drew {w W : World} {n : Int} {s : Value} (h : Boxes w W n s) : Boxes w W.drew n s := ⟨h.low.drew, h.d0, h.d1, h.e0, h.e1, h.f0, h.f1, h.sz⟩
theorem simple_none_ne {a b : Int} (h : Gm.simpleS a b = none) : a ≠ b := by
  intro e
  subst e
  unfold Gm.simpleS at h
  split at h
  · cases h
  · split at h
    · cases h
    · rw [if_pos (Or.inr rfl)] at h
      cases h

end Go.Proofs.YtdbmepndebdbpaaGreat
/- What andS gives: bounds. -/
namespace Go.Proofs.YtdbmepndebdbpaaGreat
open Go.RowKit

theorem andS_cases (n : Int) (gs : List (Int × Int)) (a b : Int) :
    Gm.andS n gs a b = Gm.bad 1 ∨ ((Gm.rightB n gs = true ∧ Gm.litB n gs.length a = true ∧ Gm.litB n gs.length b = true) ∧
      ((∃ l, Gm.simpleS a b = some l ∧ Gm.andS n gs a b = ((n, gs), l, 0)) ∨
       (Gm.simpleS a b = none ∧ gs.idxOf (max a b, min a b) < gs.length ∧ Gm.andS n gs a b = ((n, gs), 2 * (1 + n + gs.idxOf (max a b, min a b)), 0)) ∨
       (Gm.simpleS a b = none ∧ gs.length ≤ gs.idxOf (max a b, min a b) ∧ 1 + n + gs.length = 2000 ∧ Gm.andS n gs a b = Gm.bad 2) ∨
       (Gm.simpleS a b = none ∧ gs.length ≤ gs.idxOf (max a b, min a b) ∧ 1 + n + gs.length ≠ 2000 ∧ Gm.andS n gs a b = ((n, gs ++ [(max a b, min a b)]), 2 * (1 + n + gs.length), 0)))) := by
  by_cases h : Gm.rightB n gs = true ∧ Gm.litB n gs.length a = true ∧ Gm.litB n gs.length b = true
  · refine Or.inr ⟨h, ?_⟩
    cases hs : Gm.simpleS a b with
    | some l => exact Or.inl ⟨l, rfl, andS_some h hs⟩
    | none =>
      have e := andS_none h hs
      by_cases hi : gs.idxOf (max a b, min a b) < gs.length
      · rw [if_pos hi] at e
        exact Or.inr (Or.inl ⟨rfl, hi, e⟩)
      · rw [if_neg hi] at e
        by_cases h2 : 1 + n + (gs.length : Int) = 2000
        · rw [if_pos h2] at e
          exact Or.inr (Or.inr (Or.inl ⟨rfl, by omega, h2, e⟩))
        · rw [if_neg h2] at e
          exact Or.inr (Or.inr (Or.inr ⟨rfl, by omega, h2, e⟩))
  · exact Or.inl (by unfold Gm.andS; rw [if_neg h])

theorem simple_lit {n : Int} {len : Nat} {a b l : Int} (ha : Gm.litB n len a = true) (hb : Gm.litB n len b = true) (h : Gm.simpleS a b = some l) : Gm.litB n len l = true := by
  have h1 : 0 ≤ n ∧ n ≤ 2000 := by simp [Gm.litB] at ha; omega
  unfold Gm.simpleS at h
  split at h
  · injection h with h; subst h; simp [Gm.litB]; omega
  · split at h
    · injection h with h; subst h; exact hb
    · split at h
      · injection h with h; subst h; exact ha
      · cases h

structure AndFacts (n : Int) (gs : List (Int × Int)) (r : Gm.Res) : Prop where
  lit0 : 0 ≤ r.2.1
  lit1 : r.2.1 ≤ 4000
  len : r.1.2.length ≤ gs.length + 1
  wf : Wf r.1.2
  lit : r.2.2 = 0 → Gm.litB r.1.1 r.1.2.length r.2.1 = true
theorem and_facts (n : Int) (gs : List (Int × Int)) (a b : Int) (hw : Wf gs) : AndFacts n gs (Gm.andS n gs a b) := by
  rcases andS_cases n gs a b with e | ⟨⟨hr, ha, hb⟩, ⟨l, hs, e⟩ | ⟨hs, hi, e⟩ | ⟨hs, hi, h2, e⟩ | ⟨hs, hi, h2, e⟩⟩
  · rw [e]; exact ⟨by simp [Gm.bad], by simp [Gm.bad], by simp [Gm.bad], fun g hg => by simp [Gm.bad] at hg, fun h => by simp [Gm.bad] at h⟩
  · have hl := simple_lit ha hb hs
    have h3 := right_facts hr
    have h4 := lit_facts hl
    rw [e]; exact ⟨h4.1, by simp only; omega, by simp, hw, fun _ => hl⟩
  · have h3 := right_facts hr
    rw [e]; exact ⟨by simp only; omega, by simp only; omega, by simp, hw, fun _ => by simp [Gm.litB]; omega⟩
  · rw [e]; exact ⟨by simp [Gm.bad], by simp [Gm.bad], by simp [Gm.bad], fun g hg => by simp [Gm.bad] at hg, fun h => by simp [Gm.bad] at h⟩
  · have h3 := right_facts hr
    have h4 := lit_facts ha
    have h5 := lit_facts hb
    rw [e]
    refine ⟨by simp only; omega, by simp only; omega, by simp, fun g hg => ?_, fun _ => by simp [Gm.litB]; omega⟩
    simp only [List.mem_append, List.mem_singleton] at hg
    rcases hg with hg | rfl
    · exact hw g hg
    · simp only
      omega
end Go.Proofs.YtdbmepndebdbpaaGreat
/- What Or and Ite rest on. -/
namespace Go.Proofs.YtdbmepndebdbpaaGreat
open Go.RowKit

theorem Boxes.alloc {w W : World} {n : Int} {s : Value} (h : Boxes w W n s) (o : Obj) : Boxes w (W.alloc o) n s := h.below ((Below.refl W.heap.size W).alloc (Nat.le_refl _) o)
theorem and_bad0 {w w2 : World} {n : Int} {s : Value} {B : Nat} {r : Gm.Res} {e : Int} (h : Boxes w w2 n s) (hr : r = Gm.bad e) :
    AndPost r B w (.returned (.tuple #[.agg #[.int .i64 0, .slice none 0 0], .int .i64 0, .int .i64 e])) w2 := by
  subst hr
  exact ⟨none, 0, rfl, fun k hk => by simp [Gm.bad] at hk, Sep.none_, h.low⟩

theorem AndPost.drew {r : Gm.Res} {B : Nat} {w V : World} {e : Ending} (h : AndPost r B w e V) : AndPost r B w e V.drew := by
  obtain ⟨A', c', he, hG, hs, hb⟩ := h
  exact ⟨A', c', he, hG, hs, hb.drew⟩
/-- A graph in a box of its own, with a literal and an error. -/
def HBox (w : World) (B : Nat) (n : Int) (s : Value) (n1 : Int) (gs1 : List (Int × Int)) (l1 er : Int) (s9 s10 s11 : Value) (V : World) : Prop :=
  ∃ (k : Nat) (A' : Option Addr) (c' : Nat), s9 = .pointer (some ⟨k, 0, none⟩) ∧ s10 = .int .i64 l1 ∧ s11 = .int .i64 er ∧ w.heap.size + 1 < k ∧ Boxes w V n s ∧ V.cell? ⟨k, 0, none⟩ = some (.int .i64 n1) ∧ V.cell? ⟨k, 1, none⟩ = some (.slice A' gs1.length c') ∧
    Gr V V.heap.size A' gs1 ∧ Sep B (w.heap.size + 2) A'
theorem HBox.fresh {w w6 : World} {B : Nat} {n : Int} {s : Value} {n1 : Int} {gs1 : List (Int × Int)} {l1 er : Int} {A' : Option Addr} {c' : Nat} {t : TypeId} (h : Boxes w w6 n s) (hG : Gr w6 w6.heap.size A' gs1) (hs : Sep B (w.heap.size + 2) A') :
    HBox w B n s n1 gs1 l1 er (.pointer (some ⟨w6.heap.size, 0, none⟩)) (.int .i64 l1) (.int .i64 er) (w6.alloc (Obj.cells #[.int .i64 n1, .slice A' gs1.length c'] t)) := by
  have hb := (Below.refl w6.heap.size w6).alloc (Nat.le_refl _) (Obj.cells #[.int .i64 n1, .slice A' gs1.length c'] t)
  have hk := Blk.new w6 t #[.int .i64 n1, .slice A' gs1.length c']
  exact ⟨w6.heap.size, A', c', rfl, rfl, rfl, h.sz, h.alloc _, hk.cell 0, hk.cell 1, (hG.below hb (Nat.le_refl _)).more hb.size, hs⟩
theorem HBox.old {w w6 : World} {B : Nat} {n : Int} {s : Value} {n1 : Int} {gs1 : List (Int × Int)} {l1 er : Int} {A' : Option Addr} {c' k : Nat} {x0 x1 : Value} (h : Boxes w w6 n s) (hG : Gr w6 w6.heap.size A' gs1) (hs : Sep B (w.heap.size + 2) A')
    (hk : w.heap.size + 1 < k) (y0 : w6.cell? ⟨k, 0, none⟩ = some x0) (y1 : w6.cell? ⟨k, 1, none⟩ = some x1) (hne : ∀ ad, A' = some ad → ad.block ≠ k) :
    HBox w B n s n1 gs1 l1 er (.pointer (some ⟨k, 0, none⟩)) (.int .i64 l1) (.int .i64 er) ((w6.setCell ⟨k, 0, none⟩ (.int .i64 n1)).setCell ⟨k, 1, none⟩ (.slice A' gs1.length c')) := by
  have hg : w6.grownBy ((w6.setCell ⟨k, 0, none⟩ (.int .i64 n1)).setCell ⟨k, 1, none⟩ (.slice A' gs1.length c')) (some k) :=
    grown_set (p := ⟨k, 1, none⟩) (grown_set (p := ⟨k, 0, none⟩) (World.grownBy.refl w6 (some k)) (Or.inl rfl) (.int .i64 n1)) (Or.inl rfl) (.slice A' gs1.length c')
  refine ⟨k, A', c', rfl, rfl, rfl, hk, h.grown hg hk, ?_, ?_, ?_, hs⟩
  · exact (World.cell?_setCell_other _ _ _ _ (by simp)).trans (World.cell?_setCell_same _ _ _ y0)
  · exact World.cell?_setCell_same _ _ _ ((World.cell?_setCell_other _ _ _ _ (by simp)).trans y1)
  · have := (hG.set (p := ⟨k, 0, none⟩) hne (.int .i64 n1)).set (p := ⟨k, 1, none⟩) hne (.slice A' gs1.length c')
    simpa using this

structure BoxG (w W : World) (n : Int) (s : Value) : Prop where
  bx : Boxes w W n s
  g0 : W.frozen? ⟨w.heap.size, 0, none⟩ = false
  g1 : W.frozen? ⟨w.heap.size, 1, none⟩ = false
theorem BoxG.below {w W W' : World} {n : Int} {s : Value} (h : BoxG w W n s) (hb : Below W.heap.size W W') : BoxG w W' n s :=
  ⟨h.bx.below hb, (hb.frozen (p := ⟨w.heap.size, 0, none⟩) (by have := h.bx.sz; simp; omega)).trans h.g0, (hb.frozen (p := ⟨w.heap.size, 1, none⟩) (by have := h.bx.sz; simp; omega)).trans h.g1⟩
theorem BoxG.drew {w W : World} {n : Int} {s : Value} (h : BoxG w W n s) : BoxG w W.drew n s := ⟨h.bx.drew, h.g0, h.g1⟩
theorem BoxG.put {w W : World} {n : Int} {s : Value} (h : BoxG w W n s) (n' : Int) (s' : Value) : BoxG w ((W.setCell ⟨w.heap.size, 0, none⟩ (.int .i64 n')).setCell ⟨w.heap.size, 1, none⟩ s') n' s' := by
  refine ⟨⟨(h.bx.low.setCell (by simp) _).setCell (by simp) _, ?_, ?_, ?_, ?_, ?_, ?_, ?_⟩, ?_, ?_⟩
  · exact (World.cell?_setCell_other _ _ _ _ (by simp)).trans (World.cell?_setCell_same _ _ _ h.bx.d0)
  · exact World.cell?_setCell_same _ _ _ ((World.cell?_setCell_other _ _ _ _ (by simp)).trans h.bx.d1)
  · exact keep2 h.bx.e0 (by omega)
  · exact keep2 h.bx.e1 (by omega)
  · simpa using h.bx.f0
  · simpa using h.bx.f1
  · simpa using h.bx.sz
  · simpa using h.g0
  · simpa using h.g1
theorem Gr.put {w W : World} {n1 : Int} {A' : Option Addr} {gs : List (Int × Int)} {s' : Value} (hG : Gr W W.heap.size A' gs) (hs : Sep 0 (w.heap.size + 2) A') :
    Gr ((W.setCell ⟨w.heap.size, 0, none⟩ (.int .i64 n1)).setCell ⟨w.heap.size, 1, none⟩ s') ((W.setCell ⟨w.heap.size, 0, none⟩ (.int .i64 n1)).setCell ⟨w.heap.size, 1, none⟩ s').heap.size A' gs := by
  have hne : ∀ ad, A' = some ad → ad.block ≠ w.heap.size := hs.ne (Nat.zero_le _) (by omega)
  have := (hG.set (p := ⟨w.heap.size, 0, none⟩) hne (.int .i64 n1)).set (p := ⟨w.heap.size, 1, none⟩) hne s'
  simpa using this
/-- The graph's box behind an And. -/
def GBox (w : World) (n1 : Int) (gs1 : List (Int × Int)) (l1 er : Int) (sl se : Value) (V : World) : Prop :=
  ∃ (A' : Option Addr) (c' : Nat), sl = .int .i64 l1 ∧ se = .int .i64 er ∧ BoxG w V n1 (.slice A' gs1.length c') ∧ Gr V V.heap.size A' gs1 ∧ Sep 0 (w.heap.size + 2) A'

theorem iteS_neg {n : Int} {gs : List (Int × Int)} {c a b : Int} (h : c < 0) : Gm.iteS n gs c a b = Gm.bad 1 := by unfold Gm.iteS; rw [if_pos h]
theorem iteS_ok {n : Int} {gs : List (Int × Int)} {c a b : Int} (h : ¬ c < 0) : Gm.iteS n gs c a b =
    (if (Gm.andS n gs c a).2.2 = 0 then
      (if (Gm.andS (Gm.andS n gs c a).1.1 (Gm.andS n gs c a).1.2 (Gm.negB c) b).2.2 = 0 then
        Gm.orS (Gm.andS (Gm.andS n gs c a).1.1 (Gm.andS n gs c a).1.2 (Gm.negB c) b).1.1 (Gm.andS (Gm.andS n gs c a).1.1 (Gm.andS n gs c a).1.2 (Gm.negB c) b).1.2 (Gm.andS n gs c a).2.1 (Gm.andS (Gm.andS n gs c a).1.1 (Gm.andS n gs c a).1.2 (Gm.negB c) b).2.1
       else Gm.bad (Gm.andS (Gm.andS n gs c a).1.1 (Gm.andS n gs c a).1.2 (Gm.negB c) b).2.2)
     else Gm.bad (Gm.andS n gs c a).2.2) := by unfold Gm.iteS; rw [if_neg h]

end Go.Proofs.YtdbmepndebdbpaaGreat
/- The reference's Right. -/
namespace Go.Proofs.YtdbmepndebdbpaaGreat
open Go.RowKit

/-- What holds of the box in which the graph lies. -/
structure GB (w W : World) (n : Int) (s : Value) : Prop where
  low : Below w.heap.size w W
  d0 : W.cell? ⟨w.heap.size, 0, none⟩ = some (.int .i64 n)
  d1 : W.cell? ⟨w.heap.size, 1, none⟩ = some s
  sz : w.heap.size < W.heap.size
theorem GB.below {w W W' : World} {n : Int} {s : Value} (h : GB w W n s) (hb : Below W.heap.size W W') : GB w W' n s :=
  ⟨h.low.trans (hb.mono h.low.size), (hb.cell (p := ⟨w.heap.size, 0, none⟩) h.sz).trans h.d0, (hb.cell (p := ⟨w.heap.size, 1, none⟩) h.sz).trans h.d1, Nat.lt_of_lt_of_le h.sz hb.size⟩
theorem GB.drewN {w W : World} {n : Int} {s : Value} (h : GB w W n s) (q : Nat) : GB w (W.drewN q) n s := ⟨below_drewN h.low q, h.d0, h.d1, h.sz⟩
theorem GB.new (w : World) (n : Int) (s : Value) (t : TypeId) : GB w (w.alloc (Obj.cells #[.int .i64 n, s] t)) n s := by
  have hk := Blk.new w t #[.int .i64 n, s]
  exact ⟨(Below.refl w.heap.size w).alloc (Nat.le_refl _) _, hk.cell 0, hk.cell 1, by simp⟩

theorem tdiv_neg {x : Int} (h : x < 0) : x.tdiv 2 ≤ 0 := by
  have e : x.tdiv 2 = -((-x).tdiv 2) := by rw [Int.neg_tdiv, Int.neg_neg]
  rw [e, Int.tdiv_eq_ediv_of_nonneg (by omega)]
  omega
/-- No gate ahead of k is the gate at i. -/
def NoneOf (gs : List (Int × Int)) (g : Int × Int) (k : Nat) : Prop := ∀ j, j < k → gs.getD j (0, 0) ≠ g
theorem none_nodup {gs : List (Int × Int)} {i : Nat} (hi : i < gs.length) (h : (gs.take i).Nodup) (hn : NoneOf gs gs[i] i) : (gs.take (i + 1)).Nodup := by
  refine (Gm.nod_take gs i hi).2 ⟨h, fun hm => ?_⟩
  obtain ⟨p, hp, e⟩ := List.mem_take_iff_getElem.1 hm
  refine hn p (by omega) ?_
  rw [← e]
  simp [List.getElem?_eq_getElem (show p < gs.length by omega)]
theorem dup_not {gs : List (Int × Int)} {i k : Nat} (hi : i < gs.length) (hk : k < i) (e : gs[k] = gs[i]) : Gm.nodB gs = false := by
  have : ¬ gs.Nodup := fun hn => by
    have h1 := hn.idxOf_getElem k (by omega)
    have h2 := hn.idxOf_getElem i hi
    rw [e, h2] at h1
    omega
  simp [Gm.nodB, this]

set_option maxRecDepth 100000 in
set_option maxHeartbeats 4000000 in
theorem refRight_any (n : Int) (A : Option Addr) (c : Nat) (gs : List (Int × Int)) (w : World) (B : Nat) (hl : gs.length ≤ 1000000) (hg : Gr w B A gs) (hB : B ≤ w.heap.size) (hw : Wf gs) :
    Calls Tryz.prog 29 #[.agg #[.int .i64 n, .slice A gs.length c]] w fun e w' => e = .returned (.bool (Gm.rightB n gs)) ∧ Below w.heap.size w w' := by
  have hgb := GB.new w n (.slice A gs.length c) 41
  by_cases hf : Gm.fitB n gs.length = true
  · have hn : 0 ≤ n ∧ n ≤ 2000 ∧ 1 + n + gs.length ≤ 2000 := by simp [Gm.fitB] at hf; omega
    obtain ⟨hn0, hn1, hn2⟩ := hn
    have hl2 : gs.length ≤ 2000 := by omega
    have HF := Lib.hid hf
    have HL := Lib.hid hl
    have hvs : decide (2000 < n + 1 + (gs.length : Int)) = false := by simp; omega
    have b1 : decide (n < 0) = false := by simp; omega
    have b2 : decide (2000 < n) = false := by simp; omega
    have b3 : decide (2000 < (gs.length : Int)) = false := by simp; omega
    clear hf hl
    go_enter Tryz.func29, Tryz.ntmps29
    go_wp2_with (go_at_call 9; refine (refVars_any n A gs.length c _ hn0 hn1 HL.out).mono ?_; rintro e w1 ⟨rfl, hb1⟩)
    have hgb1 := hgb.below hb1
    clear hgb hb1 hvs b1 b2 b3
    go_loopw [3] (fun i wr => ∃ k : Nat, k ≤ gs.length ∧ i = .int .i64 (k : Int) ∧ Gm.ordB n 0 (gs.take k) = true ∧ (gs.take k).Nodup ∧ GB w wr n (.slice A gs.length c)) (fun i _ => gs.length - (intOf i).toNat)
    case atStart => exact ⟨0, Nat.zero_le _, rfl, rfl, by simp, hgb1⟩
    case round =>
      obtain ⟨i, hi, rfl, ho, hnd, hgr⟩ := hrel
      have d0 := hgr.d0
      have d1 := hgr.d1
      have hgl := hg.below hgr.low hB
      by_cases hlt : i < gs.length
      · obtain ⟨bb, off, hA, hbB, g1, g2⟩ := hgl i hlt
        subst hA
        have hwk := hw gs[i] (by simp)
        have hot := Gm.ordB_take n gs i hlt
        have hof := fun h => Gm.ordB_false n gs 0 i hlt h
        rw [Nat.zero_add] at hof
        have hnn := none_nodup hlt hnd
        have hdn : ∀ k, k < i → (hk : k < gs.length) → gs[k] = gs[i] → Gm.nodB gs = false := fun k h1 _ e => dup_not hlt h1 e
        generalize hgi : gs[i] = g at *
        obtain ⟨x, y⟩ := g
        have HGI := Lib.hid hgi
        clear hgi
        simp only at g1 g2 hwk
        obtain ⟨⟨hx0, hx1⟩, hy0, hy1⟩ := hwk
        rw [ho, Bool.true_and] at hot
        have H1 := Lib.hid hot
        have H2 := Lib.hid hof
        have H3 := Lib.hid hnn
        have H4 := Lib.hid hdn
        have HO := Lib.hid ho
        have HND := Lib.hid hnd
        have HG := Lib.hid hgl
        clear hot hof hnn hdn ho hnd hgl
        have hix := ix2 bb off gs.length c i HL.out hlt
        by_cases hgate : Gm.gateB n i (x, y) = true
        · have hgx : 2 ≤ y ∧ y / 2 < x / 2 ∧ x / 2 < n + 1 + (i : Int) := by simp [Gm.gateB] at hgate; omega
          obtain ⟨hy2, hyx, hxn⟩ := hgx
          have hxp : 0 ≤ x := by omega
          have hT := Lib.hid (H1.out.trans hgate)
          have b1 : decide (y < 2) = false := by simp; omega
          have b2 : decide (x / 2 ≤ y / 2) = false := by simp; omega
          have b3 : decide (n + 1 + (i : Int) ≤ x / 2) = false := by simp; omega
          clear hgate H1 H2
          go_wp2
          go_quiet (fail)
          go_wp2
          clear b1 b2 b3
          go_loopw [6] (fun j wr => ∃ k : Nat, k ≤ i ∧ j = .int .i64 (k : Int) ∧ NoneOf gs (x, y) k ∧ GB w wr n (.slice (some ⟨bb, off, none⟩) gs.length c)) (fun j _ => i - (intOf j).toNat)
          case atStart => exact ⟨0, Nat.zero_le _, rfl, fun j hj => by omega, hgr.drewN _⟩
          case round =>
            obtain ⟨k, hk, rfl, hno, hgk⟩ := hrel
            have HNO := Lib.hid hno
            clear hno d0 d1
            have d0 := hgk.d0
            have d1 := hgk.d1
            have hgl2 := hg.below hgk.low hB
            by_cases hlt2 : k < i
            · obtain ⟨b2, off2, hA2, _, p1, p2⟩ := hgl2 k (by omega)
              obtain ⟨b3, off3, hA3, _, p3, p4⟩ := hgl2 i hlt
              injection hA2 with hA2
              injection hA2 with hA2 hA2'
              subst hA2 hA2'
              injection hA3 with hA3
              injection hA3 with hA3 hA3'
              subst hA3 hA3'
              rw [HGI.out] at p3 p4
              simp only at p3 p4
              have hix2 := ix2 bb off gs.length c k HL.out (by omega)
              have hgu := eqGuard2
              generalize hgk2 : gs[k] = g2' at *
              obtain ⟨x2, y2⟩ := g2'
              have HGK := Lib.hid hgk2
              clear hgk2
              simp only at p1 p2
              have hel := eql_arr2 x2 y2 x y
              by_cases he : (x2, y2) = (x, y)
              · have hnb := H4.out k hlt2 (by omega) (by rw [HGK.out, he])
                have HR := Lib.hid (show Gm.rightB n gs = false by simp [Gm.rightB, hnb])
                have hbe : (x2 == x && y2 == y) = true := by simp only [Prod.mk.injEq] at he; simp [he.1, he.2]
                rw [hbe] at hel
                clear hbe he hnb
                go_wp2
                go_quiet (fail)
                go_wp2
                go_ret
                exact ⟨ret_bool HR.out.symm, by exact below_drewN hgk.low _⟩
              · have hbe : (x2 == x && y2 == y) = false := by
                  simp only [Prod.mk.injEq] at he
                  by_cases h1 : x2 = x
                  · have : ¬ y2 = y := fun h2 => he ⟨h1, h2⟩
                    simp [this]
                  · simp [h1]
                have HNN := Lib.hid (show NoneOf gs (x, y) (k + 1) from fun j hj => by
                  by_cases e : j < k
                  · exact HNO.out j e
                  · have : j = k := by omega
                    subst this
                    rw [List.getD_eq_getElem?_getD, List.getElem?_eq_getElem (by omega), HGK.out]
                    exact he)
                rw [hbe] at hel
                clear hbe he
                go_wp2
                go_quiet (fail)
                go_wp2
                go_roundw
                case rel => exact ⟨k + 1, by omega, by go_num, HNN.out, hgk.drewN _⟩
                case measure => simp [intOf]; omega
            · have hkk : k = i := by omega
              subst hkk
              have HNX := Lib.hid (H3.out HNO.out)
              go_wp2
              go_roundw
              case rel => exact ⟨k + 1, by omega, by go_num, hT.out, HNX.out, hgk⟩
              case measure => simp [intOf]; omega
        · have hr : Gm.rightB n gs = false := by
            have := H2.out (by simpa using hgate)
            simp [Gm.rightB, this]
          have HR := Lib.hid hr
          clear hr
          by_cases hy : y < 2
          · clear hgate
            go_wp2
            go_quiet (fail)
            go_wp2
            go_ret
            exact ⟨ret_bool HR.out.symm, by exact below_drewN hgr.low _⟩
          · by_cases hx : x < 0
            · have htd : x.tdiv 2 ≤ y / 2 := by have := tdiv_neg hx; omega
              clear hgate
              go_wp2
              go_quiet (fail)
              go_wp2
              go_ret
              exact ⟨ret_bool HR.out.symm, by exact below_drewN hgr.low _⟩
            · by_cases hxy : x / 2 ≤ y / 2
              · clear hgate
                go_wp2
                go_quiet (fail)
                go_wp2
                go_ret
                exact ⟨ret_bool HR.out.symm, by exact below_drewN hgr.low _⟩
              · have hxx : n + 1 + (i : Int) ≤ x / 2 := by simp [Gm.gateB] at hgate; omega
                clear hgate
                go_wp2
                go_quiet (fail)
                go_wp2
                go_ret
                exact ⟨ret_bool HR.out.symm, by exact below_drewN hgr.low _⟩
      · have hkk : i = gs.length := by omega
        have HR : Hid (Gm.rightB n gs = true) := by
          rw [hkk, List.take_length] at ho hnd
          show Gm.rightB n gs = true
          simp [Gm.rightB, HF.out, ho, Gm.nodB, hnd]
        clear ho hnd hkk
        go_wp2
        go_ret
        exact ⟨ret_bool HR.out.symm, hgr.low⟩
  · have HR := Lib.hid (show Gm.rightB n gs = false by simp [Gm.rightB, hf])
    have HL := Lib.hid hl
    by_cases h0 : n < 0
    · clear hf hl
      go_enter Tryz.func29, Tryz.ntmps29
      go_wp2
      go_ret
      exact ⟨ret_bool HR.out.symm, hgb.low⟩
    · by_cases h1 : 2000 < n
      · clear hf hl
        go_enter Tryz.func29, Tryz.ntmps29
        go_wp2
        go_ret
        exact ⟨ret_bool HR.out.symm, hgb.low⟩
      · by_cases h2 : 2000 < gs.length
        · have h2' : (2000 : Int) < gs.length := by omega
          clear hf hl
          go_enter Tryz.func29, Tryz.ntmps29
          go_wp2_with fail
          go_ret
          exact ⟨ret_bool HR.out.symm, hgb.low⟩
        · have h3 : 2000 < n + 1 + (gs.length : Int) := by simp [Gm.fitB] at hf; omega
          have b1 : decide (n < 0) = false := by simp; omega
          have b2 : decide (2000 < n) = false := by simp; omega
          have b3 : decide (2000 < (gs.length : Int)) = false := by simp; omega
          clear hf hl
          go_enter Tryz.func29, Tryz.ntmps29
          go_wp2_with (go_at_call 9; refine (refVars_any n A gs.length c _ (by omega) (by omega) HL.out).mono ?_; rintro e w1 ⟨rfl, hb1⟩)
          go_ret
          exact ⟨ret_bool HR.out.symm, (hgb.below hb1).low⟩
end Go.Proofs.YtdbmepndebdbpaaGreat
/- The reference's And. -/
namespace Go.Proofs.YtdbmepndebdbpaaGreat
open Go.RowKit

/-- What the reference hands back: the slice that it was given, or a new one. -/
def RefPost (r : Gm.Res) (A : Option Addr) (gs : List (Int × Int)) (w : World) (e : Ending) (w' : World) : Prop :=
  ∃ A' c', e = .returned (.tuple #[.agg #[.int .i64 r.1.1, .slice A' r.1.2.length c'], .int .i64 r.2.1, .int .i64 r.2.2]) ∧ Gr w' w'.heap.size A' r.1.2 ∧ ((A' = A ∧ r.1.2 = gs) ∨ Sep 0 w.heap.size A') ∧ Below w.heap.size w w'
theorem RefPost.drew {r : Gm.Res} {A : Option Addr} {gs : List (Int × Int)} {w V : World} {e : Ending} (h : RefPost r A gs w e V) : RefPost r A gs w e V.drew := by
  obtain ⟨A', c', he, hG, hs, hb⟩ := h
  exact ⟨A', c', he, hG, hs, hb.drew⟩
theorem Gr.set0 {w : World} {C : Nat} {A : Option Addr} {gs : List (Int × Int)} (h : Gr w C A gs) {p : Addr} (hp : 0 < gs.length → ∀ ad, A = some ad → ad.block ≠ p.block) (u : Value) : Gr (w.setCell p u) C A gs := by
  by_cases h0 : 0 < gs.length
  · exact h.set (hp h0) u
  · exact fun k hk => by omega
theorem ref_close {w w2 : World} {n : Int} {s : Value} {r : Gm.Res} {A A' : Option Addr} {gs : List (Int × Int)} {c' : Nat} (h : Boxes w w2 n s) (hG : Gr w2 w2.heap.size A' r.1.2) (hs : (A' = A ∧ r.1.2 = gs) ∨ Sep 0 w.heap.size A') (hne : 0 < r.1.2.length → ∀ ad, A' = some ad → ad.block ≠ w.heap.size + 1) :
    RefPost r A gs w (.returned (.tuple #[.agg #[.int .i64 r.1.1, .slice A' r.1.2.length c'], .int .i64 r.2.1, .int .i64 r.2.2]))
      ((w2.setCell ⟨w.heap.size + 1, 0, none⟩ (.int .i64 r.1.1)).setCell ⟨w.heap.size + 1, 1, none⟩ (.slice A' r.1.2.length c')) := by
  refine ⟨A', c', rfl, ?_, hs, (h.low.setCell (by simp) _).setCell (by simp) _⟩
  have := (hG.set0 (p := ⟨w.heap.size + 1, 0, none⟩) hne (.int .i64 r.1.1)).set0 (p := ⟨w.heap.size + 1, 1, none⟩) hne (.slice A' r.1.2.length c')
  simpa using this
theorem ref_bad {w w2 : World} {n : Int} {s : Value} {r : Gm.Res} {e : Int} {A : Option Addr} {gs : List (Int × Int)} (h : Boxes w w2 n s) (hr : r = Gm.bad e) :
    RefPost r A gs w (.returned (.tuple #[.agg #[.int .i64 0, .slice none 0 0], .int .i64 0, .int .i64 e])) ((w2.setCell ⟨w.heap.size + 1, 0, none⟩ (.int .i64 0)).setCell ⟨w.heap.size + 1, 1, none⟩ (.slice none 0 0)) := by
  subst hr
  exact ref_close (r := Gm.bad e) (A' := none) (c' := 0) h (fun k hk => by simp [Gm.bad] at hk) (Or.inr Sep.none_) (fun _ _ e => by cases e)

theorem simple_max {a b x y : Int} (ha : 0 ≤ a) (hb : 0 ≤ b) (h : (max a b, min a b) = (x, y)) :
    Gm.simpleS a b = (if y = 0 ∨ (x / 2 = y / 2 ∧ x ≠ y) then some 0 else if y = 1 ∨ x = y then some x else none) := by
  simp only [Prod.mk.injEq] at h
  obtain ⟨hx, hy⟩ := h
  unfold Gm.simpleS Gm.negB
  rcases Int.lt_trichotomy a b with hlt | rfl | hlt
  · rw [Int.max_eq_right (Int.le_of_lt hlt)] at hx
    rw [Int.min_eq_left (Int.le_of_lt hlt)] at hy
    subst hx hy
    by_cases h1 : a = 0 ∨ (b / 2 = a / 2 ∧ b ≠ a)
    · rw [if_pos h1, if_pos (by split <;> omega)]
    · rw [if_neg h1, if_neg (by intro h2; split at h2 <;> omega)]
      by_cases h3 : a = 1
      · simp [h3]
      · rw [if_neg h3]
        simp [h3, show ¬ b = 1 by omega, show ¬ a = b by omega, show ¬ b = a by omega]
  · rw [Int.max_self] at hx
    rw [Int.min_self] at hy
    subst hx hy
    by_cases h1 : a = 0
    · simp [h1]
    · have h2 : ¬ (a = if a % 2 = 0 then a + 1 else a - 1) := by split <;> omega
      simp [h1, h2]
  · rw [Int.max_eq_left (Int.le_of_lt hlt)] at hx
    rw [Int.min_eq_right (Int.le_of_lt hlt)] at hy
    subst hx hy
    by_cases h1 : b = 0 ∨ (a / 2 = b / 2 ∧ a ≠ b)
    · rw [if_pos h1, if_pos (by split <;> omega)]
    · rw [if_neg h1, if_neg (by intro h2; split at h2 <;> omega)]
      have h3 : ¬ a = 1 := by omega
      rw [if_neg h3]
theorem idx_none {gs : List (Int × Int)} {g : Int × Int} (h : NoneOf gs g gs.length) : gs.length ≤ gs.idxOf g := by
  have : g ∉ gs := fun hm => by
    obtain ⟨p, hp, e⟩ := List.mem_iff_getElem.1 hm
    exact h p hp (by simp [List.getElem?_eq_getElem hp, e])
  rw [List.idxOf_eq_length this]
  exact Nat.le_refl _
theorem idx_at {gs : List (Int × Int)} {g : Int × Int} {k : Nat} (hk : k < gs.length) (hn : NoneOf gs g k) (e : gs[k] = g) : gs.idxOf g = k := by
  have hm : g ∈ gs := by rw [← e]; exact List.getElem_mem hk
  have hlt := List.idxOf_lt_length_of_mem hm
  have hg := List.getElem_idxOf hlt
  rcases Nat.lt_trichotomy (gs.idxOf g) k with h | h | h
  · exact absurd (by simp [List.getElem?_eq_getElem hlt, hg]) (hn _ h)
  · exact h
  · have := List.not_of_lt_findIdx (p := (· == g)) (xs := gs) (i := k) h
    simp [e] at this
end Go.Proofs.YtdbmepndebdbpaaGreat
/- The reference's And: the walk. -/
namespace Go.Proofs.YtdbmepndebdbpaaGreat
open Go.RowKit

theorem Boxes.drewN {w W : World} {n : Int} {s : Value} (h : Boxes w W n s) (q : Nat) : Boxes w (W.drewN q) n s := ⟨below_drewN h.low q, h.d0, h.d1, h.e0, h.e1, h.f0, h.f1, h.sz⟩

set_option maxRecDepth 100000 in
set_option maxHeartbeats 4000000 in
theorem refAnd_arg (n : Int) (A : Option Addr) (c : Nat) (gs : List (Int × Int)) (a b : Int) (w : World) (B : Nat) (hl : gs.length ≤ 1000000) (hg : Gr w B A gs) (hB : B ≤ w.heap.size) (hw : Wf gs)
    (ha1 : a ≤ 9223372036854775807) (hb1 : b ≤ 9223372036854775807)
    (hbad : ¬ (Gm.rightB n gs = true ∧ Gm.litB n gs.length a = true ∧ Gm.litB n gs.length b = true)) :
    Calls Tryz.prog 23 #[.agg #[.int .i64 n, .slice A gs.length c], .int .i64 a, .int .i64 b] w (RefPost (Gm.andS n gs a b) A gs w) := by
  have hnot : ∀ (x : Bool) (w : World), (Op.unary .not (.bool x)).run Tryz.prog w = .ok (.bool (!x)) w := fun _ _ => rfl
  have HS := Lib.hid (show Gm.andS n gs a b = Gm.bad 1 by unfold Gm.andS; rw [if_neg hbad])
  obtain ⟨W, hW⟩ : ∃ W, W = ((w.alloc (Obj.cells #[Value.int .i64 n, .slice A gs.length c] 41)).alloc (Obj.cells #[.int .i64 0, .slice none 0 0] 41)) := ⟨_, rfl⟩
  have hbx : Boxes w W n (.slice A gs.length c) := by
    rw [hW]
    exact ⟨((Below.refl w.heap.size w).alloc (Nat.le_refl _) _).alloc (by simp) _, by go_simp, by go_simp, by go_simp, by go_simp, by go_simp, by go_simp, by simp⟩
  have HL := Lib.hid hl
  clear hl
  by_cases hr : Gm.rightB n gs = true
  · by_cases ha : Gm.litB n gs.length a = true
    · have hb : Gm.litB n gs.length b = false := by
        cases h : Gm.litB n gs.length b with
        | false => rfl
        | true => exact absurd ⟨hr, ha, h⟩ hbad
      have HR := Lib.hid hr
      have HA := Lib.hid ha
      have HB := Lib.hid hb
      clear hr ha hb hbad
      go_enter Tryz.func23, Tryz.ntmps23
      go_wp2_with fail
      rw [← hW]
      clear hW
      refine (refRight_any n A c gs W B HL.out (hg.below hbx.low hB) (Nat.le_trans hB hbx.low.size) hw).mono ?_
      rintro e w1 ⟨rfl, hb1'⟩
      rw [HR.out]
      have hx1 := hbx.below hb1'
      have d0 := hx1.d0
      have d1 := hx1.d1
      go_wp2_with fail
      refine (refLit_any n A gs.length c a w1 HL.out ha1).mono ?_
      rintro e w2 ⟨rfl, hb2'⟩
      rw [HA.out]
      have hx2 := hx1.below hb2'
      clear d0 d1
      have d0 := hx2.d0
      have d1 := hx2.d1
      go_wp2_with fail
      refine (refLit_any n A gs.length c b w2 HL.out hb1).mono ?_
      rintro e w3 ⟨rfl, hb3'⟩
      rw [HB.out]
      have hx3 := hx2.below hb3'
      clear d0 d1
      have e0 := hx3.e0
      have e1 := hx3.e1
      have f0 := hx3.f0
      have f1 := hx3.f1
      go_wp2
      obtain ⟨r0, r1⟩ := and_cells (u := .int .i64 0) (v := .slice none 0 0) hx3
      exact bodyPost_ret (v := .tuple #[.agg #[.int .i64 0, .slice none 0 0], .int .i64 0, .int .i64 1]) (by simp [results, Tryz.results23, go_sem, r0, r1]) rfl (ref_bad hx3 HS.out)
    · have HR := Lib.hid hr
      have HA := Lib.hid (show Gm.litB n gs.length a = false by simpa using ha)
      clear hr ha hbad
      go_enter Tryz.func23, Tryz.ntmps23
      go_wp2_with fail
      rw [← hW]
      clear hW
      refine (refRight_any n A c gs W B HL.out (hg.below hbx.low hB) (Nat.le_trans hB hbx.low.size) hw).mono ?_
      rintro e w1 ⟨rfl, hb1'⟩
      rw [HR.out]
      have hx1 := hbx.below hb1'
      have d0 := hx1.d0
      have d1 := hx1.d1
      go_wp2_with fail
      refine (refLit_any n A gs.length c a w1 HL.out ha1).mono ?_
      rintro e w3 ⟨rfl, hb2'⟩
      rw [HA.out]
      have hx3 := hx1.below hb2'
      clear d0 d1
      have e0 := hx3.e0
      have e1 := hx3.e1
      have f0 := hx3.f0
      have f1 := hx3.f1
      go_wp2
      obtain ⟨r0, r1⟩ := and_cells (u := .int .i64 0) (v := .slice none 0 0) hx3
      exact bodyPost_ret (v := .tuple #[.agg #[.int .i64 0, .slice none 0 0], .int .i64 0, .int .i64 1]) (by simp [results, Tryz.results23, go_sem, r0, r1]) rfl (ref_bad hx3 HS.out)
  · have HR := Lib.hid (show Gm.rightB n gs = false by simpa using hr)
    clear hr hbad
    go_enter Tryz.func23, Tryz.ntmps23
    go_wp2_with fail
    rw [← hW]
    clear hW
    refine (refRight_any n A c gs W B HL.out (hg.below hbx.low hB) (Nat.le_trans hB hbx.low.size) hw).mono ?_
    rintro e w3 ⟨rfl, hb1'⟩
    rw [HR.out]
    have hx3 := hbx.below hb1'
    have e0 := hx3.e0
    have e1 := hx3.e1
    have f0 := hx3.f0
    have f1 := hx3.f1
    go_wp2
    obtain ⟨r0, r1⟩ := and_cells (u := .int .i64 0) (v := .slice none 0 0) hx3
    exact bodyPost_ret (v := .tuple #[.agg #[.int .i64 0, .slice none 0 0], .int .i64 0, .int .i64 1]) (by simp [results, Tryz.results23, go_sem, r0, r1]) rfl (ref_bad hx3 HS.out)
end Go.Proofs.YtdbmepndebdbpaaGreat
