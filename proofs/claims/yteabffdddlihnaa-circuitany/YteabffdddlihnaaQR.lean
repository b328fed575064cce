/- What Or and Ite rest on. -/
import Derived.Test.YteabffdddlihnaaP
import Derived.Deep.DeepCutAuto
import Derived.Deep.RegionWith
namespace Go.Proofs.Yteabffdddlihnaa
open Go.RowKit

theorem Boxes.alloc {w W : World} {n : Int} {s : Value} (h : Boxes w W n s) (o : Obj) : Boxes w (W.alloc o) n s := h.below ((Below.refl W.heap.size W).alloc (Nat.le_refl _) o)
theorem and_bad0 {w w2 : World} {n : Int} {s : Value} {B : Nat} {r : Gm.Res} {e : Int} (h : Boxes w w2 n s) (hr : r = Gm.bad e) :
    AndPost r B w (.returned (.tuple #[.agg #[.int .i64 0, .slice none 0 0], .int .i64 0, .int .i64 e])) w2 := by
  subst hr
  exact ⟨none, 0, rfl, fun k hk => by simp [Gm.bad] at hk, Sep.none_, h.low⟩

theorem AndPost.drew {r : Gm.Res} {B : Nat} {w V : World} {e : Ending} (h : AndPost r B w e V) : AndPost r B w e V.drew := by
  obtain ⟨A', c', he, hG, hs, hb⟩ := h
  exact ⟨A', c', he, hG, hs, hb.drew⟩
/-- A graph in a box of its own, with a literal and an error. -/
def HBox (w : World) (B : Nat) (n : Int) (s : Value) (n1 : Int) (gs1 : List (Int × Int)) (l1 er : Int) (s9 s10 s11 : Value) (V : World) : Prop :=
  ∃ (k : Nat) (A' : Option Addr) (c' : Nat), s9 = .pointer (some ⟨k, 0, none⟩) ∧ s10 = .int .i64 l1 ∧ s11 = .int .i64 er ∧ w.heap.size + 1 < k ∧ Boxes w V n s ∧ V.cell? ⟨k, 0, none⟩ = some (.int .i64 n1) ∧ V.cell? ⟨k, 1, none⟩ = some (.slice A' gs1.length c') ∧
    Gr V V.heap.size A' gs1 ∧ Sep B (w.heap.size + 2) A'
theorem HBox.fresh {w w6 : World} {B : Nat} {n : Int} {s : Value} {n1 : Int} {gs1 : List (Int × Int)} {l1 er : Int} {A' : Option Addr} {c' : Nat} {t : TypeId} (h : Boxes w w6 n s) (hG : Gr w6 w6.heap.size A' gs1) (hs : Sep B (w.heap.size + 2) A') :
    HBox w B n s n1 gs1 l1 er (.pointer (some ⟨w6.heap.size, 0, none⟩)) (.int .i64 l1) (.int .i64 er) (w6.alloc (Obj.cells #[.int .i64 n1, .slice A' gs1.length c'] t)) := by
  have hb := (Below.refl w6.heap.size w6).alloc (Nat.le_refl _) (Obj.cells #[.int .i64 n1, .slice A' gs1.length c'] t)
  have hk := Blk.new w6 t #[.int .i64 n1, .slice A' gs1.length c']
  exact ⟨w6.heap.size, A', c', rfl, rfl, rfl, h.sz, h.alloc _, hk.cell 0, hk.cell 1, (hG.below hb (Nat.le_refl _)).more hb.size, hs⟩
theorem HBox.old {w w6 : World} {B : Nat} {n : Int} {s : Value} {n1 : Int} {gs1 : List (Int × Int)} {l1 er : Int} {A' : Option Addr} {c' k : Nat} {x0 x1 : Value} (h : Boxes w w6 n s) (hG : Gr w6 w6.heap.size A' gs1) (hs : Sep B (w.heap.size + 2) A')
    (hk : w.heap.size + 1 < k) (y0 : w6.cell? ⟨k, 0, none⟩ = some x0) (y1 : w6.cell? ⟨k, 1, none⟩ = some x1) (hne : ∀ ad, A' = some ad → ad.block ≠ k) :
    HBox w B n s n1 gs1 l1 er (.pointer (some ⟨k, 0, none⟩)) (.int .i64 l1) (.int .i64 er) ((w6.setCell ⟨k, 0, none⟩ (.int .i64 n1)).setCell ⟨k, 1, none⟩ (.slice A' gs1.length c')) := by
  have hg : w6.grownBy ((w6.setCell ⟨k, 0, none⟩ (.int .i64 n1)).setCell ⟨k, 1, none⟩ (.slice A' gs1.length c')) (some k) :=
    grown_set (p := ⟨k, 1, none⟩) (grown_set (p := ⟨k, 0, none⟩) (World.grownBy.refl w6 (some k)) (Or.inl rfl) (.int .i64 n1)) (Or.inl rfl) (.slice A' gs1.length c')
  refine ⟨k, A', c', rfl, rfl, rfl, hk, h.grown hg hk, ?_, ?_, ?_, hs⟩
  · exact (World.cell?_setCell_other _ _ _ _ (by simp)).trans (World.cell?_setCell_same _ _ _ y0)
  · exact World.cell?_setCell_same _ _ _ ((World.cell?_setCell_other _ _ _ _ (by simp)).trans y1)
  · have := (hG.set (p := ⟨k, 0, none⟩) hne (.int .i64 n1)).set (p := ⟨k, 1, none⟩) hne (.slice A' gs1.length c')
    simpa using this

structure BoxG (w W : World) (n : Int) (s : Value) : Prop where
  bx : Boxes w W n s
  g0 : W.frozen? ⟨w.heap.size, 0, none⟩ = false
  g1 : W.frozen? ⟨w.heap.size, 1, none⟩ = false
theorem BoxG.below {w W W' : World} {n : Int} {s : Value} (h : BoxG w W n s) (hb : Below W.heap.size W W') : BoxG w W' n s :=
  ⟨h.bx.below hb, (hb.frozen (p := ⟨w.heap.size, 0, none⟩) (by have := h.bx.sz; simp; omega)).trans h.g0, (hb.frozen (p := ⟨w.heap.size, 1, none⟩) (by have := h.bx.sz; simp; omega)).trans h.g1⟩
theorem BoxG.drew {w W : World} {n : Int} {s : Value} (h : BoxG w W n s) : BoxG w W.drew n s := ⟨h.bx.drew, h.g0, h.g1⟩
theorem BoxG.put {w W : World} {n : Int} {s : Value} (h : BoxG w W n s) (n' : Int) (s' : Value) : BoxG w ((W.setCell ⟨w.heap.size, 0, none⟩ (.int .i64 n')).setCell ⟨w.heap.size, 1, none⟩ s') n' s' := by
  refine ⟨⟨(h.bx.low.setCell (by simp) _).setCell (by simp) _, ?_, ?_, ?_, ?_, ?_, ?_, ?_⟩, ?_, ?_⟩
  · exact (World.cell?_setCell_other _ _ _ _ (by simp)).trans (World.cell?_setCell_same _ _ _ h.bx.d0)
  · exact World.cell?_setCell_same _ _ _ ((World.cell?_setCell_other _ _ _ _ (by simp)).trans h.bx.d1)
  · exact keep2 h.bx.e0 (by omega)
  · exact keep2 h.bx.e1 (by omega)
  · simpa using h.bx.f0
  · simpa using h.bx.f1
  · simpa using h.bx.sz
  · simpa using h.g0
  · simpa using h.g1
theorem Gr.put {w W : World} {n1 : Int} {A' : Option Addr} {gs : List (Int × Int)} {s' : Value} (hG : Gr W W.heap.size A' gs) (hs : Sep 0 (w.heap.size + 2) A') :
    Gr ((W.setCell ⟨w.heap.size, 0, none⟩ (.int .i64 n1)).setCell ⟨w.heap.size, 1, none⟩ s') ((W.setCell ⟨w.heap.size, 0, none⟩ (.int .i64 n1)).setCell ⟨w.heap.size, 1, none⟩ s').heap.size A' gs := by
  have hne : ∀ ad, A' = some ad → ad.block ≠ w.heap.size := hs.ne (Nat.zero_le _) (by omega)
  have := (hG.set (p := ⟨w.heap.size, 0, none⟩) hne (.int .i64 n1)).set (p := ⟨w.heap.size, 1, none⟩) hne s'
  simpa using this
/-- The graph's box behind an And. -/
def GBox (w : World) (n1 : Int) (gs1 : List (Int × Int)) (l1 er : Int) (sl se : Value) (V : World) : Prop :=
  ∃ (A' : Option Addr) (c' : Nat), sl = .int .i64 l1 ∧ se = .int .i64 er ∧ BoxG w V n1 (.slice A' gs1.length c') ∧ Gr V V.heap.size A' gs1 ∧ Sep 0 (w.heap.size + 2) A'

theorem iteS_neg {n : Int} {gs : List (Int × Int)} {c a b : Int} (h : c < 0) : Gm.iteS n gs c a b = Gm.bad 1 := by unfold Gm.iteS; rw [if_pos h]
theorem iteS_ok {n : Int} {gs : List (Int × Int)} {c a b : Int} (h : ¬ c < 0) : Gm.iteS n gs c a b =
    (if (Gm.andS n gs c a).2.2 = 0 then
      (if (Gm.andS (Gm.andS n gs c a).1.1 (Gm.andS n gs c a).1.2 (Gm.negB c) b).2.2 = 0 then
        Gm.orS (Gm.andS (Gm.andS n gs c a).1.1 (Gm.andS n gs c a).1.2 (Gm.negB c) b).1.1 (Gm.andS (Gm.andS n gs c a).1.1 (Gm.andS n gs c a).1.2 (Gm.negB c) b).1.2 (Gm.andS n gs c a).2.1 (Gm.andS (Gm.andS n gs c a).1.1 (Gm.andS n gs c a).1.2 (Gm.negB c) b).2.1
       else Gm.bad (Gm.andS (Gm.andS n gs c a).1.1 (Gm.andS n gs c a).1.2 (Gm.negB c) b).2.2)
     else Gm.bad (Gm.andS n gs c a).2.2) := by unfold Gm.iteS; rw [if_neg h]

end Go.Proofs.Yteabffdddlihnaa
