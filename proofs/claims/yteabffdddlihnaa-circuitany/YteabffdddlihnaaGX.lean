/- A graph in a box of the law's own. -/
import Derived.Test.YteabffdddlihnaaX
namespace Go.Proofs.Yteabffdddlihnaa
open Go.RowKit

theorem wf_nil : Wf [] := fun g h => by cases h
theorem wf_42 : Wf [(4, 2)] := fun g h => by
  simp at h
  subst h
  simp
theorem gr_nil {w : World} {C : Nat} {A : Option Addr} : Gr w C A [] := fun k hk => by simp at hk

/-- A graph in a box of the law's own. -/
structure GX (k : Nat) (n : Int) (A : Option Addr) (c l : Nat) (gs : List (Int × Int)) (V : World) : Prop where
  c0 : V.cell? ⟨k, 0, none⟩ = some (.int .i64 n)
  c1 : V.cell? ⟨k, 1, none⟩ = some (.slice A l c)
  lt : k < V.heap.size
  gr : Gr V V.heap.size A gs
theorem GX.below {k : Nat} {n : Int} {A : Option Addr} {c l : Nat} {gs : List (Int × Int)} {V V' : World} (h : GX k n A c l gs V) (hb : Below V.heap.size V V') : GX k n A c l gs V' :=
  ⟨(hb.cell (p := ⟨k, 0, none⟩) h.lt).trans h.c0, (hb.cell (p := ⟨k, 1, none⟩) h.lt).trans h.c1, Nat.lt_of_lt_of_le h.lt hb.size, (h.gr.below hb (Nat.le_refl _)).more hb.size⟩
theorem GX.drew {k : Nat} {n : Int} {A : Option Addr} {c l : Nat} {gs : List (Int × Int)} {V : World} (h : GX k n A c l gs V) : GX k n A c l gs V.drew := ⟨h.c0, h.c1, h.lt, h.gr⟩
theorem GX.alloc {k : Nat} {n : Int} {A : Option Addr} {c l : Nat} {gs : List (Int × Int)} {V : World} (h : GX k n A c l gs V) (o : Obj) : GX k n A c l gs (V.alloc o) := h.below ((Below.refl V.heap.size V).alloc (Nat.le_refl _) o)
theorem GX.new {V : World} {n : Int} {A : Option Addr} {c l : Nat} {gs : List (Int × Int)} (h : Gr V V.heap.size A gs) (t : TypeId) : GX V.heap.size n A c l gs (V.alloc (Obj.cells #[.int .i64 n, .slice A l c] t)) := by
  have hk := Blk.new V t #[.int .i64 n, .slice A l c]
  have hb := (Below.refl V.heap.size V).alloc (Nat.le_refl _) (Obj.cells #[.int .i64 n, .slice A l c] t)
  exact ⟨hk.cell 0, hk.cell 1, by simp, (h.below hb (Nat.le_refl _)).more hb.size⟩

end Go.Proofs.Yteabffdddlihnaa
