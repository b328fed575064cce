/- extended. -/
import Derived.Test.YteabffdddlihnaaI
namespace Go.Proofs.Yteabffdddlihnaa
open Go.RowKit

theorem keep2 {w : World} {g i k : Nat} {u v1 v2 : Value} (h : w.cell? ⟨g, i, none⟩ = some u) (hne : k ≠ g) : ((w.setCell ⟨k, 0, none⟩ v1).setCell ⟨k, 1, none⟩ v2).cell? ⟨g, i, none⟩ = some u :=
  (World.cell?_setCell_other _ _ _ _ (fun e => hne (congrArg Addr.block e))).trans ((World.cell?_setCell_other _ _ _ _ (fun e => hne (congrArg Addr.block e))).trans h)

end Go.Proofs.Yteabffdddlihnaa
