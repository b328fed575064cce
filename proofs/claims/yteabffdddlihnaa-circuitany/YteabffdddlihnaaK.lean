/- simple. -/
import Derived.Test.YteabffdddlihnaaJ
namespace Go.Proofs.Yteabffdddlihnaa
open Go.RowKit

/-- What simple hands back. -/
def SimplePost (a b : Int) (w : World) (e : Ending) (w' : World) : Prop := e = .returned (.tuple #[.int .i64 ((Gm.simpleS a b).getD 0), .bool (Gm.simpleS a b).isSome]) ∧ w = w'

end Go.Proofs.Yteabffdddlihnaa
