/- The reference's Right. -/
import Derived.Test.YtdnbndknfifmgaaGreatDoorQag
namespace Go.Proofs.YtdnbndknfifmgaaGreatDoor
open Go.RowKit
namespace Cm
def litsB (N : Int) (l : Nat) (xs : List Int) : Bool := xs.all (Gm.litB N l) && decide (xs.length ≤ 2000)
theorem right_split (c : Cir) : rightC c = (decide (0 ≤ c.n) && (decide (c.n ≤ 2000) && (decide (c.ls.length ≤ 2000) && (Gm.rightB (c.n + c.ls.length) c.gs && (c.ls.all (latB (c.n + c.ls.length) c.gs.length) && (litsB (c.n + c.ls.length) c.gs.length c.os && (litsB (c.n + c.ls.length) c.gs.length c.bs && (litsB (c.n + c.ls.length) c.gs.length c.cs && (litsB (c.n + c.ls.length) c.gs.length c.fs && namesB c))))))))) := by
  have hr : (List.range 6).all (fun i => (lstS c (kindAt i)).all (Gm.litB (c.n + c.ls.length) c.gs.length)) = (c.os.all (Gm.litB (c.n + c.ls.length) c.gs.length) && (c.bs.all (Gm.litB (c.n + c.ls.length) c.gs.length) && (c.cs.all (Gm.litB (c.n + c.ls.length) c.gs.length) && c.fs.all (Gm.litB (c.n + c.ls.length) c.gs.length)))) := by
    simp [List.range, List.range.loop, lstS, kindAt]
  rw [names_same]
  unfold rightC fitsB drivenB litsB
  rw [hr]
  ac_rfl
end Cm
end Go.Proofs.YtdnbndknfifmgaaGreatDoor
