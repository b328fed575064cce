/- The reference's Right. -/
import Derived.Test.YtdnbndknfifmgaaGreatDoorUag
namespace Go.Proofs.YtdnbndknfifmgaaGreatDoor
open Go.RowKit
namespace Cm
end Cm
end Go.Proofs.YtdnbndknfifmgaaGreatDoor
