/- The text whose figures these are: the specification's reader. -/
import Derived.Test.YtmmchemgegmhhaaGreatDoorFigs
namespace Go.Proofs.YtmmchemgegmhhaaGreatDoor
open Go.RowKit

end Go.Proofs.YtmmchemgegmhhaaGreatDoor
