/- The short form of a number is written by the loop of putShort. -/
import Derived.Test.YtplbclokoffgkaaGreatDoorWrW
namespace Go.Proofs.YtplbclokoffgkaaGreatDoor
open Go.RowKit Go.PlainAid Go.Lib

end Go.Proofs.YtplbclokoffgkaaGreatDoor



