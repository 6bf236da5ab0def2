/- The short form of a number is written by the loop of putShort. -/
import Derived.Test.YtbflhpafejmelaaWrW
namespace Go.Proofs.Ytbflhpafejmelaa
open Go.RowKit Go.PlainAid Go.Lib

end Go.Proofs.Ytbflhpafejmelaa



