/- The short form of a number is written by the loop of putShort. -/
import Derived.Test.YtpbfglpjhmhneaaDoorWrW
namespace Go.Proofs.YtpbfglpjhmhneaaDoor
open Go.RowKit Go.PlainAid Go.Lib

end Go.Proofs.YtpbfglpjhmhneaaDoor


