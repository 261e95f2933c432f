/- Contracts: relations, and whether one holds of two values: the program's calls and the document's. -/
import Derived.Test.YtnagngdijlancaaVc
namespace Go.Proofs.Ytnagngdijlancaa
open Go Go.RowKit

end Go.Proofs.Ytnagngdijlancaa
