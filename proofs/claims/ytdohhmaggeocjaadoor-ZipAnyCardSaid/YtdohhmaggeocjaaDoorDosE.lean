
/- Contracts of package dos: how many times come ahead of one. -/
import Derived.Test.YtdohhmaggeocjaaDoorDosB
import Derived.Test.YtdohhmaggeocjaaDoorDosM
namespace Go.Proofs.YtdohhmaggeocjaaDoor
open Go Go.RowKit
set_option maxRecDepth 100000
set_option maxRecDepth 100000

end Go.Proofs.YtdohhmaggeocjaaDoor
