
/- Contracts of package dos: how many times come ahead of one. -/
import Derived.Test.YthnjpapfombhnaaDoorDosB
import Derived.Test.YthnjpapfombhnaaDoorDosM
namespace Go.Proofs.YthnjpapfombhnaaDoor
open Go Go.RowKit
set_option maxRecDepth 100000
set_option maxRecDepth 100000

end Go.Proofs.YthnjpapfombhnaaDoor
