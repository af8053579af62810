import Derived.Test.YtckallochdegiaaGreatSorted
namespace Go.Proofs.YtckallochdegiaaGreat
set_option linter.unusedVariables false
set_option linter.unusedSimpArgs false
open Go.RowKit

end Go.Proofs.YtckallochdegiaaGreat
