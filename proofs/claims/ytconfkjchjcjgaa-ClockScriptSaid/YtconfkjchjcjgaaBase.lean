/- What every seat's walks stand on: the imports, and the row of the type of bytes. -/
import Derived.Test.YtconfkjchjcjgaaRows
import Derived.Test.YtconfkjchjcjgaaWords
import Derived.Test.YtconfkjchjcjgaaMath
import Derived.Outline
import Derived.BigQuiet
import Derived.Deep.QuietTactic
import Derived.Handy
namespace Go.Proofs.Ytconfkjchjcjgaa
open Go.RowKit
set_option linter.unusedVariables false

theorem info8 : (Try.prog.info? 5).map (fun i => (i.zero, i.size, i.bytes)) = some (some (.int .u8 0), 1, 1) := by kernel_rfl

end Go.Proofs.Ytconfkjchjcjgaa
