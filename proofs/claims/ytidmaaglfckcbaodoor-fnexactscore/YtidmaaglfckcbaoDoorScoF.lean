/- THE LIBRARY's slices.SortFunc at rows of scores at this cut: its closure by name, in plain words (after the guide's plain mode); its contract over an owned row. (Written by sortgen.py.) -/
import Derived.Shelf.SlSortCmp.NoneTotal
import Derived.Test.YtidmaaglfckcbaoDoorScoB
namespace Go.Proofs.YtidmaaglfckcbaoDoor
open Go.Shelf Go.RowKit
set_option linter.unusedVariables false
end Go.Proofs.YtidmaaglfckcbaoDoor
