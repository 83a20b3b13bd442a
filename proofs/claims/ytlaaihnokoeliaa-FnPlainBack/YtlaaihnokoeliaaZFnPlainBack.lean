
/- For every input, laws.FnPlainBack returns true, and each argument reads afterwards as it read before. No condition. -/
import Derived.Test.YtlaaihnokoeliaaLFnPlainBack1
import Derived.Test.YtlaaihnokoeliaaKMat20
namespace Go.Proofs.Ytlaaihnokoeliaa
open Go.ChangeShapes Go.WideShapes Go.ChangeAt Go.RowKit

theorem fnPlainBack_holds : Rows.FnPlainBackSaid := fnPlainBack_over
#print axioms fnPlainBack_holds
end Go.Proofs.Ytlaaihnokoeliaa
