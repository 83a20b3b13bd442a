
/- For every input, laws.FnExactMatchOf returns true, and each argument reads afterwards as it read before. No condition. -/
import Derived.Test.YtlaaihnokoeliaaLFnExactMatchOf1
import Derived.Test.YtlaaihnokoeliaaKMat20
import Derived.Test.YtlaaihnokoeliaaKMat21
namespace Go.Proofs.Ytlaaihnokoeliaa
open Go.ChangeShapes Go.WideShapes Go.ChangeAt Go.RowKit

theorem fnExactMatchOf_holds : Rows.FnExactMatchOfSaid := fnExactMatchOf_over
#print axioms fnExactMatchOf_holds
end Go.Proofs.Ytlaaihnokoeliaa
