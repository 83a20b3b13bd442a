
/- For every input, laws.FnExactTermPlain returns true, and each argument reads afterwards as it read before. No condition. -/
import Derived.Test.YtlaaihnokoeliaaLFnExactTermPlain1
import Derived.Test.YtlaaihnokoeliaaKMat20
import Derived.Test.YtlaaihnokoeliaaKMat21
namespace Go.Proofs.Ytlaaihnokoeliaa
open Go.ChangeShapes Go.WideShapes Go.ChangeAt Go.RowKit

theorem fnExactTermPlain_holds : Rows.FnExactTermPlainSaid := fnExactTermPlain_over
#print axioms fnExactTermPlain_holds
end Go.Proofs.Ytlaaihnokoeliaa
