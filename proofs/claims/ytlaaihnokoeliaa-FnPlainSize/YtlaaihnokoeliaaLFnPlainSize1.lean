/- Several texts in one: P5a, P5, LawPSize. -/
import Derived.Test.YtlaaihnokoeliaaKMat8
import Derived.Test.YtlaaihnokoeliaaKMat6
import Derived.Test.YtlaaihnokoeliaaKMat21
import Derived.Test.YtlaaihnokoeliaaKMat20
import Derived.Test.YtlaaihnokoeliaaKMat14
import Derived.Test.YtlaaihnokoeliaaKMat19
import Derived.Test.YtlaaihnokoeliaaKMat3

/-! P5a: - laInts: what is the same comes out the same. -/
namespace Go.Proofs.Ytlaaihnokoeliaa
open Go.RowKit Go.Deep

end Go.Proofs.Ytlaaihnokoeliaa

/-! P5: - laRows: what is the same comes out the same. -/
namespace Go.Proofs.Ytlaaihnokoeliaa
open Go.RowKit Go.Deep

end Go.Proofs.Ytlaaihnokoeliaa

/-! LawPSize: - laws.FnPlainSize answers true at every code. -/
namespace Go.Proofs.Ytlaaihnokoeliaa
open Go.RowKit Go.Deep
attribute [local go_sem ↓] Go.wp_at_zero Go.wp_at_succ

end Go.Proofs.Ytlaaihnokoeliaa
