/- Several texts in one: LawPBack. -/
import Derived.Test.YtlaaihnokoeliaaKMat21
import Derived.Test.YtlaaihnokoeliaaKMat20
import Derived.Test.YtlaaihnokoeliaaKMat14
import Derived.Test.YtlaaihnokoeliaaKMat19
import Derived.Test.YtlaaihnokoeliaaKMat3
import Derived.Test.YtlaaihnokoeliaaKMat10
import Derived.Test.YtlaaihnokoeliaaKMat15

/-! LawPBack: - laws.FnPlainBack answers true at every code. -/
namespace Go.Proofs.Ytlaaihnokoeliaa
open Go.RowKit Go.Deep
attribute [local go_sem ↓] Go.wp_at_zero Go.wp_at_succ

end Go.Proofs.Ytlaaihnokoeliaa
