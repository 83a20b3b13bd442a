/- Small lemmas of the exact laws. -/
import Derived.Test.YthbakmdcepoikaaXC
import Derived.Test.YthbakmdcepoikaaWD
import Derived.Test.YthbakmdcepoikaaMix
namespace Go.Proofs.Ythbakmdcepoikaa
open Go.RowKit Go.Deep

theorem szR_fit {k : Fo} (h : 0 ≤ szR k 1048576) : fsz k ≤ 1048576 := by
  unfold szR at h
  split at h
  · omega
  · omega
theorem cell_lowX {W w2 : World} {q : Addr} {x : Value} (hb : Below W.heap.size W w2) (h : W.cell? q = some x) : w2.cell? q = some x := by
  rw [hb.cell (World.block_lt_of_cell? _ _ h)]; exact h
end Go.Proofs.Ythbakmdcepoikaa
