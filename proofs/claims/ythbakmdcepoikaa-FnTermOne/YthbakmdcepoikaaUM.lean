/- A method called on an interface value. -/
import Derived.Test.YthbakmdcepoikaaBase
namespace Go.Proofs.Ythbakmdcepoikaa
open Go.RowKit Go.Deep

/-- A method called on an interface value whose method is known. -/
theorem upon_method {P : Program} {o : Oper} {a : Act} {K : Act → World → Prop} {Q : Exit → Act → World → Prop} {n : Nat} {t : TypeId} {v : Value} {nm : String} {w : World} (f : FuncId) (h : (method n t v nm).run P w = .ok (f, v) w)
    (h1 : (callFunc f #[v]).run P w = .ok (.enter f #[v]) w) (h2 : o.upon P a K Q (.ok (.enter f #[v]) w)) : o.upon P a K Q (((method n t v nm).run P w).andThen fun x w' => (callFunc x.1 #[x.2]).run P w') := by
  rw [h]
  show o.upon P a K Q ((callFunc f #[v]).run P w)
  rw [h1]
  exact h2
end Go.Proofs.Ythbakmdcepoikaa
