/- A list of right edges that ascend is right. -/
import Derived.Test.YtcppbgkocipnlaaGr6
namespace Go.Proofs.Ytcppbgkocipnlaa
open Go.RowKit

theorem chk_of {n : Int} {es : List EdgeV} (h1 : ∀ e ∈ es, eB n e = true) (h2 : Asc es) : chk n es = true := chk_yes fun j hj => by
  have he : es[j]? = some es[j] := List.getElem?_eq_getElem hj
  have hb := h1 _ (List.getElem_mem hj)
  cases j with
  | zero => rw [chkAt_zero he]; exact hb
  | succ i =>
    have hd : es[i]? = some (es[i]'(by omega)) := List.getElem?_eq_getElem (by omega)
    rw [chkAt_succ he hd, hb, h2 i (i + 1) _ _ (by omega) hd he]
    rfl

end Go.Proofs.Ytcppbgkocipnlaa
