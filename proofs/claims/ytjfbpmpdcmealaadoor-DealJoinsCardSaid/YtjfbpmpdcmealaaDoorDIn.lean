/-
  What a plan and a complaint that came in hold.
-/
import Derived.Test.YtjfbpmpdcmealaaDoorDArgs
import Derived.SizedLaws
import Derived.WideShapes
import Derived.Deep.Strs
namespace Go.Proofs.YtjfbpmpdcmealaaDoor.D7
open Go.ChangeShapes Go.WideShapes Go.ChangeAt Go.RowKit GM SH G4 E6 D7P
theorem sized_third {H : Type} {P : Program} {ts : List TypeId} {ds : List (DataW H)} (h : (DataW.weightsEach P ts ds).all (· ≤ reachBytes) = true) {j : Nat} {t : TypeId} {f0 f1 f2 : Field} {x y : DataW H} {bytes : List UInt8} (ht : ts[j]? = some t)
    (hd : ds[j]? = some (.agg [x, y, .lit (.string bytes)])) (hu : P.underlying t = some (.struct #[f0, f1, f2])) : bytes.length ≤ reachBytes := by
  refine of_decide_eq_true (List.all_eq_true.1 h _ (DataW.weights_mem_each ht hd bytes.length ?_))
  simp [DataW.weights, hu, DataW.weightsEach]
end Go.Proofs.YtjfbpmpdcmealaaDoor.D7
