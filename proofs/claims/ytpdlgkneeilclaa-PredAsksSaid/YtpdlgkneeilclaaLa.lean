/- The walk of the statement PredAsks, whole. -/
import Derived.Test.YtpdlgkneeilclaaLab
import Derived.Test.YtpdlgkneeilclaaLan
import Derived.Test.YtpdlgkneeilclaaLaz
import Derived.Test.YtpdlgkneeilclaaLap
set_option linter.unusedSimpArgs false
set_option linter.unusedVariables false
namespace Go.Proofs.Ytpdlgkneeilclaa.Gm
open Go Go.RowKit

theorem law_pasks (v x y : Vl) (w : World) : Calls Try.prog 7 #[vv v, vv x, vv y] w (Gives (.bool true) w) := by
  by_cases hk : v.k = x.k
  · rcases cv_three v x with h | h | h
    · exact pasks_n v x y w hk h
    · exact pasks_z v x y w hk h
    · exact pasks_p v x y w hk h
  · exact pasks_apart v x y w hk
end Go.Proofs.Ytpdlgkneeilclaa.Gm
