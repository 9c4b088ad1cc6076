/- resolve: the contracts paid. -/
import Derived.Test.YtcjopphefmogiaaRsI
import Derived.Test.YtcjopphefmogiaaRsZC
import Derived.Test.YtcjopphefmogiaaRsZD
import Derived.Test.YtcjopphefmogiaaRsZE
import Derived.Test.YtcjopphefmogiaaRsZF
namespace Go.Proofs.Ytcjopphefmogiaa
open Go.RowKit
set_option maxRecDepth 20000

theorem cchk : RChk := fun r s w hs => rvchk_any r s w hs
theorem capp : RApp := fun r u s L w hs hu => rvapply_any r u s L w hs hu
theorem cids : RIds := fun r s w hs => rvids_any r s w hs
theorem cdif : RDif := fun r u s t w hs hu => rvdiff_any r u s t w hs hu
theorem cpik : RPik := fun r u s ids w hs hi hl hw => rvpick_any r u s ids w hs hi hl hw
theorem csum : RSum := fun r s w hs => rvsum_any r s w hs
theorem calive : RAlive := alive_of capp
end Go.Proofs.Ytcjopphefmogiaa
