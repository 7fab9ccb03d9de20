/- CodeBack: the walk, all cases. -/
import Derived.Test.YtefklmckkigllaaBkNo
import Derived.Test.YtefklmckkigllaaBkYn
import Derived.Test.YtefklmckkigllaaBkYy
namespace Go.Proofs.Ytefklmckkigllaa
open Go.RowKit

theorem back_any (B : Nat) (x y : CT) (ab : Option Addr) (cb : Nat) (bs : List UInt8) (w : World) (hx : x.In B w) (hy : y.In B w) (hBw : B ≤ w.heap.size) (hrow : Row w ab bs) (hcb : bs.length ≤ cb) (hlb : bs.length ≤ 1099511627776) :
    Calls Try.prog 5 #[.agg x.cells.toArray, .agg y.cells.toArray, .slice ab bs.length cb] w fun e w' => e = .returned (.bool true) ∧ Below w.heap.size w w' := by
  by_cases h1 : checkC x.cd = 0
  · by_cases h2 : checkC y.cd = 0
    · exact back_yy B x y ab cb bs w hx hy hBw hrow hcb hlb h1 h2
    · exact back_yn B x y ab cb bs w hx hy hBw hrow hcb hlb h1 h2
  · exact back_no B x y ab cb bs w hx hy hBw hrow hcb hlb h1
end Go.Proofs.Ytefklmckkigllaa
