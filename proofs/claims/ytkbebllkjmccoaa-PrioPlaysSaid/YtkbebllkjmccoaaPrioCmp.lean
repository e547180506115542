/- What PrioPlays compares behind each step lies apart. Conditions: as each says. -/
import Derived.Test.YtkbebllkjmccoaaSideRef5
import Derived.Test.YtkbebllkjmccoaaRegionAt
import Derived.Test.YtkbebllkjmccoaaTakes
namespace Go.Proofs.Ytkbebllkjmccoaa
open Go.RowKit Go.WideShapes

abbrev BaseHP (T : PrioApi) (q : Addr) (b bf bp : Nat) (up : Bool) (L : Ords) (As : Option Addr) (n cs : Nat) (f p : OrdV) : HP :=
  star (T.IsQ (.pointer (some q)) up L) (star (Blk bf f.arr 28) (star (Blk bp p.arr 28) (SideHP b #[.bool up, .slice As n cs] 44 (.slice As n cs) L nothing)))
end Go.Proofs.Ytkbebllkjmccoaa
