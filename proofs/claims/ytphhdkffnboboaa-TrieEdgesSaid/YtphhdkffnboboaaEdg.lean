/-
  The law TrieEdges with what the row gives.
-/
import Derived.Test.YtphhdkffnboboaaTg5
import Derived.Test.YtphhdkffnboboaaOpn
namespace Go.Proofs.Ytphhdkffnboboaa
open Go.RowKit Go.Shelf
open Go.Lib
theorem tedges_walk (o : Int) (_o0 : -9223372036854775808 ≤ o) (_o1 : o ≤ 9223372036854775807) (A : Option Addr) (cap : Nat) (es : List En) (w : World) (h : ES w w.heap.size A cap es) :
    Calls Try.prog 4 #[.int .i64 o, .slice A es.length cap] w fun e w' => e = .returned (.bool true) ∧ Below w.heap.size w w' :=
  tedges_any o A cap es w h
end Go.Proofs.Ytphhdkffnboboaa
