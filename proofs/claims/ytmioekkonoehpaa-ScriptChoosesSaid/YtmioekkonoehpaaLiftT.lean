/- The package-level variables that are only read, with what they hold, as typed data. -/
import Derived.Test.YtmioekkonoehpaaLiftA
namespace Go.Lift
def glTab : List (Nat × TV) := []
end Go.Lift
