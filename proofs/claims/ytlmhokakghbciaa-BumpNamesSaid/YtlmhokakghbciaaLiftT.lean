/- The package-level variables that are only read, with what they hold, as typed data. -/
import Derived.Test.YtlmhokakghbciaaLiftA
namespace Go.Lift
def glTab : List (Nat × TV) := []
/-- variables that hold some number -/
def glInts : List Nat := []
end Go.Lift
