import Derived.Test.YtecefhoinggmgaaB
namespace Go.Proofs.Ytecefhoinggmgaa
open Go.RowKit

theorem Ok.st {r : R} (h : Ok r) (x : Int) : Ok { r with st := x } := h
theorem Ok.pos {r : R} (h : Ok r) (x : Bool) : Ok { r with pos := x } := h

end Go.Proofs.Ytecefhoinggmgaa
