import Derived.Test.YtecefhoinggmgaaD
import Derived.Laws.BytesArg
namespace Go.Proofs.Ytecefhoinggmgaa
open Go.RowKit

theorem strOf_bytes (l : List UInt8) : strOfNums (l.map fun c => (c.toNat : Int)) = ⟨l.toArray⟩ := by
  unfold strOfNums
  congr 1
  rw [List.map_map]
  have : ((fun n : Int => UInt8.ofNat n.toNat) ∘ fun c : UInt8 => (c.toNat : Int)) = id := by
    funext c; simp
  rw [this, List.map_id]

def completeR (r : R) : Bool := r.st == 2 || (r.st == 3 || r.st == 8)
def minI : Int := -9223372036854775808
def bigR (r : R) : Bool := r.ov || (r.pos && r.n == minI) || decide ((40 : Int) < (r.txt.length : Int))

def vKind (r : R) : Int := if r.st = 8 then 2 else 1
def vNum (r : R) : Int := if r.st = 8 then 0 else if r.pos then -r.n else r.n
def vText (r : R) : ByteArray := if r.st = 8 then ⟨r.txt.toArray⟩ else ⟨#[]⟩

end Go.Proofs.Ytecefhoinggmgaa
