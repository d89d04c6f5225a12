import Derived.Test.YtecefhoinggmgaaF
namespace Go.Proofs.Ytecefhoinggmgaa
open Go.RowKit

theorem hmf : ∀ (fn : Fn) (first cap : Array Value) (w : World), (Instr.makeFunc fn first cap).run Try.prog w = .ok (.func fn first cap) w := fun _ _ _ _ => rfl

theorem assert57 (n : Int) (w : World) : (Instr.typeAssert (.iface 82 (.int .i64 n)) 20 82 true).run Try.prog w = .ok (.tuple #[.int .i64 n, .bool true]) w := by kernel_rfl

def R0 : R := ⟨0, false, 0, false, [], 0⟩
/-- What Parse answers. -/
structure PRes where
  k : Int
  n : Int
  s : ByteArray
  at' : Int
  e : Int
def parseEnd (len : Nat) : Nat ⊕ R → PRes
  | .inl p => ⟨0, 0, ⟨#[]⟩, p, 4⟩
  | .inr r => if completeR r = false then ⟨0, 0, ⟨#[]⟩, len, 3⟩ else if bigR r = true then ⟨0, 0, ⟨#[]⟩, 0, 5⟩ else ⟨vKind r, vNum r, vText r, len, 0⟩
def parseR (l : List UInt8) : PRes := parseEnd l.length (runL readR l.length 0 l R0)
def pVal (p : PRes) : Value := .tuple #[.agg #[.int .i64 p.k, .int .i64 p.n, .string p.s], .int .i64 p.at', .int .i64 p.e]

theorem Ok0 : Ok R0 := by unfold Ok R0; simp

/-- The cells of the named results, behind whatever left them alone. -/
structure Res3 (w w1 : World) : Prop where
  p0 : w1.cell? ⟨w.heap.size, 0, none⟩ = some (.int .i64 0)
  p1 : w1.cell? ⟨w.heap.size, 1, none⟩ = some (.int .i64 0)
  p2 : w1.cell? ⟨w.heap.size, 2, none⟩ = some (.string ⟨#[]⟩)
  q : w1.cell? ⟨w.heap.size + 1, 0, none⟩ = some (.int .i64 0)
  u : w1.cell? ⟨w.heap.size + 1 + 1, 0, none⟩ = some (.int .i64 0)
  fp0 : w1.frozen? ⟨w.heap.size, 0, none⟩ = false
  fp1 : w1.frozen? ⟨w.heap.size, 1, none⟩ = false
  fp2 : w1.frozen? ⟨w.heap.size, 2, none⟩ = false
  fq : w1.frozen? ⟨w.heap.size + 1, 0, none⟩ = false
  fu : w1.frozen? ⟨w.heap.size + 1 + 1, 0, none⟩ = false

end Go.Proofs.Ytecefhoinggmgaa
