/-
  The document's two functions of three integers are the program's. Nothing here speaks of the program.
-/
import Derived.Test.YtpabggcjmaobhaaDoorP
namespace Go.Proofs.YtpabggcjmaobhaaDoor
open Go

theorem wrap_toNat (x : BitVec 32) : IntKind.u32.wrap (x.toNat : Int) = (x.toNat : Int) := by
  have := x.isLt
  rw [IntKind.wrap_u32']; omega
theorem ofInt_toNat (x : BitVec 32) : BitVec.ofInt 32 (x.toNat : Int) = x := by
  rw [BitVec.ofInt_natCast, BitVec.ofNat_toNat]; simp
theorem b_xor (a b : Int) : bits .xor .u32 a b = ((BitVec.ofInt 32 a ^^^ BitVec.ofInt 32 b).toNat : Int) := wrap_toNat _
theorem b_and (a b : Int) : bits .and .u32 a b = ((BitVec.ofInt 32 a &&& BitVec.ofInt 32 b).toNat : Int) := wrap_toNat _
theorem b_or (a b : Int) : bits .or .u32 a b = ((BitVec.ofInt 32 a ||| BitVec.ofInt 32 b).toNat : Int) := wrap_toNat _
theorem ones1 : BitVec.ofInt 32 4294967295 = BitVec.allOnes 32 := by decide
theorem ones2 : BitVec.ofInt 32 IntKind.u32.max = BitVec.allOnes 32 := by decide

theorem ch_eq (e f g : Int) : bits .xor .u32 (bits .and .u32 e f) (bits .and .u32 (bits .xor .u32 e 4294967295) g) = chM e f g := by
  unfold chM
  simp only [b_xor, b_and, b_or, ofInt_toNat, ones1, ones2]
  congr 2
  generalize BitVec.ofInt 32 e = E
  generalize BitVec.ofInt 32 f = F
  generalize BitVec.ofInt 32 g = G
  apply BitVec.eq_of_getLsbD_eq
  intro i hi
  simp only [BitVec.getLsbD_xor, BitVec.getLsbD_and, BitVec.getLsbD_or, BitVec.getLsbD_allOnes, hi, decide_true]
  cases E.getLsbD i <;> cases F.getLsbD i <;> cases G.getLsbD i <;> rfl
theorem maj_eq (a b c : Int) : bits .xor .u32 (bits .xor .u32 (bits .and .u32 a b) (bits .and .u32 a c)) (bits .and .u32 b c) = majM a b c := by
  unfold majM
  simp only [b_xor, b_and, b_or, ofInt_toNat]
  congr 2
  generalize BitVec.ofInt 32 a = E
  generalize BitVec.ofInt 32 b = F
  generalize BitVec.ofInt 32 c = G
  apply BitVec.eq_of_getLsbD_eq
  intro i hi
  simp only [BitVec.getLsbD_xor, BitVec.getLsbD_and, BitVec.getLsbD_or]
  cases E.getLsbD i <;> cases F.getLsbD i <;> cases G.getLsbD i <;> rfl
def chR (e f g : Int) : Int := bits .xor .u32 (bits .and .u32 e f) (bits .and .u32 (bits .xor .u32 e 4294967295) g)
def majR (a b c : Int) : Int := bits .xor .u32 (bits .xor .u32 (bits .and .u32 a b) (bits .and .u32 a c)) (bits .and .u32 b c)
def t1R (s : St) (y x : Int) : Int := (s.h + sig1 s.e + chR s.e s.f s.g + y + x) % 4294967296
def t2R (s : St) : Int := (sig0 s.a + majR s.a s.b s.c) % 4294967296
def stepR (s : St) (y x : Int) : St := ⟨(t1R s y x + t2R s) % 4294967296, s.a, s.b, s.c, (s.d + t1R s y x) % 4294967296, s.e, s.f, s.g⟩
theorem t1alt (s : St) (y x : Int) : ((s.h + sig1 s.e + chR s.e s.f s.g + y) % 4294967296 + x) % 4294967296 = t1R s y x := by
  unfold t1R; omega
theorem stepR_eq (s : St) (y x : Int) : stepR s y x = stepM s y x := by
  have h1 : t1R s y x = t1M s y x := by unfold t1R t1M chR; rw [ch_eq]
  have h2 : t2R s = t2M s := by unfold t2R t2M majR; rw [maj_eq]
  unfold stepR stepM
  rw [h1, h2]
end Go.Proofs.YtpabggcjmaobhaaDoor
