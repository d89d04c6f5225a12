/-
  The document's example, reckoned by the kernel: nothing here speaks of the program.
-/
import Derived.Test.YtpabggcjmaobhaaDoorG
import Derived.Test.YtpabggcjmaobhaaDoorI
namespace Go.Proofs.YtpabggcjmaobhaaDoor
open Go

def keysL : List Int := [1116352408, 1899447441, 3049323471, 3921009573, 961987163, 1508970993, 2453635748, 2870763221, 3624381080, 310598401, 607225278, 1426881987, 1925078388, 2162078206, 2614888103, 3248222580, 3835390401, 4022224774, 264347078, 604807628, 770255983, 1249150122, 1555081692, 1996064986, 2554220882, 2821834349, 2952996808, 3210313671, 3336571891, 3584528711, 113926993, 338241895, 666307205, 773529912, 1294757372, 1396182291, 1695183700, 1986661051, 2177026350, 2456956037, 2730485921, 2820302411, 3259730800, 3345764771, 3516065817, 3600352804, 4094571909, 275423344, 430227734, 506948616, 659060556, 883997877, 958139571, 1322822218, 1537002063, 1747873779, 1955562222, 2024104815, 2227730452, 2361852424, 2428436474, 2756734187, 3204031479, 3329325298]
def initS : St := ⟨1779033703, 3144134277, 1013904242, 2773480762, 1359893119, 2600822924, 528734635, 1541459225⟩

theorem foldB_one (K : List Int) (s : St) (l : List UInt8) (h : l.length = 64) : foldB K s l = afterM K s l := by
  rw [foldB_big K s l (by omega), List.take_of_length_le (by omega), List.drop_of_length_le (by omega), foldB_small _ _ [] (by simp)]

def blockABC : List UInt8 := [97, 98, 99, 128] ++ List.replicate 59 0 ++ [24]
theorem blockABC_eq : ([97, 98, 99] : List UInt8) ++ padL 3 = blockABC := by decide +kernel
set_option maxRecDepth 100000 in
theorem hexABC : hexL ((afterM keysL initS blockABC).list.flatMap by4) = [98, 97, 55, 56, 49, 54, 98, 102, 56, 102, 48, 49, 99, 102, 101, 97, 52, 49, 52, 49, 52, 48, 100, 101, 53, 100, 97, 101, 50, 50, 50, 51, 98, 48, 48, 51, 54, 49, 97, 51, 57, 54, 49, 55, 55, 97, 57, 99, 98, 52, 49, 48, 102, 102, 54, 49, 102, 50, 48, 48, 49, 53, 97, 100] := by decide +kernel
theorem livesABC : hexL (digestM keysL initS [97, 98, 99]) = [98, 97, 55, 56, 49, 54, 98, 102, 56, 102, 48, 49, 99, 102, 101, 97, 52, 49, 52, 49, 52, 48, 100, 101, 53, 100, 97, 101, 50, 50, 50, 51, 98, 48, 48, 51, 54, 49, 97, 51, 57, 54, 49, 55, 55, 97, 57, 99, 98, 52, 49, 48, 102, 102, 54, 49, 102, 50, 48, 48, 49, 53, 97, 100] := by
  have h : digestM keysL initS [97, 98, 99] = (afterM keysL initS blockABC).list.flatMap by4 := by
    unfold digestM
    rw [show ([97, 98, 99] : List UInt8).length = 3 from rfl, blockABC_eq, foldB_one _ _ _ (by decide +kernel)]
  rw [h, hexABC]
end Go.Proofs.YtpabggcjmaobhaaDoor
