/-
  The state of a drum and its calls, as plain functions. No condition.
-/
import Derived.Test.YtjanddnlhaionaaGreatDoorRows
namespace Go.Proofs.YtjanddnlhaionaaGreatDoor.L6

/-- Durable sectors, pending writes, calls left of the fuse (-1: none), is the power off? -/
structure D where
  S : List ByteArray
  W : List (Nat × ByteArray)
  fuse : Int
  gone : Bool

def z64 : ByteArray := ⟨(List.replicate 64 (0 : UInt8)).toArray⟩
def newD (n : Nat) : D := ⟨List.replicate n z64, [], -1, false⟩
def hasB (d : D) (i : Int) : Bool := decide (0 ≤ i) && decide (i < d.S.length)
def burn (d : D) : D := if d.fuse = 0 then { d with gone := true } else if 0 < d.fuse then { d with fuse := d.fuse - 1 } else d
def pw (W : List (Nat × ByteArray)) (k : Nat) : Nat × ByteArray := W.getD k (0, ByteArray.empty)
/-- The sectors, when of the first k pending writes those that f keeps were stored. -/
def ap (f : Nat → Bool) (S : List ByteArray) (W : List (Nat × ByteArray)) : Nat → List ByteArray
  | 0 => S
  | k + 1 => if f k then (ap f S W k).set (pw W k).1 (pw W k).2 else ap f S W k
def allF (_ : Nat) : Bool := true
def keepF (keep : List Int) (k : Nat) : Bool := decide ((k : Int) ∈ keep)
def settleD (d : D) : D := if (burn d).gone then burn d else { burn d with S := ap allF d.S d.W d.W.length, W := [] }
def settleE (d : D) : Int := if (burn d).gone then 9 else 0
def crashD (d : D) (keep : List Int) : D := ⟨ap (keepF keep) d.S d.W d.W.length, [], -1, false⟩
def armD (d : D) (n : Int) : D := if n < 0 then d else if d.gone then d else { d with fuse := n }
def armE (d : D) (n : Int) : Int := if n < 0 then 2 else if d.gone then 9 else 0
def writeOk (d : D) (i : Int) (s : ByteArray) : Bool := hasB d i && decide (s.size = 64)
def writeD (d : D) (i : Int) (s : ByteArray) : D := if writeOk d i s then (if (burn d).gone then burn d else { burn d with W := d.W ++ [(i.toNat, s)] }) else d
def writeE (d : D) (i : Int) (s : ByteArray) : Int := if writeOk d i s then (if (burn d).gone then 9 else 0) else 2
/-- What sector i shows, of the first k pending writes. -/
def sh (d : D) (i : Nat) : Nat → ByteArray
  | 0 => d.S.getD i ByteArray.empty
  | k + 1 => if (pw d.W k).1 = i then (pw d.W k).2 else sh d i k
def readS (d : D) (i : Int) : ByteArray := if d.gone then ByteArray.empty else if hasB d i then sh d i.toNat d.W.length else ByteArray.empty
def readE (d : D) (i : Int) : Int := if d.gone then 9 else if hasB d i then 0 else 6
def sureS (d : D) (i : Int) : ByteArray := if hasB d i then d.S.getD i.toNat ByteArray.empty else ByteArray.empty

structure Ok (d : D) : Prop where
  n1 : 1 ≤ d.S.length
  n2 : d.S.length ≤ 4096
  s64 : ∀ s ∈ d.S, s.size = 64
  w64 : ∀ p ∈ d.W, p.1 < d.S.length ∧ p.2.size = 64
  f1 : -1 ≤ d.fuse
  f2 : d.fuse ≤ 9223372036854775807
  g : d.gone = true → d.fuse = 0

set_option maxRecDepth 100000 in
theorem z64_size : z64.size = 64 := rfl
set_option maxRecDepth 100000 in
theorem Ok.new (n : Nat) (h1 : 1 ≤ n) (h2 : n ≤ 4096) : Ok (newD n) := by
  refine ⟨by simpa [newD] using h1, by simpa [newD] using h2, fun s hs => ?_, fun p hp => (by simp [newD] at hp), by simp [newD], by simp [newD], by simp [newD]⟩
  have : s = z64 := List.eq_of_mem_replicate hs
  rw [this]; rfl

set_option maxRecDepth 100000 in
theorem ap_length (f : Nat → Bool) (S : List ByteArray) (W : List (Nat × ByteArray)) : ∀ k, (ap f S W k).length = S.length
  | 0 => rfl
  | k + 1 => by
    unfold ap
    split
    · rw [List.length_set]; exact ap_length f S W k
    · exact ap_length f S W k
set_option maxRecDepth 100000 in
theorem pw_mem {W : List (Nat × ByteArray)} {k : Nat} (h : k < W.length) : pw W k ∈ W := by
  unfold pw
  rw [List.getD_eq_getElem?_getD, List.getElem?_eq_getElem h]
  exact List.getElem_mem h
set_option maxRecDepth 100000 in
theorem pw_eq {W : List (Nat × ByteArray)} {k : Nat} (h : k < W.length) : pw W k = W[k] := by
  unfold pw
  rw [List.getD_eq_getElem?_getD, List.getElem?_eq_getElem h]
  rfl
set_option maxRecDepth 100000 in
theorem ap_64 (f : Nat → Bool) {S : List ByteArray} {W : List (Nat × ByteArray)} (hS : ∀ s ∈ S, s.size = 64) (hW : ∀ p ∈ W, p.1 < S.length ∧ p.2.size = 64) : ∀ k, k ≤ W.length → ∀ s ∈ ap f S W k, s.size = 64
  | 0, _ => hS
  | k + 1, h => by
    intro s hs
    unfold ap at hs
    split at hs
    · rcases List.mem_or_eq_of_mem_set hs with h' | h'
      · exact ap_64 f hS hW k (by omega) s h'
      · rw [h']; exact (hW _ (pw_mem (by omega))).2
    · exact ap_64 f hS hW k (by omega) s hs

set_option maxRecDepth 100000 in
theorem burn_S (d : D) : (burn d).S = d.S := by unfold burn; split; rfl; split <;> rfl
set_option maxRecDepth 100000 in
theorem burn_W (d : D) : (burn d).W = d.W := by unfold burn; split; rfl; split <;> rfl
set_option maxRecDepth 100000 in
theorem Ok.burn {d : D} (h : Ok d) : Ok (burn d) := by
  have hg := h.g
  have f1 := h.f1
  have f2 := h.f2
  refine ⟨by rw [burn_S]; exact h.n1, by rw [burn_S]; exact h.n2, by rw [burn_S]; exact h.s64, by rw [burn_S, burn_W]; exact h.w64, ?_, ?_, ?_⟩
  · unfold L6.burn; split; exact f1; split
    · show -1 ≤ d.fuse - 1; omega
    · exact f1
  · unfold L6.burn; split; exact f2; split
    · show d.fuse - 1 ≤ _; omega
    · exact f2
  · unfold L6.burn; split
    · intro _; assumption
    · split
      · intro hh; have := hg hh; omega
      · exact hg
set_option maxRecDepth 100000 in
theorem Ok.settle {d : D} (h : Ok d) : Ok (settleD d) := by
  have hb := h.burn
  unfold settleD
  split
  · exact hb
  · refine ⟨by simpa [ap_length] using h.n1, by simpa [ap_length] using h.n2, ap_64 _ h.s64 h.w64 _ (Nat.le_refl _), fun p hp => by simp at hp, hb.f1, hb.f2, hb.g⟩
set_option maxRecDepth 100000 in
theorem Ok.crash {d : D} (h : Ok d) (keep : List Int) : Ok (crashD d keep) :=
  ⟨by simpa [crashD, ap_length] using h.n1, by simpa [crashD, ap_length] using h.n2, ap_64 _ h.s64 h.w64 _ (Nat.le_refl _), fun p hp => by simp [crashD] at hp, by simp [crashD], by simp [crashD], by simp [crashD]⟩
set_option maxRecDepth 100000 in
theorem Ok.arm {d : D} (h : Ok d) (n : Int) (hn : n ≤ 9223372036854775807) : Ok (armD d n) := by
  unfold armD
  split
  · exact h
  · split
    · exact h
    · rename_i h1 h2
      exact ⟨h.n1, h.n2, h.s64, h.w64, by show -1 ≤ n; omega, hn, fun hg => absurd hg h2⟩
set_option maxRecDepth 100000 in
theorem hasB_iff {d : D} {i : Int} : hasB d i = true ↔ 0 ≤ i ∧ i < d.S.length := by unfold hasB; simp
set_option maxRecDepth 100000 in
theorem Ok.write {d : D} (h : Ok d) (i : Int) (s : ByteArray) : Ok (writeD d i s) := by
  have hb := h.burn
  unfold writeD
  split
  · rename_i hw
    split
    · exact hb
    · unfold writeOk at hw
      rw [Bool.and_eq_true, hasB_iff, decide_eq_true_eq] at hw
      refine ⟨by rw [burn_S]; exact h.n1, by rw [burn_S]; exact h.n2, by rw [burn_S]; exact h.s64, ?_, hb.f1, hb.f2, hb.g⟩
      intro p hp
      show p.1 < (L6.burn d).S.length ∧ _
      rw [burn_S]
      rcases List.mem_append.1 hp with hp | hp
      · exact h.w64 p hp
      · have : p = (i.toNat, s) := by simpa using hp
        subst this
        exact ⟨by show i.toNat < _; omega, hw.2⟩
  · exact h
set_option maxRecDepth 100000 in
theorem settle_len (d : D) : (settleD d).S.length = d.S.length := by
  unfold settleD; split
  · rw [burn_S]
  · simp [ap_length]
set_option maxRecDepth 100000 in
theorem crash_len (d : D) (keep : List Int) : (crashD d keep).S.length = d.S.length := by simp [crashD, ap_length]
set_option maxRecDepth 100000 in
theorem arm_len (d : D) (n : Int) : (armD d n).S.length = d.S.length := by unfold armD; split; rfl; split <;> rfl
set_option maxRecDepth 100000 in
theorem write_len (d : D) (i : Int) (s : ByteArray) : (writeD d i s).S.length = d.S.length := by
  unfold writeD; split
  · split <;> simp [burn_S]
  · rfl
set_option maxRecDepth 100000 in
theorem write_wlen (d : D) (i : Int) (s : ByteArray) : (writeD d i s).W.length ≤ d.W.length + 1 := by
  unfold writeD; split
  · split
    · rw [burn_W]; omega
    · simp
  · omega
set_option maxRecDepth 100000 in
theorem settle_wlen (d : D) : (settleD d).W.length ≤ d.W.length := by
  unfold settleD; split
  · rw [burn_W]; omega
  · simp
set_option maxRecDepth 100000 in
theorem arm_wlen (d : D) (n : Int) : (armD d n).W.length = d.W.length := by unfold armD; split; rfl; split <;> rfl
end Go.Proofs.YtjanddnlhaionaaGreatDoor.L6
