import Derived.Test.YtapfhonapejpjaaD
import Derived.Laws.BytesArg
namespace Go.Proofs.Ytapfhonapejpjaa
open Go.RowKit

theorem strOf_bytes (l : List UInt8) : strOfNums (l.map fun c => (c.toNat : Int)) = ⟨l.toArray⟩ := by
  unfold strOfNums
  congr 1
  rw [List.map_map]
  have : ((fun n : Int => UInt8.ofNat n.toNat) ∘ fun c : UInt8 => (c.toNat : Int)) = id := by
    funext c; simp
  rw [this, List.map_id]

theorem conv_own (b n cap : Nat) (a : Option Addr) (l : List UInt8) (w : World) (h : w.ownsRow b 5 1 (.slice a n cap) n (bytesV l)) :
    (convert 46 9 (.slice a n cap)).run Try.prog w = .ok (.string ⟨l.toArray⟩) w := by
  have hl : l.length = n := by have := h.1; simpa [bytesV] using this
  rcases h.2 with ⟨e1, e2⟩ | ⟨g, cap', cur, e, _, hg, _, _, _, ht⟩
  · cases e1
    have : l = [] := List.length_eq_zero_iff.1 (by omega)
    subst this
    exact run_convert_bytes_nil w 46 5 Try.underlying46 Try.underlying5 0 0 9 Try.underlying9
  · cases e
    rw [← strOf_bytes]
    refine run_convert_bytes_arg w 46 5 Try.underlying46 Try.underlying5 g 0 n cap _ (by simpa using hl) (fun i hi => ?_) 9 Try.underlying9
    have hc := h.cells (g := g) rfl i (.int .u8 ((l.map fun c => (c.toNat : Int)).getD i 0)) (by simp [bytesV, List.getElem?_eq_getElem (show i < l.length by omega)])
    have hplain : (⟨g, 0, none⟩ : Addr).add i = ⟨g, i, none⟩ := by unfold Addr.add; split <;> simp_all
    rw [hplain] at hc
    rw [Nat.zero_add]
    exact hc

def completeR (r : R) : Bool := r.st == 2 || (r.st == 3 || r.st == 8)
def minI : Int := -9223372036854775808
def bigR (r : R) : Bool := r.ov || (r.pos && r.n == minI) || decide ((40 : Int) < (r.txt.length : Int))

set_option maxHeartbeats 400000 in
theorem complete38 (b : Nat) (r : R) (w : World) (hr : Rd b r w) :
    Calls Try.prog 38 #[.pointer (some ⟨b, 0, none⟩)] w fun e w' => e = .returned (.bool (completeR r)) ∧ w = w' := by
  obtain ⟨tv, -, h0, -, -, -, -, -⟩ := hr.cells
  cases c2 : (r.st == 2) with
  | true =>
    have hA : Hid (completeR r = true) := by simp [Hid, completeR, c2]
    go_enter Try.func38, Try.ntmps38
    go_wp2
    go_ret
    exact ⟨by rw [hA.out]; rfl, rfl⟩
  | false =>
    cases c3 : (r.st == 3) with
    | true =>
      have hA : Hid (completeR r = true) := by simp [Hid, completeR, c3]
      go_enter Try.func38, Try.ntmps38
      go_wp2
      go_ret
      exact ⟨by rw [hA.out]; rfl, rfl⟩
    | false =>
      have hA : Hid (completeR r = (r.st == 8)) := by simp [Hid, completeR, c2, c3]
      go_enter Try.func38, Try.ntmps38
      go_wp2
      go_ret
      exact ⟨by rw [hA.out]; rfl, rfl⟩

set_option maxHeartbeats 400000 in
theorem tooBig39 (b : Nat) (r : R) (w : World) (hr : Rd b r w) :
    Calls Try.prog 39 #[.pointer (some ⟨b, 0, none⟩)] w fun e w' => e = .returned (.bool (bigR r)) ∧ w = w' := by
  obtain ⟨tv, ho, -, h1, h2, h3, h4, -⟩ := hr.cells
  obtain ⟨ta, tc, rfl⟩ := ownsRow_slice ho
  have HO := Lib.hid ho; clear ho
  cases c2 : r.ov with
  | true =>
    have hA : Hid (bigR r = true) := by simp [Hid, bigR, c2]
    rw [c2] at h3
    clear c2
    go_enter Try.func39, Try.ntmps39
    go_wp2
    go_ret
    exact ⟨by rw [hA.out]; rfl, rfl⟩
  | false =>
    rw [c2] at h3
    cases c3 : r.pos with
    | false =>
      have hA : Hid (bigR r = decide ((40 : Int) < (r.txt.length : Int))) := by simp [Hid, bigR, c2, c3]
      rw [c3] at h1
      clear c2 c3
      go_enter Try.func39, Try.ntmps39
      go_wp2
      go_ret
      exact ⟨by rw [hA.out]; rfl, rfl⟩
    | true =>
      rw [c3] at h1
      by_cases hn : r.n = minI
      · have hA : Hid (bigR r = true) := by simp [Hid, bigR, c3, hn]
        rw [hn] at h2
        unfold minI at h2
        clear c2 c3 hn
        go_enter Try.func39, Try.ntmps39
        go_wp2
        go_ret
        exact ⟨by rw [hA.out]; rfl, rfl⟩
      · have hA : Hid (bigR r = decide ((40 : Int) < (r.txt.length : Int))) := by simp [Hid, bigR, c2, c3, hn]
        have hb : (r.n == -9223372036854775808) = false := by unfold minI at hn; simpa using hn
        clear c2 c3 hn
        go_enter Try.func39, Try.ntmps39
        go_wp2
        go_ret
        exact ⟨by rw [hA.out]; rfl, rfl⟩

def vKind (r : R) : Int := if r.st = 8 then 2 else 1
def vNum (r : R) : Int := if r.st = 8 then 0 else if r.pos then -r.n else r.n
def vText (r : R) : ByteArray := if r.st = 8 then ⟨r.txt.toArray⟩ else ⟨#[]⟩

set_option maxHeartbeats 400000 in
theorem value40 (b : Nat) (r : R) (w : World) (hr : Rd b r w) (hk : Ok r) (hn : bigR r = false) :
    Calls Try.prog 40 #[.pointer (some ⟨b, 0, none⟩)] w fun e w' => e = .returned (.agg #[.int .i64 (vKind r), .int .i64 (vNum r), .string (vText r)]) ∧ Below w.heap.size w w' := by
  obtain ⟨tv, ho, h0, h1, h2, h3, h4, -⟩ := hr.cells
  obtain ⟨ta, tc, rfl⟩ := ownsRow_slice ho
  have hbl : b < w.heap.size := by obtain ⟨_, hb, _⟩ := hr; exact (Array.getElem?_eq_some_iff.1 hb).1
  have hcv := fun o => conv_own (b + 1) r.txt.length tc ta r.txt (w.alloc o) (ho.alloc o)
  have HO := Lib.hid ho; clear ho
  obtain ⟨k1, k2, -, -⟩ := hk
  by_cases hs : r.st = 8
  · have hA : Hid (vKind r = 2 ∧ vNum r = 0 ∧ vText r = ⟨r.txt.toArray⟩) := by simp [Hid, vKind, vNum, vText, hs]
    rw [hs] at h0
    clear hs
    go_enter Try.func40, Try.ntmps40
    go_wp2
    rw [hA.out.1, hA.out.2.1, hA.out.2.2]
    exact bodyPost_ret (v := .agg #[.int .i64 2, .int .i64 0, .string ⟨r.txt.toArray⟩]) (by simp [results, Try.results40, go_sem]) rfl ⟨rfl, (Below.refl _ _).alloc (Nat.le_refl _) _⟩
  · have b8 : (r.st == 8) = false := by simpa using hs
    cases hp : r.pos with
    | true =>
      have hmin : -9223372036854775808 < r.n := by
        simp only [bigR, hp, Bool.or_eq_false_iff, Bool.true_and, beq_eq_false_iff_ne, minI] at hn
        omega
      have hA : Hid (vKind r = 1 ∧ vNum r = -r.n ∧ vText r = ⟨#[]⟩) := by simp [Hid, vKind, vNum, vText, hs, hp]
      rw [hp] at h1
      clear hs hn hp
      go_enter Try.func40, Try.ntmps40
      go_wp2
      rw [hA.out.1, hA.out.2.1, hA.out.2.2]
      exact bodyPost_ret (v := .agg #[.int .i64 1, .int .i64 (-r.n), .string ⟨#[]⟩]) (by simp [results, Try.results40, go_sem]) rfl ⟨rfl, (Below.refl _ _).alloc (Nat.le_refl _) _⟩
    | false =>
      have hA : Hid (vKind r = 1 ∧ vNum r = r.n ∧ vText r = ⟨#[]⟩) := by simp [Hid, vKind, vNum, vText, hs, hp]
      rw [hp] at h1
      clear hs hn hp
      go_enter Try.func40, Try.ntmps40
      go_wp2
      rw [hA.out.1, hA.out.2.1, hA.out.2.2]
      exact bodyPost_ret (v := .agg #[.int .i64 1, .int .i64 r.n, .string ⟨#[]⟩]) (by simp [results, Try.results40, go_sem]) rfl ⟨rfl, (Below.refl _ _).alloc (Nat.le_refl _) _⟩
end Go.Proofs.Ytapfhonapejpjaa
