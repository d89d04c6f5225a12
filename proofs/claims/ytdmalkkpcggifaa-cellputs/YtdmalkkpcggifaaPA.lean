/-
  The contracts of the document's bytes and head. No condition but bounds on lengths.
-/
import Derived.Test.YtdmalkkpcggifaaT
import Derived.Deep.RegionLaw
namespace Go.Proofs.Ytdmalkkpcggifaa
open Go.RowKit

theorem conv_one (z : Int) (dg : UInt8) (hz : (dg.toNat : Int) = z) (W : World) (b : Nat) (h : W.cell? ⟨b, 0, none⟩ = some (.int .u8 z)) : (convert 53 9 (.slice (some ⟨b, 0, none⟩) 1 1)).run Try.prog W = .ok (.string ⟨#[dg]⟩) W := by
  have := run_convert_bytes_arg W 53 5 Try.underlying53 Try.underlying5 b 0 1 1 [z] rfl (fun i hi => by
    have : i = 0 := by simp at hi; omega
    subst this
    exact h) 9 Try.underlying9
  rw [show strOfNums [z] = ⟨#[dg]⟩ by subst hz; exact strOf_bytes [dg]] at this
  exact this
theorem conv_new (z : Int) (dg : UInt8) (hz : (dg.toNat : Int) = z) (W : World) : (convert 53 9 (.slice (some ⟨W.heap.size, 0, none⟩) 1 1)).run Try.prog (W.alloc (.cells #[.int .u8 z] 5)) = .ok (.string ⟨#[dg]⟩) (W.alloc (.cells #[.int .u8 z] 5)) :=
  conv_one z dg hz _ _ (World.cell?_alloc_at _ 5 _ _ rfl)
theorem conv_drew (z : Int) (dg : UInt8) (hz : (dg.toNat : Int) = z) (W : World) : (convert 53 9 (.slice (some ⟨W.heap.size, 0, none⟩) 1 1)).run Try.prog ((W.alloc (.cells #[.int .u8 z] 5)).drew) = .ok (.string ⟨#[dg]⟩) ((W.alloc (.cells #[.int .u8 z] 5)).drew) :=
  conv_one z dg hz _ _ (by show (W.alloc (.cells #[.int .u8 z] 5)).cell? _ = _; exact World.cell?_alloc_at _ 5 _ _ rfl)
theorem conv_later (z : Int) (dg : UInt8) (hz : (dg.toNat : Int) = z) {W w' : World} {B : Nat} (hb : Below B (W.alloc (.cells #[.int .u8 z] 5)).drew w') (hB : W.heap.size < B) : (convert 53 9 (.slice (some ⟨W.heap.size, 0, none⟩) 1 1)).run Try.prog w' = .ok (.string ⟨#[dg]⟩) w' :=
  conv_one z dg hz _ _ (by rw [hb.cell (p := ⟨W.heap.size, 0, none⟩) hB]; show (W.alloc (.cells #[.int .u8 z] 5)).cell? _ = _; exact World.cell?_alloc_at _ 5 _ _ rfl)
theorem str_append (a b : List UInt8) : (⟨a.toArray⟩ : ByteArray) ++ ⟨b.toArray⟩ = ⟨(a ++ b).toArray⟩ := by
  apply bytes_ext
  rw [ByteArray.toList_eq, ByteArray.toList_eq]
  simp

set_option maxRecDepth 100000 in
set_option maxHeartbeats 1600000 in
theorem refBytes45 (f : Nat) : ∀ (b : Nat) (w : World), b < 256 ^ f → b < 9223372036854775808 → f ≤ 8 →
    Calls Try.prog 45 #[.int .i64 b] w fun e w' => e = .returned (.string ⟨(bytesF f b).toArray⟩) ∧ Below w.heap.size w w' := by
  induction f with
  | zero =>
    intro b w hb hb2 hf8
    have h0 : b = 0 := by simpa using hb
    subst h0
    go_enter Try.func45, Try.ntmps45
    go_wp2_with fail
    go_ret
    exact ⟨rfl, Below.refl _ _⟩
  | succ f ih =>
    intro b w hb hb2 hf8
    by_cases h0 : b = 0
    · subst h0
      rw [bytesF_zero]
      go_enter Try.func45, Try.ntmps45
      go_wp2_with fail
      go_ret
      exact ⟨rfl, Below.refl _ _⟩
    · have h0' : ((b : Int) == 0) = false := beq_eq_false_iff_ne.2 (by omega)
      rw [bytesF_succ, if_neg h0]
      have hC := fun w => ih (b / 256) w (by rw [Nat.pow_succ] at hb; exact Nat.div_lt_of_lt_mul (by omega)) (by omega) (by omega)
      have hfl := bytesF_length f (b / 256)
      generalize bytesF f (b / 256) = dl at hC hfl ⊢
      obtain ⟨dg, hdg⟩ : ∃ dg, UInt8.ofNat (b % 256) = dg := ⟨_, rfl⟩
      have hdn : (dg.toNat : Int) = ((b % 256 : Nat) : Int) := by rw [← hdg, UInt8.toNat_ofNat']; omega
      rw [hdg]
      have hdv : (b : Int).tdiv 256 = ((b / 256 : Nat) : Int) := by rw [Int.tdiv_eq_ediv_of_nonneg (by omega)]; omega
      have hmd : (b : Int).tmod 256 = ((b % 256 : Nat) : Int) := by rw [Int.tmod_eq_emod_of_nonneg (by omega)]; omega
      have hm8 : b % 256 < 256 := by omega
      have hd8 : b / 256 < 9223372036854775808 := by omega
      generalize b % 256 = bm at hdn hmd hm8
      generalize b / 256 = bq at hC hdv hd8
      have hcv1 := conv_new (bm : Int) dg hdn
      have hcv2 := conv_drew (bm : Int) dg hdn
      have HDN := Lib.hid hdn
      have hw1 : IntKind.i64.wrap (bq : Int) = (bq : Int) := IntWalk.i64_in _ (by omega)
      have hw2 : IntKind.u8.wrap (bm : Int) = (bm : Int) := by rw [IntKind.wrap_u8']; omega
      obtain ⟨sd, hsd⟩ : ∃ sd, (⟨dl.toArray⟩ : ByteArray) = sd := ⟨_, rfl⟩
      have hsz : ¬ 9223372036854775807 < sd.size + 1 := by rw [← hsd]; show ¬ _ < dl.length + 1; omega
      rw [← str_append, hsd]
      rw [hsd] at hC
      have HC := Lib.hid hC
      clear hC hdg hb h0 hdn hsd ih
      go_enter Try.func45, Try.ntmps45
      go_wp2_with fail
      go_region_law (first | (go_simp; go_at_call 45; (with_reducible refine (HC.out _).mono ?_); rintro e w' ⟨rfl, hbb⟩; first | (have hcv3 := conv_later _ dg HDN.out hbb (by simp)) | skip))
      all_goals
        go_wp2_with fail
        go_ret
      · exact ⟨rfl, (Below.trans (Below.refl _ w).drew hbb).alloc hbb.size _⟩
      · exact ⟨rfl, (((Below.refl _ w).alloc (Nat.le_refl _) _).drew).trans (hbb.mono (by simp))⟩
      · exact ⟨rfl, (((Below.refl _ w).alloc (Nat.le_refl _) _).drew).trans (hbb.mono (by simp))⟩

def headL (kind b : Nat) : List UInt8 := UInt8.ofNat (kind + (bytesF 8 b).length) :: bytesF 8 b

set_option maxRecDepth 100000 in
set_option maxHeartbeats 800000 in
theorem refHead37 (kind b : Nat) (w : World) (hk : kind ≤ 64) (hb : b < 9223372036854775808) :
    Calls Try.prog 37 #[.int .i64 kind, .int .i64 b] w fun e w' => e = .returned (.string ⟨(headL kind b).toArray⟩) ∧ Below w.heap.size w w' := by
  have hC := fun w => refBytes45 8 b w (by omega) hb (by omega)
  have hfl := bytesF_length 8 b
  unfold headL
  generalize bytesF 8 b = dl at hC hfl ⊢
  obtain ⟨dg, hdg⟩ : ∃ dg, UInt8.ofNat (kind + dl.length) = dg := ⟨_, rfl⟩
  have hdn : (dg.toNat : Int) = (kind : Int) + (dl.length : Int) := by rw [← hdg, UInt8.toNat_ofNat']; omega
  rw [hdg]
  have hcv := conv_new ((kind : Int) + (dl.length : Int)) dg hdn
  obtain ⟨sd, hsd⟩ : ∃ sd, (⟨dl.toArray⟩ : ByteArray) = sd := ⟨_, rfl⟩
  have hsl : sd.size = dl.length := by rw [← hsd]; rfl
  rw [show dg :: dl = [dg] ++ dl from rfl, ← str_append, hsd]
  rw [hsd] at hC
  rw [← hsl] at hcv hfl
  have HC := Lib.hid hC
  clear hC hdg hdn hsd hsl
  go_enter Try.func37, Try.ntmps37
  go_wp2_with fail
  refine (HC.out w).mono ?_
  rintro e w2 ⟨rfl, hb2⟩
  have HB := Lib.hid (hb2.alloc hb2.size (.cells #[.int .u8 ((kind : Int) + (sd.size : Int))] 5))
  clear hb2
  go_wp2_with fail
  go_ret
  exact ⟨rfl, HB.out⟩
end Go.Proofs.Ytdmalkkpcggifaa
