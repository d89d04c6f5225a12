/-
  Hash.Len, digest.Sum, and a hash that New did not return.
-/
import Derived.Test.YtpabggcjmaobhaaDoorG
namespace Go.Proofs.YtpabggcjmaobhaaDoor
open Go.RowKit

set_option maxHeartbeats 400000 in
theorem len18 (K : List Int) (I : St) (b : Nat) (M : List UInt8) (w : World) (hH : HashAt K I b M w) :
    Calls Tryd.prog 18 #[.pointer (some ⟨b, 0, none⟩)] w fun e w' => e = .returned (.int .i64 (M.length : Int)) ∧ w = w' := by
  obtain ⟨B, hB, hBt, hg⟩ := hH.is
  have cm : w.cell? ⟨b, 0, none⟩ = some (.bool true) := cell_row hg (hashRow_made _ _ _ _)
  have cL := cell_row hg (hashRow_len _ _ _ _ hB)
  have HE := Lib.hid (exists24 b true w cm)
  generalize M.length = N at cL ⊢
  clear hg hH cm hBt hB
  go_enter Tryd.func18, Tryd.ntmps18
  go_wp2_with (go_at_call 24; refine HE.out.mono ?_; rintro e w' ⟨rfl, rfl⟩)
  go_ret
  exact ⟨rfl, rfl⟩

/-- A pointer that is nil, or to a hash that was not made. -/
def NotMade (w : World) (p : Option Addr) : Prop := p = none ∨ ∃ b, p = some ⟨b, 0, none⟩ ∧ w.cell? ⟨b, 0, none⟩ = some (.bool false)
theorem exists24f (p : Option Addr) (w : World) (h : NotMade w p) : Calls Tryd.prog 24 #[.pointer p] w fun e w' => e = .returned (.bool false) ∧ w = w' := by
  rcases h with rfl | ⟨b, rfl, hc⟩
  · exact exists24n w
  · exact exists24 b false w hc
set_option maxHeartbeats 400000 in
theorem put16f (p : Option Addr) (s : ByteArray) (w : World) (h : NotMade w p) : Calls Tryd.prog 16 #[.pointer p, .string s] w fun e w' => e = .returned (.int .i64 1) ∧ w = w' := by
  have HE := Lib.hid (exists24f p w h)
  clear h
  go_enter Tryd.func16, Tryd.ntmps16
  go_wp2_with (go_at_call 24; refine HE.out.mono ?_; rintro e w' ⟨rfl, rfl⟩)
  go_ret
  exact ⟨rfl, rfl⟩
set_option maxHeartbeats 400000 in
theorem len18f (p : Option Addr) (w : World) (h : NotMade w p) : Calls Tryd.prog 18 #[.pointer p] w fun e w' => e = .returned (.int .i64 0) ∧ w = w' := by
  have HE := Lib.hid (exists24f p w h)
  clear h
  go_enter Tryd.func18, Tryd.ntmps18
  go_wp2_with (go_at_call 24; refine HE.out.mono ?_; rintro e w' ⟨rfl, rfl⟩)
  go_ret
  exact ⟨rfl, rfl⟩
set_option maxHeartbeats 400000 in
theorem sum17f (p : Option Addr) (w : World) (h : NotMade w p) : Calls Tryd.prog 17 #[.pointer p] w fun e w' => e = .returned (.string ⟨#[]⟩) ∧ w = w' := by
  have HE := Lib.hid (exists24f p w h)
  clear h
  go_enter Tryd.func17, Tryd.ntmps17
  go_wp2_with (go_at_call 24; refine HE.out.mono ?_; rintro e w' ⟨rfl, rfl⟩)
  go_ret
  exact ⟨rfl, rfl⟩

/-- The two tables lie as they are laid. -/
structure Tabs (K : List Int) (I : St) (w : World) : Prop where
  keys : KeysAt w K
  init : InitAt w I
  two : 2 ≤ w.heap.size
theorem Tabs.below {K : List Int} {I : St} {b : Nat} {w w' : World} (h : Tabs K I w) (hb : Below b w w') (h2 : 2 ≤ b) : Tabs K I w' :=
  ⟨h.keys.below hb h2, h.init.below hb h2, Nat.le_trans h.two hb.size⟩

set_option maxHeartbeats 400000 in
theorem sum9 (K : List Int) (I : St) (s : ByteArray) (w : World) (hT : Tabs K I w) (hs : s.size ≤ 900000) :
    Calls Tryd.prog 9 #[.string s] w fun e w' => e = .returned (.string ⟨(digestM K I s.data.toList).toArray⟩) ∧ Below w.heap.size w w' := by
  have HN := Lib.hid (new15 K I w hT.init)
  have HT := Lib.hid hT
  have h2 := hT.two
  obtain ⟨R, hR⟩ : ∃ R, digestM K I s.data.toList = R := ⟨_, rfl⟩
  rw [hR]
  have HR := Lib.hid hR
  clear hT hR
  go_enter Tryd.func9, Tryd.ntmps9
  go_wp2_with fail
  refine HN.out.mono ?_
  rintro e w1 ⟨rfl, hh1, hb1⟩
  have HP := Lib.hid (put16 K I w.heap.size [] s w1 (HT.out.keys.below hb1 h2) h2 hh1 (by simp; omega))
  have HB1 := Lib.hid hb1
  clear hh1 hb1 HN
  go_wp2_with fail
  refine HP.out.mono ?_
  rintro e w2 ⟨rfl, hh2, hb2⟩
  have HB2 : Hid (Below w.heap.size w w2) := HB1.out.trans hb2
  have hsl : s.data.toList.length = s.size := by simp
  have HS := Lib.hid (sum17 K I w.heap.size ([] ++ s.data.toList) w2 (HT.out.keys.below HB2.out h2) h2 hh2 (by rw [List.nil_append, hsl]; exact hs))
  rw [List.nil_append, HR.out] at HS
  clear hh2 hb2 HP HR hsl
  go_wp2_with fail
  refine HS.out.mono ?_
  rintro e w3 ⟨rfl, hb3⟩
  go_wp2
  go_ret
  exact ⟨rfl, HB2.out.trans (hb3.mono HB2.out.size)⟩
end Go.Proofs.YtpabggcjmaobhaaDoor
