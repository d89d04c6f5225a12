/-
  The contract of add. No condition but on lengths.
-/
import Derived.Test.YtjanddnlhaionaaGreatDoorSF
import Derived.Test.YtjanddnlhaionaaGreatDoorPx0
set_option maxRecDepth 100000
namespace Go.Proofs.YtjanddnlhaionaaGreatDoor
open Go.RowKit
open L3 (Tabs St)

/-- The id of an encoding. -/
def idB (K : List Int) (I : St) (s : ByteArray) : ByteArray := ⟨(L3.digestM K I s.data.toList).toArray⟩
def clash (m : MP) (id s : ByteArray) : Bool := (m id).isSome && decide ((m id).getD ⟨#[]⟩ ≠ s)
def addMap (m : MP) (id s : ByteArray) : MP := upd m id s
def addCnt (m : MP) (c : Nat) (id : ByteArray) : Nat := if (m id).isSome then c else c + 1

set_option maxHeartbeats 1000000 in
theorem add83 {w0 w : World} {sb mb bt bl b : Nat} {fv : Value} {d : L6.D} {st : Sf} (K : List Int) (I : St) (h : SfAt w0 w sb mb fv bt bl b d st) (hT : Tabs K I w) (s : ByteArray) (hs : s.size ≤ 900000) (hid : (idB K I s).size ≤ maxLen) (hc : st.c < maxLen) :
    Calls Tryz.prog 83 #[.pointer (some ⟨sb, 0, none⟩), .string s] w fun e w' =>
      if clash st.m (idB K I s) s then e = .returned (.tuple #[.string ⟨#[]⟩, .bool false, .int .i64 22]) ∧ SfAt w0 w' sb mb fv bt bl b d st ∧ Below w.heap.size w w'
      else e = .returned (.tuple #[.string (idB K I s), .bool (!(st.m (idB K I s)).isSome), .int .i64 0]) ∧ SfAt w0 w' sb mb fv bt bl b d { st with m := addMap st.m (idB K I s) s, c := addCnt st.m st.c (idB K I s) } ∧ L6.Turn (fun k => k = mb) w w' := by
  have HS := Lib.hid (L3.sum9 K I s w hT hs)
  have HH := Lib.hid h
  have HX : Hid (⟨(L3.digestM K I s.data.toList).toArray⟩ = idB K I s) := rfl
  rw [HX.out] at HS
  obtain ⟨id, hide⟩ : ∃ id, idB K I s = id := ⟨_, rfl⟩
  rw [hide] at HS hid ⊢
  have HCM : Hid (st.c < maxLen) := hc
  clear h hT hide HX hc
  cases hf : st.m id with
  | none =>
    have hcl : clash st.m id s = false := by unfold clash; rw [hf]; rfl
    rw [hcl]
    show Calls _ _ _ _ fun e w' => e = .returned (.tuple #[.string id, .bool true, .int .i64 0]) ∧ _
    have HF := Lib.hid hf
    clear hf hcl
    obtain ⟨c0, c1, -, -⟩ := HH.out.cells
    go_enter Tryz.func83, Tryz.ntmps83
    go_wp2_with fail
    refine HS.out.mono ?_
    rintro _ w2 ⟨rfl, hb⟩
    have h2 := HH.out.below hb
    obtain ⟨d0, d1, -, -⟩ := h2.cells
    have hlk := (h2.map.look85 id hid).1
    rw [HF.out] at hlk
    have hlk' : (Instr.lookup 85 (.map (some mb)) (.string id) true).run Tryz.prog w2 = .ok (.tuple #[.string ⟨#[]⟩, .bool false]) w2 := hlk
    obtain ⟨w3, hst, hm3, ht3⟩ := h2.map.store85 HCM.out id s hid (by unfold maxLen; omega)
    obtain ⟨h3, hT3⟩ := h2.mapped hm3 ht3
    have H3 := Lib.hid h3
    have HT3 : Hid (L6.Turn (fun k => k = mb) w w3) := (L6.Turn.trans (F := fun k => k = mb) ⟨hb.os, hb.tape, hb.output, hb.size, fun k hk _ => hb.block k hk⟩ hT3 (fun i hi => .inl hi))
    clear hlk h2 hm3 ht3 h3 hT3 hb HS HH c0 c1
    go_wp2_with fail
    refine bodyPost_ret (results_tmp3 rfl _ _ _) rfl ?_
    exact ⟨rfl, H3.out, HT3.out⟩
  | some k =>
    by_cases hks : k = s
    · subst hks
      have hcl : clash st.m id k = false := by unfold clash; rw [hf]; simp
      rw [hcl]
      show Calls _ _ _ _ fun e w' => e = .returned (.tuple #[.string id, .bool false, .int .i64 0]) ∧ _
      have HF := Lib.hid hf
      clear hf hcl
      obtain ⟨c0, c1, -, -⟩ := HH.out.cells
      go_enter Tryz.func83, Tryz.ntmps83
      go_wp2_with fail
      refine HS.out.mono ?_
      rintro _ w2 ⟨rfl, hb⟩
      have h2 := HH.out.below hb
      obtain ⟨d0, d1, -, -⟩ := h2.cells
      have hlk := (h2.map.look85 id hid).1
      rw [HF.out] at hlk
      have hlk' : (Instr.lookup 85 (.map (some mb)) (.string id) true).run Tryz.prog w2 = .ok (.tuple #[.string k, .bool true]) w2 := hlk
      obtain ⟨w3, hst, hm3, ht3⟩ := h2.map.store85 HCM.out id k hid (by unfold maxLen; omega)
      obtain ⟨h3, hT3⟩ := h2.mapped hm3 ht3
      have H3 := Lib.hid h3
      have HT3 : Hid (L6.Turn (fun k => k = mb) w w3) := (L6.Turn.trans (F := fun k => k = mb) ⟨hb.os, hb.tape, hb.output, hb.size, fun k hk _ => hb.block k hk⟩ hT3 (fun i hi => .inl hi))
      have hkk : (k.toList == k.toList) = true := by simp
      clear hlk h2 hm3 ht3 h3 hT3 hb HS HH c0 c1
      go_wp2_with fail
      refine bodyPost_ret (results_tmp3 rfl _ _ _) rfl ?_
      exact ⟨rfl, H3.out, HT3.out⟩
    · have hcl : clash st.m id s = true := by unfold clash; rw [hf]; simp [hks]
      rw [hcl]
      show Calls _ _ _ _ fun e w' => e = .returned (.tuple #[.string ⟨#[]⟩, .bool false, .int .i64 22]) ∧ _
      have HF := Lib.hid hf
      clear hf hcl
      obtain ⟨c0, c1, -, -⟩ := HH.out.cells
      go_enter Tryz.func83, Tryz.ntmps83
      go_wp2_with fail
      refine HS.out.mono ?_
      rintro _ w2 ⟨rfl, hb⟩
      have h2 := HH.out.below hb
      obtain ⟨d0, d1, -, -⟩ := h2.cells
      have hlk := (h2.map.look85 id hid).1
      rw [HF.out] at hlk
      have hlk' : (Instr.lookup 85 (.map (some mb)) (.string id) true).run Tryz.prog w2 = .ok (.tuple #[.string k, .bool true]) w2 := hlk
      have H2 := Lib.hid h2
      have HB := Lib.hid hb
      have hks2 : (k.toList == s.toList) = false := by rw [L6.str_eq]; exact decide_eq_false hks
      clear hlk h2 hb HS HH c0 c1
      go_wp2_with fail
      refine bodyPost_ret (results_tmp3 rfl _ _ _) rfl ?_
      exact ⟨rfl, H2.out, HB.out⟩
end Go.Proofs.YtjanddnlhaionaaGreatDoor
