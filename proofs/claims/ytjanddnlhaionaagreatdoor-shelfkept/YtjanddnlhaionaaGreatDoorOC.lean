/-
  Contracts of areKids and areParents. No condition.
-/
import Derived.Test.YtjanddnlhaionaaGreatDoorOB
namespace Go.Proofs.YtjanddnlhaionaaGreatDoor
open Go.RowKit
open L4 (C)
open L2 (Row Vl RowsAt rowsOK valOK)

/-- A block of two cells, and what lay. -/
structure Pair (w : World) (x y : Value) (w' : World) : Prop where
  c0 : w'.cell? ⟨w.heap.size, 0, none⟩ = some x
  c1 : w'.cell? ⟨w.heap.size, 1, none⟩ = some y
  lt : w.heap.size < w'.heap.size
  below : Below w.heap.size w w'
set_option maxRecDepth 100000 in
theorem Pair.start (w : World) (x y : Value) : Pair w x y (w.alloc (.cells #[x, y] 95)) :=
  ⟨by simp [go_sem], by simp [go_sem], by simp, (Below.refl _ _).alloc (Nat.le_refl _) _⟩
set_option maxRecDepth 100000 in
theorem Pair.drewN {w : World} {x y : Value} {w' : World} (h : Pair w x y w') (n : Nat) : Pair w x y (w'.drewN n) := ⟨h.c0, h.c1, h.lt, L4.below_drewN h.below n⟩

def gapK : Option Kd → Int → Bool
  | none, _ => true
  | some p, f => !decide (f ≤ p.f)
set_option maxRecDepth 100000 in
theorem quietS {f : Nat} {args : Array Value} {w : World} {n : Nat} {v : Value} (h : Calls Tryz.prog f args (w.drewN n) fun e w' => e = .returned v ∧ w.drewN n = w') : Calls Tryz.prog f args (w.drewN n) fun e w'' => e = .returned v ∧ ∃ m, w'' = w.drewN m :=
  Calls.quiet_of_same (h.mono fun _ _ ⟨a, b⟩ => ⟨a, b.symm⟩)

set_option maxRecDepth 100000 in
set_option maxHeartbeats 1000000 in
theorem areKids46 (l : List Kd) (v : Value) (w : World) (h : KidsAt w w.heap.size v l) :
    Calls Tryz.prog 111 #[v] w fun e w' => e = .returned (.bool (kidsOK l)) ∧ Below w.heap.size w w' := by
  obtain ⟨A, cap, rfl, h1, h2, h3⟩ := h
  unfold maxLen at h2
  obtain ⟨q, hq⟩ : ∃ q, kidsOK l = q := ⟨_, rfl⟩
  rw [hq]
  have HQ : Hid (kidsFrom (prevK l 0) (l.drop 0) = q) := hq
  clear hq
  go_enter Tryz.func111, Tryz.ntmps111
  go_wp2_with fail
  go_loopw [3, 7] (fun _ i wr => ∃ k : Nat, k ≤ l.length ∧ i = .int .i64 k ∧ Below w.heap.size w wr ∧ Hid (kidsFrom (prevK l k) (l.drop k) = q)) (fun _ i _ => l.length - (intOf i).toNat)
  case atStart => exact ⟨0, Nat.zero_le _, rfl, Below.refl _ _, HQ⟩
  case round =>
    obtain ⟨k, hk, rfl, hbw, HK⟩ := hrel
    have HBW := Lib.hid hbw
    by_cases hlt : k < l.length
    · obtain ⟨b, o, rfl, hb, hr⟩ := h3 (by omega)
      have hd := L2.drop_get l k hlt
      have hrk := hr k hlt
      have c0 := (hbw.cell (p := ⟨b, o + k * 2, none⟩) hb).trans hrk.c0
      have c1 := (hbw.cell (p := ⟨b, o + k * 2 + 1, none⟩) hb).trans hrk.c1
      have hf0 := hrk.f0
      have hf1 := hrk.f1
      have hbl : b < wr.heap.size := Nat.lt_of_lt_of_le hb hbw.size
      clear hbw hrk
      obtain ⟨f, hf⟩ : ∃ f, l[k].f = f := ⟨_, rfl⟩
      obtain ⟨id, hid⟩ : ∃ id, l[k].id = id := ⟨_, rfl⟩
      rw [hf] at c0 hf0 hf1
      rw [hid] at c1
      have HID := Lib.hid (isId49 id)
      have HE : Hid (Below w.heap.size w (wr.alloc (.cells #[.int .u8 f, .string id] 95))) := HBW.out.alloc HBW.out.size _
      have HD : Hid (kidsFrom (prevK l k) (l.drop k) = (isIdB id && (gapK (prevK l k) f && kidsFrom (prevK l (k + 1)) (l.drop (k + 1))))) := by
        unfold Hid
        have e : prevK l (k + 1) = some l[k] := by unfold prevK; rw [if_neg (by omega)]; simp [hlt]
        rw [hd, e, ← hf, ← hid]
        cases prevK l k <;> simp [kidsFrom, gapK]
      have HR := Lib.hid hr
      clear hr hd hf hid h3
      generalize isIdB id = q1 at HD HID
      go_wp2_with fail
      cases q1 with
      | false =>
        have hq : q = false := by rw [← HK.out, HD.out]; simp
        subst hq
        clear HQ HK HD HR
        go_quiet ((go_at_call 114; exact quietS (HID.out _)))
        go_wp2
        go_ret
        exact ⟨rfl, L4.below_drewN HE.out _⟩
      | true =>
        by_cases hk0 : k = 0
        · subst hk0
          have HN : Hid (kidsFrom (prevK l 1) (l.drop 1) = q) := by unfold Hid; rw [← HK.out, HD.out]; simp [prevK, gapK]
          clear HQ HK HD HR
          go_quiet ((go_at_call 114; exact quietS (HID.out _)))
          go_wp2
          go_roundw
          case rel => exact ⟨1, by omega, by go_num, L4.below_drewN HE.out _, HN⟩
          case measure => simp [intOf]; omega
        · obtain ⟨j, rfl⟩ : ∃ j, k = j + 1 := ⟨k - 1, by omega⟩
          have hrj := HR.out j (by omega)
          have p0 := (HBW.out.cell (p := ⟨b, o + j * 2, none⟩) hb).trans hrj.c0
          have hpv : prevK l (j + 1) = some l[j] := by
            unfold prevK
            rw [if_neg (by omega)]
            exact List.getElem?_eq_getElem (by omega)
          obtain ⟨pf, hpf⟩ : ∃ pf, l[j].f = pf := ⟨_, rfl⟩
          rw [hpf] at p0
          have HG : Hid (gapK (prevK l (j + 1)) f = !decide (f ≤ pf)) := by unfold Hid; rw [hpv, ← hpf]; rfl
          clear hpv hpf hrj
          cases hle : decide (f ≤ pf) with
          | true =>
            have hq : q = false := by rw [← HK.out, HD.out, HG.out, hle]; simp
            subst hq
            clear HQ HK HD HR HG
            go_quiet ((go_at_call 114; exact quietS (HID.out _)))
            go_wp2
            go_ret
            exact ⟨rfl, L4.below_drewN HE.out _⟩
          | false =>
            have HN : Hid (kidsFrom (prevK l (j + 1 + 1)) (l.drop (j + 1 + 1)) = q) := by unfold Hid; rw [← HK.out, HD.out, HG.out, hle]; simp
            clear HQ HK HD HR HG
            go_quiet ((go_at_call 114; exact quietS (HID.out _)))
            go_wp2
            go_roundw
            case rel => exact ⟨j + 1 + 1, by omega, by go_num, L4.below_drewN HE.out _, HN⟩
            case measure => simp [intOf]; omega
    · have hq : q = true := by rw [← HK.out, List.drop_of_length_le (by omega)]; cases prevK l k <;> rfl
      subst hq
      clear HQ HK h3
      go_wp2
      go_ret
      exact ⟨rfl, HBW.out⟩
end Go.Proofs.YtjanddnlhaionaaGreatDoor
