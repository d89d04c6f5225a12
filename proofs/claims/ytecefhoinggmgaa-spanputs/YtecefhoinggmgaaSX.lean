/-
  Contracts of the document's bounds and add. No condition.
-/
import Derived.Test.YtecefhoinggmgaaSW
namespace Go.Proofs.Ytecefhoinggmgaa
open Go.RowKit

theorem boundsL_length {β : Type} : ∀ (l : List (Seg β)) (more : List Int), (boundsL more l).length ≤ more.length + 2 * l.length
  | [], _ => by simp [boundsL]
  | x :: l, more => by
    have h := boundsL_length l (insL (insL more x.1) x.2.1)
    have h1 := insL_length more x.1
    have h2 := insL_length (insL more x.1) x.2.1
    show (boundsL (insL (insL more x.1) x.2.1) l).length ≤ _
    simp only [List.length_cons]
    omega

/-- A row's two bounds in memory, and what lay. -/
structure Bnd (w : World) (b o : Nat) (f e : Int) (w' : World) : Prop where
  c0 : w'.cell? ⟨b, o, none⟩ = some (.int .i64 f)
  c1 : w'.cell? ⟨b, o + 1, none⟩ = some (.int .i64 e)
  hb : b < w'.heap.size
  below : Below w.heap.size w w'
theorem Bnd.drew {w : World} {b o : Nat} {f e : Int} {w' : World} (h : Bnd w b o f e w') : Bnd w b o f e w'.drew := ⟨h.c0, h.c1, h.hb, h.below.drew⟩
theorem Bnd.step {w : World} {b o : Nat} {f e : Int} {w1 w2 : World} (h : Bnd w b o f e w1) (hb : Below w1.heap.size w1 w2) : Bnd w b o f e w2 :=
  ⟨(hb.cell h.hb).trans h.c0, (hb.cell h.hb).trans h.c1, Nat.lt_of_lt_of_le h.hb hb.size, h.below.trans (hb.mono h.below.size)⟩
theorem SBn {w : World} {b o : Nat} {f e : Int} {w' : World} (h : Bnd w b o f e w') : w'.cell? ⟨b, o, none⟩ = some (.int .i64 f) ∧ w'.cell? ⟨b, o + 1, none⟩ = some (.int .i64 e) ∧ Bnd w b o f e w' := ⟨h.c0, h.c1, h⟩

set_option maxHeartbeats 800000 in
theorem bounds46 (more : List Int) (l : List Row) (mv lv : Value) (w : World) (hm : IntsAt w w.heap.size mv more) (hl : RowsAt w w.heap.size lv l) (hlen : more.length + 2 * l.length ≤ 90000) :
    Calls Try.prog 46 #[mv, lv] w fun e w' => ∃ v, e = .returned v ∧ IntsAt w' w'.heap.size v (boundsL more l) ∧ Below w.heap.size w w' := by
  have HM := Lib.hid hm
  obtain ⟨mA, mc, rfl, -⟩ := hm
  obtain ⟨A, cap, rfl, h1, h2, h3⟩ := hl
  unfold maxLen at h2
  go_enter Try.func46, Try.ntmps46
  go_wp2
  go_loopw [5, 6] (fun s5 i wr => ∃ (k : Nat), k ≤ l.length ∧ i = .int .i64 k ∧ IntsAt wr wr.heap.size s5 (boundsL more (l.take k)) ∧ Hid (Below w.heap.size w wr)) (fun _ i _ => l.length - (intOf i).toNat)
  case atStart => exact ⟨0, Nat.zero_le _, rfl, HM.out, Below.refl _ _⟩
  case round =>
    obtain ⟨k, hk, rfl, hints, HBW⟩ := hrel
    obtain ⟨out, hout⟩ : ∃ out, boundsL more (l.take k) = out := ⟨_, rfl⟩
    rw [hout] at hints
    have HI := Lib.hid hints
    have hol : out.length ≤ 90000 := by
      rw [← hout]
      have := boundsL_length (l.take k) more
      rw [List.length_take] at this
      omega
    have HOUT := Lib.hid hout
    obtain ⟨sA, sc, rfl, -⟩ := hints
    clear hout
    by_cases hlt : k < l.length
    · obtain ⟨b, o, rfl, hb, hr⟩ := h3 (by omega)
      have hrk := (hr k hlt).below HBW.out hb
      have htk : boundsL more (l.take (k + 1)) = insL (insL out (l[k]).1) (l[k]).2.1 := by
        rw [← HOUT.out, List.take_succ_eq_append_getElem hlt]
        unfold boundsL
        rw [List.foldl_append]; rfl
      clear hr h3
      generalize l[k] = r at hrk htk
      obtain ⟨f, e, kk, n, s⟩ := r
      obtain ⟨c0, c1, -, -, -⟩ := hrk
      simp only at c0 c1 htk
      have HTK := Lib.hid htk
      have hbw : b < wr.heap.size := Nat.lt_of_lt_of_le hb HBW.out.size
      have hD : Bnd w b (o + k * 5) f e wr := ⟨c0, c1, hbw, HBW.out⟩
      have HI1 := Lib.hid (insert49 out f _ wr.drew (show IntsAt wr.drew wr.drew.heap.size (.slice sA out.length sc) out from HI.out.keep fun _ _ _ => rfl) (by omega))
      have hol2 := insL_length out f
      have HI2 : Hid (∀ (v : Value) (W : World) (n₀ : Nat), OwnI W n₀ v (insL out f) → Calls Try.prog 49 #[v, .int .i64 e] W fun x w' => ∃ v', x = .returned v' ∧ OwnI w' W.heap.size v' (insL (insL out f) e) ∧ Below W.heap.size W w') :=
        fun v W n₀ h => insert49 (insL out f) e v W h.ints (by omega)
      clear htk HOUT
      go_wp2_with fail
      go_region_held3 (fun w'' => w''.cell? ⟨b, o + k * 5, none⟩ = some (.int .i64 f) ∧ w''.cell? ⟨b, o + k * 5 + 1, none⟩ = some (.int .i64 e) ∧ Bnd w b (o + k * 5) f e w'')
        ((apply SBn; repeat (first | exact hD.drew | refine Bnd.step ?_ (by assumption))))
        (first | (go_at_call 49; (with_reducible refine HI1.out.mono ?_); rintro e' w3 ⟨v3, rfl, ho3, hb3⟩) | (go_at_call 49; refine (HI2.out _ _ _ (by assumption)).mono ?_; rintro e' w4 ⟨v4, rfl, ho4, hb4⟩))
      rename_i hHeld
      have HN : Hid (IntsAt w4 w4.heap.size v4 (boundsL more (l.take (k + 1)))) := by unfold Hid; rw [HTK.out]; exact ho4.ints
      have HB4 := Lib.hid hHeld.2.2.below
      obtain ⟨A4, cap4, rfl⟩ := ho4.slice
      clear ho4 hb4 hHeld hD HTK HI1 HI2 ho3 hb3 c0 c1
      go_wp2
      go_roundw
      case rel => exact ⟨k + 1, by omega, by go_num, HN.out, HB4⟩
      case measure => simp [intOf]; omega
    · have hkl : k = l.length := by omega
      subst hkl
      rw [List.take_length] at HOUT
      go_wp2
      go_ret
      exact ⟨_, rfl, by rw [HOUT.out]; exact HI.out, HBW.out⟩
end Go.Proofs.Ytecefhoinggmgaa
