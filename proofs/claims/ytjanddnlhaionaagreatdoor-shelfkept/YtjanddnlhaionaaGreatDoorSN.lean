/-
  The document's example on a drum of 20 sectors. No condition.
-/
import Derived.Test.YtjanddnlhaionaaGreatDoorSM
import Derived.Test.YtjanddnlhaionaaGreatDoorS4
set_option maxRecDepth 100000
namespace Go.Proofs.YtjanddnlhaionaaGreatDoor
open Go.RowKit
open L3 (Tabs St)
open L4 (C LAt LIn LNF Wf okC encC putS putE Box)

/-! ### A batch on a drum that a tape filled from the beginning -/
theorem sto_whole {st : Sf} {d : L6.D} {n : Nat} {had : List ByteArray} {c : C} (hW : L6.Wh n had d st.t) (hp : putE (batC c (encs st)) = 0) (hle : L6.needN (recS st c).size + (L6.allSecs 1 1 had).length ≤ n) :
    stoE st d c = 0 ∧ stoD st d c = L6.rest (L6.allSecs 1 1 (had ++ [recS st c]) ++ List.replicate (n - (L6.allSecs 1 1 (had ++ [recS st c])).length) L6.z64) ∧ (stoT st d c).count = had.length + 1 ∧ (L6.allSecs 1 1 (had ++ [recS st c])).length ≤ n := by
  obtain ⟨a1, a2⟩ := (hW.app (recS st c)).1 hle
  obtain ⟨b1, b2⟩ := a2.settle
  refine ⟨?_, ?_, ?_, a2.le⟩
  · unfold stoE; rw [if_pos hp, if_pos a1]; exact b1
  · unfold stoD; rw [if_pos hp, if_pos a1]; exact b2
  · unfold stoT; rw [if_pos hp, if_pos a1]
    show (L6.appT st.t d (recS st c)).count = _
    rw [a2.t]
    show (had ++ [recS st c]).length = _
    rw [List.length_append]; rfl
theorem rest_S (S : List ByteArray) : (L6.rest S).W = [] := rfl

/-! ### The example -/
def eO : Ob := ⟨1, ⟨#[97]⟩, [], [], [], 0, ⟨#[]⟩, ⟨#[]⟩⟩
def c7 : C := .mk 1 7 ⟨#[]⟩ []
theorem eO_ok : objOK eO = true := by decide +kernel
theorem eO_nr : ∀ r ∈ eO.rows, -9223372036854775808 ≤ r.2.2.2.1 ∧ r.2.2.2.1 ≤ 9223372036854775807 := by intro r hr; cases hr
theorem eO_kf : ∀ k ∈ eO.kids, 0 ≤ k.f ∧ k.f ≤ 255 := by intro r hr; cases hr
theorem eO_enc : encC 16 (cellOf eO) = [65, 4, 17, 1, 49, 1, 97, 64, 64] := by decide +kernel
theorem eO_put : objS eO = ⟨#[65, 4, 17, 1, 49, 1, 97, 64, 64]⟩ := by
  have hg := obj_good eO_ok eO_nr eO_kf (by decide)
  unfold objS
  rw [eO_ok]
  show putS (cellOf eO) = _
  unfold putS
  rw [if_pos hg.ok, eO_enc]
theorem eO_take : takeOM (objS eO) = (eO, 0) := obj_take eO_ok eO_nr eO_kf
theorem eO_at (w : World) : ObAt w (.slice none 0 0) (.slice none 0 0) (.slice none 0 0) eO :=
  ⟨rowsNil _ _, KidsAt.nil _ _, TxtsAt.nil _ _, by show (-9223372036854775808 : Int) ≤ 0; omega, by show (0 : Int) ≤ _; omega, by intro r hr; cases hr⟩
theorem c7_bat : okC 16 (batC c7 [⟨#[65, 4, 17, 1, 49, 1, 97, 64, 64]⟩]) = true ∧ (encC 16 (batC c7 [⟨#[65, 4, 17, 1, 49, 1, 97, 64, 64]⟩])).length = 17 := by decide +kernel
theorem c7_com : comOK c7 = true := by decide +kernel

theorem bat_good {c : C} {l : List ByteArray} {Kc B : Nat} (hc : Good 15 Kc c) (hl : l.length ≤ 4095) (hs : ∀ s ∈ l, s.size ≤ B) (hB : B ≤ 65535) : Good 16 (9 + 2 * (Kc + (9 + l.length * (9 + B)))) (batC c l) := by
  unfold batC
  refine (good_list 15 (Kc + (9 + l.length * (9 + B))) (by simp) (fun x hx => ?_)).le (by simp)
  simp only [List.mem_cons, List.not_mem_nil, or_false] at hx
  rcases hx with rfl | rfl
  · exact hc.le (by omega)
  · refine (good_list 14 (9 + B) (by rw [List.length_map]; exact hl) (fun x hx => ?_)).le (by rw [List.length_map]; omega)
    obtain ⟨s, hs', rfl⟩ := List.mem_map.1 hx
    exact (good_text 13 (by have := hs s hs'; omega)).le (by have := hs s hs'; omega)
theorem c7_good : Good 15 9 c7 := good_num 14 (n := 7) (by omega) (by omega)
theorem c7_wf : Wf c7 := ⟨by show (-9223372036854775808 : Int) ≤ 1; omega, by show (1 : Int) ≤ _; omega, by show (-9223372036854775808 : Int) ≤ 7; omega, by show (7 : Int) ≤ _; omega, by show (0 : Nat) ≤ _; omega⟩
theorem bat_ok {l : List ByteArray} {B : Nat} (hl : l.length ≤ 4095) (hs : ∀ s ∈ l, s.size ≤ B) (hB : B ≤ 65535) : BatOk c7 l := by
  have hg := bat_good c7_good hl hs hB
  have h7 := c7_com
  unfold comOK at h7
  rw [Bool.and_eq_true, decide_eq_true_eq] at h7
  exact ⟨hg.ok, hg.fit, h7.1, h7.2⟩
theorem good_size {c : C} {K : Nat} (h : Good 16 K c) : (putS c).size ≤ K ∧ putE c = 0 := by
  unfold putS putE
  rw [h.ok]
  exact ⟨by show (encC 16 c).toArray.size ≤ K; rw [List.size_toArray]; exact h.enc, rfl⟩

theorem seven40 (w : World) : Calls Tryz.prog 40 #[] w fun e w' => e = .returned (.agg #[.int .i64 1, .int .i64 7, .string ⟨#[]⟩, .slice none 0 0]) ∧ Below w.heap.size w w' := by
  go_enter Tryz.func40, Tryz.ntmps40
  go_wp2_with fail
  refine bodyPost_ret (results_cell_row (p := 0) (ty := 38) rfl _ _ w.heap.size 38 #[.int .i64 1, .int .i64 7, .string ⟨#[]⟩, .slice none 0 0] (0, 0) _ rfl ?hg Tryz.underlying38 rfl L4.size25) rfl ?_
  case hg => exact heap_alloc_new w _
  exact ⟨rfl, (Below.refl _ _).alloc (Nat.le_refl _) _⟩

/-- The plain states of the example. -/
def stA : Sf := ⟨L6.openT (L6.newD 20), fun _ => none, 0, []⟩
def stB (K : List Int) (I : St) : Sf := putSt K I stA eO
theorem putA (K : List Int) (I : St) : putId K I stA eO = idB K I (objS eO) ∧ putEr K I stA eO = 0 ∧ stB K I = ⟨L6.openT (L6.newD 20), upd (fun _ => none) (idB K I (objS eO)) (objS eO), 1, [idB K I (objS eO)]⟩ := by
  have hc : clash stA.m (idB K I (objS eO)) (objS eO) = false := rfl
  unfold stB putId putEr putSt
  rw [eO_ok, hc]
  exact ⟨rfl, rfl, rfl⟩
theorem encsB (K : List Int) (I : St) : encs (stB K I) = [objS eO] := by
  rw [(putA K I).2.2]
  unfold encs
  simp [upd]
theorem stoB (K : List Int) (I : St) : comE (stB K I) (L6.newD 20) c7 = 0 ∧ comD (stB K I) (L6.newD 20) c7 = L6.rest (L6.allSecs 1 1 [putS (batC c7 [objS eO])] ++ List.replicate (20 - (L6.allSecs 1 1 [putS (batC c7 [objS eO])]).length) L6.z64) ∧
    (comSt (stB K I) (L6.newD 20) c7).t.count = 1 ∧ (comSt (stB K I) (L6.newD 20) c7).c = 1 ∧ (comSt (stB K I) (L6.newD 20) c7).fresh = [] ∧ (L6.allSecs 1 1 [putS (batC c7 [objS eO])]).length ≤ 20 := by
  have hb := c7_bat
  rw [← eO_put] at hb
  have hW := (L6.Wh.new 20).1
  have hp : putE (batC c7 (encs (stB K I))) = 0 := by rw [encsB]; unfold putE; rw [hb.1]; rfl
  have hr : recS (stB K I) c7 = putS (batC c7 [objS eO]) := by unfold recS; rw [encsB]
  have hsz : (putS (batC c7 [objS eO])).size = 17 := by
    unfold putS
    rw [hb.1]
    show (encC 16 (batC c7 [objS eO])).toArray.size = 17
    rw [List.size_toArray, hb.2]
  have hW' : L6.Wh 20 [] (L6.newD 20) (stB K I).t := by rw [(putA K I).2.2]; exact hW
  obtain ⟨s1, s2, s3, s4⟩ := sto_whole hW' hp (by rw [hr, hsz]; decide)
  rw [hr] at s2 s4
  unfold comE comD comSt
  rw [c7_com, if_pos rfl, if_pos rfl, if_pos rfl, if_pos s1]
  refine ⟨s1, s2, s3, ?_, rfl, s4⟩
  show (stB K I).c = 1
  rw [(putA K I).2.2]

theorem get_found {w0 w : World} {sb mb bt bl b : Nat} {fv : Value} {d : L6.D} {st : Sf} (h : SfAt w0 w sb mb fv bt bl b d st) (id : ByteArray) (hid : id.size ≤ maxLen) {s : ByteArray} {o : Ob} (hm : st.m id = some s) (ho : takeOM s = (o, 0)) (hs : s.size ≤ 1000000000) :
    Calls Tryz.prog 41 #[.pointer (some ⟨sb, 0, none⟩), .string id] w (TakeOTo w (o, 0)) := by
  have h1 := get41 h id hid (fun s' hs' => by rw [hm] at hs'; injection hs' with e; rw [← e, ho]; exact ⟨hs, rfl⟩)
  unfold getM at h1
  rw [hm] at h1
  simp only [ho] at h1
  exact h1

/-- What opening the example's drum again yields. -/
theorem againB (K : List Int) (I : St) : L6.openE (comD (stB K I) (L6.newD 20) c7) = 0 ∧ (L6.scanD (comD (stB K I) (L6.newD 20) c7)).recs = ([(c7, [objS eO])] : List Bt).map btS ∧ (∀ r ∈ ([(c7, [objS eO])] : List Bt), BtOk r) ∧ loadS K I (fun _ => none) 0 (allE [(c7, [objS eO])]) = some (upd (fun _ => none) (idB K I (objS eO)) (objS eO), 1) := by
  obtain ⟨-, q2, -, -, -, q6⟩ := stoB K I
  obtain ⟨a1, a2, -, -⟩ := L6.Wh.again (n := 20) (l := [putS (batC c7 [objS eO])]) (by simp) q6 (by omega)
  rw [q2]
  have hs9 : (objS eO).size = 9 := by rw [eO_put]; rfl
  have hb : ∀ s ∈ [objS eO], s.size ≤ 9 := fun s hs => by rw [List.mem_singleton.1 hs, hs9]; omega
  refine ⟨a1, a2, fun r hr => ?_, ?_⟩
  · rw [List.mem_singleton.1 hr]
    refine ⟨bat_ok (by simp) hb (by omega), ?_, fun s hs => ?_⟩
    · have := (good_size (bat_good c7_good (l := [objS eO]) (by simp) hb (by omega))).1
      exact Nat.le_trans this (by simp)
    · rw [List.mem_singleton.1 hs]
      exact ⟨by omega, by rw [eO_take]⟩
  · show loadS K I (fun _ => none) 0 [objS eO] = _
    rw [loadS]
    rfl

/-- What lies before the last test of the example. -/
structure L10 (w : World) (g : Nat) (u : Value) (P : Nat) (r k p : Value) (d : Nat) (W : World) : Prop where
  row : W.ownsRow 0 38 4 (.slice (some ⟨g, 0, none⟩) 1 1) 1 [.int .i64 1, .int .i64 7, .string ⟨#[]⟩, u] ∨ ∃ c, W.ownsRow 0 38 4 (.slice (some ⟨g, 0, none⟩) 1 c) 1 [.int .i64 1, .int .i64 7, .string ⟨#[]⟩, u]
  box : W.heap[P]? = some (.cells #[.int .i64 1, .string ⟨#[97]⟩, r, k, p, .int .i64 0, .string ⟨#[]⟩, .string ⟨#[]⟩] 27 (0, 0))
  ob : ObAt W r k p eO
  la : LAt W W.heap.size d u []
  below : Below w.heap.size w W
theorem L10.step {w : World} {g : Nat} {u : Value} {P : Nat} {r k p : Value} {d : Nat} {W W' : World} (h : L10 w g u P r k p d W) (hb : Below W.heap.size W W') : L10 w g u P r k p d W' := by
  refine ⟨?_, (hb.block P (Array.getElem?_eq_some_iff.1 h.box).1).trans h.box, h.ob.step hb, h.la.step hb, h.below.trans (hb.mono h.below.size)⟩
  rcases h.row with h1 | ⟨c, h1⟩
  · exact .inl (L6.row_keep h1 (fun j hj => hb.block j (L6.row_lt h1 hj)))
  · exact .inr ⟨c, L6.row_keep h1 (fun j hj => hb.block j (L6.row_lt h1 hj))⟩
theorem L10.facts {w : World} {g : Nat} {u : Value} {P : Nat} {r k p : Value} {d : Nat} {W : World} (h : L10 w g u P r k p d W) :
    W.cell? ⟨g, 0, none⟩ = some (.int .i64 1) ∧ W.cell? ⟨g, 1, none⟩ = some (.int .i64 7) ∧ W.cell? ⟨g, 2, none⟩ = some (.string ⟨#[]⟩) ∧ W.cell? ⟨g, 3, none⟩ = some u ∧
    W.cell? ⟨P, 0, none⟩ = some (.int .i64 1) ∧ W.cell? ⟨P, 1, none⟩ = some (.string ⟨#[97]⟩) ∧ W.cell? ⟨P, 2, none⟩ = some r ∧ W.cell? ⟨P, 3, none⟩ = some k ∧ W.cell? ⟨P, 4, none⟩ = some p ∧ W.cell? ⟨P, 5, none⟩ = some (.int .i64 0) ∧ W.cell? ⟨P, 6, none⟩ = some (.string ⟨#[]⟩) ∧ W.cell? ⟨P, 7, none⟩ = some (.string ⟨#[]⟩) ∧ L10 w g u P r k p d W := by
  have hc : ∀ j, j < 4 → W.cell? ⟨g, j, none⟩ = ([.int .i64 1, .int .i64 7, .string ⟨#[]⟩, u] : List Value)[j]? := fun j hj => by
    rcases h.row with h1 | ⟨c, h1⟩
    · exact h1.cellAt j (by omega)
    · exact h1.cellAt j (by omega)
  exact ⟨hc 0 (by omega), hc 1 (by omega), hc 2 (by omega), hc 3 (by omega), L6.cell_row h.box rfl, L6.cell_row h.box rfl, L6.cell_row h.box rfl, L6.cell_row h.box rfl, L6.cell_row h.box rfl, L6.cell_row h.box rfl, L6.cell_row h.box rfl, L6.cell_row h.box rfl, h⟩
theorem L10.drew {w : World} {g : Nat} {u : Value} {P : Nat} {r k p : Value} {d : Nat} {W : World} (h : L10 w g u P r k p d W) : L10 w g u P r k p d W.drew := h.step (Below.refl _ _).drew

set_option maxHeartbeats 8000000 in
theorem lives27 (K : List Int) (I : St) (w : World) (hT : Tabs K I w) : Calls Tryz.prog 27 #[] w fun e w' => e = .returned (.bool true) ∧ Below w.heap.size w w' := by
  obtain ⟨p1, p2, p3⟩ := putA K I
  obtain ⟨q1, q2, q3, q4, q5, -⟩ := stoB K I
  obtain ⟨r1, r2, r3, r4⟩ := againB K I
  have hs9 : (objS eO).size = 9 := by rw [eO_put]; rfl
  have HN : Hid (Calls Tryz.prog 28 #[.int .i64 20] w fun e w' => ∃ b, e = .returned (.tuple #[.pointer (some ⟨b, 0, none⟩), .int .i64 0]) ∧ L6.PN w w' b (L6.newD 20)) := L6.newN 20 (by omega) (by omega) w
  have HO : Hid (∀ w1 b, L6.PN w w1 b (L6.newD 20) → _) := fun w1 b hP => open33 K I hP hT (by show ([] : List (Nat × ByteArray)).length ≤ _; simp) (L6.Wh.new 20).2.1 [] (L6.Wh.new 20).2.2 (fun r hr => by cases hr) (fun _ => none, 0) rfl (by simp [allE]) (by simp)
  have HPUT : Hid (∀ w2 sb mb bt bl b, SfAt w w2 sb mb (.slice none 0 0) bt bl b (L6.newD 20) stA → Calls Tryz.prog 38 #[.pointer (some ⟨sb, 0, none⟩), .agg #[.int .i64 1, .string ⟨#[97]⟩, .slice none 0 0, .slice none 0 0, .slice none 0 0, .int .i64 0, .string ⟨#[]⟩, .string ⟨#[]⟩]] w2 fun e w' =>
      ∃ fv', e = .returned (.tuple #[.string (idB K I (objS eO)), .int .i64 0]) ∧ SfAt w w' sb mb fv' bt bl b (L6.newD 20) (stB K I)) := fun w2 sb mb bt bl b h => (put38 K I h hT 1 ⟨#[97]⟩ [] [] [] 0 ⟨#[]⟩ ⟨#[]⟩ (.slice none 0 0) (.slice none 0 0) (.slice none 0 0) (eO_at w2) (by show (0 : Nat) < _; omega) (by show (0 : Nat) < _; omega)).mono fun e w' ⟨fv', h1, h2, _⟩ => ⟨fv', by rw [← p1, ← p2]; exact h1, h2⟩
  have hct : (stB K I).t.count = 0 := by rw [p3]; show (L6.openT (L6.newD 20)).count = 0; rw [(L6.Wh.new 20).1.t]; rfl
  have hfl : (stB K I).fresh = [idB K I (objS eO)] := by rw [p3]
  have hsz : ∀ s ∈ encs (stB K I), s.size ≤ 9 := by rw [encsB]; intro s hs; rw [List.mem_singleton.1 hs, hs9]; omega
  have HC : Hid (∀ w3 sb mb fv bt bl b, SfAt w w3 sb mb fv bt bl b (L6.newD 20) (stB K I) → Calls Tryz.prog 34 #[.pointer (some ⟨sb, 0, none⟩), .agg #[.int .i64 1, .int .i64 7, .string ⟨#[]⟩, .slice none 0 0]] w3 fun e w' =>
      ∃ fv', e = .returned (.int .i64 0) ∧ SfAt w w' sb mb fv' bt bl b (comD (stB K I) (L6.newD 20) c7) (comSt (stB K I) (L6.newD 20) c7)) := fun w3 sb mb fv bt bl b h => (commit34 h (by rw [hfl]; intro id hid; rw [List.mem_singleton.1 hid]; exact idB_size K I _) (by rw [hfl]; simp) 1 7 ⟨#[]⟩ [] (.slice none 0 0) 1 (lnf_nil _ _ _ _) c7_wf (by rw [L4.cntC_mk, L4.cntL_nil]; omega)
        (fun s hs => by have := hsz s hs; omega) (fun _ => by have := (bat_good c7_good (l := encs (stB K I)) (by rw [encsB]; simp) hsz (by omega)).enc; rw [encsB] at this ⊢; exact Nat.le_trans this (by simp)) (by show ([] : List (Nat × ByteArray)).length + 4096 ≤ _; simp) (by rw [hct]; omega)).mono fun e w' ⟨fv', h1, h2, _⟩ => ⟨fv', by rw [← q1]; exact h1, h2⟩
  have HO2 : Hid (∀ w1 b, L6.PN w w1 b (comD (stB K I) (L6.newD 20) c7) → _) := fun w1 b hP => open33 K I hP hT (by rw [q2, rest_S]; simp) r1 [(c7, [objS eO])] r2 r3 (upd (fun _ => none) (idB K I (objS eO)) (objS eO), 1) r4 (by simp [allE]) (by simp)
  have HGET : Hid (∀ w4 sb mb fv bt bl b t, SfAt w w4 sb mb fv bt bl b (comD (stB K I) (L6.newD 20) c7) ⟨t, upd (fun _ => none) (idB K I (objS eO)) (objS eO), 1, []⟩ → Calls Tryz.prog 41 #[.pointer (some ⟨sb, 0, none⟩), .string (idB K I (objS eO))] w4 (TakeOTo w4 (eO, 0))) := fun w4 sb mb fv bt bl b t h => get_found h _ (idB_size K I _) (show upd (fun _ => none) (idB K I (objS eO)) (objS eO) (idB K I (objS eO)) = _ from upd_same _ _ _) eO_take (by omega)
  have HQ : Hid ((comSt (stB K I) (L6.newD 20) c7).t.count = 1 ∧ (comSt (stB K I) (L6.newD 20) c7).c = 1 ∧ (comSt (stB K I) (L6.newD 20) c7).fresh = [] ∧ (stB K I).fresh.length = 1) := ⟨q3, q4, q5, by rw [hfl]; rfl⟩
  clear p1 p2 p3 q1 q2 q3 q4 q5 r1 r2 r3 r4 hs9 hct hfl hsz hT
  generalize idB K I (objS eO) = i at *
  generalize stB K I = sB at *
  generalize comSt sB (L6.newD 20) c7 = sC at *
  generalize comD sB (L6.newD 20) c7 = dC at *
  go_enter Tryz.func27, Tryz.ntmps27
  go_wp2_with fail
  refine HN.out.mono ?_
  rintro _ w1 ⟨b, rfl, hP⟩
  have HO1 := Lib.hid (HO.out w1 b hP)
  clear hP HN HO
  go_wp2_with fail
  refine HO1.out.mono ?_
  rintro _ w2 ⟨sb, mb, bt, bl, v, D, rfl, hs2, hrc, hD, -, -, -⟩
  have hD0 : D = [] := by cases D with | nil => rfl | cons _ _ => simp at hD
  subst hD0
  obtain ⟨vA, vc, rfl⟩ := hrc.slice
  have HP2 := Lib.hid (HPUT.out w2 sb mb bt bl b hs2)
  clear hs2 hrc hD HO1 HPUT
  go_wp2_with fail
  refine HP2.out.mono ?_
  rintro _ w3 ⟨fv3, rfl, hs3⟩
  have HF3 := Lib.hid (fresh42 hs3)
  rw [HQ.out.2.2.2] at HF3
  have H3 := Lib.hid hs3
  clear hs3 HP2
  go_wp2_with fail
  refine HF3.out.mono ?_
  rintro _ w' ⟨rfl, rfl⟩
  go_wp2_with fail
  refine (seven40 _).mono ?_
  rintro _ w4 ⟨rfl, hb4⟩
  have HC4 := Lib.hid (HC.out _ _ _ _ _ _ _ (H3.out.below hb4))
  clear hb4 H3 HC HF3
  go_wp2_with fail
  refine HC4.out.mono ?_
  rintro _ w5 ⟨fv5, rfl, hs5⟩
  have HL5 := Lib.hid (len39 hs5)
  have HB5 := Lib.hid (batches44 hs5)
  have HF5 := Lib.hid (fresh42 hs5)
  rw [HQ.out.2.1] at HL5
  rw [HQ.out.1] at HB5
  rw [HQ.out.2.2.1] at HF5
  have H5 := Lib.hid hs5
  have HO5 := Lib.hid (HO2.out _ _ hs5.tn.pn)
  clear hs5 HC4 HO2
  go_wp2_with (first | (go_at_call 39; refine HL5.out.mono ?_; rintro _ w' ⟨rfl, rfl⟩) | (go_at_call 44; refine HB5.out.mono ?_; rintro _ w' ⟨rfl, rfl⟩) | (go_at_call 42; refine HF5.out.mono ?_; rintro _ w' ⟨rfl, rfl⟩))
  refine HO5.out.mono ?_
  rintro _ w6 ⟨sb6, mb6, bt6, bl6, v6, D6, rfl, hs6, hrc6, hD6, hb6, -, -⟩
  obtain ⟨⟨cc, u6⟩, rfl⟩ : ∃ x, D6 = [x] := by
    cases D6 with
    | nil => simp at hD6
    | cons x D6 => cases D6 with
      | nil => exact ⟨x, rfl⟩
      | cons _ _ => simp at hD6
  have hcc : cc = c7 := by simpa using hD6
  subst hcc
  obtain ⟨A6, k6, rfl⟩ := hrc6.slice
  have HG6 := Lib.hid (HGET.out _ _ _ _ _ _ _ _ hs6)
  have HRC6 := Lib.hid hrc6
  have HS6 := Lib.hid hs6
  clear hs6 hrc6 hb6 hD6 HO5 HL5 HB5 HF5 HGET
  go_wp2_with fail
  refine HG6.out.mono ?_
  rintro _ w7 ⟨hb7, A1, n1, k1, A2, n2, k2, A3, n3, k3, rfl, hob⟩
  obtain ⟨g, kk, hg⟩ := L6.row_some HRC6.out.row (by simp)
  simp only [Value.slice.injEq] at hg
  obtain ⟨rfl, -, rfl⟩ := hg
  obtain ⟨dd, hd⟩ := HRC6.out.subs (c7, u6) (by simp)
  obtain ⟨W8, hW8⟩ : ∃ W8, w7.alloc (.cells #[.int .i64 1, .string ⟨#[97]⟩, .slice A1 n1 k1, .slice A2 n2 k2, .slice A3 n3 k3, .int .i64 0, .string ⟨#[]⟩, .string ⟨#[]⟩] 27) = W8 := ⟨_, rfl⟩
  have hb8 : Below w7.heap.size w7 W8 := by rw [← hW8]; exact (Below.refl _ _).alloc (Nat.le_refl _) _
  have hb78 := hb7.trans (hb8.mono hb7.size)
  have HL : Hid (L10 w g u6 w7.heap.size (.slice A1 n1 k1) (.slice A2 n2 k2) (.slice A3 n3 k3) dd W8) := by
    refine ⟨.inr ⟨k6, L6.row_keep (LNFrow HRC6.out.row) (fun j hj => hb78.block j (L6.row_lt HRC6.out.row hj))⟩, by rw [← hW8]; exact heap_alloc_new _ _, hob.step hb8, ?_, HS6.out.old.trans (hb78.mono HS6.out.old.size)⟩
    exact LIn.lat (fun b hb => hb) (hd.keep (S' := fun b => b < W8.heap.size) (fun b hb => Nat.lt_of_lt_of_le hb.2.1.lt hb78.size) fun b o hb => L4.cell_same (hb78.block b hb.2.1.lt) o)
  have HW8 := Lib.hid hW8
  have hu : ∃ Au cu, u6 = .slice Au 0 cu := by
    obtain ⟨Au, cu, e⟩ := (LIn.lat (S := fun b => w5.heap.size ≤ b ∧ L4.T38 w6 b ∧ some b ≠ (Value.slice (some ⟨g, 0, none⟩) [(c7, u6)].length k6).ownBlock) (fun b hb => hb.2.1.lt) hd).slice
    exact ⟨Au, cu, e⟩
  obtain ⟨Au, cu, rfl⟩ := hu
  clear hb7 hob HG6 HRC6 HS6 hd hW8 hb8 hb78
  have HSM : Hid (∀ W (r k p : Value), ObAt W r k p eO → Calls Tryz.prog 22 #[.agg #[.int .i64 1, .string ⟨#[97]⟩, r, k, p, .int .i64 0, .string ⟨#[]⟩, .string ⟨#[]⟩], .agg #[.int .i64 1, .string ⟨#[97]⟩, .slice none 0 0, .slice none 0 0, .slice none 0 0, .int .i64 0, .string ⟨#[]⟩, .string ⟨#[]⟩]] W fun e w' => e = .returned (.bool true) ∧ Below W.heap.size W w') :=
    fun W r k p ho => same10 1 ⟨#[97]⟩ [] [] [] 0 ⟨#[]⟩ ⟨#[]⟩ r k p _ _ _ W ho (eO_at W)
  have HSC : Hid (∀ W, LAt W W.heap.size dd (.slice Au 0 cu) [] → Calls Tryz.prog 17 #[.agg #[.int .i64 1, .int .i64 7, .string ⟨#[]⟩, .slice Au 0 cu], .agg #[.int .i64 1, .int .i64 7, .string ⟨#[]⟩, .slice none 0 0]] W fun e w' => e = .returned (.bool true) ∧ Below W.heap.size W w') := fun W hl => by
    have := L4.same15 dd 1 1 7 ⟨#[]⟩ [] (.slice Au 0 cu) 1 7 ⟨#[]⟩ [] (.slice none 0 0) W hl (lnf_nil 0 W W.heap.size 0).lat
    rw [show L4.sameB (.mk 1 7 ⟨#[]⟩ []) (.mk 1 7 ⟨#[]⟩ []) = true from L4.sameB_self _] at this
    exact this
  have HLW : Hid (L10 w g (.slice Au 0 cu) w7.heap.size (.slice A1 n1 k1) (.slice A2 n2 k2) (.slice A3 n3 k3) dd (w7.alloc (.cells #[.int .i64 1, .string ⟨#[97]⟩, .slice A1 n1 k1, .slice A2 n2 k2, .slice A3 n3 k3, .int .i64 0, .string ⟨#[]⟩, .string ⟨#[]⟩] 27))) := by rw [HW8.out]; exact HL.out
  clear HL HW8
  unfold eO
  simp only
  go_wp2_with fail
  go_region_held3 (fun W => W.cell? ⟨g, 0, none⟩ = some (.int .i64 1) ∧ W.cell? ⟨g, 1, none⟩ = some (.int .i64 7) ∧ W.cell? ⟨g, 2, none⟩ = some (.string ⟨#[]⟩) ∧ W.cell? ⟨g, 3, none⟩ = some (.slice Au 0 cu) ∧ W.cell? ⟨w7.heap.size, 0, none⟩ = some (.int .i64 1) ∧ W.cell? ⟨w7.heap.size, 1, none⟩ = some (.string ⟨#[97]⟩) ∧ W.cell? ⟨w7.heap.size, 2, none⟩ = some (.slice A1 n1 k1) ∧ W.cell? ⟨w7.heap.size, 3, none⟩ = some (.slice A2 n2 k2) ∧ W.cell? ⟨w7.heap.size, 4, none⟩ = some (.slice A3 n3 k3) ∧ W.cell? ⟨w7.heap.size, 5, none⟩ = some (.int .i64 0) ∧ W.cell? ⟨w7.heap.size, 6, none⟩ = some (.string ⟨#[]⟩) ∧ W.cell? ⟨w7.heap.size, 7, none⟩ = some (.string ⟨#[]⟩) ∧ L10 w g (.slice Au 0 cu) w7.heap.size (.slice A1 n1 k1) (.slice A2 n2 k2) (.slice A3 n3 k3) dd W)
    ((first | exact HLW.out.drew.facts | exact L10.facts (L10.step (by go_split_ands; assumption) (by assumption))))
    (first | (go_at_call 40; refine (seven40 _).mono ?_; rintro _ wa ⟨rfl, hb⟩) | (go_at_call 17; refine (HSC.out _ (L10.la (w := w) (by go_split_ands; assumption))).mono ?_; rintro _ wb ⟨rfl, hb⟩) | (go_at_call 22; refine (HSM.out _ _ _ _ (L10.ob (w := w) (by go_split_ands; assumption))).mono ?_; rintro _ wc ⟨rfl, hb⟩; have HFIN := Lib.hid (L10.below (L10.step (show L10 w g (.slice Au 0 cu) w7.heap.size (.slice A1 n1 k1) (.slice A2 n2 k2) (.slice A3 n3 k3) dd _ by go_split_ands; assumption) hb))))
  all_goals
    go_wp2
    go_ret
    exact ⟨rfl, HFIN.out⟩
end Go.Proofs.YtjanddnlhaionaaGreatDoor
