import Derived.Test.YtapfhonapejpjaaJ
namespace Go.Proofs.Ytapfhonapejpjaa
open Go.RowKit

set_option maxHeartbeats 400000 in
theorem catch33 (p : Nat) (at' : Int) (x : Value) (older : List PanicEntry) (w : World) (hp : w.cell? ⟨p, 0, none⟩ = some x) (fp : w.frozen? ⟨p, 0, none⟩ = false) :
    CallsD Try.prog 33 #[.pointer (some ⟨p, 0, none⟩)] (.panicking ({ v := .iface 57 (.int .i64 at'), recovered := false } :: older)) w fun e m' w' =>
      e = .returned (.tuple #[]) ∧ m' = .panicking ({ v := .iface 57 (.int .i64 at'), recovered := true } :: older) ∧ w' = w.setCell ⟨p, 0, none⟩ (.int .i64 (-1)) := by
  refine callsD_of_wpS Try.func33 rfl fun c₀ cs hu => ?_
  apply wpS_seq
  apply wpS_region
  simp [wpOpsS, go_sem, recoverD, hu, Try.ntmps33, Exit.thenS]
  refine wpS_of_wp ?_
  go_wp2
  simp [bodyPostS, results, Try.results33]

theorem idle33 (p : Nat) (w : World) :
    CallsD Try.prog 33 #[.pointer (some ⟨p, 0, none⟩)] .returning w fun e m' w' => e = .returned (.tuple #[]) ∧ m' = .returning ∧ w = w' := by
  refine callsD_of_wpS Try.func33 rfl fun c₀ cs hu => ?_
  apply wpS_seq
  apply wpS_region
  simp [wpOpsS, go_sem, recoverD, hu, Try.ntmps33, Exit.thenS]
  refine wpS_of_wp ?_
  go_wp2
  cases c₀
  simp_all [bodyPostS, results, Try.results33]

set_option maxHeartbeats 400000 in
theorem catch26 (p q : Nat) (at' : Int) (x y : Value) (older : List PanicEntry) (w : World) (hp : w.cell? ⟨p, 0, none⟩ = some x) (fp : w.frozen? ⟨p, 0, none⟩ = false) (hq : w.cell? ⟨q, 0, none⟩ = some y) (fq : w.frozen? ⟨q, 0, none⟩ = false) (hpq : p < q) :
    CallsD Try.prog 26 #[.pointer (some ⟨p, 0, none⟩), .pointer (some ⟨q, 0, none⟩)] (.panicking ({ v := .iface 57 (.int .i64 at'), recovered := false } :: older)) w fun e m' w' =>
      e = .returned (.tuple #[]) ∧ m' = .panicking ({ v := .iface 57 (.int .i64 at'), recovered := true } :: older) ∧ w' = (w.setCell ⟨p, 0, none⟩ (.string ⟨#[]⟩)).setCell ⟨q, 0, none⟩ (.int .i64 2) := by
  refine callsD_of_wpS Try.func26 rfl fun c₀ cs hu => ?_
  apply wpS_seq
  apply wpS_region
  simp [wpOpsS, go_sem, recoverD, hu, Try.ntmps26, Exit.thenS]
  refine wpS_of_wp ?_
  have e1 : ¬ q = p := by omega
  go_wp2
  simp [bodyPostS, results, Try.results26]

theorem idle26 (p q : Nat) (w : World) :
    CallsD Try.prog 26 #[.pointer (some ⟨p, 0, none⟩), .pointer (some ⟨q, 0, none⟩)] .returning w fun e m' w' => e = .returned (.tuple #[]) ∧ m' = .returning ∧ w = w' := by
  refine callsD_of_wpS Try.func26 rfl fun c₀ cs hu => ?_
  apply wpS_seq
  apply wpS_region
  simp [wpOpsS, go_sem, recoverD, hu, Try.ntmps26, Exit.thenS]
  refine wpS_of_wp ?_
  go_wp2
  cases c₀
  simp_all [bodyPostS, results, Try.results26]

def runesEnd : Nat ⊕ Int → Int
  | .inl _ => -1
  | .inr n => n
def runesR (l : List UInt8) : Int := runesEnd (runL countStep l.length 0 l 0)

set_option maxHeartbeats 400000 in
theorem runes18 (s : ByteArray) (w : World) (hs : s.size ≤ 5000) :
    Calls Try.prog 18 #[.string s] w fun e w' => e = .returned (.int .i64 (runesR s.data.toList)) ∧ Below w.heap.size w w' := by
  have hmf := hmf
  have hrd : Nd w.heap.size w.heap.size 0 (w.alloc (.cells #[.int .i64 0] 3)) := heap_alloc_new w _
  have hwalk := walkN s w.heap.size w.heap.size 0 _ (by omega) (Nat.le_refl _) hrd ⟨by omega, by omega⟩
  have hP : runesR s.data.toList = runesEnd (runL countStep s.size 0 s.data.toList 0) := rfl
  rw [hP]
  clear hP
  generalize runL countStep s.size 0 s.data.toList 0 = res at hwalk ⊢
  have hb0 : Below w.heap.size w (w.alloc (.cells #[.int .i64 0] 3)) := (Below.refl _ w).alloc (Nat.le_refl _) _
  cases res with
  | inl p =>
    rw [show runesEnd (.inl p) = -1 from rfl]
    have HW := Lib.hid hwalk
    clear hwalk hrd
    go_enter_defers Try.func18, Try.ntmps18
    go_wp2_with (go_at_call 27; go_must (refine HW.out.mono ?_); rintro e w1 ⟨rfl, ⟨n, hnd⟩, hb1⟩)
    have hc1 : w1.cell? ⟨w.heap.size, 0, none⟩ = some (.int .i64 n) := by rw [cell_of_row w1 _ _ _ 3 (0, 0) hnd]; rfl
    have hf1 : w1.frozen? ⟨w.heap.size, 0, none⟩ = false := by unfold Nd at hnd; simp [World.frozen?, hnd]
    have hbw := hb0.trans hb1
    refine leaves_cons (f := 33) (args := #[.pointer (some ⟨w.heap.size, 0, none⟩)]) (by simp) (by simp [go_sem]) ?_
    refine (catch33 w.heap.size p _ [] w1 hc1 hf1).mono ?_
    rintro e u' w'' ⟨rfl, rfl, rfl⟩
    simp [Leaves, settle, results, Try.results18, go_sem, hc1]
    exact hbw.setCell (Nat.le_refl _) _
  | inr n =>
    rw [show runesEnd (.inr n) = n from rfl]
    have HW := Lib.hid hwalk
    clear hwalk hrd
    go_enter_defers Try.func18, Try.ntmps18
    go_wp2_with fail
    refine HW.out.mono ?_
    rintro e w1 ⟨rfl, hnd, hok, hb1⟩
    have hc1 : w1.cell? ⟨w.heap.size, 0, none⟩ = some (.int .i64 n) := by rw [cell_of_row w1 _ _ _ 3 (0, 0) hnd]; rfl
    have hf1 : w1.frozen? ⟨w.heap.size, 0, none⟩ = false := by unfold Nd at hnd; simp [World.frozen?, hnd]
    have hbw := hb0.trans hb1
    clear hnd
    go_wp2
    refine leaves_cons (f := 33) (args := #[.pointer (some ⟨w.heap.size, 0, none⟩)]) (by simp) (by simp [go_sem]) ?_
    refine (idle33 w.heap.size _).mono ?_
    rintro e u' w'' ⟨rfl, rfl, rfl⟩
    simp [Leaves, settle, results, Try.results18, go_sem, hc1]
    exact hbw.setCell (Nat.le_refl _) _

def quoteEnd : Nat ⊕ List UInt8 → List UInt8 × Int
  | .inl _ => ([], 2)
  | .inr x => (x ++ [34], 0)
def quoteR (l : List UInt8) : List UInt8 × Int := quoteEnd (runL quoteStep l.length 0 l [34])

/-- The world in which Quote calls walk. -/
def WQ (w : World) : World := (((w.alloc (.cells #[.string ⟨#[]⟩] 9)).alloc (.cells #[.int .i64 0] 27)).alloc (.cells #[.int .u8 34] 5)).alloc (.cells #[.slice (some ⟨w.heap.size + 1 + 1, 0, none⟩) 1 1] 46)

theorem WQ_qd (w : World) : Qd (w.heap.size + 1 + 1) (w.heap.size + 1 + 1 + 1) [34] (WQ w) := by
  refine ⟨.slice (some ⟨w.heap.size + 1 + 1, 0, none⟩) 1 1, ?_, ?_⟩
  · have h := heap_alloc_new (((w.alloc (.cells #[.string ⟨#[]⟩] 9)).alloc (.cells #[.int .i64 0] 27)).alloc (.cells #[.int .u8 34] 5)) (.cells #[.slice (some ⟨w.heap.size + 1 + 1, 0, none⟩) 1 1] 46)
    simpa [WQ] using h
  · refine World.ownsRow.alloc ⟨rfl, .inr ⟨w.heap.size + 1 + 1, 1, #[.int .u8 34], rfl, Nat.le_refl _, ?_, by omega, by unfold maxLen; omega, rfl, rfl⟩⟩ _
    have h := heap_alloc_new ((w.alloc (.cells #[.string ⟨#[]⟩] 9)).alloc (.cells #[.int .i64 0] 27)) (.cells #[.int .u8 34] 5)
    simpa using h

theorem WQ_below (w : World) : Below w.heap.size w (WQ w) :=
  ((((Below.refl _ w).alloc (Nat.le_refl _) _).alloc (by simp) _).alloc (by simp; omega) _).alloc (by simp; omega) _

structure Res2 (w w1 : World) : Prop where
  p : w1.cell? ⟨w.heap.size, 0, none⟩ = some (.string ⟨#[]⟩)
  q : w1.cell? ⟨w.heap.size + 1, 0, none⟩ = some (.int .i64 0)
  fp : w1.frozen? ⟨w.heap.size, 0, none⟩ = false
  fq : w1.frozen? ⟨w.heap.size + 1, 0, none⟩ = false
theorem res2 (w w1 : World) (h : Below (w.heap.size + 1 + 1) (WQ w) w1) : Res2 w w1 := by
  constructor
  all_goals first
    | (rw [h.cell (by simp only; omega)]; simp [WQ, go_sem]; done)
    | (rw [h.frozen (by simp only; omega)]; simp [WQ, go_sem]; done)

set_option maxHeartbeats 400000 in
theorem quote12 (s : ByteArray) (w : World) (hs : s.size ≤ 5000) :
    Calls Try.prog 12 #[.string s] w fun e w' => e = .returned (.tuple #[.string ⟨(quoteR s.data.toList).1.toArray⟩, .int .i64 (quoteR s.data.toList).2]) ∧ Below w.heap.size w w' := by
  have hmf := hmf
  have hwalk := walkQ s _ _ [34] _ hs (by omega) (WQ_qd w) (by unfold QOk; simp)
  have hP : quoteR s.data.toList = quoteEnd (runL quoteStep s.size 0 s.data.toList [34]) := rfl
  rw [hP]
  clear hP
  generalize runL quoteStep s.size 0 s.data.toList [34] = res at hwalk ⊢
  cases res with
  | inl p =>
    rw [show quoteEnd (.inl p) = ([], 2) from rfl]
    have HW := Lib.hid hwalk
    clear hwalk
    rw [WQ] at HW
    go_enter_defers Try.func12, Try.ntmps12
    go_wp2_with (go_at_call 27; go_must (refine HW.out.mono ?_); rintro e w1 ⟨rfl, -, hb1⟩)
    have hb1' : Below (w.heap.size + 1 + 1) (WQ w) w1 := hb1
    obtain ⟨hp, hq, fp, fq⟩ := res2 w w1 hb1'
    have hbw := (WQ_below w).trans (hb1'.mono (by omega))
    refine leaves_cons (f := 26) (args := #[.pointer (some ⟨w.heap.size, 0, none⟩), .pointer (some ⟨w.heap.size + 1, 0, none⟩)]) (by simp) (by simp [go_sem]) ?_
    refine (catch26 w.heap.size (w.heap.size + 1) p _ _ [] w1 hp fp hq fq (by omega)).mono ?_
    rintro e u' w'' ⟨rfl, rfl, rfl⟩
    simp [Leaves, settle, results, Try.results12, go_sem, hp, hq]
    exact (hbw.setCell (Nat.le_refl _) _).setCell (by simp only; omega) _
  | inr x =>
    rw [show quoteEnd (.inr x) = (x ++ [34], 0) from rfl]
    obtain ⟨xx, hxx⟩ : ∃ xx, (x ++ [34]).toArray = xx := ⟨_, rfl⟩
    simp only [hxx]
    have HX := Lib.hid hxx; clear hxx
    have HW := Lib.hid hwalk
    clear hwalk
    rw [WQ] at HW
    obtain ⟨i0, hi, hz0, hz1, hz2⟩ := info5
    go_enter_defers Try.func12, Try.ntmps12
    go_wp2_with fail
    refine HW.out.mono ?_
    rintro e w1 ⟨rfl, hqd, ⟨qq, hqq, hok⟩, hb1⟩
    have hb1' : Below (w.heap.size + 1 + 1) (WQ w) w1 := hb1
    obtain ⟨hp, hq, fp, fq⟩ := res2 w w1 hb1'
    have hbw := (WQ_below w).trans (hb1'.mono (by omega))
    have hlt := hqd.lt
    obtain ⟨v, hb, ho⟩ := hqd
    have hcv : w1.cell? ⟨w.heap.size + 1 + 1 + 1, 0, none⟩ = some v := by rw [cell_of_row w1 _ _ _ 46 (0, 0) hb]; rfl
    obtain ⟨va, vc, rfl⟩ := ownsRow_slice ho
    have hxl : x.length ≤ 30000 := by unfold QOk at hok; omega
    have HO := Lib.hid ho
    clear ho hb hb1 hok
    go_wp2_with (at_builtin; go_must (refine wpList_append_own _ rfl _ _ 46 rfl (w.heap.size + 1 + 1) 5 i0 (.int .u8 0) 1 1 Try.underlying46 hi hz0 hz1 hz2 rfl (by omega) _ x.length (bytesV x) rfl (HO.out.alloc _) ⟨w1.heap.size, 0, none⟩ 1 1 (bytesV [34]) rfl rfl ?hn (bytes_oneCell _) ?c3 ?c4 ?c5 ?_))
    case hn => exact new_cells w1 [34] _ rfl
    case c3 => unfold maxLen; omega
    case c4 => omega
    case c5 => simp; omega
    intro v' w2 ho' hg' _
    have ho2 := Own.mk (k := [34]) ho' rfl
    have hg2 := ((Gr.refl (w.heap.size + 1 + 1) w1).alloc (by omega) _).grown (HO.out.alloc _) hg' (by simp; omega)
    obtain ⟨va2, vc2, hv⟩ := ownsRow_slice ho2
    rw [hv] at ho2
    rw [hv]
    have hcnv := conv_own _ _ _ _ _ w2 ho2
    rw [List.length_append, List.length_singleton] at hcnv ⊢
    rw [← hg2.1.cell (p := ⟨w.heap.size, 0, none⟩) (by simp only; omega)] at hp
    rw [← hg2.1.cell (p := ⟨w.heap.size + 1, 0, none⟩) (by simp only; omega)] at hq
    rw [← hg2.1.frozen (p := ⟨w.heap.size, 0, none⟩) (by simp only; omega)] at fp
    rw [← hg2.1.frozen (p := ⟨w.heap.size + 1, 0, none⟩) (by simp only; omega)] at fq
    replace hbw := hbw.trans (hg2.1.mono (show w.heap.size ≤ w.heap.size + 1 + 1 by omega))
    clear ho' hg' ho2 hg2 hv
    rw [HX.out] at hcnv
    go_wp2
    refine leaves_cons (f := 26) (args := #[.pointer (some ⟨w.heap.size, 0, none⟩), .pointer (some ⟨w.heap.size + 1, 0, none⟩)]) (by simp) (by simp [go_sem]) ?_
    refine (idle26 w.heap.size (w.heap.size + 1) _).mono ?_
    rintro e u' w'' ⟨rfl, rfl, rfl⟩
    simp [Leaves, settle, results, Try.results12, go_sem, hp, hq]
    exact (hbw.setCell (Nat.le_refl _) _).setCell (by simp only; omega) _
end Go.Proofs.Ytapfhonapejpjaa
