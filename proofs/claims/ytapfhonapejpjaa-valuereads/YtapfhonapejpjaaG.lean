import Derived.Test.YtapfhonapejpjaaF
namespace Go.Proofs.Ytapfhonapejpjaa
open Go.RowKit

theorem hmf : ∀ (fn : Fn) (first cap : Array Value) (w : World), (Instr.makeFunc fn first cap).run Try.prog w = .ok (.func fn first cap) w := fun _ _ _ _ => rfl

theorem assert57 (n : Int) (w : World) : (Instr.typeAssert (.iface 57 (.int .i64 n)) 20 57 true).run Try.prog w = .ok (.tuple #[.int .i64 n, .bool true]) w := by kernel_rfl

set_option maxHeartbeats 400000 in
theorem catch36 (p q u : Nat) (at' : Int) (x0 x1 x2 x3 x4 : Value) (older : List PanicEntry) (w : World)
    (hp0 : w.cell? ⟨p, 0, none⟩ = some x0) (hp1 : w.cell? ⟨p, 1, none⟩ = some x1) (hp2 : w.cell? ⟨p, 2, none⟩ = some x2) (hq : w.cell? ⟨q, 0, none⟩ = some x3) (hw : w.cell? ⟨u, 0, none⟩ = some x4)
    (fp0 : w.frozen? ⟨p, 0, none⟩ = false) (fp1 : w.frozen? ⟨p, 1, none⟩ = false) (fp2 : w.frozen? ⟨p, 2, none⟩ = false) (fq : w.frozen? ⟨q, 0, none⟩ = false) (fu : w.frozen? ⟨u, 0, none⟩ = false)
    (hpq : p < q) (hqu : q < u) :
    CallsD Try.prog 36 #[.pointer (some ⟨p, 0, none⟩), .pointer (some ⟨q, 0, none⟩), .pointer (some ⟨u, 0, none⟩)] (.panicking ({ v := .iface 57 (.int .i64 at'), recovered := false } :: older)) w fun e m' w' =>
      e = .returned (.tuple #[]) ∧ m' = .panicking ({ v := .iface 57 (.int .i64 at'), recovered := true } :: older) ∧
      w' = ((((w.setCell ⟨p, 0, none⟩ (.int .i64 0)).setCell ⟨p, 1, none⟩ (.int .i64 0)).setCell ⟨p, 2, none⟩ (.string ⟨#[]⟩)).setCell ⟨q, 0, none⟩ (.int .i64 at')).setCell ⟨u, 0, none⟩ (.int .i64 4) := by
  refine callsD_of_wpS Try.func36 rfl fun c₀ cs hu => ?_
  apply wpS_seq
  apply wpS_region
  simp [wpOpsS, go_sem, recoverD, hu, Try.ntmps36, Exit.thenS]
  refine wpS_of_wp ?_
  have e1 : ¬ q = p := by omega
  have e2 : ¬ u = p := by omega
  have e3 : ¬ u = q := by omega
  have hta := fun w => assert57 at' w
  go_wp2
  simp [bodyPostS, results, Try.results36]

theorem idle36 (p q u : Nat) (w : World) :
    CallsD Try.prog 36 #[.pointer (some ⟨p, 0, none⟩), .pointer (some ⟨q, 0, none⟩), .pointer (some ⟨u, 0, none⟩)] .returning w fun e m' w' =>
      e = .returned (.tuple #[]) ∧ m' = .returning ∧ w = w' := by
  refine callsD_of_wpS Try.func36 rfl fun c₀ cs hu => ?_
  apply wpS_seq
  apply wpS_region
  simp [wpOpsS, go_sem, recoverD, hu, Try.ntmps36, Exit.thenS]
  refine wpS_of_wp ?_
  go_wp2
  cases c₀
  simp_all [bodyPostS, results, Try.results36]

def R0 : R := ⟨0, false, 0, false, [], 0⟩
/-- What Parse answers. -/
structure PRes where
  k : Int
  n : Int
  s : ByteArray
  at' : Int
  e : Int
def parseEnd (len : Nat) : Nat ⊕ R → PRes
  | .inl p => ⟨0, 0, ⟨#[]⟩, p, 4⟩
  | .inr r => if completeR r = false then ⟨0, 0, ⟨#[]⟩, len, 3⟩ else if bigR r = true then ⟨0, 0, ⟨#[]⟩, 0, 5⟩ else ⟨vKind r, vNum r, vText r, len, 0⟩
def parseR (l : List UInt8) : PRes := parseEnd l.length (runL readR l.length 0 l R0)
def pVal (p : PRes) : Value := .tuple #[.agg #[.int .i64 p.k, .int .i64 p.n, .string p.s], .int .i64 p.at', .int .i64 p.e]

theorem Ok0 : Ok R0 := by unfold Ok R0; simp

def W4 (w : World) : World :=
  ((((w.alloc (.cells #[.int .i64 0, .int .i64 0, .string ⟨#[]⟩] 24)).alloc (.cells #[.int .i64 0] 3)).alloc (.cells #[.int .i64 0] 27)).alloc
    (.cells #[.int .i64 0, .bool false, .int .i64 0, .bool false, .slice none 0 0, .int .i32 0] 61))

theorem W4_rd (w : World) : Rd (w.heap.size + 1 + 1 + 1) R0 (W4 w) := by
  refine ⟨.slice none 0 0, ?_, World.ownsRow_nil _ _ _ _⟩
  have h := heap_alloc_new (((w.alloc (.cells #[.int .i64 0, .int .i64 0, .string ⟨#[]⟩] 24)).alloc (.cells #[.int .i64 0] 3)).alloc (.cells #[.int .i64 0] 27)) (.cells #[.int .i64 0, .bool false, .int .i64 0, .bool false, .slice none 0 0, .int .i32 0] 61)
  simpa [W4, R0] using h

theorem W4_below (w : World) : Below w.heap.size w (W4 w) :=
  ((((Below.refl _ w).alloc (Nat.le_refl _) _).alloc (by simp) _).alloc (by simp; omega) _).alloc (by simp; omega) _

/-- The cells of the named results, behind whatever left them alone. -/
structure Res3 (w w1 : World) : Prop where
  p0 : w1.cell? ⟨w.heap.size, 0, none⟩ = some (.int .i64 0)
  p1 : w1.cell? ⟨w.heap.size, 1, none⟩ = some (.int .i64 0)
  p2 : w1.cell? ⟨w.heap.size, 2, none⟩ = some (.string ⟨#[]⟩)
  q : w1.cell? ⟨w.heap.size + 1, 0, none⟩ = some (.int .i64 0)
  u : w1.cell? ⟨w.heap.size + 1 + 1, 0, none⟩ = some (.int .i64 0)
  fp0 : w1.frozen? ⟨w.heap.size, 0, none⟩ = false
  fp1 : w1.frozen? ⟨w.heap.size, 1, none⟩ = false
  fp2 : w1.frozen? ⟨w.heap.size, 2, none⟩ = false
  fq : w1.frozen? ⟨w.heap.size + 1, 0, none⟩ = false
  fu : w1.frozen? ⟨w.heap.size + 1 + 1, 0, none⟩ = false

theorem res3 (w w1 : World) (h : Below (w.heap.size + 1 + 1 + 1) (W4 w) w1) : Res3 w w1 := by
  constructor
  all_goals first
    | (rw [h.cell (by simp only; omega)]; simp [W4, go_sem]; done)
    | (rw [h.frozen (by simp only; omega)]; simp [W4, go_sem]; done)

theorem parse_below {w w1 : World} (h : Below (w.heap.size + 1 + 1 + 1) (W4 w) w1) : Below w.heap.size w w1 := (W4_below w).trans (h.mono (by omega))

set_option maxHeartbeats 400000 in
theorem parse20 (s : ByteArray) (w : World) :
    Calls Try.prog 20 #[.string s] w fun e w' => e = .returned (pVal (parseR s.data.toList)) ∧ Below w.heap.size w w' := by
  have hmf := hmf
  have hwalk := walkP s _ R0 (W4 w) (W4_rd w) Ok0
  have hP : parseR s.data.toList = parseEnd s.size (runL readR s.size 0 s.data.toList R0) := rfl
  rw [hP]
  clear hP
  generalize runL readR s.size 0 s.data.toList R0 = res at hwalk ⊢
  cases res with
  | inl p =>
    have HW : Hid (Calls Try.prog 27 #[.string s, .func (.func 37) #[.pointer (some ⟨w.heap.size + 1 + 1 + 1, 0, none⟩)] #[]] (W4 w) (WalkP (w.heap.size + 1 + 1 + 1) (W4 w) (.inl p))) := hwalk
    clear hwalk
    rw [W4] at HW
    rw [show pVal (parseEnd s.size (.inl p)) = .tuple #[.agg #[.int .i64 0, .int .i64 0, .string ⟨#[]⟩], .int .i64 p, .int .i64 4] from rfl]
    go_enter_defers Try.func20, Try.ntmps20
    go_wp2_with (go_at_call 27; go_must (refine HW.out.mono ?_); rintro e w1 ⟨rfl, hb1⟩)
    have hb1' : Below (w.heap.size + 1 + 1 + 1) (W4 w) w1 := hb1
    have hc := res3 w w1 hb1'
    have hbw := parse_below hb1'
    refine leaves_cons (f := 36) (args := #[.pointer (some ⟨w.heap.size, 0, none⟩), .pointer (some ⟨w.heap.size + 1, 0, none⟩), .pointer (some ⟨w.heap.size + 1 + 1, 0, none⟩)]) (by simp) (by simp [go_sem]) ?_
    refine (catch36 w.heap.size (w.heap.size + 1) (w.heap.size + 1 + 1) p _ _ _ _ _ [] w1 hc.p0 hc.p1 hc.p2 hc.q hc.u hc.fp0 hc.fp1 hc.fp2 hc.fq hc.fu (by omega) (by omega)).mono ?_
    rintro e u' w'' ⟨rfl, rfl, rfl⟩
    simp [Leaves, settle, results, Try.results20, go_sem, hc.p0, hc.p1, hc.p2, hc.q, hc.u]
    exact ((((hbw.setCell (Nat.le_refl _) _).setCell (Nat.le_refl _) _).setCell (Nat.le_refl _) _).setCell (by simp only; omega) _).setCell (by simp only; omega) _
  | inr r =>
    have HW : Hid (Calls Try.prog 27 #[.string s, .func (.func 37) #[.pointer (some ⟨w.heap.size + 1 + 1 + 1, 0, none⟩)] #[]] (W4 w) (WalkP (w.heap.size + 1 + 1 + 1) (W4 w) (.inr r))) := hwalk
    clear hwalk
    rw [W4] at HW
    cases hcm : completeR r with
    | false =>
      rw [show pVal (parseEnd s.size (.inr r)) = .tuple #[.agg #[.int .i64 0, .int .i64 0, .string ⟨#[]⟩], .int .i64 s.size, .int .i64 3] by simp [parseEnd, hcm, pVal]]
      have HC := Lib.hid hcm; clear hcm
      go_enter_defers Try.func20, Try.ntmps20
      go_wp2_with (go_at_call 27; go_must (refine HW.out.mono ?_); rintro e w1 ⟨rfl, hrd, hok, hb1⟩)
      have hb1' : Below (w.heap.size + 1 + 1 + 1) (W4 w) w1 := hb1
      have hbw := parse_below hb1'
      obtain ⟨p0, p1, p2, q0, u0, fp0, fp1, fp2, fq, fu⟩ := res3 w w1 hb1'
      clear hb1 hb1'
      have hcc := complete38 _ r w1 hrd
      rw [HC.out] at hcc
      have HCC := Lib.hid hcc; clear hcc
      go_wp2_with (go_at_call 38; go_must (refine HCC.out.mono ?_); rintro e w' ⟨rfl, rfl⟩)
      refine leaves_cons (f := 36) (args := #[.pointer (some ⟨w.heap.size, 0, none⟩), .pointer (some ⟨w.heap.size + 1, 0, none⟩), .pointer (some ⟨w.heap.size + 1 + 1, 0, none⟩)]) (by simp) (by simp [go_sem]) ?_
      refine (idle36 w.heap.size (w.heap.size + 1) (w.heap.size + 1 + 1) _).mono ?_
      rintro e u' w'' ⟨rfl, rfl, rfl⟩
      simp [Leaves, settle, results, Try.results20, go_sem, p0, p1, p2, q0, u0]
      exact ((((hbw.setCell (Nat.le_refl _) _).setCell (Nat.le_refl _) _).setCell (Nat.le_refl _) _).setCell (by simp only; omega) _).setCell (by simp only; omega) _
    | true =>
      cases hbg : bigR r with
      | true =>
        rw [show pVal (parseEnd s.size (.inr r)) = .tuple #[.agg #[.int .i64 0, .int .i64 0, .string ⟨#[]⟩], .int .i64 0, .int .i64 5] by simp [parseEnd, hcm, hbg, pVal]]
        have HC := Lib.hid hcm; clear hcm
        have HB := Lib.hid hbg; clear hbg
        go_enter_defers Try.func20, Try.ntmps20
        go_wp2_with (go_at_call 27; go_must (refine HW.out.mono ?_); rintro e w1 ⟨rfl, hrd, hok, hb1⟩)
        have hb1' : Below (w.heap.size + 1 + 1 + 1) (W4 w) w1 := hb1
        have hbw := parse_below hb1'
        obtain ⟨p0, p1, p2, q0, u0, fp0, fp1, fp2, fq, fu⟩ := res3 w w1 hb1'
        clear hb1 hb1'
        have hcc := complete38 _ r w1 hrd
        rw [HC.out] at hcc
        have HCC := Lib.hid hcc; clear hcc
        have hbb := tooBig39 _ r w1 hrd
        rw [HB.out] at hbb
        have HBB := Lib.hid hbb; clear hbb
        go_wp2_with (first | (go_at_call 38; go_must (refine HCC.out.mono ?_); rintro e w' ⟨rfl, rfl⟩) | (go_at_call 39; go_must (refine HBB.out.mono ?_); rintro e w' ⟨rfl, rfl⟩))
        refine leaves_cons (f := 36) (args := #[.pointer (some ⟨w.heap.size, 0, none⟩), .pointer (some ⟨w.heap.size + 1, 0, none⟩), .pointer (some ⟨w.heap.size + 1 + 1, 0, none⟩)]) (by simp) (by simp [go_sem]) ?_
        refine (idle36 w.heap.size (w.heap.size + 1) (w.heap.size + 1 + 1) _).mono ?_
        rintro e u' w'' ⟨rfl, rfl, rfl⟩
        simp [Leaves, settle, results, Try.results20, go_sem, p0, p1, p2, q0, u0]
        exact ((((hbw.setCell (Nat.le_refl _) _).setCell (Nat.le_refl _) _).setCell (Nat.le_refl _) _).setCell (by simp only; omega) _).setCell (by simp only; omega) _
      | false =>
        rw [show pVal (parseEnd s.size (.inr r)) = .tuple #[.agg #[.int .i64 (vKind r), .int .i64 (vNum r), .string (vText r)], .int .i64 s.size, .int .i64 0] by simp [parseEnd, hcm, hbg, pVal]]
        have HC := Lib.hid hcm; clear hcm
        have HB := Lib.hid hbg; clear hbg
        go_enter_defers Try.func20, Try.ntmps20
        go_wp2_with (go_at_call 27; go_must (refine HW.out.mono ?_); rintro e w1 ⟨rfl, hrd, hok, hb1⟩)
        have hb1' : Below (w.heap.size + 1 + 1 + 1) (W4 w) w1 := hb1
        have hbw := parse_below hb1'
        obtain ⟨p0, p1, p2, q0, u0, fp0, fp1, fp2, fq, fu⟩ := res3 w w1 hb1'
        have hz : w.heap.size + 1 + 1 + 1 < w1.heap.size := by obtain ⟨_, hb, _⟩ := hrd; exact (Array.getElem?_eq_some_iff.1 hb).1
        clear hb1 hb1'
        have hcc := complete38 _ r w1 hrd
        rw [HC.out] at hcc
        have HCC := Lib.hid hcc; clear hcc
        have hbb := tooBig39 _ r w1 hrd
        rw [HB.out] at hbb
        have HBB := Lib.hid hbb; clear hbb
        have HVV := Lib.hid (value40 _ r w1 hrd hok HB.out)
        go_wp2_with (first | (go_at_call 38; go_must (refine HCC.out.mono ?_); rintro e w' ⟨rfl, rfl⟩) | (go_at_call 39; go_must (refine HBB.out.mono ?_); rintro e w' ⟨rfl, rfl⟩))
        refine HVV.out.mono ?_
        rintro e w2 ⟨rfl, hb2⟩
        rw [← hb2.cell (p := ⟨w.heap.size, 0, none⟩) (by simp only; omega)] at p0
        rw [← hb2.cell (p := ⟨w.heap.size, 1, none⟩) (by simp only; omega)] at p1
        rw [← hb2.cell (p := ⟨w.heap.size, 2, none⟩) (by simp only; omega)] at p2
        rw [← hb2.cell (p := ⟨w.heap.size + 1, 0, none⟩) (by simp only; omega)] at q0
        rw [← hb2.cell (p := ⟨w.heap.size + 1 + 1, 0, none⟩) (by simp only; omega)] at u0
        rw [← hb2.frozen (p := ⟨w.heap.size, 0, none⟩) (by simp only; omega)] at fp0
        rw [← hb2.frozen (p := ⟨w.heap.size, 1, none⟩) (by simp only; omega)] at fp1
        rw [← hb2.frozen (p := ⟨w.heap.size, 2, none⟩) (by simp only; omega)] at fp2
        rw [← hb2.frozen (p := ⟨w.heap.size + 1, 0, none⟩) (by simp only; omega)] at fq
        rw [← hb2.frozen (p := ⟨w.heap.size + 1 + 1, 0, none⟩) (by simp only; omega)] at fu
        replace hbw := hbw.trans (hb2.mono (show w.heap.size ≤ w1.heap.size by omega))
        go_wp2
        refine leaves_cons (f := 36) (args := #[.pointer (some ⟨w.heap.size, 0, none⟩), .pointer (some ⟨w.heap.size + 1, 0, none⟩), .pointer (some ⟨w.heap.size + 1 + 1, 0, none⟩)]) (by simp) (by simp [go_sem]) ?_
        refine (idle36 w.heap.size (w.heap.size + 1) (w.heap.size + 1 + 1) _).mono ?_
        rintro e u' w'' ⟨rfl, rfl, rfl⟩
        simp [Leaves, settle, results, Try.results20, go_sem, p0, p1, p2, q0, u0]
        exact ((((hbw.setCell (Nat.le_refl _) _).setCell (Nat.le_refl _) _).setCell (Nat.le_refl _) _).setCell (by simp only; omega) _).setCell (by simp only; omega) _
end Go.Proofs.Ytapfhonapejpjaa
