/-
  Contracts of add and Append. No condition. Contracts of Append, of a tape all of whose memory is new, and of SameTexts. No condition. Contracts of SameTexts and begins. No condition. The document's example, by the kernel; a drum and a tape all of whose memory is new. No condition. What the reader makes of a record's sectors; a log that was written whole. No condition. The arguments of the laws of layer 5, opened; and read again behind a call that turned nothing. No condition.
-/
import Derived.Test.YtjanddnlhaionaaGreatDoorL6x4
import Derived.Test.YtjanddnlhaionaaGreatDoorL6x2
import Derived.Carry
import Derived.Deep.Slices
import Derived.Deep.Fields
import Derived.Lib.SmallJoins
set_option maxRecDepth 100000
namespace Go.Proofs.YtjanddnlhaionaaGreatDoor.L6
open Go.RowKit Go.Shelf
attribute [local go_sem] Oper.semAt_some

theorem LogAt.kept {w w' : World} {bt bl b : Nat} {t : T} {row : Option Nat} (h : LogAt w bt bl b t) (hg : w.grownBy w' row) (hr : ∀ k, row = some k → ∃ o, w.heap[k]? = some o ∧ o.isCells = false) : LogAt w' bt bl b t :=
  log_own (β := Unit) bt bl b (fun _ => t) () w w' row h hg hr

def ad0 : Oper := { dst := some 35, op := Go.Op.load 199 (Go.Operand.tmp 2), type := 199, pos := "tape.go:105", after := #[], guard := none }
def ad1 : Oper := { dst := some 36, op := Go.Op.load 199 (Go.Operand.tmp 2), type := 199, pos := "tape.go:105", after := #[], guard := none }
def ad2 : Oper := { dst := some 37, op := Go.Op.nilCheck (Go.Operand.tmp 36), type := 0, pos := "tape.go:105", after := #[{ on := 1, ground := Go.Ground.data }], guard := none }
def ad3 : Oper := { dst := some 38, op := Go.Op.fieldAddr 201 (Go.Operand.tmp 37) 0, type := 0, pos := "tape.go:105", after := #[{ on := 2, ground := Go.Ground.data }], guard := none }
def ad4 : Oper := { dst := some 39, op := Go.Op.load 59 (Go.Operand.tmp 38), type := 59, pos := "tape.go:105", after := #[{ on := 3, ground := Go.Ground.data }], guard := none }
def ad5 : Oper := { dst := some 40, op := Go.Op.load 199 (Go.Operand.tmp 2), type := 199, pos := "tape.go:105", after := #[], guard := none }
def ad6 : Oper := { dst := some 41, op := Go.Op.nilCheck (Go.Operand.tmp 40), type := 0, pos := "tape.go:105", after := #[{ on := 5, ground := Go.Ground.data }], guard := none }
def ad7 : Oper := { dst := some 42, op := Go.Op.fieldAddr 201 (Go.Operand.tmp 41) 3, type := 0, pos := "tape.go:105", after := #[{ on := 6, ground := Go.Ground.data }], guard := none }
def ad8 : Oper := { dst := some 43, op := Go.Op.load 3 (Go.Operand.tmp 42), type := 3, pos := "tape.go:105", after := #[{ on := 7, ground := Go.Ground.data }], guard := none }
def ad9 : Oper := { dst := some 44, op := Go.Op.fieldAddr 289 (Go.Operand.tmp 6) 2, type := 0, pos := "tape.go:105", after := #[], guard := none }
def ad10 : Oper := { dst := some 45, op := Go.Op.load 3 (Go.Operand.tmp 44), type := 3, pos := "tape.go:105", after := #[{ on := 9, ground := Go.Ground.data }], guard := none }
def ad11 : Oper := { dst := some 46, op := Go.Op.binOp Go.BinOp.add 3 (Go.Operand.tmp 43) (Go.Operand.tmp 45) 3, type := 3, pos := "tape.go:105", after := #[{ on := 8, ground := Go.Ground.data }, { on := 10, ground := Go.Ground.data }], guard := none }
def ad12 : Oper := { dst := some 47, op := Go.Op.load 289 (Go.Operand.tmp 6), type := 289, pos := "tape.go:105", after := #[], guard := none }
def ad13 : Oper := { dst := some 48, op := Go.Op.call { callee := Go.Callee.value (Go.Operand.func 200), args := #[Go.Operand.tmp 47], argTypes := #[289] }, type := 9, pos := "tape.go:105", after := #[{ on := 12, ground := Go.Ground.data }], guard := none }
def ad14 : Oper := { dst := some 49, op := Go.Op.call { callee := Go.Callee.value (Go.Operand.func 199), args := #[Go.Operand.tmp 39, Go.Operand.tmp 46, Go.Operand.tmp 48], argTypes := #[59, 3, 9] }, type := 30, pos := "tape.go:105", after := #[{ on := 4, ground := Go.Ground.data }, { on := 11, ground := Go.Ground.data }, { on := 13, ground := Go.Ground.data }, { on := 13, ground := Go.Ground.chain }], guard := none }
def ad15 : Oper := { dst := some 50, op := Go.Op.nilCheck (Go.Operand.tmp 35), type := 0, pos := "tape.go:105", after := #[{ on := 0, ground := Go.Ground.data }, { on := 0, ground := Go.Ground.phase }, { on := 1, ground := Go.Ground.phase }, { on := 2, ground := Go.Ground.phase }, { on := 3, ground := Go.Ground.phase }, { on := 4, ground := Go.Ground.phase }, { on := 5, ground := Go.Ground.phase }, { on := 6, ground := Go.Ground.phase }, { on := 7, ground := Go.Ground.phase }, { on := 8, ground := Go.Ground.phase }, { on := 9, ground := Go.Ground.phase }, { on := 10, ground := Go.Ground.phase }, { on := 11, ground := Go.Ground.phase }, { on := 12, ground := Go.Ground.phase }, { on := 13, ground := Go.Ground.phase }, { on := 14, ground := Go.Ground.phase }], guard := none }
def ad16 : Oper := { dst := some 51, op := Go.Op.fieldAddr 201 (Go.Operand.tmp 50) 4, type := 0, pos := "tape.go:105", after := #[{ on := 15, ground := Go.Ground.data }, { on := 0, ground := Go.Ground.phase }, { on := 1, ground := Go.Ground.phase }, { on := 2, ground := Go.Ground.phase }, { on := 3, ground := Go.Ground.phase }, { on := 4, ground := Go.Ground.phase }, { on := 5, ground := Go.Ground.phase }, { on := 6, ground := Go.Ground.phase }, { on := 7, ground := Go.Ground.phase }, { on := 8, ground := Go.Ground.phase }, { on := 9, ground := Go.Ground.phase }, { on := 10, ground := Go.Ground.phase }, { on := 11, ground := Go.Ground.phase }, { on := 12, ground := Go.Ground.phase }, { on := 13, ground := Go.Ground.phase }, { on := 14, ground := Go.Ground.phase }], guard := none }
def ad17 : Oper := { dst := none, op := Go.Op.store 30 (Go.Operand.tmp 51) (Go.Operand.tmp 49), type := 0, pos := "tape.go:105", after := #[{ on := 16, ground := Go.Ground.data }, { on := 14, ground := Go.Ground.data }, { on := 14, ground := Go.Ground.chain }, { on := 0, ground := Go.Ground.phase }, { on := 1, ground := Go.Ground.phase }, { on := 2, ground := Go.Ground.phase }, { on := 3, ground := Go.Ground.phase }, { on := 4, ground := Go.Ground.phase }, { on := 5, ground := Go.Ground.phase }, { on := 6, ground := Go.Ground.phase }, { on := 7, ground := Go.Ground.phase }, { on := 8, ground := Go.Ground.phase }, { on := 9, ground := Go.Ground.phase }, { on := 10, ground := Go.Ground.phase }, { on := 11, ground := Go.Ground.phase }, { on := 12, ground := Go.Ground.phase }, { on := 13, ground := Go.Ground.phase }, { on := 14, ground := Go.Ground.phase }], guard := none }
/-- What a round's region reads of memory. -/
def SC (A bl b Bx : Nat) (pos : Nat) (sx : Sec) (W : World) : Prop := W.cell? ⟨A, 0, none⟩ = some (.pointer (some ⟨bl, 0, none⟩)) ∧ W.cell? ⟨bl, 0, none⟩ = some (.pointer (some ⟨b, 0, none⟩)) ∧ W.cell? ⟨bl, 3, none⟩ = some (.int .i64 (pos : Int)) ∧
  W.cell? ⟨Bx, 0, none⟩ = some (.int .i64 (sx.life : Int)) ∧ W.cell? ⟨Bx, 1, none⟩ = some (.int .i64 (sx.record : Int)) ∧ W.cell? ⟨Bx, 2, none⟩ = some (.int .i64 (sx.part : Int)) ∧ W.cell? ⟨Bx, 3, none⟩ = some (.bool sx.last) ∧ W.cell? ⟨Bx, 4, none⟩ = some (.string (mkB sx.data))
theorem SC.of {A bt bl b Bx : Nat} {t : T} {sx : Sec} {W : World} (hl : LogAt W bt bl b t) (hA : Boxed W A 199 (.pointer (some ⟨bl, 0, none⟩))) (hs : W.heap[Bx]? = some (.cells (secV sx) 289 (0, 0))) : SC A bl b Bx t.pos sx W := by
  obtain ⟨-, kb, -, -, k3, -, -⟩ := hl.c
  exact ⟨hA.cell, kb, k3, (sec_cells hs).1, (sec_cells hs).2.1, (sec_cells hs).2.2.1, (sec_cells hs).2.2.2.1, (sec_cells hs).2.2.2.2⟩
set_option maxHeartbeats 4000000 in
theorem add48_fits {w : World} {F : Nat → Prop} {bt bl b : Nat} {t : T} {d : D} (h : TAt w F bt bl b d t) (hw : d.W.length + 4096 ≤ 1000000) (s : ByteArray) (hs : s.size ≤ 1000000000) (he : t.err = 0) (hf : needN s.size + t.pos ≤ d.S.length) :
    Calls Tryz.prog 170 #[.pointer (some ⟨bl, 0, none⟩), .string s] w fun e w' => e = .returned (.int .i64 (wrK t s d (needN s.size)).2) ∧
      PR w F b (wrK t s d (needN s.size)).1 w' ∧ LogAt w' bt bl b (if (wrK t s d (needN s.size)).2 = 0 then { t with count := t.count + 1, pos := t.pos + needN s.size } else { t with err := (wrK t s d (needN s.size)).2 }) ∧ Turn (FL F bl) w w' := by
  obtain ⟨⟨pd, pe⟩, hpp⟩ : ∃ p, wrK t s d (needN s.size) = p := ⟨_, rfl⟩
  rw [hpp]
  simp only
  obtain ⟨tF, htF⟩ : ∃ tF, (if pe = 0 then { t with count := t.count + 1, pos := t.pos + needN s.size } else { t with err := pe }) = tF := ⟨_, rfl⟩
  rw [htF]
  have HPP := Lib.hid hpp
  have HTF := Lib.hid htF
  clear hpp htF
  have HH := Lib.hid h
  have HN := Lib.hid (need17n s.size (by omega))
  obtain ⟨nd, hnd⟩ : ∃ nd, needN s.size = nd := ⟨_, rfl⟩
  have HND := Lib.hid hnd
  have hn2 := h.p.ok.n2
  rw [hnd] at HN hf
  obtain ⟨-, cb, c1, c2, c3, c4, cf⟩ := h.l.c
  rw [he] at c4
  have hbl := h.l.lt.2
  have hcc := h.ok.c
  obtain ⟨W0, hW0⟩ : ∃ W0, (w.alloc (.cells #[.pointer (some ⟨bl, 0, none⟩)] 199)).alloc (.cells #[.int .i64 0] 30) = W0 := ⟨_, rfl⟩
  have hb0 : Below w.heap.size w W0 := by rw [← hW0]; exact ((Below.refl _ _).alloc (Nat.le_refl _) _).alloc (by simp) _
  have hl0 := h.l.below hb0
  have HRM := Lib.hid (room49 hl0 (h.p.below hb0) h.ok)
  have bA : Boxed W0 w.heap.size 199 (.pointer (some ⟨bl, 0, none⟩)) := by rw [← hW0]; exact (Boxed.new w 199 _).alloc _
  have bB : Boxed W0 (w.heap.size + 1) 30 (.int .i64 0) := by rw [← hW0]; have := Boxed.new (w.alloc (.cells #[.pointer (some ⟨bl, 0, none⟩)] 199)) 30 (.int .i64 0); simpa using this
  have hsz0 : W0.heap.size = w.heap.size + 2 := by rw [← hW0]; simp
  have hA := bA.cell
  have hBc := bB.cell
  obtain ⟨-, db, d1, d2, d3, d4, df⟩ := hl0.c
  rw [he] at d4
  have HPT := Lib.hid (parts65 (t.life : Int) ((t.count : Int) + 1) s)
  obtain ⟨rm, hrm⟩ : ∃ rm, (d.S.length - t.pos : Nat) = rm := ⟨_, rfl⟩
  rw [hrm] at HRM
  have hle : ¬ (rm : Int) < (nd : Int) := by omega
  have hle' : ¬ rm < nd := by omega
  clear h cb c1 c2 c3 c4 cf df hrm
  refine (callsIn_wide (n := 6)).1 ?_
  refine callsIn_of_wp_marks Tryz.func170 rfl trivial ?_ rfl
  simp only [Tryz.ntmps170, List.size_toArray, List.length_cons, List.length_nil, Nat.reduceAdd, Nat.reduceSub, Array.replicate_succ, Array.replicate_zero, List.push_toArray, List.append_toArray, List.nil_append, List.cons_append]
  gi_upto_region 1 with fail
  clear hW0
  gi_upto_region 6 with (first | (refine ⟨trivial, ?_⟩; gi_at_call 197; refine (callsIn_wide.2 (HN.out _)).mono ?_; rintro e w' ⟨rfl, rfl⟩) | (refine ⟨trivial, ?_⟩; gi_at_call 135; refine (callsIn_wide.2 HRM.out).mono ?_; rintro e w' ⟨rfl, n, rfl⟩))
  obtain ⟨W1, hW1⟩ : ∃ W1, W0.drewN n = W1 := ⟨_, rfl⟩
  rw [hW1]
  have hl1 : LogAt W1.drew bt bl b t := by rw [← hW1]; exact ⟨hl0.rt, hl0.rl⟩
  have bA1 : Boxed W1.drew w.heap.size 199 (.pointer (some ⟨bl, 0, none⟩)) := by rw [← hW1]; exact bA
  have bB1 : Boxed W1.drew (w.heap.size + 1) 30 (.int .i64 0) := by rw [← hW1]; exact bB
  have hb1 : Below w.heap.size w W1.drew := by rw [← hW1]; exact (below_drewN hb0 n).drew
  have hsz1 : W1.drew.heap.size = w.heap.size + 2 := by rw [← hW1]; exact hsz0
  have e1 : W1.cell? ⟨bl, 1, none⟩ = some (.int .i64 (t.life : Int)) := by rw [← hW1]; exact d1
  have e2 : W1.cell? ⟨bl, 2, none⟩ = some (.int .i64 (t.count : Int)) := by rw [← hW1]; exact d2
  have eA : W1.cell? ⟨w.heap.size, 0, none⟩ = some (.pointer (some ⟨bl, 0, none⟩)) := by rw [← hW1]; exact hA
  have f1 : W1.drew.cell? ⟨bl, 1, none⟩ = some (.int .i64 (t.life : Int)) := e1
  have f2 : W1.drew.cell? ⟨bl, 2, none⟩ = some (.int .i64 (t.count : Int)) := e2
  have fA : W1.drew.cell? ⟨w.heap.size, 0, none⟩ = some (.pointer (some ⟨bl, 0, none⟩)) := eA
  have hwr : IntKind.i64.wrap ((t.count : Int) + 1) = (t.count : Int) + 1 := by rw [IntKind.wrap_i64]; omega
  clear hA hBc d1 d2 d3 d4 db hl0 bA bB hb0 hsz0 hW1 HRM HN hle hle'
  gi_cut [33] from 23 (fun s33 wx => s33 = .func (.func 212) #[] #[.pointer (some ⟨w.heap.size + 4, 0, none⟩), .pointer (some ⟨w.heap.size + 2, 0, none⟩), .pointer (some ⟨w.heap.size + 3, 0, none⟩)] ∧ wx = ((W1.drew.alloc (.cells #[.int .i64 (t.life : Int)] 3)).alloc (.cells #[.int .i64 ((t.count : Int) + 1)] 3)).alloc (.cells #[.string s] 9))
  case first =>
    refine wpIn_mono (Q := NoPanic _) ?_ (fun e a w h => NoPanic.imp e a w h)
    gi_region_with (refine ⟨trivial, ?_⟩; gi_at_call 198; refine (callsIn_wide.2 (HPT.out _)).mono ?_; rintro e w' ⟨rfl, rfl⟩)
    all_goals
      refine NoPanic.normal ?_
      gi_wp2_with fail
      gi_meet
      case rel => exact ⟨rfl, rfl⟩
  case rest =>
    obtain ⟨rfl, rfl⟩ := hcut
    have hsz2 : (((W1.drew.alloc (.cells #[.int .i64 (t.life : Int)] 3)).alloc (.cells #[.int .i64 ((t.count : Int) + 1)] 3)).alloc (.cells #[.string s] 9)).heap.size = w.heap.size + 5 := by simp only [World.size_alloc, hsz1]
    have hb2 : Below W1.drew.heap.size W1.drew (((W1.drew.alloc (.cells #[.int .i64 (t.life : Int)] 3)).alloc (.cells #[.int .i64 ((t.count : Int) + 1)] 3)).alloc (.cells #[.string s] 9)) := (((Below.refl _ _).alloc (Nat.le_refl _) _).alloc (by simp) _).alloc (by simp; omega) _
    have bX : Boxes (w.heap.size + 2) t.life (t.count + 1) s (((W1.drew.alloc (.cells #[.int .i64 (t.life : Int)] 3)).alloc (.cells #[.int .i64 ((t.count : Int) + 1)] 3)).alloc (.cells #[.string s] 9)) := by
      have q3 := ((Boxed.new W1.drew 3 (.int .i64 (t.life : Int))).alloc (.cells #[.int .i64 ((t.count : Int) + 1)] 3)).alloc (.cells #[.string s] 9)
      have q4 := (Boxed.new (W1.drew.alloc (.cells #[.int .i64 (t.life : Int)] 3)) 3 (.int .i64 ((t.count : Int) + 1))).alloc (.cells #[.string s] 9)
      have q5 := Boxed.new ((W1.drew.alloc (.cells #[.int .i64 (t.life : Int)] 3)).alloc (.cells #[.int .i64 ((t.count : Int) + 1)] 3)) 9 (.string s)
      simp only [World.size_alloc, hsz1] at q3 q4 q5
      exact ⟨q3, q4, q5⟩
    have hl2 := hl1.below hb2
    have bA2 := (hb2.block _ (Array.getElem?_eq_some_iff.1 bA1).1).trans bA1
    have bB2 := (hb2.block _ (Array.getElem?_eq_some_iff.1 bB1).1).trans bB1
    have hbw2 := hb1.trans (hb2.mono (by omega))
    generalize ((W1.drew.alloc (.cells #[.int .i64 (t.life : Int)] 3)).alloc (.cells #[.int .i64 ((t.count : Int) + 1)] 3)).alloc (.cells #[.string s] 9) = W2 at hsz2 hb2 bX hl2 bA2 bB2 hbw2 ⊢
    have hn : w.heap.size ≤ W2.heap.size := by omega
    have hI0 : AInv w F bt bl b d t s [] W2 := by
      refine ⟨?_, hl2, bA2, bB2, bX, Turn.of_below hbw2, rfl⟩
      obtain ⟨G, g1, g2, g3⟩ := HH.out.p.core
      exact (PR.of (w := w) (F := F) g1 (fun k hk => .inl (g2 k hk))).keep hbw2.size (fun k cs t hc _ => hbw2.block k (Array.getElem?_eq_some_iff.1 hc).1)
    clear hnd hl1 bA1 bB1 hb1 e1 e2 eA f1 f2 fA hwr hb2 hl2 bA2 bB2 hsz1
    gi_wp2_with fail
    refine wpIn_rangeFunc_ownH rfl (by omega) (gf := 212) (lb := #[.pointer (some ⟨w.heap.size + 4, 0, none⟩), .pointer (some ⟨w.heap.size + 2, 0, none⟩), .pointer (some ⟨w.heap.size + 3, 0, none⟩)]) rfl trivial (enters_of Tryz.func212 (by kernel_rfl) rfl)
      (iter75 5 (by omega) (w.heap.size + 2) t.life (t.count + 1) s hs W2 bX)
      (fun h k => h.trans k (fun i hi => .inl hi))
      (fun W l o o' hl ho hc _ => ⟨rfl, rfl, rfl, by simp [World.putObj], fun k _ hk => World.putObj_heap_other (fun e => hk (fun ⟨h1, h2⟩ => by omega))⟩)
      (Below.refl _ _) (fun _ => rfl)
      (AInv w F bt bl b d t s) (AInvX w F bt bl b d t s) (aInv_own w F bt bl b d t s _ hn) (aInvX_own w F bt bl b d t s _ hn) hI0
      (fun x a' W => ∃ Bx, W.heap[Bx]? = some (.cells (secV (partOf t.life (t.count + 1) s x.1)) 289 (0, 0)) ∧ a' = { tmps := #[.pointer (some ⟨bl, 0, none⟩), .string s, .pointer (some ⟨w.heap.size, 0, none⟩), undef, .pointer (some ⟨w.heap.size + 1, 0, none⟩), .int .i64 nd, .pointer (some ⟨Bx, 0, none⟩), .pointer (some ⟨bl, 0, none⟩), .pointer (some ⟨bl, 0, none⟩), .pointer (some ⟨bl, 4, none⟩), .int .i64 0, .bool false, undef, undef, undef, undef, .string s, .int .i64 s.size, .int .i64 nd, .int .i64 nd, .pointer (some ⟨bl, 0, none⟩), .int .i64 rm, .bool false, u23, u24, u25, u26, u27, u28, u29, u30, u31, u32, .func (.func 212) #[] #[.pointer (some ⟨w.heap.size + 4, 0, none⟩), .pointer (some ⟨w.heap.size + 2, 0, none⟩), .pointer (some ⟨w.heap.size + 3, 0, none⟩)], .agg (secV (partOf t.life (t.count + 1) s x.1)), u35, u36, u37, u38, u39, u40, u41, u42, u43, u44, u45, u46, u47, u48, u49, u50, u51, u52, u53, u54, u55, u56, u57, u58, u59, u60, u61, u62, u63, u64, u65, u66, u67, u68, u69, u70, u71, u72, u73, u74, u75], defers := [] })
      (fun x a' => by
        rintro _ X Y row ⟨Bx, q2, q3⟩ hg hr
        refine ⟨Bx, (hg.block Bx (Array.getElem?_eq_some_iff.1 q2).1 (fun e => ?_)).trans q2, q3⟩
        obtain ⟨_, o, ho, hc⟩ := hr Bx e.symm
        rw [q2] at ho
        cases ho
        cases hc) ?assign ?body ?done ?stop
    case assign =>
      rintro lp pre x W K hi hK
      unfold encP
      have hg := World.grownBy_alloc W (.cells (secV (partOf t.life (t.count + 1) s x.1)) 289) none
      have hIW : AInv w F bt bl b d t s pre (W.alloc (.cells (secV (partOf t.life (t.count + 1) s x.1)) 289)) := (aInv_own w F bt bl b d t s w.heap.size (Nat.le_refl _)).alloc _ hi
      have HR : Hid (∀ a', a' = _ → K a' (W.alloc (.cells (secV (partOf t.life (t.count + 1) s x.1)) 289))) := fun a' ha' =>
        hK a' _ ((KeepsOthers.alloc _ _).from _) ⟨rfl, rfl, rfl, by simp, fun k hk _ => Below.heap_alloc _ _ _ hk⟩ hIW ⟨W.heap.size, heap_alloc_new W _, ha'⟩
      have z := Tryz.z112
      clear hK hi hg hIW
      unfold secV partOf at HR ⊢
      simp only at HR ⊢
      generalize ((t.count + 1 : Nat) : Int) = ri at HR ⊢
      generalize decide (x.1 + 1 = needN s.size) = la at HR ⊢
      generalize mkB ((s.data.toList.drop (51 * x.1)).take 51) = dd at HR ⊢
      gi_wp2
      exact HR.out _ rfl
    case body =>
      rintro lp pre x a' W hlp ⟨rr, hrr⟩ ⟨⟨G, hp, hG, hGc⟩, hLG, bA, bB, hBX, hT, hz⟩ ⟨Bx, hrow, rfl⟩ hlt
      obtain ⟨hq1, hq2⟩ := wrF_len t s d pre
      have hqs := wrF_snoc t s d pre x
      unfold wrS at hqs
      rw [if_pos hz] at hqs
      obtain ⟨d1, hd1⟩ : ∃ d1, (wrF t s d pre).1 = d1 := ⟨_, rfl⟩
      rw [hd1] at hp hq1 hq2 hqs
      obtain ⟨ps, hps⟩ : ∃ ps : Nat, t.pos + x.1 = ps := ⟨_, rfl⟩
      rw [hps] at hqs
      have hx1 : x.1 < nd := by rw [← HND.out]; exact x.2
      have hlt' : pre.length < nd := by rw [← HND.out]; exact hlt
      have hlf := HH.out.ok.l
      have HTX := Lib.hid (text66 (partOf t.life (t.count + 1) s x.1) (by unfold partOf; simp; omega) (by show t.life < _; omega) (by show t.count + 1 < _; omega) (by show x.1 < _; omega) W.drew)
      obtain ⟨ly, hly⟩ : ∃ ly, layB (partOf t.life (t.count + 1) s x.1) = ly := ⟨_, rfl⟩
      rw [hly] at hqs HTX
      have HWR : Hid (∀ w3, Below W.drew.heap.size W.drew w3 → Calls Tryz.prog 199 #[.pointer (some ⟨b, 0, none⟩), .int .i64 (ps : Int), .string ly] w3 fun e w' => e = .returned (.int .i64 (writeE d1 ps ly)) ∧ PAt w' (Up G w3 w') b (writeD d1 ps ly) ∧ Turn G w3 w') := fun w3 hb3 =>
        write18 (PAt.below (show PAt W.drew G b d1 from hp.below ((Below.refl _ _).drew)) hb3) _ _ (by omega)
      obtain ⟨er, her⟩ : ∃ er, writeE d1 (ps : Int) ly = er := ⟨_, rfl⟩
      rw [her] at HWR hqs
      have hbt : ∀ k, G k → ¬ k = bt := fun k hk e => by obtain ⟨cs, ty, hc, ht⟩ := hGc k hk; exact ty_ne hc hLG.rt (by rcases ht with rfl | rfl | rfl <;> decide) e
      have hbl' : ∀ k, G k → ¬ k = bl := fun k hk e => by obtain ⟨cs, ty, hc, ht⟩ := hGc k hk; exact ty_ne hc hLG.rl (by rcases ht with rfl | rfl | rfl <;> decide) e
      have HFIN : Hid (∀ w3 w4, Below W.drew.heap.size W.drew w3 → PAt w4 (Up G w3 w4) b (writeD d1 ps ly) → Turn G w3 w4 →
          w4.cell? ⟨bl, 4, none⟩ = some (.int .i64 0) ∧ w4.frozen? ⟨bl, 4, none⟩ = false ∧ SC w.heap.size bl b Bx t.pos (partOf t.life (t.count + 1) s x.1) w4 ∧ SC w.heap.size bl b Bx t.pos (partOf t.life (t.count + 1) s x.1) (w4.setCell ⟨bl, 4, none⟩ (.int .i64 er)) ∧
          (PR w F b (wrF t s d (pre ++ [x])).1 (w4.setCell ⟨bl, 4, none⟩ (.int .i64 er)) ∧ LogAt (w4.setCell ⟨bl, 4, none⟩ (.int .i64 er)) bt bl b { t with err := er } ∧ Turn (FL F bl) w (w4.setCell ⟨bl, 4, none⟩ (.int .i64 er)) ∧
            KeepsFrom W2.heap.size W (w4.setCell ⟨bl, 4, none⟩ (.int .i64 er)) ∧ Turn (GP (w.heap.size + 2)) W (w4.setCell ⟨bl, 4, none⟩ (.int .i64 er)) ∧
            Boxed (w4.setCell ⟨bl, 4, none⟩ (.int .i64 er)) w.heap.size 199 (.pointer (some ⟨bl, 0, none⟩)) ∧ Boxed (w4.setCell ⟨bl, 4, none⟩ (.int .i64 er)) (w.heap.size + 1) 30 (.int .i64 0) ∧ Boxes (w.heap.size + 2) t.life (t.count + 1) s (w4.setCell ⟨bl, 4, none⟩ (.int .i64 er)))) := by
        intro w3 w4 hb3 hp4 ht4
        have hTT : Turn (fun k => G k ∨ k = bl) W (w4.setCell ⟨bl, 4, none⟩ (.int .i64 er)) := by
          refine ((Turn.of_below (F := fun k => G k ∨ k = bl) (a := W) ⟨hb3.os, hb3.tape, hb3.output, hb3.size, hb3.block⟩).trans (ht4.mono (fun i hi => .inl hi)) (fun i hi => .inl hi)).setCell _ _ (.inl (.inr rfl))
        have hke : ∀ (k : Nat) (o : Obj), W.heap[k]? = some o → (∀ (cs : Array Value) (ty : TypeId), o = Obj.cells cs ty (0, 0) → ¬ (ty = 120 ∨ ty = 144 ∨ ty = 146) ∧ ty ≠ 201) → (w4.setCell ⟨bl, 4, none⟩ (.int .i64 er)).heap[k]? = some o := fun k o hk ho => by
          refine (hTT.block k (Array.getElem?_eq_some_iff.1 hk).1 (fun hg => ?_)).trans hk
          rcases hg with hg | rfl
          · obtain ⟨cs, ty, hc, ht⟩ := hGc k hg
            rw [hc] at hk
            cases hk
            exact (ho _ _ rfl).1 ht
          · rw [hLG.rl] at hk
            cases hk
            exact (ho _ _ rfl).2 rfl
        have hl4 : LogAt w4 bt bl b t := by
          have h3 : LogAt w3 bt bl b t := (show LogAt W.drew bt bl b t from ⟨hLG.rt, hLG.rl⟩).below hb3
          exact h3.turn ht4 (fun hg => hbt bt hg rfl) (fun hg => hbl' bl hg rfl)
        obtain ⟨-, -, -, -, -, q4, qf⟩ := hl4.c
        have hbk : ∀ (k : Nat) (ty : TypeId) (v : Value), Boxed W k ty v → ¬ (ty = 120 ∨ ty = 144 ∨ ty = 146) → ty ≠ 201 → Boxed (w4.setCell ⟨bl, 4, none⟩ (.int .i64 er)) k ty v := fun k ty v hbx h1 h2 => hke k _ hbx (fun cs ty' e => by cases e; exact ⟨h1, h2⟩)
        have hA4 : Boxed w4 w.heap.size 199 (.pointer (some ⟨bl, 0, none⟩)) := by
          have h5 := (hbk _ _ _ bA (by decide) (by decide))
          exact (Below.heap_setCell w4 ⟨bl, 4, none⟩ (.int .i64 er) w.heap.size (by simp only; omega)).symm.trans h5
        have hs5 : (w4.setCell ⟨bl, 4, none⟩ (.int .i64 er)).heap[Bx]? = some (.cells (secV (partOf t.life (t.count + 1) s x.1)) 289 (0, 0)) := hke Bx _ hrow (fun cs ty' e => by cases e; exact ⟨by decide, by decide⟩)
        have hs4 : w4.heap[Bx]? = some (.cells (secV (partOf t.life (t.count + 1) s x.1)) 289 (0, 0)) := (Below.heap_setCell w4 ⟨bl, 4, none⟩ (.int .i64 er) Bx (fun e => ty_ne hrow hLG.rl (by decide) e)).symm.trans hs5
        refine ⟨by rw [q4, he], qf 4, SC.of hl4 hA4 hs4, SC.of (t := { t with err := er }) (hl4.set (t' := { t with err := er }) 4 _ rfl) (hbk _ _ _ bA (by decide) (by decide)) hs5, ?_, hl4.set (t' := { t with err := er }) 4 _ rfl, ?_, ⟨hTT.size, fun k o _ hk ho => hke k o hk (fun cs ty e => by rw [e] at ho; cases ho)⟩, hTT.mono (fun k hk => ?_), hbk _ _ _ bA (by decide) (by decide), hbk _ _ _ bB (by decide) (by decide), ⟨hbk _ _ _ hBX.b3 (by decide) (by decide), hbk _ _ _ hBX.b4 (by decide) (by decide), hbk _ _ _ hBX.b5 (by decide) (by decide)⟩⟩
        · rw [hqs]
          refine (PR.of (w := w) (F := F) hp4 (fun k hk => ?_)).keep (by simp [World.setCell]) (fun k cs ty hc hty => Below.heap_setCell _ _ _ _ (fun e => ty_ne hc hl4.rl (by rcases hty with rfl | rfl | rfl <;> decide) e))
          rcases hk with hk | hk
          · exact hG k hk
          · right
            have h1 := hb3.size
            have h2 := hT.size
            have h3 : W.drew.heap.size = W.heap.size := rfl
            omega
        · refine hT.trans hTT (fun i hi => ?_)
          rcases hi with hi | hi
          · rcases hG i hi with h1 | h1
            · exact .inl (.inl h1)
            · exact .inr h1
          · exact .inl (.inr hi)
        · rcases hk with hk | rfl
          · intro hin
            obtain ⟨cs, ty, hc, ht⟩ := hGc k hk
            obtain ⟨hi1, hi2⟩ := hin
            rcases (show k = w.heap.size + 2 ∨ k = w.heap.size + 2 + 1 ∨ k = w.heap.size + 2 + 2 by omega) with e | e | e
            · exact ty_ne hc hBX.b3 (by rcases ht with rfl | rfl | rfl <;> decide) e
            · exact ty_ne hc hBX.b4 (by rcases ht with rfl | rfl | rfl <;> decide) e
            · exact ty_ne hc hBX.b5 (by rcases ht with rfl | rfl | rfl <;> decide) e
          · intro hin
            obtain ⟨hi1, hi2⟩ := hin
            omega
      obtain ⟨-, kb, -, -, k3, -, -⟩ := hLG.c
      have kA := bA.cell
      have HC3 : Hid (∀ w3, Below W.drew.heap.size W.drew w3 → SC w.heap.size bl b Bx t.pos (partOf t.life (t.count + 1) s x.1) w3) := fun w3 hb3 => by
        have h1 : LogAt w3 bt bl b t := (show LogAt W.drew bt bl b t from ⟨hLG.rt, hLG.rl⟩).below hb3
        exact SC.of h1 ((hb3.block _ (Array.getElem?_eq_some_iff.1 bA).1).trans bA) ((hb3.block _ (Array.getElem?_eq_some_iff.1 hrow).1).trans hrow)
      have hwp : IntKind.i64.wrap ((t.pos : Int) + ((partOf t.life (t.count + 1) s x.1).part : Int)) = (ps : Int) := by show IntKind.i64.wrap ((t.pos : Int) + (x.1 : Int)) = _; rw [IntKind.wrap_i64]; omega
      unfold secV at HTX
      clear hp hG hGc hLG bA bB hBX hT hz hrow hlt hq1 hq2 hps hx1 hlt' hlf hbt hbl' her hly hd1 kb k3 kA
      dsimp only
      generalize secV (partOf t.life (t.count + 1) s x.1) = XV
      generalize partOf t.life (t.count + 1) s x.1 = sx at *
      gi_upto_region 8 with fail
      gi_cut [] from 35 (fun wx => (PR w F b (wrF t s d (pre ++ [x])).1 wx ∧ LogAt wx bt bl b { t with err := er } ∧ Turn (FL F bl) w wx ∧ KeepsFrom W2.heap.size W wx ∧ Turn (GP (w.heap.size + 2)) W wx ∧ Boxed wx w.heap.size 199 (.pointer (some ⟨bl, 0, none⟩)) ∧ Boxed wx (w.heap.size + 1) 30 (.int .i64 0) ∧ Boxes (w.heap.size + 2) t.life (t.count + 1) s wx))
      case first =>
        refine region_in_round (S := SC w.heap.size bl b Bx t.pos sx) (by kernel_rfl) (fun j o ho c => ?nodefer) (fun h => by obtain ⟨_, _, h⟩ := h; exact h) (HC3.out _ (Below.refl _ _)) (fun hH0 => ?_)
        case nodefer => exact noDefer (by kernel_rfl) j o ho c
        refine wpAnyH_take (i := 0) (oi := ad0) (v := .pointer (some ⟨bl, 0, none⟩)) rfl (by kernel_rfl) (by kernel_rfl) (by kernel_rfl) (fun _ _ _ h => h) (Or.inl ⟨by rfl, fun w hSw => by obtain ⟨k0, k1, k2, k3, k4, k5, k6, k7⟩ := hSw; unfold ad0; go_simp⟩) hH0 ?_
        simp only [Act.put, ad0, List.setIfInBounds_toArray, List.set_cons_zero, List.set_cons_succ]
        refine wpAnyH_take (i := 1) (oi := ad1) (v := .pointer (some ⟨bl, 0, none⟩)) rfl (by kernel_rfl) (by kernel_rfl) (by kernel_rfl) (fun _ _ _ h => h) (Or.inl ⟨by rfl, fun w hSw => by obtain ⟨k0, k1, k2, k3, k4, k5, k6, k7⟩ := hSw; unfold ad1; go_simp⟩) hH0 ?_
        simp only [Act.put, ad1, List.setIfInBounds_toArray, List.set_cons_zero, List.set_cons_succ]
        refine wpAnyH_take (i := 2) (oi := ad2) (v := .pointer (some ⟨bl, 0, none⟩)) rfl (by kernel_rfl) (by kernel_rfl) (by kernel_rfl) (fun _ _ _ h => h) (Or.inl ⟨by rfl, fun w hSw => by obtain ⟨k0, k1, k2, k3, k4, k5, k6, k7⟩ := hSw; unfold ad2; go_simp⟩) hH0 ?_
        simp only [Act.put, ad2, List.setIfInBounds_toArray, List.set_cons_zero, List.set_cons_succ]
        refine wpAnyH_take (i := 3) (oi := ad3) (v := .pointer (some ⟨bl, 0, none⟩)) rfl (by kernel_rfl) (by kernel_rfl) (by kernel_rfl) (fun _ _ _ h => h) (Or.inl ⟨by rfl, fun w hSw => by obtain ⟨k0, k1, k2, k3, k4, k5, k6, k7⟩ := hSw; unfold ad3; go_simp⟩) hH0 ?_
        simp only [Act.put, ad3, List.setIfInBounds_toArray, List.set_cons_zero, List.set_cons_succ]
        refine wpAnyH_take (i := 4) (oi := ad4) (v := .pointer (some ⟨b, 0, none⟩)) rfl (by kernel_rfl) (by kernel_rfl) (by kernel_rfl) (fun _ _ _ h => h) (Or.inl ⟨by rfl, fun w hSw => by obtain ⟨k0, k1, k2, k3, k4, k5, k6, k7⟩ := hSw; unfold ad4; go_simp⟩) hH0 ?_
        simp only [Act.put, ad4, List.setIfInBounds_toArray, List.set_cons_zero, List.set_cons_succ]
        refine wpAnyH_take (i := 5) (oi := ad5) (v := .pointer (some ⟨bl, 0, none⟩)) rfl (by kernel_rfl) (by kernel_rfl) (by kernel_rfl) (fun _ _ _ h => h) (Or.inl ⟨by rfl, fun w hSw => by obtain ⟨k0, k1, k2, k3, k4, k5, k6, k7⟩ := hSw; unfold ad5; go_simp⟩) hH0 ?_
        simp only [Act.put, ad5, List.setIfInBounds_toArray, List.set_cons_zero, List.set_cons_succ]
        refine wpAnyH_take (i := 6) (oi := ad6) (v := .pointer (some ⟨bl, 0, none⟩)) rfl (by kernel_rfl) (by kernel_rfl) (by kernel_rfl) (fun _ _ _ h => h) (Or.inl ⟨by rfl, fun w hSw => by obtain ⟨k0, k1, k2, k3, k4, k5, k6, k7⟩ := hSw; unfold ad6; go_simp⟩) hH0 ?_
        simp only [Act.put, ad6, List.setIfInBounds_toArray, List.set_cons_zero, List.set_cons_succ]
        refine wpAnyH_take (i := 7) (oi := ad7) (v := .pointer (some ⟨bl, 3, none⟩)) rfl (by kernel_rfl) (by kernel_rfl) (by kernel_rfl) (fun _ _ _ h => h) (Or.inl ⟨by rfl, fun w hSw => by obtain ⟨k0, k1, k2, k3, k4, k5, k6, k7⟩ := hSw; unfold ad7; go_simp⟩) hH0 ?_
        simp only [Act.put, ad7, List.setIfInBounds_toArray, List.set_cons_zero, List.set_cons_succ]
        refine wpAnyH_take (i := 8) (oi := ad8) (v := .int .i64 (t.pos : Int)) rfl (by kernel_rfl) (by kernel_rfl) (by kernel_rfl) (fun _ _ _ h => h) (Or.inl ⟨by rfl, fun w hSw => by obtain ⟨k0, k1, k2, k3, k4, k5, k6, k7⟩ := hSw; unfold ad8; go_simp⟩) hH0 ?_
        simp only [Act.put, ad8, List.setIfInBounds_toArray, List.set_cons_zero, List.set_cons_succ]
        refine wpAnyH_take (i := 9) (oi := ad9) (v := .pointer (some ⟨Bx, 2, none⟩)) rfl (by kernel_rfl) (by kernel_rfl) (by kernel_rfl) (fun _ _ _ h => h) (Or.inl ⟨by rfl, fun w hSw => by obtain ⟨k0, k1, k2, k3, k4, k5, k6, k7⟩ := hSw; unfold ad9; go_simp⟩) hH0 ?_
        simp only [Act.put, ad9, List.setIfInBounds_toArray, List.set_cons_zero, List.set_cons_succ]
        refine wpAnyH_take (i := 10) (oi := ad10) (v := .int .i64 (sx.part : Int)) rfl (by kernel_rfl) (by kernel_rfl) (by kernel_rfl) (fun _ _ _ h => h) (Or.inl ⟨by rfl, fun w hSw => by obtain ⟨k0, k1, k2, k3, k4, k5, k6, k7⟩ := hSw; unfold ad10; go_simp⟩) hH0 ?_
        simp only [Act.put, ad10, List.setIfInBounds_toArray, List.set_cons_zero, List.set_cons_succ]
        refine wpAnyH_take (i := 11) (oi := ad11) (v := .int .i64 (ps : Int)) rfl (by kernel_rfl) (by kernel_rfl) (by kernel_rfl) (fun _ _ _ h => h) (Or.inl ⟨by rfl, fun w hSw => by obtain ⟨k0, k1, k2, k3, k4, k5, k6, k7⟩ := hSw; unfold ad11; go_simp⟩) hH0 ?_
        simp only [Act.put, ad11, List.setIfInBounds_toArray, List.set_cons_zero, List.set_cons_succ]
        refine wpAnyH_take (i := 12) (oi := ad12) (v := .agg #[.int .i64 (sx.life : Int), .int .i64 (sx.record : Int), .int .i64 (sx.part : Int), .bool sx.last, .string (mkB sx.data)]) rfl (by kernel_rfl) (by kernel_rfl) (by kernel_rfl) (fun _ _ _ h => h) (Or.inl ⟨by rfl, fun w hSw => by obtain ⟨k0, k1, k2, k3, k4, k5, k6, k7⟩ := hSw; unfold ad12; go_simp⟩) hH0 ?_
        simp only [Act.put, ad12, List.setIfInBounds_toArray, List.set_cons_zero, List.set_cons_succ]
        refine wpAnyH_ready (rs := [13]) (by kernel_rfl) (by simp) (AllReadyH.cons (o := ad13) rfl (fun K hK => ?_) AllReadyH.nil)
        unfold ad13
        go_simp
        refine HTX.out.mono ?_
        rintro e' w3 ⟨rfl, hb3⟩
        refine hK.out _ _ (HC3.out _ hb3) (fun _ => ?_)
        clear hK K
        try simp only [Act.put, List.setIfInBounds_toArray, List.set_cons_zero, List.set_cons_succ]
        refine wpAnyH_ready (rs := [14]) (by kernel_rfl) (by simp) (AllReadyH.cons (o := ad14) rfl (fun K hK => ?_) AllReadyH.nil)
        unfold ad14
        go_simp
        refine (HWR.out _ hb3).mono ?_
        rintro e' w4 ⟨rfl, hp4, ht4⟩
        obtain ⟨q1, q2, q3, q5, q4⟩ := HFIN.out _ _ hb3 hp4 ht4
        have HQ := Lib.hid q4
        clear hp4 ht4 q4
        refine hK.out _ _ q3 (fun _ => ?_)
        clear hK K
        try simp only [Act.put, List.setIfInBounds_toArray, List.set_cons_zero, List.set_cons_succ]
        refine wpAnyH_take (i := 15) (oi := ad15) (v := .pointer (some ⟨bl, 0, none⟩)) rfl (by kernel_rfl) (by kernel_rfl) (by kernel_rfl) (fun _ _ _ h => h) (Or.inl ⟨by rfl, fun w hSw => by obtain ⟨k0, k1, k2, k3, k4, k5, k6, k7⟩ := hSw; unfold ad15; go_simp⟩) q3 ?_
        simp only [Act.put, ad15, List.setIfInBounds_toArray, List.set_cons_zero, List.set_cons_succ]
        refine wpAnyH_take (i := 16) (oi := ad16) (v := .pointer (some ⟨bl, 4, none⟩)) rfl (by kernel_rfl) (by kernel_rfl) (by kernel_rfl) (fun _ _ _ h => h) (Or.inl ⟨by rfl, fun w hSw => by obtain ⟨k0, k1, k2, k3, k4, k5, k6, k7⟩ := hSw; unfold ad16; go_simp⟩) q3 ?_
        simp only [Act.put, ad16, List.setIfInBounds_toArray, List.set_cons_zero, List.set_cons_succ]
        refine wpAnyH_ready (rs := [17]) (by kernel_rfl) (by simp) (AllReadyH.cons (o := ad17) rfl (fun K hK => ?_) AllReadyH.nil)
        unfold ad17
        go_simp
        refine hK.out _ _ q5 (fun _ => ?_)
        clear hK K
        try simp only [Act.put, List.setIfInBounds_toArray, List.set_cons_zero, List.set_cons_succ]
        refine wpAnyH_done (by kernel_rfl) ?_ _
        gi_wp2_with fail
        gi_meet
        case rel => exact HQ.out
      case rest =>
        have HQ := Lib.hid hcut
        have HSZ2 := Lib.hid hsz2
        clear hsz2
        have hl4 := hcut.2.1.c
        have vA := hcut.2.2.2.2.2.1.cell
        have vB := hcut.2.2.2.2.2.2.1.cell
        have vf := hcut.2.2.2.2.2.2.1.frozen
        have v4 : wc.cell? ⟨bl, 4, none⟩ = some (.int .i64 er) := hl4.2.2.2.2.2.1
        clear hcut hl4 HC3 HFIN HWR HTX hwp
        by_cases h0 : er = 0
        · have e0 : (er != (0 : Int)) = false := by rw [h0]; rfl
          have HF : Hid (KeepsFrom W2.heap.size W wc ∧ Turn (GP (w.heap.size + 2)) W wc ∧ AInv w F bt bl b d t s (pre ++ [x]) wc) := by
            refine ⟨HQ.out.2.2.2.1, HQ.out.2.2.2.2.1, HQ.out.1, ?_, HQ.out.2.2.2.2.2.1, HQ.out.2.2.2.2.2.2.1, HQ.out.2.2.2.2.2.2.2, HQ.out.2.2.1, by rw [hqs]; exact h0⟩
            have := HQ.out.2.1
            rw [h0, ← he] at this
            exact this
          clear HQ h0
          gi_wp2
          exact HF.out
        · have e0 : (er != (0 : Int)) = true := by rw [bne, Bool.not_eq_true', beq_eq_false_iff_ne]; exact h0
          have HF : Hid (KeepsFrom W2.heap.size W (wc.setCell ⟨w.heap.size + 1, 0, none⟩ (.int .i64 er)) ∧ AInvX w F bt bl b d t s .ret (pre ++ [x]) (wc.setCell ⟨w.heap.size + 1, 0, none⟩ (.int .i64 er))) := by
            have hBb := HQ.out.2.2.2.2.2.2.1
            have hne : ∀ (k : Nat) (cs : Array Value) (ty : TypeId), wc.heap[k]? = some (Obj.cells cs ty (0, 0)) → ty ≠ 30 → (wc.setCell ⟨w.heap.size + 1, 0, none⟩ (.int .i64 er)).heap[k]? = wc.heap[k]? := fun k cs ty hc hty => Below.heap_setCell _ _ _ _ (fun e => ty_ne hc hBb hty e)
            refine ⟨HQ.out.2.2.2.1.trans ((KeepsOthers.setCell _ _ _).from _), HQ.out.1.keep (by simp [World.setCell]) (fun k cs ty hc hty => hne k cs ty hc (by rcases hty with rfl | rfl | rfl <;> decide)), ?_, ?_, ?_, rfl, by rw [hqs]; exact h0⟩
            · rw [hqs]
              exact HQ.out.2.1.keep (hne _ _ _ HQ.out.2.1.rt (by decide)) (hne _ _ _ HQ.out.2.1.rl (by decide))
            · rw [hqs]; exact hBb.set _
            · exact HQ.out.2.2.1.setCell _ _ (.inr (by simp only; omega))
          clear HQ h0
          gi_wp2
          exact HF.out
    case done =>
      rintro D ys W hD rfl ⟨hPR, hLG, bA, bB, hBX, hT, hz⟩ hK
      have hall : wrF t s d (List.finRange (needN s.size)) = (pd, pe) := (wrF_all t s d).trans HPP.out
      rw [hall] at hPR hz
      simp only at hPR hz
      subst hz
      have htF : tF = { t with count := t.count + 1, pos := t.pos + nd } := by rw [← HTF.out, if_pos rfl, HND.out]
      subst htF
      have HF : Hid (∀ W', W' = ((W.setCell ⟨bl, 2, none⟩ (.int .i64 ((t.count : Int) + 1))).setCell ⟨bl, 3, none⟩ (.int .i64 ((t.pos : Int) + (nd : Int)))).setCell ⟨w.heap.size + 1, 0, none⟩ (.int .i64 0) →
          W'.heap[D]? = some (.deferred (some [])) ∧ Boxed W' (w.heap.size + 1) 30 (.int .i64 0) ∧ PR w F b pd W' ∧ LogAt W' bt bl b { t with count := t.count + 1, pos := t.pos + nd } ∧ Turn (FL F bl) w W') := by
        rintro W' rfl
        have h1 := hLG.set (t' := { t with count := t.count + 1 }) 2 (.int .i64 ((t.count : Int) + 1)) (by simp [logRow])
        have h2 := h1.set (t' := { t with count := t.count + 1, pos := t.pos + nd }) 3 (.int .i64 ((t.pos : Int) + (nd : Int))) (by simp [logRow])
        have hB1 : Boxed ((W.setCell ⟨bl, 2, none⟩ (.int .i64 ((t.count : Int) + 1))).setCell ⟨bl, 3, none⟩ (.int .i64 ((t.pos : Int) + (nd : Int)))) (w.heap.size + 1) 30 (.int .i64 0) :=
          (Below.heap_setCell _ _ _ _ (by simp only; omega)).trans ((Below.heap_setCell _ _ _ _ (by simp only; omega)).trans bB)
        refine ⟨(((KeepsOthers.setCell _ _ _).trans (KeepsOthers.setCell _ _ _)).trans (KeepsOthers.setCell _ _ _)).same D _ hK rfl, hB1.set _, ?_, ?_, ((hT.setCell _ _ (.inl (.inr rfl))).setCell _ _ (.inl (.inr rfl))).setCell _ _ (.inr (by simp only; omega))⟩
        · refine hPR.keep (by simp [World.setCell]) (fun k cs ty hc hty => ?_)
          have n1 := ty_ne hc hLG.rl (by rcases hty with rfl | rfl | rfl <;> decide)
          have n2 := ty_ne hc bB (by rcases hty with rfl | rfl | rfl <;> decide)
          rw [Below.heap_setCell _ _ _ _ n2, Below.heap_setCell _ _ _ _ n1, Below.heap_setCell _ _ _ _ n1]
        · exact h2.keep (Below.heap_setCell _ _ _ _ (fun e => ty_ne h2.rt hB1 (by decide) e)) (Below.heap_setCell _ _ _ _ (fun e => ty_ne h2.rl hB1 (by decide) e))
      obtain ⟨-, -, -, k2, k3, -, kf⟩ := hLG.c
      have kf2 := kf 2
      have kf3 := kf 3
      have kA := bA.cell
      have kB := bB.cell
      have kBf := bB.frozen
      have hw1 : IntKind.i64.wrap ((t.pos : Int) + (nd : Int)) = (t.pos : Int) + (nd : Int) := by rw [IntKind.wrap_i64]; omega
      have hn1 : ¬ bl = w.heap.size + 1 := by omega
      have hn0 : ¬ bl = w.heap.size := by omega
      have HSZ2 := Lib.hid hsz2
      clear hPR hLG bA bB hBX hT hK hsz2 kf
      gi_wp2
      obtain ⟨f1, f2, f3, f4, f5⟩ := HF.out _ rfl
      generalize ((W.setCell ⟨bl, 2, none⟩ (.int .i64 ((t.count : Int) + 1))).setCell ⟨bl, 3, none⟩ (.int .i64 ((t.pos : Int) + (nd : Int)))).setCell ⟨w.heap.size + 1, 0, none⟩ (.int .i64 0) = W' at f1 f2 f3 f4 f5 ⊢
      refine ⟨by simp, .inl ⟨_, _, rfl, run_takeDeferred f1, ?_⟩⟩
      have q1 := cell_kept f2.cell (grownBy_putObj' W' D (.deferred none)) (fun r e => by cases e; exact ⟨_, f1, rfl⟩)
      have hsz := HSZ2.out
      refine ⟨.int .i64 0, ?_, rfl, ?_, ?_, ?_⟩
      · simp [results, Tryz.results170, go_sem, q1]
      · exact pr_own (β := Unit) w F b (fun _ => _) () W' _ (some D) f3 (grownBy_putObj' W' D (.deferred none)) (fun r e => by cases e; exact ⟨_, f1, rfl⟩)
      · rw [he] at f4
        exact f4.kept (grownBy_putObj' W' D (.deferred none)) (fun k e => by cases e; exact ⟨_, f1, rfl⟩)
      · exact (ownFrom_turn (β := Unit) (Nat.le_refl w.heap.size)) () W' _ (some D) f5 (grownBy_putObj' W' D (.deferred none)) (fun r e => by cases e; exact ⟨by omega, _, f1, rfl⟩)
    case stop =>
      rintro D c pre W hD hpre ⟨hPR, hLG, bB, hT, rfl, hz⟩ hK
      have hall : wrF t s d pre = (pd, pe) := (wrF_prefix t s d pre hpre hz).symm.trans HPP.out
      rw [hall] at hPR hLG bB hz
      simp only at hPR hLG bB hz
      have htF : tF = { t with err := pe } := by rw [← HTF.out, if_neg hz]
      subst htF
      gi_wp2
      refine ⟨by simp, .inl ⟨_, _, rfl, run_takeDeferred hK, ?_⟩⟩
      have c1 := cell_kept bB.cell (grownBy_putObj' W D (.deferred none)) (fun r e => by cases e; exact ⟨_, hK, rfl⟩)
      refine ⟨.int .i64 pe, ?_, rfl, ?_, ?_, ?_⟩
      · simp [results, Tryz.results170, go_sem, c1]
      · exact pr_own (β := Unit) w F b (fun _ => _) () W _ (some D) hPR (grownBy_putObj' W D (.deferred none)) (fun r e => by cases e; exact ⟨_, hK, rfl⟩)
      · exact hLG.kept (grownBy_putObj' W D (.deferred none)) (fun k e => by cases e; exact ⟨_, hK, rfl⟩)
      · exact (ownFrom_turn (β := Unit) (Nat.le_refl w.heap.size)) () W _ (some D) hT (grownBy_putObj' W D (.deferred none)) (fun r e => by cases e; exact ⟨by omega, _, hK, rfl⟩)
end Go.Proofs.YtjanddnlhaionaaGreatDoor.L6
namespace Go.Proofs.YtjanddnlhaionaaGreatDoor.L6
open Go.RowKit Go.Shelf

theorem res48 {R : Ending → World → Prop} (a : Act) (W : World) (g : Nat) (q : Int) (hp : a.tmps[4]?.getD undef = .pointer (some ⟨g, 0, none⟩)) (hc : W.cell? ⟨g, 0, none⟩ = some (.int .i64 q)) (hR : R (.returned (.int .i64 q)) W) (hd : a.defers = [] := by rfl) : bodyPost Tryz.prog Tryz.f170 R .ret a W :=
  bodyPost_ret (v := .int .i64 q) (by simp [results, Tryz.results170, go_sem, hp, hc]) hd hR
set_option maxHeartbeats 2000000 in
theorem add48_err {w : World} {F : Nat → Prop} {bt bl b : Nat} {t : T} {d : D} (h : TAt w F bt bl b d t) (s : ByteArray) (he : t.err ≠ 0) :
    Calls Tryz.prog 170 #[.pointer (some ⟨bl, 0, none⟩), .string s] w fun e w' => e = .returned (.int .i64 t.err) ∧ Below w.heap.size w w' := by
  obtain ⟨-, -, -, -, -, c4, -⟩ := h.l.c
  have hbl := h.l.lt.2
  obtain ⟨er, her⟩ : ∃ er, t.err = er := ⟨_, rfl⟩
  rw [her] at c4 he ⊢
  have e0 : (er != (0 : Int)) = true := by rw [bne, Bool.not_eq_true', beq_eq_false_iff_ne]; exact he
  have HB : Hid (Below w.heap.size w ((w.alloc (.cells #[.pointer (some ⟨bl, 0, none⟩)] 199)).alloc (.cells #[.int .i64 er] 30))) := ((Below.refl _ _).alloc (Nat.le_refl _) _).alloc (by simp) _
  have bB := Boxed.new (w.alloc (.cells #[.pointer (some ⟨bl, 0, none⟩)] 199)) 30 (.int .i64 er)
  simp only [World.size_alloc] at bB
  have HC := Lib.hid bB.cell
  clear bB
  clear h her
  go_enter Tryz.func170, Tryz.ntmps170
  go_wp2
  exact res48 _ _ _ _ rfl HC.out ⟨rfl, HB.out⟩
set_option maxHeartbeats 2000000 in
theorem add48_full {w : World} {F : Nat → Prop} {bt bl b : Nat} {t : T} {d : D} (h : TAt w F bt bl b d t) (s : ByteArray) (hs : s.size ≤ 1000000000) (he : t.err = 0) (hf : ¬ needN s.size + t.pos ≤ d.S.length) :
    Calls Tryz.prog 170 #[.pointer (some ⟨bl, 0, none⟩), .string s] w fun e w' => e = .returned (.int .i64 8) ∧ Below w.heap.size w w' := by
  have HN := Lib.hid (need17n s.size (by omega))
  obtain ⟨nd, hnd⟩ : ∃ nd, needN s.size = nd := ⟨_, rfl⟩
  have hpo := h.ok.p
  have hn2 := h.p.ok.n2
  rw [hnd] at HN hf
  obtain ⟨-, -, -, -, -, c4, -⟩ := h.l.c
  rw [he] at c4
  have hbl := h.l.lt.2
  have hb0 : Below w.heap.size w ((w.alloc (.cells #[.pointer (some ⟨bl, 0, none⟩)] 199)).alloc (.cells #[.int .i64 0] 30)) := ((Below.refl _ _).alloc (Nat.le_refl _) _).alloc (by simp) _
  have HRM := Lib.hid (room49 (h.l.below hb0) (h.p.below hb0) h.ok)
  have bB := Boxed.new (w.alloc (.cells #[.pointer (some ⟨bl, 0, none⟩)] 199)) 30 (.int .i64 0)
  simp only [World.size_alloc] at bB
  have HC : Hid (∀ n, ((((w.alloc (.cells #[.pointer (some ⟨bl, 0, none⟩)] 199)).alloc (.cells #[.int .i64 0] 30)).drewN n).setCell ⟨w.heap.size + 1, 0, none⟩ (.int .i64 8)).cell? ⟨w.heap.size + 1, 0, none⟩ = some (.int .i64 8)) := fun n => ((show Boxed (((w.alloc (.cells #[.pointer (some ⟨bl, 0, none⟩)] 199)).alloc (.cells #[.int .i64 0] 30)).drewN n) (w.heap.size + 1) 30 (.int .i64 0) from bB).set (.int .i64 8)).cell
  clear bB
  have HB : Hid (∀ n, Below w.heap.size w ((((w.alloc (.cells #[.pointer (some ⟨bl, 0, none⟩)] 199)).alloc (.cells #[.int .i64 0] 30)).drewN n).setCell ⟨w.heap.size + 1, 0, none⟩ (.int .i64 8))) := fun n => (below_drewN hb0 n).setCell (by simp only; omega) _
  obtain ⟨rm, hrm⟩ : ∃ rm, (d.S.length - t.pos : Nat) = rm := ⟨_, rfl⟩
  rw [hrm] at HRM
  have hle : (rm : Int) < (nd : Int) := by omega
  have hle' : rm < nd := by omega
  have hndl : (nd : Int) ≤ 1000000001 := by rw [← hnd]; unfold needN; split <;> omega
  clear h hb0 hrm hf hpo hn2 hnd
  go_enter Tryz.func170, Tryz.ntmps170
  go_wp2_with (first | (go_at_call 197; refine (HN.out _).mono ?_; rintro e w' ⟨rfl, rfl⟩) | (go_at_call 135; refine HRM.out.mono ?_; rintro e w' ⟨rfl, n, rfl⟩))
  exact res48 _ _ _ _ rfl (HC.out n) ⟨rfl, HB.out n⟩
/-- Append, whatever becomes of it. -/
theorem append26 {w : World} {F : Nat → Prop} {bt bl b : Nat} {t : T} {d : D} (h : TAt w F bt bl b d t) (hw : d.W.length + 4096 ≤ 1000000) (hc : t.count < 1000000) (s : ByteArray) (hs : s.size ≤ 1000000000) :
    Calls Tryz.prog 132 #[.pointer (some ⟨bt, 0, none⟩), .string s] w fun e w' => e = .returned (.int .i64 (appE t d s)) ∧ ∃ G, TAt w' G bt bl b (appD t d s) (appT t d s) ∧ (∀ k, G k → F k ∨ w.heap.size ≤ k) ∧ Turn (FL F bl) w w' := by
  have HADD : Hid (Calls Tryz.prog 170 #[.pointer (some ⟨bl, 0, none⟩), .string s] w fun e w' => e = .returned (.int .i64 (appE t d s)) ∧ ∃ G, TAt w' G bt bl b (appD t d s) (appT t d s) ∧ (∀ k, G k → F k ∨ w.heap.size ≤ k) ∧ Turn (FL F bl) w w') := by
    by_cases he : t.err = 0
    · by_cases hf : needN s.size + t.pos ≤ d.S.length
      · have e1 : appFits t d s = true := by unfold appFits; rw [decide_eq_true he, decide_eq_true hf]; rfl
        have e2 : appE t d s = (wrK t s d (needN s.size)).2 := by unfold appE; rw [if_pos he, if_pos hf]
        have e3 : appD t d s = (wrK t s d (needN s.size)).1 := by unfold appD; rw [if_pos e1]
        have e4 : appT t d s = if (wrK t s d (needN s.size)).2 = 0 then { t with count := t.count + 1, pos := t.pos + needN s.size } else { t with err := (wrK t s d (needN s.size)).2 } := by unfold appT; rw [if_pos e1]
        rw [e2, e3, e4]
        refine (add48_fits h hw s hs he hf).mono ?_
        rintro e w' ⟨rfl, ⟨G, g1, g2, g3⟩, hl, ht⟩
        refine ⟨rfl, G, ⟨hl, g1, ?_, fun hg => ?_, fun hg => ?_⟩, g2, ht⟩
        · have hlen : (wrK t s d (needN s.size)).1.S.length = d.S.length := by rw [← wrF_all]; exact (wrF_len t s d _).1
          split
          · exact ⟨by show t.count + 1 ≤ _; omega, h.ok.l, h.ok.l0, by rw [hlen]; show t.pos + needN s.size ≤ _; omega⟩
          · exact ⟨h.ok.c, h.ok.l, h.ok.l0, by rw [hlen]; exact h.ok.p⟩
        · obtain ⟨cs, ty, hcc, hty⟩ := g3 bt hg
          exact ty_ne hcc hl.rt (by rcases hty with rfl | rfl | rfl <;> decide) rfl
        · obtain ⟨cs, ty, hcc, hty⟩ := g3 bl hg
          exact ty_ne hcc hl.rl (by rcases hty with rfl | rfl | rfl <;> decide) rfl
      · have e1 : appFits t d s = false := by unfold appFits; rw [decide_eq_false hf, Bool.and_false]
        have e2 : appE t d s = 8 := by unfold appE; rw [if_pos he, if_neg hf]
        have e3 : appD t d s = d := by unfold appD; rw [e1]; rfl
        have e4 : appT t d s = t := by unfold appT; rw [e1]; rfl
        rw [e2, e3, e4]
        refine (add48_full h s hs he hf).mono ?_
        rintro e w' ⟨rfl, hb⟩
        exact ⟨rfl, F, ⟨h.l.below hb, h.p.below hb, h.ok, h.n1, h.n2⟩, fun k hk => .inl hk, Turn.of_below hb⟩
    · have e1 : appFits t d s = false := by unfold appFits; rw [decide_eq_false he]; rfl
      have e2 : appE t d s = t.err := by unfold appE; rw [if_neg he]
      have e3 : appD t d s = d := by unfold appD; rw [e1]; rfl
      have e4 : appT t d s = t := by unfold appT; rw [e1]; rfl
      rw [e2, e3, e4]
      refine (add48_err h s he).mono ?_
      rintro e w' ⟨rfl, hb⟩
      exact ⟨rfl, F, ⟨h.l.below hb, h.p.below hb, h.ok, h.n1, h.n2⟩, fun k hk => .inl hk, Turn.of_below hb⟩
  have HE := Lib.hid (exists43 h.l)
  obtain ⟨c0, -, -, -, -, -, -⟩ := h.l.c
  clear h
  generalize appD t d s = dd at HADD ⊢
  generalize appT t d s = tt at HADD ⊢
  go_enter Tryz.func132, Tryz.ntmps132
  go_wp2_with (first | (go_at_call 134; refine HE.out.mono ?_; rintro e w' ⟨rfl, rfl⟩) | (go_at_call 170; refine HADD.out.mono ?_; rintro e w' ⟨rfl, h1⟩; have H1 := Lib.hid h1; clear h1))
  go_ret
  exact ⟨rfl, H1.out⟩
end Go.Proofs.YtjanddnlhaionaaGreatDoor.L6
namespace Go.Proofs.YtjanddnlhaionaaGreatDoor.L6
open Go.RowKit

/-- A row of strings of one's own. -/
def StrsAt (w : World) (v : Value) (l : List ByteArray) : Prop := w.ownsRow 0 9 1 v l.length (strs l)
theorem str_eq (s t : ByteArray) : (s.toList == t.toList) = decide (s = t) := by
  rw [Bool.eq_iff_iff, beq_iff_eq, decide_eq_true_eq]
  constructor
  · intro h
    rw [ByteArray.toList_eq, ByteArray.toList_eq] at h
    cases s; cases t
    simp at h
    rw [h]
  · intro h; rw [h]
def eqTo (a b : List ByteArray) (k : Nat) : Prop := a.take k = b.take k

end Go.Proofs.YtjanddnlhaionaaGreatDoor.L6
namespace Go.Proofs.YtjanddnlhaionaaGreatDoor.L6
open Go.RowKit

def bA : ByteArray := ⟨#[144]⟩
def bB : ByteArray := ⟨#[98]⟩
def e0 : D := newD 8
def f0 : T := openT e0
def e1 : D := appD f0 e0 bA
def f1 : T := appT f0 e0 bA
def e2 : D := appD f1 e1 bB
def f2 : T := appT f1 e1 bB
def exChk : Bool := decide (openE e0 = 0) && decide ((scanD e0).recs.length = 0) && decide (appE f0 e0 bA = 0) && decide (appE f1 e1 bB = 0) && decide (f2.count = 2) && decide (f2.life = 1) && decide (e2.S.length - f2.pos = 6) &&
  decide (e1.W.length ≤ 10) && decide (e2.W.length ≤ 10) && decide (f1.count ≤ 10) && decide ((scanD (crashD e2 [1])).recs.length = 0) && decide ((scanD (crashD e2 [0])).recs.map (·.data.toList) = [[144]]) && decide ((scanD (crashD e2 [0])).occ = 1) && decide ((scanD (crashD e2 [0])).great = 1)
/-- A drum and a tape whose blocks all lie from w0's end on; nothing of w0 has turned. -/
def TN (w0 w : World) (bt bl b : Nat) (d : D) (t : T) : Prop := ∃ F, TAt w F bt bl b d t ∧ (∀ k, F k → w0.heap.size ≤ k) ∧ w0.heap.size ≤ bt ∧ w0.heap.size ≤ bl ∧ Below w0.heap.size w0 w
theorem TN.pn {w0 w : World} {bt bl b : Nat} {d : D} {t : T} (h : TN w0 w bt bl b d t) : PN w0 w b d := by
  obtain ⟨F, h1, h2, -, -, h5⟩ := h
  exact ⟨F, h1.p, h2, h5⟩
theorem TN.below {w0 w w' : World} {bt bl b : Nat} {d : D} {t : T} (h : TN w0 w bt bl b d t) (hb : Below w.heap.size w w') : TN w0 w' bt bl b d t := by
  obtain ⟨F, h1, h2, h3, h4, h5⟩ := h
  exact ⟨F, ⟨h1.l.below hb, h1.p.below hb, h1.ok, h1.n1, h1.n2⟩, h2, h3, h4, h5.trans (hb.mono h5.size)⟩
theorem lenT {w0 w : World} {bt bl b : Nat} {d : D} {t : T} (h : TN w0 w bt bl b d t) : Calls Tryz.prog 85 #[.pointer (some ⟨bt, 0, none⟩)] w fun e w' => e = .returned (.int .i64 (t.count : Int)) ∧ w = w' := by
  obtain ⟨F, h1, -⟩ := h
  exact len25 h1.l
theorem openT_ok (d : D) (h : Ok d) (he : openE d = 0) : OkT d (openT d) := by
  have hg : (scanD d).great < 4294967296 := great_lt (shown d)
  have hr := (scanL_ok (shown d)).1
  have ho := occ_le (shown d)
  have hl : (shown d).length = d.S.length := by simp [shown]
  have hn := h.n2
  have hne : (scanD d).great ≠ 4294967295 := by
    intro hq
    unfold openE at he
    by_cases hgo : d.gone = true
    · rw [if_pos hgo] at he; cases he
    · rw [if_neg hgo, if_pos hq] at he; cases he
  exact ⟨by show (scanL (shown d)).recs.length ≤ _; omega, by show (scanD d).great + 1 ≤ _; omega, by show 0 < (scanD d).great + 1; omega, by show (scanL (shown d)).occ ≤ _; omega⟩
theorem openN {w0 w : World} {b : Nat} {d : D} (h : PN w0 w b d) (hw : d.W.length ≤ 1000000) (he : openE d = 0) :
    Calls Tryz.prog 74 #[.pointer (some ⟨b, 0, none⟩)] w fun e w' => ∃ bt bl v, e = .returned (.tuple #[.pointer (some ⟨bt, 0, none⟩), v, .int .i64 0]) ∧ TN w0 w' bt bl b d (openT d) ∧ w'.ownsRow w.heap.size 9 1 v (scanD d).recs.length (strs (scanD d).recs) ∧ Below w.heap.size w w' := by
  obtain ⟨F, hP, hF, hB⟩ := h
  refine (open19 hP hw).mono ?_
  rintro e w' ⟨hb, h1⟩
  rw [if_pos he] at h1
  obtain ⟨bt, bl, v, rfl, hl, h3, h4, ho⟩ := h1
  refine ⟨bt, bl, v, rfl, ⟨F, ⟨hl, hP.below hb, openT_ok d hP.ok he, fun hf => ?_, fun hf => ?_⟩, hF, Nat.le_trans hB.size h3, Nat.le_trans hB.size h4, hB.trans (hb.mono hB.size)⟩, ho, hb⟩
  · have := hP.lt bt hf; omega
  · have := hP.lt bl hf; omega
end Go.Proofs.YtjanddnlhaionaaGreatDoor.L6
namespace Go.Proofs.YtjanddnlhaionaaGreatDoor.L6
open Go.RowKit

def secsOf (life rec : Nat) (s : ByteArray) : List ByteArray := (List.range (needN s.size)).map fun i => layB (partOf life rec s i)
theorem needN_pos (n : Nat) : 0 < needN n := by unfold needN; split <;> omega
theorem secsOf_len (life rec : Nat) (s : ByteArray) : (secsOf life rec s).length = needN s.size := by simp [secsOf]
theorem partOf_ok (life rec : Nat) (s : ByteArray) (i : Nat) (h1 : 0 < life) (h2 : life < 4294967296) (h3 : rec < 4294967296) (hi : i < needN s.size) (hn : needN s.size ≤ 65536) : OkS (partOf life rec s i) := by
  refine ⟨h1, h2, h3, by show i < 65536; omega, by show ((s.data.toList.drop (51 * i)).take 51).length ≤ 51; rw [List.length_take]; omega, fun hl => ?_⟩
  have hl : decide (i + 1 = needN s.size) = false := hl
  rw [decide_eq_false_iff_not] at hl
  show ((s.data.toList.drop (51 * i)).take 51).length = 51
  rw [List.length_take, List.length_drop, len_list]
  have hi2 : i + 1 < needN s.size := by omega
  unfold needN at hi2
  split at hi2
  · omega
  · omega
theorem says_part (life rec : Nat) (s : ByteArray) (i : Nat) (h1 : 0 < life) (h2 : life < 4294967296) (h3 : rec < 4294967296) (hi : i < needN s.size) (hn : needN s.size ≤ 65536) :
    says (layB (partOf life rec s i)).data.toList = some (partOf life rec s i) := by
  rw [layB_list]; exact says_lay _ (partOf_ok life rec s i h1 h2 h3 hi hn)

/-- The reader stands behind whole records. -/
structure Clean (r : Rd) : Prop where
  e : r.ended = false
  p : r.parts = 0
  d : r.data = []
theorem part_end (s : ByteArray) (i : Nat) (h : i + 1 = needN s.size) : s.data.toList.take (51 * (i + 1)) = s.data.toList := by
  refine List.take_of_length_le ?_
  rw [len_list, h]
  unfold needN
  split <;> omega
/-- After k parts of a record that is not yet whole. -/
def midR (r : Rd) (life : Nat) (s : ByteArray) (k : Nat) : Rd := { r with vis := r.vis + k, great := if k = 0 then r.great else max r.great life, life := if k = 0 then r.life else life, parts := k, data := s.data.toList.take (51 * k) }
def endR (r : Rd) (life : Nat) (s : ByteArray) : Rd := { r with vis := r.vis + needN s.size, great := max r.great life, life := life, recs := r.recs ++ [s], occ := r.vis + needN s.size }
theorem visit_part (r : Rd) (life : Nat) (s : ByteArray) (k : Nat) (hc : Clean r) (hl : r.life ≤ life) (h1 : 0 < life) (h2 : life < 4294967296) (h3 : r.recs.length + 1 < 4294967296) (hk : k < needN s.size) (hn : needN s.size ≤ 65536) :
    visit (midR r life s k) (layB (partOf life (r.recs.length + 1) s k)) = if k + 1 = needN s.size then endR r life s else midR r life s (k + 1) := by
  unfold visit
  rw [says_part life (r.recs.length + 1) s k h1 h2 h3 hk hn]
  unfold visitO
  have he0 := hc.e
  have hen : (midR r life s k).ended = false := hc.e
  have hex : expects (midR r life s k) (partOf life (r.recs.length + 1) s k) = true := by
    unfold expects midR partOf
    simp only [decide_true, Bool.true_and, Bool.or_eq_true, Bool.and_eq_true, decide_eq_true_eq]
    by_cases h0 : k = 0
    · rw [if_pos h0]
      by_cases he : life = r.life
      · exact .inl he
      · exact .inr ⟨by omega, h0⟩
    · rw [if_neg h0]; exact .inl rfl
  simp only [hen, hex, Bool.not_true, Bool.or_self, Bool.false_eq_true, if_false]
  unfold takeS
  have hdat : s.data.toList.take (51 * k) ++ (s.data.toList.drop (51 * k)).take 51 = s.data.toList.take (51 * (k + 1)) := by
    rw [show 51 * (k + 1) = 51 * k + 51 by omega, List.take_add]
  by_cases hlast : k + 1 = needN s.size
  · have hd2 : (partOf life (r.recs.length + 1) s k).last = true := decide_eq_true hlast
    rw [hd2, if_pos rfl, if_pos hlast]
    unfold endR midR partOf
    simp only [hdat, part_end s k hlast]
    have hs : (⟨s.data.toList.toArray⟩ : ByteArray) = s := str_eta s
    rw [hs]
    have hp := hc.p
    have hd := hc.d
    by_cases h0 : k = 0
    · subst h0
      rw [← hlast]
      simp [hp, hd, he0]
    · rw [if_neg h0]
      have : max (max r.great life) life = max r.great life := by omega
      rw [this, ← hlast, hp, hd, he0, Nat.add_assoc]
  · have hd2 : (partOf life (r.recs.length + 1) s k).last = false := decide_eq_false hlast
    rw [hd2, if_neg (by simp), if_neg hlast]
    unfold midR partOf
    simp only [hdat]
    by_cases h0 : k = 0
    · subst h0
      simp [he0]
    · rw [if_neg h0, if_neg (by omega), if_neg (by omega)]
      have : max (max r.great life) life = max r.great life := by omega
      rw [this, he0, Nat.add_assoc]
theorem mid_zero (r : Rd) (life : Nat) (s : ByteArray) (hc : Clean r) : midR r life s 0 = r := by
  have := hc.p
  have := hc.d
  unfold midR
  cases r
  simp_all
theorem visit_rec (r : Rd) (life : Nat) (s : ByteArray) (hc : Clean r) (hl : r.life ≤ life) (h1 : 0 < life) (h2 : life < 4294967296) (h3 : r.recs.length + 1 < 4294967296) (hn : needN s.size ≤ 65536) :
    (secsOf life (r.recs.length + 1) s).foldl visit r = endR r life s := by
  have H : ∀ k, k < needN s.size → ((List.range k).map fun i => layB (partOf life (r.recs.length + 1) s i)).foldl visit r = midR r life s k := by
    intro k
    induction k with
    | zero => intro _; rw [mid_zero r life s hc]; rfl
    | succ k ih =>
      intro hk
      rw [List.range_succ, List.map_append, List.foldl_append, ih (by omega)]
      show visit _ _ = _
      rw [visit_part r life s k hc hl h1 h2 h3 (by omega) hn, if_neg (by omega)]
  obtain ⟨m, hm⟩ : ∃ m, needN s.size = m + 1 := ⟨needN s.size - 1, by have := needN_pos s.size; omega⟩
  unfold secsOf
  rw [hm, List.range_succ, List.map_append, List.foldl_append, H m (by omega)]
  show visit _ _ = _
  rw [visit_part r life s m hc hl h1 h2 h3 (by omega) hn, if_pos hm.symm]
theorem endR_clean (r : Rd) (life : Nat) (s : ByteArray) (hc : Clean r) : Clean (endR r life s) := ⟨hc.e, hc.p, hc.d⟩

/-- All the sectors of records, the first of number rec. -/
def allSecs (life : Nat) : Nat → List ByteArray → List ByteArray
  | _, [] => []
  | rec, s :: l => secsOf life rec s ++ allSecs life (rec + 1) l
theorem allSecs_snoc (life : Nat) : ∀ (rec : Nat) (l : List ByteArray) (s : ByteArray), allSecs life rec (l ++ [s]) = allSecs life rec l ++ secsOf life (rec + l.length) s
  | rec, [], s => by simp [allSecs]
  | rec, a :: l, s => by
    simp only [List.cons_append, allSecs, allSecs_snoc life (rec + 1) l s, List.append_assoc, List.length_cons]
    rw [show rec + 1 + l.length = rec + (l.length + 1) by omega]
theorem visit_all (life : Nat) (h1 : 0 < life) (h2 : life < 4294967296) : ∀ (l : List ByteArray) (r : Rd), Clean r → r.life ≤ life → r.recs.length + l.length < 4294967295 → (∀ s ∈ l, needN s.size ≤ 65536) →
    Clean ((allSecs life (r.recs.length + 1) l).foldl visit r) ∧ ((allSecs life (r.recs.length + 1) l).foldl visit r).recs = r.recs ++ l ∧ ((allSecs life (r.recs.length + 1) l).foldl visit r).vis = r.vis + (allSecs life (r.recs.length + 1) l).length ∧
      (((allSecs life (r.recs.length + 1) l).foldl visit r).occ = if l = [] then r.occ else r.vis + (allSecs life (r.recs.length + 1) l).length) ∧ ((allSecs life (r.recs.length + 1) l).foldl visit r).life ≤ life ∧ ((allSecs life (r.recs.length + 1) l).foldl visit r).great ≤ max r.great life
  | [], r, hc, hl, _, _ => ⟨hc, by simp [allSecs], by simp [allSecs], by simp [allSecs], hl, by simp only [allSecs, List.foldl_nil]; omega⟩
  | s :: l, r, hc, hl, h3, hn => by
    rw [List.length_cons] at h3
    have hv := visit_rec r life s hc hl h1 h2 (by omega) (hn s List.mem_cons_self)
    have hrl : (endR r life s).recs.length = r.recs.length + 1 := by simp [endR]
    obtain ⟨i1, i2, i3, i4, i5, i6⟩ := visit_all life h1 h2 l (endR r life s) (endR_clean r life s hc) (Nat.le_refl _) (by rw [hrl]; omega) (fun x hx => hn x (List.mem_cons_of_mem _ hx))
    rw [hrl] at i1 i2 i3 i4 i5 i6
    simp only [allSecs, List.foldl_append, hv, List.length_append, secsOf_len]
    refine ⟨i1, by rw [i2]; simp [endR], by rw [i3]; simp only [endR]; omega, ?_, i5, Nat.le_trans i6 (by simp only [endR]; omega)⟩
    rw [i4, if_neg (by simp : ¬ (s :: l) = [])]
    by_cases hl0 : l = []
    · subst hl0
      rw [if_pos rfl]
      simp [allSecs, endR]
    · rw [if_neg hl0]
      show r.vis + needN s.size + _ = _
      omega
theorem says_z64 : says z64.data.toList = none := by decide +kernel
theorem visit_blank : ∀ (m : Nat) (r : Rd), ((List.replicate m z64).foldl visit r).recs = r.recs ∧ ((List.replicate m z64).foldl visit r).occ = r.occ ∧ ((List.replicate m z64).foldl visit r).great = r.great
  | 0, r => ⟨rfl, rfl, rfl⟩
  | m + 1, r => by
    rw [List.replicate_succ, List.foldl_cons]
    have : visit r z64 = { r with vis := r.vis + 1, ended := true } := by unfold visit; rw [says_z64]; rfl
    rw [this]
    obtain ⟨a, b, c⟩ := visit_blank m { r with vis := r.vis + 1, ended := true }
    exact ⟨a, b, c⟩
theorem rd0_clean : Clean rd0 := ⟨rfl, rfl, rfl⟩
/-- A log written whole. -/
theorem scan_whole (life : Nat) (h1 : 0 < life) (h2 : life < 4294967296) (l : List ByteArray) (m : Nat) (h3 : l.length < 4294967295) (hn : ∀ s ∈ l, needN s.size ≤ 65536) :
    (scanL (allSecs life 1 l ++ List.replicate m z64)).recs = l ∧ (scanL (allSecs life 1 l ++ List.replicate m z64)).occ = (allSecs life 1 l).length ∧ (scanL (allSecs life 1 l ++ List.replicate m z64)).great ≤ life := by
  unfold scanL
  rw [List.foldl_append]
  obtain ⟨-, i2, -, i4, -, i6⟩ := visit_all life h1 h2 l rd0 rd0_clean (Nat.zero_le _) (by show 0 + l.length < _; omega) hn
  obtain ⟨b1, b2, b3⟩ := visit_blank m ((allSecs life (rd0.recs.length + 1) l).foldl visit rd0)
  have e : rd0.recs.length + 1 = 1 := rfl
  rw [e] at i2 i4 i6 b1 b2 b3
  refine ⟨by rw [b1, i2]; simp [rd0], ?_, ?_⟩
  · rw [b2, i4]
    by_cases h0 : l = []
    · subst h0; simp [allSecs, rd0]
    · rw [if_neg h0]; simp [rd0]
  · rw [b3]
    refine Nat.le_trans i6 ?_
    show max 0 life ≤ life
    omega
end Go.Proofs.YtjanddnlhaionaaGreatDoor.L6
namespace Go.Proofs.YtjanddnlhaionaaGreatDoor.L6
open Go.ChangeShapes Go.WideShapes Go.ChangeAt Go.RowKit Go.Joins Go.Deep

/-- A call of a script: its kind, its number, its text, its list. -/
structure Ac where
  k : Int
  i : Int
  s : ByteArray
  v : Value
  keep : List Int
structure AcAt (w : World) (B b o : Nat) (a : Ac) : Prop where
  c0 : w.cell? ⟨b, o, none⟩ = some (.int .i64 a.k)
  c1 : w.cell? ⟨b, o + 1, none⟩ = some (.int .i64 a.i)
  c2 : w.cell? ⟨b, o + 2, none⟩ = some (.string a.s)
  c3 : w.cell? ⟨b, o + 3, none⟩ = some a.v
  ints : IntsAt w B a.v a.keep
  top : a.i ≤ 9223372036854775807
/-- v is a slice of calls that reads L, in blocks below B. -/
def AcsAt (w : World) (B : Nat) (v : Value) (L : List Ac) : Prop :=
  ∃ a c, v = .slice a L.length c ∧ (0 < L.length → ∃ b o, a = some ⟨b, o, none⟩ ∧ b < B ∧ ∀ i (h : i < L.length), AcAt w B b (o + i * 4) L[i])
theorem IntsAt.more {w : World} {B B' : Nat} {v : Value} {l : List Int} (h : IntsAt w B v l) (hB : B ≤ B') : IntsAt w B' v l := by
  obtain ⟨a, c, rfl, h⟩ := h
  refine ⟨a, c, rfl, fun h0 => ?_⟩
  obtain ⟨b, o, rfl, hlt, hc⟩ := h h0
  exact ⟨b, o, rfl, by omega, hc⟩

theorem Tryz.cells3 : Tryz.prog.cellsOf 3 = 1 := by kernel_rfl
theorem Tryz.laidOut : laidOutB Tryz.prog = true := by kernel_rfl

section
variable {H : Type} {enc : TypeId × Value → H} {w : World} {base : Nat} {spare : Nat → Bool} {held : Bool} {fuel : Nat}

theorem some_at {α : Type} {l : List α} {i : Nat} (h : i < l.length) : ∃ x, l[i]? = some x := ⟨l[i], List.getElem?_eq_getElem h⟩
theorem add_plain {w : World} {a : Addr} (j0 : w.cell? a ≠ none) : ∃ b o, a = ⟨b, o, none⟩ := by
  obtain ⟨b, o, s⟩ := a
  cases s with
  | none => exact ⟨b, o, rfl⟩
  | some s =>
    exfalso
    apply j0
    unfold World.cell?
    simp only
    split <;> simp
theorem choose_list {α : Type} (n : Nat) (p : Nat → α → Prop) (h : ∀ i, i < n → ∃ x, p i x) : ∃ l : List α, l.length = n ∧ ∀ i (hi : i < l.length), p i l[i] := by
  induction n with
  | zero => exact ⟨[], rfl, fun i hi => by cases hi⟩
  | succ n ih =>
    obtain ⟨l, hl, hp⟩ := ih fun i hi => h i (by omega)
    obtain ⟨x, hx⟩ := h n (by omega)
    refine ⟨l ++ [x], by simp [hl], fun i hi => ?_⟩
    by_cases hi' : i < l.length
    · rw [List.getElem_append_left hi']; exact hp i hi'
    · have : i = l.length := by simp at hi; omega
      subst this
      simpa [hl] using hx
theorem addr_add (b o j : Nat) : (⟨b, o, none⟩ : Addr).add j = ⟨b, o + j, none⟩ := by unfold Addr.add; split <;> simp_all

/-- A slice of ints that came in. -/
theorem open_ints' {cs : List Value} {x : DataW H × List MemPlace} (h : DataW.trod enc Tryz.prog w 0 (fun _ => true) held fuel 71 cs = some x) : ∃ v l, cs = [v] ∧ IntsAt w w.heap.size v l := by
  rcases open_slice Tryz.underlying71 h with ⟨h0, _⟩ | ⟨a, len, cap, m, n, D, Pl, hcs, _, hl, hm, hmm, _, hi⟩
  · exact ⟨_, [], h0, IntsAt.nil _ _⟩
  · simp only [if_true] at hmm
    subst hmm
    obtain ⟨l, hll, hlr⟩ := choose_list len (fun i (r : Int) => w.cell? (a.add i) = some (.int .i64 r)) (fun i hi' => by
      obtain ⟨cs', hc, ht⟩ := hi i (by omega)
      rw [Tryz.cells3] at hc
      obtain ⟨_, hlen, hat⟩ := World.cells?_some hc
      obtain ⟨r, hr, -⟩ := DataW.trod_int Tryz.underlying3 ht
      refine ⟨r, ?_⟩
      have := hat 0 (by omega)
      rw [hr] at this
      have e : (a.add (i * 1)).add 0 = a.add i := by rw [Nat.mul_one]; unfold Addr.add; simp
      rw [e] at this
      exact this)
    refine ⟨_, l, hcs, some a, _, by rw [hll], fun h0 => ?_⟩
    have c0 := hlr 0 h0
    have ha0 : a.add 0 = a := by unfold Addr.add; simp
    rw [ha0] at c0
    have hb : a.block < w.heap.size := World.block_lt_of_cell? w a c0
    obtain ⟨b, o, rfl⟩ := add_plain (w := w) (a := a) (by rw [c0]; simp)
    exact ⟨b, o, rfl, hb, fun i hi' => by rw [← addr_add]; exact hlr i hi'⟩
/-- What was read is read again, where nothing that lay has turned. -/
theorem trodAll_below {P : Program} (hl : laidOutB P = true) {W W' : World} (hb : Below W.heap.size W W') : ∀ {ts : List TypeId} {vs : List Value} {ds : List (DataW H)} {ps : List MemPlace},
    DataW.TrodAll enc P W 0 (fun _ => true) true ts vs ds ps → (∀ x ∈ ps, x.block < W.heap.size) → (∀ t ∈ ts, P.readableRec t = true ∧ t < P.types.size) →
    DataW.TrodAll enc P W' 0 (fun b => decide (b < W.heap.size)) true ts vs ds ps
  | [], vs, ds, ps, h, _, _ => by
    obtain ⟨rfl, rfl, rfl⟩ := trodAll_nil h
    exact trodAll_mk0
  | t :: ts, vs, ds, ps, h, hlt, ht => by
    obtain ⟨v, vs', d, ds', p, q, rfl, rfl, rfl, h1, h2⟩ := trodAll_cons h
    obtain ⟨a, b⟩ := ht t List.mem_cons_self
    exact trodAll_cons_mk (Below.trod hl a b h1 hb (fun x hx => hlt x (List.mem_append_left _ hx))) (trodAll_below hl hb h2 (fun x hx => hlt x (List.mem_append_right _ hx)) (fun t' ht' => ht t' (List.mem_cons_of_mem _ ht')))
end
end Go.Proofs.YtjanddnlhaionaaGreatDoor.L6
