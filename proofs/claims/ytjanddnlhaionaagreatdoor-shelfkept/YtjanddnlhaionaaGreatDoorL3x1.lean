/-
  Hash.Put. The round keys lie as they are laid. New, Hash.Sum, Hash.Len, digest.Sum. The two tables lie as they are laid. Hash.Len, digest.Sum, and a hash that New did not return. Hex. No condition but a length. The document's example, reckoned by the kernel: nothing here speaks of the program. What the listed variables read as, for the walks; the document's example holds. The digit, and Unhex. No condition but a length. Hex and Unhex are inverse; DigestBack's walk.
-/
import Derived.Test.YtjanddnlhaionaaGreatDoorL3x0
import Derived.Laws.CopyOwn
import Derived.Deep.AppendLies
import Derived.Deep.RegionLaw
import Derived.BigRegion
import Derived.ProofKit
import Derived.LaidMore
import Derived.OpenShut
import Derived.Stop.Joined
import Derived.Lib.LaidTab
import Derived.Stop.LaidErr
set_option maxRecDepth 100000
namespace Go.Proofs.YtjanddnlhaionaaGreatDoor.L3
open Go.RowKit

theorem extract_drop (rest : List UInt8) (n : Nat) : (⟨rest.toArray⟩ : ByteArray).extract n rest.length = ⟨(rest.drop n).toArray⟩ := by
  apply ByteArray.ext
  rw [ByteArray.data_extract]
  apply Array.ext'
  simp
  exact List.take_of_length_le (by simp)

/-- copy of a string into the middle of a row. -/
theorem run_copy_str {P : Program} (w : World) (dT sT ty elem : TypeId) (g o dLen dCap : Nat) (t : ByteArray) (cur : List Value) (tt : TypeId) (n : Nat) (hu : P.underlying dT = some (.slice elem)) (hs : (P.info? elem).map (·.size) = some 1)
    (hn : n = Nat.min t.size dLen) (hg : w.heap[g]? = some (.cells cur.toArray tt (0, 0))) (hfit : o + n ≤ cur.length) :
    (Builtin.copy_ #[dT, sT] ty #[.slice (some ⟨g, o, none⟩) dLen dCap, .string t]).run P w = .ok (.int .i64 (n : Int)) (w.setRow g (cur.take o ++ bytesV (t.data.toList.take n) ++ cur.drop (o + n)).toArray) := by
  have hts : t.data.toList.length = t.size := by simp
  have hnt : n ≤ t.size := by rw [hn]; exact Nat.min_le_left _ _
  have hl : (bytesV (t.data.toList.take n)).length = n := by rw [bytesV_len, List.length_take, hts]; omega
  have hst := run_storeCells_at P g o tt (bytesV (t.data.toList.take n)) 0 cur.toArray w hg (by rw [hl]; simpa using hfit) (bytes_oneCell _)
  cases hq : P.info? elem with
  | none => simp [hq] at hs
  | some i =>
    have hmin : min t.size dLen = n := hn.symm
    have hb : List.map (fun b : UInt8 => Value.int .u8 (b.toNat : Int)) (List.take n t.data.toList) = bytesV (t.data.toList.take n) := rfl
    rw [hl] at hst
    simp [Builtin.copy_, run_underlying hu, Builtin.lenOf, Builtin.firstCells, sizeOf, typeInfo, hq, hmin, goInt]
    rw [← List.map_take, hb]
    simp only [Nat.add_zero] at hst
    rw [hst]
    simp

theorem wpList_copy_str {P : Program} {w : World} {ops : Array Oper} {rest : List Oper} {o : Oper} {a : Act} {Q : Exit → Act → World → Prop} (hgd : o.guard = none) (d s : Operand) (dT sT elem : TypeId)
    (ho : o.op = .call { callee := .builtin .copy, args := #[d, s], argTypes := #[dT, sT] }) (g off dLen dCap : Nat) (t : ByteArray) (cur : List Value) (tt : TypeId) (n : Nat) (hd : a.eval d = .slice (some ⟨g, off, none⟩) dLen dCap) (hs : a.eval s = .string t)
    (hu : P.underlying dT = some (.slice elem)) (hsz : (P.info? elem).map (·.size) = some 1) (hn : n = Nat.min t.size dLen) (hg : w.heap[g]? = some (.cells cur.toArray tt (0, 0))) (hfit : off + n ≤ cur.length)
    (h : wpList P ops Q rest (a.put o.dst (.int .i64 (n : Int))) (w.setRow g (cur.take off ++ bytesV (t.data.toList.take n) ++ cur.drop (off + n)).toArray)) : wpList P ops Q (o :: rest) a w := by
  refine wpList_plain hgd fun K hK => ?_
  have hrun := run_copy_str (P := P) w dT sT o.type elem g off dLen dCap t cur tt n hu hsz hn hg hfit
  unfold Oper.wp
  simp [execOp, ho, resolve, invoke, builtin, hd, hs, hrun, Result.andThen]
  exact hK _ _ (by simpa using h)

theorem run_load39 (W : World) (b : Nat) (m : Bool) (S : St) (B : List UInt8) (n : Nat) (h : W.heap[b]? = some (.cells (hashRow m S B n).toArray 217 (0, 0))) :
    (Instr.loadAt 214 (.pointer (some ⟨b, 1, none⟩))).run Tryz.prog W = .ok (.agg S.cells) W := by
  have hi39 : (Tryz.prog.info? 214).map (·.size) = some 8 := by kernel_rfl
  refine run_loadAt_mid W b 1 214 S.cells.toList _ (fun j v hv => ?_) Tryz.underlying214 rfl hi39
  refine cell_row h ?_
  have hj : j < S.cells.toList.length := (List.getElem?_eq_some_iff.1 hv).1
  unfold hashRow
  rw [show 1 + j = j + 1 by omega, List.getElem?_cons_succ, List.getElem?_append_left hj]
  exact hv
theorem run_load41 (W : World) (b : Nat) (m : Bool) (S : St) (B : List UInt8) (n : Nat) (hB : B.length = 64) (h : W.heap[b]? = some (.cells (hashRow m S B n).toArray 217 (0, 0))) :
    (Instr.loadAt 215 (.pointer (some ⟨b, 9, none⟩))).run Tryz.prog W = .ok (.agg (bytesV B).toArray) W := by
  have hi41 : (Tryz.prog.info? 215).map (·.size) = some 64 := by kernel_rfl
  refine run_loadAt_mid W b 9 215 (bytesV B) _ (fun j v hv => ?_) Tryz.underlying215 rfl (by rw [bytesV_len, hB]; exact hi41)
  refine cell_row h ?_
  have hj : j < (bytesV B).length := (List.getElem?_eq_some_iff.1 hv).1
  unfold hashRow
  rw [show 9 + j = 8 + j + 1 by omega, List.getElem?_cons_succ, List.getElem?_append_right (by rw [cells_len]; omega), cells_len, show 8 + j - 8 = j by omega, List.getElem?_append_left hj]
  exact hv
theorem run_store39 (W : World) (b : Nat) (m : Bool) (S T : St) (B : List UInt8) (n : Nat) (hB : B.length = 64) (h : W.heap[b]? = some (.cells (hashRow m S B n).toArray 217 (0, 0))) :
    (Instr.storeAt 214 (.pointer (some ⟨b, 1, none⟩)) (.agg T.cells)).run Tryz.prog W = .ok () (W.setRow b (hashRow m T B n).toArray) := by
  have hi39 : (Tryz.prog.info? 214).map (·.size) = some 8 := by kernel_rfl
  have h1 : ∀ v ∈ T.cells.toList, v.oneCell' = true := fun v hv => (Array.all_eq_true_iff_forall_mem.1 (St.oneCell T)) v (by simpa using hv)
  have hst := run_storeCells_at Tryz.prog b 1 217 T.cells.toList 0 (hashRow m S B n).toArray W h (by rw [cells_len]; simp [hashRow_length m S B n hB]) h1
  rw [cells_len] at hst
  simp only [Nat.add_zero] at hst
  rw [hashRow_state] at hst
  cases hq : Tryz.prog.info? 214 with
  | none => simp [hq] at hi39
  | some i =>
    have hs : i.size = 8 := by simpa [hq] using hi39
    have hz : T.cells.size = 8 := rfl
    simp [Instr.storeAt, Instr.sureAddr, storeVar, sizeOf, typeInfo, hq, Value.cells, hs, hz, hst]

theorem step_load {P : Program} {ops : Array Oper} {o : Oper} {a : Act} {w : World} {K : Act → World → Prop} {Q : Exit → Act → World → Prop} {E : Prop}
    (hg : o.guard = none) (ty : TypeId) (x : Operand) (ho : o.op = .load ty x) (p v : Value) (hx : a.eval x = p) (hrun : (Instr.loadAt ty p).run P w = .ok v w) (hK : K (a.put o.dst v) w) :
    if Region.wanted o (yielded ops a.tmps) = true then Oper.wp P o a w K Q else E := by
  have hw : Region.wanted o (yielded ops a.tmps) = true := by simp [Region.wanted, hg]
  rw [if_pos hw]
  unfold Oper.wp
  simp [execOp, ho, hx, hrun]
  exact hK
theorem step_store {P : Program} {ops : Array Oper} {o : Oper} {a : Act} {w w' : World} {K : Act → World → Prop} {Q : Exit → Act → World → Prop} {E : Prop}
    (hg : o.guard = none) (ty : TypeId) (x y : Operand) (ho : o.op = .store ty x y) (p v : Value) (hx : a.eval x = p) (hy : a.eval y = v) (hrun : (Instr.storeAt ty p v).run P w = .ok () w') (hK : K (a.put o.dst undef) w') :
    if Region.wanted o (yielded ops a.tmps) = true then Oper.wp P o a w K Q else E := by
  have hw : Region.wanted o (yielded ops a.tmps) = true := by simp [Region.wanted, hg]
  rw [if_pos hw]
  unfold Oper.wp
  simp [execOp, ho, hx, hy, hrun]
  exact hK
theorem step_wanted {P : Program} {ops : Array Oper} {o : Oper} {a : Act} {w : World} {K : Act → World → Prop} {Q : Exit → Act → World → Prop} {E : Prop}
    (hg : o.guard = none) (hK : Oper.wp P o a w K Q) :
    if Region.wanted o (yielded ops a.tmps) = true then Oper.wp P o a w K Q else E := by
  have hw : Region.wanted o (yielded ops a.tmps) = true := by simp [Region.wanted, hg]
  rw [if_pos hw]
  exact hK

def op0 : Oper := { dst := some 40, op := Go.Op.move (Go.Operand.tmp 0), type := 160, pos := "digest.go:36", after := #[], guard := none }
def op1 : Oper := { dst := some 41, op := Go.Op.move (Go.Operand.tmp 0), type := 160, pos := "digest.go:36", after := #[], guard := none }
def op2 : Oper := { dst := some 42, op := Go.Op.nilCheck (Go.Operand.tmp 41), type := 0, pos := "digest.go:36", after := #[{ on := 1, ground := Go.Ground.data }], guard := none }
def op3 : Oper := { dst := some 43, op := Go.Op.fieldAddr 217 (Go.Operand.tmp 42) 1, type := 0, pos := "digest.go:36", after := #[{ on := 2, ground := Go.Ground.data }], guard := none }
def op4 : Oper := { dst := some 44, op := Go.Op.load 214 (Go.Operand.tmp 43), type := 214, pos := "digest.go:36", after := #[{ on := 3, ground := Go.Ground.data }], guard := none }
def op5 : Oper := { dst := some 45, op := Go.Op.move (Go.Operand.tmp 0), type := 160, pos := "digest.go:36", after := #[], guard := none }
def op6 : Oper := { dst := some 46, op := Go.Op.nilCheck (Go.Operand.tmp 45), type := 0, pos := "digest.go:36", after := #[{ on := 5, ground := Go.Ground.data }], guard := none }
def op7 : Oper := { dst := some 47, op := Go.Op.fieldAddr 217 (Go.Operand.tmp 46) 2, type := 0, pos := "digest.go:36", after := #[{ on := 6, ground := Go.Ground.data }], guard := none }
def op8 : Oper := { dst := some 48, op := Go.Op.load 215 (Go.Operand.tmp 47), type := 215, pos := "digest.go:36", after := #[{ on := 7, ground := Go.Ground.data }], guard := none }
def op9 : Oper := { dst := some 49, op := Go.Op.call { callee := Go.Callee.value (Go.Operand.func 143), args := #[Go.Operand.tmp 44, Go.Operand.tmp 48], argTypes := #[214, 215] }, type := 214, pos := "digest.go:36", after := #[{ on := 4, ground := Go.Ground.data }, { on := 8, ground := Go.Ground.data }], guard := none }
def op10 : Oper := { dst := some 50, op := Go.Op.nilCheck (Go.Operand.tmp 40), type := 0, pos := "digest.go:36", after := #[{ on := 0, ground := Go.Ground.data }, { on := 0, ground := Go.Ground.phase }, { on := 1, ground := Go.Ground.phase }, { on := 2, ground := Go.Ground.phase }, { on := 3, ground := Go.Ground.phase }, { on := 4, ground := Go.Ground.phase }, { on := 5, ground := Go.Ground.phase }, { on := 6, ground := Go.Ground.phase }, { on := 7, ground := Go.Ground.phase }, { on := 8, ground := Go.Ground.phase }, { on := 9, ground := Go.Ground.phase }], guard := none }
def op11 : Oper := { dst := some 51, op := Go.Op.fieldAddr 217 (Go.Operand.tmp 50) 1, type := 0, pos := "digest.go:36", after := #[{ on := 10, ground := Go.Ground.data }, { on := 0, ground := Go.Ground.phase }, { on := 1, ground := Go.Ground.phase }, { on := 2, ground := Go.Ground.phase }, { on := 3, ground := Go.Ground.phase }, { on := 4, ground := Go.Ground.phase }, { on := 5, ground := Go.Ground.phase }, { on := 6, ground := Go.Ground.phase }, { on := 7, ground := Go.Ground.phase }, { on := 8, ground := Go.Ground.phase }, { on := 9, ground := Go.Ground.phase }], guard := none }
def op12 : Oper := { dst := none, op := Go.Op.store 214 (Go.Operand.tmp 51) (Go.Operand.tmp 49), type := 0, pos := "digest.go:36", after := #[{ on := 11, ground := Go.Ground.data }, { on := 9, ground := Go.Ground.data }, { on := 9, ground := Go.Ground.chain }, { on := 0, ground := Go.Ground.phase }, { on := 1, ground := Go.Ground.phase }, { on := 2, ground := Go.Ground.phase }, { on := 3, ground := Go.Ground.phase }, { on := 4, ground := Go.Ground.phase }, { on := 5, ground := Go.Ground.phase }, { on := 6, ground := Go.Ground.phase }, { on := 7, ground := Go.Ground.phase }, { on := 8, ground := Go.Ground.phase }, { on := 9, ground := Go.Ground.phase }], guard := none }

/-- A hash in block b to which M was put. -/
structure HashAt (K : List Int) (I : St) (b : Nat) (M : List UInt8) (w : World) : Prop where
  is : ∃ B : List UInt8, B.length = 64 ∧ B.take (M.length % 64) = tailB M ∧ w.heap[b]? = some (.cells (hashRow true (foldB K I M) B M.length).toArray 217 (0, 0))

theorem KeysAt.below {K : List Int} {b : Nat} {w w' : World} (h : KeysAt w K) (hb : Below b w w') (h2 : 2 ≤ b) : KeysAt w' K := fun i hi => by
  rw [hb.cell (show (1 : Nat) < b by omega)]; exact h i hi

set_option maxHeartbeats 800000 in
theorem put16 (K : List Int) (I : St) (b : Nat) (M : List UInt8) (s : ByteArray) (w : World) (hK : KeysAt w K) (hb2 : 2 ≤ b) (hH : HashAt K I b M w) (hl : M.length + s.size ≤ 1000000) :
    Calls Tryz.prog 101 #[.pointer (some ⟨b, 0, none⟩), .string s] w fun e w' => e = .returned (.int .i64 0) ∧ HashAt K I b (M ++ s.data.toList) w' ∧ Below b w w' := by
  have HK := Lib.hid hK
  have HH := Lib.hid hH
  obtain ⟨B0, hB0, hB1, hg⟩ := hH.is
  have cm : w.cell? ⟨b, 0, none⟩ = some (.bool true) := cell_row hg (hashRow_made _ _ _ _)
  have HE := Lib.hid (exists24 b true w cm)
  obtain ⟨l, hsl⟩ : ∃ l, s.data.toList = l := ⟨_, rfl⟩
  have hs : s = ⟨l.toArray⟩ := by cases s with | mk d => subst hsl; simp
  have hll : l.length = s.size := by rw [← hsl]; simp
  rw [hsl]
  subst hs
  rw [← hll] at hl
  clear hsl hll hB0 hB1 hg cm hK hH
  go_enter Tryz.func101, Tryz.ntmps101
  go_wp2_with (go_at_call 142; refine HE.out.mono ?_; rintro e w' ⟨rfl, rfl⟩)
  clear HE
  go_loopw [1] (fun s1 wr => ∃ done rest : List UInt8, s1 = .string ⟨rest.toArray⟩ ∧ Hid (l = done ++ rest) ∧ Hid (HashAt K I b (M ++ done) wr) ∧ Hid (Below b w wr)) (fun s1 _ => match s1 with | .string s => s.size | _ => 0)
  case atStart => exact ⟨[], l, rfl, rfl, by simpa [Hid] using HH.out, Below.refl _ _⟩
  case round =>
    obtain ⟨done, rest, rfl, HL, HH, HB⟩ := hrel
    have hlen : M.length + done.length + rest.length ≤ 1000000 := by
      have := HL.out
      rw [this, List.length_append] at hl
      omega
    by_cases hne : rest.length = 0
    · have hre : rest = [] := List.length_eq_zero_iff.1 hne
      subst hre
      have HL0 : Hid (l = done) := by unfold Hid; rw [HL.out, List.append_nil]
      clear HL hne
      go_wp2
      go_ret
      exact ⟨rfl, by rw [HL0.out]; exact HH.out, HB.out⟩
    · obtain ⟨B, hB, hBt, hg⟩ := HH.out.is
      obtain ⟨S, hS⟩ : ∃ S, foldB K I (M ++ done) = S := ⟨_, rfl⟩
      rw [hS] at hg
      obtain ⟨L, hL⟩ : ∃ L, (M ++ done).length = L := ⟨_, rfl⟩
      rw [hL] at hg hBt
      have hLl : L ≤ 1000000 := by simp at hL; omega
      have cL : wr.cell? ⟨b, 73, none⟩ = some (.int .i64 L) := cell_row hg (hashRow_len _ _ _ _ hB)
      obtain ⟨r, hr⟩ : ∃ r, L % 64 = r := ⟨_, rfl⟩
      have hr64 : r < 64 := by omega
      have er : (L : Int).tmod 64 = (r : Int) := by rw [Int.tmod_eq_emod_of_nonneg (by omega)]; omega
      have hri : (r : Int) ≤ 64 := by omega
      have hrne : ¬ 64 = r := by omega
      obtain ⟨n, hn⟩ : ∃ n, n = Nat.min rest.length (64 - r) := ⟨_, rfl⟩
      have hn1 : n ≤ rest.length := by rw [hn]; exact Nat.min_le_left _ _
      have hn2 : n ≤ 64 - r := by rw [hn]; exact Nat.min_le_right _ _
      have hn3 : 0 < n := by rw [hn]; exact Nat.lt_min.2 ⟨by omega, by omega⟩
      have hi5 : (Tryz.prog.info? 5).map (·.size) = some 1 := by kernel_rfl
      have HI5 := Lib.hid hi5
      rw [hr] at hBt
      have HR := Lib.hid hr
      have HG := Lib.hid hg
      have HS := Lib.hid hS
      have HLL := Lib.hid hL
      have HBt := Lib.hid hBt
      have HN := Lib.hid hn
      clear hg hS hL hBt hr hn hi5
      go_wp2_with fail
      go_still_tail 10, (by kernel_rfl)
      refine wpList_copy_str rfl _ _ 124 9 5 rfl b (9 + r) (64 - r) (64 - r) ⟨rest.toArray⟩ (hashRow true S B L) 217 n rfl rfl Tryz.underlying124 HI5.out (by exact HN.out) HG.out (by rw [hashRow_length _ _ _ _ hB]; omega) ?_
      have hC : ((⟨rest.toArray⟩ : ByteArray).data.toList.take n).length = n := by simp; omega
      have hrow := hashRow_copy true S B ((⟨rest.toArray⟩ : ByteArray).data.toList.take n) L r (by rw [hC]; omega)
      rw [hC] at hrow
      rw [hrow]
      obtain ⟨B', hB'⟩ : ∃ B', B.take r ++ (⟨rest.toArray⟩ : ByteArray).data.toList.take n ++ B.drop (r + n) = B' := ⟨_, rfl⟩
      rw [hB']
      generalize hw1 : (World.setRow { heap := wr.heap, tape := wr.tape, drawn := wr.drawn + 1, os := wr.os, output := wr.output } b (hashRow true S B' L).toArray) = w1
      have HG1 : Hid (w1.heap[b]? = some (.cells (hashRow true S B' L).toArray 217 (0, 0))) := by
        unfold Hid; rw [← hw1]; exact setRow_heap _ _ _ _ _ _ HG.out
      have HB1 : Hid (Below b w w1) := by
        unfold Hid; rw [← hw1]; exact below_setRow HB.out.drew (Nat.le_refl _) _
      have hB'l : B'.length = 64 := by rw [← hB']; simp; omega
      have HB' : Hid (B' = B.take r ++ rest.take n ++ B.drop (r + n)) := by unfold Hid; rw [← hB']
      have cL1 : w1.cell? ⟨b, 73, none⟩ = some (.int .i64 L) := cell_row HG1.out (hashRow_len _ _ _ _ hB'l)
      have fL1 : w1.frozen? ⟨b, 73, none⟩ = false := frozen_of_row w1 _ _ _ _ HG1.out
      clear hw1 hrow hC hB' cL HG HB
      by_cases hfull : r + n = 64
      · have ht : (((L : Int) + (n : Int)) % 64 == 0) = true := by
          have := HR.out
          have : ((L : Int) + (n : Int)) % 64 = 0 := by omega
          simpa using this
        have HG2 : Hid ((w1.setCell ⟨b, 73, none⟩ (.int .i64 ((L : Int) + (n : Int)))).heap[b]? = some (.cells (hashRow true S B' (L + n)).toArray 217 (0, 0))) := by
          unfold Hid
          rw [heap_setCell_same _ _ _ _ _ _ HG1.out, ← hashRow_setLen true S B' L (L + n) hB'l]
          simp
        have HB2 : Hid (Below b w (w1.setCell ⟨b, 73, none⟩ (.int .i64 ((L : Int) + (n : Int))))) := HB1.out.setCell (Nat.le_refl _) _
        have HX : Hid ((⟨rest.toArray⟩ : ByteArray).extract n rest.length = ⟨(rest.drop n).toArray⟩) := by
          exact extract_drop rest n
        obtain ⟨T, hT⟩ : ∃ T, afterM K S B' = T := ⟨_, rfl⟩
        have HT := Lib.hid hT
        have HC : Hid (∀ W, W.heap[b]? = some (.cells (hashRow true S B' (L + n)).toArray 217 (0, 0)) → Below b w W → Calls Tryz.prog 143 #[.agg S.cells, .agg (bytesV B').toArray] W fun x w' => x = .returned (.agg T.cells) ∧ Below W.heap.size W w') := by
          intro W hW hBW
          have hsz : b < W.heap.size := by
            by_cases hlt : b < W.heap.size
            · exact hlt
            · rw [Array.getElem?_eq_none (by omega)] at hW; cases hW
          have := after25 S.a S.b S.c S.d S.e S.f S.g S.h B' K hB'l W (HK.out.below hBW hb2) (by omega)
          rw [← hT]
          exact this
        clear hT
        go_wp2_with fail
        rw [HX.out]
        generalize (w1.setCell ⟨b, 73, none⟩ (.int .i64 ((L : Int) + (n : Int)))) = w2 at HG2 HB2 ⊢
        clear HX cL1 fL1 HG1 HB1
        have L39 := Lib.hid (run_load39 w2.drew b true S B' (L + n) HG2.out)
        have L41 := Lib.hid (run_load41 w2.drew b true S B' (L + n) hB'l HG2.out)
        have HS2 : Hid (w2.drew.heap[b]? = some (.cells (hashRow true S B' (L + n)).toArray 217 (0, 0)) ∧ Below b w w2.drew) := ⟨HG2.out, HB2.out.drew⟩
        have HBZ : Hid (b < w2.drew.heap.size) := by
          by_cases hlt : b < w2.drew.heap.size
          · exact hlt
          · have := HG2.out
            rw [Array.getElem?_eq_none (by simpa using hlt)] at this; cases this
        have HL2 : Hid (l = done ++ rest.take n ++ rest.drop n) := by unfold Hid; rw [List.append_assoc, List.take_append_drop]; exact HL.out
        have HFIN : Hid (∀ w3, Below w2.drew.heap.size w2.drew w3 → Hid (HashAt K I b (M ++ (done ++ rest.take n)) (w3.setRow b (hashRow true T B' (L + n)).toArray)) ∧ Hid (Below b w (w3.setRow b (hashRow true T B' (L + n)).toArray))) := by
          intro w3 hb3
          have hxl : (rest.take n).length = n := by simp; omega
          have hf := hash_full K I (M ++ done) (rest.take n) B r (by rw [HLL.out]; exact HR.out) hB HBt.out (by rw [hxl]; exact hfull)
          rw [hxl, ← HB'.out, HS.out, HT.out] at hf
          refine ⟨⟨B', hB'l, ?_, ?_⟩, ?_⟩
          · rw [← List.append_assoc]; exact hf.2
          · rw [← List.append_assoc, hf.1]
            have hlen2 : (M ++ done ++ rest.take n).length = L + n := by rw [List.length_append, HLL.out, hxl]
            rw [hlen2]
            exact setRow_heap _ _ _ _ _ _ ((hb3.block b HBZ.out).trans HS2.out.1)
          · exact below_setRow (HS2.out.2.trans (hb3.mono (Nat.le_of_lt HBZ.out))) (Nat.le_refl _) _
        refine wp_region_any (by kernel_rfl) ?_
        change wpAny _ _ _ _ _ _ _ (World.drew _)
        refine wpAny_take (i := 0) (oi := op0) (v := .pointer (some ⟨b, 0, none⟩)) rfl (by kernel_rfl) (by kernel_rfl) (by kernel_rfl) (fun _ _ _ h => h) (Or.inl ⟨by rfl, fun w => by unfold op0; go_simp⟩) ?_
        simp only [Act.put, op0, List.setIfInBounds_toArray, List.set_cons_zero, List.set_cons_succ]
        refine wpAny_take (i := 1) (oi := op1) (v := .pointer (some ⟨b, 0, none⟩)) rfl (by kernel_rfl) (by kernel_rfl) (by kernel_rfl) (fun _ _ _ h => h) (Or.inl ⟨by rfl, fun w => by unfold op1; go_simp⟩) ?_
        simp only [Act.put, op1, List.setIfInBounds_toArray, List.set_cons_zero, List.set_cons_succ]
        refine wpAny_take (i := 2) (oi := op2) (v := .pointer (some ⟨b, 0, none⟩)) rfl (by kernel_rfl) (by kernel_rfl) (by kernel_rfl) (fun _ _ _ h => h) (Or.inl ⟨by rfl, fun w => by unfold op2; go_simp⟩) ?_
        simp only [Act.put, op2, List.setIfInBounds_toArray, List.set_cons_zero, List.set_cons_succ]
        refine wpAny_take (i := 3) (oi := op3) (v := .pointer (some ⟨b, 1, none⟩)) rfl (by kernel_rfl) (by kernel_rfl) (by kernel_rfl) (fun _ _ _ h => h) (Or.inl ⟨by rfl, fun w => by unfold op3; go_simp⟩) ?_
        simp only [Act.put, op3, List.setIfInBounds_toArray, List.set_cons_zero, List.set_cons_succ]
        refine wpAny_take (i := 5) (oi := op5) (v := .pointer (some ⟨b, 0, none⟩)) rfl (by kernel_rfl) (by kernel_rfl) (by kernel_rfl) (fun _ _ _ h => h) (Or.inl ⟨by rfl, fun w => by unfold op5; go_simp⟩) ?_
        simp only [Act.put, op5, List.setIfInBounds_toArray, List.set_cons_zero, List.set_cons_succ]
        refine wpAny_take (i := 6) (oi := op6) (v := .pointer (some ⟨b, 0, none⟩)) rfl (by kernel_rfl) (by kernel_rfl) (by kernel_rfl) (fun _ _ _ h => h) (Or.inl ⟨by rfl, fun w => by unfold op6; go_simp⟩) ?_
        simp only [Act.put, op6, List.setIfInBounds_toArray, List.set_cons_zero, List.set_cons_succ]
        refine wpAny_take (i := 7) (oi := op7) (v := .pointer (some ⟨b, 9, none⟩)) rfl (by kernel_rfl) (by kernel_rfl) (by kernel_rfl) (fun _ _ _ h => h) (Or.inl ⟨by rfl, fun w => by unfold op7; go_simp⟩) ?_
        simp only [Act.put, op7, List.setIfInBounds_toArray, List.set_cons_zero, List.set_cons_succ]
        refine wpAny_ready (rs := [4, 8]) (by kernel_rfl) (by simp) ?_
        refine AllReady.cons (o := op4) rfl (fun K hK => ?_) (AllReady.cons (o := op8) rfl (fun K hK => ?_) AllReady.nil)
        · refine step_load (o := op4) rfl 214 (.tmp 43) rfl (.pointer (some ⟨b, 1, none⟩)) (.agg S.cells) rfl L39.out (hK _ _ ?_)
          clear hK K
          simp only [Act.put, op4, List.setIfInBounds_toArray, List.set_cons_zero, List.set_cons_succ]
          refine wpAny_ready (rs := [8]) (by kernel_rfl) (by simp) (AllReady.cons (o := op8) rfl (fun K hK => ?_) AllReady.nil)
          refine step_load (o := op8) rfl 215 (.tmp 47) rfl (.pointer (some ⟨b, 9, none⟩)) (.agg (bytesV B').toArray) rfl L41.out (hK _ _ ?_)
          clear hK K
          simp only [Act.put, op8, List.setIfInBounds_toArray, List.set_cons_zero, List.set_cons_succ]
          refine wpAny_ready (rs := [9]) (by kernel_rfl) (by simp) (AllReady.cons (o := op9) rfl (fun K hK => ?_) AllReady.nil)
          refine step_wanted (o := op9) rfl ?_
          unfold op9
          go_simp
          refine (HC.out _ HS2.out.1 HS2.out.2).mono ?_
          rintro x w3 ⟨rfl, hb3⟩
          refine hK _ _ ?_
          clear hK K
          refine wpAny_take (i := 10) (oi := op10) (v := .pointer (some ⟨b, 0, none⟩)) rfl (by kernel_rfl) (by kernel_rfl) (by kernel_rfl) (fun _ _ _ h => h) (Or.inl ⟨by rfl, fun w => by unfold op10; go_simp⟩) ?_
          simp only [Act.put, op10, List.setIfInBounds_toArray, List.set_cons_zero, List.set_cons_succ]
          refine wpAny_take (i := 11) (oi := op11) (v := .pointer (some ⟨b, 1, none⟩)) rfl (by kernel_rfl) (by kernel_rfl) (by kernel_rfl) (fun _ _ _ h => h) (Or.inl ⟨by rfl, fun w => by unfold op11; go_simp⟩) ?_
          simp only [Act.put, op11, List.setIfInBounds_toArray, List.set_cons_zero, List.set_cons_succ]
          refine wpAny_ready (rs := [12]) (by kernel_rfl) (by simp) (AllReady.cons (o := op12) rfl (fun K hK => ?_) AllReady.nil)
          refine step_store (o := op12) rfl 214 (.tmp 51) (.tmp 49) rfl (.pointer (some ⟨b, 1, none⟩)) (.agg T.cells) rfl rfl (run_store39 w3 b true S T B' (L + n) hB'l ((hb3.block b HBZ.out).trans HS2.out.1)) (hK _ _ ?_)
          clear hK K
          simp only [Act.put, op12]
          refine wpAny_done (by kernel_rfl) ?_ _
          have HN3 := Lib.hid (HFIN.out w3 hb3)
          clear hb3
          go_wp2
          go_roundw
          case rel => exact ⟨done ++ rest.take n, rest.drop n, rfl, HL2, HN3.out.1, HN3.out.2⟩
          case measure => show (rest.drop n).length < rest.length; simp; omega
        · refine step_load (o := op8) rfl 215 (.tmp 47) rfl (.pointer (some ⟨b, 9, none⟩)) (.agg (bytesV B').toArray) rfl L41.out (hK _ _ ?_)
          clear hK K
          simp only [Act.put, op8, List.setIfInBounds_toArray, List.set_cons_zero, List.set_cons_succ]
          refine wpAny_ready (rs := [4]) (by kernel_rfl) (by simp) (AllReady.cons (o := op4) rfl (fun K hK => ?_) AllReady.nil)
          refine step_load (o := op4) rfl 214 (.tmp 43) rfl (.pointer (some ⟨b, 1, none⟩)) (.agg S.cells) rfl L39.out (hK _ _ ?_)
          clear hK K
          simp only [Act.put, op4, List.setIfInBounds_toArray, List.set_cons_zero, List.set_cons_succ]
          refine wpAny_ready (rs := [9]) (by kernel_rfl) (by simp) (AllReady.cons (o := op9) rfl (fun K hK => ?_) AllReady.nil)
          refine step_wanted (o := op9) rfl ?_
          unfold op9
          go_simp
          refine (HC.out _ HS2.out.1 HS2.out.2).mono ?_
          rintro x w3 ⟨rfl, hb3⟩
          refine hK _ _ ?_
          clear hK K
          refine wpAny_take (i := 10) (oi := op10) (v := .pointer (some ⟨b, 0, none⟩)) rfl (by kernel_rfl) (by kernel_rfl) (by kernel_rfl) (fun _ _ _ h => h) (Or.inl ⟨by rfl, fun w => by unfold op10; go_simp⟩) ?_
          simp only [Act.put, op10, List.setIfInBounds_toArray, List.set_cons_zero, List.set_cons_succ]
          refine wpAny_take (i := 11) (oi := op11) (v := .pointer (some ⟨b, 1, none⟩)) rfl (by kernel_rfl) (by kernel_rfl) (by kernel_rfl) (fun _ _ _ h => h) (Or.inl ⟨by rfl, fun w => by unfold op11; go_simp⟩) ?_
          simp only [Act.put, op11, List.setIfInBounds_toArray, List.set_cons_zero, List.set_cons_succ]
          refine wpAny_ready (rs := [12]) (by kernel_rfl) (by simp) (AllReady.cons (o := op12) rfl (fun K hK => ?_) AllReady.nil)
          refine step_store (o := op12) rfl 214 (.tmp 51) (.tmp 49) rfl (.pointer (some ⟨b, 1, none⟩)) (.agg T.cells) rfl rfl (run_store39 w3 b true S T B' (L + n) hB'l ((hb3.block b HBZ.out).trans HS2.out.1)) (hK _ _ ?_)
          clear hK K
          simp only [Act.put, op12]
          refine wpAny_done (by kernel_rfl) ?_ _
          have HN3 := Lib.hid (HFIN.out w3 hb3)
          clear hb3
          go_wp2
          go_roundw
          case rel => exact ⟨done ++ rest.take n, rest.drop n, rfl, HL2, HN3.out.1, HN3.out.2⟩
          case measure => show (rest.drop n).length < rest.length; simp; omega
      · have ht : (((L : Int) + (n : Int)) % 64 == 0) = false := by
          have := HR.out
          have : ¬ ((L : Int) + (n : Int)) % 64 = 0 := by omega
          simpa using this
        have HG2 : Hid ((w1.setCell ⟨b, 73, none⟩ (.int .i64 ((L : Int) + (n : Int)))).heap[b]? = some (.cells (hashRow true S B' (L + n)).toArray 217 (0, 0))) := by
          unfold Hid
          rw [heap_setCell_same _ _ _ _ _ _ HG1.out, ← hashRow_setLen true S B' L (L + n) hB'l]
          simp
        have HB2 : Hid (Below b w (w1.setCell ⟨b, 73, none⟩ (.int .i64 ((L : Int) + (n : Int))))) := HB1.out.setCell (Nat.le_refl _) _
        have HX : Hid ((⟨rest.toArray⟩ : ByteArray).extract n rest.length = ⟨(rest.drop n).toArray⟩) := extract_drop rest n
        have HL2 : Hid (l = done ++ rest.take n ++ rest.drop n) := by unfold Hid; rw [List.append_assoc, List.take_append_drop]; exact HL.out
        have HFIN : Hid (HashAt K I b (M ++ (done ++ rest.take n)) (w1.setCell ⟨b, 73, none⟩ (.int .i64 ((L : Int) + (n : Int))))) := by
          have hxl : (rest.take n).length = n := by simp; omega
          have hf := hash_less K I (M ++ done) (rest.take n) B r (by rw [HLL.out]; exact HR.out) hB HBt.out (by rw [hxl]; omega)
          rw [hxl, ← HB'.out, HS.out] at hf
          refine ⟨B', hB'l, ?_, ?_⟩
          · rw [← List.append_assoc]; exact hf.2
          · rw [← List.append_assoc, hf.1]
            have hlen2 : (M ++ done ++ rest.take n).length = L + n := by rw [List.length_append, HLL.out, hxl]
            rw [hlen2]
            exact HG2.out
        clear HG2
        go_wp2
        rw [HX.out]
        go_roundw
        case rel => exact ⟨done ++ rest.take n, rest.drop n, rfl, HL2, HFIN, HB2⟩
        case measure => show (rest.drop n).length < rest.length; simp; omega
end Go.Proofs.YtjanddnlhaionaaGreatDoor.L3
namespace Go.Proofs.YtjanddnlhaionaaGreatDoor.L3
open Go.RowKit

/-- The initial state lies in block 0. -/
def InitAt (w : World) (I : St) : Prop := ∀ i, i < 8 → w.cell? ⟨0, i, none⟩ = some (.int .u32 (I.list.getD i 0))
theorem InitAt.below {I : St} {b : Nat} {w w' : World} (h : InitAt w I) (hb : Below b w w') (h2 : 2 ≤ b) : InitAt w' I := fun i hi => by
  rw [hb.cell (show (0 : Nat) < b by omega)]; exact h i hi

def zeroRow : Array Value := (hashRow false ⟨0, 0, 0, 0, 0, 0, 0, 0⟩ (List.replicate 64 0) 0).toArray
theorem zero43 : (∀ w, (zeroValue 217).run Tryz.prog w = .ok (.agg zeroRow) w) ∧ (Tryz.prog.info? 217).map (·.size) = some 74 :=
  zero_of_info (by kernel_rfl)

set_option maxHeartbeats 800000 in
theorem new15_core (a b c d e f g h : Int) (Z : Array Value) (hz : ∀ w, (zeroValue 217).run Tryz.prog w = .ok (.agg Z) w) (hs : Z.size = 74) (w : World) (hI : InitAt w ⟨a, b, c, d, e, f, g, h⟩) :
    Calls Tryz.prog 100 #[] w fun x w' => x = .returned (.pointer (some ⟨w.heap.size, 0, none⟩)) ∧ w' = w.alloc (.cells (((((((((Z.setIfInBounds 0 (.bool true)).setIfInBounds 1 (.int .u32 a)).setIfInBounds 2 (.int .u32 b)).setIfInBounds 3 (.int .u32 c)).setIfInBounds 4 (.int .u32 d)).setIfInBounds 5 (.int .u32 e)).setIfInBounds 6 (.int .u32 f)).setIfInBounds 7 (.int .u32 g)).setIfInBounds 8 (.int .u32 h)) 217) := by
  have s0 : w.cell? ⟨0, 0, none⟩ = some (.int .u32 a) := hI 0 (by omega)
  have s1 : w.cell? ⟨0, 1, none⟩ = some (.int .u32 b) := hI 1 (by omega)
  have s2 : w.cell? ⟨0, 2, none⟩ = some (.int .u32 c) := hI 2 (by omega)
  have s3 : w.cell? ⟨0, 3, none⟩ = some (.int .u32 d) := hI 3 (by omega)
  have s4 : w.cell? ⟨0, 4, none⟩ = some (.int .u32 e) := hI 4 (by omega)
  have s5 : w.cell? ⟨0, 5, none⟩ = some (.int .u32 f) := hI 5 (by omega)
  have s6 : w.cell? ⟨0, 6, none⟩ = some (.int .u32 g) := hI 6 (by omega)
  have s7 : w.cell? ⟨0, 7, none⟩ = some (.int .u32 h) := hI 7 (by omega)
  have hne : ¬ Z = #[] := by rintro rfl; simp at hs
  clear hI
  go_enter Tryz.func100, Tryz.ntmps100
  go_wp2
  go_ret
  exact ⟨rfl, rfl⟩
theorem zeroRow_size : zeroRow.size = 74 := by kernel_rfl
theorem newRow (a b c d e f g h : Int) : (((((((((zeroRow.setIfInBounds 0 (.bool true)).setIfInBounds 1 (.int .u32 a)).setIfInBounds 2 (.int .u32 b)).setIfInBounds 3 (.int .u32 c)).setIfInBounds 4 (.int .u32 d)).setIfInBounds 5 (.int .u32 e)).setIfInBounds 6 (.int .u32 f)).setIfInBounds 7 (.int .u32 g)).setIfInBounds 8 (.int .u32 h)) = (hashRow true ⟨a, b, c, d, e, f, g, h⟩ (List.replicate 64 0) 0).toArray := by kernel_rfl
theorem new15 (K : List Int) (I : St) (w : World) (hI : InitAt w I) :
    Calls Tryz.prog 100 #[] w fun e w' => e = .returned (.pointer (some ⟨w.heap.size, 0, none⟩)) ∧ HashAt K I w.heap.size [] w' ∧ Below w.heap.size w w' := by
  obtain ⟨a, b, c, d, e, f, g, h⟩ := I
  have hc := new15_core a b c d e f g h _ zero43.1 zeroRow_size w hI
  rw [newRow] at hc
  refine hc.mono ?_
  rintro x w' ⟨hx, hw'⟩
  refine ⟨hx, ?_, ?_⟩
  · refine ⟨List.replicate 64 0, List.length_replicate, by simp [tailB], ?_⟩
    rw [foldB_small _ _ [] (by simp), hw', heap_alloc_new]
    rfl
  · rw [hw']
    exact (Below.refl _ _).alloc (Nat.le_refl _) _
theorem wpList_load_by {P : Program} {ops : Array Oper} {o : Oper} {rest : List Oper} {a : Act} {w : World} {Q : Exit → Act → World → Prop}
    (hg : o.guard = none) (ty : TypeId) (x : Operand) (ho : o.op = .load ty x) (p v : Value) (hx : a.eval x = p) (hrun : (Instr.loadAt ty p).run P w = .ok v w) (h : wpList P ops Q rest (a.put o.dst v) w) :
    wpList P ops Q (o :: rest) a w := by
  refine wpList_plain hg fun K hK => ?_
  unfold Oper.wp
  simp [execOp, ho, hx, hrun]
  exact hK _ _ h

/-- The digest of the bytes M. -/
def digestM (K : List Int) (I : St) (M : List UInt8) : List UInt8 := (foldB K I (M ++ padL M.length)).list.flatMap by4

theorem padL_length (n : Nat) : (padL n).length ≤ 72 := by
  have : padN n < 64 := by unfold padN; omega
  simp [padL, len8To]; omega

theorem hashRow_oneCell (m : Bool) (S : St) (B : List UInt8) (n : Nat) : (hashRow m S B n).toArray.all (·.oneCell') = true := by
  rw [Array.all_eq_true_iff_forall_mem]
  intro v hv
  simp only [hashRow, List.mem_toArray, List.mem_cons, List.mem_append, List.not_mem_nil, or_false] at hv
  rcases hv with rfl | hv | hv | rfl
  · rfl
  · exact (Array.all_eq_true_iff_forall_mem.1 (St.oneCell S)) v (by simpa using hv)
  · exact bytes_oneCell B v hv
  · rfl

theorem HashAt.lt {K : List Int} {I : St} {b : Nat} {M : List UInt8} {w : World} (h : HashAt K I b M w) : b < w.heap.size := by
  obtain ⟨B, _, _, hg⟩ := h.is
  by_cases hlt : b < w.heap.size
  · exact hlt
  · rw [Array.getElem?_eq_none (by omega)] at hg; cases hg
theorem HashAt.below {K : List Int} {I : St} {b c : Nat} {M : List UInt8} {w w' : World} (h : HashAt K I b M w) (hb : Below c w w') (hc : b < c) : HashAt K I b M w' := by
  obtain ⟨B, h1, h2, hg⟩ := h.is
  exact ⟨B, h1, h2, (hb.block b hc).trans hg⟩

set_option maxHeartbeats 800000 in
theorem sum17 (K : List Int) (I : St) (b : Nat) (M : List UInt8) (w : World) (hK : KeysAt w K) (hb2 : 2 ≤ b) (hH : HashAt K I b M w) (hl : M.length ≤ 900000) :
    Calls Tryz.prog 102 #[.pointer (some ⟨b, 0, none⟩)] w fun e w' => e = .returned (.string ⟨(digestM K I M).toArray⟩) ∧ Below w.heap.size w w' := by
  have HK := Lib.hid hK
  have hblt := hH.lt
  obtain ⟨B, hB, hBt, hg⟩ := hH.is
  have cm : w.cell? ⟨b, 0, none⟩ = some (.bool true) := cell_row hg (hashRow_made _ _ _ _)
  have HE := Lib.hid (exists24 b true w cm)
  obtain ⟨S, hS⟩ : ∃ S, foldB K I M = S := ⟨_, rfl⟩
  rw [hS] at hg
  obtain ⟨N, hN⟩ : ∃ N, M.length = N := ⟨_, rfl⟩
  rw [hN] at hg
  have HN := Lib.hid hN
  have hsz : (hashRow true S B N).length = 74 := hashRow_length _ _ _ _ hB
  have HG := Lib.hid hg
  have H1 := Lib.hid (hashRow_oneCell true S B N)
  have HI43 := Lib.hid zero43.2
  have hz := zero43.1
  have hZs := zeroRow_size
  generalize zeroRow = Z at hz hZs
  have cL0 := cell_row hg (hashRow_len _ _ _ _ hB)
  have hw2 : ((w.alloc (.cells Z 217)).setRow w.heap.size (hashRow true S B N).toArray).heap[w.heap.size]? = some (.cells (hashRow true S B N).toArray 217 (0, 0)) := setRow_heap _ _ _ _ _ _ (heap_alloc_new _ _)
  have hB2 : Below w.heap.size w ((w.alloc (.cells Z 217)).setRow w.heap.size (hashRow true S B N).toArray) := below_setRow ((Below.refl _ _).alloc (Nat.le_refl _) _) (Nat.le_refl _) _
  have hs2 : ((w.alloc (.cells Z 217)).setRow w.heap.size (hashRow true S B N).toArray).heap.size = w.heap.size + 1 := by simp
  have HH2 : Hid (HashAt K I w.heap.size M ((w.alloc (.cells Z 217)).setRow w.heap.size (hashRow true S B N).toArray)) := ⟨B, hB, hBt, by rw [hS, hN]; exact hw2⟩
  have HB2 := Lib.hid hB2
  have HS2 := Lib.hid hs2
  have hNl : N ≤ 900000 := by omega
  have cL1 := (hB2.cell (p := ⟨b, 73, none⟩) hblt).trans cL0
  have HP := Lib.hid (padding26 N (by omega))
  clear hS hg hN hBt hK cm hH hw2 hB2 hs2 hl cL0
  go_enter Tryz.func102, Tryz.ntmps102
  go_wp2_with (first | (go_at_call 142; refine HE.out.mono ?_; rintro e w' ⟨rfl, rfl⟩) | (refine wpList_load_row rfl 217 _ rfl b rfl 217 _ (0, 0) _ HG.out Tryz.underlying217 rfl (by simpa [hsz] using HI43.out) ?_) | (refine wpList_store_row rfl 217 _ _ rfl w.heap.size _ rfl rfl 217 _ (heap_alloc_new _ _) (by simpa [hsz] using HI43.out) (by simp [hsz, hZs]) H1.out ?_))
  clear cL1
  generalize (w.alloc (.cells Z 217)).setRow w.heap.size (hashRow true S B N).toArray = w2 at HH2 HB2 HS2 ⊢
  refine (HP.out w2).mono ?_
  rintro e' w3 ⟨rfl, hb3⟩
  have hw2s : w.heap.size < w2.heap.size := by rw [HS2.out]; omega
  have HB3 : Hid (Below w.heap.size w w3) := HB2.out.trans (hb3.mono (by omega))
  have HPUT := Lib.hid (put16 K I w.heap.size M ⟨(padL N).toArray⟩ w3 (HK.out.below HB3.out (by omega)) (by omega) (HH2.out.below hb3 hw2s) (by
    have h1 : (⟨(padL N).toArray⟩ : ByteArray).size = (padL N).length := rfl
    have h2 := padL_length N
    rw [h1, HN.out]; omega))
  generalize hpl : padL N = pl at HPUT ⊢
  have HPL := Lib.hid hpl
  clear hpl hb3 HB2 HH2 HS2 hw2s HP HG H1
  go_wp2_with fail
  refine HPUT.out.mono ?_
  rintro e' w4 ⟨rfl, hh4, hb4⟩
  have HB4 : Hid (Below w.heap.size w w4) := HB3.out.trans hb4
  obtain ⟨B4, hB4, -, hg4⟩ := hh4.is
  obtain ⟨T, hT⟩ : ∃ T, foldB K I (M ++ pl) = T := ⟨_, rfl⟩
  have hT' : foldB K I (M ++ (⟨pl.toArray⟩ : ByteArray).data.toList) = T := hT
  rw [hT'] at hg4
  have HL := Lib.hid (run_load39 w4 _ _ _ _ _ hg4)
  have HBY := Lib.hid (bytes27 T)
  have HD : Hid (digestM K I M = T.list.flatMap by4) := by
    unfold Hid digestM
    rw [HN.out, HPL.out, hT]
  generalize T.cells = tc at HL HBY
  clear hh4 hb4 hB4 hg4 hT hT' HPUT HB3 HPL HN
  go_wp2_with (first | (refine wpList_load_by rfl 214 _ rfl (.pointer (some ⟨w.heap.size, 1, none⟩)) (.agg tc) rfl HL.out ?_) | (go_at_call 145; refine (HBY.out _).mono ?_; rintro e' w5 ⟨rfl, hb5⟩))
  go_ret
  exact ⟨by rw [HD.out]; rfl, HB4.out.trans (hb5.mono HB4.out.size)⟩
end Go.Proofs.YtjanddnlhaionaaGreatDoor.L3
namespace Go.Proofs.YtjanddnlhaionaaGreatDoor.L3
open Go.RowKit

/-- A pointer that is nil, or to a hash that was not made. -/
def NotMade (w : World) (p : Option Addr) : Prop := p = none ∨ ∃ b, p = some ⟨b, 0, none⟩ ∧ w.cell? ⟨b, 0, none⟩ = some (.bool false)
/-- The two tables lie as they are laid. -/
structure Tabs (K : List Int) (I : St) (w : World) : Prop where
  keys : KeysAt w K
  init : InitAt w I
  two : 2 ≤ w.heap.size
theorem Tabs.below {K : List Int} {I : St} {b : Nat} {w w' : World} (h : Tabs K I w) (hb : Below b w w') (h2 : 2 ≤ b) : Tabs K I w' :=
  ⟨h.keys.below hb h2, h.init.below hb h2, Nat.le_trans h.two hb.size⟩

set_option maxHeartbeats 400000 in
theorem sum9 (K : List Int) (I : St) (s : ByteArray) (w : World) (hT : Tabs K I w) (hs : s.size ≤ 900000) :
    Calls Tryz.prog 50 #[.string s] w fun e w' => e = .returned (.string ⟨(digestM K I s.data.toList).toArray⟩) ∧ Below w.heap.size w w' := by
  have HN := Lib.hid (new15 K I w hT.init)
  have HT := Lib.hid hT
  have h2 := hT.two
  obtain ⟨R, hR⟩ : ∃ R, digestM K I s.data.toList = R := ⟨_, rfl⟩
  rw [hR]
  have HR := Lib.hid hR
  clear hT hR
  go_enter Tryz.func50, Tryz.ntmps50
  go_wp2_with fail
  refine HN.out.mono ?_
  rintro e w1 ⟨rfl, hh1, hb1⟩
  have HP := Lib.hid (put16 K I w.heap.size [] s w1 (HT.out.keys.below hb1 h2) h2 hh1 (by simp; omega))
  have HB1 := Lib.hid hb1
  clear hh1 hb1 HN
  go_wp2_with fail
  refine HP.out.mono ?_
  rintro e w2 ⟨rfl, hh2, hb2⟩
  have HB2 : Hid (Below w.heap.size w w2) := HB1.out.trans hb2
  have hsl : s.data.toList.length = s.size := by simp
  have HS := Lib.hid (sum17 K I w.heap.size ([] ++ s.data.toList) w2 (HT.out.keys.below HB2.out h2) h2 hh2 (by rw [List.nil_append, hsl]; exact hs))
  rw [List.nil_append, HR.out] at HS
  clear hh2 hb2 HP HR hsl
  go_wp2_with fail
  refine HS.out.mono ?_
  rintro e w3 ⟨rfl, hb3⟩
  go_wp2
  go_ret
  exact ⟨rfl, HB2.out.trans (hb3.mono HB2.out.size)⟩
end Go.Proofs.YtjanddnlhaionaaGreatDoor.L3
namespace Go.Proofs.YtjanddnlhaionaaGreatDoor.L3
open Go.RowKit

def hexD (n : Nat) : UInt8 := if n < 10 then UInt8.ofNat (48 + n) else UInt8.ofNat (87 + n)
def hex2 (c : UInt8) : List UInt8 := [hexD (c.toNat / 16), hexD (c.toNat % 16)]
def hexL (l : List UInt8) : List UInt8 := l.flatMap hex2
theorem and15 (c : UInt8) : bits BinOp.and IntKind.u8 (c.toNat : Int) 15 = ((c.toNat % 16 : Nat) : Int) := by
  have : ∀ k : Fin 256, bits BinOp.and IntKind.u8 (k.val : Int) 15 = ((k.val % 16 : Nat) : Int) := by decide +kernel
  exact this ⟨c.toNat, c.toNat_lt⟩

end Go.Proofs.YtjanddnlhaionaaGreatDoor.L3
namespace Go.Proofs.YtjanddnlhaionaaGreatDoor.L3
open Go

def keysL : List Int := [1116352408, 1899447441, 3049323471, 3921009573, 961987163, 1508970993, 2453635748, 2870763221, 3624381080, 310598401, 607225278, 1426881987, 1925078388, 2162078206, 2614888103, 3248222580, 3835390401, 4022224774, 264347078, 604807628, 770255983, 1249150122, 1555081692, 1996064986, 2554220882, 2821834349, 2952996808, 3210313671, 3336571891, 3584528711, 113926993, 338241895, 666307205, 773529912, 1294757372, 1396182291, 1695183700, 1986661051, 2177026350, 2456956037, 2730485921, 2820302411, 3259730800, 3345764771, 3516065817, 3600352804, 4094571909, 275423344, 430227734, 506948616, 659060556, 883997877, 958139571, 1322822218, 1537002063, 1747873779, 1955562222, 2024104815, 2227730452, 2361852424, 2428436474, 2756734187, 3204031479, 3329325298]
def initS : St := ⟨1779033703, 3144134277, 1013904242, 2773480762, 1359893119, 2600822924, 528734635, 1541459225⟩

def blockABC : List UInt8 := [97, 98, 99, 128] ++ List.replicate 59 0 ++ [24]
end Go.Proofs.YtjanddnlhaionaaGreatDoor.L3
namespace Go.Proofs.YtjanddnlhaionaaGreatDoor.L3
open Go.ChangeShapes Go.WideShapes Go.ChangeAt Go.RowKit

def laid2 : List (String × DataW Unit) := [("fasti/digest.initial", Rows.laid_fasti_digest_initial), ("fasti/digest.roundKeys", Rows.laid_fasti_digest_roundKeys)]
theorem own : ownKnob Tryz.prog.godebug = none := by kernel_rfl
theorem gInit : Tryz.prog.globalNamed "fasti/digest.initial" = some 0 := by kernel_rfl
theorem gKeys : Tryz.prog.globalNamed "fasti/digest.roundKeys" = some 1 := by kernel_rfl
theorem tInit : (Tryz.prog.globals[0]?).map (·.type) = some 214 := by kernel_rfl
theorem tKeys : (Tryz.prog.globals[1]?).map (·.type) = some 221 := by kernel_rfl

theorem datum0 {H : Type} : (Rows.laid_fasti_digest_initial : DataW H) = Lib.tabData .u32 initS.list := rfl
theorem datum1 {H : Type} : (Rows.laid_fasti_digest_roundKeys : DataW H) = Lib.tabData .u32 keysL := rfl

end Go.Proofs.YtjanddnlhaionaaGreatDoor.L3
namespace Go.Proofs.YtjanddnlhaionaaGreatDoor.L3
open Go.RowKit

def digit (c : UInt8) : Option Nat := if 48 ≤ c.toNat ∧ c.toNat ≤ 57 then some (c.toNat - 48) else if 97 ≤ c.toNat ∧ c.toNat ≤ 102 then some (c.toNat - 87) else none
def unhexL : List UInt8 → Option (List UInt8)
  | [] => some []
  | [_] => none
  | a :: b :: r => match digit a, digit b with
    | some x, some y => (unhexL r).map (UInt8.ofNat (16 * x + y) :: ·)
    | _, _ => none
/-- What Unhex answers. -/
def unhexE (r : Option (List UInt8)) : Value := .tuple #[.string ⟨(r.getD []).toArray⟩, .int .i64 (if r.isSome then 0 else 4)]

end Go.Proofs.YtjanddnlhaionaaGreatDoor.L3
namespace Go.Proofs.YtjanddnlhaionaaGreatDoor.L3
open Go.RowKit

theorem digestM_length (K : List Int) (I : St) (M : List UInt8) : (digestM K I M).length = 32 := by
  unfold digestM
  rw [by4_length]; rfl

end Go.Proofs.YtjanddnlhaionaaGreatDoor.L3
