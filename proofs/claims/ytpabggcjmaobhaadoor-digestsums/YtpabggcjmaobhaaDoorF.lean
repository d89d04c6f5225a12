/-
  Hash.Put. The round keys lie as they are laid.
-/
import Derived.Test.YtpabggcjmaobhaaDoorC
import Derived.Test.YtpabggcjmaobhaaDoorE
import Derived.Test.YtpabggcjmaobhaaDoorQ
import Derived.Laws.CopyOwn
namespace Go.Proofs.YtpabggcjmaobhaaDoor
open Go.RowKit

theorem extract_drop (rest : List UInt8) (n : Nat) : (⟨rest.toArray⟩ : ByteArray).extract n rest.length = ⟨(rest.drop n).toArray⟩ := by
  apply ByteArray.ext
  rw [ByteArray.data_extract]
  apply Array.ext'
  simp
  exact List.take_of_length_le (by simp)

/-- copy of a string into the middle of a row. -/
theorem run_copy_str {P : Program} (w : World) (dT sT ty elem : TypeId) (g o dLen dCap : Nat) (t : ByteArray) (cur : List Value) (tt : TypeId) (n : Nat) (hu : P.underlying dT = some (.slice elem)) (hs : (P.info? elem).map (·.size) = some 1)
    (hn : n = Nat.min t.size dLen) (hg : w.heap[g]? = some (.cells cur.toArray tt (0, 0))) (hfit : o + n ≤ cur.length) :
    (Builtin.copy_ #[dT, sT] ty #[.slice (some ⟨g, o, none⟩) dLen dCap, .string t]).run P w = .ok (.int .i64 (n : Int)) (w.setRow g (cur.take o ++ bytesV (t.data.toList.take n) ++ cur.drop (o + n)).toArray) := by
  have hts : t.data.toList.length = t.size := by simp
  have hnt : n ≤ t.size := by rw [hn]; exact Nat.min_le_left _ _
  have hl : (bytesV (t.data.toList.take n)).length = n := by rw [bytesV_len, List.length_take, hts]; omega
  have hst := run_storeCells_at P g o tt (bytesV (t.data.toList.take n)) 0 cur.toArray w hg (by rw [hl]; simpa using hfit) (bytes_oneCell _)
  cases hq : P.info? elem with
  | none => simp [hq] at hs
  | some i =>
    have hmin : min t.size dLen = n := hn.symm
    have hb : List.map (fun b : UInt8 => Value.int .u8 (b.toNat : Int)) (List.take n t.data.toList) = bytesV (t.data.toList.take n) := rfl
    rw [hl] at hst
    simp [Builtin.copy_, run_underlying hu, Builtin.lenOf, Builtin.firstCells, sizeOf, typeInfo, hq, hmin, goInt]
    rw [← List.map_take, hb]
    simp only [Nat.add_zero] at hst
    rw [hst]
    simp

theorem wpList_copy_str {P : Program} {w : World} {ops : Array Oper} {rest : List Oper} {o : Oper} {a : Act} {Q : Exit → Act → World → Prop} (hgd : o.guard = none) (d s : Operand) (dT sT elem : TypeId)
    (ho : o.op = .call { callee := .builtin .copy, args := #[d, s], argTypes := #[dT, sT] }) (g off dLen dCap : Nat) (t : ByteArray) (cur : List Value) (tt : TypeId) (n : Nat) (hd : a.eval d = .slice (some ⟨g, off, none⟩) dLen dCap) (hs : a.eval s = .string t)
    (hu : P.underlying dT = some (.slice elem)) (hsz : (P.info? elem).map (·.size) = some 1) (hn : n = Nat.min t.size dLen) (hg : w.heap[g]? = some (.cells cur.toArray tt (0, 0))) (hfit : off + n ≤ cur.length)
    (h : wpList P ops Q rest (a.put o.dst (.int .i64 (n : Int))) (w.setRow g (cur.take off ++ bytesV (t.data.toList.take n) ++ cur.drop (off + n)).toArray)) : wpList P ops Q (o :: rest) a w := by
  refine wpList_plain hgd fun K hK => ?_
  have hrun := run_copy_str (P := P) w dT sT o.type elem g off dLen dCap t cur tt n hu hsz hn hg hfit
  unfold Oper.wp
  simp [execOp, ho, resolve, invoke, builtin, hd, hs, hrun, Result.andThen]
  exact hK _ _ (by simpa using h)

theorem run_load39 (W : World) (b : Nat) (m : Bool) (S : St) (B : List UInt8) (n : Nat) (h : W.heap[b]? = some (.cells (hashRow m S B n).toArray 43 (0, 0))) :
    (Instr.loadAt 39 (.pointer (some ⟨b, 1, none⟩))).run Tryd.prog W = .ok (.agg S.cells) W := by
  have hi39 : (Tryd.prog.info? 39).map (·.size) = some 8 := by kernel_rfl
  refine run_loadAt_mid W b 1 39 S.cells.toList _ (fun j v hv => ?_) Tryd.underlying39 rfl hi39
  refine cell_row h ?_
  have hj : j < S.cells.toList.length := (List.getElem?_eq_some_iff.1 hv).1
  unfold hashRow
  rw [show 1 + j = j + 1 by omega, List.getElem?_cons_succ, List.getElem?_append_left hj]
  exact hv
theorem run_load41 (W : World) (b : Nat) (m : Bool) (S : St) (B : List UInt8) (n : Nat) (hB : B.length = 64) (h : W.heap[b]? = some (.cells (hashRow m S B n).toArray 43 (0, 0))) :
    (Instr.loadAt 41 (.pointer (some ⟨b, 9, none⟩))).run Tryd.prog W = .ok (.agg (bytesV B).toArray) W := by
  have hi41 : (Tryd.prog.info? 41).map (·.size) = some 64 := by kernel_rfl
  refine run_loadAt_mid W b 9 41 (bytesV B) _ (fun j v hv => ?_) Tryd.underlying41 rfl (by rw [bytesV_len, hB]; exact hi41)
  refine cell_row h ?_
  have hj : j < (bytesV B).length := (List.getElem?_eq_some_iff.1 hv).1
  unfold hashRow
  rw [show 9 + j = 8 + j + 1 by omega, List.getElem?_cons_succ, List.getElem?_append_right (by rw [cells_len]; omega), cells_len, show 8 + j - 8 = j by omega, List.getElem?_append_left hj]
  exact hv
theorem run_store39 (W : World) (b : Nat) (m : Bool) (S T : St) (B : List UInt8) (n : Nat) (hB : B.length = 64) (h : W.heap[b]? = some (.cells (hashRow m S B n).toArray 43 (0, 0))) :
    (Instr.storeAt 39 (.pointer (some ⟨b, 1, none⟩)) (.agg T.cells)).run Tryd.prog W = .ok () (W.setRow b (hashRow m T B n).toArray) := by
  have hi39 : (Tryd.prog.info? 39).map (·.size) = some 8 := by kernel_rfl
  have h1 : ∀ v ∈ T.cells.toList, v.oneCell' = true := fun v hv => (Array.all_eq_true_iff_forall_mem.1 (St.oneCell T)) v (by simpa using hv)
  have hst := run_storeCells_at Tryd.prog b 1 43 T.cells.toList 0 (hashRow m S B n).toArray W h (by rw [cells_len]; simp [hashRow_length m S B n hB]) h1
  rw [cells_len] at hst
  simp only [Nat.add_zero] at hst
  rw [hashRow_state] at hst
  cases hq : Tryd.prog.info? 39 with
  | none => simp [hq] at hi39
  | some i =>
    have hs : i.size = 8 := by simpa [hq] using hi39
    have hz : T.cells.size = 8 := rfl
    simp [Instr.storeAt, Instr.sureAddr, storeVar, sizeOf, typeInfo, hq, Value.cells, hs, hz, hst]

theorem step_load {P : Program} {ops : Array Oper} {o : Oper} {a : Act} {w : World} {K : Act → World → Prop} {Q : Exit → Act → World → Prop} {E : Prop}
    (hg : o.guard = none) (ty : TypeId) (x : Operand) (ho : o.op = .load ty x) (p v : Value) (hx : a.eval x = p) (hrun : (Instr.loadAt ty p).run P w = .ok v w) (hK : K (a.put o.dst v) w) :
    if Region.wanted o (yielded ops a.tmps) = true then Oper.wp P o a w K Q else E := by
  have hw : Region.wanted o (yielded ops a.tmps) = true := by simp [Region.wanted, hg]
  rw [if_pos hw]
  unfold Oper.wp
  simp [execOp, ho, hx, hrun]
  exact hK
theorem step_store {P : Program} {ops : Array Oper} {o : Oper} {a : Act} {w w' : World} {K : Act → World → Prop} {Q : Exit → Act → World → Prop} {E : Prop}
    (hg : o.guard = none) (ty : TypeId) (x y : Operand) (ho : o.op = .store ty x y) (p v : Value) (hx : a.eval x = p) (hy : a.eval y = v) (hrun : (Instr.storeAt ty p v).run P w = .ok () w') (hK : K (a.put o.dst undef) w') :
    if Region.wanted o (yielded ops a.tmps) = true then Oper.wp P o a w K Q else E := by
  have hw : Region.wanted o (yielded ops a.tmps) = true := by simp [Region.wanted, hg]
  rw [if_pos hw]
  unfold Oper.wp
  simp [execOp, ho, hx, hy, hrun]
  exact hK
theorem step_wanted {P : Program} {ops : Array Oper} {o : Oper} {a : Act} {w : World} {K : Act → World → Prop} {Q : Exit → Act → World → Prop} {E : Prop}
    (hg : o.guard = none) (hK : Oper.wp P o a w K Q) :
    if Region.wanted o (yielded ops a.tmps) = true then Oper.wp P o a w K Q else E := by
  have hw : Region.wanted o (yielded ops a.tmps) = true := by simp [Region.wanted, hg]
  rw [if_pos hw]
  exact hK

def op0 : Oper := { dst := some 40, op := Go.Op.move (Go.Operand.tmp 0), type := 31, pos := "digest.go:36", after := #[], guard := none }
def op1 : Oper := { dst := some 41, op := Go.Op.move (Go.Operand.tmp 0), type := 31, pos := "digest.go:36", after := #[], guard := none }
def op2 : Oper := { dst := some 42, op := Go.Op.nilCheck (Go.Operand.tmp 41), type := 0, pos := "digest.go:36", after := #[{ on := 1, ground := Go.Ground.data }], guard := none }
def op3 : Oper := { dst := some 43, op := Go.Op.fieldAddr 43 (Go.Operand.tmp 42) 1, type := 0, pos := "digest.go:36", after := #[{ on := 2, ground := Go.Ground.data }], guard := none }
def op4 : Oper := { dst := some 44, op := Go.Op.load 39 (Go.Operand.tmp 43), type := 39, pos := "digest.go:36", after := #[{ on := 3, ground := Go.Ground.data }], guard := none }
def op5 : Oper := { dst := some 45, op := Go.Op.move (Go.Operand.tmp 0), type := 31, pos := "digest.go:36", after := #[], guard := none }
def op6 : Oper := { dst := some 46, op := Go.Op.nilCheck (Go.Operand.tmp 45), type := 0, pos := "digest.go:36", after := #[{ on := 5, ground := Go.Ground.data }], guard := none }
def op7 : Oper := { dst := some 47, op := Go.Op.fieldAddr 43 (Go.Operand.tmp 46) 2, type := 0, pos := "digest.go:36", after := #[{ on := 6, ground := Go.Ground.data }], guard := none }
def op8 : Oper := { dst := some 48, op := Go.Op.load 41 (Go.Operand.tmp 47), type := 41, pos := "digest.go:36", after := #[{ on := 7, ground := Go.Ground.data }], guard := none }
def op9 : Oper := { dst := some 49, op := Go.Op.call { callee := Go.Callee.value (Go.Operand.func 25), args := #[Go.Operand.tmp 44, Go.Operand.tmp 48], argTypes := #[39, 41] }, type := 39, pos := "digest.go:36", after := #[{ on := 4, ground := Go.Ground.data }, { on := 8, ground := Go.Ground.data }], guard := none }
def op10 : Oper := { dst := some 50, op := Go.Op.nilCheck (Go.Operand.tmp 40), type := 0, pos := "digest.go:36", after := #[{ on := 0, ground := Go.Ground.data }, { on := 0, ground := Go.Ground.phase }, { on := 1, ground := Go.Ground.phase }, { on := 2, ground := Go.Ground.phase }, { on := 3, ground := Go.Ground.phase }, { on := 4, ground := Go.Ground.phase }, { on := 5, ground := Go.Ground.phase }, { on := 6, ground := Go.Ground.phase }, { on := 7, ground := Go.Ground.phase }, { on := 8, ground := Go.Ground.phase }, { on := 9, ground := Go.Ground.phase }], guard := none }
def op11 : Oper := { dst := some 51, op := Go.Op.fieldAddr 43 (Go.Operand.tmp 50) 1, type := 0, pos := "digest.go:36", after := #[{ on := 10, ground := Go.Ground.data }, { on := 0, ground := Go.Ground.phase }, { on := 1, ground := Go.Ground.phase }, { on := 2, ground := Go.Ground.phase }, { on := 3, ground := Go.Ground.phase }, { on := 4, ground := Go.Ground.phase }, { on := 5, ground := Go.Ground.phase }, { on := 6, ground := Go.Ground.phase }, { on := 7, ground := Go.Ground.phase }, { on := 8, ground := Go.Ground.phase }, { on := 9, ground := Go.Ground.phase }], guard := none }
def op12 : Oper := { dst := none, op := Go.Op.store 39 (Go.Operand.tmp 51) (Go.Operand.tmp 49), type := 0, pos := "digest.go:36", after := #[{ on := 11, ground := Go.Ground.data }, { on := 9, ground := Go.Ground.data }, { on := 9, ground := Go.Ground.chain }, { on := 0, ground := Go.Ground.phase }, { on := 1, ground := Go.Ground.phase }, { on := 2, ground := Go.Ground.phase }, { on := 3, ground := Go.Ground.phase }, { on := 4, ground := Go.Ground.phase }, { on := 5, ground := Go.Ground.phase }, { on := 6, ground := Go.Ground.phase }, { on := 7, ground := Go.Ground.phase }, { on := 8, ground := Go.Ground.phase }, { on := 9, ground := Go.Ground.phase }], guard := none }

/-- A hash in block b to which M was put. -/
structure HashAt (K : List Int) (I : St) (b : Nat) (M : List UInt8) (w : World) : Prop where
  is : ∃ B : List UInt8, B.length = 64 ∧ B.take (M.length % 64) = tailB M ∧ w.heap[b]? = some (.cells (hashRow true (foldB K I M) B M.length).toArray 43 (0, 0))

theorem KeysAt.below {K : List Int} {b : Nat} {w w' : World} (h : KeysAt w K) (hb : Below b w w') (h2 : 2 ≤ b) : KeysAt w' K := fun i hi => by
  rw [hb.cell (show (1 : Nat) < b by omega)]; exact h i hi

set_option maxRecDepth 100000 in
set_option maxHeartbeats 800000 in
theorem put16 (K : List Int) (I : St) (b : Nat) (M : List UInt8) (s : ByteArray) (w : World) (hK : KeysAt w K) (hb2 : 2 ≤ b) (hH : HashAt K I b M w) (hl : M.length + s.size ≤ 1000000) :
    Calls Tryd.prog 16 #[.pointer (some ⟨b, 0, none⟩), .string s] w fun e w' => e = .returned (.int .i64 0) ∧ HashAt K I b (M ++ s.data.toList) w' ∧ Below b w w' := by
  have HK := Lib.hid hK
  have HH := Lib.hid hH
  obtain ⟨B0, hB0, hB1, hg⟩ := hH.is
  have cm : w.cell? ⟨b, 0, none⟩ = some (.bool true) := cell_row hg (hashRow_made _ _ _ _)
  have HE := Lib.hid (exists24 b true w cm)
  obtain ⟨l, hsl⟩ : ∃ l, s.data.toList = l := ⟨_, rfl⟩
  have hs : s = ⟨l.toArray⟩ := by cases s with | mk d => subst hsl; simp
  have hll : l.length = s.size := by rw [← hsl]; simp
  rw [hsl]
  subst hs
  rw [← hll] at hl
  clear hsl hll hB0 hB1 hg cm hK hH
  go_enter Tryd.func16, Tryd.ntmps16
  go_wp2_with (go_at_call 24; refine HE.out.mono ?_; rintro e w' ⟨rfl, rfl⟩)
  clear HE
  go_loopw [1] (fun s1 wr => ∃ done rest : List UInt8, s1 = .string ⟨rest.toArray⟩ ∧ Hid (l = done ++ rest) ∧ Hid (HashAt K I b (M ++ done) wr) ∧ Hid (Below b w wr)) (fun s1 _ => match s1 with | .string s => s.size | _ => 0)
  case atStart => exact ⟨[], l, rfl, rfl, by simpa [Hid] using HH.out, Below.refl _ _⟩
  case round =>
    obtain ⟨done, rest, rfl, HL, HH, HB⟩ := hrel
    have hlen : M.length + done.length + rest.length ≤ 1000000 := by
      have := HL.out
      rw [this, List.length_append] at hl
      omega
    by_cases hne : rest.length = 0
    · have hre : rest = [] := List.length_eq_zero_iff.1 hne
      subst hre
      have HL0 : Hid (l = done) := by unfold Hid; rw [HL.out, List.append_nil]
      clear HL hne
      go_wp2
      go_ret
      exact ⟨rfl, by rw [HL0.out]; exact HH.out, HB.out⟩
    · obtain ⟨B, hB, hBt, hg⟩ := HH.out.is
      obtain ⟨S, hS⟩ : ∃ S, foldB K I (M ++ done) = S := ⟨_, rfl⟩
      rw [hS] at hg
      obtain ⟨L, hL⟩ : ∃ L, (M ++ done).length = L := ⟨_, rfl⟩
      rw [hL] at hg hBt
      have hLl : L ≤ 1000000 := by simp at hL; omega
      have cL : wr.cell? ⟨b, 73, none⟩ = some (.int .i64 L) := cell_row hg (hashRow_len _ _ _ _ hB)
      obtain ⟨r, hr⟩ : ∃ r, L % 64 = r := ⟨_, rfl⟩
      have hr64 : r < 64 := by omega
      have er : (L : Int).tmod 64 = (r : Int) := by rw [Int.tmod_eq_emod_of_nonneg (by omega)]; omega
      have hri : (r : Int) ≤ 64 := by omega
      have hrne : ¬ 64 = r := by omega
      obtain ⟨n, hn⟩ : ∃ n, n = Nat.min rest.length (64 - r) := ⟨_, rfl⟩
      have hn1 : n ≤ rest.length := by rw [hn]; exact Nat.min_le_left _ _
      have hn2 : n ≤ 64 - r := by rw [hn]; exact Nat.min_le_right _ _
      have hn3 : 0 < n := by rw [hn]; exact Nat.lt_min.2 ⟨by omega, by omega⟩
      have hi5 : (Tryd.prog.info? 5).map (·.size) = some 1 := by kernel_rfl
      have HI5 := Lib.hid hi5
      rw [hr] at hBt
      have HR := Lib.hid hr
      have HG := Lib.hid hg
      have HS := Lib.hid hS
      have HLL := Lib.hid hL
      have HBt := Lib.hid hBt
      have HN := Lib.hid hn
      clear hg hS hL hBt hr hn hi5
      go_wp2_with fail
      go_still_tail 10, (by kernel_rfl)
      refine wpList_copy_str rfl _ _ 47 9 5 rfl b (9 + r) (64 - r) (64 - r) ⟨rest.toArray⟩ (hashRow true S B L) 43 n rfl rfl Tryd.underlying47 HI5.out (by exact HN.out) HG.out (by rw [hashRow_length _ _ _ _ hB]; omega) ?_
      have hC : ((⟨rest.toArray⟩ : ByteArray).data.toList.take n).length = n := by simp; omega
      have hrow := hashRow_copy true S B ((⟨rest.toArray⟩ : ByteArray).data.toList.take n) L r (by rw [hC]; omega)
      rw [hC] at hrow
      rw [hrow]
      obtain ⟨B', hB'⟩ : ∃ B', B.take r ++ (⟨rest.toArray⟩ : ByteArray).data.toList.take n ++ B.drop (r + n) = B' := ⟨_, rfl⟩
      rw [hB']
      generalize hw1 : (World.setRow { heap := wr.heap, tape := wr.tape, drawn := wr.drawn + 1, os := wr.os, output := wr.output } b (hashRow true S B' L).toArray) = w1
      have HG1 : Hid (w1.heap[b]? = some (.cells (hashRow true S B' L).toArray 43 (0, 0))) := by
        unfold Hid; rw [← hw1]; exact setRow_heap _ _ _ _ _ _ HG.out
      have HB1 : Hid (Below b w w1) := by
        unfold Hid; rw [← hw1]; exact below_setRow HB.out.drew (Nat.le_refl _) _
      have hB'l : B'.length = 64 := by rw [← hB']; simp; omega
      have HB' : Hid (B' = B.take r ++ rest.take n ++ B.drop (r + n)) := by unfold Hid; rw [← hB']
      have cL1 : w1.cell? ⟨b, 73, none⟩ = some (.int .i64 L) := cell_row HG1.out (hashRow_len _ _ _ _ hB'l)
      have fL1 : w1.frozen? ⟨b, 73, none⟩ = false := frozen_of_row w1 _ _ _ _ HG1.out
      clear hw1 hrow hC hB' cL HG HB
      by_cases hfull : r + n = 64
      · have ht : (((L : Int) + (n : Int)) % 64 == 0) = true := by
          have := HR.out
          have : ((L : Int) + (n : Int)) % 64 = 0 := by omega
          simpa using this
        have HG2 : Hid ((w1.setCell ⟨b, 73, none⟩ (.int .i64 ((L : Int) + (n : Int)))).heap[b]? = some (.cells (hashRow true S B' (L + n)).toArray 43 (0, 0))) := by
          unfold Hid
          rw [heap_setCell_same _ _ _ _ _ _ HG1.out, ← hashRow_setLen true S B' L (L + n) hB'l]
          simp
        have HB2 : Hid (Below b w (w1.setCell ⟨b, 73, none⟩ (.int .i64 ((L : Int) + (n : Int))))) := HB1.out.setCell (Nat.le_refl _) _
        have HX : Hid ((⟨rest.toArray⟩ : ByteArray).extract n rest.length = ⟨(rest.drop n).toArray⟩) := by
          exact extract_drop rest n
        obtain ⟨T, hT⟩ : ∃ T, afterM K S B' = T := ⟨_, rfl⟩
        have HT := Lib.hid hT
        have HC : Hid (∀ W, W.heap[b]? = some (.cells (hashRow true S B' (L + n)).toArray 43 (0, 0)) → Below b w W → Calls Tryd.prog 25 #[.agg S.cells, .agg (bytesV B').toArray] W fun x w' => x = .returned (.agg T.cells) ∧ Below W.heap.size W w') := by
          intro W hW hBW
          have hsz : b < W.heap.size := by
            by_cases hlt : b < W.heap.size
            · exact hlt
            · rw [Array.getElem?_eq_none (by omega)] at hW; cases hW
          have := after25 S.a S.b S.c S.d S.e S.f S.g S.h B' K hB'l W (HK.out.below hBW hb2) (by omega)
          rw [← hT]
          exact this
        clear hT
        go_wp2_with fail
        rw [HX.out]
        generalize (w1.setCell ⟨b, 73, none⟩ (.int .i64 ((L : Int) + (n : Int)))) = w2 at HG2 HB2 ⊢
        clear HX cL1 fL1 HG1 HB1
        have L39 := Lib.hid (run_load39 w2.drew b true S B' (L + n) HG2.out)
        have L41 := Lib.hid (run_load41 w2.drew b true S B' (L + n) hB'l HG2.out)
        have HS2 : Hid (w2.drew.heap[b]? = some (.cells (hashRow true S B' (L + n)).toArray 43 (0, 0)) ∧ Below b w w2.drew) := ⟨HG2.out, HB2.out.drew⟩
        have HBZ : Hid (b < w2.drew.heap.size) := by
          by_cases hlt : b < w2.drew.heap.size
          · exact hlt
          · have := HG2.out
            rw [Array.getElem?_eq_none (by simpa using hlt)] at this; cases this
        have HL2 : Hid (l = done ++ rest.take n ++ rest.drop n) := by unfold Hid; rw [List.append_assoc, List.take_append_drop]; exact HL.out
        have HFIN : Hid (∀ w3, Below w2.drew.heap.size w2.drew w3 → Hid (HashAt K I b (M ++ (done ++ rest.take n)) (w3.setRow b (hashRow true T B' (L + n)).toArray)) ∧ Hid (Below b w (w3.setRow b (hashRow true T B' (L + n)).toArray))) := by
          intro w3 hb3
          have hxl : (rest.take n).length = n := by simp; omega
          have hf := hash_full K I (M ++ done) (rest.take n) B r (by rw [HLL.out]; exact HR.out) hB HBt.out (by rw [hxl]; exact hfull)
          rw [hxl, ← HB'.out, HS.out, HT.out] at hf
          refine ⟨⟨B', hB'l, ?_, ?_⟩, ?_⟩
          · rw [← List.append_assoc]; exact hf.2
          · rw [← List.append_assoc, hf.1]
            have hlen2 : (M ++ done ++ rest.take n).length = L + n := by rw [List.length_append, HLL.out, hxl]
            rw [hlen2]
            exact setRow_heap _ _ _ _ _ _ ((hb3.block b HBZ.out).trans HS2.out.1)
          · exact below_setRow (HS2.out.2.trans (hb3.mono (Nat.le_of_lt HBZ.out))) (Nat.le_refl _) _
        refine wp_region_any (by kernel_rfl) ?_
        change wpAny _ _ _ _ _ _ _ (World.drew _)
        refine wpAny_take (i := 0) (oi := op0) (v := .pointer (some ⟨b, 0, none⟩)) rfl (by kernel_rfl) (by kernel_rfl) (by kernel_rfl) (fun _ _ _ h => h) (Or.inl ⟨by rfl, fun w => by unfold op0; go_simp⟩) ?_
        simp only [Act.put, op0, List.setIfInBounds_toArray, List.set_cons_zero, List.set_cons_succ]
        refine wpAny_take (i := 1) (oi := op1) (v := .pointer (some ⟨b, 0, none⟩)) rfl (by kernel_rfl) (by kernel_rfl) (by kernel_rfl) (fun _ _ _ h => h) (Or.inl ⟨by rfl, fun w => by unfold op1; go_simp⟩) ?_
        simp only [Act.put, op1, List.setIfInBounds_toArray, List.set_cons_zero, List.set_cons_succ]
        refine wpAny_take (i := 2) (oi := op2) (v := .pointer (some ⟨b, 0, none⟩)) rfl (by kernel_rfl) (by kernel_rfl) (by kernel_rfl) (fun _ _ _ h => h) (Or.inl ⟨by rfl, fun w => by unfold op2; go_simp⟩) ?_
        simp only [Act.put, op2, List.setIfInBounds_toArray, List.set_cons_zero, List.set_cons_succ]
        refine wpAny_take (i := 3) (oi := op3) (v := .pointer (some ⟨b, 1, none⟩)) rfl (by kernel_rfl) (by kernel_rfl) (by kernel_rfl) (fun _ _ _ h => h) (Or.inl ⟨by rfl, fun w => by unfold op3; go_simp⟩) ?_
        simp only [Act.put, op3, List.setIfInBounds_toArray, List.set_cons_zero, List.set_cons_succ]
        refine wpAny_take (i := 5) (oi := op5) (v := .pointer (some ⟨b, 0, none⟩)) rfl (by kernel_rfl) (by kernel_rfl) (by kernel_rfl) (fun _ _ _ h => h) (Or.inl ⟨by rfl, fun w => by unfold op5; go_simp⟩) ?_
        simp only [Act.put, op5, List.setIfInBounds_toArray, List.set_cons_zero, List.set_cons_succ]
        refine wpAny_take (i := 6) (oi := op6) (v := .pointer (some ⟨b, 0, none⟩)) rfl (by kernel_rfl) (by kernel_rfl) (by kernel_rfl) (fun _ _ _ h => h) (Or.inl ⟨by rfl, fun w => by unfold op6; go_simp⟩) ?_
        simp only [Act.put, op6, List.setIfInBounds_toArray, List.set_cons_zero, List.set_cons_succ]
        refine wpAny_take (i := 7) (oi := op7) (v := .pointer (some ⟨b, 9, none⟩)) rfl (by kernel_rfl) (by kernel_rfl) (by kernel_rfl) (fun _ _ _ h => h) (Or.inl ⟨by rfl, fun w => by unfold op7; go_simp⟩) ?_
        simp only [Act.put, op7, List.setIfInBounds_toArray, List.set_cons_zero, List.set_cons_succ]
        refine wpAny_ready (rs := [4, 8]) (by kernel_rfl) (by simp) ?_
        refine AllReady.cons (o := op4) rfl (fun K hK => ?_) (AllReady.cons (o := op8) rfl (fun K hK => ?_) AllReady.nil)
        · refine step_load (o := op4) rfl 39 (.tmp 43) rfl (.pointer (some ⟨b, 1, none⟩)) (.agg S.cells) rfl L39.out (hK _ _ ?_)
          clear hK K
          simp only [Act.put, op4, List.setIfInBounds_toArray, List.set_cons_zero, List.set_cons_succ]
          refine wpAny_ready (rs := [8]) (by kernel_rfl) (by simp) (AllReady.cons (o := op8) rfl (fun K hK => ?_) AllReady.nil)
          refine step_load (o := op8) rfl 41 (.tmp 47) rfl (.pointer (some ⟨b, 9, none⟩)) (.agg (bytesV B').toArray) rfl L41.out (hK _ _ ?_)
          clear hK K
          simp only [Act.put, op8, List.setIfInBounds_toArray, List.set_cons_zero, List.set_cons_succ]
          refine wpAny_ready (rs := [9]) (by kernel_rfl) (by simp) (AllReady.cons (o := op9) rfl (fun K hK => ?_) AllReady.nil)
          refine step_wanted (o := op9) rfl ?_
          unfold op9
          go_simp
          refine (HC.out _ HS2.out.1 HS2.out.2).mono ?_
          rintro x w3 ⟨rfl, hb3⟩
          refine hK _ _ ?_
          clear hK K
          refine wpAny_take (i := 10) (oi := op10) (v := .pointer (some ⟨b, 0, none⟩)) rfl (by kernel_rfl) (by kernel_rfl) (by kernel_rfl) (fun _ _ _ h => h) (Or.inl ⟨by rfl, fun w => by unfold op10; go_simp⟩) ?_
          simp only [Act.put, op10, List.setIfInBounds_toArray, List.set_cons_zero, List.set_cons_succ]
          refine wpAny_take (i := 11) (oi := op11) (v := .pointer (some ⟨b, 1, none⟩)) rfl (by kernel_rfl) (by kernel_rfl) (by kernel_rfl) (fun _ _ _ h => h) (Or.inl ⟨by rfl, fun w => by unfold op11; go_simp⟩) ?_
          simp only [Act.put, op11, List.setIfInBounds_toArray, List.set_cons_zero, List.set_cons_succ]
          refine wpAny_ready (rs := [12]) (by kernel_rfl) (by simp) (AllReady.cons (o := op12) rfl (fun K hK => ?_) AllReady.nil)
          refine step_store (o := op12) rfl 39 (.tmp 51) (.tmp 49) rfl (.pointer (some ⟨b, 1, none⟩)) (.agg T.cells) rfl rfl (run_store39 w3 b true S T B' (L + n) hB'l ((hb3.block b HBZ.out).trans HS2.out.1)) (hK _ _ ?_)
          clear hK K
          simp only [Act.put, op12]
          refine wpAny_done (by kernel_rfl) ?_ _
          have HN3 := Lib.hid (HFIN.out w3 hb3)
          clear hb3
          go_wp2
          go_roundw
          case rel => exact ⟨done ++ rest.take n, rest.drop n, rfl, HL2, HN3.out.1, HN3.out.2⟩
          case measure => show (rest.drop n).length < rest.length; simp; omega
        · refine step_load (o := op8) rfl 41 (.tmp 47) rfl (.pointer (some ⟨b, 9, none⟩)) (.agg (bytesV B').toArray) rfl L41.out (hK _ _ ?_)
          clear hK K
          simp only [Act.put, op8, List.setIfInBounds_toArray, List.set_cons_zero, List.set_cons_succ]
          refine wpAny_ready (rs := [4]) (by kernel_rfl) (by simp) (AllReady.cons (o := op4) rfl (fun K hK => ?_) AllReady.nil)
          refine step_load (o := op4) rfl 39 (.tmp 43) rfl (.pointer (some ⟨b, 1, none⟩)) (.agg S.cells) rfl L39.out (hK _ _ ?_)
          clear hK K
          simp only [Act.put, op4, List.setIfInBounds_toArray, List.set_cons_zero, List.set_cons_succ]
          refine wpAny_ready (rs := [9]) (by kernel_rfl) (by simp) (AllReady.cons (o := op9) rfl (fun K hK => ?_) AllReady.nil)
          refine step_wanted (o := op9) rfl ?_
          unfold op9
          go_simp
          refine (HC.out _ HS2.out.1 HS2.out.2).mono ?_
          rintro x w3 ⟨rfl, hb3⟩
          refine hK _ _ ?_
          clear hK K
          refine wpAny_take (i := 10) (oi := op10) (v := .pointer (some ⟨b, 0, none⟩)) rfl (by kernel_rfl) (by kernel_rfl) (by kernel_rfl) (fun _ _ _ h => h) (Or.inl ⟨by rfl, fun w => by unfold op10; go_simp⟩) ?_
          simp only [Act.put, op10, List.setIfInBounds_toArray, List.set_cons_zero, List.set_cons_succ]
          refine wpAny_take (i := 11) (oi := op11) (v := .pointer (some ⟨b, 1, none⟩)) rfl (by kernel_rfl) (by kernel_rfl) (by kernel_rfl) (fun _ _ _ h => h) (Or.inl ⟨by rfl, fun w => by unfold op11; go_simp⟩) ?_
          simp only [Act.put, op11, List.setIfInBounds_toArray, List.set_cons_zero, List.set_cons_succ]
          refine wpAny_ready (rs := [12]) (by kernel_rfl) (by simp) (AllReady.cons (o := op12) rfl (fun K hK => ?_) AllReady.nil)
          refine step_store (o := op12) rfl 39 (.tmp 51) (.tmp 49) rfl (.pointer (some ⟨b, 1, none⟩)) (.agg T.cells) rfl rfl (run_store39 w3 b true S T B' (L + n) hB'l ((hb3.block b HBZ.out).trans HS2.out.1)) (hK _ _ ?_)
          clear hK K
          simp only [Act.put, op12]
          refine wpAny_done (by kernel_rfl) ?_ _
          have HN3 := Lib.hid (HFIN.out w3 hb3)
          clear hb3
          go_wp2
          go_roundw
          case rel => exact ⟨done ++ rest.take n, rest.drop n, rfl, HL2, HN3.out.1, HN3.out.2⟩
          case measure => show (rest.drop n).length < rest.length; simp; omega
      · have ht : (((L : Int) + (n : Int)) % 64 == 0) = false := by
          have := HR.out
          have : ¬ ((L : Int) + (n : Int)) % 64 = 0 := by omega
          simpa using this
        have HG2 : Hid ((w1.setCell ⟨b, 73, none⟩ (.int .i64 ((L : Int) + (n : Int)))).heap[b]? = some (.cells (hashRow true S B' (L + n)).toArray 43 (0, 0))) := by
          unfold Hid
          rw [heap_setCell_same _ _ _ _ _ _ HG1.out, ← hashRow_setLen true S B' L (L + n) hB'l]
          simp
        have HB2 : Hid (Below b w (w1.setCell ⟨b, 73, none⟩ (.int .i64 ((L : Int) + (n : Int))))) := HB1.out.setCell (Nat.le_refl _) _
        have HX : Hid ((⟨rest.toArray⟩ : ByteArray).extract n rest.length = ⟨(rest.drop n).toArray⟩) := extract_drop rest n
        have HL2 : Hid (l = done ++ rest.take n ++ rest.drop n) := by unfold Hid; rw [List.append_assoc, List.take_append_drop]; exact HL.out
        have HFIN : Hid (HashAt K I b (M ++ (done ++ rest.take n)) (w1.setCell ⟨b, 73, none⟩ (.int .i64 ((L : Int) + (n : Int))))) := by
          have hxl : (rest.take n).length = n := by simp; omega
          have hf := hash_less K I (M ++ done) (rest.take n) B r (by rw [HLL.out]; exact HR.out) hB HBt.out (by rw [hxl]; omega)
          rw [hxl, ← HB'.out, HS.out] at hf
          refine ⟨B', hB'l, ?_, ?_⟩
          · rw [← List.append_assoc]; exact hf.2
          · rw [← List.append_assoc, hf.1]
            have hlen2 : (M ++ done ++ rest.take n).length = L + n := by rw [List.length_append, HLL.out, hxl]
            rw [hlen2]
            exact HG2.out
        clear HG2
        go_wp2
        rw [HX.out]
        go_roundw
        case rel => exact ⟨done ++ rest.take n, rest.drop n, rfl, HL2, HFIN, HB2⟩
        case measure => show (rest.drop n).length < rest.length; simp; omega
end Go.Proofs.YtpabggcjmaobhaaDoor
