/-
  The contract of Id; that of the law's small: it answers. No condition but the package's tables.
-/
import Derived.Test.YtjanddnlhaionaaGreatDoorOR
import Derived.Test.YtjanddnlhaionaaGreatDoorL3x1
namespace Go.Proofs.YtjanddnlhaionaaGreatDoor
open Go.RowKit
open L4 (C LAt putS)
open L2 (Row Vl RowsAt rowsOK valOK)
open L3 (St Tabs digestM)

def idOf (K : List Int) (I : St) (s : ByteArray) : ByteArray := ⟨(digestM K I s.data.toList).toArray⟩
def objI (K : List Int) (I : St) (o : Ob) : ByteArray := if objOK o then idOf K I (objS o) else ⟨#[]⟩

set_option maxRecDepth 100000 in
theorem objS_size {o : Ob} (hn : ∀ r ∈ o.rows, -9223372036854775808 ≤ r.2.2.2.1 ∧ r.2.2.2.1 ≤ 9223372036854775807) (hf : ∀ k ∈ o.kids, 0 ≤ k.f ∧ k.f ≤ 255) : (objS o).size ≤ 900000 := by
  unfold objS
  cases hok : objOK o with
  | false => show (0 : Nat) ≤ _; omega
  | true =>
    have hk : o.kids.length ≤ 500 := by
      rcases obj_p hok with q | q
      · have := kids_256 q.kids hf; omega
      · rw [q.kids]; simp
    have hg := obj_good hok hn hf hk
    show (putS (cellOf o)).size ≤ 900000
    unfold putS
    rw [if_pos hg.ok]
    exact hg.enc

set_option maxRecDepth 100000 in
set_option maxHeartbeats 2000000 in
theorem id9 (K : List Int) (I : St) (kd : Int) (label : ByteArray) (rows : List Row) (kids : List Kd) (parents : List ByteArray) (stamp : Int) (note root : ByteArray) (r k p : Value) (w : World) (h : ObAt w r k p ⟨kd, label, rows, kids, parents, stamp, note, root⟩) (hT : Tabs K I w) :
    Calls Tryz.prog 13 #[.agg #[.int .i64 kd, .string label, r, k, p, .int .i64 stamp, .string note, .string root]] w fun e w' => e = .returned (.tuple #[.string (objI K I ⟨kd, label, rows, kids, parents, stamp, note, root⟩), .int .i64 (objE ⟨kd, label, rows, kids, parents, stamp, note, root⟩)]) ∧ Below w.heap.size w w' := by
  have HO := Lib.hid (Obj1.start w ⟨kd, label, rows, kids, parents, stamp, note, root⟩ r k p)
  have h' : ObAt (w.alloc (.cells #[.int .i64 kd, .string label, r, k, p, .int .i64 stamp, .string note, .string root] 27)) r k p ⟨kd, label, rows, kids, parents, stamp, note, root⟩ := h.step HO.out.below
  have HP := Lib.hid (put7 kd label rows kids parents stamp note root r k p (w.alloc (.cells #[.int .i64 kd, .string label, r, k, p, .int .i64 stamp, .string note, .string root] 27)) h')
  have hsz := objS_size (o := ⟨kd, label, rows, kids, parents, stamp, note, root⟩) h.num h.kids.bounds
  have h2 := hT.two
  have HSU := Lib.hid (fun w2 (hb : Below w.heap.size w w2) => L3.sum9 K I (objS ⟨kd, label, rows, kids, parents, stamp, note, root⟩) w2 (hT.below hb h2) hsz)
  obtain ⟨o, ho⟩ : ∃ o, (⟨kd, label, rows, kids, parents, stamp, note, root⟩ : Ob) = o := ⟨_, rfl⟩
  rw [ho] at HP HSU ⊢
  unfold objI
  generalize objS o = S at HP HSU ⊢
  cases hok : objOK o with
  | false =>
    have he : objE o = 2 := by unfold objE; rw [hok]; rfl
    rw [he] at HP ⊢
    clear HSU hok he h h' h2 hT hsz ho
    show Calls _ _ _ _ fun e w' => e = .returned (.tuple #[.string ⟨#[]⟩, .int .i64 2]) ∧ _
    go_enter Tryz.func13, Tryz.ntmps13
    go_wp2_with (go_at_call 11; refine HP.out.mono ?_; rintro e w2 ⟨rfl, hb⟩)
    go_ret2
    exact ⟨rfl, (HO.out.step hb).below⟩
  | true =>
    have he : objE o = 0 := by unfold objE; rw [hok]; rfl
    rw [he] at HP ⊢
    show Calls _ _ _ _ fun e w' => e = .returned (.tuple #[.string (idOf K I S), .int .i64 0]) ∧ _
    obtain ⟨i, hi⟩ : ∃ i, idOf K I S = i := ⟨_, rfl⟩
    rw [hi]
    have HI : Hid (({ data := (digestM K I S.data.toList).toArray } : ByteArray) = i) := hi
    clear hok he h h' h2 hT hsz ho hi
    go_enter Tryz.func13, Tryz.ntmps13
    go_wp2_with fail
    refine HP.out.mono ?_
    rintro e w2 ⟨rfl, hb⟩
    have HO2 := Lib.hid (HO.out.step hb)
    have hS := HSU.out w2 HO2.out.below
    rw [HI.out] at hS
    have HS2 := Lib.hid hS
    clear hb HSU HP HO hS
    go_wp2_with (go_at_call 50; refine HS2.out.mono ?_; rintro e w3 ⟨rfl, hb3⟩)
    go_ret2
    exact ⟨rfl, (HO2.out.step hb3).below⟩

def AnyBool (w : World) (e : Ending) (w' : World) : Prop := ∃ q, e = .returned (.bool q) ∧ Below w.heap.size w w'
set_option maxRecDepth 100000 in
set_option maxHeartbeats 4000000 in
theorem small5 (kd : Int) (label : ByteArray) (rows : List Row) (kids : List Kd) (parents : List ByteArray) (stamp : Int) (note root : ByteArray) (r k p : Value) (w : World) (h : ObAt w r k p ⟨kd, label, rows, kids, parents, stamp, note, root⟩) :
    Calls Tryz.prog 9 #[.agg #[.int .i64 kd, .string label, r, k, p, .int .i64 stamp, .string note, .string root]] w (AnyBool w) := by
  have HO := Lib.hid (Obj1.start w ⟨kd, label, rows, kids, parents, stamp, note, root⟩ r k p)
  have hB : Below w.heap.size w (w.alloc (.cells #[.int .i64 kd, .string label, r, k, p, .int .i64 stamp, .string note, .string root] 27)) := (Below.refl _ _).alloc (Nat.le_refl _) _
  have HB := Lib.hid hB
  obtain ⟨A1, c1, e1, r1, r2, r3⟩ := h.rows
  obtain ⟨A2, c2, e2, k1, k2, k3⟩ := h.kids
  obtain ⟨A3, c3, e3, p1, p2, p3⟩ := h.parents
  simp only at e1 e2 e3 r1 r2 r3 k1 k2 k3 p1 p2 p3
  subst e1 e2 e3
  have H1 := Lib.hid r3
  have H2 := Lib.hid k3
  have H3 := Lib.hid p3
  unfold maxLen at r2 k2 p2
  clear r3 k3 p3 h hB
  cases t1 : decide ((500 : Int) < wrap64 (wrap64 ((label.size : Int) + (note.size : Int)) + (root.size : Int))) with
  | true =>
    go_enter Tryz.func9, Tryz.ntmps9
    go_wp2_with fail
    go_ret
    exact ⟨_, rfl, HB.out⟩
  | false =>
  cases t2 : decide ((80 : Int) < (rows.length : Int)) with
  | true =>
    go_enter Tryz.func9, Tryz.ntmps9
    go_wp2_with fail
    go_ret
    exact ⟨_, rfl, HB.out⟩
  | false =>
  cases t3 : decide ((300 : Int) < (kids.length : Int)) with
  | true =>
    go_enter Tryz.func9, Tryz.ntmps9
    go_wp2_with fail
    go_ret
    exact ⟨_, rfl, HB.out⟩
  | false =>
  cases t4 : decide ((10 : Int) < (parents.length : Int)) with
  | true =>
    go_enter Tryz.func9, Tryz.ntmps9
    go_wp2_with fail
    go_ret
    exact ⟨_, rfl, HB.out⟩
  | false =>
    go_enter Tryz.func9, Tryz.ntmps9
    go_wp2_with fail
    go_loop [3] (fun i => ∃ k : Nat, k ≤ rows.length ∧ i = .int .i64 k) (fun i => rows.length - (intOf i).toNat)
    case atStart => exact ⟨0, Nat.zero_le _, rfl⟩
    case round =>
      obtain ⟨j, hj, rfl⟩ := hrel
      by_cases hlt : j < rows.length
      · obtain ⟨b, o, rfl, hb, hr⟩ := H1.out (by omega)
        have c4 := (HB.out.cell (p := ⟨b, o + j * 5 + 4, none⟩) hb).trans (hr j hlt).c4
        generalize rows[j].2.2.2.2 = s at c4
        clear hr
        cases hs : decide ((200 : Int) < (s.size : Int)) with
        | true =>
          go_wp2
          go_ret
          exact ⟨_, rfl, HB.out⟩
        | false =>
          go_wp2
          go_round
          case rel => exact ⟨j + 1, by omega, by go_num⟩
          case measure => simp [intOf]; omega
      · clear H1
        go_wp2_with fail
        go_loop [4] (fun i => ∃ k : Nat, k ≤ kids.length ∧ i = .int .i64 k) (fun i => kids.length - (intOf i).toNat)
        case atStart => exact ⟨0, Nat.zero_le _, rfl⟩
        case round =>
          obtain ⟨j2, hj2, rfl⟩ := hrel
          by_cases hlt2 : j2 < kids.length
          · obtain ⟨b, o, rfl, hb, hr⟩ := H2.out (by omega)
            have c4 := (HB.out.cell (p := ⟨b, o + j2 * 2 + 1, none⟩) hb).trans (hr j2 hlt2).c1
            generalize kids[j2].id = s at c4
            clear hr
            cases hs : decide ((100 : Int) < (s.size : Int)) with
            | true =>
              go_wp2
              go_ret
              exact ⟨_, rfl, HB.out⟩
            | false =>
              go_wp2
              go_round
              case rel => exact ⟨j2 + 1, by omega, by go_num⟩
              case measure => simp [intOf]; omega
          · clear H2
            go_wp2_with fail
            go_loop [5] (fun i => ∃ k : Nat, k ≤ parents.length ∧ i = .int .i64 k) (fun i => parents.length - (intOf i).toNat)
            case atStart => exact ⟨0, Nat.zero_le _, rfl⟩
            case round =>
              obtain ⟨j3, hj3, rfl⟩ := hrel
              by_cases hlt3 : j3 < parents.length
              · obtain ⟨b, o, rfl, hb, hr⟩ := H3.out (by omega)
                have c4 := (HB.out.cell (p := ⟨b, o + j3, none⟩) hb).trans (hr j3 hlt3)
                generalize parents[j3] = s at c4
                clear hr
                cases hs : decide ((100 : Int) < (s.size : Int)) with
                | true =>
                  go_wp2
                  go_ret
                  exact ⟨_, rfl, HB.out⟩
                | false =>
                  go_wp2
                  go_round
                  case rel => exact ⟨j3 + 1, by omega, by go_num⟩
                  case measure => simp [intOf]; omega
              · go_wp2
                go_ret
                exact ⟨_, rfl, HB.out⟩
end Go.Proofs.YtjanddnlhaionaaGreatDoor
