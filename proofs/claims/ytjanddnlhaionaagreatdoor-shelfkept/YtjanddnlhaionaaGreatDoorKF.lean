/-
  The acts of the shelf's laws; few. No condition.
-/
import Derived.Test.YtjanddnlhaionaaGreatDoorKW
import Derived.Test.YtjanddnlhaionaaGreatDoorSU
set_option maxRecDepth 100000
namespace Go.Proofs.YtjanddnlhaionaaGreatDoor
open Go.RowKit
open L3 (Tabs St)
open L4 (C LAt LIn LNF Wf okC encC putS putE Box)
open L2 (Row)

/-- An act. -/
structure Ac where
  k : Int
  n : Int
  o : Ob
  ck : Int
  cn : Int
  cs : ByteArray
  cl : List C
  keep : List Int
def Ac.c (a : Ac) : C := .mk a.ck a.cn a.cs a.cl
/-- An act in memory, from cell o of block b on. -/
structure AcAt (w : World) (b o : Nat) (a : Ac) (r k p u kv : Value) (d : Nat) : Prop where
  ob : ObAt w r k p a.o
  la : LNF 0 w w.heap.size d u a.cl
  wf : Wf a.c
  ints : L6.IntsAt w w.heap.size kv a.keep
  nn : a.n ≤ 9223372036854775807
  c0 : w.cell? ⟨b, o, none⟩ = some (.int .i64 a.k)
  c1 : w.cell? ⟨b, o + 1, none⟩ = some (.int .i64 a.n)
  c2 : w.cell? ⟨b, o + 2, none⟩ = some (.int .i64 a.o.k)
  c3 : w.cell? ⟨b, o + 3, none⟩ = some (.string a.o.label)
  c4 : w.cell? ⟨b, o + 4, none⟩ = some r
  c5 : w.cell? ⟨b, o + 5, none⟩ = some k
  c6 : w.cell? ⟨b, o + 6, none⟩ = some p
  c7 : w.cell? ⟨b, o + 7, none⟩ = some (.int .i64 a.o.stamp)
  c8 : w.cell? ⟨b, o + 8, none⟩ = some (.string a.o.note)
  c9 : w.cell? ⟨b, o + 9, none⟩ = some (.string a.o.root)
  c10 : w.cell? ⟨b, o + 10, none⟩ = some (.int .i64 a.ck)
  c11 : w.cell? ⟨b, o + 11, none⟩ = some (.int .i64 a.cn)
  c12 : w.cell? ⟨b, o + 12, none⟩ = some (.string a.cs)
  c13 : w.cell? ⟨b, o + 13, none⟩ = some u
  c14 : w.cell? ⟨b, o + 14, none⟩ = some kv
theorem AcAt.step {w w' : World} {b o : Nat} {a : Ac} {r k p u kv : Value} {d : Nat} (h : AcAt w b o a r k p u kv d) (hb : b < w.heap.size) (hB : Below w.heap.size w w') : AcAt w' b o a r k p u kv d :=
  have hc : ∀ j v, w.cell? ⟨b, j, none⟩ = some v → w'.cell? ⟨b, j, none⟩ = some v := fun j _ e => (hB.cell (p := ⟨b, j, none⟩) hb).trans e
  ⟨h.ob.step hB, lnf_step h.la hB, h.wf, (h.ints.below hB).more hB.size, h.nn, hc _ _ h.c0, hc _ _ h.c1, hc _ _ h.c2, hc _ _ h.c3, hc _ _ h.c4, hc _ _ h.c5, hc _ _ h.c6, hc _ _ h.c7, hc _ _ h.c8, hc _ _ h.c9, hc _ _ h.c10, hc _ _ h.c11, hc _ _ h.c12, hc _ _ h.c13, hc _ _ h.c14⟩
def ActsAt (w : World) (v : Value) (L : List Ac) : Prop :=
  ∃ A cap, v = .slice A L.length cap ∧ L.length ≤ cap ∧ cap ≤ maxLen ∧ (0 < L.length → ∃ b o, A = some ⟨b, o, none⟩ ∧ b < w.heap.size ∧ ∀ i (h : i < L.length), ∃ r k p u kv d, AcAt w b (o + i * 15) L[i] r k p u kv d)

/-- few, as a plain function. -/
def fewA (a : Ac) : Bool :=
  !decide (300 < wrap64 (wrap64 ((a.o.label.size : Int) + (a.o.note.size : Int)) + (a.o.root.size : Int))) && (!decide ((70 : Int) < (a.o.rows.length : Int)) && (!decide ((60 : Int) < (a.o.kids.length : Int)) && (!decide ((5 : Int) < (a.o.parents.length : Int)) &&
    (!decide ((100 : Int) < (a.keep.length : Int)) && !decide (wgM 30 a.c 1000 ≤ 0)))))
def fewB (L : List Ac) : Bool := decide (L.length ≤ 60) && L.all fewA
structure AcOk (a : Ac) : Prop where
  kids : a.o.kids.length ≤ 60
  keep : a.keep.length ≤ 100
  cnt : L4.cntC a.c ≤ 1000
  esz : esz a.c ≤ 9000
theorem fewA_ok {a : Ac} (h : fewA a = true) : AcOk a := by
  unfold fewA at h
  simp only [Bool.and_eq_true, Bool.not_eq_true', decide_eq_false_iff_not] at h
  obtain ⟨-, -, h3, -, h5, h6⟩ := h
  have hp : 0 < wgM 30 a.c 1000 := by omega
  have h1 := wg_cnt 30 a.c 1000 hp
  have h2 := wg_esz 30 a.c 1000 hp
  exact ⟨by omega, by omega, by omega, by omega⟩
theorem fewB_ok {L : List Ac} (h : fewB L = true) : L.length ≤ 60 ∧ ∀ i (hi : i < L.length), AcOk L[i] := by
  unfold fewB at h
  rw [Bool.and_eq_true, decide_eq_true_eq, List.all_eq_true] at h
  exact ⟨h.1, fun i hi => fewA_ok (h.2 _ (List.getElem_mem hi))⟩
theorem fewB_no {L : List Ac} {i : Nat} (hi : i < L.length) (h : fewA L[i] = false) : fewB L = false := by
  unfold fewB
  rw [Bool.and_eq_false_iff]
  right
  rw [List.all_eq_false]
  exact ⟨L[i], List.getElem_mem hi, by rw [h]; simp⟩

set_option maxHeartbeats 4000000 in
theorem few26 (L : List Ac) (v : Value) (w : World) (h : ActsAt w v L) : Calls Tryz.prog 26 #[v] w fun e w' => e = .returned (.bool (fewB L)) ∧ Below w.heap.size w w' := by
  obtain ⟨A, cap, rfl, hcap1, hcap2, hcells⟩ := h
  unfold maxLen at hcap2
  have HC := Lib.hid hcells
  clear hcells
  by_cases hbig : (60 : Int) < (L.length : Int)
  · have t1 : decide ((60 : Int) < (L.length : Int)) = true := decide_eq_true hbig
    have e : fewB L = false := by unfold fewB; rw [show decide (L.length ≤ 60) = false from decide_eq_false (by omega)]; rfl
    rw [e]
    clear hbig e
    go_enter Tryz.func26, Tryz.ntmps26
    go_wp2_with fail
    go_ret
    exact ⟨rfl, Below.refl _ _⟩
  · have t1 : decide ((60 : Int) < (L.length : Int)) = false := decide_eq_false hbig
    have HN : Hid (L.length ≤ 60) := by show L.length ≤ 60; omega
    clear hbig
    obtain ⟨q, hq⟩ : ∃ q, fewB L = q := ⟨_, rfl⟩
    rw [hq]
    have HQ := Lib.hid hq
    clear hq
    go_enter Tryz.func26, Tryz.ntmps26
    go_wp2_with fail
    clear t1
    go_loopw [3] (fun s3 wr => ∃ j : Nat, j ≤ L.length ∧ s3 = .int .i64 j ∧ Hid (Below w.heap.size w wr) ∧ Hid (∀ i (hi : i < L.length), i < j → fewA L[i] = true)) (fun s3 _ => L.length - (intOf s3).toNat)
    case atStart => exact ⟨0, Nat.zero_le _, rfl, Below.refl _ _, fun i hi h => absurd h (Nat.not_lt_zero _)⟩
    case round =>
      obtain ⟨j, hj, rfl, HB, HK⟩ := hrel
      by_cases hlt : j < L.length
      · obtain ⟨b, o, rfl, hb, hr⟩ := HC.out (by omega)
        obtain ⟨r, k, p, u, kv, d, ha⟩ := hr j hlt
        have ha' := ha.step hb HB.out
        have HNO : Hid (fewA L[j] = false → q = false) := fun e => by rw [← HQ.out]; exact fewB_no hlt e
        have HYES : Hid (fewA L[j] = true → ∀ i (hi : i < L.length), i < j + 1 → fewA L[i] = true) := fun e i hi hij => by
          by_cases h : i = j
          · subst h; exact e
          · exact HK.out i hi (by omega)
        have HLT : Hid (j < L.length) := hlt
        generalize L[j] = a at ha' HNO HYES
        obtain ⟨Ar, cr, rfl, -⟩ := ha'.ob.rows
        obtain ⟨Ak, ck, rfl, -⟩ := ha'.ob.kids
        obtain ⟨Ap, cp, rfl, -⟩ := ha'.ob.parents
        obtain ⟨Al, cl', rfl, -⟩ := ha'.ints
        have hlw : b < wr.heap.size := Nat.lt_of_lt_of_le hb HB.out.size
        have hbel : Below wr.heap.size wr (wr.alloc (.cells #[.int .i64 a.o.k, .string a.o.label, .slice Ar a.o.rows.length cr, .slice Ak a.o.kids.length ck, .slice Ap a.o.parents.length cp, .int .i64 a.o.stamp, .string a.o.note, .string a.o.root] 27)) := (Below.refl _ _).alloc (Nat.le_refl _) _
        have HB1 := Lib.hid (HB.out.trans (hbel.mono HB.out.size))
        have hd := ha'.step hlw hbel
        have HWT : Hid (Calls Tryz.prog 66 #[.agg #[.int .i64 a.ck, .int .i64 a.cn, .string a.cs, u], .int .i64 1000, .int .i64 30] (wr.alloc (.cells #[.int .i64 a.o.k, .string a.o.label, .slice Ar a.o.rows.length cr, .slice Ak a.o.kids.length ck, .slice Ap a.o.parents.length cp, .int .i64 a.o.stamp, .string a.o.note, .string a.o.root] 27)) fun e w' => e = .returned (.int .i64 (wgM 30 a.c 1000)) ∧ Below (wr.alloc (.cells #[.int .i64 a.o.k, .string a.o.label, .slice Ar a.o.rows.length cr, .slice Ak a.o.kids.length ck, .slice Ap a.o.parents.length cp, .int .i64 a.o.stamp, .string a.o.note, .string a.o.root] 27)).heap.size (wr.alloc (.cells #[.int .i64 a.o.k, .string a.o.label, .slice Ar a.o.rows.length cr, .slice Ak a.o.kids.length ck, .slice Ap a.o.parents.length cp, .int .i64 a.o.stamp, .string a.o.note, .string a.o.root] 27)) w') :=
          weight66 d 30 a.ck a.cn a.cs a.cl u 1000 _ hd.la.lat hd.wf.s1 (by omega) (by omega) (by omega)
        obtain ⟨-, -, -, -, -, -, -, x2, x3, x4, x5, x6, x7, x8, x9, -, -, -, -, -⟩ := ha'
        obtain ⟨-, -, -, -, -, -, -, -, -, -, -, -, -, -, -, y10, y11, y12, y13, y14⟩ := hd
        have hi0 : (0 : Int) ≤ (j : Int) := by omega
        have hi1 : (j : Int) < (L.length : Int) := by omega
        have HFA : Hid (∀ nr nk np nl : Nat, a.o.rows.length = nr → a.o.kids.length = nk → a.o.parents.length = np → a.keep.length = nl → fewA a = (!decide (300 < wrap64 (wrap64 ((a.o.label.size : Int) + (a.o.note.size : Int)) + (a.o.root.size : Int))) && (!decide ((70 : Int) < (nr : Int)) && (!decide ((60 : Int) < (nk : Int)) && (!decide ((5 : Int) < (np : Int)) && (!decide ((100 : Int) < (nl : Int)) && !decide (wgM 30 a.c 1000 ≤ 0))))))) := fun nr nk np nl h1 h2 h3 h4 => by subst h1 h2 h3 h4; rfl
        have HFA2 := Lib.hid (HFA.out _ _ _ _ rfl rfl rfl rfl)
        clear hr ha hb hlw hbel HFA HK
        generalize fewA a = qa at HNO HYES HFA2
        generalize a.o.rows.length = nr at *
        generalize a.o.kids.length = nk at *
        generalize a.o.parents.length = np at *
        generalize a.keep.length = nl at *
        generalize wgM 30 a.c 1000 = wg at HWT HFA2
        cases t1 : decide (300 < wrap64 (wrap64 ((a.o.label.size : Int) + (a.o.note.size : Int)) + (a.o.root.size : Int))) with
        | true =>
          have e : qa = false := HFA2.out.trans (by rw [t1]; rfl)
          have hq : q = false := HNO.out e
          subst hq
          clear e HNO HYES HFA2 HQ
          clear HWT
          go_wp2_with fail
          go_ret
          exact ⟨rfl, HB1.out⟩
        | false =>
          cases t2 : decide ((70 : Int) < (nr : Int)) with
          | true =>
            have e : qa = false := HFA2.out.trans (by rw [t1, t2]; rfl)
            have hq : q = false := HNO.out e
            subst hq
            clear e HNO HYES HFA2 HQ
            clear HWT
            go_wp2_with fail
            go_ret
            exact ⟨rfl, HB1.out⟩
          | false =>
            cases t3 : decide ((60 : Int) < (nk : Int)) with
            | true =>
              have e : qa = false := HFA2.out.trans (by rw [t1, t2, t3]; rfl)
              have hq : q = false := HNO.out e
              subst hq
              clear e HNO HYES HFA2 HQ
              clear HWT
              go_wp2_with fail
              go_ret
              exact ⟨rfl, HB1.out⟩
            | false =>
              cases t4 : decide ((5 : Int) < (np : Int)) with
              | true =>
                have e : qa = false := HFA2.out.trans (by rw [t1, t2, t3, t4]; rfl)
                have hq : q = false := HNO.out e
                subst hq
                clear e HNO HYES HFA2 HQ
                clear HWT
                go_wp2_with fail
                go_ret
                exact ⟨rfl, HB1.out⟩
              | false =>
                cases t5 : decide ((100 : Int) < (nl : Int)) with
                | true =>
                  have e : qa = false := HFA2.out.trans (by rw [t1, t2, t3, t4, t5]; rfl)
                  have hq : q = false := HNO.out e
                  subst hq
                  clear e HNO HYES HFA2 HQ
                  clear HWT
                  go_wp2_with fail
                  go_ret
                  exact ⟨rfl, HB1.out⟩
                | false =>
                  cases t6 : decide (wg ≤ 0) with
                  | true =>
                    have e : qa = false := HFA2.out.trans (by rw [t1, t2, t3, t4, t5, t6]; rfl)
                    have hq : q = false := HNO.out e
                    subst hq
                    clear e HNO HYES HFA2 HQ
                    go_wp2_with fail
                    refine HWT.out.mono ?_
                    rintro _ w2 ⟨rfl, hb2⟩
                    have HB2 := Lib.hid (HB1.out.trans (hb2.mono HB1.out.size))
                    clear hb2 HWT
                    go_wp2_with fail
                    go_ret
                    exact ⟨rfl, HB2.out⟩
                  | false =>
                    have e : qa = true := HFA2.out.trans (by rw [t1, t2, t3, t4, t5, t6]; rfl)
                    have HY := Lib.hid (HYES.out e)
                    clear e HNO HYES HFA2
                    go_wp2_with fail
                    refine HWT.out.mono ?_
                    rintro _ w2 ⟨rfl, hb2⟩
                    have HB2 := Lib.hid (HB1.out.trans (hb2.mono HB1.out.size))
                    clear hb2 HWT
                    go_wp2_with fail
                    go_roundw
                    case rel => exact ⟨j + 1, HLT.out, by go_num, HB2, HY⟩
                    case measure => have := HLT.out; simp [intOf]; omega
      · have hjn : j = L.length := by omega
        have e : q = true := by
          rw [← HQ.out]
          unfold fewB
          rw [Bool.and_eq_true, decide_eq_true_eq, List.all_eq_true]
          exact ⟨HN.out, fun x hx => by obtain ⟨i, hi, rfl⟩ := List.getElem_of_mem hx; exact HK.out i hi (by omega)⟩
        subst e
        clear HK
        go_wp2_with fail
        go_ret
        exact ⟨rfl, HB.out⟩
end Go.Proofs.YtjanddnlhaionaaGreatDoor
