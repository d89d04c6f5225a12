/-
  The contracts of Put, Id, PutRows. No condition but that numbers are ints.
-/
import Derived.Test.YtjanddnlhaionaaGreatDoorOM
import Derived.Test.YtjanddnlhaionaaGreatDoorOQ
namespace Go.Proofs.YtjanddnlhaionaaGreatDoor
open Go.RowKit
open L4 (C LIn LNF Unf Wf rcells rowC putS putE okC encC)
open L2 (Row Vl RowsAt rowsOK valOK)

set_option maxRecDepth 100000 in
theorem kids_few : ∀ (l : List Kd) (p : Kd), kidsFrom (some p) l = true → (∀ k ∈ l, k.f ≤ 255) → p.f ≤ 255 → p.f + l.length ≤ 255
  | [], p, _, _, hp => by simpa using hp
  | k :: l, p, h, hl, _ => by
    rw [kidsFrom, Bool.and_eq_true, Bool.and_eq_true, Bool.not_eq_true', decide_eq_false_iff_not] at h
    have h1 := kids_few l k h.2.2 (fun x hx => hl x (by simp [hx])) (hl k (by simp))
    rw [List.length_cons]
    have := h.2.1
    omega
set_option maxRecDepth 100000 in
theorem kids_256 {l : List Kd} (h : kidsOK l = true) (hf : ∀ k ∈ l, 0 ≤ k.f ∧ k.f ≤ 255) : l.length ≤ 256 := by
  cases l with
  | nil => simp
  | cons k l =>
    unfold kidsOK at h
    rw [kidsFrom, Bool.and_eq_true] at h
    have h1 := kids_few l k h.2 (fun x hx => (hf x (by simp [hx])).2) (hf k (by simp)).2
    have h2 := (hf k (by simp)).1
    rw [List.length_cons]
    omega
set_option maxRecDepth 100000 in
theorem row_w {r : Row} (h : valOK r.2.2 = true ∧ 0 ≤ r.1 ∧ r.1 ≤ 1099511627776 ∧ 0 ≤ r.2.1 ∧ r.2.1 ≤ 1099511627776) (hn : -9223372036854775808 ≤ r.2.2.2.1 ∧ r.2.2.2.1 ≤ 9223372036854775807) : RowW r := by
  obtain ⟨hv, h1, h2, h3, h4⟩ := h
  refine ⟨⟨by omega, by omega⟩, ⟨by omega, by omega⟩, hn, ?_⟩
  rcases val_k hv with ⟨-, k2⟩ | ⟨-, -, k3⟩
  · rw [k2]; show (0 : Nat) ≤ _; omega
  · omega
set_option maxRecDepth 100000 in
theorem zero_size : (⟨#[]⟩ : ByteArray).size = 0 := rfl
set_option maxRecDepth 100000 in
theorem obW_of {o : Ob} (h : objOK o = true) (hn : ∀ r ∈ o.rows, -9223372036854775808 ≤ r.2.2.2.1 ∧ r.2.2.2.1 ≤ 9223372036854775807) (hf : ∀ k ∈ o.kids, 0 ≤ k.f ∧ k.f ≤ 255) : ObW o := by
  rcases obj_p h with p | p
  · have hr := rows_all p.rows
    have hk := kids_256 p.kids hf
    exact ⟨fun r hr' => row_w (hr.2 r hr') (hn r hr'), fun k hk' => by have := kidsFrom_all _ _ p.kids k hk'; omega, fun s hs => (by rw [p.parents] at hs; cases hs), by have := p.label; omega, by rw [p.note, zero_size]; omega, by rw [p.root, zero_size]; omega, by omega, by omega, by rw [p.parents]; simp⟩
  · have hp := parents_p p.parents
    exact ⟨fun r hr => (by rw [p.rows] at hr; cases hr), fun k hk => (by rw [p.kids] at hk; cases hk), fun s hs => by have := hp.2 s hs; omega, by rw [p.label, zero_size]; omega, by have := p.note; omega, by have := p.root; omega, by rw [p.rows]; simp, by rw [p.kids]; simp, by omega⟩

def objS (o : Ob) : ByteArray := if objOK o then putS (cellOf o) else ⟨#[]⟩
def objE (o : Ob) : Int := if objOK o then 0 else 2

set_option maxRecDepth 100000 in
theorem cell_list (o : Ob) : ∃ l, cellOf o = listC l := by
  unfold cellOf nodeCl commitCl
  split <;> exact ⟨_, rfl⟩

set_option maxRecDepth 100000 in
theorem objectCell17 (kd : Int) (label : ByteArray) (rows : List Row) (kids : List Kd) (parents : List ByteArray) (stamp : Int) (note root : ByteArray) (r k p : Value) (w : World) (h : ObAt w r k p ⟨kd, label, rows, kids, parents, stamp, note, root⟩) (hok : objOK ⟨kd, label, rows, kids, parents, stamp, note, root⟩ = true) :
    Calls Tryz.prog 46 #[.agg #[.int .i64 kd, .string label, r, k, p, .int .i64 stamp, .string note, .string root]] w (ListOf w (cellOf ⟨kd, label, rows, kids, parents, stamp, note, root⟩).l) := by
  have hw := obW_of hok h.num h.kids.bounds
  rcases obj_p hok with q | q
  · have hk : kd = 1 := q.k
    have := objectCell17_node kd label rows kids parents stamp note root r k p w h hw (by rw [hk]; rfl)
    unfold cellOf
    rw [if_pos hk]
    exact this
  · have hk : kd = 2 := q.k
    have := objectCell17_commit kd label rows kids parents stamp note root r k p w h hw (by rw [hk]; rfl) hk
    unfold cellOf
    rw [if_neg (by show ¬ (kd = 1); omega)]
    exact this

set_option maxRecDepth 100000 in
set_option maxHeartbeats 2000000 in
theorem put7 (kd : Int) (label : ByteArray) (rows : List Row) (kids : List Kd) (parents : List ByteArray) (stamp : Int) (note root : ByteArray) (r k p : Value) (w : World) (h : ObAt w r k p ⟨kd, label, rows, kids, parents, stamp, note, root⟩) :
    Calls Tryz.prog 11 #[.agg #[.int .i64 kd, .string label, r, k, p, .int .i64 stamp, .string note, .string root]] w fun e w' => e = .returned (.tuple #[.string (objS ⟨kd, label, rows, kids, parents, stamp, note, root⟩), .int .i64 (objE ⟨kd, label, rows, kids, parents, stamp, note, root⟩)]) ∧ Below w.heap.size w w' := by
  have HO := Lib.hid (Obj1.start w ⟨kd, label, rows, kids, parents, stamp, note, root⟩ r k p)
  have h' : ObAt (w.alloc (.cells #[.int .i64 kd, .string label, r, k, p, .int .i64 stamp, .string note, .string root] 27)) r k p ⟨kd, label, rows, kids, parents, stamp, note, root⟩ := h.step HO.out.below
  have HC := Lib.hid (check12 kd label rows kids parents stamp note root r k p (w.alloc (.cells #[.int .i64 kd, .string label, r, k, p, .int .i64 stamp, .string note, .string root] 27)) h')
  have HCE := Lib.hid fun w2 (hb : Below (w.alloc (.cells #[.int .i64 kd, .string label, r, k, p, .int .i64 stamp, .string note, .string root] 27)).heap.size (w.alloc (.cells #[.int .i64 kd, .string label, r, k, p, .int .i64 stamp, .string note, .string root] 27)) w2) => objectCell17 kd label rows kids parents stamp note root r k p w2 (h'.step hb)
  have HG := Lib.hid (fun hok => obj_good (o := ⟨kd, label, rows, kids, parents, stamp, note, root⟩) hok h.num h.kids.bounds)
  have HK := Lib.hid (fun hok => kids_256 (l := kids) hok h.kids.bounds)
  obtain ⟨o, ho⟩ : ∃ o, (⟨kd, label, rows, kids, parents, stamp, note, root⟩ : Ob) = o := ⟨_, rfl⟩
  have HOB := Lib.hid ho
  unfold objS objE
  rw [ho] at HC HCE HG ⊢
  cases hok : objOK o with
  | false =>
    rw [hok] at HC
    clear HCE HG HK h h' ho
    show Calls _ _ _ _ fun e w' => e = .returned (.tuple #[.string ⟨#[]⟩, .int .i64 2]) ∧ _
    go_enter Tryz.func11, Tryz.ntmps11
    go_wp2_with (go_at_call 18; refine HC.out.mono ?_; rintro e w2 ⟨rfl, hb⟩)
    go_ret2
    exact ⟨rfl, (HO.out.step hb).below⟩
  | true =>
    rw [hok] at HC
    obtain ⟨l, hl⟩ := cell_list o
    have hg : Good 16 900000 (cellOf o) := HG.out hok (by
      rw [← ho] at hok ⊢
      rcases obj_p hok with q | q
      · have := HK.out q.kids; show kids.length ≤ 500; omega
      · have : kids = [] := q.kids; show kids.length ≤ 500; rw [this]; simp)
    have HCE2 := Lib.hid fun w2 hb => HCE.out w2 hb hok
    rw [hl] at HCE2 hg ⊢
    have hput : putE (listC l) = 0 := by unfold putE; rw [if_pos hg.ok]
    have HP := Lib.hid (fun d u w2 (hu : L4.LAt w2 w2.heap.size d u l) => L4.put9 d 3 0 ⟨#[]⟩ l u w2 hu (by omega) (by omega) (fun _ => Nat.le_trans hg.enc (by omega)))
    unfold listC at hput
    rw [hput] at HP
    show Calls _ _ _ _ fun e w' => e = .returned (.tuple #[.string (putS (listC l)), .int .i64 0]) ∧ _
    have HX : Hid (putS (.mk 3 0 ⟨#[]⟩ l) = putS (listC l)) := rfl
    rw [HX.out] at HP
    generalize putS (listC l) = S at HP ⊢
    clear HX HCE HG HK h h' ho hok hg hput hl
    go_enter Tryz.func11, Tryz.ntmps11
    go_wp2_with fail
    refine HC.out.mono ?_
    rintro e w2 ⟨rfl, hb⟩
    have HCE3 := Lib.hid (HCE2.out w2 hb)
    have HO2 := Lib.hid (HO.out.step hb)
    obtain ⟨c0, c1, c2, c3, c4, c5, c6, c7, -, -⟩ := HO2.out
    clear hb HCE2 HO HC
    simp only at c0 c1 c5 c6 c7
    go_wp2_with fail
    refine HCE3.out.mono ?_
    rintro e w3 ⟨A, n, cap, D, rfl, hl3, hb3⟩
    have HP3 := Lib.hid (HP.out D _ w3 hl3.lat)
    have HO3 := Lib.hid (HO2.out.step hb3)
    clear hb3 HCE3 HO2 HP hl3 c0 c1 c2 c3 c4 c5 c6 c7
    go_wp2_with fail
    refine HP3.out.mono ?_
    rintro e w4 ⟨rfl, hb4⟩
    have HO4 := Lib.hid (HO3.out.step hb4)
    clear hb4 HP3 HO3
    go_wp2
    go_ret2
    exact ⟨rfl, HO4.out.below⟩
end Go.Proofs.YtjanddnlhaionaaGreatDoor
