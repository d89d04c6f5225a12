import Derived.Test.YtapfhonapejpjaaG
import Derived.WalkSmall
namespace Go.Proofs.Ytapfhonapejpjaa
open Go.RowKit

/-- v is a slice of bytes of the call's own, from block B on, that reads l. -/
def Own (B : Nat) (v : Value) (l : List UInt8) (w : World) : Prop := w.ownsRow B 5 1 v l.length (bytesV l)
/-- Nothing below B has turned, and no block that is not a row of bytes. -/
def Gr (B : Nat) (w w' : World) : Prop := Below B w w' ∧ Lib.OthersKept 5 none w w'
theorem Gr.refl (B : Nat) (w : World) : Gr B w w := ⟨Below.refl _ _, Lib.OthersKept.refl _ _ _⟩
theorem Gr.trans {B : Nat} {x y z : World} (h : Gr B x y) (k : Gr B y z) : Gr B x z := ⟨h.1.trans k.1, h.2.trans k.2⟩
theorem Gr.alloc {B : Nat} {x y : World} (h : Gr B x y) (hB : B ≤ y.heap.size) (o : Obj) : Gr B x (y.alloc o) := ⟨h.1.alloc hB o, h.2.alloc o⟩
theorem Gr.grown {B : Nat} {x y z : World} {v : Value} {l : List UInt8} (h : Gr B x y) (ho : Own B v l y) (hg : y.grownBy z v.ownBlock) (hB : B ≤ y.heap.size) : Gr B x z :=
  ⟨h.1.grown hg hB (fun k hk => (ho.lt k hk).1), h.2.grown hg (fun g hk => by
    rcases ho.2 with ⟨e1, _⟩ | ⟨g', cap, cur, e, _, hgg, _⟩
    · rw [e1] at hk; simp [Value.ownBlock] at hk
    · rw [e] at hk; simp [Value.ownBlock] at hk; subst hk; exact ⟨_, _, hgg⟩)⟩
theorem Own.alloc {B : Nat} {v : Value} {l : List UInt8} {w : World} (h : Own B v l w) (o : Obj) : Own B v l (w.alloc o) := World.ownsRow.alloc h o
theorem bytesV_append (a b : List UInt8) : bytesV (a ++ b) = bytesV a ++ bytesV b := by simp [bytesV]
theorem Own.mk {B : Nat} {v : Value} {l k : List UInt8} {w : World} {n : Nat} (h : w.ownsRow B 5 1 v n (bytesV l ++ bytesV k)) (hn : n = l.length + k.length) : Own B v (l ++ k) w := by
  unfold Own
  rw [List.length_append, bytesV_append, ← hn]
  exact h
theorem bytes_oneCell (l : List UInt8) : ∀ u ∈ bytesV l, u.oneCell' = true := by
  intro u hu
  simp only [bytesV, List.mem_map] at hu
  obtain ⟨c, _, rfl⟩ := hu
  rfl

/-- What a call that appends comes to. -/
def AppTo (B : Nat) (w : World) (l : List UInt8) (e : Ending) (w' : World) : Prop := ∃ v', e = .returned v' ∧ Own B v' l w' ∧ Gr B w w'

/-- The cells of a new array of bytes. -/
theorem new_cells (w : World) (l : List UInt8) (cs : Array Value) (h : cs = (bytesV l).toArray) : ∀ j u, (bytesV l)[j]? = some u → (w.alloc (.cells cs 5)).cell? ((⟨w.heap.size, 0, none⟩ : Addr).add j) = some u := by
  intro j u hu
  have hadd : (⟨w.heap.size, 0, none⟩ : Addr).add j = ⟨w.heap.size, j, none⟩ := by unfold Addr.add; split <;> simp_all
  rw [hadd, World.cell?_alloc_at cs 5 _ _ rfl, h]
  simpa using hu

def digs (m : Nat) : List UInt8 := if m < 10 then [UInt8.ofNat (48 + m)] else digs (m / 10) ++ [UInt8.ofNat (48 + m % 10)]
termination_by m

theorem digs_small {m : Nat} (h : m < 10) : digs m = [UInt8.ofNat (48 + m)] := by rw [digs, if_pos h]
theorem digs_big {m : Nat} (h : ¬ m < 10) : digs m = digs (m / 10) ++ [UInt8.ofNat (48 + m % 10)] := by rw [digs, if_neg h]
theorem digs_len : ∀ (k m : Nat), m < 10 ^ (k + 1) → (digs m).length ≤ k + 1
  | 0, m, h => by rw [digs_small (by omega)]; simp
  | k + 1, m, h => by
    by_cases hm : m < 10
    · rw [digs_small hm]; simp
    · rw [digs_big hm, List.length_append]
      have := digs_len k (m / 10) (by rw [Nat.pow_succ] at h; omega)
      simp only [List.length_singleton]; omega

theorem neg_tdiv10 (m : Nat) : (-(m : Int)).tdiv 10 = -((m / 10 : Nat) : Int) := by
  rw [Int.neg_tdiv, Int.tdiv_eq_ediv_of_nonneg (by omega)]; omega
theorem neg_tmod10 (m : Nat) : (-(m : Int)).tmod 10 = -((m % 10 : Nat) : Int) := by
  rw [Int.neg_tmod, Int.tmod_eq_emod_of_nonneg (by omega)]; omega

theorem one_cells (n : Int) (dg : UInt8) (h : (dg.toNat : Int) = n) : #[Value.int .u8 n] = (bytesV [dg]).toArray := by subst h; rfl

set_option maxHeartbeats 400000 in
theorem appendDigits44 : ∀ (m : Nat) (B : Nat) (v : Value) (l : List UInt8) (w : World), Own B v l w → B ≤ w.heap.size → m ≤ 9223372036854775808 → l.length + (digs m).length ≤ 1000000 →
    Calls Try.prog 44 #[v, .int .i64 (-(m : Int))] w (AppTo B w (l ++ digs m)) := by
  intro m
  induction m using Nat.strongRecOn with
  | _ m ih =>
  intro B v l w ho hB hm hl
  obtain ⟨i0, hi, hz0, hz1, hz2⟩ := info5
  have hdv := neg_tdiv10 m
  have hmd := neg_tmod10 m
  by_cases h10 : m < 10
  · clear ih
    rw [digs_small h10] at hl ⊢
    obtain ⟨dg, hdg⟩ : ∃ dg, UInt8.ofNat (48 + m) = dg := ⟨_, rfl⟩
    have hdn : (dg.toNat : Int) = 48 + (m : Int) % 10 := by rw [← hdg, UInt8.toNat_ofNat']; omega
    rw [hdg]
    simp only [List.length_singleton] at hl
    have HO := Lib.hid ho; clear ho
    have HD := Lib.hid hdn; clear hdn hdg
    go_enter Try.func44, Try.ntmps44
    go_wp2_with (at_builtin; go_must (refine wpList_append_own _ rfl _ _ 46 rfl B 5 i0 (.int .u8 0) 1 1 Try.underlying46 hi hz0 hz1 hz2 rfl (by omega) _ l.length (bytesV l) rfl (HO.out.alloc _) ⟨w.heap.size, 0, none⟩ 1 1 (bytesV [dg]) rfl rfl ?hn (bytes_oneCell _) ?c3 ?c4 ?c5 ?_))
    case hn => exact new_cells w [dg] _ (one_cells _ dg HD.out)
    case c3 => unfold maxLen; omega
    case c4 => omega
    case c5 => simp; omega
    intro v' w' ho' hg' _
    have HO' := Lib.hid (Own.mk ho' rfl)
    have HG := Lib.hid (((Gr.refl B w).alloc hB _).grown (HO.out.alloc _) hg' (by simp; omega))
    clear ho' hg'
    go_wp2
    go_ret
    exact ⟨v', rfl, HO'.out, HG.out⟩
  · rw [digs_big h10] at hl ⊢
    obtain ⟨dg, hdg⟩ : ∃ dg, UInt8.ofNat (48 + m % 10) = dg := ⟨_, rfl⟩
    have hdn : (dg.toNat : Int) = 48 + (m : Int) % 10 := by rw [← hdg, UInt8.toNat_ofNat']; omega
    rw [hdg]
    simp only [List.length_append, List.length_singleton] at hl
    have hrec := ih (m / 10) (by omega) B v l w ho hB (by omega) (by omega)
    have hc : (-((m / 10 : Nat) : Int)) = -((m : Int) / 10) := by omega
    rw [hc] at hrec
    have HR := Lib.hid hrec; clear hrec ih hc
    have HD := Lib.hid hdn; clear hdn hdg
    generalize hdl : digs (m / 10) = dl at HR hl ⊢
    clear hdl
    go_enter Try.func44, Try.ntmps44
    go_wp2_with fail
    refine HR.out.mono ?_
    rintro e w1 ⟨v1, rfl, ho1, hg1⟩
    have hB1 : B ≤ w1.heap.size := Nat.le_trans hB hg1.1.size
    have HO := Lib.hid ho1; clear ho1 ho
    have HG1 := Lib.hid hg1; clear hg1
    go_wp2_with (at_builtin; go_must (refine wpList_append_own _ rfl _ _ 46 rfl B 5 i0 (.int .u8 0) 1 1 Try.underlying46 hi hz0 hz1 hz2 rfl (by omega) _ (l ++ dl).length (bytesV (l ++ dl)) rfl (HO.out.alloc _) ⟨w1.heap.size, 0, none⟩ 1 1 (bytesV [dg]) rfl rfl ?hn (bytes_oneCell _) ?c3 ?c4 ?c5 ?_))
    case hn => exact new_cells w1 [dg] _ (one_cells _ dg HD.out)
    case c3 => unfold maxLen; rw [List.length_append]; omega
    case c4 => rw [List.length_append]; omega
    case c5 => simp; omega
    intro v' w' ho' hg' _
    have HO' := Lib.hid (Own.mk ho' (by simp))
    have HG := Lib.hid (HG1.out.trans (((Gr.refl B w1).alloc hB1 _).grown (HO.out.alloc _) hg' (by simp; omega)))
    clear ho' hg'
    go_wp2
    go_ret
    exact ⟨v', rfl, by rw [← List.append_assoc]; exact HO'.out, HG.out⟩

def intText (n : Int) : List UInt8 := if n < 0 then 45 :: digs n.natAbs else digs n.natAbs

set_option maxHeartbeats 400000 in
theorem appendInteger22 (n : Int) (w : World) (h0 : -9223372036854775808 ≤ n) (h1 : n < 9223372036854775808) :
    Calls Try.prog 22 #[.slice none 0 0, .int .i64 n] w (AppTo w.heap.size w (intText n)) := by
  obtain ⟨i0, hi, hz0, hz1, hz2⟩ := info5
  have hlen := digs_len 18 n.natAbs (by omega)
  have HN := Lib.hid (World.ownsRow_nil w w.heap.size 5 1)
  by_cases hn : n < 0
  · have hA : Hid (intText n = [45] ++ digs n.natAbs) := by simp [Hid, intText, hn]
    rw [hA.out]
    go_enter Try.func22, Try.ntmps22
    go_wp2_with (at_builtin; go_must (refine wpList_append_own _ rfl _ _ 46 rfl w.heap.size 5 i0 (.int .u8 0) 1 1 Try.underlying46 hi hz0 hz1 hz2 rfl (by omega) _ 0 [] rfl (HN.out.alloc _) ⟨w.heap.size, 0, none⟩ 1 1 (bytesV [45]) rfl rfl ?hn (bytes_oneCell _) ?c3 ?c4 ?c5 ?_))
    case hn => exact new_cells w [45] _ rfl
    case c3 => unfold maxLen; omega
    case c4 => omega
    case c5 => simp
    intro v' w' ho' hg' _
    have ho2 : Own w.heap.size v' [45] w' := ho'
    have HG := Lib.hid (((Gr.refl w.heap.size w).alloc (Nat.le_refl _) _).grown (show Own w.heap.size (.slice none 0 0) [] _ from HN.out.alloc _) hg' (by simp))
    have hd := appendDigits44 n.natAbs w.heap.size v' [45] w' ho2 HG.out.1.size (by omega) (by simp only [List.length_singleton]; omega)
    rw [show (-(n.natAbs : Int)) = n by omega] at hd
    have HD := Lib.hid hd
    clear ho' hg' ho2 hd
    go_wp2_with fail
    refine HD.out.mono ?_
    rintro e w2 ⟨v2, rfl, ho2, hg2⟩
    have HO2 := Lib.hid ho2; clear ho2
    go_wp2
    go_ret
    exact ⟨v2, rfl, HO2.out, HG.out.trans hg2⟩
  · have hA : Hid (intText n = [] ++ digs n.natAbs) := by simp [Hid, intText, hn]
    rw [hA.out]
    have hd := appendDigits44 n.natAbs w.heap.size (.slice none 0 0) [] w HN.out (Nat.le_refl _) (by omega) (by simp only [List.length_nil]; omega)
    rw [show (-(n.natAbs : Int)) = -n by omega] at hd
    have HD := Lib.hid hd; clear hd
    go_enter Try.func22, Try.ntmps22
    go_wp2_with fail
    refine HD.out.mono ?_
    rintro e w2 ⟨v2, rfl, ho2, hg2⟩
    have HO2 := Lib.hid ho2; clear ho2
    go_wp2
    go_ret
    exact ⟨v2, rfl, HO2.out, hg2⟩
end Go.Proofs.Ytapfhonapejpjaa
