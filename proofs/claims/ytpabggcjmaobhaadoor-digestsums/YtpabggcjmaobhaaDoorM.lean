/-
  The digit, and Unhex. No condition but a length.
-/
import Derived.Test.YtpabggcjmaobhaaDoorI
namespace Go.Proofs.YtpabggcjmaobhaaDoor
open Go.RowKit

def digit (c : UInt8) : Option Nat := if 48 ≤ c.toNat ∧ c.toNat ≤ 57 then some (c.toNat - 48) else if 97 ≤ c.toNat ∧ c.toNat ≤ 102 then some (c.toNat - 87) else none
theorem digit_lt (c : UInt8) (n : Nat) (h : digit c = some n) : n < 16 := by
  unfold digit at h
  split at h
  · cases h; omega
  · split at h
    · cases h; omega
    · cases h
def unhexL : List UInt8 → Option (List UInt8)
  | [] => some []
  | [_] => none
  | a :: b :: r => match digit a, digit b with
    | some x, some y => (unhexL r).map (UInt8.ofNat (16 * x + y) :: ·)
    | _, _ => none
theorem unhexL_some (a b : UInt8) (r : List UInt8) (x y : Nat) (hx : digit a = some x) (hy : digit b = some y) : unhexL (a :: b :: r) = (unhexL r).map (UInt8.ofNat (16 * x + y) :: ·) := by
  rw [unhexL, hx, hy]
theorem unhexL_none (a b : UInt8) (r : List UInt8) (h : digit a = none ∨ digit b = none) : unhexL (a :: b :: r) = none := by
  rw [unhexL]
  rcases h with h | h
  · rw [h]
  · rw [h]; cases digit a <;> rfl
theorem unhexL_odd : ∀ (l : List UInt8), l.length % 2 = 1 → unhexL l = none
  | [], h => by simp at h
  | [_], _ => rfl
  | a :: b :: r, h => by
    have := unhexL_odd r (by simp at h; omega)
    unfold unhexL
    rw [this]
    cases digit a <;> cases digit b <;> rfl

set_option maxHeartbeats 400000 in
theorem digit22 (c : UInt8) (w : World) :
    Calls Tryd.prog 22 #[.int .u8 (c.toNat : Int)] w fun e w' => e = .returned (.tuple #[.int .u8 (((digit c).getD 0 : Nat) : Int), .bool (digit c).isSome]) ∧ w = w' := by
  have hc := c.toNat_lt
  by_cases h1 : 48 ≤ c.toNat ∧ c.toNat ≤ 57
  · have hr : Hid (digit c = some (c.toNat - 48)) := by unfold Hid digit; rw [if_pos h1]
    obtain ⟨h1, h2⟩ := h1
    rw [hr.out]
    have he : (((some (c.toNat - 48)).getD 0 : Nat) : Int) = (c.toNat : Int) - 48 := by simp; omega
    rw [he]
    clear hr he
    go_enter Tryd.func22, Tryd.ntmps22
    go_wp2
    go_ret2
    exact ⟨rfl, rfl⟩
  · by_cases h2 : 97 ≤ c.toNat ∧ c.toNat ≤ 102
    · have hr : Hid (digit c = some (c.toNat - 87)) := by unfold Hid digit; rw [if_neg h1, if_pos h2]
      rw [hr.out]
      obtain ⟨h2, h3⟩ := h2
      have h4 : ¬ (c.toNat : Int) ≤ 57 := by omega
      have he : (((some (c.toNat - 87)).getD 0 : Nat) : Int) = (c.toNat : Int) - 97 + 10 := by simp; omega
      rw [he]
      clear hr he h1
      go_enter Tryd.func22, Tryd.ntmps22
      go_wp2
      go_ret2
      exact ⟨rfl, rfl⟩
    · have hr : Hid (digit c = none) := by unfold Hid digit; rw [if_neg h1, if_neg h2]
      rw [hr.out]
      clear hr
      have ht1 : (decide (48 ≤ (c.toNat : Int)) && decide ((c.toNat : Int) ≤ 57)) = false := by
        simp; omega
      have ht2 : (decide (97 ≤ (c.toNat : Int)) && decide ((c.toNat : Int) ≤ 102)) = false := by
        simp; omega
      go_enter Tryd.func22, Tryd.ntmps22
      go_wp2
      all_goals (go_ret2; exact ⟨rfl, rfl⟩)
theorem or_nib (x y : Nat) (hx : x < 16) (hy : y < 16) : bits BinOp.or IntKind.u8 ((x : Int) * 16) (y : Int) = ((16 * x + y : Nat) : Int) := by
  have : ∀ k j : Fin 16, bits BinOp.or IntKind.u8 ((k.val : Int) * 16) (j.val : Int) = ((16 * k.val + j.val : Nat) : Int) := by decide +kernel
  exact this ⟨x, hx⟩ ⟨y, hy⟩
theorem cellNib (x y : Nat) (hx : x < 16) (hy : y < 16) : #[Value.int .u8 ((16 * x + y : Nat) : Int)] = (bytesV [UInt8.ofNat (16 * x + y)]).toArray := by
  have : (UInt8.ofNat (16 * x + y)).toNat = 16 * x + y := by rw [UInt8.toNat_ofNat']; omega
  show _ = #[Value.int .u8 ((UInt8.ofNat (16 * x + y)).toNat : Int)]
  rw [this]

/-- What is read behind the first k pairs. -/
theorem unhexL_step (l : List UInt8) (k : Nat) (out : List UInt8) (h : unhexL l = (unhexL (l.drop (2 * k))).map (out ++ ·)) (hk : 2 * k + 1 < l.length) :
    (∀ x y, digit (l.getD (2 * k) 0) = some x → digit (l.getD (2 * k + 1) 0) = some y → unhexL l = (unhexL (l.drop (2 * (k + 1)))).map ((out ++ [UInt8.ofNat (16 * x + y)]) ++ ·)) ∧
    ((digit (l.getD (2 * k) 0) = none ∨ digit (l.getD (2 * k + 1) 0) = none) → unhexL l = none) := by
  have e : l.drop (2 * k) = l.getD (2 * k) 0 :: l.getD (2 * k + 1) 0 :: l.drop (2 * (k + 1)) := by
    rw [List.drop_eq_getElem_cons (by omega), List.drop_eq_getElem_cons (by omega)]
    simp [List.getElem?_eq_getElem (show 2 * k < l.length by omega), List.getElem?_eq_getElem hk, show 2 * (k + 1) = 2 * k + 1 + 1 by omega]
  rw [e] at h
  generalize l.getD (2 * k) 0 = a at h ⊢
  generalize l.getD (2 * k + 1) 0 = b at h ⊢
  constructor
  · intro x y hx hy
    rw [h, unhexL_some a b _ x y hx hy, Option.map_map]
    congr 1
    funext r
    simp
  · intro hx
    rw [h, unhexL_none a b _ hx]
    rfl
/-- What Unhex answers. -/
def unhexE (r : Option (List UInt8)) : Value := .tuple #[.string ⟨(r.getD []).toArray⟩, .int .i64 (if r.isSome then 0 else 4)]

set_option maxHeartbeats 800000 in
theorem unhex11 (s : ByteArray) (hs : s.size ≤ 400000) (w : World) :
    Calls Tryd.prog 11 #[.string s] w fun e w' => e = .returned (unhexE (unhexL s.data.toList)) ∧ Below w.heap.size w w' := by
  obtain ⟨i0, hi, hz0, hz1, hz2⟩ := info5
  have hsl : s.data.toList.length = s.size := by simp
  obtain ⟨E, hE⟩ : ∃ E, unhexE (unhexL s.data.toList) = E := ⟨_, rfl⟩
  rw [hE]
  by_cases hodd : s.size % 2 = 1
  · have h1 : (((s.size : Int) % 2) != 0) = true := by
      have : (s.size : Int) % 2 ≠ 0 := by omega
      simpa using this
    have HE : Hid (E = .tuple #[.string ⟨#[]⟩, .int .i64 4]) := by
      unfold Hid; rw [← hE, unhexL_odd _ (by rw [hsl]; exact hodd)]; rfl
    clear hE
    go_enter Tryd.func11, Tryd.ntmps11
    go_wp2
    go_ret2
    exact ⟨by rw [HE.out]; rfl, Below.refl _ _⟩
  · have h1 : (((s.size : Int) % 2) != 0) = false := by
      have : (s.size : Int) % 2 = 0 := by omega
      simpa using this
    have hdv : (s.size : Int) / 2 = ((s.size / 2 : Nat) : Int) := by omega
    obtain ⟨w1, hm, ho, hb⟩ := make_own w w.heap.size (s.size / 2) (Nat.le_refl _) (by omega)
    rw [← hdv] at hm
    have HO := Lib.hid ho
    have HB := Lib.hid hb
    have HE := Lib.hid hE
    have HSL := Lib.hid hsl
    clear ho hb hE hsl hdv
    go_enter Tryd.func11, Tryd.ntmps11
    go_wp2
    clear hm
    go_loopw [4, 5] (fun s4 s5 wr => ∃ (k : Nat) (out : List UInt8), 2 * k ≤ s.size ∧ s5 = .int .i64 (2 * (k : Int)) ∧ Hid (Own w.heap.size s4 out wr) ∧ Hid (out.length = k) ∧ Hid (unhexL s.data.toList = (unhexL (s.data.toList.drop (2 * k))).map (out ++ ·)) ∧ Hid (Below w.heap.size w wr)) (fun _ s5 _ => s.size - (intOf s5).toNat)
    case atStart => exact ⟨0, [], by omega, rfl, HO, rfl, by simp [Hid], HB⟩
    case round =>
      obtain ⟨k, out, hk, rfl, HO, HK, HU, HB⟩ := hrel
      have hB1 := HB.out.size
      by_cases hlt : 2 * k < s.size
      · have hj1 : 2 * k + 1 < s.size := by omega
        obtain ⟨j, hj⟩ : ∃ j, j = 2 * k := ⟨_, rfl⟩
        obtain ⟨j', hj'⟩ : ∃ j', j' = 2 * k + 1 := ⟨_, rfl⟩
        have e0 : 2 * (k : Int) = (j : Int) := by omega
        have e1 : (j : Int) + 1 = (j' : Int) := by omega
        have hb0 : (j : Int) < s.size := by omega
        have hb1 : (j' : Int) < s.size := by omega
        have hjn : j < s.size := by omega
        have hj'n : j' < s.size := by omega
        have hs1 := unhexL_step s.data.toList k out HU.out (by rw [HSL.out]; exact hj1)
        rw [← hj', ← hj, getD_byte s j hjn, getD_byte s j' hj'n] at hs1
        rw [e0]
        have HD1 := Lib.hid (digit22 s[j])
        have HD2 := Lib.hid (digit22 s[j'])
        have HJ : Hid (((j : Int) + 2) = 2 * ((k + 1 : Nat) : Int)) := by unfold Hid; omega
        have HJK : Hid (2 * (k + 1) ≤ s.size) := by unfold Hid; omega
        have hjl : j ≤ 400000 := by omega
        have HS1 := Lib.hid hs1
        have hol : out.length ≤ 400000 := by rw [HK.out]; omega
        clear hj hj' e0 hj1 hlt hk hs1 HU
        by_cases hbad : digit s[j] = none ∨ digit s[j'] = none
        · have HF : Hid (E = .tuple #[.string ⟨#[]⟩, .int .i64 4]) := by
            unfold Hid; rw [← HE.out, HS1.out.2 hbad]; rfl
          have hb : ((!(digit s[j]).isSome) || (!(digit s[j']).isSome)) = true := by
            rcases hbad with h | h <;> simp [h]
          have HDD : Hid ((digit s[j]).isSome = false ∨ ((digit s[j]).isSome = true ∧ (digit s[j']).isSome = false)) := by
            unfold Hid
            cases h : (digit s[j]).isSome
            · exact Or.inl rfl
            · refine Or.inr ⟨rfl, ?_⟩
              rcases hbad with h' | h'
              · rw [h'] at h; cases h
              · rw [h']; rfl
          generalize (digit s[j]).isSome = o1 at HD1 HDD
          generalize (digit s[j']).isSome = o2 at HD2 HDD
          generalize (digit s[j]).getD 0 = x1 at HD1
          generalize (digit s[j']).getD 0 = x2 at HD2
          clear HS1 hbad hb
          rcases HDD.out with rfl | ⟨rfl, rfl⟩
          · go_wp2_with fail
            refine (HD1.out _).mono ?_
            rintro e w' ⟨rfl, rfl⟩
            go_wp2_with fail
            refine (HD2.out _).mono ?_
            rintro e w' ⟨rfl, rfl⟩
            go_wp2
            go_ret2
            exact ⟨by rw [HF.out]; rfl, HB.out⟩
          · go_wp2_with fail
            refine (HD1.out _).mono ?_
            rintro e w' ⟨rfl, rfl⟩
            go_wp2_with fail
            refine (HD2.out _).mono ?_
            rintro e w' ⟨rfl, rfl⟩
            go_wp2
            go_ret2
            exact ⟨by rw [HF.out]; rfl, HB.out⟩
        · obtain ⟨x, hx⟩ : ∃ x, digit s[j] = some x := by
            cases h : digit s[j] with
            | none => exact absurd (Or.inl h) hbad
            | some x => exact ⟨x, rfl⟩
          obtain ⟨y, hy⟩ : ∃ y, digit s[j'] = some y := by
            cases h : digit s[j'] with
            | none => exact absurd (Or.inr h) hbad
            | some y => exact ⟨y, rfl⟩
          have HU2 := Lib.hid (HS1.out.1 x y hx hy)
          have hx16 := digit_lt _ _ hx
          have hy16 := digit_lt _ _ hy
          rw [hx] at HD1
          rw [hy] at HD2
          have hor := or_nib x y hx16 hy16
          have HC := Lib.hid (cellNib x y hx16 hy16)
          generalize hq : UInt8.ofNat (16 * x + y) = q at HU2 HC
          generalize 16 * x + y = xy at hor HC
          clear hx hy hbad HS1 hq
          simp only [Option.getD_some, Option.isSome_some] at HD1 HD2
          go_wp2_with fail
          refine (HD1.out _).mono ?_
          rintro e w' ⟨rfl, rfl⟩
          go_wp2_with fail
          refine (HD2.out _).mono ?_
          rintro e w' ⟨rfl, rfl⟩
          clear HD1 HD2
          go_wp2_with (at_builtin; go_must (refine wpList_append_own _ rfl _ _ 47 rfl w.heap.size 5 i0 (.int .u8 0) 1 1 Tryd.underlying47 hi hz0 hz1 hz2 rfl (by omega) _ out.length (bytesV out) rfl (HO.out.alloc _) ⟨wr.heap.size, 0, none⟩ 1 1 (bytesV [q]) rfl rfl ?hn (bytes_oneCell _) ?c3 ?c4 ?c5 ?_))
          case hn => exact new_cells wr [q] _ HC.out
          case c3 => unfold maxLen; omega
          case c4 => omega
          case c5 => simp; omega
          intro v' w' ho' hg' _
          have HO' := Lib.hid (Own.mk (k := [q]) ho' rfl)
          have HG := Lib.hid (Own.below (HB.out.alloc hB1 _) (HO.out.alloc _) hg' (by simp; omega))
          clear ho' hg'
          go_wp2
          go_roundw
          case rel => exact ⟨k + 1, out ++ [q], HJK.out, by rw [HJ.out], HO', by simp [Hid, HK.out], HU2, HG⟩
          case measure => simp [intOf]; omega
      · have hkl : s.data.toList.drop (2 * k) = [] := List.drop_of_length_le (by rw [HSL.out]; omega)
        have HF : Hid (E = .tuple #[.string ⟨out.toArray⟩, .int .i64 0]) := by
          unfold Hid; rw [← HE.out, HU.out, hkl]; simp [unhexL, unhexE]
        clear hkl HU HE
        obtain ⟨a, c, rfl⟩ := HO.out.slice
        have hcv := conv_own _ _ _ _ _ _ HO.out rfl
        go_wp2
        go_ret2
        exact ⟨by rw [HF.out]; rfl, HB.out⟩
end Go.Proofs.YtpabggcjmaobhaaDoor
