/-
  The walk of DrumStays. No condition.
-/
import Derived.Test.YtikbkeckkdkkbaaTD
namespace Go.Proofs.Ytikbkeckkdkkbaa
open Go.RowKit

def z42 : Array Value := rowF fun _ => .string ByteArray.empty
def z44 : Array Value := rowF fun _ => .slice none 0 0
theorem zero42 : (∀ w, (zeroValue 42).run Try.prog w = .ok (.agg z42) w) ∧ (Try.prog.info? 42).map (·.size) = some 6 := zero_of_info (by kernel_rfl)
theorem zero44 : (∀ w, (zeroValue 44).run Try.prog w = .ok (.agg z44) w) ∧ (Try.prog.info? 44).map (·.size) = some 6 := zero_of_info (by kernel_rfl)
/-- What is sure, when i of the six were asked. -/
def suF (S : List ByteArray) (i : Nat) : Nat → Value := fun j => .string (if j < i then S.getD j ByteArray.empty else ByteArray.empty)
theorem suF_zero (S : List ByteArray) : suF S 0 = fun _ => .string ByteArray.empty := by funext j; simp [suF]
theorem suF_succ (S : List ByteArray) (i : Nat) : upd (suF S i) i (.string (S.getD i ByteArray.empty)) = suF S (i + 1) := by
  funext j
  unfold upd suF
  by_cases e : j = i
  · subst e; rw [if_pos rfl, if_pos (by omega)]
  · rw [if_neg e]
    by_cases h : j < i
    · rw [if_pos h, if_pos (by omega)]
    · rw [if_neg h, if_neg (by omega)]
theorem suF_get (S : List ByteArray) (i j : Nat) (h : j < i) : suF S i j = .string (S.getD j ByteArray.empty) := by unfold suF; rw [if_pos h]
/-- Was s among x and the first k of R? -/
def fd (s x : ByteArray) (R : List ByteArray) (k : Nat) : Bool := (s.toList == x.toList) || (R.take k).any fun r => s.toList == r.toList
theorem fd_zero (s x : ByteArray) (R : List ByteArray) : fd s x R 0 = (s.toList == x.toList) := by simp [fd]
theorem fd_succ (s x : ByteArray) (R : List ByteArray) (k : Nat) (h : k < R.length) : fd s x R (k + 1) = (fd s x R k || (s.toList == R[k].toList)) := by
  unfold fd
  rw [List.take_succ_eq_append_getElem h, List.any_append, Bool.or_assoc]
  simp
theorem fd_end (s x : ByteArray) (R : List ByteArray) (h : s = x ∨ s ∈ R) : fd s x R R.length = true := by
  unfold fd
  rw [Bool.or_eq_true, List.take_length]
  rcases h with h | h
  · left; rw [h]; simp
  · right; exact List.any_eq_true.2 ⟨s, h, by simp⟩

set_option maxRecDepth 100000 in
set_option maxHeartbeats 1000000 in
theorem stays4_lives (L M : List Ac) (K : List Int) (lv mv kv : Value) (w : World) (hL : AcsAt w w.heap.size lv L) (hM : AcsAt w w.heap.size mv M) (hK : IntsAt w w.heap.size kv K) (hx : fewB L = false ∨ fewB M = false ∨ 200 < K.length) :
    Calls Try.prog 4 #[lv, mv, kv] w fun e w' => e = .returned (.bool true) ∧ Below w.heap.size w w' := by
  have HF := Lib.hid (few7 L lv w _ hL)
  have HG := Lib.hid (few7 M mv w _ hM)
  have HLV := Lib.hid (lives8 w)
  obtain ⟨la, lc, rfl, -⟩ := hL
  obtain ⟨ma, mc, rfl, -⟩ := hM
  obtain ⟨ka, kc, rfl, -⟩ := hK
  generalize hkl : K.length = kl at hx ⊢
  clear hkl
  cases hf : fewB L with
  | false =>
    rw [hf] at HF
    clear hf hx HG
    go_enter Try.func4, Try.ntmps4
    go_wp2_with (first | (go_at_call 7; refine HF.out.mono ?_; rintro e w' ⟨rfl, rfl⟩) | (go_at_call 8; refine HLV.out.mono ?_; rintro e w' ⟨rfl, hb⟩))
    go_ret
    exact ⟨rfl, hb⟩
  | true =>
    rw [hf] at HF
    cases hg : fewB M with
    | false =>
      rw [hg] at HG
      clear hf hg hx
      go_enter Try.func4, Try.ntmps4
      go_wp2_with fail
      refine HF.out.mono ?_
      rintro e w' ⟨rfl, rfl⟩
      go_wp2_with fail
      refine HG.out.mono ?_
      rintro e w' ⟨rfl, rfl⟩
      go_wp2_with (go_at_call 8; refine HLV.out.mono ?_; rintro e w' ⟨rfl, hb⟩)
      go_ret
      exact ⟨rfl, hb⟩
    | true =>
      rw [hg] at HG
      have hk : 200 < kl := by
        rcases hx with h | h | h
        · rw [hf] at h; cases h
        · rw [hg] at h; cases h
        · exact h
      have t : decide ((200 : Int) < (kl : Int)) = true := by simp; omega
      clear hf hg hx
      go_enter Try.func4, Try.ntmps4
      go_wp2_with fail
      refine HF.out.mono ?_
      rintro e w' ⟨rfl, rfl⟩
      go_wp2_with fail
      refine HG.out.mono ?_
      rintro e w' ⟨rfl, rfl⟩
      go_wp2_with (go_at_call 8; refine HLV.out.mono ?_; rintro e w' ⟨rfl, hb⟩)
      go_ret
      exact ⟨rfl, hb⟩

set_option maxRecDepth 100000 in
set_option maxHeartbeats 4000000 in
theorem stays4_go (L M : List Ac) (K : List Int) (lv mv kv : Value) (w : World) (hL : AcsAt w w.heap.size lv L) (hM : AcsAt w w.heap.size mv M) (hK : IntsAt w w.heap.size kv K) (hf : fewB L = true) (hg : fewB M = true) (hk200 : K.length ≤ 200) :
    Calls Try.prog 4 #[lv, mv, kv] w fun e w' => e = .returned (.bool true) ∧ Below w.heap.size w w' := by
  have HF := Lib.hid (few7 L lv w _ hL)
  have HG := Lib.hid (few7 M mv w _ hM)
  rw [hf] at HF
  rw [hg] at HG
  have HBG := Lib.hid (begun15 L lv w hL hf)
  have HM := Lib.hid hM
  have HK := Lib.hid hK
  have hfew := fewB_iff.1 hg
  have HFEW := Lib.hid hfew.2
  have hm150 := hfew.1
  obtain ⟨la, lc, rfl, -⟩ := hL
  obtain ⟨ma, mc, rfl, -⟩ := hM
  obtain ⟨ka, kc, rfl, -⟩ := hK
  have HKL := Lib.hid hk200
  generalize hll : L.length = ln at HF HBG ⊢
  obtain ⟨mn, hmn⟩ : ∃ mn, M.length = mn := ⟨_, rfl⟩
  have HMN := Lib.hid hmn
  rw [hmn] at hm150 HG
  rw [hmn]
  generalize hkl : K.length = kl at hk200 HK ⊢
  have t : decide ((200 : Int) < (kl : Int)) = false := by simp; omega
  have hz42 := zero42.1
  have hz44 := zero44.1
  have HMADE : Hid (∀ (W : World) (b : Nat) (d : D), PN w W b d → St w ((W.alloc (.cells z42 42)).alloc (.cells z44 44)) b W.heap.size (W.heap.size + 1) (fun _ => .string ByteArray.empty) d []) := fun W b d h => St.made h
  generalize z42 = Z1 at hz42 HMADE
  generalize z44 = Z2 at hz44 HMADE
  clear hf hg hfew hll hmn hkl
  go_enter Try.func4, Try.ntmps4
  go_wp2_with fail
  refine HF.out.mono ?_
  rintro e w' ⟨rfl, rfl⟩
  go_wp2_with fail
  refine HG.out.mono ?_
  rintro e w' ⟨rfl, rfl⟩
  go_wp2_with fail
  refine HBG.out.mono ?_
  rintro e w1 ⟨b, d, rfl, hP, h6, h150⟩
  have HC := Lib.hid (crashN hP (by omega) [] (.slice none 0 0) (IntsAt.nil _ _) (by simp))
  have HCD : Hid (crashD d [] = dW (ap (keepF []) d.S d.W d.W.length) []) := rfl
  have HS6 : Hid ((ap (keepF []) d.S d.W d.W.length).length = 6) := by unfold Hid; rw [ap_length]; exact h6
  rw [HCD.out] at HC
  generalize ap (keepF []) d.S d.W d.W.length = S0 at HC HS6
  clear hP h6 h150 HF HG HBG HCD
  go_wp2_with fail
  refine HC.out.mono ?_
  rintro e w2 ⟨rfl, hP⟩
  have HST0 := Lib.hid (HMADE.out _ _ _ hP)
  rw [← suF_zero S0] at HST0
  clear hP HC HMADE
  go_upto_region 8 with (fail)
  generalize (w2.alloc (.cells Z1 42)).alloc (.cells Z2 44) = w3 at HST0 ⊢
  generalize w2.heap.size + 1 = A2 at HST0 ⊢
  generalize w2.heap.size = A1 at HST0 ⊢
  clear hz42 hz44
  go_wp2
  go_loopw [10] (fun s10 wr => ∃ i : Nat, i ≤ 6 ∧ s10 = .int .i64 i ∧ Hid (St w wr b A1 A2 (suF S0 i) (dW S0 []) [])) (fun s10 _ => 6 - (intOf s10).toNat)
  case atStart => exact ⟨0, by omega, rfl, HST0⟩
  case round =>
    obtain ⟨i, hi, rfl, HS⟩ := hrel
    by_cases hlt : i < 6
    · have HSU := Lib.hid (HS.out.sure (i : Int))
      rw [sure_dW S0 [] i (by rw [HS6.out]; exact hlt)] at HSU
      have hti : decide ((i : Int) < 6) = true := by simp; omega
      have HNX := Lib.hid (suF_succ S0 i)
      generalize S0.getD i ByteArray.empty = x at HSU HNX
      go_wp2_with fail
      refine HSU.out.mono ?_
      rintro e w4 ⟨rfl, hb⟩
      have hs4 := HS.out.below hb
      have c0 := hs4.cell i hlt
      have f0 := hs4.fr i
      have HS5 := Lib.hid (hs4.set i (.string x))
      rw [HNX.out] at HS5
      clear hb hs4 HSU HS HNX
      go_wp2
      go_roundw
      case rel => exact ⟨i + 1, by omega, by go_num, HS5⟩
      case measure => simp [intOf]; omega
    · have hi6 : i = 6 := by omega
      have HST := HS
      rw [hi6] at HST
      clear HS HST0 hi6
      go_wp2
      go_loopw [11, 12] (fun s11 s12 wr => ∃ (j : Nat) (W : List (Nat × ByteArray)), j ≤ mn ∧ s12 = .int .i64 j ∧ s11 = .int .i64 (W.length : Int) ∧ W.length ≤ j ∧ Hid (St w wr b A1 A2 (suF S0 6) (dW S0 W) W)) (fun _ s12 _ => mn - (intOf s12).toNat)
      case atStart => exact ⟨0, [], by omega, rfl, rfl, by simp, HST⟩
      case round =>
        obtain ⟨j, W, hj, rfl, rfl, hWj, HS⟩ := hrel
        by_cases hlt : j < mn
        · have hj' : j < M.length := by rw [HMN.out]; exact hlt
          obtain ⟨a', c', hv, hcells⟩ := HM.out
          injection hv with f1 f2 f3
          subst f1
          obtain ⟨bb, oo, rfl, hbb, -⟩ := hcells (by omega)
          have HAT : Hid (∀ W, Below w.heap.size w W → W.cell? ⟨bb, oo + j * 4 + 1, none⟩ = some (.int .i64 M[j].i) ∧ W.cell? ⟨bb, oo + j * 4 + 2, none⟩ = some (.string M[j].s)) := by
            intro W hbW
            obtain ⟨a2, c2, hv2, hcells2⟩ := HM.out.below hbW
            injection hv2 with g1 g2 g3
            subst g1
            obtain ⟨b3, o3, g4, -, hc3⟩ := hcells2 (by omega)
            injection g4 with g4
            injection g4 with g5 g6
            subst g5 g6
            exact ⟨(hc3 j hj').c1, (hc3 j hj').c2⟩
          have HKS := Lib.hid (sector19 M[j].s)
          have HPS := Lib.hid (padS_size M[j].s)
          generalize padS M[j].s = ps at HKS HPS
          generalize M[j].i = ai at HAT
          generalize M[j].s = asx at HAT HKS
          obtain ⟨x1, x2⟩ := HAT.out _ HS.out.old
          have HWL : Hid ((dW S0 W).W.length ≤ 1000000) := by show W.length ≤ 1000000; omega
          clear hcells f2 f3 hj'
          by_cases hin : 0 ≤ ai ∧ ai < 6
          · obtain ⟨k, rfl⟩ : ∃ k : Nat, ai = (k : Int) := ⟨ai.toNat, by omega⟩
            have hk6 : k < 6 := by omega
            have HWE := Lib.hid (dW_in S0 W k ps HS6.out hk6 HPS.out)
            have HWR : Hid (∀ X, St w X b A1 A2 (suF S0 6) (dW S0 W) W → Calls Try.prog 18 #[.pointer (some ⟨b, 0, none⟩), .int .i64 (k : Int), .string ps] X fun e w' => e = .returned (.int .i64 0) ∧ St w w' b A1 A2 (suF S0 6) (dW S0 (W ++ [(k, ps)])) W) := fun X hX => by
              have := hX.write (k : Int) ps HWL.out
              rw [HWE.out.1, HWE.out.2] at this
              exact this
            have hk6i : (k : Int) < 6 := by omega
            have hk0i : (0 : Int) ≤ (k : Int) := by omega
            have u1 : decide ((k : Int) < 0) = false := by simp
            have u2 : decide ((5 : Int) < (k : Int)) = false := by simp; omega
            clear hin HWE
            go_wp2_with fail
            refine (HKS.out _).mono ?_
            rintro e w4 ⟨rfl, hb⟩
            have HS4 := Lib.hid (HS.out.below hb)
            clear hb HS x1 x2
            go_wp2_with fail
            refine (HWR.out _ HS4.out).mono ?_
            rintro e w5 ⟨rfl, hS5⟩
            have HS5 : Hid (St w w5.drew b A1 A2 (suF S0 6) (dW S0 (W ++ [(k, ps)])) W) := hS5.below ((Below.refl _ _).drew)
            clear hS5 HS4 HWR
            obtain ⟨F, G, vs, g1, g2, g3, g4, g5, g6, g7⟩ := HS5.out.ex
            obtain ⟨va, vc, hvs⟩ := row_slice (g2.own k hk6)
            have cA := g2.cell k hk6
            have fA : w5.drew.frozen? ⟨A2, k, none⟩ = false := frozen_of_row _ _ _ _ _ g2.row
            rw [hvs] at cA
            obtain ⟨-, y2⟩ := HAT.out _ HS5.out.old
            have hAlt := g2.alt
            obtain ⟨i9, hi9, hz90, hz91, hz92⟩ := info9
            have hrl := wl_len W k
            have HC3 : Hid (∀ w6, Below w5.drew.heap.size w5.drew w6 → w6.cell? ⟨A2, k, none⟩ = some (.slice va (wl W k).length vc) ∧ w6.frozen? ⟨A2, k, none⟩ = false ∧ A2 < w6.heap.size) := fun w6 hb6 => ⟨(hb6.cell (p := ⟨A2, k, none⟩) hAlt).trans cA, (hb6.frozen (p := ⟨A2, k, none⟩) hAlt).trans fA, Nat.lt_of_lt_of_le hAlt hb6.size⟩
            have HOW : Hid (∀ w6, Below w5.drew.heap.size w5.drew w6 → (w6.alloc (.cells #[.string ps] 9)).ownsRow 0 9 1 (.slice va (wl W k).length vc) (wl W k).length (strs (wl W k))) := fun w6 hb6 => by
              have ho := (g2.below hb6).own k hk6
              rw [hvs] at ho
              exact World.ownsRow.alloc ho _
            have HNE : Hid (∀ w6 : World, ∀ j u, ([.string ps] : List Value)[j]? = some u → (w6.alloc (.cells #[.string ps] 9)).cell? ((⟨w6.heap.size, 0, none⟩ : Addr).add j) = some u) := fun w6 j u hu => World.news_of_block (cs := #[.string ps]) (heap_alloc_new w6 _) j u hu
            have HNA : Hid (Value.ownBlock (.slice va (wl W k).length vc) ≠ some A2) := by unfold Hid; rw [← hvs]; exact g2.na k hk6
            have HC4 : Hid (∀ w6 w7, Below w5.drew.heap.size w5.drew w6 → (w6.alloc (.cells #[.string ps] 9)).grownBy w7 (Value.ownBlock (.slice va (wl W k).length vc)) → w7.cell? ⟨A2, k, none⟩ = some (.slice va (wl W k).length vc) ∧ w7.frozen? ⟨A2, k, none⟩ = false) := by
              intro w6 w7 hb6 hg7
              obtain ⟨q1, q2, q3⟩ := HC3.out w6 hb6
              have hb' : Below w6.heap.size w6 (w6.alloc (.cells #[.string ps] 9)) := (Below.refl _ _).alloc (Nat.le_refl _) _
              have q3' := Nat.lt_of_lt_of_le q3 hb'.size
              exact ⟨(hg7.cell_far ⟨A2, k, none⟩ q3' (Ne.symm HNA.out)).trans ((hb'.cell (p := ⟨A2, k, none⟩) q3).trans q1), (hg7.frozen_far ⟨A2, k, none⟩ q3' (Ne.symm HNA.out)).trans ((hb'.frozen (p := ⟨A2, k, none⟩) q3).trans q2)⟩
            have HFIN : Hid (∀ w6 w7 g' cap, Below w5.drew.heap.size w5.drew w6 → w7.ownsRow 0 9 1 (.slice (some ⟨g', 0, none⟩) ((wl W k).length + 1) cap) ((wl W k).length + 1) (strs (wl W k) ++ [.string ps]) → (w6.alloc (.cells #[.string ps] 9)).grownBy w7 (Value.ownBlock (.slice va (wl W k).length vc)) → (Value.ownBlock (.slice va (wl W k).length vc) = some g' ∨ g' = (w6.alloc (.cells #[.string ps] 9)).heap.size) → g' < w7.heap.size → St w (w7.setCell ⟨A2, k, none⟩ (.slice (some ⟨g', 0, none⟩) ((wl W k).length + 1) cap)) b A1 A2 (suF S0 6) (dW S0 (W ++ [(k, ps)])) (W ++ [(k, ps)])) := by
              intro w6 w7 g' cap hb6 ho7 hg7 hat7 hlt7
              exact (HS5.out.below hb6).push (g1.below hb6) (g2.below hb6) g3 g4 g5 g6 g7 hk6 _ ho7 (by rw [hvs]; exact hg7) (by rw [hvs]; exact hat7) hlt7
            generalize (wl W k).length = vn at cA HC3 HOW HC4 HFIN HNA hrl
            clear g1 g2 g3 g4 g5 g6 g7 hvs HNA HS5
            go_wp2_with fail
            go_region_law (first | (go_simp; go_at_call 19; (with_reducible refine (HKS.out _).mono ?_); rintro e w6 ⟨rfl, hb6⟩; have HB6 := Lib.hid hb6; obtain ⟨q1, q2, q3⟩ := HC3.out w6 hb6; clear hb6) | (refine step_append_lies _ rfl (.tmp 88) (.tmp 95) 43 rfl 0 9 i9 _ 1 16 Try.underlying43 hi9 hz90 hz91 hz92 rfl (by omega) _ _ _ (by simp [Act.eval]) (HOW.out _ HB6.out) _ 1 1 [.string ps] (by simp [Act.eval]) rfl (HNE.out w6) (by intro u hu; simp at hu; subst hu; rfl) (by omega) (by unfold maxLen; omega) (by omega) (Nat.zero_le _) _ rfl ?_; intro g' cap w7 ho7 hg7 hat7 hlt7; obtain ⟨r1, r2⟩ := HC4.out _ _ HB6.out hg7; have HF7 := Lib.hid (HFIN.out _ _ _ _ HB6.out ho7 hg7 hat7 hlt7); clear ho7 hg7 hat7 hlt7))
            all_goals
              go_wp2
              go_roundw
              case rel => exact ⟨j + 1, W ++ [(k, ps)], by omega, by go_num, by simp, by simp; omega, HF7⟩
              case measure => simp [intOf]; omega
          · have HWE := Lib.hid (dW_out S0 W ai ps HS6.out hin)
            have HWR : Hid (∀ X, St w X b A1 A2 (suF S0 6) (dW S0 W) W → Calls Try.prog 18 #[.pointer (some ⟨b, 0, none⟩), .int .i64 ai, .string ps] X fun e w' => e = .returned (.int .i64 2) ∧ St w w' b A1 A2 (suF S0 6) (dW S0 W) W) := fun X hX => by
              have := hX.write ai ps HWL.out
              rw [HWE.out.1, HWE.out.2] at this
              exact this
            clear HWE HAT
            go_wp2_with fail
            refine (HKS.out _).mono ?_
            rintro e w4 ⟨rfl, hb⟩
            have HS4 := Lib.hid (HS.out.below hb)
            clear hb HS x1 x2
            go_wp2_with fail
            refine (HWR.out _ HS4.out).mono ?_
            rintro e w5 ⟨rfl, hS5⟩
            have HS5 := Lib.hid hS5
            clear hS5 HS4 HWR
            go_wp2
            go_roundw
            case rel => exact ⟨j + 1, W, by omega, by go_num, rfl, by omega, HS5⟩
            case measure => simp [intOf]; omega
        · have HST := HS
          have hw150 : W.length ≤ 150 := by omega
          have HLO := Lib.hid HS.out.loose
          have HOKD : Hid (∀ p ∈ W, p.1 < S0.length) := by
            obtain ⟨F, G, vs, g1, _⟩ := HS.out.ex
            exact fun p hp => (g1.ok.w64 p hp).1
          have HLO' : Hid (Calls Try.prog 20 #[.pointer (some ⟨b, 0, none⟩)] wr fun e w' => e = .returned (.int .i64 (W.length : Int)) ∧ wr = w') := HLO.out
          clear HS HLO HFEW HMN HM
          go_wp2_with fail
          refine HLO'.out.mono ?_
          rintro e w' ⟨rfl, rfl⟩
          clear HLO'
          obtain ⟨wq, hwq⟩ : ∃ wq, wr = wq := ⟨_, rfl⟩
          subst hwq
          go_wp2
          go_loopw [14] (fun s14 w5 => ∃ i : Nat, i ≤ 6 ∧ s14 = .int .i64 i ∧ Hid (St w w5 b A1 A2 (suF S0 6) (dW S0 W) W)) (fun s14 _ => 6 - (intOf s14).toNat)
          case atStart => exact ⟨0, by omega, rfl, HST⟩
          case round =>
            obtain ⟨i, hi, rfl, HS⟩ := hrel
            by_cases hlt : i < 6
            · have HSU : Hid (∀ X, St w X b A1 A2 (suF S0 6) (dW S0 W) W → Calls Try.prog 17 #[.pointer (some ⟨b, 0, none⟩), .int .i64 (i : Int)] X fun e w' => e = .returned (.string (S0.getD i ByteArray.empty)) ∧ Below X.heap.size X w') := fun X hX => by
                have := hX.sure (i : Int)
                rw [sure_dW S0 W i (by rw [HS6.out]; exact hlt)] at this
                exact this
              have hti : decide ((i : Int) < 6) = true := by simp; omega
              have hi6i : (i : Int) < 6 := by omega
              have hi0i : (0 : Int) ≤ (i : Int) := by omega
              have HCE : Hid (∀ X, St w X b A1 A2 (suF S0 6) (dW S0 W) W → X.cell? ⟨A1, i, none⟩ = some (.string (S0.getD i ByteArray.empty))) := fun X hX => by
                have := hX.cell i hlt
                rw [suF_get S0 6 i hlt] at this
                exact this
              generalize S0.getD i ByteArray.empty = x at HSU HCE
              have HSD := Lib.hid (HS.out.below ((Below.refl _ _).drew))
              clear HS
              go_wp2_with fail
              go_region_held3 (fun X => X.cell? ⟨A1, i, none⟩ = some (.string x)) ((first | exact HCE.out _ HSD.out | exact HCE.out _ (Hid.out (by assumption)))) ((go_at_call 17; (with_reducible refine (HSU.out _ HSD.out).mono ?_); rintro e w6 ⟨rfl, hb⟩; have HS6' := Lib.hid (HSD.out.below hb); clear hb))
              go_wp2
              go_roundw
              case rel =>
                first
                  | exact ⟨i + 1, by omega, by go_num, HS6'⟩
                  | (repeat apply Exists.intro
                     exact ⟨⟨i + 1, by omega, by go_num, HS6'⟩, rfl⟩)
              case measure => simp [intOf]; omega
            · have HEN := Lib.hid (HS.out.ends (by show W.length ≤ 1000000; omega) K (.slice ka kl kc) HK.out (by have := HKL.out; omega))
              rw [(dW_settle S0 W).1, (dW_settle S0 W).2] at HEN
              have HCRD : Hid (crashD (dW S0 W) K = ⟨ap (keepF K) S0 W W.length, [], -1, false⟩) := rfl
              rw [HCRD.out] at HEN
              have HA := Lib.hid (fun i => ap_from (keepF K) S0 W HOKD.out i W.length (Nat.le_refl _))
              have HB := Lib.hid (fun i => ap_last S0 W HOKD.out i W.length (Nat.le_refl _))
              have HAl : Hid ((ap (keepF K) S0 W W.length).length = 6) := by unfold Hid; rw [ap_length]; exact HS6.out
              have HBl : Hid ((ap allF S0 W W.length).length = 6) := by unfold Hid; rw [ap_length]; exact HS6.out
              rw [List.take_length] at HB
              generalize ap (keepF K) S0 W W.length = Sc at HEN HA HAl
              generalize ap allF S0 W W.length = Sa at HEN HB HBl
              clear HS HCRD HOKD HST
              go_wp2_with fail
              refine HEN.out.mono ?_
              rintro e w5 ⟨c, rfl, hE⟩
              have HE := Lib.hid hE
              clear hE HEN
              go_wp2_with fail
              refine HE.out.mono ?_
              rintro e w6 ⟨rfl, hE⟩
              have HE2 := Lib.hid hE
              clear hE HE
              go_wp2_with fail
              refine HE2.out.mono ?_
              rintro e w7 ⟨rfl, hF⟩
              have HF0 := Lib.hid hF
              clear hF HE2
              go_wp2
              go_loopw [16] (fun s16 w8 => ∃ i : Nat, i ≤ 6 ∧ s16 = .int .i64 i ∧ Hid (Fi w w8 b c A1 A2 (suF S0 6) ⟨Sc, [], -1, false⟩ ⟨Sa, [], -1, false⟩ W)) (fun s16 _ => 6 - (intOf s16).toNat)
              case atStart => exact ⟨0, by omega, rfl, HF0⟩
              case round =>
                obtain ⟨i, hi, rfl, HF⟩ := hrel
                by_cases hlt : i < 6
                · have hi6i : (i : Int) < 6 := by omega
                  have hi0i : (0 : Int) ≤ (i : Int) := by omega
                  have hti : decide ((i : Int) < 6) = true := by simp; omega
                  have HR1 : Hid (∀ X, Fi w X b c A1 A2 (suF S0 6) ⟨Sc, [], -1, false⟩ ⟨Sa, [], -1, false⟩ W → Calls Try.prog 22 #[.pointer (some ⟨b, 0, none⟩), .int .i64 (i : Int)] X fun e w' => e = .returned (.tuple #[.string (Sc.getD i ByteArray.empty), .int .i64 0]) ∧ Below X.heap.size X w') := fun X hX => by
                    obtain ⟨F, H, G, vs, h1, h2, h3⟩ := hX.ex
                    have := read22 h1 (i : Int) (by simp)
                    rw [(read_plain Sc i (by rw [HAl.out]; exact hlt)).1, (read_plain Sc i (by rw [HAl.out]; exact hlt)).2.1] at this
                    exact this
                  have HR2 : Hid (∀ X, Fi w X b c A1 A2 (suF S0 6) ⟨Sc, [], -1, false⟩ ⟨Sa, [], -1, false⟩ W → Calls Try.prog 22 #[.pointer (some ⟨c, 0, none⟩), .int .i64 (i : Int)] X fun e w' => e = .returned (.tuple #[.string (Sa.getD i ByteArray.empty), .int .i64 0]) ∧ Below X.heap.size X w') := fun X hX => by
                    obtain ⟨F, H, G, vs, h1, h2, h3⟩ := hX.ex
                    have := read22 h2 (i : Int) (by simp)
                    rw [(read_plain Sa i (by rw [HBl.out]; exact hlt)).1, (read_plain Sa i (by rw [HBl.out]; exact hlt)).2.1] at this
                    exact this
                  have HR3 : Hid (∀ X, Fi w X b c A1 A2 (suF S0 6) ⟨Sc, [], -1, false⟩ ⟨Sa, [], -1, false⟩ W → Calls Try.prog 17 #[.pointer (some ⟨b, 0, none⟩), .int .i64 (i : Int)] X fun e w' => e = .returned (.string (Sc.getD i ByteArray.empty)) ∧ Below X.heap.size X w') := fun X hX => by
                    obtain ⟨F, H, G, vs, h1, h2, h3⟩ := hX.ex
                    have := sure17 h1 (i : Int)
                    rw [(read_plain Sc i (by rw [HAl.out]; exact hlt)).2.2] at this
                    exact this
                  have HCE : Hid (∀ X, Fi w X b c A1 A2 (suF S0 6) ⟨Sc, [], -1, false⟩ ⟨Sa, [], -1, false⟩ W → X.cell? ⟨A1, i, none⟩ = some (.string (S0.getD i ByteArray.empty)) ∧ ∃ G vs, Wr X G A2 W vs) := fun X hX => by
                    obtain ⟨F, H, G, vs, h1, h2, h3⟩ := hX.ex
                    have := cell_row hX.su (rowF_get _ _ hlt)
                    rw [suF_get S0 6 i hlt] at this
                    exact ⟨this, G, vs, h3⟩
                  have HFND := Lib.hid (fd_end (Sc.getD i ByteArray.empty) (S0.getD i ByteArray.empty) (wl W i) (HA.out i))
                  have HLST := Lib.hid (HB.out i)
                  have HRL := Lib.hid (wl_len W i)
                  generalize Sc.getD i ByteArray.empty = s at HR1 HR3 HFND
                  generalize Sa.getD i ByteArray.empty = tt at HR2 HLST
                  generalize S0.getD i ByteArray.empty = x at HCE HFND HLST
                  go_wp2_with fail
                  refine (HR1.out _ HF.out).mono ?_
                  rintro e w9 ⟨rfl, hb⟩
                  have HF9 := Lib.hid (HF.out.below hb)
                  clear hb HF HR1
                  go_wp2_with fail
                  refine (HR2.out _ HF9.out).mono ?_
                  rintro e w10 ⟨rfl, hb⟩
                  have HF10 := Lib.hid (HF9.out.below hb)
                  clear hb HF9 HR2
                  obtain ⟨cx, G, vs, hWr⟩ := HCE.out _ HF10.out
                  obtain ⟨va, vc, hvs⟩ := row_slice (hWr.own i hlt)
                  have cA := hWr.cell i hlt
                  rw [hvs] at cA
                  have HOWN : Hid (w10.ownsRow 0 9 1 (.slice va (wl W i).length vc) (wl W i).length (strs (wl W i))) := by
                    have := hWr.own i hlt
                    rw [hvs] at this
                    exact this
                  generalize wl W i = R at HFND HLST HRL cA HOWN
                  obtain ⟨q0, hq0⟩ : ∃ q0, (s.toList == x.toList) = q0 := ⟨_, rfl⟩
                  have HQ0 : Hid (fd s x R 0 = q0) := by unfold Hid; rw [fd_zero]; exact hq0
                  have hR150 : R.length ≤ 150 := by have := HRL.out; omega
                  clear hWr hvs HCE HA HB
                  go_wp2
                  clear hq0
                  go_loop [21, 22] (fun s21 s22 => ∃ (k : Nat) (q : Bool), k ≤ R.length ∧ s22 = .int .i64 k ∧ s21 = .bool q ∧ Hid (fd s x R k = q)) (fun _ s22 => R.length - (intOf s22).toNat)
                  case atStart => exact ⟨0, q0, by omega, rfl, rfl, HQ0⟩
                  case round =>
                    obtain ⟨k, q, hk, rfl, rfl, HQ⟩ := hrel
                    by_cases hlk : k < R.length
                    · obtain ⟨g, vc', hv⟩ := row_some HOWN.out (by omega)
                      injection hv with hv1 hv2 hv3
                      subst hv1
                      have ck := HOWN.out.cellAt k (by omega)
                      have HSC := Lib.hid (fd_succ s x R k hlk)
                      have ek : (strs R)[k]? = some (.string R[k]) := by simp [strs, hlk]
                      rw [ek] at ck
                      generalize R[k] = rr at ck HSC
                      rw [HQ.out] at HSC
                      clear ek hv2 hv3
                      cases q with
                      | true =>
                        have HQ2 : Hid (fd s x R (k + 1) = true) := by unfold Hid; rw [HSC.out]; rfl
                        clear HSC HQ
                        go_wp2
                        go_round
                        case rel => exact ⟨k + 1, true, by omega, by go_num, rfl, HQ2⟩
                        case measure => simp [intOf]; omega
                      | false =>
                        obtain ⟨q', hq'⟩ : ∃ q', (s.toList == rr.toList) = q' := ⟨_, rfl⟩
                        have HQ2 : Hid (fd s x R (k + 1) = q') := by unfold Hid; rw [HSC.out, hq']; rfl
                        clear HSC HQ
                        go_wp2
                        go_round
                        case rel => exact ⟨k + 1, q', by omega, by go_num, rfl, HQ2⟩
                        case measure => simp [intOf]; omega
                    · have hkR : k = R.length := by omega
                      have eq : q = true := by rw [← HQ.out, hkR]; exact HFND.out
                      subst eq
                      clear hkR HQ HFND HQ0
                      by_cases hR0 : R.length = 0
                      · have e0 : R = [] := List.length_eq_zero_iff.1 hR0
                        subst e0
                        have et : tt = x := by rw [HLST.out]; rfl
                        subst et
                        clear HLST
                        have HF11 := Lib.hid (HF10.out.below (Below.refl _ _))
                        go_wp2_with fail
                        refine (HR3.out _ HF11.out).mono ?_
                        rintro e w11 ⟨rfl, hb⟩
                        have HF12 := Lib.hid (HF11.out.below hb)
                        clear hb HF11 HF10 HR3
                        go_wp2
                        go_roundw
                        case rel =>
                          first
                            | exact ⟨i + 1, by omega, by go_num, HF12⟩
                            | (repeat apply Exists.intro
                               exact ⟨⟨i + 1, by omega, by go_num, HF12⟩, rfl⟩)
                        case measure => simp [intOf]; omega
                      · obtain ⟨p, hp⟩ : ∃ p, R.length = p + 1 := ⟨R.length - 1, by omega⟩
                        obtain ⟨g, vc', hv⟩ := row_some HOWN.out (by omega)
                        injection hv with hv1 hv2 hv3
                        subst hv1
                        have ck := HOWN.out.cellAt p (by omega)
                        have ek : (strs R)[p]? = some (.string tt) := by
                          have hpl : p < R.length := by omega
                          rw [HLST.out, List.getLast?_eq_getElem?, show R.length - 1 = p by omega, List.getElem?_eq_getElem hpl]
                          simp [strs, hpl]
                        rw [ek] at ck
                        have t0 : decide ((0 : Int) < (R.length : Int)) = true := by simp; omega
                        have t0' : decide (0 < R.length) = true := by simp; omega
                        have HBD : Hid (∀ j, Below w10.heap.size w10 (w10.drewN j)) := fun j => ⟨rfl, rfl, rfl, Nat.le_refl _, fun _ _ => rfl⟩
                        generalize R.length = rn at hp cA t0 t0' hR150 hk hlk hR0 ⊢
                        subst hp
                        clear ek hv2 hv3 HLST hR0 HOWN HRL
                        go_wp2_with fail
                        go_quiet (fail)
                        have HF11 := Lib.hid (HF10.out.below (HBD.out nq))
                        go_wp2_with fail
                        refine (HR3.out _ HF11.out).mono ?_
                        rintro e w11 ⟨rfl, hb⟩
                        have HF12 := Lib.hid (HF11.out.below hb)
                        clear hb HF11 HF10 HR3
                        go_wp2
                        go_roundw
                        case rel =>
                          first
                            | exact ⟨i + 1, by omega, by go_num, HF12⟩
                            | (repeat apply Exists.intro
                               exact ⟨⟨i + 1, by omega, by go_num, HF12⟩, rfl⟩)
                        case measure => simp [intOf]; omega
                · have HB6 := Lib.hid HF.out.old
                  go_wp2_with fail
                  refine (lives8 _).mono ?_
                  rintro e w9 ⟨rfl, hb⟩
                  have HB7 := Lib.hid (HB6.out.trans (hb.mono HB6.out.size))
                  clear hb
                  go_wp2
                  go_ret
                  exact ⟨rfl, HB7.out⟩

theorem stays4 (L M : List Ac) (K : List Int) (lv mv kv : Value) (w : World) (hL : AcsAt w w.heap.size lv L) (hM : AcsAt w w.heap.size mv M) (hK : IntsAt w w.heap.size kv K) :
    Calls Try.prog 4 #[lv, mv, kv] w fun e w' => e = .returned (.bool true) ∧ Below w.heap.size w w' := by
  by_cases hx : fewB L = false ∨ fewB M = false ∨ 200 < K.length
  · exact stays4_lives L M K lv mv kv w hL hM hK hx
  · have h0 : fewB L = true := by
      cases h : fewB L with
      | true => rfl
      | false => exact absurd (.inl h) hx
    have h1 : fewB M = true := by
      cases h : fewB M with
      | true => rfl
      | false => exact absurd (.inr (.inl h)) hx
    have h2 : ¬ 200 < K.length := fun h => hx (.inr (.inr h))
    exact stays4_go L M K lv mv kv w hL hM hK h0 h1 (by omega)
end Go.Proofs.Ytikbkeckkdkkbaa
