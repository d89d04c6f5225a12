import Derived.Test.YtapfhonapejpjaaRJ
import Derived.Test.YtapfhonapejpjaaBack
namespace Go.Proofs.Ytapfhonapejpjaa
open Go.RowKit

set_option maxRecDepth 100000 in
set_option maxHeartbeats 1000000 in
theorem reads4 (s : ByteArray) (w : World) :
    Calls Try.prog 4 #[.string s] w fun e w' => e = .returned (.bool true) ∧ Below w.heap.size w w' := by
  have HL := Lib.hid lives9
  by_cases hs : (5000 : Int) < s.size
  · go_enter Try.func4, Try.ntmps4
    go_wp2_with (go_at_call 9; go_must (refine (HL.out _).mono ?_); rintro e w1 ⟨rfl, hb1⟩)
    go_ret
    exact ⟨rfl, hb1⟩
  have HP := Lib.hid (parse20' s _ _ _ _ _ (pres_eta _))
  have HR := Lib.hid (fun w => refParse21 s w (by omega))
  unfold pVal at HR
  generalize parseR s.data.toList = pr at HP HR
  obtain ⟨k, n, t, a, e⟩ := pr
  simp only at HP HR
  have heq := fun w => eql24 k n t k n t true (by simp) w
  have hb0 := Below.refl w.heap.size w
  go_enter Try.func4, Try.ntmps4
  go_wp2_with fail
  refine (HP.out _).mono ?_
  rintro e1 w1 ⟨rfl, hb1⟩
  replace hb0 := below_alloc (below_next hb0 hb1) (.cells #[.int .i64 k, .int .i64 n, .string t] 24)
  have hV := V1.new w1 k n t
  go_wp2_with fail
  refine (HR.out _).mono ?_
  rintro e2 w2 ⟨rfl, hb2⟩
  replace hb0 := below_alloc (below_next hb0 hb2) (.cells #[.int .i64 k, .int .i64 n, .string t] 24)
  replace hV := hV.step hb2
  have hlt := hV.lt
  obtain ⟨c0, c1, c2⟩ := id hV
  go_wp2_with (go_at_call 9; go_must (refine (HL.out _).mono ?_); rintro e w9 ⟨rfl, hb9⟩)
  go_ret
  exact ⟨rfl, below_next hb0 hb9⟩
end Go.Proofs.Ytapfhonapejpjaa
