/-
  The document's own example holds: the laws' function alive returns true, and nothing of what was in memory has turned; condition: the library's own variables hold what their text lays.
-/
import Derived.Test.YtdlmddeiopdioaaDoorSame
namespace Go.Proofs.YtdlmddeiopdioaaDoor
open Go.RowKit Go.Proofs.YtdlmddeiopdioaaDoor.Nm

theorem read_x12y : read (⟨#[120, 49, 50, 121]⟩ : ByteArray).data.toList 1 = (12, 3, 0) := by decide
theorem ranges_25 : ranges (⟨#[50, 45, 44, 53]⟩ : ByteArray).data.toList = some [(2, -1), (5, 5)] := by decide
theorem has_9 : has [(2, -1), (5, 5)] 9 = true := by decide
theorem has_1 : has [(2, -1), (5, 5)] 1 = false := by decide
theorem itoa_0 : Lib.itoa 0 = [48] := by rw [show (0 : Int) = ((0 : Nat) : Int) from rfl, itoa_pos, dec_small (by omega)]; rfl

set_option maxHeartbeats 1000000 in
theorem alive_any (w : World) (he : Env w) : Calls Tryd.prog 8 #[] w fun e w' => e = .returned (.bool true) ∧ Below w.heap.size w w' := by
  have HE := hidden he
  clear he
  go_enter Tryd.func8, Tryd.ntmps8
  go_wp2_with fail
  refine (read_any _ _ _ (by decide)).mono ?_
  rintro e w1 ⟨rfl, rfl⟩
  rw [read_x12y]
  unfold R3
  go_wp2_with fail
  refine (ranges_any _ _ HE.out (by decide)).mono ?_
  rintro e w2 ⟨u, rfl, hr, hb2⟩
  rw [ranges_25] at hr ⊢
  have HR := hidden hr
  obtain ⟨ao, cap, rfl⟩ := hr.shape
  have HB2 := hidden hb2
  have HE2 := hidden (HE.out.on hb2)
  clear hr hb2 HE
  go_wp2_with fail
  refine (put_any 0 _ HE2.out (by omega) (by omega)).mono ?_
  rintro e w3 ⟨rfl, hb3⟩
  rw [itoa_0]
  have HR3 := hidden (HR.out.later hb3)
  have HB3 := hidden (HB2.out.trans (hb3.mono HB2.out.size))
  clear HR HB2 HE2 hb3
  unfold S
  go_wp2_with fail
  refine (num_any _ _).mono ?_
  rintro e w4 ⟨rfl, rfl⟩
  go_wp2_with fail
  refine (has_any _ _ _ _ HR3.out (by decide)).mono ?_
  rintro e w5 ⟨rfl, hb5⟩
  have HR5 := hidden (HR3.out.later hb5)
  have HB5 := hidden (HB3.out.trans (hb5.mono HB3.out.size))
  rw [show has (Option.getD (some [(2, -1), (5, 5)]) []) 9 = true from has_9]
  clear HR3 HB3 hb5
  go_wp2_with fail
  refine (has_any _ _ _ _ HR5.out (by decide)).mono ?_
  rintro e w6 ⟨rfl, hb6⟩
  have HB6 := hidden (HB5.out.trans (hb6.mono HB5.out.size))
  rw [show has (Option.getD (some [(2, -1), (5, 5)]) []) 1 = false from has_1]
  clear HR5 HB5 hb6
  go_wp2_with fail
  go_ret
  exact ⟨rfl, HB6.out⟩

end Go.Proofs.YtdlmddeiopdioaaDoor
