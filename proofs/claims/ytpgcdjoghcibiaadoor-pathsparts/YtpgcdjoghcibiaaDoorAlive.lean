/-
  The document's own example holds: the laws' function alive returns true, and nothing of what was in memory has turned; condition: a cell of the library's holds an int.
-/
import Derived.Test.YtpgcdjoghcibiaaDoorNames
namespace Go.Proofs.YtpgcdjoghcibiaaDoor
open Go.RowKit Go.Proofs.YtpgcdjoghcibiaaDoor.Nm

theorem strip_abc : strip (1 : Int).toNat (⟨#[97, 47, 98, 47, 99]⟩ : ByteArray).data.toList = [98, 47, 99] := by decide
theorem parts_ab : parts (⟨#[47, 97, 47, 47, 98, 47]⟩ : ByteArray).data.toList = [[97], [98]] := by decide
theorem base_ab : base (⟨#[97, 47, 98]⟩ : ByteArray).data.toList = [98] := by decide

set_option maxHeartbeats 1000000 in
theorem alive_any (w : World) (he : Env w) : Calls Tryd.prog 7 #[] w fun e w' => e = .returned (.bool true) ∧ Below w.heap.size w w' := by
  have HE := hidden he
  clear he
  go_enter Tryd.func7, Tryd.ntmps7
  go_wp2_with fail
  refine (strip_any _ _ _ (by decide) (by decide)).mono ?_
  rintro e w1 ⟨rfl, hb1⟩
  rw [strip_abc]
  unfold S
  have HB1 := hidden hb1
  have HE1 := hidden (HE.out.on hb1)
  clear hb1 HE
  go_wp2_with fail
  refine (parts_any _ _ HE1.out (by decide)).mono ?_
  rintro e w2 ⟨u, rfl, hr, hb2⟩
  rw [parts_ab] at hr
  obtain ⟨ao, cap, rfl⟩ := hr.shape
  have HB2 := hidden (HB1.out.trans (hb2.mono HB1.out.size))
  clear hr hb2 HB1 HE1
  go_wp2_with fail
  refine (base_any _ _ (by decide)).mono ?_
  rintro e w3 ⟨rfl, hb3⟩
  rw [base_ab]
  unfold S
  have HB3 := hidden (HB2.out.trans (hb3.mono HB2.out.size))
  clear hb3 HB2
  go_wp2_with fail
  go_ret
  exact ⟨rfl, HB3.out⟩

end Go.Proofs.YtpgcdjoghcibiaaDoor
