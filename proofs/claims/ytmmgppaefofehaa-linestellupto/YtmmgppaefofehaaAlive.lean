/-
  The document's own example holds: the laws' function alive returns true, and nothing of what was in memory has turned; no condition.
-/
import Derived.Test.YtmmgppaefofehaaRef
namespace Go.Proofs.Ytmmgppaefofehaa
open Go.RowKit Go.Proofs.Ytmmgppaefofehaa.Ln

theorem spl_ab : spl (⟨#[97, 10, 98]⟩ : ByteArray).data.toList = [[97, 10], [98]] := by decide
theorem spl_none : spl (⟨#[]⟩ : ByteArray).data.toList = [] := by decide
theorem rt_b : rt (⟨#[98]⟩ : ByteArray).data.toList = true := by decide
theorem wh_ab : wh [[97, 10], [98]] = true := by decide

set_option maxHeartbeats 1000000 in
theorem alive_any (w : World) : Calls Try.prog 8 #[] w fun e w' => e = .returned (.bool true) ∧ Below w.heap.size w w' := by
  go_enter Try.func8, Try.ntmps8
  go_wp2_with fail
  refine (split_any _ _ (by decide)).mono ?_
  rintro e w1 ⟨v, rfl, hown, hb1⟩
  rw [spl_ab] at hown
  have hrow : RowAt w1 v [[97, 10], [98]] := RowAt.of_owns hown
  have Hb1 : Hid (Below w.heap.size w w1) := hb1
  clear hown hb1
  obtain ⟨b, o, cap, rfl, hcap, hb, hc⟩ := hrow.cells (by simp)
  go_wp2_with fail
  refine (split_any _ _ (by decide)).mono ?_
  rintro e w2 ⟨v2, rfl, hown2, hb2⟩
  rw [spl_none] at hown2
  have hrow2 : RowAt w2 v2 [] := RowAt.of_owns hown2
  obtain ⟨ao2, cap2, rfl⟩ := hrow2.shape
  have hrow3 := hrow.later hb2
  have hc0 : w2.cell? ⟨b, o, none⟩ = some (.string ⟨#[97, 10]⟩) := (hb2.cell (p := ⟨b, o, none⟩) hb).trans (hc 0 _ rfl)
  have Hb2 : Hid (Below w.heap.size w w2) := Hb1.out.trans (hb2.mono Hb1.out.size)
  have HR : Hid (RowAt w2 (.slice (some ⟨b, o, none⟩) 2 cap) [[97, 10], [98]]) := hrow3
  clear hown2 hrow2 hrow hrow3 hc hb2
  go_wp2_with fail
  refine (whole_any _ _ _ HR.out (by decide) (by decide)).mono ?_
  rintro e w3 ⟨rfl, hb3⟩
  rw [wh_ab]
  have HR3 : Hid (RowAt w3 (.slice (some ⟨b, o, none⟩) 2 cap) [[97, 10], [98]]) := HR.out.later hb3
  have Hb3 : Hid (Below w.heap.size w w3) := Hb2.out.trans (hb3.mono Hb2.out.size)
  clear hb3
  go_wp2_with fail
  refine (right_any _ _ (by decide)).mono ?_
  rintro e w4 ⟨rfl, rfl⟩
  rw [rt_b]
  go_wp2_with fail
  refine (join_any _ _ _ HR3.out (by decide) (by decide)).mono ?_
  rintro e w5 ⟨rfl, hb5⟩
  have Hb5 : Hid (Below w.heap.size w w5) := Hb3.out.trans (hb5.mono Hb3.out.size)
  clear hb5
  rw [show S ([[97, 10], [98]] : List (List UInt8)).flatten = .string ⟨#[97, 10, 98]⟩ from rfl]
  go_wp2_with fail
  go_ret
  exact ⟨rfl, Hb5.out⟩

end Go.Proofs.Ytmmgppaefofehaa
