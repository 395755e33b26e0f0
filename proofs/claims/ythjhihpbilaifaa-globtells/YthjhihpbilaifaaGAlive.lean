/-
  What the laws' own example answers: true, in any memory; no condition.
-/
import Derived.Test.YthjhihpbilaifaaGMatch
namespace Go.Proofs.Ythjhihpbilaifaa
open Go.RowKit Go.Proofs.Ythjhihpbilaifaa.Gl

theorem match_is (p s : Tx) (r : Bool) (w : World) (h : hits p s = r) (hp : p.length ≤ 1000000) (hs : s.length ≤ 1000000) :
    Calls Try.prog 10 #[.string ⟨p.toArray⟩, .string ⟨s.toArray⟩] w fun e w' => e = .returned (.bool r) ∧ Below w.heap.size w w' := by
  rw [← h]; exact match_any p s w hp hs
theorem cell_later {w w' : World} {b i : Nat} {v : Value} (hb : Below w.heap.size w w') (h : w.cell? ⟨b, i, none⟩ = some v) : w'.cell? ⟨b, i, none⟩ = some v := by
  have hlt : b < w.heap.size := by
    rcases Nat.lt_or_ge b w.heap.size with h1 | h1
    · exact h1
    · simp [World.cell?, Array.getElem?_eq_none h1] at h
  rw [hb.cell (p := ⟨b, i, none⟩) hlt]; exact h

set_option maxHeartbeats 2000000 in
theorem alive_any (w : World) : Calls Try.prog 9 #[] w fun e w' => e = .returned (.bool true) ∧ Below w.heap.size w w' := by
  go_enter Try.func9, Try.ntmps9
  go_wp2_with fail
  refine (match_is [42, 46, 103, 111] [97, 46, 103, 111] true _ (by decide +kernel) (by decide) (by decide)).mono ?_
  rintro e w1 ⟨rfl, hb1⟩
  have H1 := hidden hb1
  clear hb1
  go_wp2_with fail
  refine (match_is [42] [97, 47, 98] false _ (by decide +kernel) (by decide) (by decide)).mono ?_
  rintro e w2 ⟨rfl, hb2⟩
  have H2 := hidden (H1.out.trans (hb2.mono H1.out.size))
  clear hb2 H1
  go_wp2_with fail
  refine (match_is [91, 33, 97, 45, 99, 93, 63] [100, 120] true _ (by decide +kernel) (by decide) (by decide)).mono ?_
  rintro e w3 ⟨rfl, hb3⟩
  have H3 := hidden (H2.out.trans (hb3.mono H2.out.size))
  clear hb3 H2
  go_wp2_with fail
  go_ret
  exact ⟨rfl, H3.out⟩

end Go.Proofs.Ythjhihpbilaifaa
