/-
  The law GlobTells, called with any two texts, returns true, and nothing of what was in memory has turned; conditions: the lengths of both.
-/
import Derived.Test.YthjhihpbilaifaaGRefGlob
import Derived.Test.YthjhihpbilaifaaGCat
namespace Go.Proofs.Ythjhihpbilaifaa
open Go.RowKit Go.Proofs.Ythjhihpbilaifaa.Gl

set_option maxHeartbeats 4000000 in
theorem globTells_any (p s : Tx) (w : World) (hp : p.length ≤ 281474976710656) (hs : s.length ≤ 281474976710656) :
    Calls Try.prog 3 #[S p, S s] w fun e w' => e = .returned (.bool true) ∧ Below w.heap.size w w' := by
  unfold S
  go_enter Try.func3, Try.ntmps3
  go_wp2_with fail
  refine (alive_any _).mono ?_
  rintro e w1 ⟨rfl, hb1⟩
  have HB1 := hidden hb1
  clear hb1
  by_cases h1 : p.length ≤ 60
  · have h1' : ¬ (60 : Int) < p.length := by omega
    have h1d : decide ((60 : Int) < p.length) = false := decide_eq_false h1'
    by_cases h2 : s.length ≤ 100
    · have h2' : ¬ (100 : Int) < s.length := by omega
      have h2d : decide ((100 : Int) < s.length) = false := decide_eq_false h2'
      go_wp2_with fail
      refine (match_any p s _ (by omega) (by omega)).mono ?_
      rintro e w2 ⟨rfl, hb2⟩
      have HB2 := hidden (HB1.out.trans (hb2.mono HB1.out.size))
      clear hb2
      obtain ⟨r, hr⟩ : ∃ r, r = hits p s := ⟨_, rfl⟩
      rw [← hr]
      have HR := hidden hr
      clear hr
      go_wp2_with fail
      refine (refGlob_any p s _ (by omega) (by omega)).mono ?_
      rintro e w3 ⟨rfl, hb3⟩
      have HB3 := hidden (HB2.out.trans (hb3.mono HB2.out.size))
      clear hb3
      rw [← HR.out]
      go_wp2_with fail
      go_ret
      exact ⟨by simp, HB3.out⟩
    · have h2' : (100 : Int) < s.length := by omega
      go_wp2_with fail
      go_ret
      exact ⟨rfl, HB1.out⟩
  · have h1' : (60 : Int) < p.length := by omega
    go_wp2_with fail
    go_ret
    exact ⟨rfl, HB1.out⟩

end Go.Proofs.Ythjhihpbilaifaa
