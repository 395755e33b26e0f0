
/-
  What the law's own alive answers, and how long steps turned back are; no condition but those that each states.
-/
import Derived.Test.YtebikpdjamnhbaaFFlip
import Derived.Test.YtebikpdjamnhbaaFRef
import Derived.Test.YtebikpdjamnhbaaOLaw
import Derived.Test.YtebikpdjamnhbaaOFacts
namespace Go.Proofs.Ytebikpdjamnhbaa
open Go.RowKit Go.Proofs.Ytebikpdjamnhbaa.Ln Go.Proofs.Ytebikpdjamnhbaa.Ol

def D10 : List Oq := [(3, 0, [97, 10])]

set_option maxHeartbeats 2000000 in
theorem alive10_any (w : World) : Calls Try.prog 7 #[] w fun e w' => e = .returned (.bool true) ∧ Below w.heap.size w w' := by
  have HF := hidden (fit_of (xs := D10) rfl)
  have HF0 := hidden (fit_of (xs := []) rfl)
  have HL0 := hidden (show OpsAt (w.alloc (opO 3 0 [97, 10])) (.slice (some ⟨w.heap.size, 0, none⟩) 1 1) D10 from ops_one _ _ _ _)
  have HB0 := hidden (bel_alloc (Below.refl w.heap.size w) (opO 3 0 [97, 10]))
  have hoo : opO 3 0 [97, 10] = .cells #[.int .i64 3, .int .i64 0, .string ⟨#[97, 10]⟩] 36 := rfl
  rw [hoo] at HL0 HB0
  clear hoo
  go_enter Try.func7, Try.ntmps7
  go_wp2_with fail
  generalize World.alloc w _ = w0 at HL0 HB0 ⊢
  refine (flip_any _ D10 w0 HL0.out (by simp [D10]) HF.out).mono ?_
  rw [show flN D10 = [(4, 0, [97, 10])] by decide]
  rintro e w1 ⟨q, rfl, ho, hb⟩
  obtain ⟨b, o, cap, rfl, hcap, hbl, hc⟩ := ho.cells (by simp)
  obtain ⟨c1, c2, c3⟩ := hc 0 _ rfl
  simp only [List.length_cons, List.length_nil, Nat.zero_add, Nat.zero_mul, Nat.add_zero] at hcap c1 c2 c3 ⊢
  have HB1 := hidden (HB0.out.trans (hb.mono HB0.out.size))
  clear hb ho hc c2 c3
  go_wp2_with fail
  refine (flip_any _ [] w1 (OpsAt.nil _ _ _) (by simp) HF0.out).mono ?_
  rw [show flN [] = [] by decide]
  rintro e w2 ⟨q2, rfl, ho, hb⟩
  obtain ⟨a2, p2, e2⟩ := ho.shape
  simp only [List.length_nil] at e2
  subst e2
  have HB2 := hidden (HB1.out.trans (hb.mono HB1.out.size))
  have d1 := (hb.cell (p := ⟨b, o, none⟩) hbl).trans c1
  clear hb ho c1
  go_wp2_with fail
  go_ret
  exact ⟨by first | rfl | simp, HB2.out⟩

theorem flN_len (l : List Oq) : (flN l).length ≤ l.length := by
  unfold flN
  split
  · have := nfo_len (flp l)
    rw [flp_len] at this
    unfold nrm; rw [List.length_append]; exact this
  · simp
theorem fit_flN {l : List Oq} (h : Fit l) : Fit (flN l) := by
  unfold flN
  split
  · intro y hy
    obtain ⟨x, hx, e⟩ := nrm_text (flp l) y hy
    rw [e]
    exact fit_flp' h x hx
  · intro y hy; cases hy

end Go.Proofs.Ytebikpdjamnhbaa
