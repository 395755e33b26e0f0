
/-
  The law InterSelf answers true at whatever steps, and leaves what lay in memory as it was.
-/
import Derived.Test.YtmbalnjobcgpkaaJLaw
namespace Go.Proofs.Ytmbalnjobcgpkaa
open Go.RowKit Go.Proofs.Ytmbalnjobcgpkaa.Ln Go.Proofs.Ytmbalnjobcgpkaa.Ol

set_option maxRecDepth 3000 in
set_option maxHeartbeats 8000000 in
theorem interSelf_any (vX : Value) (p : List Oq) (vY : Value) (q : List Oq) (w : World) (hX : OpsAt w vX p) (hlX : p.length ≤ 4398046511104) (hfX : Fit p) (hY : OpsAt w vY q) (hlY : q.length ≤ 4398046511104) (hfY : Fit q) :
    Calls Try.prog 5 #[vX, vY] w fun e w' => e = .returned (.bool true) ∧ Below w.heap.size w w' := by
  have HX0 := hidden hX
  have HY0 := hidden hY
  have HB0 := hidden (Below.refl w.heap.size w)
  have HFX := hidden hfX
  obtain ⟨aX, cX, rfl⟩ := hX.shape
  clear hX hfX
  have HFY := hidden hfY
  obtain ⟨aY, cY, rfl⟩ := hY.shape
  clear hY hfY
  go_enter Try.func5, Try.ntmps5
  go_wp2_with fail
  refine (alive14_any _).mono ?_
  rintro e w1 ⟨rfl, hb⟩
  have HX1 := hidden (HX0.out.later hb)
  have HY1 := hidden (HY0.out.later hb)
  have HB1 := hidden (HB0.out.trans (hb.mono HB0.out.size))
  clear hb
  go_wp2_with fail
  refine (few_any _ p w1 HX1.out (by omega)).mono ?_
  rintro e w' ⟨⟨c, rfl⟩, hw⟩
  subst w'
  cases c with
  | false =>
    go_wp2_with fail
    go_ret
    exact ⟨rfl, HB1.out⟩
  | true =>
    go_wp2_with fail
    refine (few_any _ q w1 HY1.out (by omega)).mono ?_
    rintro e w' ⟨⟨c, rfl⟩, hw⟩
    subst w'
    cases c with
    | false =>
      go_wp2_with fail
      go_ret
      exact ⟨rfl, HB1.out⟩
    | true =>
      cases hrtX : right p with
      | false =>
        have HRX := hidden hrtX
        clear hrtX
        go_wp2_with fail
        refine (pright_any _ p w1 HX1.out (by omega) HFX.out).mono ?_
        rw [HRX.out]
        rintro e w2 ⟨rfl, hb⟩
        have HX2 := hidden (HX1.out.later hb)
        have HY2 := hidden (HY1.out.later hb)
        have HB2 := hidden (HB1.out.trans (hb.mono HB1.out.size))
        clear hb
        clear HX1 HY1 HB1
        go_wp2_with fail
        go_ret
        exact ⟨by first | rfl | simp, HB2.out⟩
      | true =>
        have HRX := hidden hrtX
        clear hrtX
        go_wp2_with fail
        refine (pright_any _ p w1 HX1.out (by omega) HFX.out).mono ?_
        rw [HRX.out]
        rintro e w2 ⟨rfl, hb⟩
        have HX2 := hidden (HX1.out.later hb)
        have HY2 := hidden (HY1.out.later hb)
        have HB2 := hidden (HB1.out.trans (hb.mono HB1.out.size))
        clear hb
        clear HX1 HY1 HB1
        cases hrtY : right q with
        | false =>
          have HRY := hidden hrtY
          clear hrtY
          go_wp2_with fail
          refine (pright_any _ q w2 HY2.out (by omega) HFY.out).mono ?_
          rw [HRY.out]
          rintro e w3 ⟨rfl, hb⟩
          have HX3 := hidden (HX2.out.later hb)
          have HY3 := hidden (HY2.out.later hb)
          have HB3 := hidden (HB2.out.trans (hb.mono HB2.out.size))
          clear hb
          clear HX2 HY2 HB2
          go_wp2_with fail
          go_ret
          exact ⟨by first | rfl | simp, HB3.out⟩
        | true =>
          have HRY := hidden hrtY
          clear hrtY
          go_wp2_with fail
          refine (pright_any _ q w2 HY2.out (by omega) HFY.out).mono ?_
          rw [HRY.out]
          rintro e w3 ⟨rfl, hb⟩
          have HX3 := hidden (HX2.out.later hb)
          have HY3 := hidden (HY2.out.later hb)
          have HB3 := hidden (HB2.out.trans (hb.mono HB2.out.size))
          clear hb
          clear HX2 HY2 HB2
          obtain ⟨l, e1, h1⟩ := itr_self HRX.out
          have HE1 := hidden e1
          have HC0 := hidden h1
          have HLL := hidden (show l.length ≤ 4398046511104 by have := itr_len e1; omega)
          obtain ⟨b, hb0⟩ : ∃ b, (itr p q).isSome = b := ⟨_, rfl⟩
          have HB1 := hidden hb0
          have HB2 := hidden (show (itr q p).isSome = b by rw [← hb0]; exact (itr_some HRX.out HRY.out).symm)
          have hbb : (b == b) = true := by simp
          clear e1 h1 hb0
          go_wp2_with fail
          refine (inter_any _ _ p p w3 HX3.out HX3.out (by omega) (by omega) HFX.out HFX.out).mono ?_
          rw [HE1.out]
          rintro e w4 ⟨q1, rfl, ho, hb⟩
          simp only [Option.getD_some, Option.isSome_some] at ho ⊢
          have HX4 := hidden (HX3.out.later hb)
          have HY4 := hidden (HY3.out.later hb)
          have HB4 := hidden (HB3.out.trans (hb.mono HB3.out.size))
          clear hb
          clear HX3 HY3 HB3
          have HL4 := hidden ho
          clear ho
          obtain ⟨q1a, q1n, q1c, rfl⟩ : ∃ a n c, q1 = .slice a n c := by obtain ⟨a, c, e⟩ := HL4.out.shape; exact ⟨_, _, _, e⟩
          go_wp2_with fail
          refine (inter_any _ _ p q w4 HX4.out HY4.out (by omega) (by omega) HFX.out HFY.out).mono ?_
          rw [HB1.out]
          rintro e w5 ⟨q2, rfl, ho, hb⟩
          have HX5 := hidden (HX4.out.later hb)
          have HY5 := hidden (HY4.out.later hb)
          have HL5 := hidden (HL4.out.later hb)
          have HB5 := hidden (HB4.out.trans (hb.mono HB4.out.size))
          clear hb
          clear HX4 HY4 HL4 HB4
          have HM5 := hidden ho
          clear ho
          obtain ⟨q2a, q2n, q2c, rfl⟩ : ∃ a n c, q2 = .slice a n c := by obtain ⟨a, c, e⟩ := HM5.out.shape; exact ⟨_, _, _, e⟩
          go_wp2_with fail
          refine (inter_any _ _ q p w5 HY5.out HX5.out (by omega) (by omega) HFY.out HFX.out).mono ?_
          rw [HB2.out]
          rintro e w6 ⟨q3, rfl, ho, hb⟩
          have HX6 := hidden (HX5.out.later hb)
          have HY6 := hidden (HY5.out.later hb)
          have HL6 := hidden (HL5.out.later hb)
          have HM6 := hidden (HM5.out.later hb)
          have HB6 := hidden (HB5.out.trans (hb.mono HB5.out.size))
          clear hb
          clear HX5 HY5 HL5 HM5 HB5
          have HN6 := hidden ho
          clear ho
          obtain ⟨q3a, q3n, q3c, rfl⟩ : ∃ a n c, q3 = .slice a n c := by obtain ⟨a, c, e⟩ := HN6.out.shape; exact ⟨_, _, _, e⟩
          go_wp2_with fail
          refine (pchanges_any _ l w6 HL6.out HLL.out).mono ?_
          rw [HC0.out]
          rintro e w7 ⟨rfl, hb⟩
          have HX7 := hidden (HX6.out.later hb)
          have HY7 := hidden (HY6.out.later hb)
          have HL7 := hidden (HL6.out.later hb)
          have HM7 := hidden (HM6.out.later hb)
          have HN7 := hidden (HN6.out.later hb)
          have HB7 := hidden (HB6.out.trans (hb.mono HB6.out.size))
          clear hb
          clear HX6 HY6 HL6 HM6 HN6 HB6
          go_wp2_with fail
          go_ret
          exact ⟨by first | rfl | simp, HB7.out⟩

end Go.Proofs.Ytmbalnjobcgpkaa
