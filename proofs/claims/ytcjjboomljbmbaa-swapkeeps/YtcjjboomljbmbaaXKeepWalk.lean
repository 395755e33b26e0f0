
/-
  The law SwapKeeps answers true at whatever steps, and leaves what lay in memory as it was.
-/
import Derived.Test.YtcjjboomljbmbaaXLaw
namespace Go.Proofs.Ytcjjboomljbmbaa
open Go.RowKit Go.Proofs.Ytcjjboomljbmbaa.Ln Go.Proofs.Ytcjjboomljbmbaa.Ol

set_option maxRecDepth 3000 in
set_option maxHeartbeats 8000000 in
theorem swapKeeps_any (vX : Value) (p : List Oq) (vY : Value) (q : List Oq) (w : World) (hX : OpsAt w vX p) (hlX : p.length ≤ 4398046511104) (hfX : Fit p) (hY : OpsAt w vY q) (hlY : q.length ≤ 4398046511104) (hfY : Fit q) :
    Calls Try.prog 5 #[vX, vY] w fun e w' => e = .returned (.bool true) ∧ Below w.heap.size w w' := by
  have HX0 := hidden hX
  have HY0 := hidden hY
  have HB0 := hidden (Below.refl w.heap.size w)
  have HFX := hidden hfX
  obtain ⟨aX, cX, rfl⟩ := hX.shape
  clear hX hfX
  have HFY := hidden hfY
  obtain ⟨aY, cY, rfl⟩ := hY.shape
  clear hY hfY
  go_enter Try.func5, Try.ntmps5
  go_wp2_with fail
  refine (alive15_any _).mono ?_
  rintro e w1 ⟨rfl, hb⟩
  have HX1 := hidden (HX0.out.later hb)
  have HY1 := hidden (HY0.out.later hb)
  have HB1 := hidden (HB0.out.trans (hb.mono HB0.out.size))
  clear hb
  go_wp2_with fail
  refine (few_any _ p w1 HX1.out (by omega)).mono ?_
  rintro e w' ⟨⟨c, rfl⟩, hw⟩
  subst w'
  cases c with
  | false =>
    go_wp2_with fail
    go_ret
    exact ⟨rfl, HB1.out⟩
  | true =>
    go_wp2_with fail
    refine (few_any _ q w1 HY1.out (by omega)).mono ?_
    rintro e w' ⟨⟨c, rfl⟩, hw⟩
    subst w'
    cases c with
    | false =>
      go_wp2_with fail
      go_ret
      exact ⟨rfl, HB1.out⟩
    | true =>
      obtain ⟨x, y, c, hr⟩ : ∃ x y c, swp p q = (x, y, c) := ⟨_, _, _, rfl⟩
      have HLx := hidden (show x.length ≤ 4294967296 by have := (swp_len p q).1; rw [hr] at this; exact this)
      have HLy := hidden (show y.length ≤ 4294967296 by have := (swp_len p q).2; rw [hr] at this; exact this)
      have HFx := hidden (show Fit x by have := (swp_fit HFX.out HFY.out).1; rw [hr] at this; exact this)
      have HFy := hidden (show Fit y by have := (swp_fit HFX.out HFY.out).2; rw [hr] at this; exact this)
      have HR := hidden hr
      clear hr
      go_wp2_with fail
      refine (swap_any _ _ p q w1 HX1.out HY1.out hlX hlY HFX.out HFY.out).mono ?_
      rintro e w2 ⟨q1, q2, rfl, ho, ho2, hb⟩
      simp only [HR.out] at ho ho2 ⊢
      have HX2 := hidden (HX1.out.later hb)
      have HY2 := hidden (HY1.out.later hb)
      have HB2 := hidden (HB1.out.trans (hb.mono HB1.out.size))
      clear hb
      clear HX1 HY1 HB1
      have HP2 := hidden ho
      clear ho
      obtain ⟨q1a, q1c, rfl⟩ := HP2.out.shape
      have HQ2 := hidden ho2
      clear ho2
      obtain ⟨q2a, q2c, rfl⟩ := HQ2.out.shape
      go_wp2_with fail
      refine (num15_any _ _).mono ?_
      rintro e w' ⟨rfl, hw⟩
      subst w'
      by_cases hc0 : c = 0
      · subst hc0
        obtain ⟨r, S⟩ := swp_some HR.out
        obtain ⟨k1, k2⟩ := swp_keeps HR.out
        have HK1 := hidden k1
        have HK2 := hidden k2
        have HNP := hidden (show normL p = nrm p by unfold normL; rw [if_pos S.rp])
        have HNQ := hidden (show normL q = nrm q by unfold normL; rw [if_pos S.rq])
        have HLP := hidden (show (nrm p).length ≤ 4398046511104 by have h1 := nfo_len p; unfold nrm; rw [List.length_append]; omega)
        have HLQ := hidden (show (nrm q).length ≤ 4398046511104 by have h1 := nfo_len q; unfold nrm; rw [List.length_append]; omega)
        clear S k1 k2
        go_wp2_with fail
        refine (changes_any _ x w2 HP2.out (by have := HLx.out; omega)).mono ?_
        rintro e w3 ⟨q3, rfl, ho, hb⟩
        have HX3 := hidden (HX2.out.later hb)
        have HY3 := hidden (HY2.out.later hb)
        have HP3 := hidden (HP2.out.later hb)
        have HQ3 := hidden (HQ2.out.later hb)
        have HB3 := hidden (HB2.out.trans (hb.mono HB2.out.size))
        clear hb
        clear HX2 HY2 HP2 HQ2 HB2
        have HAP3 := hidden ho
        clear ho
        obtain ⟨q3a, q3c, rfl⟩ := HAP3.out.shape
        go_wp2_with fail
        refine (pnormR_any _ q w3 HY3.out (by omega) HFY.out).mono ?_
        rintro e w4 ⟨q4, rfl, ho, hb⟩
        rw [HNQ.out] at ho
        have HX4 := hidden (HX3.out.later hb)
        have HY4 := hidden (HY3.out.later hb)
        have HP4 := hidden (HP3.out.later hb)
        have HQ4 := hidden (HQ3.out.later hb)
        have HAP4 := hidden (HAP3.out.later hb)
        have HB4 := hidden (HB3.out.trans (hb.mono HB3.out.size))
        clear hb
        clear HX3 HY3 HP3 HQ3 HAP3 HB3
        have HBP4 := hidden ho
        clear ho
        obtain ⟨q4a, q4c, rfl⟩ := HBP4.out.shape
        go_wp2_with fail
        refine (changes_any _ (nrm q) w4 HBP4.out HLQ.out).mono ?_
        rintro e w5 ⟨q5, rfl, ho, hb⟩
        have HX5 := hidden (HX4.out.later hb)
        have HY5 := hidden (HY4.out.later hb)
        have HP5 := hidden (HP4.out.later hb)
        have HQ5 := hidden (HQ4.out.later hb)
        have HAP5 := hidden (HAP4.out.later hb)
        have HBP5 := hidden (HBP4.out.later hb)
        have HB5 := hidden (HB4.out.trans (hb.mono HB4.out.size))
        clear hb
        clear HX4 HY4 HP4 HQ4 HAP4 HBP4 HB4
        have HCP5 := hidden ho
        clear ho
        obtain ⟨q5a, q5c, rfl⟩ := HCP5.out.shape
        go_wp2_with fail
        refine (psame_any _ _ (x.filter chg) ((nrm q).filter chg) w5 HAP5.out HCP5.out (by have h1 := List.length_filter_le chg x; have := HLx.out; omega) (by have h1 := List.length_filter_le chg (nrm q); have := HLQ.out; omega)).mono ?_
        rw [decide_eq_true HK1.out]
        rintro e w6 ⟨rfl, hb⟩
        have HX6 := hidden (HX5.out.later hb)
        have HY6 := hidden (HY5.out.later hb)
        have HP6 := hidden (HP5.out.later hb)
        have HQ6 := hidden (HQ5.out.later hb)
        have HAP6 := hidden (HAP5.out.later hb)
        have HBP6 := hidden (HBP5.out.later hb)
        have HCP6 := hidden (HCP5.out.later hb)
        have HB6 := hidden (HB5.out.trans (hb.mono HB5.out.size))
        clear hb
        clear HX5 HY5 HP5 HQ5 HAP5 HBP5 HCP5 HB5
        go_wp2_with fail
        refine (changes_any _ y w6 HQ6.out (by have := HLy.out; omega)).mono ?_
        rintro e w7 ⟨q6, rfl, ho, hb⟩
        have HX7 := hidden (HX6.out.later hb)
        have HY7 := hidden (HY6.out.later hb)
        have HP7 := hidden (HP6.out.later hb)
        have HQ7 := hidden (HQ6.out.later hb)
        have HAP7 := hidden (HAP6.out.later hb)
        have HBP7 := hidden (HBP6.out.later hb)
        have HCP7 := hidden (HCP6.out.later hb)
        have HB7 := hidden (HB6.out.trans (hb.mono HB6.out.size))
        clear hb
        clear HX6 HY6 HP6 HQ6 HAP6 HBP6 HCP6 HB6
        have HAQ7 := hidden ho
        clear ho
        obtain ⟨q6a, q6c, rfl⟩ := HAQ7.out.shape
        go_wp2_with fail
        refine (pnormR_any _ p w7 HX7.out (by omega) HFX.out).mono ?_
        rintro e w8 ⟨q7, rfl, ho, hb⟩
        rw [HNP.out] at ho
        have HX8 := hidden (HX7.out.later hb)
        have HY8 := hidden (HY7.out.later hb)
        have HP8 := hidden (HP7.out.later hb)
        have HQ8 := hidden (HQ7.out.later hb)
        have HAP8 := hidden (HAP7.out.later hb)
        have HBP8 := hidden (HBP7.out.later hb)
        have HCP8 := hidden (HCP7.out.later hb)
        have HAQ8 := hidden (HAQ7.out.later hb)
        have HB8 := hidden (HB7.out.trans (hb.mono HB7.out.size))
        clear hb
        clear HX7 HY7 HP7 HQ7 HAP7 HBP7 HCP7 HAQ7 HB7
        have HBQ8 := hidden ho
        clear ho
        obtain ⟨q7a, q7c, rfl⟩ := HBQ8.out.shape
        go_wp2_with fail
        refine (changes_any _ (nrm p) w8 HBQ8.out HLP.out).mono ?_
        rintro e w9 ⟨q8, rfl, ho, hb⟩
        have HX9 := hidden (HX8.out.later hb)
        have HY9 := hidden (HY8.out.later hb)
        have HP9 := hidden (HP8.out.later hb)
        have HQ9 := hidden (HQ8.out.later hb)
        have HAP9 := hidden (HAP8.out.later hb)
        have HBP9 := hidden (HBP8.out.later hb)
        have HCP9 := hidden (HCP8.out.later hb)
        have HAQ9 := hidden (HAQ8.out.later hb)
        have HBQ9 := hidden (HBQ8.out.later hb)
        have HB9 := hidden (HB8.out.trans (hb.mono HB8.out.size))
        clear hb
        clear HX8 HY8 HP8 HQ8 HAP8 HBP8 HCP8 HAQ8 HBQ8 HB8
        have HCQ9 := hidden ho
        clear ho
        obtain ⟨q8a, q8c, rfl⟩ := HCQ9.out.shape
        go_wp2_with fail
        refine (psame_any _ _ (y.filter chg) ((nrm p).filter chg) w9 HAQ9.out HCQ9.out (by have h1 := List.length_filter_le chg y; have := HLy.out; omega) (by have h1 := List.length_filter_le chg (nrm p); have := HLP.out; omega)).mono ?_
        rw [decide_eq_true HK2.out]
        rintro e w10 ⟨rfl, hb⟩
        have HX10 := hidden (HX9.out.later hb)
        have HY10 := hidden (HY9.out.later hb)
        have HP10 := hidden (HP9.out.later hb)
        have HQ10 := hidden (HQ9.out.later hb)
        have HAP10 := hidden (HAP9.out.later hb)
        have HBP10 := hidden (HBP9.out.later hb)
        have HCP10 := hidden (HCP9.out.later hb)
        have HAQ10 := hidden (HAQ9.out.later hb)
        have HBQ10 := hidden (HBQ9.out.later hb)
        have HCQ10 := hidden (HCQ9.out.later hb)
        have HB10 := hidden (HB9.out.trans (hb.mono HB9.out.size))
        clear hb
        clear HX9 HY9 HP9 HQ9 HAP9 HBP9 HCP9 HAQ9 HBQ9 HCQ9 HB9
        go_wp2_with fail
        go_ret
        exact ⟨by first | rfl | simp, HB10.out⟩
      · obtain ⟨z1, z2⟩ := swp_none (p := p) (q := q) (by rw [HR.out]; exact hc0)
        rw [HR.out] at z1 z2
        simp only at z1 z2
        subst z1 z2
        have hcb : (c != 0) = true := by simpa using hc0
        simp only [List.length_nil]
        go_wp2_with fail
        go_ret
        exact ⟨by first | rfl | simp, HB2.out⟩

end Go.Proofs.Ytcjjboomljbmbaa
