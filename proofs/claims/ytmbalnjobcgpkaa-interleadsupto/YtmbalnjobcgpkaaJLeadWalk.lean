
/-
  The law InterLeads answers true at whatever steps and lines of at most 1048576 steps, lines and bytes, and leaves what lay in memory as it was.
-/
import Derived.Test.YtmbalnjobcgpkaaJLaw
namespace Go.Proofs.Ytmbalnjobcgpkaa
open Go.RowKit Go.Proofs.Ytmbalnjobcgpkaa.Ln Go.Proofs.Ytmbalnjobcgpkaa.Ol

set_option maxRecDepth 3000 in
set_option maxHeartbeats 8000000 in
theorem interLeads_any (vX : Value) (p : List Oq) (vY : Value) (q : List Oq) (vO : Value) (old : List Tx) (w : World) (hX : OpsAt w vX p) (hlX : p.length ≤ 1048576) (hfX : Fit p) (hY : OpsAt w vY q) (hlY : q.length ≤ 1048576) (hfY : Fit q) (hO : RowAt w vO old) (hlo : old.length ≤ 1048576) (hno : old.flatten.length ≤ 1048576) :
    Calls Try.prog 4 #[vX, vY, vO] w fun e w' => e = .returned (.bool true) ∧ Below w.heap.size w w' := by
  have HX0 := hidden hX
  have HY0 := hidden hY
  have HO0 := hidden hO
  have HB0 := hidden (Below.refl w.heap.size w)
  have HFX := hidden hfX
  obtain ⟨aX, cX, rfl⟩ := hX.shape
  clear hX hfX
  have HFY := hidden hfY
  obtain ⟨aY, cY, rfl⟩ := hY.shape
  clear hY hfY
  have HNO := hidden hno
  have HFO := hidden (fitT_flat hno)
  obtain ⟨aO, cO, rfl⟩ := hO.shape
  clear hO hno
  go_enter Try.func4, Try.ntmps4
  go_wp2_with fail
  refine (alive14_any _).mono ?_
  rintro e w1 ⟨rfl, hb⟩
  have HX1 := hidden (HX0.out.later hb)
  have HY1 := hidden (HY0.out.later hb)
  have HO1 := hidden (HO0.out.later hb)
  have HB1 := hidden (HB0.out.trans (hb.mono HB0.out.size))
  clear hb
  go_wp2_with fail
  refine (few_any _ p w1 HX1.out (by omega)).mono ?_
  rintro e w' ⟨⟨c, rfl⟩, hw⟩
  subst w'
  cases c with
  | false =>
    go_wp2_with fail
    go_ret
    exact ⟨rfl, HB1.out⟩
  | true =>
    go_wp2_with fail
    refine (few_any _ q w1 HY1.out (by omega)).mono ?_
    rintro e w' ⟨⟨c, rfl⟩, hw⟩
    subst w'
    cases c with
    | false =>
      go_wp2_with fail
      go_ret
      exact ⟨rfl, HB1.out⟩
    | true =>
      go_wp2_with fail
      refine (short_any _ old w1 HO1.out (by omega) (by have := HNO.out; omega)).mono ?_
      rintro e w2 ⟨⟨c, rfl⟩, hb⟩
      have HX2 := hidden (HX1.out.later hb)
      have HY2 := hidden (HY1.out.later hb)
      have HO2 := hidden (HO1.out.later hb)
      have HB2 := hidden (HB1.out.trans (hb.mono HB1.out.size))
      clear hb
      clear HX1 HY1 HO1 HB1
      cases c with
      | false =>
        go_wp2_with fail
        go_ret
        exact ⟨rfl, HB2.out⟩
      | true =>
        obtain ⟨AC, hAC⟩ : ∃ A, (doo p old).getD [] = A := ⟨_, rfl⟩
        have HLC := hidden (show AC.length ≤ 2097152 by have := dooJ_len p old; rw [hAC] at this; omega)
        have HFAC := hidden (show FitT AC by rw [← hAC]; exact dooJ_fit HFX.out HFO.out)
        have HAC := hidden hAC
        clear hAC
        go_wp2_with fail
        refine (pdo_any _ p _ old w2 HX2.out HO2.out (by omega) HFX.out HFO.out).mono ?_
        rintro e w3 ⟨q1, rfl, ho, hb⟩
        rw [HAC.out] at ho
        have HX3 := hidden (HX2.out.later hb)
        have HY3 := hidden (HY2.out.later hb)
        have HO3 := hidden (HO2.out.later hb)
        have HB3 := hidden (HB2.out.trans (hb.mono HB2.out.size))
        clear hb
        clear HX2 HY2 HO2 HB2
        have HC3 := hidden (RowAt.of_owns ho)
        clear ho
        obtain ⟨q1a, q1n, q1c, rfl⟩ : ∃ a n c, q1 = .slice a n c := by obtain ⟨a, c, e⟩ := HC3.out.shape; exact ⟨_, _, _, e⟩
        obtain ⟨bC, hbC⟩ : ∃ b, (doo p old).isSome = b := ⟨_, rfl⟩
        rw [hbC]
        have HSC := hidden hbC
        clear hbC
        obtain ⟨AD, hAD⟩ : ∃ A, (doo q old).getD [] = A := ⟨_, rfl⟩
        have HLD := hidden (show AD.length ≤ 2097152 by have := dooJ_len q old; rw [hAD] at this; omega)
        have HFAD := hidden (show FitT AD by rw [← hAD]; exact dooJ_fit HFY.out HFO.out)
        have HAD := hidden hAD
        clear hAD
        go_wp2_with fail
        refine (pdo_any _ q _ old w3 HY3.out HO3.out (by omega) HFY.out HFO.out).mono ?_
        rintro e w4 ⟨q2, rfl, ho, hb⟩
        rw [HAD.out] at ho
        have HX4 := hidden (HX3.out.later hb)
        have HY4 := hidden (HY3.out.later hb)
        have HO4 := hidden (HO3.out.later hb)
        have HC4 := hidden (HC3.out.later hb)
        have HB4 := hidden (HB3.out.trans (hb.mono HB3.out.size))
        clear hb
        clear HX3 HY3 HO3 HC3 HB3
        have HD4 := hidden (RowAt.of_owns ho)
        clear ho
        obtain ⟨q2a, q2n, q2c, rfl⟩ : ∃ a n c, q2 = .slice a n c := by obtain ⟨a, c, e⟩ := HD4.out.shape; exact ⟨_, _, _, e⟩
        obtain ⟨bD, hbD⟩ : ∃ b, (doo q old).isSome = b := ⟨_, rfl⟩
        rw [hbD]
        have HSD := hidden hbD
        clear hbD
        cases bC with
        | false =>
          go_wp2_with fail
          go_ret
          exact ⟨by first | rfl | simp, HB4.out⟩
        | true =>
          cases bD with
          | false =>
            go_wp2_with fail
            go_ret
            exact ⟨by first | rfl | simp, HB4.out⟩
          | true =>
            obtain ⟨aC, haC⟩ := Option.isSome_iff_exists.1 HSC.out
            obtain rfl : AC = aC := by rw [← HAC.out, haC]; rfl
            have HDC := hidden haC
            have hlC := HLC.out
            obtain ⟨aD, haD⟩ := Option.isSome_iff_exists.1 HSD.out
            obtain rfl : AD = aD := by rw [← HAD.out, haD]; rfl
            have HDD := hidden haD
            have hlD := HLD.out
            obtain ⟨l, e1, r1, d1⟩ := itr_does haC haD (by omega) (by omega)
            obtain ⟨m, e2, r2, d2⟩ := itr_does haD haC (by omega) (by omega)
            have HE1 := hidden e1
            have HE2 := hidden e2
            have HD1 := hidden d1
            have HD2 := hidden d2
            have HLL := hidden (itr_len e1)
            have HLM := hidden (itr_len e2)
            have HFL := hidden (itr_fit HFX.out HFY.out e1)
            have HFM := hidden (itr_fit HFY.out HFX.out e2)
            have HLA := hidden (show AC.length ≤ 4398046511104 by omega)
            have HLB := hidden (show AD.length ≤ 4398046511104 by omega)
            clear haC haD e1 e2 r1 r2 d1 d2
            go_wp2_with fail
            refine (inter_any _ _ p q w4 HX4.out HY4.out (by omega) (by omega) HFX.out HFY.out).mono ?_
            rw [HE1.out]
            rintro e w5 ⟨q3, rfl, ho, hb⟩
            simp only [Option.getD_some, Option.isSome_some] at ho ⊢
            have HX5 := hidden (HX4.out.later hb)
            have HY5 := hidden (HY4.out.later hb)
            have HO5 := hidden (HO4.out.later hb)
            have HC5 := hidden (HC4.out.later hb)
            have HD5 := hidden (HD4.out.later hb)
            have HB5 := hidden (HB4.out.trans (hb.mono HB4.out.size))
            clear hb
            clear HX4 HY4 HO4 HC4 HD4 HB4
            have HL5 := hidden ho
            clear ho
            obtain ⟨q3a, q3n, q3c, rfl⟩ : ∃ a n c, q3 = .slice a n c := by obtain ⟨a, c, e⟩ := HL5.out.shape; exact ⟨_, _, _, e⟩
            go_wp2_with fail
            refine (inter_any _ _ q p w5 HY5.out HX5.out (by omega) (by omega) HFY.out HFX.out).mono ?_
            rw [HE2.out]
            rintro e w6 ⟨q4, rfl, ho, hb⟩
            simp only [Option.getD_some, Option.isSome_some] at ho ⊢
            have HX6 := hidden (HX5.out.later hb)
            have HY6 := hidden (HY5.out.later hb)
            have HO6 := hidden (HO5.out.later hb)
            have HC6 := hidden (HC5.out.later hb)
            have HD6 := hidden (HD5.out.later hb)
            have HL6 := hidden (HL5.out.later hb)
            have HB6 := hidden (HB5.out.trans (hb.mono HB5.out.size))
            clear hb
            clear HX5 HY5 HO5 HC5 HD5 HL5 HB5
            have HM6 := hidden ho
            clear ho
            obtain ⟨q4a, q4n, q4c, rfl⟩ : ∃ a n c, q4 = .slice a n c := by obtain ⟨a, c, e⟩ := HM6.out.shape; exact ⟨_, _, _, e⟩
            go_wp2_with fail
            refine (pdo_any _ l _ AC w6 HL6.out HC6.out (by have := HLL.out; have := HLC.out; omega) HFL.out HFAC.out).mono ?_
            rw [HD1.out]
            rintro e w7 ⟨q5, rfl, ho, hb⟩
            simp only [Option.getD_some, Option.isSome_some] at ho ⊢
            have HX7 := hidden (HX6.out.later hb)
            have HY7 := hidden (HY6.out.later hb)
            have HO7 := hidden (HO6.out.later hb)
            have HC7 := hidden (HC6.out.later hb)
            have HD7 := hidden (HD6.out.later hb)
            have HL7 := hidden (HL6.out.later hb)
            have HM7 := hidden (HM6.out.later hb)
            have HB7 := hidden (HB6.out.trans (hb.mono HB6.out.size))
            clear hb
            clear HX6 HY6 HO6 HC6 HD6 HL6 HM6 HB6
            have HS7 := hidden (RowAt.of_owns ho)
            clear ho
            obtain ⟨q5a, q5n, q5c, rfl⟩ : ∃ a n c, q5 = .slice a n c := by obtain ⟨a, c, e⟩ := HS7.out.shape; exact ⟨_, _, _, e⟩
            go_wp2_with fail
            refine (pdo_any _ m _ AD w7 HM7.out HD7.out (by have := HLM.out; have := HLD.out; omega) HFM.out HFAD.out).mono ?_
            rw [HD2.out]
            rintro e w8 ⟨q6, rfl, ho, hb⟩
            simp only [Option.getD_some, Option.isSome_some] at ho ⊢
            have HX8 := hidden (HX7.out.later hb)
            have HY8 := hidden (HY7.out.later hb)
            have HO8 := hidden (HO7.out.later hb)
            have HC8 := hidden (HC7.out.later hb)
            have HD8 := hidden (HD7.out.later hb)
            have HL8 := hidden (HL7.out.later hb)
            have HM8 := hidden (HM7.out.later hb)
            have HS8 := hidden (HS7.out.later hb)
            have HB8 := hidden (HB7.out.trans (hb.mono HB7.out.size))
            clear hb
            clear HX7 HY7 HO7 HC7 HD7 HL7 HM7 HS7 HB7
            have HT8 := hidden (RowAt.of_owns ho)
            clear ho
            obtain ⟨q6a, q6n, q6c, rfl⟩ : ∃ a n c, q6 = .slice a n c := by obtain ⟨a, c, e⟩ := HT8.out.shape; exact ⟨_, _, _, e⟩
            go_wp2_with fail
            refine (sameTexts_any _ _ AD AD w8 HS8.out HD8.out HLB.out HLB.out).mono ?_
            rw [decide_eq_true (Eq.refl AD)]
            rintro e w9 ⟨rfl, hb⟩
            have HX9 := hidden (HX8.out.later hb)
            have HY9 := hidden (HY8.out.later hb)
            have HO9 := hidden (HO8.out.later hb)
            have HC9 := hidden (HC8.out.later hb)
            have HD9 := hidden (HD8.out.later hb)
            have HL9 := hidden (HL8.out.later hb)
            have HM9 := hidden (HM8.out.later hb)
            have HS9 := hidden (HS8.out.later hb)
            have HT9 := hidden (HT8.out.later hb)
            have HB9 := hidden (HB8.out.trans (hb.mono HB8.out.size))
            clear hb
            clear HX8 HY8 HO8 HC8 HD8 HL8 HM8 HS8 HT8 HB8
            go_wp2_with fail
            refine (sameTexts_any _ _ AC AC w9 HT9.out HC9.out HLA.out HLA.out).mono ?_
            rw [decide_eq_true (Eq.refl AC)]
            rintro e w10 ⟨rfl, hb⟩
            have HX10 := hidden (HX9.out.later hb)
            have HY10 := hidden (HY9.out.later hb)
            have HO10 := hidden (HO9.out.later hb)
            have HC10 := hidden (HC9.out.later hb)
            have HD10 := hidden (HD9.out.later hb)
            have HL10 := hidden (HL9.out.later hb)
            have HM10 := hidden (HM9.out.later hb)
            have HS10 := hidden (HS9.out.later hb)
            have HT10 := hidden (HT9.out.later hb)
            have HB10 := hidden (HB9.out.trans (hb.mono HB9.out.size))
            clear hb
            clear HX9 HY9 HO9 HC9 HD9 HL9 HM9 HS9 HT9 HB9
            go_wp2_with fail
            go_ret
            exact ⟨by first | rfl | simp, HB10.out⟩

end Go.Proofs.Ytmbalnjobcgpkaa
