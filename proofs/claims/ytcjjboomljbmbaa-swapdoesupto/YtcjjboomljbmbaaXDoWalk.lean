
/-
  The law SwapDoes answers true at whatever steps and lines of at most 1048576 steps, lines and bytes, and leaves what lay in memory as it was.
-/
import Derived.Test.YtcjjboomljbmbaaXLaw
namespace Go.Proofs.Ytcjjboomljbmbaa
open Go.RowKit Go.Proofs.Ytcjjboomljbmbaa.Ln Go.Proofs.Ytcjjboomljbmbaa.Ol

set_option maxRecDepth 3000 in
set_option maxHeartbeats 8000000 in
theorem swapDoes_any (vX : Value) (p : List Oq) (vY : Value) (q : List Oq) (vO : Value) (old : List Tx) (w : World) (hX : OpsAt w vX p) (hlX : p.length ≤ 1048576) (hfX : Fit p) (hY : OpsAt w vY q) (hlY : q.length ≤ 1048576) (hfY : Fit q) (hO : RowAt w vO old) (hlo : old.length ≤ 1048576) (hno : old.flatten.length ≤ 1048576) :
    Calls Try.prog 4 #[vX, vY, vO] w fun e w' => e = .returned (.bool true) ∧ Below w.heap.size w w' := by
  have HX0 := hidden hX
  have HY0 := hidden hY
  have HO0 := hidden hO
  have HB0 := hidden (Below.refl w.heap.size w)
  have HFX := hidden hfX
  obtain ⟨aX, cX, rfl⟩ := hX.shape
  clear hX hfX
  have HFY := hidden hfY
  obtain ⟨aY, cY, rfl⟩ := hY.shape
  clear hY hfY
  have HNO := hidden hno
  have HFO := hidden (fitT_flat hno)
  obtain ⟨aO, cO, rfl⟩ := hO.shape
  clear hO hno
  go_enter Try.func4, Try.ntmps4
  go_wp2_with fail
  refine (alive15_any _).mono ?_
  rintro e w1 ⟨rfl, hb⟩
  have HX1 := hidden (HX0.out.later hb)
  have HY1 := hidden (HY0.out.later hb)
  have HO1 := hidden (HO0.out.later hb)
  have HB1 := hidden (HB0.out.trans (hb.mono HB0.out.size))
  clear hb
  go_wp2_with fail
  refine (few_any _ p w1 HX1.out (by omega)).mono ?_
  rintro e w' ⟨⟨c, rfl⟩, hw⟩
  subst w'
  cases c with
  | false =>
    go_wp2_with fail
    go_ret
    exact ⟨rfl, HB1.out⟩
  | true =>
    go_wp2_with fail
    refine (few_any _ q w1 HY1.out (by omega)).mono ?_
    rintro e w' ⟨⟨c, rfl⟩, hw⟩
    subst w'
    cases c with
    | false =>
      go_wp2_with fail
      go_ret
      exact ⟨rfl, HB1.out⟩
    | true =>
      go_wp2_with fail
      refine (short_any _ old w1 HO1.out (by omega) (by have := HNO.out; omega)).mono ?_
      rintro e w2 ⟨⟨c, rfl⟩, hb⟩
      have HX2 := hidden (HX1.out.later hb)
      have HY2 := hidden (HY1.out.later hb)
      have HO2 := hidden (HO1.out.later hb)
      have HB2 := hidden (HB1.out.trans (hb.mono HB1.out.size))
      clear hb
      clear HX1 HY1 HO1 HB1
      cases c with
      | false =>
        go_wp2_with fail
        go_ret
        exact ⟨rfl, HB2.out⟩
      | true =>
        obtain ⟨AC, hAC⟩ : ∃ A, (doo p old).getD [] = A := ⟨_, rfl⟩
        have HLC := hidden (show AC.length ≤ 2097152 by have := dooX_len p old; rw [hAC] at this; omega)
        have HFAC := hidden (show FitT AC by rw [← hAC]; exact dooX_fit HFX.out HFO.out)
        have HAC := hidden hAC
        clear hAC
        go_wp2_with fail
        refine (pdo_any _ p _ old w2 HX2.out HO2.out (by omega) HFX.out HFO.out).mono ?_
        rintro e w3 ⟨q1, rfl, ho, hb⟩
        rw [HAC.out] at ho
        have HX3 := hidden (HX2.out.later hb)
        have HY3 := hidden (HY2.out.later hb)
        have HO3 := hidden (HO2.out.later hb)
        have HB3 := hidden (HB2.out.trans (hb.mono HB2.out.size))
        clear hb
        clear HX2 HY2 HO2 HB2
        have HC3 := hidden (RowAt.of_owns ho)
        clear ho
        obtain ⟨q1a, q1n, q1c, rfl⟩ : ∃ a n c, q1 = .slice a n c := by obtain ⟨a, c, e⟩ := HC3.out.shape; exact ⟨_, _, _, e⟩
        obtain ⟨bC, hbC⟩ : ∃ b, (doo p old).isSome = b := ⟨_, rfl⟩
        rw [hbC]
        have HSC := hidden hbC
        clear hbC
        obtain ⟨AD, hAD⟩ : ∃ A, (doo q AC).getD [] = A := ⟨_, rfl⟩
        have HLD := hidden (show AD.length ≤ 3145728 by have := dooX_len q AC; rw [hAD] at this; have := HLC.out; omega)
        have HFAD := hidden (show FitT AD by rw [← hAD]; exact dooX_fit HFY.out HFAC.out)
        have HAD := hidden hAD
        clear hAD
        go_wp2_with fail
        refine (pdo_any _ q _ AC w3 HY3.out HC3.out (by have := HLC.out; omega) HFY.out HFAC.out).mono ?_
        rintro e w4 ⟨q2, rfl, ho, hb⟩
        rw [HAD.out] at ho
        have HX4 := hidden (HX3.out.later hb)
        have HY4 := hidden (HY3.out.later hb)
        have HO4 := hidden (HO3.out.later hb)
        have HC4 := hidden (HC3.out.later hb)
        have HB4 := hidden (HB3.out.trans (hb.mono HB3.out.size))
        clear hb
        clear HX3 HY3 HO3 HC3 HB3
        have HD4 := hidden (RowAt.of_owns ho)
        clear ho
        obtain ⟨q2a, q2n, q2c, rfl⟩ : ∃ a n c, q2 = .slice a n c := by obtain ⟨a, c, e⟩ := HD4.out.shape; exact ⟨_, _, _, e⟩
        obtain ⟨bD, hbD⟩ : ∃ b, (doo q AC).isSome = b := ⟨_, rfl⟩
        rw [hbD]
        have HSD := hidden hbD
        clear hbD
        obtain ⟨x, y, c, hr⟩ : ∃ x y c, swp p q = (x, y, c) := ⟨_, _, _, rfl⟩
        have HLx := hidden (show x.length ≤ 4294967296 by have := (swp_len p q).1; rw [hr] at this; exact this)
        have HLy := hidden (show y.length ≤ 4294967296 by have := (swp_len p q).2; rw [hr] at this; exact this)
        have HFx := hidden (show Fit x by have := (swp_fit HFX.out HFY.out).1; rw [hr] at this; exact this)
        have HFy := hidden (show Fit y by have := (swp_fit HFX.out HFY.out).2; rw [hr] at this; exact this)
        have HR := hidden hr
        clear hr
        go_wp2_with fail
        refine (swap_any _ _ p q w4 HX4.out HY4.out (by omega) (by omega) HFX.out HFY.out).mono ?_
        rintro e w5 ⟨q3, q4, rfl, ho, ho2, hb⟩
        simp only [HR.out] at ho ho2 ⊢
        have HX5 := hidden (HX4.out.later hb)
        have HY5 := hidden (HY4.out.later hb)
        have HO5 := hidden (HO4.out.later hb)
        have HC5 := hidden (HC4.out.later hb)
        have HD5 := hidden (HD4.out.later hb)
        have HB5 := hidden (HB4.out.trans (hb.mono HB4.out.size))
        clear hb
        clear HX4 HY4 HO4 HC4 HD4 HB4
        have HP5 := hidden ho
        clear ho
        obtain ⟨q3a, q3c, rfl⟩ := HP5.out.shape
        have HQ5 := hidden ho2
        clear ho2
        obtain ⟨q4a, q4c, rfl⟩ := HQ5.out.shape
        cases bC with
        | false =>
          go_wp2_with fail
          go_ret
          exact ⟨by first | rfl | simp, HB5.out⟩
        | true =>
          cases bD with
          | false =>
            go_wp2_with fail
            go_ret
            exact ⟨by first | rfl | simp, HB5.out⟩
          | true =>
            obtain ⟨aC, haC⟩ := Option.isSome_iff_exists.1 HSC.out
            obtain rfl : AC = aC := by rw [← HAC.out, haC]; rfl
            obtain ⟨aD, haD⟩ := Option.isSome_iff_exists.1 HSD.out
            obtain rfl : AD = aD := by rw [← HAD.out, haD]; rfl
            have hlC := HLC.out
            have hlD := HLD.out
            have hc07 : c = 0 ∨ c = 7 := by have := swp_fits haC haD (by omega) (by omega); rw [HR.out] at this; exact this
            go_wp2_with fail
            refine (num15_any _ _).mono ?_
            rintro e w' ⟨rfl, hw⟩
            subst w'
            by_cases hc0 : c = 0
            · subst hc0
              obtain ⟨cc, h1, h2⟩ := swp_does HR.out haC haD
              have HD1 := hidden h1
              have HD2 := hidden h2
              have HLC2 := hidden (show cc.length ≤ 4296015872 by have := doo_len h1; have := HLx.out; omega)
              have HFCC := hidden (doo_fit HFx.out HFO.out h1)
              clear haC haD h1 h2 hc07
              go_wp2_with fail
              refine (pdo_any _ x _ old w5 HP5.out HO5.out (by have := HLx.out; omega) HFx.out HFO.out).mono ?_
              rw [HD1.out]
              rintro e w6 ⟨q5, rfl, ho, hb⟩
              simp only [Option.getD_some, Option.isSome_some] at ho ⊢
              have HX6 := hidden (HX5.out.later hb)
              have HY6 := hidden (HY5.out.later hb)
              have HO6 := hidden (HO5.out.later hb)
              have HC6 := hidden (HC5.out.later hb)
              have HD6 := hidden (HD5.out.later hb)
              have HP6 := hidden (HP5.out.later hb)
              have HQ6 := hidden (HQ5.out.later hb)
              have HB6 := hidden (HB5.out.trans (hb.mono HB5.out.size))
              clear hb
              clear HX5 HY5 HO5 HC5 HD5 HP5 HQ5 HB5
              have HS6 := hidden (RowAt.of_owns ho)
              clear ho
              obtain ⟨q5a, q5n, q5c, rfl⟩ : ∃ a n c, q5 = .slice a n c := by obtain ⟨a, c, e⟩ := HS6.out.shape; exact ⟨_, _, _, e⟩
              go_wp2_with fail
              refine (pdo_any _ y _ cc w6 HQ6.out HS6.out (by have := HLy.out; have := HLC2.out; omega) HFy.out HFCC.out).mono ?_
              rw [HD2.out]
              rintro e w7 ⟨q6, rfl, ho, hb⟩
              simp only [Option.getD_some, Option.isSome_some] at ho ⊢
              have HX7 := hidden (HX6.out.later hb)
              have HY7 := hidden (HY6.out.later hb)
              have HO7 := hidden (HO6.out.later hb)
              have HC7 := hidden (HC6.out.later hb)
              have HD7 := hidden (HD6.out.later hb)
              have HP7 := hidden (HP6.out.later hb)
              have HQ7 := hidden (HQ6.out.later hb)
              have HS7 := hidden (HS6.out.later hb)
              have HB7 := hidden (HB6.out.trans (hb.mono HB6.out.size))
              clear hb
              clear HX6 HY6 HO6 HC6 HD6 HP6 HQ6 HS6 HB6
              have HT7 := hidden (RowAt.of_owns ho)
              clear ho
              obtain ⟨q6a, q6n, q6c, rfl⟩ : ∃ a n c, q6 = .slice a n c := by obtain ⟨a, c, e⟩ := HT7.out.shape; exact ⟨_, _, _, e⟩
              go_wp2_with fail
              refine (sameTexts_any _ _ AD AD w7 HD7.out HT7.out (by have := HLD.out; omega) (by have := HLD.out; omega)).mono ?_
              rw [decide_eq_true (Eq.refl AD)]
              rintro e w8 ⟨rfl, hb⟩
              have HX8 := hidden (HX7.out.later hb)
              have HY8 := hidden (HY7.out.later hb)
              have HO8 := hidden (HO7.out.later hb)
              have HC8 := hidden (HC7.out.later hb)
              have HD8 := hidden (HD7.out.later hb)
              have HP8 := hidden (HP7.out.later hb)
              have HQ8 := hidden (HQ7.out.later hb)
              have HS8 := hidden (HS7.out.later hb)
              have HT8 := hidden (HT7.out.later hb)
              have HB8 := hidden (HB7.out.trans (hb.mono HB7.out.size))
              clear hb
              clear HX7 HY7 HO7 HC7 HD7 HP7 HQ7 HS7 HT7 HB7
              go_wp2_with fail
              go_ret
              exact ⟨by first | rfl | simp, HB8.out⟩
            · obtain rfl : c = 7 := by omega
              go_wp2_with fail
              refine (num15_any _ _).mono ?_
              rintro e w' ⟨rfl, hw⟩
              subst w'
              go_wp2_with fail
              go_ret
              exact ⟨by first | rfl | simp, HB5.out⟩

end Go.Proofs.Ytcjjboomljbmbaa
