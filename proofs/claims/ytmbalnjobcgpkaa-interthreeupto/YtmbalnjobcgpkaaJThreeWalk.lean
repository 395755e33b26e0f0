
/-
  The law InterThree answers true at whatever steps and lines of at most 1048576 steps, lines and bytes, and leaves what lay in memory as it was.
-/
import Derived.Test.YtmbalnjobcgpkaaJLaw
namespace Go.Proofs.Ytmbalnjobcgpkaa
open Go.RowKit Go.Proofs.Ytmbalnjobcgpkaa.Ln Go.Proofs.Ytmbalnjobcgpkaa.Ol

set_option maxRecDepth 3000 in
set_option maxHeartbeats 8000000 in
theorem interThree_any (vX : Value) (p : List Oq) (vY : Value) (q : List Oq) (vZ : Value) (r : List Oq) (vO : Value) (old : List Tx) (w : World) (hX : OpsAt w vX p) (hlX : p.length ≤ 1048576) (hfX : Fit p) (hY : OpsAt w vY q) (hlY : q.length ≤ 1048576) (hfY : Fit q) (hZ : OpsAt w vZ r) (hlZ : r.length ≤ 1048576) (hfZ : Fit r) (hO : RowAt w vO old) (hlo : old.length ≤ 1048576) (hno : old.flatten.length ≤ 1048576) :
    Calls Try.prog 6 #[vX, vY, vZ, vO] w fun e w' => e = .returned (.bool true) ∧ Below w.heap.size w w' := by
  have HX0 := hidden hX
  have HY0 := hidden hY
  have HZ0 := hidden hZ
  have HO0 := hidden hO
  have HB0 := hidden (Below.refl w.heap.size w)
  have HFX := hidden hfX
  obtain ⟨aX, cX, rfl⟩ := hX.shape
  clear hX hfX
  have HFY := hidden hfY
  obtain ⟨aY, cY, rfl⟩ := hY.shape
  clear hY hfY
  have HFZ := hidden hfZ
  obtain ⟨aZ, cZ, rfl⟩ := hZ.shape
  clear hZ hfZ
  have HNO := hidden hno
  have HFO := hidden (fitT_flat hno)
  obtain ⟨aO, cO, rfl⟩ := hO.shape
  clear hO hno
  go_enter Try.func6, Try.ntmps6
  go_wp2_with fail
  refine (alive14_any _).mono ?_
  rintro e w1 ⟨rfl, hb⟩
  have HX1 := hidden (HX0.out.later hb)
  have HY1 := hidden (HY0.out.later hb)
  have HZ1 := hidden (HZ0.out.later hb)
  have HO1 := hidden (HO0.out.later hb)
  have HB1 := hidden (HB0.out.trans (hb.mono HB0.out.size))
  clear hb
  go_wp2_with fail
  refine (few_any _ p w1 HX1.out (by omega)).mono ?_
  rintro e w' ⟨⟨c, rfl⟩, hw⟩
  subst w'
  cases c with
  | false =>
    go_wp2_with fail
    go_ret
    exact ⟨rfl, HB1.out⟩
  | true =>
    go_wp2_with fail
    refine (few_any _ q w1 HY1.out (by omega)).mono ?_
    rintro e w' ⟨⟨c, rfl⟩, hw⟩
    subst w'
    cases c with
    | false =>
      go_wp2_with fail
      go_ret
      exact ⟨rfl, HB1.out⟩
    | true =>
      go_wp2_with fail
      refine (few_any _ r w1 HZ1.out (by omega)).mono ?_
      rintro e w' ⟨⟨c, rfl⟩, hw⟩
      subst w'
      cases c with
      | false =>
        go_wp2_with fail
        go_ret
        exact ⟨rfl, HB1.out⟩
      | true =>
        go_wp2_with fail
        refine (short_any _ old w1 HO1.out (by omega) (by have := HNO.out; omega)).mono ?_
        rintro e w2 ⟨⟨c, rfl⟩, hb⟩
        have HX2 := hidden (HX1.out.later hb)
        have HY2 := hidden (HY1.out.later hb)
        have HZ2 := hidden (HZ1.out.later hb)
        have HO2 := hidden (HO1.out.later hb)
        have HB2 := hidden (HB1.out.trans (hb.mono HB1.out.size))
        clear hb
        clear HX1 HY1 HZ1 HO1 HB1
        cases c with
        | false =>
          go_wp2_with fail
          go_ret
          exact ⟨rfl, HB2.out⟩
        | true =>
          obtain ⟨AC, hAC⟩ : ∃ A, (doo p old).getD [] = A := ⟨_, rfl⟩
          have HLC := hidden (show AC.length ≤ 2097152 by have := dooJ_len p old; rw [hAC] at this; omega)
          have HFAC := hidden (show FitT AC by rw [← hAC]; exact dooJ_fit HFX.out HFO.out)
          have HAC := hidden hAC
          clear hAC
          go_wp2_with fail
          refine (pdo_any _ p _ old w2 HX2.out HO2.out (by omega) HFX.out HFO.out).mono ?_
          rintro e w3 ⟨q1, rfl, ho, hb⟩
          rw [HAC.out] at ho
          have HX3 := hidden (HX2.out.later hb)
          have HY3 := hidden (HY2.out.later hb)
          have HZ3 := hidden (HZ2.out.later hb)
          have HO3 := hidden (HO2.out.later hb)
          have HB3 := hidden (HB2.out.trans (hb.mono HB2.out.size))
          clear hb
          clear HX2 HY2 HZ2 HO2 HB2
          have HC3 := hidden (RowAt.of_owns ho)
          clear ho
          obtain ⟨q1a, q1n, q1c, rfl⟩ : ∃ a n c, q1 = .slice a n c := by obtain ⟨a, c, e⟩ := HC3.out.shape; exact ⟨_, _, _, e⟩
          obtain ⟨bC, hbC⟩ : ∃ b, (doo p old).isSome = b := ⟨_, rfl⟩
          rw [hbC]
          have HSC := hidden hbC
          clear hbC
          obtain ⟨AD, hAD⟩ : ∃ A, (doo q old).getD [] = A := ⟨_, rfl⟩
          have HLD := hidden (show AD.length ≤ 2097152 by have := dooJ_len q old; rw [hAD] at this; omega)
          have HFAD := hidden (show FitT AD by rw [← hAD]; exact dooJ_fit HFY.out HFO.out)
          have HAD := hidden hAD
          clear hAD
          go_wp2_with fail
          refine (pdo_any _ q _ old w3 HY3.out HO3.out (by omega) HFY.out HFO.out).mono ?_
          rintro e w4 ⟨q2, rfl, ho, hb⟩
          rw [HAD.out] at ho
          have HX4 := hidden (HX3.out.later hb)
          have HY4 := hidden (HY3.out.later hb)
          have HZ4 := hidden (HZ3.out.later hb)
          have HO4 := hidden (HO3.out.later hb)
          have HC4 := hidden (HC3.out.later hb)
          have HB4 := hidden (HB3.out.trans (hb.mono HB3.out.size))
          clear hb
          clear HX3 HY3 HZ3 HO3 HC3 HB3
          have HD4 := hidden (RowAt.of_owns ho)
          clear ho
          obtain ⟨q2a, q2n, q2c, rfl⟩ : ∃ a n c, q2 = .slice a n c := by obtain ⟨a, c, e⟩ := HD4.out.shape; exact ⟨_, _, _, e⟩
          obtain ⟨bD, hbD⟩ : ∃ b, (doo q old).isSome = b := ⟨_, rfl⟩
          rw [hbD]
          have HSD := hidden hbD
          clear hbD
          obtain ⟨AE, hAE⟩ : ∃ A, (doo r old).getD [] = A := ⟨_, rfl⟩
          have HLE := hidden (show AE.length ≤ 2097152 by have := dooJ_len r old; rw [hAE] at this; omega)
          have HFAE := hidden (show FitT AE by rw [← hAE]; exact dooJ_fit HFZ.out HFO.out)
          have HAE := hidden hAE
          clear hAE
          go_wp2_with fail
          refine (pdo_any _ r _ old w4 HZ4.out HO4.out (by omega) HFZ.out HFO.out).mono ?_
          rintro e w5 ⟨q3, rfl, ho, hb⟩
          rw [HAE.out] at ho
          have HX5 := hidden (HX4.out.later hb)
          have HY5 := hidden (HY4.out.later hb)
          have HZ5 := hidden (HZ4.out.later hb)
          have HO5 := hidden (HO4.out.later hb)
          have HC5 := hidden (HC4.out.later hb)
          have HD5 := hidden (HD4.out.later hb)
          have HB5 := hidden (HB4.out.trans (hb.mono HB4.out.size))
          clear hb
          clear HX4 HY4 HZ4 HO4 HC4 HD4 HB4
          have HE5 := hidden (RowAt.of_owns ho)
          clear ho
          obtain ⟨q3a, q3n, q3c, rfl⟩ : ∃ a n c, q3 = .slice a n c := by obtain ⟨a, c, e⟩ := HE5.out.shape; exact ⟨_, _, _, e⟩
          obtain ⟨bE, hbE⟩ : ∃ b, (doo r old).isSome = b := ⟨_, rfl⟩
          rw [hbE]
          have HSE := hidden hbE
          clear hbE
          cases bC with
          | false =>
            go_wp2_with fail
            go_ret
            exact ⟨by first | rfl | simp, HB5.out⟩
          | true =>
            cases bD with
            | false =>
              go_wp2_with fail
              go_ret
              exact ⟨by first | rfl | simp, HB5.out⟩
            | true =>
              cases bE with
              | false =>
                go_wp2_with fail
                go_ret
                exact ⟨by first | rfl | simp, HB5.out⟩
              | true =>
                obtain ⟨aC, haC⟩ := Option.isSome_iff_exists.1 HSC.out
                obtain rfl : AC = aC := by rw [← HAC.out, haC]; rfl
                have HDC := hidden haC
                have hlC := HLC.out
                obtain ⟨aD, haD⟩ := Option.isSome_iff_exists.1 HSD.out
                obtain rfl : AD = aD := by rw [← HAD.out, haD]; rfl
                have HDD := hidden haD
                have hlD := HLD.out
                obtain ⟨aE, haE⟩ := Option.isSome_iff_exists.1 HSE.out
                obtain rfl : AE = aE := by rw [← HAE.out, haE]; rfl
                have HDE := hidden haE
                have hlE := HLE.out
                obtain ⟨x, e1, r1, d1⟩ := itr_does haC haD (by omega) (by omega)
                obtain ⟨y, e2, r2, d2⟩ := itr_does haD haE (by omega) (by omega)
                obtain ⟨z, e3, r3, d3⟩ := itr_does haC haE (by omega) (by omega)
                obtain ⟨m, e4, d4⟩ := thn_does d1 d2 (by omega) (by omega)
                have HE1 := hidden e1
                have HE2 := hidden e2
                have HE3 := hidden e3
                have HE4 := hidden e4
                have HD3 := hidden d3
                have HD4 := hidden d4
                have HLX9 := hidden (itr_len e1)
                have HLY9 := hidden (itr_len e2)
                have HLZ9 := hidden (itr_len e3)
                have HLM9 := hidden (show m.length ≤ 4294967296 by obtain ⟨_, _, rl, _⟩ := thn_some e4; exact right_len rl)
                have HFX9 := hidden (itr_fit HFX.out HFY.out e1)
                have HFY9 := hidden (itr_fit HFY.out HFZ.out e2)
                have HFZ9 := hidden (itr_fit HFX.out HFZ.out e3)
                have HFM9 := hidden (thn_fitJ HFX9.out HFY9.out e4)
                have HLEE := hidden (show AE.length ≤ 4398046511104 by omega)
                clear haC haD haE e1 e2 e3 e4 r1 r2 r3 d1 d2 d3 d4
                go_wp2_with fail
                refine (inter_any _ _ p q w5 HX5.out HY5.out (by omega) (by omega) HFX.out HFY.out).mono ?_
                rw [HE1.out]
                rintro e w6 ⟨q4, rfl, ho, hb⟩
                simp only [Option.getD_some, Option.isSome_some] at ho ⊢
                have HX6 := hidden (HX5.out.later hb)
                have HY6 := hidden (HY5.out.later hb)
                have HZ6 := hidden (HZ5.out.later hb)
                have HO6 := hidden (HO5.out.later hb)
                have HC6 := hidden (HC5.out.later hb)
                have HD6 := hidden (HD5.out.later hb)
                have HE6 := hidden (HE5.out.later hb)
                have HB6 := hidden (HB5.out.trans (hb.mono HB5.out.size))
                clear hb
                clear HX5 HY5 HZ5 HO5 HC5 HD5 HE5 HB5
                have HS6 := hidden ho
                clear ho
                obtain ⟨q4a, q4n, q4c, rfl⟩ : ∃ a n c, q4 = .slice a n c := by obtain ⟨a, c, e⟩ := HS6.out.shape; exact ⟨_, _, _, e⟩
                go_wp2_with fail
                refine (inter_any _ _ q r w6 HY6.out HZ6.out (by omega) (by omega) HFY.out HFZ.out).mono ?_
                rw [HE2.out]
                rintro e w7 ⟨q5, rfl, ho, hb⟩
                simp only [Option.getD_some, Option.isSome_some] at ho ⊢
                have HX7 := hidden (HX6.out.later hb)
                have HY7 := hidden (HY6.out.later hb)
                have HZ7 := hidden (HZ6.out.later hb)
                have HO7 := hidden (HO6.out.later hb)
                have HC7 := hidden (HC6.out.later hb)
                have HD7 := hidden (HD6.out.later hb)
                have HE7 := hidden (HE6.out.later hb)
                have HS7 := hidden (HS6.out.later hb)
                have HB7 := hidden (HB6.out.trans (hb.mono HB6.out.size))
                clear hb
                clear HX6 HY6 HZ6 HO6 HC6 HD6 HE6 HS6 HB6
                have HT7 := hidden ho
                clear ho
                obtain ⟨q5a, q5n, q5c, rfl⟩ : ∃ a n c, q5 = .slice a n c := by obtain ⟨a, c, e⟩ := HT7.out.shape; exact ⟨_, _, _, e⟩
                go_wp2_with fail
                refine (inter_any _ _ p r w7 HX7.out HZ7.out (by omega) (by omega) HFX.out HFZ.out).mono ?_
                rw [HE3.out]
                rintro e w8 ⟨q6, rfl, ho, hb⟩
                simp only [Option.getD_some, Option.isSome_some] at ho ⊢
                have HX8 := hidden (HX7.out.later hb)
                have HY8 := hidden (HY7.out.later hb)
                have HZ8 := hidden (HZ7.out.later hb)
                have HO8 := hidden (HO7.out.later hb)
                have HC8 := hidden (HC7.out.later hb)
                have HD8 := hidden (HD7.out.later hb)
                have HE8 := hidden (HE7.out.later hb)
                have HS8 := hidden (HS7.out.later hb)
                have HT8 := hidden (HT7.out.later hb)
                have HB8 := hidden (HB7.out.trans (hb.mono HB7.out.size))
                clear hb
                clear HX7 HY7 HZ7 HO7 HC7 HD7 HE7 HS7 HT7 HB7
                have HU8 := hidden ho
                clear ho
                obtain ⟨q6a, q6n, q6c, rfl⟩ : ∃ a n c, q6 = .slice a n c := by obtain ⟨a, c, e⟩ := HU8.out.shape; exact ⟨_, _, _, e⟩
                go_wp2_with fail
                refine (pthn_any _ _ x y w8 HS8.out HT8.out (by have := HLX9.out; omega) (by have := HLY9.out; omega) HFX9.out HFY9.out).mono ?_
                rw [HE4.out]
                rintro e w9 ⟨q7, rfl, ho, hb⟩
                simp only [Option.getD_some, Option.isSome_some] at ho ⊢
                have HX9 := hidden (HX8.out.later hb)
                have HY9 := hidden (HY8.out.later hb)
                have HZ9 := hidden (HZ8.out.later hb)
                have HO9 := hidden (HO8.out.later hb)
                have HC9 := hidden (HC8.out.later hb)
                have HD9 := hidden (HD8.out.later hb)
                have HE9 := hidden (HE8.out.later hb)
                have HS9 := hidden (HS8.out.later hb)
                have HT9 := hidden (HT8.out.later hb)
                have HU9 := hidden (HU8.out.later hb)
                have HB9 := hidden (HB8.out.trans (hb.mono HB8.out.size))
                clear hb
                clear HX8 HY8 HZ8 HO8 HC8 HD8 HE8 HS8 HT8 HU8 HB8
                have HM9 := hidden ho
                clear ho
                obtain ⟨q7a, q7n, q7c, rfl⟩ : ∃ a n c, q7 = .slice a n c := by obtain ⟨a, c, e⟩ := HM9.out.shape; exact ⟨_, _, _, e⟩
                go_wp2_with fail
                refine (pdo_any _ m _ AC w9 HM9.out HC9.out (by have := HLM9.out; have := HLC.out; omega) HFM9.out HFAC.out).mono ?_
                rw [HD4.out]
                rintro e w10 ⟨q8, rfl, ho, hb⟩
                simp only [Option.getD_some, Option.isSome_some] at ho ⊢
                have HX10 := hidden (HX9.out.later hb)
                have HY10 := hidden (HY9.out.later hb)
                have HZ10 := hidden (HZ9.out.later hb)
                have HO10 := hidden (HO9.out.later hb)
                have HC10 := hidden (HC9.out.later hb)
                have HD10 := hidden (HD9.out.later hb)
                have HE10 := hidden (HE9.out.later hb)
                have HS10 := hidden (HS9.out.later hb)
                have HT10 := hidden (HT9.out.later hb)
                have HU10 := hidden (HU9.out.later hb)
                have HM10 := hidden (HM9.out.later hb)
                have HB10 := hidden (HB9.out.trans (hb.mono HB9.out.size))
                clear hb
                clear HX9 HY9 HZ9 HO9 HC9 HD9 HE9 HS9 HT9 HU9 HM9 HB9
                have HP10 := hidden (RowAt.of_owns ho)
                clear ho
                obtain ⟨q8a, q8n, q8c, rfl⟩ : ∃ a n c, q8 = .slice a n c := by obtain ⟨a, c, e⟩ := HP10.out.shape; exact ⟨_, _, _, e⟩
                go_wp2_with fail
                refine (pdo_any _ z _ AC w10 HU10.out HC10.out (by have := HLZ9.out; have := HLC.out; omega) HFZ9.out HFAC.out).mono ?_
                rw [HD3.out]
                rintro e w11 ⟨q9, rfl, ho, hb⟩
                simp only [Option.getD_some, Option.isSome_some] at ho ⊢
                have HX11 := hidden (HX10.out.later hb)
                have HY11 := hidden (HY10.out.later hb)
                have HZ11 := hidden (HZ10.out.later hb)
                have HO11 := hidden (HO10.out.later hb)
                have HC11 := hidden (HC10.out.later hb)
                have HD11 := hidden (HD10.out.later hb)
                have HE11 := hidden (HE10.out.later hb)
                have HS11 := hidden (HS10.out.later hb)
                have HT11 := hidden (HT10.out.later hb)
                have HU11 := hidden (HU10.out.later hb)
                have HM11 := hidden (HM10.out.later hb)
                have HP11 := hidden (HP10.out.later hb)
                have HB11 := hidden (HB10.out.trans (hb.mono HB10.out.size))
                clear hb
                clear HX10 HY10 HZ10 HO10 HC10 HD10 HE10 HS10 HT10 HU10 HM10 HP10 HB10
                have HQ11 := hidden (RowAt.of_owns ho)
                clear ho
                obtain ⟨q9a, q9n, q9c, rfl⟩ : ∃ a n c, q9 = .slice a n c := by obtain ⟨a, c, e⟩ := HQ11.out.shape; exact ⟨_, _, _, e⟩
                go_wp2_with fail
                refine (sameTexts_any _ _ AE AE w11 HP11.out HE11.out HLEE.out HLEE.out).mono ?_
                rw [decide_eq_true (Eq.refl AE)]
                rintro e w12 ⟨rfl, hb⟩
                have HX12 := hidden (HX11.out.later hb)
                have HY12 := hidden (HY11.out.later hb)
                have HZ12 := hidden (HZ11.out.later hb)
                have HO12 := hidden (HO11.out.later hb)
                have HC12 := hidden (HC11.out.later hb)
                have HD12 := hidden (HD11.out.later hb)
                have HE12 := hidden (HE11.out.later hb)
                have HS12 := hidden (HS11.out.later hb)
                have HT12 := hidden (HT11.out.later hb)
                have HU12 := hidden (HU11.out.later hb)
                have HM12 := hidden (HM11.out.later hb)
                have HP12 := hidden (HP11.out.later hb)
                have HQ12 := hidden (HQ11.out.later hb)
                have HB12 := hidden (HB11.out.trans (hb.mono HB11.out.size))
                clear hb
                clear HX11 HY11 HZ11 HO11 HC11 HD11 HE11 HS11 HT11 HU11 HM11 HP11 HQ11 HB11
                go_wp2_with fail
                refine (sameTexts_any _ _ AE AE w12 HQ12.out HE12.out HLEE.out HLEE.out).mono ?_
                rw [decide_eq_true (Eq.refl AE)]
                rintro e w13 ⟨rfl, hb⟩
                have HX13 := hidden (HX12.out.later hb)
                have HY13 := hidden (HY12.out.later hb)
                have HZ13 := hidden (HZ12.out.later hb)
                have HO13 := hidden (HO12.out.later hb)
                have HC13 := hidden (HC12.out.later hb)
                have HD13 := hidden (HD12.out.later hb)
                have HE13 := hidden (HE12.out.later hb)
                have HS13 := hidden (HS12.out.later hb)
                have HT13 := hidden (HT12.out.later hb)
                have HU13 := hidden (HU12.out.later hb)
                have HM13 := hidden (HM12.out.later hb)
                have HP13 := hidden (HP12.out.later hb)
                have HQ13 := hidden (HQ12.out.later hb)
                have HB13 := hidden (HB12.out.trans (hb.mono HB12.out.size))
                clear hb
                clear HX12 HY12 HZ12 HO12 HC12 HD12 HE12 HS12 HT12 HU12 HM12 HP12 HQ12 HB12
                go_wp2_with fail
                go_ret
                exact ⟨by first | rfl | simp, HB13.out⟩

end Go.Proofs.Ytmbalnjobcgpkaa
