
/-
  The law ComposeFalse answers true at whatever steps and lines of at most 1048576 steps, lines and bytes, and leaves what lay in memory as it was.
-/
import Derived.Test.YtcdjemheokmglaaCLaw
namespace Go.Proofs.Ytcdjemheokmglaa
open Go.RowKit Go.Proofs.Ytcdjemheokmglaa.Ln Go.Proofs.Ytcdjemheokmglaa.Ol

set_option maxRecDepth 3000 in
set_option maxHeartbeats 8000000 in
theorem composeFalse_any (vX : Value) (p : List Oq) (vY : Value) (q : List Oq) (vO : Value) (old : List Tx) (w : World) (hX : OpsAt w vX p) (hlX : p.length ≤ 1048576) (hfX : Fit p) (hY : OpsAt w vY q) (hlY : q.length ≤ 1048576) (hfY : Fit q) (hO : RowAt w vO old) (hlo : old.length ≤ 1048576) (hno : old.flatten.length ≤ 1048576) :
    Calls Try.prog 7 #[vX, vY, vO] w fun e w' => e = .returned (.bool true) ∧ Below w.heap.size w w' := by
  have HX0 := hidden hX
  have HY0 := hidden hY
  have HO0 := hidden hO
  have HB0 := hidden (Below.refl w.heap.size w)
  have HFX := hidden hfX
  obtain ⟨aX, cX, rfl⟩ := hX.shape
  clear hX hfX
  have HFY := hidden hfY
  obtain ⟨aY, cY, rfl⟩ := hY.shape
  clear hY hfY
  have HNO := hidden hno
  have HFO := hidden (fitT_flat hno)
  obtain ⟨aO, cO, rfl⟩ := hO.shape
  clear hO hno
  go_enter Try.func7, Try.ntmps7
  go_wp2_with fail
  refine (alive11_any _).mono ?_
  rintro e w1 ⟨rfl, hb⟩
  have HX1 := hidden (HX0.out.later hb)
  have HY1 := hidden (HY0.out.later hb)
  have HO1 := hidden (HO0.out.later hb)
  have HB1 := hidden (HB0.out.trans (hb.mono HB0.out.size))
  clear hb
  go_wp2_with fail
  refine (few_any _ p w1 HX1.out (by omega)).mono ?_
  rintro e w' ⟨⟨c, rfl⟩, hw⟩
  subst w'
  cases c with
  | false =>
    go_wp2_with fail
    go_ret
    exact ⟨rfl, HB1.out⟩
  | true =>
    go_wp2_with fail
    refine (few_any _ q w1 HY1.out (by omega)).mono ?_
    rintro e w' ⟨⟨c, rfl⟩, hw⟩
    subst w'
    cases c with
    | false =>
      go_wp2_with fail
      go_ret
      exact ⟨rfl, HB1.out⟩
    | true =>
      go_wp2_with fail
      refine (short_any _ old w1 HO1.out (by omega) (by have := HNO.out; omega)).mono ?_
      rintro e w2 ⟨⟨c, rfl⟩, hb⟩
      have HX2 := hidden (HX1.out.later hb)
      have HY2 := hidden (HY1.out.later hb)
      have HO2 := hidden (HO1.out.later hb)
      have HB2 := hidden (HB1.out.trans (hb.mono HB1.out.size))
      clear hb
      clear HX1 HY1 HO1 HB1
      cases c with
      | false =>
        go_wp2_with fail
        go_ret
        exact ⟨rfl, HB2.out⟩
      | true =>
        cases hrtX : right p with
        | false =>
          have HRX := hidden hrtX
          clear hrtX
          go_wp2_with fail
          refine (pright_any _ p w2 HX2.out (by omega) HFX.out).mono ?_
          rw [HRX.out]
          rintro e w3 ⟨rfl, hb⟩
          have HX3 := hidden (HX2.out.later hb)
          have HY3 := hidden (HY2.out.later hb)
          have HO3 := hidden (HO2.out.later hb)
          have HB3 := hidden (HB2.out.trans (hb.mono HB2.out.size))
          clear hb
          clear HX2 HY2 HO2 HB2
          go_wp2_with fail
          go_ret
          exact ⟨by first | rfl | simp, HB3.out⟩
        | true =>
          have HRX := hidden hrtX
          clear hrtX
          go_wp2_with fail
          refine (pright_any _ p w2 HX2.out (by omega) HFX.out).mono ?_
          rw [HRX.out]
          rintro e w3 ⟨rfl, hb⟩
          have HX3 := hidden (HX2.out.later hb)
          have HY3 := hidden (HY2.out.later hb)
          have HO3 := hidden (HO2.out.later hb)
          have HB3 := hidden (HB2.out.trans (hb.mono HB2.out.size))
          clear hb
          clear HX2 HY2 HO2 HB2
          cases hrtY : right q with
          | false =>
            have HRY := hidden hrtY
            clear hrtY
            go_wp2_with fail
            refine (pright_any _ q w3 HY3.out (by omega) HFY.out).mono ?_
            rw [HRY.out]
            rintro e w4 ⟨rfl, hb⟩
            have HX4 := hidden (HX3.out.later hb)
            have HY4 := hidden (HY3.out.later hb)
            have HO4 := hidden (HO3.out.later hb)
            have HB4 := hidden (HB3.out.trans (hb.mono HB3.out.size))
            clear hb
            clear HX3 HY3 HO3 HB3
            go_wp2_with fail
            go_ret
            exact ⟨by first | rfl | simp, HB4.out⟩
          | true =>
            have HRY := hidden hrtY
            clear hrtY
            go_wp2_with fail
            refine (pright_any _ q w3 HY3.out (by omega) HFY.out).mono ?_
            rw [HRY.out]
            rintro e w4 ⟨rfl, hb⟩
            have HX4 := hidden (HX3.out.later hb)
            have HY4 := hidden (HY3.out.later hb)
            have HO4 := hidden (HO3.out.later hb)
            have HB4 := hidden (HB3.out.trans (hb.mono HB3.out.size))
            clear hb
            clear HX3 HY3 HO3 HB3
            obtain ⟨A, hA⟩ : ∃ A, (doo p old).getD [] = A := ⟨_, rfl⟩
            have HLA := hidden (show A.length ≤ 2097152 by have := dooD_len p old; rw [hA] at this; omega)
            have HFA := hidden (show FitT A by rw [← hA]; exact dooD_fit HFX.out HFO.out)
            have HA := hidden hA
            clear hA
            obtain ⟨r, hr⟩ : ∃ r, thn p q = r := ⟨_, rfl⟩
            have HR := hidden hr
            clear hr
            go_wp2_with fail
            refine (then_any _ _ p q w4 HX4.out HY4.out (by omega) (by omega) HFX.out HFY.out).mono ?_
            rw [HR.out]
            rintro e w5 ⟨q0, rfl, ho, hb⟩
            have HX5 := hidden (HX4.out.later hb)
            have HY5 := hidden (HY4.out.later hb)
            have HO5 := hidden (HO4.out.later hb)
            have HB5 := hidden (HB4.out.trans (hb.mono HB4.out.size))
            clear hb
            clear HX4 HY4 HO4 HB4
            have HL5 := hidden ho
            clear ho
            obtain ⟨q0a, q0n, q0c, rfl⟩ : ∃ a n c, q0 = .slice a n c := by obtain ⟨a, c, e⟩ := HL5.out.shape; exact ⟨_, _, _, e⟩
            cases r with
            | some l =>
              rw [show (some l).isSome = true from rfl]
              go_wp2_with fail
              go_ret
              exact ⟨by first | rfl | simp, HB5.out⟩
            | none =>
              rw [show (none : Option (List Oq)).isSome = false from rfl]
              go_wp2_with fail
              refine (pdo_any _ p _ old w5 HX5.out HO5.out (by omega) HFX.out HFO.out).mono ?_
              rintro e w6 ⟨q1, rfl, ho, hb⟩
              rw [HA.out] at ho
              have HX6 := hidden (HX5.out.later hb)
              have HY6 := hidden (HY5.out.later hb)
              have HO6 := hidden (HO5.out.later hb)
              have HL6 := hidden (HL5.out.later hb)
              have HB6 := hidden (HB5.out.trans (hb.mono HB5.out.size))
              clear hb
              clear HX5 HY5 HO5 HL5 HB5
              have HP6 := hidden (RowAt.of_owns ho)
              clear ho
              obtain ⟨qa, qn, qc, rfl⟩ : ∃ a n c, q1 = .slice a n c := by obtain ⟨a, c, e⟩ := HP6.out.shape; exact ⟨_, _, _, e⟩
              obtain ⟨b1, hb1⟩ : ∃ b, (doo p old).isSome = b := ⟨_, rfl⟩
              rw [hb1]
              have HS1 := hidden hb1
              clear hb1
              go_wp2_with fail
              refine (pdo_any _ q _ A w6 HY6.out HP6.out (by have := HLA.out; omega) HFY.out HFA.out).mono ?_
              rintro e w7 ⟨q2, rfl, ho, hb⟩
              have HX7 := hidden (HX6.out.later hb)
              have HY7 := hidden (HY6.out.later hb)
              have HO7 := hidden (HO6.out.later hb)
              have HL7 := hidden (HL6.out.later hb)
              have HP7 := hidden (HP6.out.later hb)
              have HB7 := hidden (HB6.out.trans (hb.mono HB6.out.size))
              clear hb
              clear HX6 HY6 HO6 HL6 HP6 HB6
              obtain ⟨qa2, qn2, qc2, rfl⟩ : ∃ a n c, q2 = .slice a n c := by obtain ⟨a, c, e⟩ := (RowAt.of_owns ho).shape; exact ⟨_, _, _, e⟩
              clear ho
              obtain ⟨b2, hb2⟩ : ∃ b, (doo q A).isSome = b := ⟨_, rfl⟩
              rw [hb2]
              have HNO2 := hidden (show (b1 && b2) = false by
                rw [Bool.eq_false_iff]
                intro h
                rw [Bool.and_eq_true] at h
                obtain ⟨a, ha⟩ := Option.isSome_iff_exists.1 (HS1.out.trans h.1)
                obtain ⟨b, hb0⟩ := Option.isSome_iff_exists.1 (hb2.trans h.2)
                have haA : A = a := by rw [← HA.out, ha]; rfl
                rw [haA] at hb0
                have hlb := doo_len hb0
                have hla := doo_len ha
                obtain ⟨l, hl, _⟩ := thn_does ha hb0 (by omega) (by omega)
                rw [HR.out] at hl
                cases hl)
              clear hb2
              cases b1 with
              | false =>
                go_wp2_with fail
                go_ret
                exact ⟨by first | rfl | simp, HB7.out⟩
              | true =>
                cases b2 with
                | false =>
                  go_wp2_with fail
                  go_ret
                  exact ⟨by first | rfl | simp, HB7.out⟩
                | true => exact absurd HNO2.out (by simp)

end Go.Proofs.Ytcdjemheokmglaa
