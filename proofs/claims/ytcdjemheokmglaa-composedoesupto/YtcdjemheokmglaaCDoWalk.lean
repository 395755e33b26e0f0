
/-
  The law ComposeDoes answers true at whatever steps and lines of at most 1048576 steps, lines and bytes, and leaves what lay in memory as it was.
-/
import Derived.Test.YtcdjemheokmglaaCLaw
namespace Go.Proofs.Ytcdjemheokmglaa
open Go.RowKit Go.Proofs.Ytcdjemheokmglaa.Ln Go.Proofs.Ytcdjemheokmglaa.Ol

set_option maxRecDepth 3000 in
set_option maxHeartbeats 8000000 in
theorem composeDoes_any (vX : Value) (p : List Oq) (vY : Value) (q : List Oq) (vO : Value) (old : List Tx) (w : World) (hX : OpsAt w vX p) (hlX : p.length ≤ 1048576) (hfX : Fit p) (hY : OpsAt w vY q) (hlY : q.length ≤ 1048576) (hfY : Fit q) (hO : RowAt w vO old) (hlo : old.length ≤ 1048576) (hno : old.flatten.length ≤ 1048576) :
    Calls Try.prog 4 #[vX, vY, vO] w fun e w' => e = .returned (.bool true) ∧ Below w.heap.size w w' := by
  have HX0 := hidden hX
  have HY0 := hidden hY
  have HO0 := hidden hO
  have HB0 := hidden (Below.refl w.heap.size w)
  have HFX := hidden hfX
  obtain ⟨aX, cX, rfl⟩ := hX.shape
  clear hX hfX
  have HFY := hidden hfY
  obtain ⟨aY, cY, rfl⟩ := hY.shape
  clear hY hfY
  have HNO := hidden hno
  have HFO := hidden (fitT_flat hno)
  obtain ⟨aO, cO, rfl⟩ := hO.shape
  clear hO hno
  go_enter Try.func4, Try.ntmps4
  go_wp2_with fail
  refine (alive11_any _).mono ?_
  rintro e w1 ⟨rfl, hb⟩
  have HX1 := hidden (HX0.out.later hb)
  have HY1 := hidden (HY0.out.later hb)
  have HO1 := hidden (HO0.out.later hb)
  have HB1 := hidden (HB0.out.trans (hb.mono HB0.out.size))
  clear hb
  go_wp2_with fail
  refine (few_any _ p w1 HX1.out (by omega)).mono ?_
  rintro e w' ⟨⟨c, rfl⟩, hw⟩
  subst w'
  cases c with
  | false =>
    go_wp2_with fail
    go_ret
    exact ⟨rfl, HB1.out⟩
  | true =>
    go_wp2_with fail
    refine (few_any _ q w1 HY1.out (by omega)).mono ?_
    rintro e w' ⟨⟨c, rfl⟩, hw⟩
    subst w'
    cases c with
    | false =>
      go_wp2_with fail
      go_ret
      exact ⟨rfl, HB1.out⟩
    | true =>
      go_wp2_with fail
      refine (short_any _ old w1 HO1.out (by omega) (by have := HNO.out; omega)).mono ?_
      rintro e w2 ⟨⟨c, rfl⟩, hb⟩
      have HX2 := hidden (HX1.out.later hb)
      have HY2 := hidden (HY1.out.later hb)
      have HO2 := hidden (HO1.out.later hb)
      have HB2 := hidden (HB1.out.trans (hb.mono HB1.out.size))
      clear hb
      clear HX1 HY1 HO1 HB1
      cases c with
      | false =>
        go_wp2_with fail
        go_ret
        exact ⟨rfl, HB2.out⟩
      | true =>
        obtain ⟨A, hA⟩ : ∃ A, (doo p old).getD [] = A := ⟨_, rfl⟩
        have HLA := hidden (show A.length ≤ 2097152 by have := dooD_len p old; rw [hA] at this; omega)
        have HFA := hidden (show FitT A by rw [← hA]; exact dooD_fit HFX.out HFO.out)
        have HA := hidden hA
        clear hA
        go_wp2_with fail
        refine (pdo_any _ p _ old w2 HX2.out HO2.out (by omega) HFX.out HFO.out).mono ?_
        rintro e w3 ⟨q1, rfl, ho, hb⟩
        rw [HA.out] at ho
        have HX3 := hidden (HX2.out.later hb)
        have HY3 := hidden (HY2.out.later hb)
        have HO3 := hidden (HO2.out.later hb)
        have HB3 := hidden (HB2.out.trans (hb.mono HB2.out.size))
        clear hb
        clear HX2 HY2 HO2 HB2
        have HP3 := hidden (RowAt.of_owns ho)
        clear ho
        obtain ⟨qa, qn, qc, rfl⟩ : ∃ a n c, q1 = .slice a n c := by obtain ⟨a, c, e⟩ := HP3.out.shape; exact ⟨_, _, _, e⟩
        obtain ⟨b1, hb1⟩ : ∃ b, (doo p old).isSome = b := ⟨_, rfl⟩
        rw [hb1]
        have HS1 := hidden hb1
        clear hb1
        go_wp2_with fail
        refine (pdo_any _ q _ A w3 HY3.out HP3.out (by have := HLA.out; omega) HFY.out HFA.out).mono ?_
        rintro e w4 ⟨q2, rfl, ho, hb⟩
        have HX4 := hidden (HX3.out.later hb)
        have HY4 := hidden (HY3.out.later hb)
        have HO4 := hidden (HO3.out.later hb)
        have HP4 := hidden (HP3.out.later hb)
        have HB4 := hidden (HB3.out.trans (hb.mono HB3.out.size))
        clear hb
        clear HX3 HY3 HO3 HP3 HB3
        have HQ4 := hidden (RowAt.of_owns ho)
        clear ho
        obtain ⟨qa2, qn2, qc2, rfl⟩ : ∃ a n c, q2 = .slice a n c := by obtain ⟨a, c, e⟩ := HQ4.out.shape; exact ⟨_, _, _, e⟩
        obtain ⟨b2, hb2⟩ : ∃ b, (doo q A).isSome = b := ⟨_, rfl⟩
        rw [hb2]
        have HS2 := hidden hb2
        clear hb2
        cases b1 with
        | false =>
          go_wp2_with fail
          go_ret
          exact ⟨by first | rfl | simp, HB4.out⟩
        | true =>
          cases b2 with
          | false =>
            go_wp2_with fail
            go_ret
            exact ⟨by first | rfl | simp, HB4.out⟩
          | true =>
            obtain ⟨a, ha⟩ := Option.isSome_iff_exists.1 HS1.out
            obtain ⟨b, hb0⟩ := Option.isSome_iff_exists.1 HS2.out
            have haA : A = a := by rw [← HA.out, ha]; rfl
            rw [haA] at hb0
            have hlb := doo_len hb0
            have hla := doo_len ha
            obtain ⟨l, hl, hd⟩ := thn_does ha hb0 (by omega) (by omega)
            have HRB := hidden (show (doo q A).getD [] = b by rw [haA, hb0]; rfl)
            have HLB := hidden (show b.length ≤ 4398046511104 by omega)
            have HT := hidden hl
            have HD := hidden hd
            have HLL := hidden (thn_len hl)
            have HFL := hidden (thn_fit HFX.out HFY.out hl)
            clear ha hb0 haA hlb hla hl hd
            rw [HRB.out] at HQ4
            go_wp2_with fail
            refine (then_any _ _ p q w4 HX4.out HY4.out (by omega) (by omega) HFX.out HFY.out).mono ?_
            rw [HT.out]
            rintro e w5 ⟨q3, rfl, ho, hb⟩
            simp only [Option.getD_some, Option.isSome_some] at ho ⊢
            have HX5 := hidden (HX4.out.later hb)
            have HY5 := hidden (HY4.out.later hb)
            have HO5 := hidden (HO4.out.later hb)
            have HP5 := hidden (HP4.out.later hb)
            have HQ5 := hidden (HQ4.out.later hb)
            have HB5 := hidden (HB4.out.trans (hb.mono HB4.out.size))
            clear hb
            clear HX4 HY4 HO4 HP4 HQ4 HB4
            have HL5 := hidden ho
            clear ho
            obtain ⟨q3a, q3n, q3c, rfl⟩ : ∃ a n c, q3 = .slice a n c := by obtain ⟨a, c, e⟩ := HL5.out.shape; exact ⟨_, _, _, e⟩
            go_wp2_with fail
            refine (pdo_any _ l _ old w5 HL5.out HO5.out (by have := HLL.out; omega) HFL.out HFO.out).mono ?_
            rw [HD.out]
            rintro e w6 ⟨q4, rfl, ho, hb⟩
            simp only [Option.getD_some, Option.isSome_some] at ho ⊢
            have HX6 := hidden (HX5.out.later hb)
            have HY6 := hidden (HY5.out.later hb)
            have HO6 := hidden (HO5.out.later hb)
            have HP6 := hidden (HP5.out.later hb)
            have HQ6 := hidden (HQ5.out.later hb)
            have HL6 := hidden (HL5.out.later hb)
            have HB6 := hidden (HB5.out.trans (hb.mono HB5.out.size))
            clear hb
            clear HX5 HY5 HO5 HP5 HQ5 HL5 HB5
            have HC6 := hidden (RowAt.of_owns ho)
            clear ho
            obtain ⟨qa4, qn4, qc4, rfl⟩ : ∃ a n c, q4 = .slice a n c := by obtain ⟨a, c, e⟩ := HC6.out.shape; exact ⟨_, _, _, e⟩
            go_wp2_with fail
            refine (sameTexts_any _ _ b b w6 HQ6.out HC6.out HLB.out HLB.out).mono ?_
            rw [decide_eq_true (Eq.refl b)]
            rintro e w7 ⟨rfl, hb⟩
            have HX7 := hidden (HX6.out.later hb)
            have HY7 := hidden (HY6.out.later hb)
            have HO7 := hidden (HO6.out.later hb)
            have HP7 := hidden (HP6.out.later hb)
            have HQ7 := hidden (HQ6.out.later hb)
            have HL7 := hidden (HL6.out.later hb)
            have HC7 := hidden (HC6.out.later hb)
            have HB7 := hidden (HB6.out.trans (hb.mono HB6.out.size))
            clear hb
            clear HX6 HY6 HO6 HP6 HQ6 HL6 HC6 HB6
            go_wp2_with fail
            go_ret
            exact ⟨by first | rfl | simp, HB7.out⟩

end Go.Proofs.Ytcdjemheokmglaa
