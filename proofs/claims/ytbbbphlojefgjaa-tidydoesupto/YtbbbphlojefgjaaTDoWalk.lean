
/-
  The law TidyDoes answers true at whatever steps and lines of at most 1048576 steps, lines and bytes, and leaves what lay in memory as it was.
-/
import Derived.Test.YtbbbphlojefgjaaTLaw
namespace Go.Proofs.Ytbbbphlojefgjaa
open Go.RowKit Go.Proofs.Ytbbbphlojefgjaa.Ln Go.Proofs.Ytbbbphlojefgjaa.Ol

set_option maxRecDepth 3000 in
set_option maxHeartbeats 8000000 in
theorem tidyDoes_any (vX : Value) (l : List Oq) (vO : Value) (old : List Tx) (w : World) (hX : OpsAt w vX l) (hlX : l.length ≤ 1048576) (hfX : Fit l) (hO : RowAt w vO old) (hlo : old.length ≤ 1048576) (hno : old.flatten.length ≤ 1048576) :
    Calls Try.prog 4 #[vX, vO] w fun e w' => e = .returned (.bool true) ∧ Below w.heap.size w w' := by
  have HX0 := hidden hX
  have HO0 := hidden hO
  have HB0 := hidden (Below.refl w.heap.size w)
  have HFX := hidden hfX
  obtain ⟨aX, cX, rfl⟩ := hX.shape
  clear hX hfX
  have HNO := hidden hno
  have HFO := hidden (fitT_flat hno)
  obtain ⟨aO, cO, rfl⟩ := hO.shape
  clear hO hno
  go_enter Try.func4, Try.ntmps4
  go_wp2_with fail
  refine (alive13_any _).mono ?_
  rintro e w1 ⟨rfl, hb⟩
  have HX1 := hidden (HX0.out.later hb)
  have HO1 := hidden (HO0.out.later hb)
  have HB1 := hidden (HB0.out.trans (hb.mono HB0.out.size))
  clear hb
  go_wp2_with fail
  refine (few_any _ l w1 HX1.out (by omega)).mono ?_
  rintro e w' ⟨⟨c, rfl⟩, hw⟩
  subst w'
  cases c with
  | false =>
    go_wp2_with fail
    go_ret
    exact ⟨rfl, HB1.out⟩
  | true =>
    go_wp2_with fail
    refine (short_any _ old w1 HO1.out (by omega) (by have := HNO.out; omega)).mono ?_
    rintro e w2 ⟨⟨c, rfl⟩, hb⟩
    have HX2 := hidden (HX1.out.later hb)
    have HO2 := hidden (HO1.out.later hb)
    have HB2 := hidden (HB1.out.trans (hb.mono HB1.out.size))
    clear hb
    clear HX1 HO1 HB1
    cases c with
    | false =>
      go_wp2_with fail
      go_ret
      exact ⟨rfl, HB2.out⟩
    | true =>
      cases hrt : right l with
      | false =>
        have HRT := hidden hrt
        clear hrt
        go_wp2_with fail
        refine (pright_any _ l w2 HX2.out (by omega) HFX.out).mono ?_
        rw [HRT.out]
        rintro e w3 ⟨rfl, hb⟩
        have HX3 := hidden (HX2.out.later hb)
        have HO3 := hidden (HO2.out.later hb)
        have HB3 := hidden (HB2.out.trans (hb.mono HB2.out.size))
        clear hb
        clear HX2 HO2 HB2
        go_wp2_with fail
        go_ret
        exact ⟨by first | rfl | simp, HB3.out⟩
      | true =>
        have HRT := hidden hrt
        clear hrt
        go_wp2_with fail
        refine (pright_any _ l w2 HX2.out (by omega) HFX.out).mono ?_
        rw [HRT.out]
        rintro e w3 ⟨rfl, hb⟩
        have HX3 := hidden (HX2.out.later hb)
        have HO3 := hidden (HO2.out.later hb)
        have HB3 := hidden (HB2.out.trans (hb.mono HB2.out.size))
        clear hb
        clear HX2 HO2 HB2
        obtain ⟨A, hA⟩ : ∃ A, (doo l old).getD [] = A := ⟨_, rfl⟩
        have HLA := hidden (show A.length ≤ 4398046511104 by have := dooT_len l old; rw [hA] at this; omega)
        have HA := hidden hA
        obtain ⟨bs, hbs⟩ : ∃ b, (doo l old).isSome = b := ⟨_, rfl⟩
        have HBS := hidden hbs
        have HD := hidden (doo_tdy HRT.out old)
        have HRT2 := hidden (right_tdy HRT.out)
        have HTT := hidden (tdy_tdy HRT.out)
        have HLT := hidden (show (tdy l).length ≤ 4398046511104 from Nat.le_trans tdy_len (by decide))
        have HLT2 := hidden (show (tdy l).length + old.length ≤ 4398046511104 by have := tdy_len (xs := l); omega)
        have HFT := hidden (tdy_fit HFX.out)
        have hc := chs_tdy HRT.out
        obtain ⟨c1, hc1⟩ : ∃ c, chs (tdy l) = c := ⟨_, rfl⟩
        obtain ⟨c2, hc2⟩ : ∃ c, chs l = c := ⟨_, rfl⟩
        rw [hc1, hc2] at hc
        have HC1 := hidden hc1
        have HC2 := hidden hc2
        have hd1 : decide ((c1 : Int) ≤ c2) = true := by simp; omega
        have hd2 : decide (c1 ≤ c2) = true := by simp; omega
        have hbb : (bs == bs) = true := by simp
        clear hA hbs hc1 hc2
        go_wp2_with fail
        refine (tidy_any _ l w3 HX3.out (by omega) HFX.out).mono ?_
        rintro e w4 ⟨q1, rfl, ho, hb⟩
        have HX4 := hidden (HX3.out.later hb)
        have HO4 := hidden (HO3.out.later hb)
        have HB4 := hidden (HB3.out.trans (hb.mono HB3.out.size))
        clear hb
        clear HX3 HO3 HB3
        have HM4 := hidden ho
        clear ho
        obtain ⟨q1a, q1n, q1c, rfl⟩ : ∃ a n c, q1 = .slice a n c := by obtain ⟨a, c, e⟩ := HM4.out.shape; exact ⟨_, _, _, e⟩
        go_wp2_with fail
        refine (pdo_any _ l _ old w4 HX4.out HO4.out (by omega) HFX.out HFO.out).mono ?_
        rintro e w5 ⟨q2, rfl, ho, hb⟩
        rw [HA.out] at ho
        rw [HBS.out]
        have HX5 := hidden (HX4.out.later hb)
        have HO5 := hidden (HO4.out.later hb)
        have HM5 := hidden (HM4.out.later hb)
        have HB5 := hidden (HB4.out.trans (hb.mono HB4.out.size))
        clear hb
        clear HX4 HO4 HM4 HB4
        have HP5 := hidden (RowAt.of_owns ho)
        clear ho
        obtain ⟨qa, qn, qc, rfl⟩ : ∃ a n c, q2 = .slice a n c := by obtain ⟨a, c, e⟩ := HP5.out.shape; exact ⟨_, _, _, e⟩
        go_wp2_with fail
        refine (pdo_any _ (tdy l) _ old w5 HM5.out HO5.out HLT2.out HFT.out HFO.out).mono ?_
        rw [HD.out]
        rintro e w6 ⟨q3, rfl, ho, hb⟩
        rw [HA.out] at ho
        rw [HBS.out]
        have HX6 := hidden (HX5.out.later hb)
        have HO6 := hidden (HO5.out.later hb)
        have HM6 := hidden (HM5.out.later hb)
        have HP6 := hidden (HP5.out.later hb)
        have HB6 := hidden (HB5.out.trans (hb.mono HB5.out.size))
        clear hb
        clear HX5 HO5 HM5 HP5 HB5
        have HQ6 := hidden (RowAt.of_owns ho)
        clear ho
        obtain ⟨qa3, qn3, qc3, rfl⟩ : ∃ a n c, q3 = .slice a n c := by obtain ⟨a, c, e⟩ := HQ6.out.shape; exact ⟨_, _, _, e⟩
        go_wp2_with fail
        refine (pright_any _ (tdy l) w6 HM6.out HLT.out HFT.out).mono ?_
        rw [HRT2.out]
        rintro e w7 ⟨rfl, hb⟩
        have HX7 := hidden (HX6.out.later hb)
        have HO7 := hidden (HO6.out.later hb)
        have HM7 := hidden (HM6.out.later hb)
        have HP7 := hidden (HP6.out.later hb)
        have HQ7 := hidden (HQ6.out.later hb)
        have HB7 := hidden (HB6.out.trans (hb.mono HB6.out.size))
        clear hb
        clear HX6 HO6 HM6 HP6 HQ6 HB6
        go_wp2_with fail
        refine (sameTexts_any _ _ A A w7 HP7.out HQ7.out HLA.out HLA.out).mono ?_
        rw [decide_eq_true (Eq.refl A)]
        rintro e w8 ⟨rfl, hb⟩
        have HX8 := hidden (HX7.out.later hb)
        have HO8 := hidden (HO7.out.later hb)
        have HM8 := hidden (HM7.out.later hb)
        have HP8 := hidden (HP7.out.later hb)
        have HQ8 := hidden (HQ7.out.later hb)
        have HB8 := hidden (HB7.out.trans (hb.mono HB7.out.size))
        clear hb
        clear HX7 HO7 HM7 HP7 HQ7 HB7
        go_wp2_with fail
        refine (pchanges_any _ (tdy l) w8 HM8.out HLT.out).mono ?_
        rw [HC1.out]
        rintro e w9 ⟨rfl, hb⟩
        have HX9 := hidden (HX8.out.later hb)
        have HO9 := hidden (HO8.out.later hb)
        have HM9 := hidden (HM8.out.later hb)
        have HP9 := hidden (HP8.out.later hb)
        have HQ9 := hidden (HQ8.out.later hb)
        have HB9 := hidden (HB8.out.trans (hb.mono HB8.out.size))
        clear hb
        clear HX8 HO8 HM8 HP8 HQ8 HB8
        go_wp2_with fail
        refine (pchanges_any _ l w9 HX9.out (by omega)).mono ?_
        rw [HC2.out]
        rintro e w10 ⟨rfl, hb⟩
        have HX10 := hidden (HX9.out.later hb)
        have HO10 := hidden (HO9.out.later hb)
        have HM10 := hidden (HM9.out.later hb)
        have HP10 := hidden (HP9.out.later hb)
        have HQ10 := hidden (HQ9.out.later hb)
        have HB10 := hidden (HB9.out.trans (hb.mono HB9.out.size))
        clear hb
        clear HX9 HO9 HM9 HP9 HQ9 HB9
        go_wp2_with fail
        refine (tidy_any _ (tdy l) w10 HM10.out HLT.out HFT.out).mono ?_
        rw [HTT.out]
        rintro e w11 ⟨q5, rfl, ho, hb⟩
        have HX11 := hidden (HX10.out.later hb)
        have HO11 := hidden (HO10.out.later hb)
        have HM11 := hidden (HM10.out.later hb)
        have HP11 := hidden (HP10.out.later hb)
        have HQ11 := hidden (HQ10.out.later hb)
        have HB11 := hidden (HB10.out.trans (hb.mono HB10.out.size))
        clear hb
        clear HX10 HO10 HM10 HP10 HQ10 HB10
        have HN11 := hidden ho
        clear ho
        obtain ⟨q5a, q5n, q5c, rfl⟩ : ∃ a n c, q5 = .slice a n c := by obtain ⟨a, c, e⟩ := HN11.out.shape; exact ⟨_, _, _, e⟩
        go_wp2_with fail
        refine (psame_any _ _ (tdy l) (tdy l) w11 HN11.out HM11.out HLT.out HLT.out).mono ?_
        rw [decide_eq_true (Eq.refl (tdy l))]
        rintro e w12 ⟨rfl, hb⟩
        have HX12 := hidden (HX11.out.later hb)
        have HO12 := hidden (HO11.out.later hb)
        have HM12 := hidden (HM11.out.later hb)
        have HP12 := hidden (HP11.out.later hb)
        have HQ12 := hidden (HQ11.out.later hb)
        have HN12 := hidden (HN11.out.later hb)
        have HB12 := hidden (HB11.out.trans (hb.mono HB11.out.size))
        clear hb
        clear HX11 HO11 HM11 HP11 HQ11 HN11 HB11
        go_wp2_with fail
        go_ret
        exact ⟨by first | rfl | simp, HB12.out⟩

end Go.Proofs.Ytbbbphlojefgjaa
