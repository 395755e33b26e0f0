/-
  The law OpsNorm answers true at whatever steps, and leaves what lay in memory as it was.
-/
import Derived.Test.YtkmoilfjaejjpaaOLaw
import Derived.Test.YtkmoilfjaejjpaaOFacts
namespace Go.Proofs.Ytkmoilfjaejjpaa
open Go.RowKit Go.Proofs.Ytkmoilfjaejjpaa.Ln Go.Proofs.Ytkmoilfjaejjpaa.Ol

set_option maxRecDepth 3000 in
set_option maxHeartbeats 8000000 in
theorem opsNorm_any (v : Value) (xs : List Oq) (w : World) (hX : OpsAt w v xs) (hlx : xs.length ≤ 4398046511104) (hfX : Fit xs) :
    Calls Try.prog 4 #[v] w fun e w' => e = .returned (.bool true) ∧ Below w.heap.size w w' := by
  have HX0 := hidden hX
  have HB0 := hidden (Below.refl w.heap.size w)
  have HFX := hidden hfX
  obtain ⟨ao, cap, rfl⟩ := hX.shape
  clear hX hfX
  go_enter Try.func4, Try.ntmps4
  go_wp2_with fail
  refine (alive_any _).mono ?_
  rintro e w1 ⟨rfl, hb⟩
  have HX1 := hidden (HX0.out.later hb)
  have HB1 := hidden (HB0.out.trans (hb.mono HB0.out.size))
  clear hb
  go_wp2_with fail
  refine (few_any _ xs w1 HX1.out hlx).mono ?_
  rintro e w' ⟨⟨c, rfl⟩, hw⟩
  subst w'
  cases c with
  | false =>
    go_wp2_with fail
    go_ret
    exact ⟨rfl, HB1.out⟩
  | true =>
    cases hrt : right xs with
    | false =>
      have HRT := hidden hrt
      clear hrt
      go_wp2_with fail
      refine (pright_any _ xs w1 HX1.out hlx HFX.out).mono ?_
      rw [HRT.out]
      rintro e w2 ⟨rfl, hb⟩
      have HX2 := hidden (HX1.out.later hb)
      have HB2 := hidden (HB1.out.trans (hb.mono HB1.out.size))
      clear hb
      clear HX1 HB1
      go_wp2_with fail
      go_ret
      exact ⟨rfl, HB2.out⟩
    | true =>
      obtain ⟨k1, k2, k3, k4, k5, k6⟩ := kept_nrm hrt
      have Hk1 := hidden k1
      have Hk2 := hidden k2
      have Hk3 := hidden k3
      have Hk4 := hidden k4
      have Hk5 := hidden k5
      have HRT := hidden hrt
      have HRN := hidden (right_nrm hrt)
      have HN := hidden (show normL xs = nrm xs by simp [normL, hrt])
      have HNN := hidden (show normL (nrm xs) = nrm xs by simp only [normL, right_nrm hrt, if_true]; exact nrm_nrm xs)
      have HFN := hidden (show Fit (nrm xs) from fun y hy => by obtain ⟨x, hx, e⟩ := nrm_text xs y hy; rw [e]; exact HFX.out x hx)
      have hlm : (nrm xs).length ≤ 4398046511104 := by omega
      have hk6 : ((nrm xs).length : Int) ≤ xs.length := by omega
      clear hrt k1 k2 k3 k4 k5
      go_wp2_with fail
      refine (pright_any _ xs w1 HX1.out hlx HFX.out).mono ?_
      rw [HRT.out]
      rintro e w2 ⟨rfl, hb⟩
      have HX2 := hidden (HX1.out.later hb)
      have HB2 := hidden (HB1.out.trans (hb.mono HB1.out.size))
      clear hb
      clear HX1 HB1
      go_wp2_with fail
      refine (onorm_any _ xs w2 HX2.out hlx HFX.out).mono ?_
      rw [HN.out]
      rintro e w3 ⟨vM, rfl, hnew, hb⟩
      have HX3 := hidden (HX2.out.later hb)
      have HB3 := hidden (HB2.out.trans (hb.mono HB2.out.size))
      clear hb
      clear HX2 HB2
      have HM3 := hidden hnew
      clear hnew
      obtain ⟨mo, mc, rfl⟩ := HM3.out.shape
      go_wp2_with fail
      refine (oright_any _ (nrm xs) w3 HM3.out hlm HFN.out).mono ?_
      rw [HRN.out]
      rintro e w4 ⟨rfl, hb⟩
      have HX4 := hidden (HX3.out.later hb)
      have HM4 := hidden (HM3.out.later hb)
      have HB4 := hidden (HB3.out.trans (hb.mono HB3.out.size))
      clear hb
      clear HX3 HM3 HB3
      go_wp2_with fail
      refine (onorm_any _ (nrm xs) w4 HM4.out hlm HFN.out).mono ?_
      rw [HNN.out]
      rintro e w5 ⟨vR, rfl, hnew, hb⟩
      have HX5 := hidden (HX4.out.later hb)
      have HM5 := hidden (HM4.out.later hb)
      have HB5 := hidden (HB4.out.trans (hb.mono HB4.out.size))
      clear hb
      clear HX4 HM4 HB4
      have HR5 := hidden hnew
      clear hnew
      go_wp2_with fail
      refine (osame_any _ _ (nrm xs) (nrm xs) w5 HR5.out HM5.out hlm hlm).mono ?_
      rw [show decide (nrm xs = nrm xs) = true by simp]
      rintro e w6 ⟨rfl, hb⟩
      have HX6 := hidden (HX5.out.later hb)
      have HM6 := hidden (HM5.out.later hb)
      have HR6 := hidden (HR5.out.later hb)
      have HB6 := hidden (HB5.out.trans (hb.mono HB5.out.size))
      clear hb
      clear HX5 HM5 HR5 HB5
      obtain ⟨q3, hq3⟩ : ∃ r, cnt 3 xs = r := ⟨_, rfl⟩
      obtain ⟨q4, hq4⟩ : ∃ r, cnt 4 xs = r := ⟨_, rfl⟩
      obtain ⟨qc, hqc⟩ : ∃ r : Int, ((chs xs : Nat) : Int) = r := ⟨_, rfl⟩
      have Hq3 := hidden hq3
      have Hq4 := hidden hq4
      have Hqc := hidden hqc
      clear hq3 hq4 hqc
      go_wp2_with fail
      refine (oolds_any _ (nrm xs) w6 HM6.out hlm).mono ?_
      rw [Hk1.out, Hq3.out]
      rintro e w7 ⟨rfl, hb⟩
      have HX7 := hidden (HX6.out.later hb)
      have HM7 := hidden (HM6.out.later hb)
      have HB7 := hidden (HB6.out.trans (hb.mono HB6.out.size))
      clear hb
      clear HX6 HM6 HB6
      go_wp2_with fail
      refine (oolds_any _ xs w7 HX7.out hlx).mono ?_
      rw [Hq3.out]
      rintro e w8 ⟨rfl, hb⟩
      have HX8 := hidden (HX7.out.later hb)
      have HM8 := hidden (HM7.out.later hb)
      have HB8 := hidden (HB7.out.trans (hb.mono HB7.out.size))
      clear hb
      clear HX7 HM7 HB7
      go_wp2_with fail
      refine (onews_any _ (nrm xs) w8 HM8.out hlm).mono ?_
      rw [Hk2.out, Hq4.out]
      rintro e w9 ⟨rfl, hb⟩
      have HX9 := hidden (HX8.out.later hb)
      have HM9 := hidden (HM8.out.later hb)
      have HB9 := hidden (HB8.out.trans (hb.mono HB8.out.size))
      clear hb
      clear HX8 HM8 HB8
      go_wp2_with fail
      refine (onews_any _ xs w9 HX9.out hlx).mono ?_
      rw [Hq4.out]
      rintro e w10 ⟨rfl, hb⟩
      have HX10 := hidden (HX9.out.later hb)
      have HM10 := hidden (HM9.out.later hb)
      have HB10 := hidden (HB9.out.trans (hb.mono HB9.out.size))
      clear hb
      clear HX9 HM9 HB9
      go_wp2_with fail
      refine (ochanges_any _ (nrm xs) w10 HM10.out hlm).mono ?_
      rw [Hk3.out, Hqc.out]
      rintro e w11 ⟨rfl, hb⟩
      have HX11 := hidden (HX10.out.later hb)
      have HM11 := hidden (HM10.out.later hb)
      have HB11 := hidden (HB10.out.trans (hb.mono HB10.out.size))
      clear hb
      clear HX10 HM10 HB10
      go_wp2_with fail
      refine (ochanges_any _ xs w11 HX11.out hlx).mono ?_
      rw [Hqc.out]
      rintro e w12 ⟨rfl, hb⟩
      have HX12 := hidden (HX11.out.later hb)
      have HM12 := hidden (HM11.out.later hb)
      have HB12 := hidden (HB11.out.trans (hb.mono HB11.out.size))
      clear hb
      clear HX11 HM11 HB11
      go_wp2_with fail
      refine (known_any 4 _ (nrm xs) w12 HM12.out hlm).mono ?_
      rw [Hk5.out]
      rintro e w13 ⟨vT4, rfl, hnew, hb⟩
      have HX13 := hidden (HX12.out.later hb)
      have HM13 := hidden (HM12.out.later hb)
      have HB13 := hidden (HB12.out.trans (hb.mono HB12.out.size))
      clear hb
      clear HX12 HM12 HB12
      have HT413 := hidden hnew
      clear hnew
      go_wp2_with fail
      refine (known_any 4 _ xs w13 HX13.out hlx).mono ?_
      rintro e w14 ⟨vU4, rfl, hnew, hb⟩
      have HX14 := hidden (HX13.out.later hb)
      have HM14 := hidden (HM13.out.later hb)
      have HT414 := hidden (HT413.out.later hb)
      have HB14 := hidden (HB13.out.trans (hb.mono HB13.out.size))
      clear hb
      clear HX13 HM13 HT413 HB13
      have HU414 := hidden hnew
      clear hnew
      have hlk : (kn 4 xs).length ≤ 4398046511104 := Nat.le_trans (kn_len _ _) hlx
      go_wp2_with fail
      refine (sameTexts_any _ _ (kn 4 xs) (kn 4 xs) w14 HT414.out HU414.out hlk hlk).mono ?_
      rw [show decide (kn 4 xs = kn 4 xs) = true by simp]
      rintro e w15 ⟨rfl, hb⟩
      have HX15 := hidden (HX14.out.later hb)
      have HM15 := hidden (HM14.out.later hb)
      have HT415 := hidden (HT414.out.later hb)
      have HU415 := hidden (HU414.out.later hb)
      have HB15 := hidden (HB14.out.trans (hb.mono HB14.out.size))
      clear hb
      clear HX14 HM14 HT414 HU414 HB14
      go_wp2_with fail
      refine (known_any 3 _ (nrm xs) w15 HM15.out hlm).mono ?_
      rw [Hk4.out]
      rintro e w16 ⟨vT3, rfl, hnew, hb⟩
      have HX16 := hidden (HX15.out.later hb)
      have HM16 := hidden (HM15.out.later hb)
      have HB16 := hidden (HB15.out.trans (hb.mono HB15.out.size))
      clear hb
      clear HX15 HM15 HB15
      have HT316 := hidden hnew
      clear hnew
      go_wp2_with fail
      refine (known_any 3 _ xs w16 HX16.out hlx).mono ?_
      rintro e w17 ⟨vU3, rfl, hnew, hb⟩
      have HX17 := hidden (HX16.out.later hb)
      have HM17 := hidden (HM16.out.later hb)
      have HT317 := hidden (HT316.out.later hb)
      have HB17 := hidden (HB16.out.trans (hb.mono HB16.out.size))
      clear hb
      clear HX16 HM16 HT316 HB16
      have HU317 := hidden hnew
      clear hnew
      have hlk : (kn 3 xs).length ≤ 4398046511104 := Nat.le_trans (kn_len _ _) hlx
      go_wp2_with fail
      refine (sameTexts_any _ _ (kn 3 xs) (kn 3 xs) w17 HT317.out HU317.out hlk hlk).mono ?_
      rw [show decide (kn 3 xs = kn 3 xs) = true by simp]
      rintro e w18 ⟨rfl, hb⟩
      have HX18 := hidden (HX17.out.later hb)
      have HM18 := hidden (HM17.out.later hb)
      have HT318 := hidden (HT317.out.later hb)
      have HU318 := hidden (HU317.out.later hb)
      have HB18 := hidden (HB17.out.trans (hb.mono HB17.out.size))
      clear hb
      clear HX17 HM17 HT317 HU317 HB17
      go_wp2_with fail
      go_ret
      exact ⟨by first | rfl | simp [hk6] | (simp; omega), HB18.out⟩

end Go.Proofs.Ytkmoilfjaejjpaa
