
/-
  The law FlipTwice answers true at whatever steps, and leaves what lay in memory as it was.
-/
import Derived.Test.YtebikpdjamnhbaaFAlive
import Derived.Test.YtebikpdjamnhbaaOFacts
namespace Go.Proofs.Ytebikpdjamnhbaa
open Go.RowKit Go.Proofs.Ytebikpdjamnhbaa.Ln Go.Proofs.Ytebikpdjamnhbaa.Ol

set_option maxRecDepth 3000 in
set_option maxHeartbeats 8000000 in
theorem flipTwice_any (v : Value) (xs : List Oq) (w : World) (hX : OpsAt w v xs) (hlx : xs.length ≤ 4398046511104) (hfX : Fit xs) :
    Calls Try.prog 4 #[v] w fun e w' => e = .returned (.bool true) ∧ Below w.heap.size w w' := by
  have HX0 := hidden hX
  have HB0 := hidden (Below.refl w.heap.size w)
  have HFX := hidden hfX
  obtain ⟨ao, cap, rfl⟩ := hX.shape
  clear hX hfX
  go_enter Try.func4, Try.ntmps4
  go_wp2_with fail
  refine (alive10_any _).mono ?_
  rintro e w1 ⟨rfl, hb⟩
  have HX1 := hidden (HX0.out.later hb)
  have HB1 := hidden (HB0.out.trans (hb.mono HB0.out.size))
  clear hb
  go_wp2_with fail
  refine (few_any _ xs w1 HX1.out (by omega)).mono ?_
  rintro e w' ⟨⟨c, rfl⟩, hw⟩
  subst w'
  cases c with
  | false =>
    go_wp2_with fail
    go_ret
    exact ⟨rfl, HB1.out⟩
  | true =>
    cases hrt : right xs with
    | false =>
      have HRT := hidden hrt
      clear hrt
      go_wp2_with fail
      refine (pright_any _ xs w1 HX1.out (by omega) HFX.out).mono ?_
      rw [HRT.out]
      rintro e w2 ⟨rfl, hb⟩
      have HX2 := hidden (HX1.out.later hb)
      have HB2 := hidden (HB1.out.trans (hb.mono HB1.out.size))
      clear hb
      clear HX1 HB1
      go_wp2_with fail
      go_ret
      exact ⟨by first | rfl | simp, HB2.out⟩
    | true =>
      obtain ⟨k1, k2, k3, k4⟩ := flN_facts hrt
      have HRT := hidden hrt
      have Hk1 := hidden (show cnt 3 (flN xs) = cnt 4 xs by unfold cnt; rw [k1])
      have Hk2 := hidden (show cnt 4 (flN xs) = cnt 3 xs by unfold cnt; rw [k2])
      have Hk4 := hidden k4
      have HRM := hidden (right_flN hrt)
      have HTW := hidden (show flN (flN xs) = nrm xs from flN_twice hrt)
      have HN := hidden (show normL xs = nrm xs by unfold normL; rw [if_pos hrt])
      have HLM := hidden (Nat.le_trans (flN_len xs) hlx)
      have HFM := hidden (fit_flN HFX.out)
      have HLN := hidden (show (nrm xs).length ≤ 4398046511104 by
        unfold nrm; rw [List.length_append]; exact Nat.le_trans (nfo_len xs) hlx)
      have HLK := hidden (Nat.le_trans (kn_len 3 xs) hlx)
      clear hrt k1 k2 k3 k4
      go_wp2_with fail
      refine (pright_any _ xs w1 HX1.out (by omega) HFX.out).mono ?_
      rw [HRT.out]
      rintro e w2 ⟨rfl, hb⟩
      have HX2 := hidden (HX1.out.later hb)
      have HB2 := hidden (HB1.out.trans (hb.mono HB1.out.size))
      clear hb
      clear HX1 HB1
      go_wp2_with fail
      refine (flip_any _ xs w2 HX2.out hlx HFX.out).mono ?_
      rintro e w3 ⟨q1, rfl, ho, hb⟩
      have HX3 := hidden (HX2.out.later hb)
      have HB3 := hidden (HB2.out.trans (hb.mono HB2.out.size))
      clear hb
      clear HX2 HB2
      have HM3 := hidden ho
      clear ho
      obtain ⟨q1a, q1n, q1c, rfl⟩ : ∃ a n c, q1 = .slice a n c := by obtain ⟨a, c, e⟩ := HM3.out.shape; exact ⟨_, _, _, e⟩
      go_wp2_with fail
      refine (pright_any _ (flN xs) w3 HM3.out HLM.out HFM.out).mono ?_
      rw [HRM.out]
      rintro e w4 ⟨rfl, hb⟩
      have HX4 := hidden (HX3.out.later hb)
      have HM4 := hidden (HM3.out.later hb)
      have HB4 := hidden (HB3.out.trans (hb.mono HB3.out.size))
      clear hb
      clear HX3 HM3 HB3
      go_wp2_with fail
      refine (flip_any _ (flN xs) w4 HM4.out HLM.out HFM.out).mono ?_
      rw [HTW.out]
      rintro e w5 ⟨q2, rfl, ho, hb⟩
      have HX5 := hidden (HX4.out.later hb)
      have HM5 := hidden (HM4.out.later hb)
      have HB5 := hidden (HB4.out.trans (hb.mono HB4.out.size))
      clear hb
      clear HX4 HM4 HB4
      have HP5 := hidden ho
      clear ho
      obtain ⟨q2a, q2n, q2c, rfl⟩ : ∃ a n c, q2 = .slice a n c := by obtain ⟨a, c, e⟩ := HP5.out.shape; exact ⟨_, _, _, e⟩
      go_wp2_with fail
      refine (pnormR_any _ xs w5 HX5.out hlx HFX.out).mono ?_
      rw [HN.out]
      rintro e w6 ⟨q3, rfl, ho, hb⟩
      have HX6 := hidden (HX5.out.later hb)
      have HM6 := hidden (HM5.out.later hb)
      have HP6 := hidden (HP5.out.later hb)
      have HB6 := hidden (HB5.out.trans (hb.mono HB5.out.size))
      clear hb
      clear HX5 HM5 HP5 HB5
      have HQ6 := hidden ho
      clear ho
      obtain ⟨q3a, q3n, q3c, rfl⟩ : ∃ a n c, q3 = .slice a n c := by obtain ⟨a, c, e⟩ := HQ6.out.shape; exact ⟨_, _, _, e⟩
      go_wp2_with fail
      refine (psame_any _ _ _ _ w6 HP6.out HQ6.out HLN.out HLN.out).mono ?_
      rw [decide_eq_true (Eq.refl (nrm xs))]
      rintro e w7 ⟨rfl, hb⟩
      have HX7 := hidden (HX6.out.later hb)
      have HM7 := hidden (HM6.out.later hb)
      have HP7 := hidden (HP6.out.later hb)
      have HQ7 := hidden (HQ6.out.later hb)
      have HB7 := hidden (HB6.out.trans (hb.mono HB6.out.size))
      clear hb
      clear HX6 HM6 HP6 HQ6 HB6
      obtain ⟨c3, hc3⟩ : ∃ r, cnt 3 xs = r := ⟨_, rfl⟩
      obtain ⟨c4, hc4⟩ : ∃ r, cnt 4 xs = r := ⟨_, rfl⟩
      have Hc3 := hidden hc3
      have Hc4 := hidden hc4
      clear hc3 hc4
      have e3 : (c3 == c3) = true := by simp
      have e4 : (c4 == c4) = true := by simp
      go_wp2_with fail
      refine (polds_any _ (flN xs) w7 HM7.out HLM.out).mono ?_
      rw [Hk1.out, Hc4.out]
      rintro e w8 ⟨rfl, hb⟩
      have HX8 := hidden (HX7.out.later hb)
      have HM8 := hidden (HM7.out.later hb)
      have HP8 := hidden (HP7.out.later hb)
      have HQ8 := hidden (HQ7.out.later hb)
      have HB8 := hidden (HB7.out.trans (hb.mono HB7.out.size))
      clear hb
      clear HX7 HM7 HP7 HQ7 HB7
      go_wp2_with fail
      refine (pnews_any _ xs w8 HX8.out hlx).mono ?_
      rw [Hc4.out]
      rintro e w9 ⟨rfl, hb⟩
      have HX9 := hidden (HX8.out.later hb)
      have HM9 := hidden (HM8.out.later hb)
      have HP9 := hidden (HP8.out.later hb)
      have HQ9 := hidden (HQ8.out.later hb)
      have HB9 := hidden (HB8.out.trans (hb.mono HB8.out.size))
      clear hb
      clear HX8 HM8 HP8 HQ8 HB8
      go_wp2_with fail
      refine (pnews_any _ (flN xs) w9 HM9.out HLM.out).mono ?_
      rw [Hk2.out, Hc3.out]
      rintro e w10 ⟨rfl, hb⟩
      have HX10 := hidden (HX9.out.later hb)
      have HM10 := hidden (HM9.out.later hb)
      have HP10 := hidden (HP9.out.later hb)
      have HQ10 := hidden (HQ9.out.later hb)
      have HB10 := hidden (HB9.out.trans (hb.mono HB9.out.size))
      clear hb
      clear HX9 HM9 HP9 HQ9 HB9
      go_wp2_with fail
      refine (polds_any _ xs w10 HX10.out hlx).mono ?_
      rw [Hc3.out]
      rintro e w11 ⟨rfl, hb⟩
      have HX11 := hidden (HX10.out.later hb)
      have HM11 := hidden (HM10.out.later hb)
      have HP11 := hidden (HP10.out.later hb)
      have HQ11 := hidden (HQ10.out.later hb)
      have HB11 := hidden (HB10.out.trans (hb.mono HB10.out.size))
      clear hb
      clear HX10 HM10 HP10 HQ10 HB10
      go_wp2_with fail
      refine (known_any 4 _ (flN xs) w11 HM11.out HLM.out).mono ?_
      rw [Hk4.out]
      rintro e w12 ⟨t1, rfl, ho, hb⟩
      have HX12 := hidden (HX11.out.later hb)
      have HM12 := hidden (HM11.out.later hb)
      have HP12 := hidden (HP11.out.later hb)
      have HQ12 := hidden (HQ11.out.later hb)
      have HB12 := hidden (HB11.out.trans (hb.mono HB11.out.size))
      clear hb
      clear HX11 HM11 HP11 HQ11 HB11
      have HR12 := hidden ho
      clear ho
      obtain ⟨t1a, t1n, t1c, rfl⟩ : ∃ a n c, t1 = .slice a n c := by obtain ⟨a, c, e⟩ := HR12.out.shape; exact ⟨_, _, _, e⟩
      go_wp2_with fail
      refine (known_any 3 _ xs w12 HX12.out hlx).mono ?_
      rintro e w13 ⟨t2, rfl, ho, hb⟩
      have HX13 := hidden (HX12.out.later hb)
      have HM13 := hidden (HM12.out.later hb)
      have HP13 := hidden (HP12.out.later hb)
      have HQ13 := hidden (HQ12.out.later hb)
      have HR13 := hidden (HR12.out.later hb)
      have HB13 := hidden (HB12.out.trans (hb.mono HB12.out.size))
      clear hb
      clear HX12 HM12 HP12 HQ12 HR12 HB12
      have HT13 := hidden ho
      clear ho
      obtain ⟨t2a, t2n, t2c, rfl⟩ : ∃ a n c, t2 = .slice a n c := by obtain ⟨a, c, e⟩ := HT13.out.shape; exact ⟨_, _, _, e⟩
      go_wp2_with fail
      refine (sameTexts_any _ _ _ _ w13 HR13.out HT13.out HLK.out HLK.out).mono ?_
      rw [decide_eq_true (Eq.refl (kn 3 xs))]
      rintro e w14 ⟨rfl, hb⟩
      have HX14 := hidden (HX13.out.later hb)
      have HM14 := hidden (HM13.out.later hb)
      have HP14 := hidden (HP13.out.later hb)
      have HQ14 := hidden (HQ13.out.later hb)
      have HR14 := hidden (HR13.out.later hb)
      have HT14 := hidden (HT13.out.later hb)
      have HB14 := hidden (HB13.out.trans (hb.mono HB13.out.size))
      clear hb
      clear HX13 HM13 HP13 HQ13 HR13 HT13 HB13
      go_wp2_with fail
      go_ret
      exact ⟨by first | rfl | simp, HB14.out⟩

end Go.Proofs.Ytebikpdjamnhbaa
