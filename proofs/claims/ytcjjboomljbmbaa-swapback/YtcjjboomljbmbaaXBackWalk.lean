
/-
  The law SwapBack answers true at whatever steps, and leaves what lay in memory as it was.
-/
import Derived.Test.YtcjjboomljbmbaaXLaw
import Derived.Test.YtcjjboomljbmbaaVTrim
namespace Go.Proofs.Ytcjjboomljbmbaa
open Go.RowKit Go.Proofs.Ytcjjboomljbmbaa.Ln Go.Proofs.Ytcjjboomljbmbaa.Ol

theorem trm_lenX {l : List Oq} (h : right l = true) (a : Nat) : (trm l a).length ≤ 4294967296 := by
  obtain ⟨k, T⟩ := trm_is h a
  exact right_len T.rt_
set_option maxRecDepth 3000 in
set_option maxHeartbeats 8000000 in
theorem swapBack_any (vX : Value) (p : List Oq) (vY : Value) (q : List Oq) (w : World) (hX : OpsAt w vX p) (hlX : p.length ≤ 4398046511104) (hfX : Fit p) (hY : OpsAt w vY q) (hlY : q.length ≤ 4398046511104) (hfY : Fit q) :
    Calls Try.prog 6 #[vX, vY] w fun e w' => e = .returned (.bool true) ∧ Below w.heap.size w w' := by
  have HX0 := hidden hX
  have HY0 := hidden hY
  have HB0 := hidden (Below.refl w.heap.size w)
  have HFX := hidden hfX
  obtain ⟨aX, cX, rfl⟩ := hX.shape
  clear hX hfX
  have HFY := hidden hfY
  obtain ⟨aY, cY, rfl⟩ := hY.shape
  clear hY hfY
  go_enter Try.func6, Try.ntmps6
  go_wp2_with fail
  refine (alive15_any _).mono ?_
  rintro e w1 ⟨rfl, hb⟩
  have HX1 := hidden (HX0.out.later hb)
  have HY1 := hidden (HY0.out.later hb)
  have HB1 := hidden (HB0.out.trans (hb.mono HB0.out.size))
  clear hb
  go_wp2_with fail
  refine (few_any _ p w1 HX1.out (by omega)).mono ?_
  rintro e w' ⟨⟨c, rfl⟩, hw⟩
  subst w'
  cases c with
  | false =>
    go_wp2_with fail
    go_ret
    exact ⟨rfl, HB1.out⟩
  | true =>
    go_wp2_with fail
    refine (few_any _ q w1 HY1.out (by omega)).mono ?_
    rintro e w' ⟨⟨c, rfl⟩, hw⟩
    subst w'
    cases c with
    | false =>
      go_wp2_with fail
      go_ret
      exact ⟨rfl, HB1.out⟩
    | true =>
      obtain ⟨x, y, c, hr⟩ : ∃ x y c, swp p q = (x, y, c) := ⟨_, _, _, rfl⟩
      have HLx := hidden (show x.length ≤ 4294967296 by have := (swp_len p q).1; rw [hr] at this; exact this)
      have HLy := hidden (show y.length ≤ 4294967296 by have := (swp_len p q).2; rw [hr] at this; exact this)
      have HFx := hidden (show Fit x by have := (swp_fit HFX.out HFY.out).1; rw [hr] at this; exact this)
      have HFy := hidden (show Fit y by have := (swp_fit HFX.out HFY.out).2; rw [hr] at this; exact this)
      have HR := hidden hr
      clear hr
      go_wp2_with fail
      refine (swap_any _ _ p q w1 HX1.out HY1.out hlX hlY HFX.out HFY.out).mono ?_
      rintro e w2 ⟨q1, q2, rfl, ho, ho2, hb⟩
      simp only [HR.out] at ho ho2 ⊢
      have HX2 := hidden (HX1.out.later hb)
      have HY2 := hidden (HY1.out.later hb)
      have HB2 := hidden (HB1.out.trans (hb.mono HB1.out.size))
      clear hb
      clear HX1 HY1 HB1
      have HP2 := hidden ho
      clear ho
      obtain ⟨q1a, q1c, rfl⟩ := HP2.out.shape
      have HQ2 := hidden ho2
      clear ho2
      obtain ⟨q2a, q2c, rfl⟩ := HQ2.out.shape
      go_wp2_with fail
      refine (num15_any _ _).mono ?_
      rintro e w' ⟨rfl, hw⟩
      subst w'
      by_cases hc0 : c = 0
      · subst hc0
        obtain ⟨r, S⟩ := swp_some HR.out
        obtain ⟨a, b, e2, t1, t2⟩ := swp_back HR.out
        obtain ⟨r2, S2⟩ := swp_some e2
        have HE2 := hidden e2
        have HT1 := hidden (show trm a (arn 0) = trm p (arn 0) by rw [show arn 0 = 0 from rfl, trm_zero S2.rx, trm_zero S.rp]; exact t1)
        have HT2 := hidden (show trm b (arn 0) = trm q (arn 0) by rw [show arn 0 = 0 from rfl, trm_zero S2.ry, trm_zero S.rq]; exact t2)
        have HLa := hidden (right_len S2.rx)
        have HLb := hidden (right_len S2.ry)
        have HFa := hidden (show Fit a by have := (swp_fit HFx.out HFy.out).1; rw [e2] at this; exact this)
        have HFb := hidden (show Fit b by have := (swp_fit HFx.out HFy.out).2; rw [e2] at this; exact this)
        have HM1 := hidden (trm_lenX S2.rx (arn 0))
        have HM2 := hidden (trm_lenX S.rp (arn 0))
        have HM3 := hidden (trm_lenX S2.ry (arn 0))
        have HM4 := hidden (trm_lenX S.rq (arn 0))
        clear S S2 e2 t1 t2
        go_wp2_with fail
        refine (swap_any _ _ x y w2 HP2.out HQ2.out (by have := HLx.out; omega) (by have := HLy.out; omega) HFx.out HFy.out).mono ?_
        rintro e w3 ⟨q3, q4, rfl, ho, ho2, hb⟩
        simp only [HE2.out] at ho ho2 ⊢
        have HX3 := hidden (HX2.out.later hb)
        have HY3 := hidden (HY2.out.later hb)
        have HP3 := hidden (HP2.out.later hb)
        have HQ3 := hidden (HQ2.out.later hb)
        have HB3 := hidden (HB2.out.trans (hb.mono HB2.out.size))
        clear hb
        clear HX2 HY2 HP2 HQ2 HB2
        have HS3 := hidden ho
        clear ho
        obtain ⟨q3a, q3c, rfl⟩ := HS3.out.shape
        have HT3 := hidden ho2
        clear ho2
        obtain ⟨q4a, q4c, rfl⟩ := HT3.out.shape
        go_wp2_with fail
        refine (num15_any _ _).mono ?_
        rintro e w' ⟨rfl, hw⟩
        subst w'
        go_wp2_with fail
        refine (ptrim_any _ a 0 w3 HS3.out (by have := HLa.out; omega) HFa.out).mono ?_
        rintro e w4 ⟨q5, rfl, ho, hb⟩
        have HX4 := hidden (HX3.out.later hb)
        have HY4 := hidden (HY3.out.later hb)
        have HP4 := hidden (HP3.out.later hb)
        have HQ4 := hidden (HQ3.out.later hb)
        have HS4 := hidden (HS3.out.later hb)
        have HT4 := hidden (HT3.out.later hb)
        have HB4 := hidden (HB3.out.trans (hb.mono HB3.out.size))
        clear hb
        clear HX3 HY3 HP3 HQ3 HS3 HT3 HB3
        have HAS4 := hidden ho
        clear ho
        obtain ⟨q5a, q5c, rfl⟩ := HAS4.out.shape
        go_wp2_with fail
        refine (ptrim_any _ p 0 w4 HX4.out hlX HFX.out).mono ?_
        rintro e w5 ⟨q6, rfl, ho, hb⟩
        have HX5 := hidden (HX4.out.later hb)
        have HY5 := hidden (HY4.out.later hb)
        have HP5 := hidden (HP4.out.later hb)
        have HQ5 := hidden (HQ4.out.later hb)
        have HS5 := hidden (HS4.out.later hb)
        have HT5 := hidden (HT4.out.later hb)
        have HAS5 := hidden (HAS4.out.later hb)
        have HB5 := hidden (HB4.out.trans (hb.mono HB4.out.size))
        clear hb
        clear HX4 HY4 HP4 HQ4 HS4 HT4 HAS4 HB4
        have HBS5 := hidden ho
        clear ho
        obtain ⟨q6a, q6c, rfl⟩ := HBS5.out.shape
        go_wp2_with fail
        refine (psame_any _ _ (trm a (arn 0)) (trm p (arn 0)) w5 HAS5.out HBS5.out (by have := HM1.out; omega) (by have := HM2.out; omega)).mono ?_
        rw [decide_eq_true HT1.out]
        rintro e w6 ⟨rfl, hb⟩
        have HX6 := hidden (HX5.out.later hb)
        have HY6 := hidden (HY5.out.later hb)
        have HP6 := hidden (HP5.out.later hb)
        have HQ6 := hidden (HQ5.out.later hb)
        have HS6 := hidden (HS5.out.later hb)
        have HT6 := hidden (HT5.out.later hb)
        have HAS6 := hidden (HAS5.out.later hb)
        have HBS6 := hidden (HBS5.out.later hb)
        have HB6 := hidden (HB5.out.trans (hb.mono HB5.out.size))
        clear hb
        clear HX5 HY5 HP5 HQ5 HS5 HT5 HAS5 HBS5 HB5
        go_wp2_with fail
        refine (ptrim_any _ b 0 w6 HT6.out (by have := HLb.out; omega) HFb.out).mono ?_
        rintro e w7 ⟨q7, rfl, ho, hb⟩
        have HX7 := hidden (HX6.out.later hb)
        have HY7 := hidden (HY6.out.later hb)
        have HP7 := hidden (HP6.out.later hb)
        have HQ7 := hidden (HQ6.out.later hb)
        have HS7 := hidden (HS6.out.later hb)
        have HT7 := hidden (HT6.out.later hb)
        have HAS7 := hidden (HAS6.out.later hb)
        have HBS7 := hidden (HBS6.out.later hb)
        have HB7 := hidden (HB6.out.trans (hb.mono HB6.out.size))
        clear hb
        clear HX6 HY6 HP6 HQ6 HS6 HT6 HAS6 HBS6 HB6
        have HAT7 := hidden ho
        clear ho
        obtain ⟨q7a, q7c, rfl⟩ := HAT7.out.shape
        go_wp2_with fail
        refine (ptrim_any _ q 0 w7 HY7.out hlY HFY.out).mono ?_
        rintro e w8 ⟨q8, rfl, ho, hb⟩
        have HX8 := hidden (HX7.out.later hb)
        have HY8 := hidden (HY7.out.later hb)
        have HP8 := hidden (HP7.out.later hb)
        have HQ8 := hidden (HQ7.out.later hb)
        have HS8 := hidden (HS7.out.later hb)
        have HT8 := hidden (HT7.out.later hb)
        have HAS8 := hidden (HAS7.out.later hb)
        have HBS8 := hidden (HBS7.out.later hb)
        have HAT8 := hidden (HAT7.out.later hb)
        have HB8 := hidden (HB7.out.trans (hb.mono HB7.out.size))
        clear hb
        clear HX7 HY7 HP7 HQ7 HS7 HT7 HAS7 HBS7 HAT7 HB7
        have HBT8 := hidden ho
        clear ho
        obtain ⟨q8a, q8c, rfl⟩ := HBT8.out.shape
        go_wp2_with fail
        refine (psame_any _ _ (trm b (arn 0)) (trm q (arn 0)) w8 HAT8.out HBT8.out (by have := HM3.out; omega) (by have := HM4.out; omega)).mono ?_
        rw [decide_eq_true HT2.out]
        rintro e w9 ⟨rfl, hb⟩
        have HX9 := hidden (HX8.out.later hb)
        have HY9 := hidden (HY8.out.later hb)
        have HP9 := hidden (HP8.out.later hb)
        have HQ9 := hidden (HQ8.out.later hb)
        have HS9 := hidden (HS8.out.later hb)
        have HT9 := hidden (HT8.out.later hb)
        have HAS9 := hidden (HAS8.out.later hb)
        have HBS9 := hidden (HBS8.out.later hb)
        have HAT9 := hidden (HAT8.out.later hb)
        have HBT9 := hidden (HBT8.out.later hb)
        have HB9 := hidden (HB8.out.trans (hb.mono HB8.out.size))
        clear hb
        clear HX8 HY8 HP8 HQ8 HS8 HT8 HAS8 HBS8 HAT8 HBT8 HB8
        go_wp2_with fail
        go_ret
        exact ⟨by first | rfl | simp, HB9.out⟩
      · have hcb : (c != 0) = true := by simpa using hc0
        go_wp2_with fail
        go_ret
        exact ⟨by first | rfl | simp, HB2.out⟩

end Go.Proofs.Ytcjjboomljbmbaa
