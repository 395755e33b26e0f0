
/-
  The law ApplySame answers true at whatever steps and lines of at most 1048576 steps, lines and bytes, and leaves what lay in memory as it was.
-/
import Derived.Test.YtophhgbkcdeidaaALaw
import Derived.Test.YtophhgbkcdeidaaOPNorm
import Derived.Test.YtophhgbkcdeidaaOFacts
namespace Go.Proofs.Ytophhgbkcdeidaa
open Go.RowKit Go.Proofs.Ytophhgbkcdeidaa.Ln Go.Proofs.Ytophhgbkcdeidaa.Ol

set_option maxRecDepth 3000 in
set_option maxHeartbeats 8000000 in
theorem applySame_any (v : Value) (xs : List Oq) (u : Value) (old : List Tx) (w : World) (hX : OpsAt w v xs) (hlx : xs.length ≤ 1048576) (hfX : Fit xs) (hY : RowAt w u old) (hlo : old.length ≤ 1048576) (hno : old.flatten.length ≤ 1048576) :
    Calls Try.prog 4 #[v, u] w fun e w' => e = .returned (.bool true) ∧ Below w.heap.size w w' := by
  have HX0 := hidden hX
  have HY0 := hidden hY
  have HB0 := hidden (Below.refl w.heap.size w)
  have HFX := hidden hfX
  have HNO := hidden hno
  have HFO := hidden (fitT_flat hno)
  obtain ⟨ao, cap, rfl⟩ := hX.shape
  obtain ⟨bo, cap2, rfl⟩ := hY.shape
  clear hX hY hfX hno
  go_enter Try.func4, Try.ntmps4
  go_wp2_with fail
  refine (alive9_any _).mono ?_
  rintro e w1 ⟨rfl, hb⟩
  have HX1 := hidden (HX0.out.later hb)
  have HY1 := hidden (HY0.out.later hb)
  have HB1 := hidden (HB0.out.trans (hb.mono HB0.out.size))
  clear hb
  go_wp2_with fail
  refine (few_any _ xs w1 HX1.out (by omega)).mono ?_
  rintro e w' ⟨⟨c, rfl⟩, hw⟩
  subst w'
  cases c with
  | false =>
    go_wp2_with fail
    go_ret
    exact ⟨rfl, HB1.out⟩
  | true =>
    go_wp2_with fail
    refine (short_any _ old w1 HY1.out (by omega) (by have := HNO.out; omega)).mono ?_
    rintro e w2 ⟨⟨c, rfl⟩, hb⟩
    have HX2 := hidden (HX1.out.later hb)
    have HY2 := hidden (HY1.out.later hb)
    have HB2 := hidden (HB1.out.trans (hb.mono HB1.out.size))
    clear hb
    clear HX1 HY1 HB1
    cases c with
    | false =>
      go_wp2_with fail
      go_ret
      exact ⟨rfl, HB2.out⟩
    | true =>
      cases hrt : right xs with
      | false =>
        have HRT := hidden hrt
        clear hrt
        go_wp2_with fail
        refine (pright_any _ xs w2 HX2.out (by omega) HFX.out).mono ?_
        rw [HRT.out]
        rintro e w3 ⟨rfl, hb⟩
        have HX3 := hidden (HX2.out.later hb)
        have HY3 := hidden (HY2.out.later hb)
        have HB3 := hidden (HB2.out.trans (hb.mono HB2.out.size))
        clear hb
        clear HX2 HY2 HB2
        go_wp2_with fail
        go_ret
        exact ⟨by first | rfl | simp, HB3.out⟩
      | true =>
        have HRT := hidden hrt
        clear hrt
        obtain ⟨r, hr⟩ : ∃ r, doo xs old = r := ⟨_, rfl⟩
        have HLR := hidden (show (r.getD []).length ≤ 4398046511104 by
          cases r with
          | none => simp
          | some a => have := doo_len hr; show a.length ≤ _; omega)
        have HR := hidden hr
        have HN := hidden (show doo (normL xs) old = r by unfold normL; rw [if_pos HRT.out, doo_nrm xs old HRT.out]; exact hr)
        have HNF := hidden (show Fit (normL xs) by unfold normL; rw [if_pos HRT.out]; exact fit_nrm HFX.out)
        have HNL := hidden (show (normL xs).length ≤ 1048576 by
          unfold normL; rw [if_pos HRT.out]; have := nfo_len xs; unfold nrm; rw [List.length_append]; omega)
        clear hr
        go_wp2_with fail
        refine (pright_any _ xs w2 HX2.out (by omega) HFX.out).mono ?_
        rw [HRT.out]
        rintro e w3 ⟨rfl, hb⟩
        have HX3 := hidden (HX2.out.later hb)
        have HY3 := hidden (HY2.out.later hb)
        have HB3 := hidden (HB2.out.trans (hb.mono HB2.out.size))
        clear hb
        clear HX2 HY2 HB2
        go_wp2_with fail
        refine (do_any _ xs _ old w3 HX3.out HY3.out (by omega) HFX.out HFO.out).mono ?_
        rw [HR.out]
        rintro e w4 ⟨q1, rfl, ho, hb⟩
        have HX4 := hidden (HX3.out.later hb)
        have HY4 := hidden (HY3.out.later hb)
        have HB4 := hidden (HB3.out.trans (hb.mono HB3.out.size))
        clear hb
        clear HX3 HY3 HB3
        have HP4 := hidden (RowAt.of_owns ho)
        clear ho
        go_wp2_with fail
        refine (pnormR_any _ xs w4 HX4.out (by omega) HFX.out).mono ?_
        rintro e w5 ⟨vR, rfl, hnew, hb⟩
        have HX5 := hidden (HX4.out.later hb)
        have HY5 := hidden (HY4.out.later hb)
        have HP5 := hidden (HP4.out.later hb)
        have HB5 := hidden (HB4.out.trans (hb.mono HB4.out.size))
        clear hb
        clear HX4 HY4 HP4 HB4
        have HM5 := hidden hnew
        clear hnew
        obtain ⟨ma, mn, mc, rfl⟩ : ∃ a n c, vR = .slice a n c := by obtain ⟨a, c, e⟩ := HM5.out.shape; exact ⟨_, _, _, e⟩
        go_wp2_with fail
        refine (do_any _ (normL xs) _ old w5 HM5.out HY5.out (by have := HNL.out; omega) HNF.out HFO.out).mono ?_
        rw [HN.out]
        rintro e w6 ⟨q2, rfl, ho, hb⟩
        have HX6 := hidden (HX5.out.later hb)
        have HY6 := hidden (HY5.out.later hb)
        have HP6 := hidden (HP5.out.later hb)
        have HM6 := hidden (HM5.out.later hb)
        have HB6 := hidden (HB5.out.trans (hb.mono HB5.out.size))
        clear hb
        clear HX5 HY5 HP5 HM5 HB5
        have HQ6 := hidden (RowAt.of_owns ho)
        clear ho
        obtain ⟨qa, qn, qc, rfl⟩ : ∃ a n c, q1 = .slice a n c := by obtain ⟨a, c, e⟩ := HP6.out.shape; exact ⟨_, _, _, e⟩
        obtain ⟨qa2, qn2, qc2, rfl⟩ : ∃ a n c, q2 = .slice a n c := by obtain ⟨a, c, e⟩ := HQ6.out.shape; exact ⟨_, _, _, e⟩
        obtain ⟨b, hb0⟩ : ∃ b, r.isSome = b := ⟨_, rfl⟩
        rw [hb0]
        clear hb0
        have hbb : (b == b) = true := by simp
        go_wp2_with fail
        refine (sameTexts_any _ _ _ _ w6 HP6.out HQ6.out HLR.out HLR.out).mono ?_
        rw [decide_eq_true (Eq.refl (r.getD []))]
        rintro e w7 ⟨rfl, hb⟩
        have HX7 := hidden (HX6.out.later hb)
        have HY7 := hidden (HY6.out.later hb)
        have HP7 := hidden (HP6.out.later hb)
        have HM7 := hidden (HM6.out.later hb)
        have HQ7 := hidden (HQ6.out.later hb)
        have HB7 := hidden (HB6.out.trans (hb.mono HB6.out.size))
        clear hb
        clear HX6 HY6 HP6 HM6 HQ6 HB6
        go_wp2_with fail
        go_ret
        exact ⟨by first | rfl | simp, HB7.out⟩

end Go.Proofs.Ytophhgbkcdeidaa
