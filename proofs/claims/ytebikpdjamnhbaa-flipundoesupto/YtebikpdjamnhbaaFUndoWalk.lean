
/-
  The law FlipUndoes answers true at whatever steps and lines of at most 1048576 steps, lines and bytes, and leaves what lay in memory as it was.
-/
import Derived.Test.YtebikpdjamnhbaaFAlive
import Derived.Test.YtebikpdjamnhbaaALaw
namespace Go.Proofs.Ytebikpdjamnhbaa
open Go.RowKit Go.Proofs.Ytebikpdjamnhbaa.Ln Go.Proofs.Ytebikpdjamnhbaa.Ol

set_option maxRecDepth 3000 in
set_option maxHeartbeats 8000000 in
theorem flipUndoes_any (v : Value) (xs : List Oq) (u : Value) (old : List Tx) (w : World) (hX : OpsAt w v xs) (hlx : xs.length ≤ 1048576) (hfX : Fit xs) (hY : RowAt w u old) (hlo : old.length ≤ 1048576) (hno : old.flatten.length ≤ 1048576) :
    Calls Try.prog 5 #[v, u] w fun e w' => e = .returned (.bool true) ∧ Below w.heap.size w w' := by
  have HX0 := hidden hX
  have HY0 := hidden hY
  have HB0 := hidden (Below.refl w.heap.size w)
  have HFX := hidden hfX
  have HNO := hidden hno
  have HFO := hidden (fitT_flat hno)
  obtain ⟨ao, cap, rfl⟩ := hX.shape
  obtain ⟨bo, cap2, rfl⟩ := hY.shape
  clear hX hY hfX hno
  go_enter Try.func5, Try.ntmps5
  go_wp2_with fail
  refine (alive10_any _).mono ?_
  rintro e w1 ⟨rfl, hb⟩
  have HX1 := hidden (HX0.out.later hb)
  have HY1 := hidden (HY0.out.later hb)
  have HB1 := hidden (HB0.out.trans (hb.mono HB0.out.size))
  clear hb
  go_wp2_with fail
  refine (few_any _ xs w1 HX1.out (by omega)).mono ?_
  rintro e w' ⟨⟨c, rfl⟩, hw⟩
  subst w'
  cases c with
  | false =>
    go_wp2_with fail
    go_ret
    exact ⟨rfl, HB1.out⟩
  | true =>
    go_wp2_with fail
    refine (short_any _ old w1 HY1.out (by omega) (by have := HNO.out; omega)).mono ?_
    rintro e w2 ⟨⟨c, rfl⟩, hb⟩
    have HX2 := hidden (HX1.out.later hb)
    have HY2 := hidden (HY1.out.later hb)
    have HB2 := hidden (HB1.out.trans (hb.mono HB1.out.size))
    clear hb
    clear HX1 HY1 HB1
    cases c with
    | false =>
      go_wp2_with fail
      go_ret
      exact ⟨rfl, HB2.out⟩
    | true =>
      obtain ⟨r, hr⟩ : ∃ r, doo xs old = r := ⟨_, rfl⟩
      have HR := hidden hr
      cases r with
      | none =>
        clear hr
        go_wp2_with fail
        refine (pdo_any _ xs _ old w2 HX2.out HY2.out (by omega) HFX.out HFO.out).mono ?_
        rw [HR.out]
        rintro e w3 ⟨q1, rfl, ho, hb⟩
        have HX3 := hidden (HX2.out.later hb)
        have HY3 := hidden (HY2.out.later hb)
        have HB3 := hidden (HB2.out.trans (hb.mono HB2.out.size))
        clear hb
        clear HX2 HY2 HB2
        obtain ⟨qa, qc, rfl, _⟩ := owns_formT ho
        clear ho
        rw [show (Option.getD (none : Option (List Tx)) []).length = 0 from rfl]
        go_wp2_with fail
        go_ret
        exact ⟨by first | rfl | simp, HB3.out⟩
      | some a =>
        have HLA := hidden (doo_len hr)
        have HUN := hidden (doo_flN hr)
        have HFA := hidden (doo_fit HFX.out HFO.out hr)
        have HLM := hidden (flN_len xs)
        have HFM := hidden (fit_flN HFX.out)
        have HLO := hidden (show old.length ≤ 4398046511104 by omega)
        clear hr
        go_wp2_with fail
        refine (pdo_any _ xs _ old w2 HX2.out HY2.out (by omega) HFX.out HFO.out).mono ?_
        rw [HR.out]
        rintro e w3 ⟨q1, rfl, ho, hb⟩
        have HX3 := hidden (HX2.out.later hb)
        have HY3 := hidden (HY2.out.later hb)
        have HB3 := hidden (HB2.out.trans (hb.mono HB2.out.size))
        clear hb
        clear HX2 HY2 HB2
        have HP3 := hidden (RowAt.of_owns ho)
        clear ho
        obtain ⟨qa, qc, rfl⟩ : ∃ b c, q1 = .slice b a.length c := by obtain ⟨b, c, e⟩ := HP3.out.shape; exact ⟨_, _, e⟩
        rw [show (Option.isSome (some a)) = true from rfl]
        go_wp2_with fail
        refine (flip_any _ xs w3 HX3.out (by omega) HFX.out).mono ?_
        rintro e w4 ⟨q2, rfl, ho, hb⟩
        have HX4 := hidden (HX3.out.later hb)
        have HY4 := hidden (HY3.out.later hb)
        have HP4 := hidden (HP3.out.later hb)
        have HB4 := hidden (HB3.out.trans (hb.mono HB3.out.size))
        clear hb
        clear HX3 HY3 HP3 HB3
        have HM4 := hidden ho
        clear ho
        obtain ⟨q2a, q2n, q2c, rfl⟩ : ∃ a n c, q2 = .slice a n c := by obtain ⟨a, c, e⟩ := HM4.out.shape; exact ⟨_, _, _, e⟩
        go_wp2_with fail
        refine (pdo_any _ (flN xs) _ a w4 HM4.out HP4.out (by have := HLA.out; have := HLM.out; omega) HFM.out HFA.out).mono ?_
        rw [HUN.out]
        rintro e w5 ⟨q3, rfl, ho, hb⟩
        have HX5 := hidden (HX4.out.later hb)
        have HY5 := hidden (HY4.out.later hb)
        have HP5 := hidden (HP4.out.later hb)
        have HM5 := hidden (HM4.out.later hb)
        have HB5 := hidden (HB4.out.trans (hb.mono HB4.out.size))
        clear hb
        clear HX4 HY4 HP4 HM4 HB4
        have HQ5 := hidden (RowAt.of_owns ho)
        clear ho
        obtain ⟨qb, qd, rfl⟩ : ∃ b c, q3 = .slice b old.length c := by obtain ⟨b, c, e⟩ := HQ5.out.shape; exact ⟨_, _, e⟩
        rw [show (Option.isSome (some old)) = true from rfl]
        go_wp2_with fail
        refine (sameTexts_any _ _ old old w5 HQ5.out HY5.out HLO.out HLO.out).mono ?_
        rw [decide_eq_true (Eq.refl old)]
        rintro e w6 ⟨rfl, hb⟩
        have HX6 := hidden (HX5.out.later hb)
        have HY6 := hidden (HY5.out.later hb)
        have HP6 := hidden (HP5.out.later hb)
        have HM6 := hidden (HM5.out.later hb)
        have HQ6 := hidden (HQ5.out.later hb)
        have HB6 := hidden (HB5.out.trans (hb.mono HB5.out.size))
        clear hb
        clear HX5 HY5 HP5 HM5 HQ5 HB5
        go_wp2_with fail
        go_ret
        exact ⟨by first | rfl | simp, HB6.out⟩

end Go.Proofs.Ytebikpdjamnhbaa
