/-
  The law OpsTell answers true at whatever two lists of steps, and leaves what lay in memory as it was.
-/
import Derived.Test.YtkmoilfjaejjpaaOLaw
import Derived.Test.YtkmoilfjaejjpaaOPNorm
import Derived.Test.YtkmoilfjaejjpaaOFacts
namespace Go.Proofs.Ytkmoilfjaejjpaa
open Go.RowKit Go.Proofs.Ytkmoilfjaejjpaa.Ln Go.Proofs.Ytkmoilfjaejjpaa.Ol

set_option maxRecDepth 3000 in
set_option maxHeartbeats 8000000 in
theorem opsTell_any (v : Value) (xs : List Oq) (u : Value) (ys : List Oq) (w : World) (hX : OpsAt w v xs) (hlx : xs.length ≤ 4398046511104) (hfX : Fit xs) (hY : OpsAt w u ys) (hly : ys.length ≤ 4398046511104) (hfY : Fit ys) :
    Calls Try.prog 3 #[v, u] w fun e w' => e = .returned (.bool true) ∧ Below w.heap.size w w' := by
  have HX0 := hidden hX
  have HY0 := hidden hY
  have HB0 := hidden (Below.refl w.heap.size w)
  have HFX := hidden hfX
  have HFY := hidden hfY
  obtain ⟨ao, cap, rfl⟩ := hX.shape
  obtain ⟨bo, cap2, rfl⟩ := hY.shape
  clear hX hY hfX hfY
  go_enter Try.func3, Try.ntmps3
  go_wp2_with fail
  refine (alive_any _).mono ?_
  rintro e w1 ⟨rfl, hb⟩
  have HX1 := hidden (HX0.out.later hb)
  have HY1 := hidden (HY0.out.later hb)
  have HB1 := hidden (HB0.out.trans (hb.mono HB0.out.size))
  clear hb
  go_wp2_with fail
  refine (few_any _ xs w1 HX1.out hlx).mono ?_
  rintro e w' ⟨⟨c, rfl⟩, hw⟩
  subst w'
  cases c with
  | false =>
    go_wp2_with fail
    go_ret
    exact ⟨rfl, HB1.out⟩
  | true =>
    go_wp2_with fail
    refine (few_any _ ys w1 HY1.out hly).mono ?_
    rintro e w' ⟨⟨c, rfl⟩, hw⟩
    subst w'
    cases c with
    | false =>
      go_wp2_with fail
      go_ret
      exact ⟨rfl, HB1.out⟩
    | true =>
      obtain ⟨rr, hrr⟩ : ∃ r, right xs = r := ⟨_, rfl⟩
      obtain ⟨q3, hq3⟩ : ∃ r, cnt 3 xs = r := ⟨_, rfl⟩
      obtain ⟨q4, hq4⟩ : ∃ r, cnt 4 xs = r := ⟨_, rfl⟩
      obtain ⟨qc, hqc⟩ : ∃ r : Int, ((chs xs : Nat) : Int) = r := ⟨_, rfl⟩
      obtain ⟨qe, hqe⟩ : ∃ r, decide (xs = ys) = r := ⟨_, rfl⟩
      have Hrr := hidden hrr
      have Hq3 := hidden hq3
      have Hq4 := hidden hq4
      have Hqc := hidden hqc
      have Hqe := hidden hqe
      clear hrr hq3 hq4 hqc hqe
      go_wp2_with fail
      refine (oright_any _ xs w1 HX1.out hlx HFX.out).mono ?_
      rw [Hrr.out]
      rintro e w2 ⟨rfl, hb⟩
      have HX2 := hidden (HX1.out.later hb)
      have HY2 := hidden (HY1.out.later hb)
      have HB2 := hidden (HB1.out.trans (hb.mono HB1.out.size))
      clear hb
      clear HX1 HY1 HB1
      go_wp2_with fail
      refine (pright_any _ xs w2 HX2.out hlx HFX.out).mono ?_
      rw [Hrr.out]
      rintro e w3 ⟨rfl, hb⟩
      have HX3 := hidden (HX2.out.later hb)
      have HY3 := hidden (HY2.out.later hb)
      have HB3 := hidden (HB2.out.trans (hb.mono HB2.out.size))
      clear hb
      clear HX2 HY2 HB2
      go_wp2_with fail
      refine (oolds_any _ xs w3 HX3.out hlx).mono ?_
      rw [Hq3.out]
      rintro e w4 ⟨rfl, hb⟩
      have HX4 := hidden (HX3.out.later hb)
      have HY4 := hidden (HY3.out.later hb)
      have HB4 := hidden (HB3.out.trans (hb.mono HB3.out.size))
      clear hb
      clear HX3 HY3 HB3
      go_wp2_with fail
      refine (polds_any _ xs w4 HX4.out hlx).mono ?_
      rw [Hq3.out]
      rintro e w5 ⟨rfl, hb⟩
      have HX5 := hidden (HX4.out.later hb)
      have HY5 := hidden (HY4.out.later hb)
      have HB5 := hidden (HB4.out.trans (hb.mono HB4.out.size))
      clear hb
      clear HX4 HY4 HB4
      go_wp2_with fail
      refine (onews_any _ xs w5 HX5.out hlx).mono ?_
      rw [Hq4.out]
      rintro e w6 ⟨rfl, hb⟩
      have HX6 := hidden (HX5.out.later hb)
      have HY6 := hidden (HY5.out.later hb)
      have HB6 := hidden (HB5.out.trans (hb.mono HB5.out.size))
      clear hb
      clear HX5 HY5 HB5
      go_wp2_with fail
      refine (pnews_any _ xs w6 HX6.out hlx).mono ?_
      rw [Hq4.out]
      rintro e w7 ⟨rfl, hb⟩
      have HX7 := hidden (HX6.out.later hb)
      have HY7 := hidden (HY6.out.later hb)
      have HB7 := hidden (HB6.out.trans (hb.mono HB6.out.size))
      clear hb
      clear HX6 HY6 HB6
      go_wp2_with fail
      refine (ochanges_any _ xs w7 HX7.out hlx).mono ?_
      rw [Hqc.out]
      rintro e w8 ⟨rfl, hb⟩
      have HX8 := hidden (HX7.out.later hb)
      have HY8 := hidden (HY7.out.later hb)
      have HB8 := hidden (HB7.out.trans (hb.mono HB7.out.size))
      clear hb
      clear HX7 HY7 HB7
      go_wp2_with fail
      refine (pchanges_any _ xs w8 HX8.out hlx).mono ?_
      rw [Hqc.out]
      rintro e w9 ⟨rfl, hb⟩
      have HX9 := hidden (HX8.out.later hb)
      have HY9 := hidden (HY8.out.later hb)
      have HB9 := hidden (HB8.out.trans (hb.mono HB8.out.size))
      clear hb
      clear HX8 HY8 HB8
      go_wp2_with fail
      refine (osame_any _ _ xs ys w9 HX9.out HY9.out hlx hly).mono ?_
      rw [Hqe.out]
      rintro e w10 ⟨rfl, hb⟩
      have HX10 := hidden (HX9.out.later hb)
      have HY10 := hidden (HY9.out.later hb)
      have HB10 := hidden (HB9.out.trans (hb.mono HB9.out.size))
      clear hb
      clear HX9 HY9 HB9
      go_wp2_with fail
      refine (psame_any _ _ xs ys w10 HX10.out HY10.out hlx hly).mono ?_
      rw [Hqe.out]
      rintro e w11 ⟨rfl, hb⟩
      have HX11 := hidden (HX10.out.later hb)
      have HY11 := hidden (HY10.out.later hb)
      have HB11 := hidden (HB10.out.trans (hb.mono HB10.out.size))
      clear hb
      clear HX10 HY10 HB10
      go_wp2_with fail
      refine (osame_any _ _ xs xs w11 HX11.out HX11.out hlx hlx).mono ?_
      rw [show decide (xs = xs) = true by simp]
      rintro e w12 ⟨rfl, hb⟩
      have HX12 := hidden (HX11.out.later hb)
      have HY12 := hidden (HY11.out.later hb)
      have HB12 := hidden (HB11.out.trans (hb.mono HB11.out.size))
      clear hb
      clear HX11 HY11 HB11
      have hsz := HB12.out.size
      go_wp2_with (at_builtin; go_must (refine wpList_append_ops _ (by go_simp) _ _ rfl w.heap.size (.slice none 0 0) _ [] xs rfl rfl ⟨rfl, Or.inl ⟨rfl, rfl⟩⟩ HX12.out (by simp; omega) hsz ?_; intro v9 w9 hown9 hadd9))
      have hb : Below w12.heap.size w12 w9 := ⟨hadd9.1.os, hadd9.1.tape, hadd9.1.output, hadd9.1.size, fun j hj => hadd9.1.block j hj (fun e => by cases e)⟩
      have HA13 := hidden (OpsAt.of_owns hown9)
      rw [List.nil_append] at HA13
      clear hown9 hadd9
      have HX13 := hidden (HX12.out.later hb)
      have HY13 := hidden (HY12.out.later hb)
      have HB13 := hidden (HB12.out.trans (hb.mono HB12.out.size))
      clear hb hsz
      refine (onorm_any _ xs w9 HA13.out hlx HFX.out).mono ?_
      rintro e w14 ⟨vM, rfl, hnew, hb⟩
      have HX14 := hidden (HX13.out.later hb)
      have HY14 := hidden (HY13.out.later hb)
      have HA14 := hidden (HA13.out.later hb)
      have HB14 := hidden (HB13.out.trans (hb.mono HB13.out.size))
      clear hb
      clear HX13 HY13 HA13 HB13
      have HM14 := hidden hnew
      clear hnew
      go_wp2_with fail
      refine (pnormR_any _ xs w14 HX14.out hlx HFX.out).mono ?_
      rintro e w15 ⟨vR, rfl, hnew, hb⟩
      have HX15 := hidden (HX14.out.later hb)
      have HY15 := hidden (HY14.out.later hb)
      have HA15 := hidden (HA14.out.later hb)
      have HM15 := hidden (HM14.out.later hb)
      have HB15 := hidden (HB14.out.trans (hb.mono HB14.out.size))
      clear hb
      clear HX14 HY14 HA14 HM14 HB14
      have HR15 := hidden hnew
      clear hnew
      have hlm : (normL xs).length ≤ 4398046511104 := by
        unfold normL; split
        · have := nfo_len xs; unfold nrm; rw [List.length_append]; omega
        · simp
      go_wp2_with fail
      refine (osame_any _ _ (normL xs) (normL xs) w15 HM15.out HR15.out hlm hlm).mono ?_
      rw [show decide (normL xs = normL xs) = true by simp]
      rintro e w16 ⟨rfl, hb⟩
      have HX16 := hidden (HX15.out.later hb)
      have HY16 := hidden (HY15.out.later hb)
      have HA16 := hidden (HA15.out.later hb)
      have HM16 := hidden (HM15.out.later hb)
      have HR16 := hidden (HR15.out.later hb)
      have HB16 := hidden (HB15.out.trans (hb.mono HB15.out.size))
      clear hb
      clear HX15 HY15 HA15 HM15 HR15 HB15
      go_wp2_with fail
      go_ret
      exact ⟨by first | rfl | simp, HB16.out⟩

end Go.Proofs.Ytkmoilfjaejjpaa
