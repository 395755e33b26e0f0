
/-
  The law ComposeNone answers true at whatever steps, and leaves what lay in memory as it was.
-/
import Derived.Test.YtcdjemheokmglaaCLaw
namespace Go.Proofs.Ytcdjemheokmglaa
open Go.RowKit Go.Proofs.Ytcdjemheokmglaa.Ln Go.Proofs.Ytcdjemheokmglaa.Ol

set_option maxRecDepth 3000 in
set_option maxHeartbeats 8000000 in
theorem composeNone_any (vX : Value) (p : List Oq) (w : World) (hX : OpsAt w vX p) (hlX : p.length ≤ 4398046511104) (hfX : Fit p) :
    Calls Try.prog 6 #[vX] w fun e w' => e = .returned (.bool true) ∧ Below w.heap.size w w' := by
  have HX0 := hidden hX
  have HB0 := hidden (Below.refl w.heap.size w)
  have HFX := hidden hfX
  obtain ⟨aX, cX, rfl⟩ := hX.shape
  clear hX hfX
  go_enter Try.func6, Try.ntmps6
  go_wp2_with fail
  refine (alive11_any _).mono ?_
  rintro e w1 ⟨rfl, hb⟩
  have HX1 := hidden (HX0.out.later hb)
  have HB1 := hidden (HB0.out.trans (hb.mono HB0.out.size))
  clear hb
  go_wp2_with fail
  refine (few_any _ p w1 HX1.out (by omega)).mono ?_
  rintro e w' ⟨⟨c, rfl⟩, hw⟩
  subst w'
  cases c with
  | false =>
    go_wp2_with fail
    go_ret
    exact ⟨rfl, HB1.out⟩
  | true =>
    cases hrtX : right p with
    | false =>
      have HRX := hidden hrtX
      clear hrtX
      go_wp2_with fail
      refine (pright_any _ p w1 HX1.out (by omega) HFX.out).mono ?_
      rw [HRX.out]
      rintro e w2 ⟨rfl, hb⟩
      have HX2 := hidden (HX1.out.later hb)
      have HB2 := hidden (HB1.out.trans (hb.mono HB1.out.size))
      clear hb
      clear HX1 HB1
      go_wp2_with fail
      go_ret
      exact ⟨by first | rfl | simp, HB2.out⟩
    | true =>
      have HRX := hidden hrtX
      clear hrtX
      go_wp2_with fail
      refine (pright_any _ p w1 HX1.out (by omega) HFX.out).mono ?_
      rw [HRX.out]
      rintro e w2 ⟨rfl, hb⟩
      have HX2 := hidden (HX1.out.later hb)
      have HB2 := hidden (HB1.out.trans (hb.mono HB1.out.size))
      clear hb
      clear HX1 HB1
      obtain ⟨c, hc, hi, h3, h4⟩ := thn_back HRX.out
      have HT1 := hidden (thn_nil HRX.out)
      have HT2 := hidden (nil_thn HRX.out)
      have HT3 := hidden hc
      have HI := hidden (show decide (chs (tdy c) = 0) = true from decide_eq_true hi)
      have HLC := hidden (thn_len hc)
      have HFL := hidden (flN_fitC HFX.out)
      have HLF := hidden (show (flN p).length ≤ 4398046511104 from Nat.le_trans (flN_lenC p) hlX)
      have HFC := hidden (thn_fit HFX.out HFL.out hc)
      have HN := hidden (show normL p = nrm p by unfold normL; rw [if_pos HRX.out])
      have HLN := hidden (show (nrm p).length ≤ 4398046511104 by unfold nrm; rw [List.length_append]; exact Nat.le_trans (nfo_len p) hlX)
      obtain ⟨c3, hc3⟩ : ∃ c3, cnt 3 p = c3 := ⟨_, rfl⟩
      have HC3 := hidden hc3
      have HC3c := hidden (show cnt 3 c = c3 by rw [← hc3]; unfold cnt; rw [h3])
      have HC4c := hidden (show cnt 4 c = c3 by rw [← hc3]; unfold cnt; rw [h4])
      have HF0 := hidden (fit_of (xs := []) rfl)
      have e3 : (c3 == c3) = true := by simp
      clear hc hi h3 h4 hc3
      go_wp2_with fail
      refine (then_any _ _ p [] w2 HX2.out (OpsAt.nil _ _ _) (by omega) (by simp) HFX.out HF0.out).mono ?_
      rw [HT1.out]
      rintro e w3 ⟨q1, rfl, ho, hb⟩
      simp only [Option.getD_some, Option.isSome_some] at ho ⊢
      have HX3 := hidden (HX2.out.later hb)
      have HB3 := hidden (HB2.out.trans (hb.mono HB2.out.size))
      clear hb
      clear HX2 HB2
      have HA3 := hidden ho
      clear ho
      obtain ⟨q1a, q1n, q1c, rfl⟩ : ∃ a n c, q1 = .slice a n c := by obtain ⟨a, c, e⟩ := HA3.out.shape; exact ⟨_, _, _, e⟩
      go_wp2_with fail
      refine (then_any _ _ [] p w3 (OpsAt.nil _ _ _) HX3.out (by simp) (by omega) HF0.out HFX.out).mono ?_
      rw [HT2.out]
      rintro e w4 ⟨q2, rfl, ho, hb⟩
      simp only [Option.getD_some, Option.isSome_some] at ho ⊢
      have HX4 := hidden (HX3.out.later hb)
      have HA4 := hidden (HA3.out.later hb)
      have HB4 := hidden (HB3.out.trans (hb.mono HB3.out.size))
      clear hb
      clear HX3 HA3 HB3
      have HP4 := hidden ho
      clear ho
      obtain ⟨q2a, q2n, q2c, rfl⟩ : ∃ a n c, q2 = .slice a n c := by obtain ⟨a, c, e⟩ := HP4.out.shape; exact ⟨_, _, _, e⟩
      go_wp2_with fail
      refine (pflip_any _ p w4 HX4.out (by omega) HFX.out).mono ?_
      rintro e w5 ⟨q3, rfl, ho, hb⟩
      have HX5 := hidden (HX4.out.later hb)
      have HA5 := hidden (HA4.out.later hb)
      have HP5 := hidden (HP4.out.later hb)
      have HB5 := hidden (HB4.out.trans (hb.mono HB4.out.size))
      clear hb
      clear HX4 HA4 HP4 HB4
      have HF5 := hidden ho
      clear ho
      obtain ⟨q3a, q3n, q3c, rfl⟩ : ∃ a n c, q3 = .slice a n c := by obtain ⟨a, c, e⟩ := HF5.out.shape; exact ⟨_, _, _, e⟩
      go_wp2_with fail
      refine (then_any _ _ p (flN p) w5 HX5.out HF5.out (by omega) HLF.out HFX.out HFL.out).mono ?_
      rw [HT3.out]
      rintro e w6 ⟨q4, rfl, ho, hb⟩
      simp only [Option.getD_some, Option.isSome_some] at ho ⊢
      have HX6 := hidden (HX5.out.later hb)
      have HA6 := hidden (HA5.out.later hb)
      have HP6 := hidden (HP5.out.later hb)
      have HF6 := hidden (HF5.out.later hb)
      have HB6 := hidden (HB5.out.trans (hb.mono HB5.out.size))
      clear hb
      clear HX5 HA5 HP5 HF5 HB5
      have HC6 := hidden ho
      clear ho
      obtain ⟨q4a, q4n, q4c, rfl⟩ : ∃ a n c, q4 = .slice a n c := by obtain ⟨a, c, e⟩ := HC6.out.shape; exact ⟨_, _, _, e⟩
      go_wp2_with fail
      refine (pnormR_any _ p w6 HX6.out (by omega) HFX.out).mono ?_
      rw [HN.out]
      rintro e w7 ⟨q5, rfl, ho, hb⟩
      have HX7 := hidden (HX6.out.later hb)
      have HA7 := hidden (HA6.out.later hb)
      have HP7 := hidden (HP6.out.later hb)
      have HF7 := hidden (HF6.out.later hb)
      have HC7 := hidden (HC6.out.later hb)
      have HB7 := hidden (HB6.out.trans (hb.mono HB6.out.size))
      clear hb
      clear HX6 HA6 HP6 HF6 HC6 HB6
      have HN7 := hidden ho
      clear ho
      obtain ⟨q5a, q5n, q5c, rfl⟩ : ∃ a n c, q5 = .slice a n c := by obtain ⟨a, c, e⟩ := HN7.out.shape; exact ⟨_, _, _, e⟩
      go_wp2_with fail
      refine (psame_any _ _ (nrm p) (nrm p) w7 HA7.out HN7.out HLN.out HLN.out).mono ?_
      rw [decide_eq_true (Eq.refl (nrm p))]
      rintro e w8 ⟨rfl, hb⟩
      have HX8 := hidden (HX7.out.later hb)
      have HA8 := hidden (HA7.out.later hb)
      have HP8 := hidden (HP7.out.later hb)
      have HF8 := hidden (HF7.out.later hb)
      have HC8 := hidden (HC7.out.later hb)
      have HN8 := hidden (HN7.out.later hb)
      have HB8 := hidden (HB7.out.trans (hb.mono HB7.out.size))
      clear hb
      clear HX7 HA7 HP7 HF7 HC7 HN7 HB7
      go_wp2_with fail
      refine (psame_any _ _ (nrm p) (nrm p) w8 HP8.out HN8.out HLN.out HLN.out).mono ?_
      rw [decide_eq_true (Eq.refl (nrm p))]
      rintro e w9 ⟨rfl, hb⟩
      have HX9 := hidden (HX8.out.later hb)
      have HA9 := hidden (HA8.out.later hb)
      have HP9 := hidden (HP8.out.later hb)
      have HF9 := hidden (HF8.out.later hb)
      have HC9 := hidden (HC8.out.later hb)
      have HN9 := hidden (HN8.out.later hb)
      have HB9 := hidden (HB8.out.trans (hb.mono HB8.out.size))
      clear hb
      clear HX8 HA8 HP8 HF8 HC8 HN8 HB8
      go_wp2_with fail
      refine (pidle_any _ c w9 HC9.out (by have := HLC.out; omega) HFC.out).mono ?_
      rw [HI.out]
      rintro e w10 ⟨rfl, hb⟩
      have HX10 := hidden (HX9.out.later hb)
      have HA10 := hidden (HA9.out.later hb)
      have HP10 := hidden (HP9.out.later hb)
      have HF10 := hidden (HF9.out.later hb)
      have HC10 := hidden (HC9.out.later hb)
      have HN10 := hidden (HN9.out.later hb)
      have HB10 := hidden (HB9.out.trans (hb.mono HB9.out.size))
      clear hb
      clear HX9 HA9 HP9 HF9 HC9 HN9 HB9
      go_wp2_with fail
      refine (polds_any _ c w10 HC10.out (by have := HLC.out; omega)).mono ?_
      rw [HC3c.out]
      rintro e w11 ⟨rfl, hb⟩
      have HX11 := hidden (HX10.out.later hb)
      have HA11 := hidden (HA10.out.later hb)
      have HP11 := hidden (HP10.out.later hb)
      have HF11 := hidden (HF10.out.later hb)
      have HC11 := hidden (HC10.out.later hb)
      have HN11 := hidden (HN10.out.later hb)
      have HB11 := hidden (HB10.out.trans (hb.mono HB10.out.size))
      clear hb
      clear HX10 HA10 HP10 HF10 HC10 HN10 HB10
      go_wp2_with fail
      refine (polds_any _ p w11 HX11.out (by omega)).mono ?_
      rw [HC3.out]
      rintro e w12 ⟨rfl, hb⟩
      have HX12 := hidden (HX11.out.later hb)
      have HA12 := hidden (HA11.out.later hb)
      have HP12 := hidden (HP11.out.later hb)
      have HF12 := hidden (HF11.out.later hb)
      have HC12 := hidden (HC11.out.later hb)
      have HN12 := hidden (HN11.out.later hb)
      have HB12 := hidden (HB11.out.trans (hb.mono HB11.out.size))
      clear hb
      clear HX11 HA11 HP11 HF11 HC11 HN11 HB11
      go_wp2_with fail
      refine (pnews_any _ c w12 HC12.out (by have := HLC.out; omega)).mono ?_
      rw [HC4c.out]
      rintro e w13 ⟨rfl, hb⟩
      have HX13 := hidden (HX12.out.later hb)
      have HA13 := hidden (HA12.out.later hb)
      have HP13 := hidden (HP12.out.later hb)
      have HF13 := hidden (HF12.out.later hb)
      have HC13 := hidden (HC12.out.later hb)
      have HN13 := hidden (HN12.out.later hb)
      have HB13 := hidden (HB12.out.trans (hb.mono HB12.out.size))
      clear hb
      clear HX12 HA12 HP12 HF12 HC12 HN12 HB12
      go_wp2_with fail
      refine (polds_any _ p w13 HX13.out (by omega)).mono ?_
      rw [HC3.out]
      rintro e w14 ⟨rfl, hb⟩
      have HX14 := hidden (HX13.out.later hb)
      have HA14 := hidden (HA13.out.later hb)
      have HP14 := hidden (HP13.out.later hb)
      have HF14 := hidden (HF13.out.later hb)
      have HC14 := hidden (HC13.out.later hb)
      have HN14 := hidden (HN13.out.later hb)
      have HB14 := hidden (HB13.out.trans (hb.mono HB13.out.size))
      clear hb
      clear HX13 HA13 HP13 HF13 HC13 HN13 HB13
      go_wp2_with fail
      go_ret
      exact ⟨by first | rfl | simp, HB14.out⟩

end Go.Proofs.Ytcdjemheokmglaa
