
/-
  What the program's own swap answers at any steps that lie in memory; conditions: the lists' and the texts' lengths.
-/
import Derived.Test.YtcjjboomljbmbaaXTog
import Derived.Test.YtcjjboomljbmbaaCComp
namespace Go.Proofs.Ytcjjboomljbmbaa.Ol
open Go.Proofs.Ytcjjboomljbmbaa.Ln

/-- how the program tells them -/
theorem swp_prog {p q : List Oq} (hp : right p = true) (hq : right q = true) : (thn p q = none → swp p q = ([], [], 6)) ∧ ((thn p q).isSome = true → ∃ R, wk (p.length + q.length + 1) false p q = some R ∧
    ((nbO 0 R.1 || R.2) = true → swp p q = ([], [], 7)) ∧ (right (fsO R.1) = false → swp p q = ([], [], 7)) ∧ (right (snO R.1) = false → swp p q = ([], [], 7)) ∧
    ((nbO 0 R.1 || R.2) = false → right (fsO R.1) = true → right (snO R.1) = true → swp p q = (normL (fsO R.1), normL (snO R.1), 0))) := by
  have ht := thn_prog hp hq
  cases hw : wk (p.length + q.length + 1) false p q with
  | none =>
    rw [hw] at ht
    exact ⟨fun _ => by rw [swp_at hp hq hw]; rfl, fun h => by rw [ht] at h; cases h⟩
  | some R =>
    rw [hw] at ht
    have ht : thn p q = if right (byO R) = true then some (normL (byO R)) else none := ht
    have hb := right_behind (byO_al (right_ok hp) (right_ok hq) hw)
    have wf := wk_wf _ _ _ _ _ (right_ok hp) (right_ok hq) hw
    have hf := right_behind (fsO_al R.1 wf)
    have hs := right_behind (snO_al R.1 wf)
    have hsw := swp_at hp hq hw
    simp only [swpR] at hsw
    rw [hb, hf, hs] at hsw
    by_cases hr : right (byO R) = true
    · rw [if_pos hr] at ht hsw
      refine ⟨fun h => (by rw [ht] at h; cases h), fun _ => ⟨R, rfl, fun h => ?_, fun h => ?_, fun h => ?_, fun h1 h2 h3 => ?_⟩⟩
      · rw [hsw, if_pos]
        rcases Bool.or_eq_true_iff.1 h with h | h
        · exact Or.inr (Or.inl h)
        · exact Or.inl h
      · rw [hsw, if_pos (Or.inr (Or.inr (by rw [h]; simp)))]
      · rw [hsw, if_pos (Or.inr (Or.inr (by rw [h]; simp)))]
      · obtain ⟨h4, h5⟩ := Bool.or_eq_false_iff.1 h1
        rw [hsw, if_neg (by rw [h4, h5, h2, h3]; simp)]
        unfold normL
        rw [if_pos h2, if_pos h3]
    · rw [if_neg hr] at ht hsw
      exact ⟨fun _ => hsw, fun h => by rw [ht] at h; cases h⟩
end Go.Proofs.Ytcjjboomljbmbaa.Ol
namespace Go.Proofs.Ytcjjboomljbmbaa
open Go.RowKit Go.Proofs.Ytcjjboomljbmbaa.Ln Go.Proofs.Ytcjjboomljbmbaa.Ol

set_option maxRecDepth 3000 in
set_option maxHeartbeats 8000000 in
theorem swap_any (v u : Value) (p q : List Oq) (w : World) (hP : OpsAt w v p) (hQ : OpsAt w u q) (hlp : p.length ≤ 4398046511104) (hlq : q.length ≤ 4398046511104) (hfp : Fit p) (hfq : Fit q) :
    Calls Try.prog 11 #[v, u] w fun e w' => SAns p q w e w' := by
  have HP := hidden hP
  have HQ := hidden hQ
  have HFP := hidden hfp
  have HFQ := hidden hfq
  obtain ⟨ao, cap, rfl⟩ := hP.shape
  obtain ⟨bo, cap2, rfl⟩ := hQ.shape
  clear hP hQ hfp hfq
  cases hrp : right p with
  | false =>
    have HT := hidden (show swp p q = ([], [], 1) by unfold swp; rw [if_neg (by simp [hrp])])
    have HRP := hidden hrp
    clear hrp
    go_enter Try.func11, Try.ntmps11
    go_wp2_with fail
    refine (oright_any _ p w HP.out hlp HFP.out).mono ?_
    rw [HRP.out]
    rintro e w2 ⟨rfl, hb⟩
    have HB2 := hidden hb
    clear hb
    go_wp2_with fail
    go_ret3
    exact sans_nil HT.out HB2.out
  | true =>
  have HRP := hidden hrp
  cases hrq : right q with
  | false =>
    have HT := hidden (show swp p q = ([], [], 1) by unfold swp; rw [if_neg (by simp [hrq])])
    have HRQ := hidden hrq
    clear hrp hrq
    go_enter Try.func11, Try.ntmps11
    go_wp2_with fail
    refine (oright_any _ p w HP.out hlp HFP.out).mono ?_
    rw [HRP.out]
    rintro e w2 ⟨rfl, hb⟩
    have HB2 := hidden hb
    have HQ2 := hidden (HQ.out.later hb)
    clear hb
    go_wp2_with fail
    refine (oright_any _ q w2 HQ2.out hlq HFQ.out).mono ?_
    rw [HRQ.out]
    rintro e w3 ⟨rfl, hb⟩
    have HB3 := hidden (HB2.out.trans (hb.mono HB2.out.size))
    clear hb
    go_wp2_with fail
    go_ret3
    exact sans_nil HT.out HB3.out
  | true =>
  have HRQ := hidden hrq
  have HT := hidden (swp_prog hrp hrq)
  have HAP := hidden (right_Al hrp)
  have HAQ := hidden (right_Al hrq)
  have HLP := hidden (show p.length ≤ 4294967296 from right_len hrp)
  have HLQ := hidden (show q.length ≤ 4294967296 from right_len hrq)
  have HWL := hidden (fun R (h : wk (p.length + q.length + 1) false p q = some R) => wk_len _ _ _ _ R (right_ok hrp) (right_ok hrq) h)
  have HWT := hidden (fun R (h : wk (p.length + q.length + 1) false p q = some R) => wk_fit _ _ _ _ R HFP.out HFQ.out h)
  clear hrp hrq
  go_enter Try.func11, Try.ntmps11
  go_wp2_with fail
  refine (oright_any _ p w HP.out hlp HFP.out).mono ?_
  rw [HRP.out]
  rintro e w2 ⟨rfl, hb⟩
  have HB2 := hidden hb
  have HP2 := hidden (HP.out.later hb)
  have HQ2 := hidden (HQ.out.later hb)
  clear hb
  go_wp2_with fail
  refine (oright_any _ q w2 HQ2.out hlq HFQ.out).mono ?_
  rw [HRQ.out]
  rintro e w3 ⟨rfl, hb⟩
  have HB3 := hidden (HB2.out.trans (hb.mono HB2.out.size))
  have HP3 := hidden (HP2.out.later hb)
  have HQ3 := hidden (HQ2.out.later hb)
  clear hb HB2 HP2 HQ2
  go_wp2_with fail
  refine (then_any _ _ p q w3 HP3.out HQ3.out hlp hlq HFP.out HFQ.out).mono ?_
  rintro e w4 ⟨v4, rfl, ho, hb⟩
  obtain ⟨a4, n4, c4, rfl⟩ : ∃ a n c, v4 = .slice a n c := by obtain ⟨a, c, e⟩ := ho.shape; exact ⟨_, _, _, e⟩
  have HB4 := hidden (HB3.out.trans (hb.mono HB3.out.size))
  have HP4 := hidden (HP3.out.later hb)
  have HQ4 := hidden (HQ3.out.later hb)
  clear hb ho HB3 HP3 HQ3
  cases hth : (thn p q).isSome with
  | false =>
    have HTN := hidden (HT.out.1 (by simpa using hth))
    clear hth
    go_wp2_with fail
    go_ret3
    exact sans_nil HTN.out HB4.out
  | true =>
  obtain ⟨R, hR, h1, h2, h3, h4⟩ := HT.out.2 hth
  have HT1 := hidden h1
  have HT2 := hidden h2
  have HT3 := hidden h3
  have HT4 := hidden h4
  have HR := hidden hR
  have HLL := hidden (show R.1.length ≤ 1099511627776 by have := HWL.out R hR; have := HLP.out; have := HLQ.out; omega)
  have HF1 := hidden (show Fit (fsO R.1) from fsO_of R.1 (fun t => t.length ≤ 140737488355328) (HWT.out R hR))
  have HF2 := hidden (show Fit (snO R.1) from snO_of R.1 (fun t => t.length ≤ 140737488355328) (HWT.out R hR))
  clear h1 h2 h3 h4 hR hth HT
  go_wp2_with fail
  refine (apart_any _ _ p q R w4 HP4.out HQ4.out (by have := HLP.out; omega) (by have := HLQ.out; omega) HAP.out HAQ.out HFP.out HFQ.out HR.out).mono ?_
  rintro e w5 ⟨v1, v2, rfl, hb, hn1, hn2⟩
  have HB5 := hidden (HB4.out.trans (hb.mono HB4.out.size))
  clear hb HB4
  cases hnb : (nbO 0 R.1 || R.2) with
  | true =>
    obtain ⟨rfl, rfl⟩ := hn1 hnb
    have HTN := hidden (HT1.out hnb)
    clear hn1 hn2 hnb
    go_wp2_with fail
    go_ret3
    exact sans_nil HTN.out HB5.out
  | false =>
  obtain ⟨ho1, ho2⟩ := hn2 hnb
  have HO1 := hidden ho1
  have HO2 := hidden ho2
  have HT5 := hidden (HT4.out hnb)
  have HL1 := hidden (show (fsO R.1).length ≤ 4398046511104 by have := fsO_len R.1; have := HLL.out; omega)
  have HL2 := hidden (show (snO R.1).length ≤ 4398046511104 by have := snO_len R.1; have := HLL.out; omega)
  obtain ⟨d1, e1, f1, rfl⟩ : ∃ a n c, v1 = .slice a n c := by obtain ⟨a, c, e⟩ := ho1.shape; exact ⟨_, _, _, e⟩
  obtain ⟨d2, e2, f2, rfl⟩ : ∃ a n c, v2 = .slice a n c := by obtain ⟨a, c, e⟩ := ho2.shape; exact ⟨_, _, _, e⟩
  clear hn1 hn2 hnb ho1 ho2
  simp only [Bool.not_false]
  go_wp2_with fail
  refine (oright_any _ (fsO R.1) w5 HO1.out HL1.out HF1.out).mono ?_
  cases hr1 : right (fsO R.1) with
  | false =>
    have HTN := hidden (HT2.out hr1)
    clear hr1
    rintro e w6 ⟨rfl, hb⟩
    have HB6 := hidden (HB5.out.trans (hb.mono HB5.out.size))
    clear hb
    go_wp2_with fail
    go_ret3
    exact sans_nil HTN.out HB6.out
  | true =>
  have HT6 := hidden (HT5.out hr1)
  clear hr1
  rintro e w6 ⟨rfl, hb⟩
  have HB6 := hidden (HB5.out.trans (hb.mono HB5.out.size))
  have HO1b := hidden (HO1.out.later hb)
  have HO2b := hidden (HO2.out.later hb)
  clear hb HB5 HO1 HO2
  go_wp2_with fail
  refine (oright_any _ (snO R.1) w6 HO2b.out HL2.out HF2.out).mono ?_
  cases hr2 : right (snO R.1) with
  | false =>
    have HTN := hidden (HT3.out hr2)
    clear hr2
    rintro e w7 ⟨rfl, hb⟩
    have HB7 := hidden (HB6.out.trans (hb.mono HB6.out.size))
    clear hb
    go_wp2_with fail
    go_ret3
    exact sans_nil HTN.out HB7.out
  | true =>
  have HT7 := hidden (HT6.out hr2)
  clear hr2
  rintro e w7 ⟨rfl, hb⟩
  have HB7 := hidden (HB6.out.trans (hb.mono HB6.out.size))
  have HO1c := hidden (HO1b.out.later hb)
  have HO2c := hidden (HO2b.out.later hb)
  clear hb HB6 HO1b HO2b
  go_wp2_with fail
  refine (onorm_any _ (fsO R.1) w7 HO1c.out HL1.out HF1.out).mono ?_
  rintro e w8 ⟨v8, rfl, ho8, hb⟩
  have HB8 := hidden (HB7.out.trans (hb.mono HB7.out.size))
  have HO8 := hidden ho8
  have HO2d := hidden (HO2c.out.later hb)
  obtain ⟨d8, e8, f8, rfl⟩ : ∃ a n c, v8 = .slice a n c := by obtain ⟨a, c, e⟩ := ho8.shape; exact ⟨_, _, _, e⟩
  clear hb ho8 HB7 HO1c HO2c
  go_wp2_with fail
  refine (onorm_any _ (snO R.1) w8 HO2d.out HL2.out HF2.out).mono ?_
  rintro e w9 ⟨v9, rfl, ho9, hb⟩
  have HB9 := hidden (HB8.out.trans (hb.mono HB8.out.size))
  have HO9 := hidden ho9
  have HO8b := hidden (HO8.out.later hb)
  obtain ⟨d9, e9, f9, rfl⟩ : ∃ a n c, v9 = .slice a n c := by obtain ⟨a, c, e⟩ := ho9.shape; exact ⟨_, _, _, e⟩
  clear hb ho9 HB8 HO8
  go_wp2_with fail
  go_ret3
  exact sans_two HT7.out HO8b.out HO9.out HB9.out

end Go.Proofs.Ytcjjboomljbmbaa
