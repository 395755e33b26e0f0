
/-
  What the program's own Then and Rest answer at any steps that lie in memory; conditions: the lists' and texts' lengths.
-/
import Derived.Test.YtmbalnjobcgpkaaCTog2
import Derived.Test.YtmbalnjobcgpkaaCPThen
namespace Go.Proofs.Ytmbalnjobcgpkaa
open Go.RowKit Go.Proofs.Ytmbalnjobcgpkaa.Ln Go.Proofs.Ytmbalnjobcgpkaa.Ol

set_option maxRecDepth 3000 in
set_option maxHeartbeats 8000000 in
theorem then_any (v u : Value) (p q : List Oq) (w : World) (hP : OpsAt w v p) (hQ : OpsAt w u q) (hlp : p.length ≤ 4398046511104) (hlq : q.length ≤ 4398046511104) (hfp : Fit p) (hfq : Fit q) :
    Calls Try.prog 20 #[v, u] w fun e w' => ∃ v', e = .returned (.tuple #[v', .bool (thn p q).isSome]) ∧ OpsAt w' v' ((thn p q).getD []) ∧ Below w.heap.size w w' := by
  have HP := hidden hP
  have HQ := hidden hQ
  have HFP := hidden hfp
  have HFQ := hidden hfq
  obtain ⟨ao, cap, rfl⟩ := hP.shape
  obtain ⟨bo, cap2, rfl⟩ := hQ.shape
  clear hP hQ hfp hfq
  cases hrp : right p with
  | false =>
    have HT := hidden (show thn p q = none by unfold thn; rw [if_neg (by simp [hrp])])
    have HRP := hidden hrp
    clear hrp
    go_enter Try.func20, Try.ntmps20
    go_wp2_with fail
    refine (oright_any _ p w HP.out hlp HFP.out).mono ?_
    rw [HRP.out]
    rintro e w2 ⟨rfl, hb⟩
    have HB2 := hidden hb
    clear hb
    go_wp2_with fail
    go_ret2
    exact ⟨_, by rw [HT.out]; rfl, by rw [HT.out]; exact OpsAt.nil _ _ _, HB2.out⟩
  | true =>
    have HRP := hidden hrp
    cases hrq : right q with
    | false =>
      have HT := hidden (show thn p q = none by unfold thn; rw [if_neg (by simp [hrq])])
      have HRQ := hidden hrq
      clear hrp hrq
      go_enter Try.func20, Try.ntmps20
      go_wp2_with fail
      refine (oright_any _ p w HP.out hlp HFP.out).mono ?_
      rw [HRP.out]
      rintro e w2 ⟨rfl, hb⟩
      have HB2 := hidden hb
      have HQ2 := hidden (HQ.out.later hb)
      clear hb
      go_wp2_with fail
      refine (oright_any _ q w2 HQ2.out hlq HFQ.out).mono ?_
      rw [HRQ.out]
      rintro e w3 ⟨rfl, hb⟩
      have HB3 := hidden (HB2.out.trans (hb.mono HB2.out.size))
      clear hb
      go_wp2_with fail
      go_ret2
      exact ⟨_, by rw [HT.out]; rfl, by rw [HT.out]; exact OpsAt.nil _ _ _, HB3.out⟩
    | true =>
      have HRQ := hidden hrq
      have HT := hidden (thn_prog hrp hrq)
      have HAP := hidden (right_Al hrp)
      have HAQ := hidden (right_Al hrq)
      have HLP := hidden (show p.length ≤ 1099511627776 by have := right_len hrp; omega)
      have HLQ := hidden (show q.length ≤ 1099511627776 by have := right_len hrq; omega)
      clear hrp hrq
      go_enter Try.func20, Try.ntmps20
      go_wp2_with fail
      refine (oright_any _ p w HP.out hlp HFP.out).mono ?_
      rw [HRP.out]
      rintro e w2 ⟨rfl, hb⟩
      have HB2 := hidden hb
      have HP2 := hidden (HP.out.later hb)
      have HQ2 := hidden (HQ.out.later hb)
      clear hb
      go_wp2_with fail
      refine (oright_any _ q w2 HQ2.out hlq HFQ.out).mono ?_
      rw [HRQ.out]
      rintro e w3 ⟨rfl, hb⟩
      have HB3 := hidden (HB2.out.trans (hb.mono HB2.out.size))
      have HP3 := hidden (HP2.out.later hb)
      have HQ3 := hidden (HQ2.out.later hb)
      clear hb HB2 HP2 HQ2
      go_wp2_with fail
      obtain ⟨R, hR⟩ : ∃ R, (wk (p.length + q.length + 1) false p q).map byO = R := ⟨_, rfl⟩
      refine (together_any _ _ p q w3 HP3.out HQ3.out HLP.out HLQ.out HAP.out HAQ.out HFP.out HFQ.out).mono ?_
      rw [hR] at HT ⊢
      clear hR
      rintro e w4 ⟨v4, rfl, ho, hb, hf⟩
      have HB4 := hidden (HB3.out.trans (hb.mono HB3.out.size))
      clear hb HB3 HP3 HQ3
      cases R with
      | none =>
        have HTN := hidden (show thn p q = none from HT.out)
        obtain ⟨a4, c4, e4⟩ := ho.shape
        simp only [Option.getD_none, List.length_nil] at e4
        subst e4
        clear ho hf HT
        simp only [Option.isSome_none]
        go_wp2_with fail
        go_ret2
        exact ⟨_, by rw [HTN.out]; rfl, by rw [HTN.out]; exact OpsAt.nil _ _ _, HB4.out⟩
      | some l =>
        have HTS := hidden (show thn p q = if right l = true then some (normL l) else none from HT.out)
        have HO := hidden (show OpsAt w4 v4 l from ho)
        have HFL := hidden (hf l rfl).1
        have HLL := hidden (show l.length ≤ 4398046511104 by have := (hf l rfl).2; have := HLP.out; have := HLQ.out; omega)
        obtain ⟨a4, n4, c4, rfl⟩ : ∃ a n c, v4 = .slice a n c := by obtain ⟨a, c, e⟩ := ho.shape; exact ⟨_, _, _, e⟩
        clear ho hf HT
        simp only [Option.isSome_some]
        go_wp2_with fail
        refine (oright_any _ l w4 HO.out HLL.out HFL.out).mono ?_
        cases hrl : right l with
        | false =>
          have HTN := hidden (show thn p q = none by rw [HTS.out, if_neg (by simp [hrl])])
          clear hrl
          rintro e w5 ⟨rfl, hb⟩
          have HB5 := hidden (HB4.out.trans (hb.mono HB4.out.size))
          clear hb
          go_wp2_with fail
          go_ret2
          exact ⟨_, by rw [HTN.out]; rfl, by rw [HTN.out]; exact OpsAt.nil _ _ _, HB5.out⟩
        | true =>
          have HTN := hidden (show thn p q = some (normL l) by rw [HTS.out, if_pos hrl])
          clear hrl
          rintro e w5 ⟨rfl, hb⟩
          have HB5 := hidden (HB4.out.trans (hb.mono HB4.out.size))
          have HO5 := hidden (HO.out.later hb)
          clear hb
          go_wp2_with fail
          refine (onorm_any _ l w5 HO5.out HLL.out HFL.out).mono ?_
          rintro e w6 ⟨v6, rfl, ho6, hb⟩
          have HB6 := hidden (HB5.out.trans (hb.mono HB5.out.size))
          have HO6 := hidden ho6
          clear hb ho6
          go_wp2_with fail
          go_ret2
          exact ⟨_, by rw [HTN.out]; rfl, by rw [HTN.out]; exact HO6.out, HB6.out⟩

end Go.Proofs.Ytmbalnjobcgpkaa
