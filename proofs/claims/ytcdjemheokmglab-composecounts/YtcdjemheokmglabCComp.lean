
/-
  What the program's own Then and Rest answer at any steps that lie in memory; conditions: the lists' and texts' lengths.
-/
import Derived.Test.YtcdjemheokmglabCTog2
import Derived.Test.YtcdjemheokmglabCPThen
namespace Go.Proofs.Ytcdjemheokmglab
open Go.RowKit Go.Proofs.Ytcdjemheokmglab.Ln Go.Proofs.Ytcdjemheokmglab.Ol

set_option maxRecDepth 3000 in
set_option maxHeartbeats 8000000 in
theorem then_any (v u : Value) (p q : List Oq) (w : World) (hP : OpsAt w v p) (hQ : OpsAt w u q) (hlp : p.length ≤ 4398046511104) (hlq : q.length ≤ 4398046511104) (hfp : Fit p) (hfq : Fit q) :
    Calls Try.prog 7 #[v, u] w fun e w' => ∃ v', e = .returned (.tuple #[v', .bool (thn p q).isSome]) ∧ OpsAt w' v' ((thn p q).getD []) ∧ Below w.heap.size w w' := by
  have HP := hidden hP
  have HQ := hidden hQ
  have HFP := hidden hfp
  have HFQ := hidden hfq
  obtain ⟨ao, cap, rfl⟩ := hP.shape
  obtain ⟨bo, cap2, rfl⟩ := hQ.shape
  clear hP hQ hfp hfq
  cases hrp : right p with
  | false =>
    have HT := hidden (show thn p q = none by unfold thn; rw [if_neg (by simp [hrp])])
    have HRP := hidden hrp
    clear hrp
    go_enter Try.func7, Try.ntmps7
    go_wp2_with fail
    refine (oright_any _ p w HP.out hlp HFP.out).mono ?_
    rw [HRP.out]
    rintro e w2 ⟨rfl, hb⟩
    have HB2 := hidden hb
    clear hb
    go_wp2_with fail
    go_ret2
    exact ⟨_, by rw [HT.out]; rfl, by rw [HT.out]; exact OpsAt.nil _ _ _, HB2.out⟩
  | true =>
    have HRP := hidden hrp
    cases hrq : right q with
    | false =>
      have HT := hidden (show thn p q = none by unfold thn; rw [if_neg (by simp [hrq])])
      have HRQ := hidden hrq
      clear hrp hrq
      go_enter Try.func7, Try.ntmps7
      go_wp2_with fail
      refine (oright_any _ p w HP.out hlp HFP.out).mono ?_
      rw [HRP.out]
      rintro e w2 ⟨rfl, hb⟩
      have HB2 := hidden hb
      have HQ2 := hidden (HQ.out.later hb)
      clear hb
      go_wp2_with fail
      refine (oright_any _ q w2 HQ2.out hlq HFQ.out).mono ?_
      rw [HRQ.out]
      rintro e w3 ⟨rfl, hb⟩
      have HB3 := hidden (HB2.out.trans (hb.mono HB2.out.size))
      clear hb
      go_wp2_with fail
      go_ret2
      exact ⟨_, by rw [HT.out]; rfl, by rw [HT.out]; exact OpsAt.nil _ _ _, HB3.out⟩
    | true =>
      have HRQ := hidden hrq
      have HT := hidden (thn_prog hrp hrq)
      have HAP := hidden (right_Al hrp)
      have HAQ := hidden (right_Al hrq)
      have HLP := hidden (show p.length ≤ 1099511627776 by have := right_len hrp; omega)
      have HLQ := hidden (show q.length ≤ 1099511627776 by have := right_len hrq; omega)
      clear hrp hrq
      go_enter Try.func7, Try.ntmps7
      go_wp2_with fail
      refine (oright_any _ p w HP.out hlp HFP.out).mono ?_
      rw [HRP.out]
      rintro e w2 ⟨rfl, hb⟩
      have HB2 := hidden hb
      have HP2 := hidden (HP.out.later hb)
      have HQ2 := hidden (HQ.out.later hb)
      clear hb
      go_wp2_with fail
      refine (oright_any _ q w2 HQ2.out hlq HFQ.out).mono ?_
      rw [HRQ.out]
      rintro e w3 ⟨rfl, hb⟩
      have HB3 := hidden (HB2.out.trans (hb.mono HB2.out.size))
      have HP3 := hidden (HP2.out.later hb)
      have HQ3 := hidden (HQ2.out.later hb)
      clear hb HB2 HP2 HQ2
      go_wp2_with fail
      obtain ⟨R, hR⟩ : ∃ R, (wk (p.length + q.length + 1) false p q).map byO = R := ⟨_, rfl⟩
      refine (together_any _ _ p q w3 HP3.out HQ3.out HLP.out HLQ.out HAP.out HAQ.out HFP.out HFQ.out).mono ?_
      rw [hR] at HT ⊢
      clear hR
      rintro e w4 ⟨v4, rfl, ho, hb, hf⟩
      have HB4 := hidden (HB3.out.trans (hb.mono HB3.out.size))
      clear hb HB3 HP3 HQ3
      cases R with
      | none =>
        have HTN := hidden (show thn p q = none from HT.out)
        obtain ⟨a4, c4, e4⟩ := ho.shape
        simp only [Option.getD_none, List.length_nil] at e4
        subst e4
        clear ho hf HT
        simp only [Option.isSome_none]
        go_wp2_with fail
        go_ret2
        exact ⟨_, by rw [HTN.out]; rfl, by rw [HTN.out]; exact OpsAt.nil _ _ _, HB4.out⟩
      | some l =>
        have HTS := hidden (show thn p q = if right l = true then some (normL l) else none from HT.out)
        have HO := hidden (show OpsAt w4 v4 l from ho)
        have HFL := hidden (hf l rfl).1
        have HLL := hidden (show l.length ≤ 4398046511104 by have := (hf l rfl).2; have := HLP.out; have := HLQ.out; omega)
        obtain ⟨a4, n4, c4, rfl⟩ : ∃ a n c, v4 = .slice a n c := by obtain ⟨a, c, e⟩ := ho.shape; exact ⟨_, _, _, e⟩
        clear ho hf HT
        simp only [Option.isSome_some]
        go_wp2_with fail
        refine (oright_any _ l w4 HO.out HLL.out HFL.out).mono ?_
        cases hrl : right l with
        | false =>
          have HTN := hidden (show thn p q = none by rw [HTS.out, if_neg (by simp [hrl])])
          clear hrl
          rintro e w5 ⟨rfl, hb⟩
          have HB5 := hidden (HB4.out.trans (hb.mono HB4.out.size))
          clear hb
          go_wp2_with fail
          go_ret2
          exact ⟨_, by rw [HTN.out]; rfl, by rw [HTN.out]; exact OpsAt.nil _ _ _, HB5.out⟩
        | true =>
          have HTN := hidden (show thn p q = some (normL l) by rw [HTS.out, if_pos hrl])
          clear hrl
          rintro e w5 ⟨rfl, hb⟩
          have HB5 := hidden (HB4.out.trans (hb.mono HB4.out.size))
          have HO5 := hidden (HO.out.later hb)
          clear hb
          go_wp2_with fail
          refine (onorm_any _ l w5 HO5.out HLL.out HFL.out).mono ?_
          rintro e w6 ⟨v6, rfl, ho6, hb⟩
          have HB6 := hidden (HB5.out.trans (hb.mono HB5.out.size))
          have HO6 := hidden ho6
          clear hb ho6
          go_wp2_with fail
          go_ret2
          exact ⟨_, by rw [HTN.out]; rfl, by rw [HTN.out]; exact HO6.out, HB6.out⟩

set_option maxHeartbeats 4000000 in
theorem rest_any (v : Value) (xs : List Oq) (w : World) (hX : OpsAt w v xs) (hl : xs.length ≤ 4398046511104) (hf : Fit xs) :
    Calls Try.prog 11 #[v] w fun e w' => ∃ v', e = .returned v' ∧ OpsAt w' v' (rst xs) ∧ Below w.heap.size w w' := by
  have HX := hidden hX
  have HF := hidden hf
  obtain ⟨ao, cap, rfl, hc⟩ := hX.open_
  have HC := hidden hc
  have hrm := hX.room
  clear hX hc hf
  go_enter Try.func11, Try.ntmps11
  go_wp2_with fail
  go_loopw [3] (fun i wr => ∃ k : Nat, k ≤ xs.length ∧ i = .int .i64 k ∧ Hid (rst (xs.take k) = rst xs) ∧ wr = w) (fun i _ => (intOf i).toNat)
  case atStart => exact ⟨xs.length, Nat.le_refl _, rfl, by show rst (xs.take xs.length) = rst xs; rw [List.take_length], rfl⟩
  case round =>
    obtain ⟨k, hk, rfl, hst, hw⟩ := hrel
    obtain rfl : w = wr := hw.symm
    cases k with
    | zero =>
      have HR := hidden (show rst xs = [] by rw [← hst.out]; rfl)
      clear hst HC
      go_wp2_with fail
      refine wp_loop_rounds 1 ?_
      rw [rounds_succ]
      go_wp2_with fail
      go_ret
      exact ⟨_, rfl, by rw [HR.out]; exact OpsAt.nil _ _ _, Below.refl _ _⟩
    | succ k =>
      obtain ⟨x1, x2, x3, hx⟩ := op_some (show k < xs.length by omega)
      obtain ⟨b, o, hao, hcap, hb, hcc⟩ := HC.out k _ hx
      obtain ⟨c1, c2, c3⟩ := hcc
      simp only at c1 c2 c3
      have hi1 : (0 : Int) < (k : Int) + 1 := by omega
      have hi2 : ((k : Int) + 1 - 1) = k := by omega
      by_cases h1 : x1 = 1
      · subst hao
        subst h1
        have HR := hidden ((rst_skip hx rfl).symm.trans hst.out)
        clear hx c2 c3
        go_wp2_with fail
        go_roundw
        case rel => exact ⟨k, by omega, by go_num, HR.out, by first | rfl | trivial⟩
        case measure => simp [intOf]
      · have HR := hidden (show rst xs = xs.take (k + 1) from ((rst_not hx h1).symm.trans hst.out).symm)
        have h1b : (x1 == 1) = false := by simpa using h1
        subst hao
        clear hx c2 c3 h1 hst
        have HCJ := hidden (fun (j : Nat) (x : Oq) (h : xs[j]? = some x) => (show (b < w.heap.size) ∧ _ from by
          obtain ⟨b', o', e, _, h1, h2⟩ := HC.out j x h
          cases e
          exact ⟨h1, h2⟩))
        have HKL := hidden hk
        have hcp : ((k : Int) + 1) ≤ cap := by omega
        have hx0 : (0 : Int) ≤ (k : Int) + 1 := by omega
        clear HC hcap hb
        go_wp2_with fail
        have HST := hidden (show (w.ownsRow w.heap.size 30 3 (.slice none 0 0) 0 (cellsO (xs.take 0))) ∧ Below w.heap.size w w from ⟨⟨rfl, Or.inl ⟨rfl, rfl⟩⟩, Below.refl _ _⟩)
        go_loopw [4, 26] (fun u i wq => ∃ j : Nat, j ≤ k + 1 ∧ i = .int .i64 j ∧ Hid (wq.ownsRow w.heap.size 30 3 u j (cellsO (xs.take j)) ∧ Below w.heap.size w wq)) (fun _ i _ => k + 1 - (intOf i).toNat)
        case atStart => exact ⟨0, Nat.zero_le _, rfl, HST.out⟩
        case round =>
          clear HST
          obtain ⟨j, hj, rfl, hst2⟩ := hrel
          have hjl : (xs.take j).length = j := by rw [List.length_take]; omega
          by_cases hlt : j < k + 1
          · obtain ⟨x1, x2, x3, hx⟩ := op_some (show j < xs.length by omega)
            obtain ⟨hb, hcc⟩ := HCJ.out j _ hx
            obtain ⟨c1, c2, c3⟩ := three_later hb hst2.out.2 hcc
            simp only at c1 c2 c3
            have HF3 := hidden (show x3.length ≤ 281474976710656 by have := HF.out _ (List.mem_of_getElem? hx); simp only at this; omega)
            have HOW := hidden (show wr.ownsRow w.heap.size 30 3 u4 (xs.take j).length (cellsO (xs.take j)) by rw [hjl]; exact hst2.out.1)
            have HBW := hidden hst2.out.2
            have HT := hidden (take_snoc hx)
            have HJL := hidden hjl
            have hws := hst2.out.2.size
            have HC0 := hidden (OpC.new wr x1 x2 x3)
            have HB0 := hidden (bel_alloc (Below.refl wr.heap.size wr) (opO x1 x2 x3))
            unfold opO at HC0 HB0
            clear hst2 hx hcc hjl
            go_wp2_with fail
            refine (clone_any x3 _ HF3.out).mono ?_
            rintro e w5 ⟨rfl, hb5⟩
            have HC5 := hidden (HC0.out.later hb5)
            have HB5 := hidden (HB0.out.trans (hb5.mono HB0.out.size))
            clear hb5 HC0 HB0 c1 c2 c3
            obtain ⟨d0, d1, d2⟩ := HC5.out.cells
            have df := HC5.out.thaw 2
            have HB6 := hidden (bel_set (i := 2) (u := .string ⟨x3.toArray⟩) HB5.out (b := wr.heap.size) (Nat.le_refl _))
            have HOW6 := hidden (owns_later HOW.out HB6.out)
            have hs6 := HB6.out.size
            go_wp2_with (at_builtin; go_must (refine wpList_append_ops _ (by go_simp) _ _ rfl w.heap.size u4 (.slice (some ⟨w5.heap.size, 0, none⟩) 1 1) (xs.take j) [(x1, x2, x3)] rfl rfl (owns_later HOW6.out (bel_alloc (Below.refl _ _) _)) (ops_oneAt _ _ _ _ _ (by simp)) (by have := HJL.out; simp; omega) (by simp at hs6 ⊢; omega) ?_; intro v9 w9 hown9 hadd9; have HB9 := hidden (show Below w.heap.size w w9 from adds_bel (v := u4) (bel_alloc (HBW.out.trans (HB6.out.mono hws)) (opO x1 x2 x3)) (by simp at hs6 ⊢; omega) (owns_later HOW6.out (bel_alloc (Below.refl _ _) (opO x1 x2 x3))) hadd9); have HO9 := hidden hown9; clear hown9 hadd9))
            go_roundw
            case rel => exact ⟨j + 1, by omega, by go_num, by have h := HO9.out; rw [List.length_append, HJL.out, ← HT.out] at h; exact h, HB9.out⟩
            case measure => simp [intOf]; omega
          · obtain rfl : k + 1 = j := by omega
            have HO := hidden (OpsAt.of_owns hst2.out.1)
            have HB := hidden hst2.out.2
            clear hst2
            go_wp2_with fail
            go_ret
            exact ⟨_, rfl, by rw [HR.out]; exact HO.out, HB.out⟩

end Go.Proofs.Ytcdjemheokmglab
