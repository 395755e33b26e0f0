
/-
  The law SwapApart answers true at whatever numbers, and leaves what lay in memory as it was.
-/
import Derived.Test.YtcjjboomljbmbaaXLaw
import Derived.Test.YtcjjboomljbmbaaXApart
import Derived.Test.YtcjjboomljbmbaaVTrim
namespace Go.Proofs.Ytcjjboomljbmbaa
open Go.RowKit Go.Proofs.Ytcjjboomljbmbaa.Ln Go.Proofs.Ytcjjboomljbmbaa.Ol

theorem cm_snoc (k : Nat) (t : Tx) : cm (k + 1) t = cm k t ++ [(4, 0, t)] := List.replicate_succ'
theorem cm_len (k : Nat) (t : Tx) : (cm k t).length = k := List.length_replicate
theorem one_rR {n m : Nat} {t : Tx} (h : 1 ≤ n) : ([(1, (n : Int), [])] : List Oq) ++ cm m t = rR n m t := by unfold rR nS; rw [if_neg (by omega)]
theorem rR_fit (n m : Nat) {t : Tx} (h : t.length ≤ 1000) : Fit (rR n m t) := fun x hx => by
  unfold rR at hx
  rcases List.mem_append.1 hx with hx | hx
  · unfold nS at hx
    split at hx
    · cases hx
    · simp at hx; subst hx; simp
  · unfold cm at hx
    rw [(List.mem_replicate.1 hx).2]
    show t.length ≤ 140737488355328
    omega
theorem rR_len (n m : Nat) (t : Tx) : (rR n m t).length ≤ m + 1 := by
  unfold rR nS
  split <;> simp [cm]
theorem rst_ins {n m : Nat} {t : Tx} (hm : 1 ≤ m) : rst (rR n m t) = rR n m t := by
  obtain ⟨k, rfl⟩ : ∃ k, m = k + 1 := ⟨m - 1, by omega⟩
  unfold rst rR cm
  rw [List.replicate_succ', ← List.append_assoc, List.reverse_append]
  simp
theorem rst_two {n m : Nat} {t : Tx} (hm : 1 ≤ m) (z : Int) : rst (rR n m t ++ [(1, z, [])]) = rR n m t := by
  have h := rst_ins (n := n) (t := t) hm
  unfold rst at h ⊢
  rw [List.reverse_append]
  simpa using h

set_option maxHeartbeats 4000000 in
theorem come_any (n : Nat) (t : Tx) (w : World) (hn : n ≤ 1000) :
    Calls Try.prog 22 #[.int .i64 n, .string ⟨t.toArray⟩] w fun e w' => ∃ v', e = .returned v' ∧ OpsAt w' v' (cm n t) ∧ Below w.heap.size w w' := by
  go_enter Try.func22, Try.ntmps22
  go_wp2_with fail
  go_loopw [5, 6] (fun q i wr => ∃ k : Nat, k ≤ n ∧ i = .int .i64 k ∧ Hid (wr.ownsRow w.heap.size 41 3 q (cm k t).length (cellsO (cm k t)) ∧ Below w.heap.size w wr)) (fun _ i _ => n - (intOf i).toNat)
  case atStart => exact ⟨0, Nat.zero_le _, rfl, ⟨rfl, Or.inl ⟨rfl, rfl⟩⟩, Below.refl _ _⟩
  case round =>
    obtain ⟨k, hk, rfl, hst⟩ := hrel
    have hws := hst.out.2.size
    by_cases hlt : k < n
    · have hlt2 : (k : Int) < (n : Int) := by omega
      have hcl := cm_len k t
      go_wp2_with (at_builtin; go_must (refine wpList_append_ops _ (by go_simp) (.tmp 12) (.tmp 15) rfl w.heap.size _ (.slice (some ⟨wr.heap.size, 0, none⟩) 1 1) (cm k t) [(4, 0, t)] rfl rfl (hst.out.1.alloc _) (ops_oneAt _ _ _ _ _ rfl) (by simp; omega) (by simp; omega) ?_; intro v9 w9 hown9 hadd9))
      have HK := hidden (show w9.ownsRow w.heap.size 41 3 v9 (cm (k + 1) t).length (cellsO (cm (k + 1) t)) ∧ Below w.heap.size w w9 from ⟨by rw [cm_snoc]; exact hown9, adds_bel (bel_alloc hst.out.2 _) (by simp; omega) (hst.out.1.alloc (opO 4 0 t)) hadd9⟩)
      clear hown9 hadd9
      go_roundw
      case rel => exact ⟨k + 1, by omega, by go_num, HK.out⟩
      case measure => simp [intOf]; omega
    · obtain rfl : k = n := by omega
      have hlt2 : ¬ (k : Int) < (k : Int) := by omega
      go_wp2_with fail
      go_ret
      exact ⟨_, rfl, OpsAt.of_owns hst.out.1, hst.out.2⟩
set_option maxRecDepth 3000 in
set_option maxHeartbeats 8000000 in
theorem swapApart_any (a f b c : Int) (behind : Bool) (w : World) : Calls Try.prog 8 #[.int .i64 a, .int .i64 f, .int .i64 b, .int .i64 c, .bool behind] w fun e w' => e = .returned (.bool true) ∧ Below w.heap.size w w' := by
  go_enter Try.func8, Try.ntmps8
  go_wp2_with fail
  refine (alive15_any _).mono ?_
  rintro e w1 ⟨rfl, hb⟩
  have HB1 := hidden hb
  clear hb
  by_cases h1 : a < 1
  · go_wp2_with fail
    go_ret
    exact ⟨rfl, HB1.out⟩
  by_cases h2 : a > 1000
  · go_wp2_with fail
    go_ret
    exact ⟨rfl, HB1.out⟩
  by_cases h3 : f < 1
  · go_wp2_with fail
    go_ret
    exact ⟨rfl, HB1.out⟩
  by_cases h4 : f > 1000
  · go_wp2_with fail
    go_ret
    exact ⟨rfl, HB1.out⟩
  by_cases h5 : b < 1
  · go_wp2_with fail
    go_ret
    exact ⟨rfl, HB1.out⟩
  by_cases h6 : b > 20
  · go_wp2_with fail
    go_ret
    exact ⟨rfl, HB1.out⟩
  by_cases h7 : c < 1
  · go_wp2_with fail
    go_ret
    exact ⟨rfl, HB1.out⟩
  by_cases h8 : c > 20
  · go_wp2_with fail
    go_ret
    exact ⟨rfl, HB1.out⟩
  obtain ⟨n, rfl⟩ : ∃ n : Nat, a = n := ⟨a.toNat, by omega⟩
  obtain ⟨g, rfl⟩ : ∃ g : Nat, f = g := ⟨f.toNat, by omega⟩
  obtain ⟨k, rfl⟩ : ∃ k : Nat, b = k := ⟨b.toNat, by omega⟩
  obtain ⟨j, rfl⟩ : ∃ j : Nat, c = j := ⟨c.toNat, by omega⟩
  have HN := hidden (show (1 ≤ n ∧ n ≤ 1000) ∧ (1 ≤ g ∧ g ≤ 1000) ∧ (1 ≤ k ∧ k ≤ 20) ∧ (1 ≤ j ∧ j ≤ 20) by omega)
  obtain ⟨t, ht⟩ : ∃ t : Tx, t = [120, 10] := ⟨_, rfl⟩
  obtain ⟨u, hu⟩ : ∃ u : Tx, u = [121, 10] := ⟨_, rfl⟩
  have HT := hidden (show rt t = true ∧ cl t = true ∧ t.length ≤ 1000 by subst ht; decide)
  have HU := hidden (show rt u = true ∧ cl u = true ∧ u.length ≤ 1000 by subst hu; decide)
  go_wp2_with fail
  refine (come_any k [120, 10] w1 (by omega)).mono ?_
  rw [← ht]
  rintro e w2 ⟨v12, rfl, ho, hb⟩
  have HB2 := hidden (HB1.out.trans (hb.mono HB1.out.size))
  have HR2 := hidden ho
  clear hb ho
  go_wp2_with fail
  refine (come_any j [121, 10] w2 (by omega)).mono ?_
  rw [← hu]
  rintro e w3 ⟨v13, rfl, ho, hb⟩
  have HB3 := hidden (HB2.out.trans (hb.mono HB2.out.size))
  have HS3 := hidden ho
  have HR3 := hidden (HR2.out.later hb)
  clear hb ho HB2 HR2 HB1 ht hu
  have HKL := hidden (show (cm k t).length ≤ 20 ∧ (cm j u).length ≤ 20 by rw [cm_len, cm_len]; omega)
  have HE1 := hidden (one_rR (m := k) (t := t) HN.out.1.1)
  have HE2 := hidden (show ([(1, (n : Int) + k + g, [])] : List Oq) ++ cm j u = rR (n + k + g) j u by rw [← one_rR (by have := HN.out; omega)]; simp)
  have HE3 := hidden (show ([(1, (n : Int) + g, [])] : List Oq) ++ cm j u = rR (n + g) j u by rw [← one_rR (by have := HN.out; omega)]; simp)
  have hws3 := HB3.out.size
  go_upto_region 7 with (at_builtin; go_must (refine wpList_append_ops _ (by go_simp) (.tmp 63) (.tmp 64) rfl w3.heap.size (.slice (some ⟨w3.heap.size, 0, none⟩) 1 1) v12 [(1, (n : Int), [])] (cm k t) rfl rfl (owns_one (Nat.le_refl _) _ _ _) (HR3.out.later (bel_alloc (Below.refl _ _) _)) (by have := HKL.out; simp; omega) (by simp) ?_; intro v14 w4 hown4 hadd4; have hb4 := adds_bel (bel_alloc (Below.refl w3.heap.size w3) _) (by simp) (owns_one (Nat.le_refl _) 1 ((n : Int)) []) hadd4; have HB4 := hidden (HB3.out.trans (hb4.mono HB3.out.size)); have H144 := hidden (show OpsAt w4 v14 (rR n k t) from by have h := OpsAt.of_owns hown4; rw [HE1.out] at h; exact h); have HR4 := hidden (HR3.out.later hb4); have HS4 := hidden (HS3.out.later hb4); clear hown4 hadd4 hb4))
  have hws4 := HB4.out.size
  go_upto_region 8 with (at_builtin; go_must (refine wpList_append_ops _ (by go_simp) (.tmp 72) (.tmp 73) rfl w4.heap.size (.slice (some ⟨w4.heap.size, 0, none⟩) 1 1) v13 [(1, (n : Int) + k + g, [])] (cm j u) rfl rfl (owns_one (Nat.le_refl _) _ _ _) (HS4.out.later (bel_alloc (Below.refl _ _) _)) (by have := HKL.out; simp; omega) (by simp) ?_; intro v15 w5 hown5 hadd5; have hb5 := adds_bel (bel_alloc (Below.refl w4.heap.size w4) _) (by simp) (owns_one (Nat.le_refl _) 1 ((n : Int) + k + g) []) hadd5; have HB5 := hidden (HB4.out.trans (hb5.mono HB4.out.size)); have H155 := hidden (show OpsAt w5 v15 (rR (n + k + g) j u) from by have h := OpsAt.of_owns hown5; rw [HE2.out] at h; exact h); have HR5 := hidden (HR4.out.later hb5); have HS5 := hidden (HS4.out.later hb5); have H145 := hidden (H144.out.later hb5); clear hown5 hadd5 hb5))
  have hws5 := HB5.out.size
  go_upto_region 9 with (at_builtin; go_must (refine wpList_append_ops _ (by go_simp) (.tmp 79) (.tmp 80) rfl w5.heap.size (.slice (some ⟨w5.heap.size, 0, none⟩) 1 1) v13 [(1, (n : Int) + g, [])] (cm j u) rfl rfl (owns_one (Nat.le_refl _) _ _ _) (HS5.out.later (bel_alloc (Below.refl _ _) _)) (by have := HKL.out; simp; omega) (by simp) ?_; intro v16 w6 hown6 hadd6; have hb6 := adds_bel (bel_alloc (Below.refl w5.heap.size w5) _) (by simp) (owns_one (Nat.le_refl _) 1 ((n : Int) + g) []) hadd6; have HB6 := hidden (HB5.out.trans (hb6.mono HB5.out.size)); have H166 := hidden (show OpsAt w6 v16 (rR (n + g) j u) from by have h := OpsAt.of_owns hown6; rw [HE3.out] at h; exact h); have HR6 := hidden (HR5.out.later hb6); have HS6 := hidden (HS5.out.later hb6); have H146 := hidden (H145.out.later hb6); have H156 := hidden (H155.out.later hb6); clear hown6 hadd6 hb6))
  have hws6 := HB6.out.size
  go_upto_region 10 with (at_builtin; go_must (refine wpList_append_ops _ (by go_simp) (.tmp 84) (.tmp 85) rfl w6.heap.size (.slice (some ⟨w6.heap.size, 0, none⟩) 1 1) v12 [(1, (n : Int), [])] (cm k t) rfl rfl (owns_one (Nat.le_refl _) _ _ _) (HR6.out.later (bel_alloc (Below.refl _ _) _)) (by have := HKL.out; simp; omega) (by simp) ?_; intro v86 w7 hown7 hadd7; have hb7 := adds_bel (bel_alloc (Below.refl w6.heap.size w6) _) (by simp) (owns_one (Nat.le_refl _) 1 (n : Int) []) hadd7; have HB7 := hidden (HB6.out.trans (hb7.mono HB6.out.size)); rw [HE1.out] at hown7; have HO86 := hidden hown7; have HBX := hidden hb7; have hsz7 := hb7.size; clear hown7 hadd7 hb7; go_upto_region 10 with (at_builtin; go_must (refine wpList_append_ops _ (by go_simp) (.tmp 86) (.tmp 89) rfl w6.heap.size v86 (.slice (some ⟨w7.heap.size, 0, none⟩) 1 1) (rR n k t) [(1, (g : Int), [])] rfl rfl (HO86.out.alloc _) (ops_oneAt _ _ _ _ _ rfl) (by have := rR_len n k t; have := HN.out; simp; omega) (by simp; omega) ?_; intro v17 w8 hown8 hadd8; have hb80 := adds_bel ((Below.refl w6.heap.size w7).alloc (by omega) _) (by simp; omega) (HO86.out.alloc (opO 1 (g : Int) [])) hadd8; have HB8 := hidden (HB6.out.trans ((HBX.out.trans hb80).mono HB6.out.size)); have H178 := hidden (show OpsAt w8 v17 (rR n k t ++ [(1, (g : Int), [])]) from OpsAt.of_owns hown8); have HR8 := hidden (HR6.out.later (HBX.out.trans hb80)); have HS8 := hidden (HS6.out.later (HBX.out.trans hb80)); have H148 := hidden (H146.out.later (HBX.out.trans hb80)); have H158 := hidden (H156.out.later (HBX.out.trans hb80)); have H168 := hidden (H166.out.later (HBX.out.trans hb80)); clear hown8 hadd8))))
  cases behind with
  | false =>
    obtain ⟨x, y, hsw, hx, hy⟩ := apart_swap (t := t) (u := u) (n := n) (far := g) (many := k) (more := j) HT.out.1 HU.out.1 HT.out.2.1 HU.out.2.1 HN.out.1.2 HN.out.2.1.2 HN.out.2.1.1 HN.out.2.2.1.2 HN.out.2.2.1.1 HN.out.2.2.2.2 HN.out.2.2.2.1
    have HSW := hidden hsw
    have HTX := hidden hx
    have HTY := hidden hy
    have HFP := hidden (show Fit (rR n k t) from rR_fit _ _ HT.out.2.2)
    have HFQ := hidden (show Fit (rR (n + k + g) j u) from rR_fit _ _ HU.out.2.2)
    have HLX := hidden (show x.length ≤ 4294967296 ∧ y.length ≤ 4294967296 by have h := swp_len (rR n k t) (rR (n + k + g) j u); rw [hsw] at h; exact h)
    have HFX := hidden (show Fit x ∧ Fit y by have h := swp_fit HFP.out HFQ.out; rw [hsw] at h; exact h)
    obtain ⟨rr, SS⟩ := swp_some hsw
    have HTZ := hidden (show trm x (arn 0) = rR (n + g) j u ∧ trm y (arn 0) = rR n k t from ⟨(trm_zero SS.rx).trans hx, (trm_zero SS.ry).trans hy⟩)
    clear hsw hx hy SS rr
    have hlp : (rR n k t).length ≤ 100 ∧ (rR (n + k + g) j u).length ≤ 100 := by have h1 := rR_len n k t; have h2 := rR_len (n + k + g) j u; have := HN.out; exact ⟨by omega, by omega⟩
    go_wp2_with fail
    refine (swap_any _ _ (rR n k t) (rR (n + k + g) j u) w8 H148.out H158.out (by omega) (by omega) HFP.out HFQ.out).mono ?_
    rintro e x1 ⟨qa, qb, rfl, ho1, ho2, hb⟩
    simp only [HSW.out] at ho1 ho2 ⊢
    have HC1 := hidden (HB8.out.trans (hb.mono HB8.out.size))
    have HX1 := hidden ho1
    have HY1 := hidden ho2
    have HF1 := hidden (H168.out.later hb)
    have HG1 := hidden (H178.out.later hb)
    obtain ⟨qa1, qa2, qa3, rfl⟩ : ∃ a n c, qa = .slice a n c := by obtain ⟨a, c, e⟩ := ho1.shape; exact ⟨_, _, _, e⟩
    obtain ⟨qb1, qb2, qb3, rfl⟩ : ∃ a n c, qb = .slice a n c := by obtain ⟨a, c, e⟩ := ho2.shape; exact ⟨_, _, _, e⟩
    clear hb ho1 ho2
    go_wp2_with fail
    refine (num15_any _ _).mono ?_
    rintro e w' ⟨rfl, hw⟩
    subst w'
    go_wp2_with fail
    refine (ptrim_any _ x 0 x1 HX1.out (by have := HLX.out; omega) HFX.out.1).mono ?_
    rw [HTZ.out.1]
    rintro e x2 ⟨q2, rfl, ho, hb⟩
    have HC2 := hidden (HC1.out.trans (hb.mono HC1.out.size))
    have HX2 := hidden ho
    have HY2 := hidden (HY1.out.later hb)
    have HF2 := hidden (HF1.out.later hb)
    have HG2 := hidden (HG1.out.later hb)
    obtain ⟨q21, q22, q23, rfl⟩ : ∃ a n c, q2 = .slice a n c := by obtain ⟨a, c, e⟩ := ho.shape; exact ⟨_, _, _, e⟩
    clear hb ho
    have HLF := hidden (show (rR (n + g) j u).length ≤ 4398046511104 by have h := rR_len (n + g) j u; have := HN.out; omega)
    have HLS := hidden (show (rR n k t ++ [(1, (g : Int), [])]).length ≤ 4398046511104 by have h := rR_len n k t; have := HN.out; simp; omega)
    have HLT := hidden (show (rR n k t).length ≤ 4398046511104 by have h := rR_len n k t; have := HN.out; omega)
    go_wp2_with fail
    refine (psame_any _ _ _ _ x2 HX2.out HF2.out HLF.out HLF.out).mono ?_
    rw [decide_eq_true (show rR (n + g) j u = rR (n + g) j u from rfl)]
    rintro e x3 ⟨rfl, hb⟩
    have HC3 := hidden (HC2.out.trans (hb.mono HC2.out.size))
    have HY3 := hidden (HY2.out.later hb)
    have HG3 := hidden (HG2.out.later hb)
    clear hb
    go_wp2_with fail
    refine (ptrim_any _ y 0 x3 HY3.out (by have := HLX.out; omega) HFX.out.2).mono ?_
    rw [HTZ.out.2]
    rintro e x4 ⟨q4, rfl, ho, hb⟩
    have HC4 := hidden (HC3.out.trans (hb.mono HC3.out.size))
    have HY4 := hidden ho
    have HG4 := hidden (HG3.out.later hb)
    obtain ⟨q41, q42, q43, rfl⟩ : ∃ a n c, q4 = .slice a n c := by obtain ⟨a, c, e⟩ := ho.shape; exact ⟨_, _, _, e⟩
    clear hb ho
    go_wp2_with fail
    refine (prest_any _ (rR n k t ++ [(1, (g : Int), [])]) x4 HG4.out HLS.out).mono ?_
    rw [show rst (rR n k t ++ [(1, (g : Int), [])]) = rR n k t from rst_two HN.out.2.2.1.1 _]
    rintro e x5 ⟨q5, rfl, ho, hb⟩
    have HC5 := hidden (HC4.out.trans (hb.mono HC4.out.size))
    have HY5 := hidden (HY4.out.later hb)
    have HG5 := hidden ho
    obtain ⟨q51, q52, q53, rfl⟩ : ∃ a n c, q5 = .slice a n c := by obtain ⟨a, c, e⟩ := ho.shape; exact ⟨_, _, _, e⟩
    clear hb ho
    go_wp2_with fail
    refine (psame_any _ _ _ _ x5 HY5.out HG5.out HLT.out HLT.out).mono ?_
    rw [decide_eq_true (show rR n k t = rR n k t from rfl)]
    rintro e x6 ⟨rfl, hb⟩
    have HC6 := hidden (HC5.out.trans (hb.mono HC5.out.size))
    clear hb
    go_wp2_with fail
    go_ret
    exact ⟨by first | rfl | simp, HC6.out⟩
  | true =>
    have HE4 := hidden (show ([(1, (n : Int) + g, [])] : List Oq) ++ cm k t = rR (n + g) k t by rw [← one_rR (by have := HN.out; omega)]; simp)
    have HE5 := hidden (one_rR (m := j) (t := u) HN.out.1.1)
    have HE6 := hidden (show ([(1, (n : Int) + j + g, [])] : List Oq) ++ cm k t = rR (n + j + g) k t by rw [← one_rR (by have := HN.out; omega)]; simp)
    have hws8 := HB8.out.size
    go_upto_region 12 with (at_builtin; go_must (refine wpList_append_ops _ (by go_simp) (.tmp 96) (.tmp 97) rfl w8.heap.size (.slice (some ⟨w8.heap.size, 0, none⟩) 1 1) v12 [(1, (n : Int) + g, [])] (cm k t) rfl rfl (owns_one (Nat.le_refl _) _ _ _) (HR8.out.later (bel_alloc (Below.refl _ _) _)) (by have := HKL.out; simp; omega) (by simp) ?_; intro v24 w9 hown9 hadd9; have hb9 := adds_bel (bel_alloc (Below.refl w8.heap.size w8) _) (by simp) (owns_one (Nat.le_refl _) 1 ((n : Int) + g) []) hadd9; have HB9 := hidden (HB8.out.trans (hb9.mono HB8.out.size)); have H249 := hidden (show OpsAt w9 v24 (rR (n + g) k t) from by have h := OpsAt.of_owns hown9; rw [HE4.out] at h; exact h); have HR9 := hidden (HR8.out.later hb9); have HS9 := hidden (HS8.out.later hb9); clear hown9 hadd9 hb9))
    have hws9 := HB9.out.size
    go_upto_region 13 with (at_builtin; go_must (refine wpList_append_ops _ (by go_simp) (.tmp 101) (.tmp 102) rfl w9.heap.size (.slice (some ⟨w9.heap.size, 0, none⟩) 1 1) v13 [(1, (n : Int), [])] (cm j u) rfl rfl (owns_one (Nat.le_refl _) _ _ _) (HS9.out.later (bel_alloc (Below.refl _ _) _)) (by have := HKL.out; simp; omega) (by simp) ?_; intro v25 w10 hown10 hadd10; have hb10 := adds_bel (bel_alloc (Below.refl w9.heap.size w9) _) (by simp) (owns_one (Nat.le_refl _) 1 ((n : Int)) []) hadd10; have HB10 := hidden (HB9.out.trans (hb10.mono HB9.out.size)); have H2510 := hidden (show OpsAt w10 v25 (rR n j u) from by have h := OpsAt.of_owns hown10; rw [HE5.out] at h; exact h); have HR10 := hidden (HR9.out.later hb10); have HS10 := hidden (HS9.out.later hb10); have H2410 := hidden (H249.out.later hb10); clear hown10 hadd10 hb10))
    have hws10 := HB10.out.size
    go_upto_region 14 with (at_builtin; go_must (refine wpList_append_ops _ (by go_simp) (.tmp 106) (.tmp 107) rfl w10.heap.size (.slice (some ⟨w10.heap.size, 0, none⟩) 1 1) v13 [(1, (n : Int), [])] (cm j u) rfl rfl (owns_one (Nat.le_refl _) _ _ _) (HS10.out.later (bel_alloc (Below.refl _ _) _)) (by have := HKL.out; simp; omega) (by simp) ?_; intro v26 w11 hown11 hadd11; have hb11 := adds_bel (bel_alloc (Below.refl w10.heap.size w10) _) (by simp) (owns_one (Nat.le_refl _) 1 ((n : Int)) []) hadd11; have HB11 := hidden (HB10.out.trans (hb11.mono HB10.out.size)); have H2611 := hidden (show OpsAt w11 v26 (rR n j u) from by have h := OpsAt.of_owns hown11; rw [HE5.out] at h; exact h); have HR11 := hidden (HR10.out.later hb11); have HS11 := hidden (HS10.out.later hb11); have H2411 := hidden (H2410.out.later hb11); have H2511 := hidden (H2510.out.later hb11); clear hown11 hadd11 hb11))
    have hws11 := HB11.out.size
    go_upto_region 15 with (at_builtin; go_must (refine wpList_append_ops _ (by go_simp) (.tmp 115) (.tmp 116) rfl w11.heap.size (.slice (some ⟨w11.heap.size, 0, none⟩) 1 1) v12 [(1, (n : Int) + j + g, [])] (cm k t) rfl rfl (owns_one (Nat.le_refl _) _ _ _) (HR11.out.later (bel_alloc (Below.refl _ _) _)) (by have := HKL.out; simp; omega) (by simp) ?_; intro v27 w12 hown12 hadd12; have hb12 := adds_bel (bel_alloc (Below.refl w11.heap.size w11) _) (by simp) (owns_one (Nat.le_refl _) 1 ((n : Int) + j + g) []) hadd12; have HB12 := hidden (HB11.out.trans (hb12.mono HB11.out.size)); have H2712 := hidden (show OpsAt w12 v27 (rR (n + j + g) k t) from by have h := OpsAt.of_owns hown12; rw [HE6.out] at h; exact h); have HR12 := hidden (HR11.out.later hb12); have HS12 := hidden (HS11.out.later hb12); have H2412 := hidden (H2411.out.later hb12); have H2512 := hidden (H2511.out.later hb12); have H2612 := hidden (H2611.out.later hb12); clear hown12 hadd12 hb12))
    obtain ⟨x, y, hsw, hx, hy⟩ := behind_swap (t := t) (u := u) (n := n) (far := g) (many := k) (more := j) HT.out.1 HU.out.1 HT.out.2.1 HU.out.2.1 HN.out.1.2 HN.out.2.1.2 HN.out.2.1.1 HN.out.2.2.1.2 HN.out.2.2.1.1 HN.out.2.2.2.2 HN.out.2.2.2.1
    have HSW := hidden hsw
    have HTX := hidden hx
    have HTY := hidden hy
    have HFP := hidden (show Fit (rR (n + g) k t) from rR_fit _ _ HT.out.2.2)
    have HFQ := hidden (show Fit (rR n j u) from rR_fit _ _ HU.out.2.2)
    have HLX := hidden (show x.length ≤ 4294967296 ∧ y.length ≤ 4294967296 by have h := swp_len (rR (n + g) k t) (rR n j u); rw [hsw] at h; exact h)
    have HFX := hidden (show Fit x ∧ Fit y by have h := swp_fit HFP.out HFQ.out; rw [hsw] at h; exact h)
    obtain ⟨rr, SS⟩ := swp_some hsw
    have HTZ := hidden (show trm x (arn 0) = rR n j u ∧ trm y (arn 0) = rR (n + j + g) k t from ⟨(trm_zero SS.rx).trans hx, (trm_zero SS.ry).trans hy⟩)
    clear hsw hx hy SS rr
    have hlp : (rR (n + g) k t).length ≤ 100 ∧ (rR n j u).length ≤ 100 := by have h1 := rR_len (n + g) k t; have h2 := rR_len n j u; have := HN.out; exact ⟨by omega, by omega⟩
    go_wp2_with fail
    refine (swap_any _ _ (rR (n + g) k t) (rR n j u) w12 H2412.out H2512.out (by omega) (by omega) HFP.out HFQ.out).mono ?_
    rintro e x1 ⟨qa, qb, rfl, ho1, ho2, hb⟩
    simp only [HSW.out] at ho1 ho2 ⊢
    have HC1 := hidden (HB12.out.trans (hb.mono HB12.out.size))
    have HX1 := hidden ho1
    have HY1 := hidden ho2
    have HF1 := hidden (H2612.out.later hb)
    have HG1 := hidden (H2712.out.later hb)
    obtain ⟨qa1, qa2, qa3, rfl⟩ : ∃ a n c, qa = .slice a n c := by obtain ⟨a, c, e⟩ := ho1.shape; exact ⟨_, _, _, e⟩
    obtain ⟨qb1, qb2, qb3, rfl⟩ : ∃ a n c, qb = .slice a n c := by obtain ⟨a, c, e⟩ := ho2.shape; exact ⟨_, _, _, e⟩
    clear hb ho1 ho2
    go_wp2_with fail
    refine (num15_any _ _).mono ?_
    rintro e w' ⟨rfl, hw⟩
    subst w'
    go_wp2_with fail
    refine (ptrim_any _ x 0 x1 HX1.out (by have := HLX.out; omega) HFX.out.1).mono ?_
    rw [HTZ.out.1]
    rintro e x2 ⟨q2, rfl, ho, hb⟩
    have HC2 := hidden (HC1.out.trans (hb.mono HC1.out.size))
    have HX2 := hidden ho
    have HY2 := hidden (HY1.out.later hb)
    have HF2 := hidden (HF1.out.later hb)
    have HG2 := hidden (HG1.out.later hb)
    obtain ⟨q21, q22, q23, rfl⟩ : ∃ a n c, q2 = .slice a n c := by obtain ⟨a, c, e⟩ := ho.shape; exact ⟨_, _, _, e⟩
    clear hb ho
    have HLF := hidden (show (rR n j u).length ≤ 4398046511104 by have h := rR_len n j u; have := HN.out; omega)
    have HLS := hidden (show (rR (n + j + g) k t).length ≤ 4398046511104 by have h := rR_len (n + j + g) k t; have := HN.out; omega)
    have HLT := hidden (show (rR (n + j + g) k t).length ≤ 4398046511104 by have h := rR_len (n + j + g) k t; have := HN.out; omega)
    go_wp2_with fail
    refine (psame_any _ _ _ _ x2 HX2.out HF2.out HLF.out HLF.out).mono ?_
    rw [decide_eq_true (show rR n j u = rR n j u from rfl)]
    rintro e x3 ⟨rfl, hb⟩
    have HC3 := hidden (HC2.out.trans (hb.mono HC2.out.size))
    have HY3 := hidden (HY2.out.later hb)
    have HG3 := hidden (HG2.out.later hb)
    clear hb
    go_wp2_with fail
    refine (ptrim_any _ y 0 x3 HY3.out (by have := HLX.out; omega) HFX.out.2).mono ?_
    rw [HTZ.out.2]
    rintro e x4 ⟨q4, rfl, ho, hb⟩
    have HC4 := hidden (HC3.out.trans (hb.mono HC3.out.size))
    have HY4 := hidden ho
    have HG4 := hidden (HG3.out.later hb)
    obtain ⟨q41, q42, q43, rfl⟩ : ∃ a n c, q4 = .slice a n c := by obtain ⟨a, c, e⟩ := ho.shape; exact ⟨_, _, _, e⟩
    clear hb ho
    go_wp2_with fail
    refine (prest_any _ (rR (n + j + g) k t) x4 HG4.out HLS.out).mono ?_
    rw [show rst (rR (n + j + g) k t) = rR (n + j + g) k t from rst_ins HN.out.2.2.1.1]
    rintro e x5 ⟨q5, rfl, ho, hb⟩
    have HC5 := hidden (HC4.out.trans (hb.mono HC4.out.size))
    have HY5 := hidden (HY4.out.later hb)
    have HG5 := hidden ho
    obtain ⟨q51, q52, q53, rfl⟩ : ∃ a n c, q5 = .slice a n c := by obtain ⟨a, c, e⟩ := ho.shape; exact ⟨_, _, _, e⟩
    clear hb ho
    go_wp2_with fail
    refine (psame_any _ _ _ _ x5 HY5.out HG5.out HLT.out HLT.out).mono ?_
    rw [decide_eq_true (show rR (n + j + g) k t = rR (n + j + g) k t from rfl)]
    rintro e x6 ⟨rfl, hb⟩
    have HC6 := hidden (HC5.out.trans (hb.mono HC5.out.size))
    clear hb
    go_wp2_with fail
    go_ret
    exact ⟨by first | rfl | simp, HC6.out⟩

end Go.Proofs.Ytcjjboomljbmbaa
