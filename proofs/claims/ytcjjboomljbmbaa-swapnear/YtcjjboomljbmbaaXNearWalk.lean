
/-
  The law SwapNear answers true at whatever numbers, and leaves what lay in memory as it was.
-/
import Derived.Test.YtcjjboomljbmbaaXLaw
import Derived.Test.YtcjjboomljbmbaaXNear
namespace Go.Proofs.Ytcjjboomljbmbaa
open Go.RowKit Go.Proofs.Ytcjjboomljbmbaa.Ln Go.Proofs.Ytcjjboomljbmbaa.Ol

theorem nil_below {W W' : World} {v' : Value} (ha : Adds W W' (.slice none 0 0) v') : Below W.heap.size W W' :=
  ⟨ha.1.os, ha.1.tape, ha.1.output, ha.1.size, fun k hk => ha.1.block k hk (fun e => by cases e)⟩
theorem nP_fit (m : Nat) : Fit (nP m) := fit_of (by unfold nP nS; split <;> rfl)
theorem nQ_fit (m f : Nat) {k : Int} : Fit (nQ m f k) := fit_of (by unfold nQ; rfl)
theorem nP_len (m : Nat) : (nP m).length ≤ 4 := by unfold nP nS; split <;> simp
theorem nP_0 : nP 0 = [(3, 0, [97, 10]), (4, 0, [98, 10]), (4, 0, [99, 10])] := rfl
theorem nP_1 {m : Nat} (h : 0 < m) : nP m = [(1, (m : Int), []), (3, 0, [97, 10]), (4, 0, [98, 10]), (4, 0, [99, 10])] := by unfold nP nS; rw [if_neg (by omega)]; rfl
theorem nX_0 (f : Nat) (k : Int) : nX 0 f k = [(2, 0, [97, 10]), (1, (f : Int), []), (k, 0, [100, 10])] := rfl
theorem nX_1 {m : Nat} (h : 0 < m) (f : Nat) (k : Int) : nX m f k = [(1, (m : Int), []), (2, 0, [97, 10]), (1, (f : Int), []), (k, 0, [100, 10])] := by unfold nX nS; rw [if_neg (by omega)]; rfl
theorem nY_3 (m f : Nat) (k : Int) : 3 ≤ (nY m f k).length := by unfold nY; simp; omega
theorem cnt_skip (m : Nat) (h1 : 0 < m) (h2 : m ≤ 100) : cnt 3 [(1, (m : Int), [])] = m := by
  have : tot 3 [(1, (m : Int), [])] = m := by simp [tot, ln]
  unfold cnt; rw [this]; omega

set_option maxRecDepth 3000 in
set_option maxHeartbeats 8000000 in
theorem swapNear_any (n f : Int) (other : Bool) (w : World) : Calls Try.prog 7 #[.int .i64 n, .int .i64 f, .bool other] w fun e w' => e = .returned (.bool true) ∧ Below w.heap.size w w' := by
  go_enter Try.func7, Try.ntmps7
  go_wp2_with fail
  refine (alive15_any _).mono ?_
  rintro e w1 ⟨rfl, hb⟩
  have HB1 := hidden hb
  have hws1 := hb.size
  clear hb
  by_cases h1 : n < 0
  · go_wp2_with fail
    go_ret
    exact ⟨rfl, HB1.out⟩
  by_cases h2 : n > 100
  · go_wp2_with fail
    go_ret
    exact ⟨rfl, HB1.out⟩
  by_cases h3 : f < 0
  · go_wp2_with fail
    go_ret
    exact ⟨rfl, HB1.out⟩
  by_cases h4 : f > 100
  · go_wp2_with fail
    go_ret
    exact ⟨rfl, HB1.out⟩
  obtain ⟨m, rfl⟩ : ∃ m : Nat, n = m := ⟨n.toNat, by omega⟩
  obtain ⟨ff, rfl⟩ : ∃ ff : Nat, f = ff := ⟨f.toNat, by omega⟩
  have HM := hidden (show m ≤ 100 by omega)
  have HFF := hidden (show ff ≤ 100 by omega)
  rcases Nat.eq_zero_or_pos m with hm | hm
  · subst hm
    have HPE := hidden nP_0
    have HXE := hidden (fun k => nX_0 ff k)
    go_upto_region 8 with (at_builtin; go_must (refine wpList_append_ops _ (by go_simp) (.tmp 41) (.tmp 45) rfl w.heap.size (.slice none 0 0) (.slice (some ⟨w1.heap.size, 0, none⟩) 3 3) [] [(3, 0, [97, 10]), (4, 0, [98, 10]), (4, 0, [99, 10])] rfl rfl ⟨rfl, Or.inl ⟨rfl, rfl⟩⟩ (ops_lit (World.alloc_heap_new _ _) rfl rfl) (by simp) (by simp; omega) ?_; intro v3 w3 hown3 hadd3; have HP3 := hidden (show OpsAt w3 v3 (nP 0) from by rw [HPE.out]; exact OpsAt.of_owns hown3); have HB3 := hidden (show Below w.heap.size w w3 from (bel_alloc HB1.out _).trans ((nil_below hadd3).mono (by simp; omega))); clear hown3 hadd3))
    have hws3 := HB3.out.size
    cases other with
    | false =>
      have HQE := hidden (show nQ 0 ff 3 = [(1, 2 + (ff : Int), []), (3, 0, [100, 10])] by unfold nQ; simp)
      go_upto_region 12 with (at_builtin; go_must (refine wpList_append_ops _ (by go_simp) (.tmp 48) (.tmp 56) rfl w.heap.size (.slice none 0 0) (.slice (some ⟨w3.heap.size, 0, none⟩) 2 2) [] [(1, 2 + (ff : Int), []), (3, 0, [100, 10])] rfl rfl ⟨rfl, Or.inl ⟨rfl, rfl⟩⟩ (ops_lit (World.alloc_heap_new _ _) (by simp [cellsO, S]) rfl) (by simp) (by simp; omega) ?_; intro v4 w4 hown4 hadd4; have HQ4 := hidden (show OpsAt w4 v4 (nQ 0 ff 3) from by rw [HQE.out]; exact OpsAt.of_owns hown4); have hb4 := (bel_alloc (Below.refl w3.heap.size w3) _).trans ((nil_below hadd4).mono (by simp)); have HB4 := hidden (HB3.out.trans (hb4.mono hws3)); have HP4 := hidden (HP3.out.later hb4); clear hown4 hadd4 hb4))
      go_wp2_with fail
      refine (swap_any _ _ (nP 0) (nQ 0 ff 3) w4 HP4.out HQ4.out (by have := nP_len 0; omega) (by rw [HQE.out]; simp) (nP_fit 0) (nQ_fit 0 ff)).mono ?_
      rintro e w5 ⟨qa, qb, rfl, ho1, ho2, hb⟩
      have HB5 := hidden (HB4.out.trans (hb.mono HB4.out.size))
      clear hb HP4 HQ4 HB4
      rcases Nat.eq_zero_or_pos ff with hf | hf
      · subst hf
        have HS := hidden (near_by (k := 3) (n := 0) (by decide) (by decide))
        simp only [HS.out] at ho1 ho2 ⊢
        obtain ⟨a1, c1, rfl⟩ := ho1.shape
        obtain ⟨a2, c2, rfl⟩ := ho2.shape
        clear ho1 ho2
        go_wp2_with fail
        refine (num15_any _ _).mono ?_
        rintro e w' ⟨rfl, hw⟩
        subst w'
        go_wp2_with fail
        go_ret
        exact ⟨by first | rfl | simp, HB5.out⟩
      · have HS := hidden (show swp (nP 0) (nQ 0 ff 3) = (nX 0 ff 3, nY 0 ff 3, 0) by rw [near_swap (k := 3) (n := 0) (by decide) HFF.out hf (by decide), nX_nrm (by decide), nY_nrm (by decide)])
        simp only [HS.out] at ho1 ho2 ⊢
        have hyl := nY_3 0 ff 3
        obtain ⟨a2, c2, rfl⟩ := ho2.shape
        rw [HXE.out 3] at ho1
        have HX1 := hidden ho1
        obtain ⟨b, o, cap, rfl, hcap, hbl, hc⟩ := ho1.cells (by simp)
        obtain ⟨d1, d2, d3⟩ := hc 2 _ rfl
        clear ho1 ho2 hc
        simp only [List.length_cons, List.length_nil, Nat.zero_add, Nat.reduceAdd, Nat.reduceMul] at d1 d2 d3 hcap HX1 ⊢
        have hf0 : ¬ ((ff : Int) = 0) := by omega
        have hf1 : ((ff : Int) == 0) = false := by simpa using hf0
        have hyl2 : (3 : Int) ≤ ((nY 0 ff 3).length : Int) := by omega
        go_wp2_with fail
        refine (num15_any _ _).mono ?_
        rintro e w' ⟨rfl, hw⟩
        subst w'
        go_wp2_with fail
        have HX2 := hidden (OpsAt.head (k := 1) HX1.out rfl (by decide))
        refine (polds_any _ _ _ HX2.out (by simp)).mono ?_
        have HCN := hidden (show cnt 3 [(2, 0, [97, 10])] = 1 by rfl)
        rintro e w6 ⟨rfl, hb⟩
        have HB6 := hidden (HB5.out.trans (hb.mono HB5.out.size))
        have e1 : w6.cell? ⟨b, o + 6, none⟩ = some (.int .i64 3) := (hb.cell (p := ⟨b, o + 6, none⟩) hbl).trans d1
        have e2 : w6.cell? ⟨b, o + 6 + 1, none⟩ = some (.int .i64 0) := (hb.cell (p := ⟨b, o + 6 + 1, none⟩) hbl).trans d2
        have e3 : w6.cell? ⟨b, o + 6 + 2, none⟩ = some (.string ⟨#[100, 10]⟩) := (hb.cell (p := ⟨b, o + 6 + 2, none⟩) hbl).trans d3
        have hbl6 := Nat.lt_of_lt_of_le hbl hb.size
        simp only [List.take_succ_cons, List.take_zero, HCN.out]
        clear d1 d2 d3 hb HX1 HX2
        go_wp2_with fail
        go_ret
        exact ⟨by first | rfl | simp, HB6.out⟩
    | true =>
      have HQE := hidden (show nQ 0 ff 4 = [(1, 2 + (ff : Int), []), (4, 0, [100, 10])] by unfold nQ; simp)
      go_upto_region 12 with (at_builtin; go_must (refine wpList_append_ops _ (by go_simp) (.tmp 48) (.tmp 56) rfl w.heap.size (.slice none 0 0) (.slice (some ⟨w3.heap.size, 0, none⟩) 2 2) [] [(1, 2 + (ff : Int), []), (4, 0, [100, 10])] rfl rfl ⟨rfl, Or.inl ⟨rfl, rfl⟩⟩ (ops_lit (World.alloc_heap_new _ _) (by simp [cellsO, S]) rfl) (by simp) (by simp; omega) ?_; intro v4 w4 hown4 hadd4; have HQ4 := hidden (show OpsAt w4 v4 (nQ 0 ff 4) from by rw [HQE.out]; exact OpsAt.of_owns hown4); have hb4 := (bel_alloc (Below.refl w3.heap.size w3) _).trans ((nil_below hadd4).mono (by simp)); have HB4 := hidden (HB3.out.trans (hb4.mono hws3)); have HP4 := hidden (HP3.out.later hb4); clear hown4 hadd4 hb4))
      go_wp2_with fail
      refine (swap_any _ _ (nP 0) (nQ 0 ff 4) w4 HP4.out HQ4.out (by have := nP_len 0; omega) (by rw [HQE.out]; simp) (nP_fit 0) (nQ_fit 0 ff)).mono ?_
      rintro e w5 ⟨qa, qb, rfl, ho1, ho2, hb⟩
      have HB5 := hidden (HB4.out.trans (hb.mono HB4.out.size))
      clear hb HP4 HQ4 HB4
      rcases Nat.eq_zero_or_pos ff with hf | hf
      · subst hf
        have HS := hidden (near_by (k := 4) (n := 0) (by decide) (by decide))
        simp only [HS.out] at ho1 ho2 ⊢
        obtain ⟨a1, c1, rfl⟩ := ho1.shape
        obtain ⟨a2, c2, rfl⟩ := ho2.shape
        clear ho1 ho2
        go_wp2_with fail
        refine (num15_any _ _).mono ?_
        rintro e w' ⟨rfl, hw⟩
        subst w'
        go_wp2_with fail
        go_ret
        exact ⟨by first | rfl | simp, HB5.out⟩
      · have HS := hidden (show swp (nP 0) (nQ 0 ff 4) = (nX 0 ff 4, nY 0 ff 4, 0) by rw [near_swap (k := 4) (n := 0) (by decide) HFF.out hf (by decide), nX_nrm (by decide), nY_nrm (by decide)])
        simp only [HS.out] at ho1 ho2 ⊢
        have hyl := nY_3 0 ff 4
        obtain ⟨a2, c2, rfl⟩ := ho2.shape
        rw [HXE.out 4] at ho1
        have HX1 := hidden ho1
        obtain ⟨b, o, cap, rfl, hcap, hbl, hc⟩ := ho1.cells (by simp)
        obtain ⟨d1, d2, d3⟩ := hc 2 _ rfl
        clear ho1 ho2 hc
        simp only [List.length_cons, List.length_nil, Nat.zero_add, Nat.reduceAdd, Nat.reduceMul] at d1 d2 d3 hcap HX1 ⊢
        have hf0 : ¬ ((ff : Int) = 0) := by omega
        have hf1 : ((ff : Int) == 0) = false := by simpa using hf0
        have hyl2 : (3 : Int) ≤ ((nY 0 ff 4).length : Int) := by omega
        go_wp2_with fail
        refine (num15_any _ _).mono ?_
        rintro e w' ⟨rfl, hw⟩
        subst w'
        go_wp2_with fail
        have HX2 := hidden (OpsAt.head (k := 1) HX1.out rfl (by decide))
        refine (polds_any _ _ _ HX2.out (by simp)).mono ?_
        have HCN := hidden (show cnt 3 [(2, 0, [97, 10])] = 1 by rfl)
        rintro e w6 ⟨rfl, hb⟩
        have HB6 := hidden (HB5.out.trans (hb.mono HB5.out.size))
        have e1 : w6.cell? ⟨b, o + 6, none⟩ = some (.int .i64 4) := (hb.cell (p := ⟨b, o + 6, none⟩) hbl).trans d1
        have e2 : w6.cell? ⟨b, o + 6 + 1, none⟩ = some (.int .i64 0) := (hb.cell (p := ⟨b, o + 6 + 1, none⟩) hbl).trans d2
        have e3 : w6.cell? ⟨b, o + 6 + 2, none⟩ = some (.string ⟨#[100, 10]⟩) := (hb.cell (p := ⟨b, o + 6 + 2, none⟩) hbl).trans d3
        have hbl6 := Nat.lt_of_lt_of_le hbl hb.size
        simp only [List.take_succ_cons, List.take_zero, HCN.out]
        clear d1 d2 d3 hb HX1 HX2
        go_wp2_with fail
        go_ret
        exact ⟨by first | rfl | simp, HB6.out⟩
  · have hm1 : (m : Int) > 0 := by omega
    have HPE := hidden (nP_1 hm)
    have HXE := hidden (fun k => nX_1 hm ff k)
    go_upto_region 7 with (at_builtin; go_must (refine wpList_append_ops _ (by go_simp) (.tmp 36) (.tmp 39) rfl w.heap.size (.slice none 0 0) (.slice (some ⟨w1.heap.size, 0, none⟩) 1 1) [] [(1, (m : Int), [])] rfl rfl ⟨rfl, Or.inl ⟨rfl, rfl⟩⟩ (ops_oneAt _ _ _ _ _ rfl) (by simp) (by simp; omega) ?_; intro v2 w2 hown2 hadd2; have HO2 := hidden (show w2.ownsRow w.heap.size 41 3 v2 ([(1, (m : Int), [])] : List Oq).length (cellsO [(1, (m : Int), [])]) from hown2); have HB2 := hidden (show Below w.heap.size w w2 from (bel_alloc HB1.out _).trans ((nil_below hadd2).mono (by simp; omega))); clear hown2 hadd2))
    have hws2 := HB2.out.size
    go_upto_region 8 with (at_builtin; go_must (refine wpList_append_ops _ (by go_simp) (.tmp 41) (.tmp 45) rfl w.heap.size v2 (.slice (some ⟨w2.heap.size, 0, none⟩) 3 3) [(1, (m : Int), [])] [(3, 0, [97, 10]), (4, 0, [98, 10]), (4, 0, [99, 10])] rfl rfl (HO2.out.alloc _) (ops_lit (World.alloc_heap_new _ _) rfl rfl) (by simp) (by simp; omega) ?_; intro v3 w3 hown3 hadd3; have HP3 := hidden (show OpsAt w3 v3 (nP m) from by rw [HPE.out]; exact OpsAt.of_owns hown3); have HB3 := hidden (show Below w.heap.size w w3 from adds_bel (bel_alloc HB2.out _) (by simp; omega) (HO2.out.alloc _) hadd3); clear hown3 hadd3))
    have hws3 := HB3.out.size
    cases other with
    | false =>
      have HQE := hidden (show nQ m ff 3 = [(1, ((m : Int) : Int) + 2 + (ff : Int), []), (3, 0, [100, 10])] by unfold nQ; simp)
      go_upto_region 12 with (at_builtin; go_must (refine wpList_append_ops _ (by go_simp) (.tmp 48) (.tmp 56) rfl w.heap.size (.slice none 0 0) (.slice (some ⟨w3.heap.size, 0, none⟩) 2 2) [] [(1, ((m : Int) : Int) + 2 + (ff : Int), []), (3, 0, [100, 10])] rfl rfl ⟨rfl, Or.inl ⟨rfl, rfl⟩⟩ (ops_lit (World.alloc_heap_new _ _) (by simp [cellsO, S]) rfl) (by simp) (by simp; omega) ?_; intro v4 w4 hown4 hadd4; have HQ4 := hidden (show OpsAt w4 v4 (nQ m ff 3) from by rw [HQE.out]; exact OpsAt.of_owns hown4); have hb4 := (bel_alloc (Below.refl w3.heap.size w3) _).trans ((nil_below hadd4).mono (by simp)); have HB4 := hidden (HB3.out.trans (hb4.mono hws3)); have HP4 := hidden (HP3.out.later hb4); clear hown4 hadd4 hb4))
      go_wp2_with fail
      refine (swap_any _ _ (nP m) (nQ m ff 3) w4 HP4.out HQ4.out (by have := nP_len m; omega) (by rw [HQE.out]; simp) (nP_fit m) (nQ_fit m ff)).mono ?_
      rintro e w5 ⟨qa, qb, rfl, ho1, ho2, hb⟩
      have HB5 := hidden (HB4.out.trans (hb.mono HB4.out.size))
      clear hb HP4 HQ4 HB4
      rcases Nat.eq_zero_or_pos ff with hf | hf
      · subst hf
        have HS := hidden (near_by (k := 3) (n := m) HM.out (by decide))
        simp only [HS.out] at ho1 ho2 ⊢
        obtain ⟨a1, c1, rfl⟩ := ho1.shape
        obtain ⟨a2, c2, rfl⟩ := ho2.shape
        clear ho1 ho2
        go_wp2_with fail
        refine (num15_any _ _).mono ?_
        rintro e w' ⟨rfl, hw⟩
        subst w'
        go_wp2_with fail
        go_ret
        exact ⟨by first | rfl | simp, HB5.out⟩
      · have HS := hidden (show swp (nP m) (nQ m ff 3) = (nX m ff 3, nY m ff 3, 0) by rw [near_swap (k := 3) (n := m) HM.out HFF.out hf (by decide), nX_nrm (by decide), nY_nrm (by decide)])
        simp only [HS.out] at ho1 ho2 ⊢
        have hyl := nY_3 m ff 3
        obtain ⟨a2, c2, rfl⟩ := ho2.shape
        rw [HXE.out 3] at ho1
        have HX1 := hidden ho1
        obtain ⟨b, o, cap, rfl, hcap, hbl, hc⟩ := ho1.cells (by simp)
        obtain ⟨d1, d2, d3⟩ := hc 3 _ rfl
        clear ho1 ho2 hc
        simp only [List.length_cons, List.length_nil, Nat.zero_add, Nat.reduceAdd, Nat.reduceMul] at d1 d2 d3 hcap HX1 ⊢
        have hf0 : ¬ ((ff : Int) = 0) := by omega
        have hf1 : ((ff : Int) == 0) = false := by simpa using hf0
        have hyl2 : (3 : Int) ≤ ((nY m ff 3).length : Int) := by omega
        go_wp2_with fail
        refine (num15_any _ _).mono ?_
        rintro e w' ⟨rfl, hw⟩
        subst w'
        go_wp2_with fail
        have HX2 := hidden (OpsAt.head (k := 1) HX1.out rfl (by decide))
        refine (polds_any _ _ _ HX2.out (by simp)).mono ?_
        have HCN := hidden (show cnt 3 [(1, (m : Int), [])] = (m : Int) by exact cnt_skip m hm HM.out)
        rintro e w6 ⟨rfl, hb⟩
        have HB6 := hidden (HB5.out.trans (hb.mono HB5.out.size))
        have e1 : w6.cell? ⟨b, o + 9, none⟩ = some (.int .i64 3) := (hb.cell (p := ⟨b, o + 9, none⟩) hbl).trans d1
        have e2 : w6.cell? ⟨b, o + 9 + 1, none⟩ = some (.int .i64 0) := (hb.cell (p := ⟨b, o + 9 + 1, none⟩) hbl).trans d2
        have e3 : w6.cell? ⟨b, o + 9 + 2, none⟩ = some (.string ⟨#[100, 10]⟩) := (hb.cell (p := ⟨b, o + 9 + 2, none⟩) hbl).trans d3
        have hbl6 := Nat.lt_of_lt_of_le hbl hb.size
        simp only [List.take_succ_cons, List.take_zero, HCN.out]
        clear d1 d2 d3 hb HX1 HX2
        have hm2 : (1 : Int) ≤ (m : Int) := by omega
        go_wp2_with fail
        go_ret
        exact ⟨by first | rfl | simp, HB6.out⟩
    | true =>
      have HQE := hidden (show nQ m ff 4 = [(1, ((m : Int) : Int) + 2 + (ff : Int), []), (4, 0, [100, 10])] by unfold nQ; simp)
      go_upto_region 12 with (at_builtin; go_must (refine wpList_append_ops _ (by go_simp) (.tmp 48) (.tmp 56) rfl w.heap.size (.slice none 0 0) (.slice (some ⟨w3.heap.size, 0, none⟩) 2 2) [] [(1, ((m : Int) : Int) + 2 + (ff : Int), []), (4, 0, [100, 10])] rfl rfl ⟨rfl, Or.inl ⟨rfl, rfl⟩⟩ (ops_lit (World.alloc_heap_new _ _) (by simp [cellsO, S]) rfl) (by simp) (by simp; omega) ?_; intro v4 w4 hown4 hadd4; have HQ4 := hidden (show OpsAt w4 v4 (nQ m ff 4) from by rw [HQE.out]; exact OpsAt.of_owns hown4); have hb4 := (bel_alloc (Below.refl w3.heap.size w3) _).trans ((nil_below hadd4).mono (by simp)); have HB4 := hidden (HB3.out.trans (hb4.mono hws3)); have HP4 := hidden (HP3.out.later hb4); clear hown4 hadd4 hb4))
      go_wp2_with fail
      refine (swap_any _ _ (nP m) (nQ m ff 4) w4 HP4.out HQ4.out (by have := nP_len m; omega) (by rw [HQE.out]; simp) (nP_fit m) (nQ_fit m ff)).mono ?_
      rintro e w5 ⟨qa, qb, rfl, ho1, ho2, hb⟩
      have HB5 := hidden (HB4.out.trans (hb.mono HB4.out.size))
      clear hb HP4 HQ4 HB4
      rcases Nat.eq_zero_or_pos ff with hf | hf
      · subst hf
        have HS := hidden (near_by (k := 4) (n := m) HM.out (by decide))
        simp only [HS.out] at ho1 ho2 ⊢
        obtain ⟨a1, c1, rfl⟩ := ho1.shape
        obtain ⟨a2, c2, rfl⟩ := ho2.shape
        clear ho1 ho2
        go_wp2_with fail
        refine (num15_any _ _).mono ?_
        rintro e w' ⟨rfl, hw⟩
        subst w'
        go_wp2_with fail
        go_ret
        exact ⟨by first | rfl | simp, HB5.out⟩
      · have HS := hidden (show swp (nP m) (nQ m ff 4) = (nX m ff 4, nY m ff 4, 0) by rw [near_swap (k := 4) (n := m) HM.out HFF.out hf (by decide), nX_nrm (by decide), nY_nrm (by decide)])
        simp only [HS.out] at ho1 ho2 ⊢
        have hyl := nY_3 m ff 4
        obtain ⟨a2, c2, rfl⟩ := ho2.shape
        rw [HXE.out 4] at ho1
        have HX1 := hidden ho1
        obtain ⟨b, o, cap, rfl, hcap, hbl, hc⟩ := ho1.cells (by simp)
        obtain ⟨d1, d2, d3⟩ := hc 3 _ rfl
        clear ho1 ho2 hc
        simp only [List.length_cons, List.length_nil, Nat.zero_add, Nat.reduceAdd, Nat.reduceMul] at d1 d2 d3 hcap HX1 ⊢
        have hf0 : ¬ ((ff : Int) = 0) := by omega
        have hf1 : ((ff : Int) == 0) = false := by simpa using hf0
        have hyl2 : (3 : Int) ≤ ((nY m ff 4).length : Int) := by omega
        go_wp2_with fail
        refine (num15_any _ _).mono ?_
        rintro e w' ⟨rfl, hw⟩
        subst w'
        go_wp2_with fail
        have HX2 := hidden (OpsAt.head (k := 1) HX1.out rfl (by decide))
        refine (polds_any _ _ _ HX2.out (by simp)).mono ?_
        have HCN := hidden (show cnt 3 [(1, (m : Int), [])] = (m : Int) by exact cnt_skip m hm HM.out)
        rintro e w6 ⟨rfl, hb⟩
        have HB6 := hidden (HB5.out.trans (hb.mono HB5.out.size))
        have e1 : w6.cell? ⟨b, o + 9, none⟩ = some (.int .i64 4) := (hb.cell (p := ⟨b, o + 9, none⟩) hbl).trans d1
        have e2 : w6.cell? ⟨b, o + 9 + 1, none⟩ = some (.int .i64 0) := (hb.cell (p := ⟨b, o + 9 + 1, none⟩) hbl).trans d2
        have e3 : w6.cell? ⟨b, o + 9 + 2, none⟩ = some (.string ⟨#[100, 10]⟩) := (hb.cell (p := ⟨b, o + 9 + 2, none⟩) hbl).trans d3
        have hbl6 := Nat.lt_of_lt_of_le hbl hb.size
        simp only [List.take_succ_cons, List.take_zero, HCN.out]
        clear d1 d2 d3 hb HX1 HX2
        have hm2 : (1 : Int) ≤ (m : Int) := by omega
        go_wp2_with fail
        go_ret
        exact ⟨by first | rfl | simp, HB6.out⟩

end Go.Proofs.Ytcjjboomljbmbaa
