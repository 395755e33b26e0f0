
/-
  What the document's own on and ops answer at any steps that lie in memory; conditions: the lists' lengths.
-/
import Derived.Test.YtbmnflldjkcgnaaCBase
namespace Go.Proofs.Ytbmnflldjkcgnaa
open Go.RowKit Go.Proofs.Ytbmnflldjkcgnaa.Ln Go.Proofs.Ytbmnflldjkcgnaa.Ol

theorem far_cell {W W' : World} {g n cp : Nat} {v' : Value} (ha : Adds W W' (.slice (some ⟨g, 0, none⟩) n cp) v') {b i : Nat} (hb : b < W.heap.size) (hne : b ≠ g) {u : Value} (h : W.cell? ⟨b, i, none⟩ = some u) : W'.cell? ⟨b, i, none⟩ = some u :=
  (ha.1.cell_far ⟨b, i, none⟩ hb (fun e => by simp only [Value.ownBlock, Option.some.injEq] at e; exact hne e)).trans h

theorem fresh_own {B : Nat} {W W' : World} {g n cp : Nat} {v' : Value} {Q : Nat → Prop} (ha : Adds W W' (.slice (some ⟨g, 0, none⟩) n cp) v') (hB : B ≤ W.heap.size) (hg : B ≤ g := by first | exact Nat.le_refl _ | omega) : ∀ b, v'.ownBlock = some b → Q b ∨ B ≤ b := by
  intro b h
  rcases ha.2 with e | ⟨k, e, hk⟩
  · rw [e] at h
    simp only [Value.ownBlock, Option.some.injEq] at h
    exact Or.inr (by omega)
  · rw [e] at h
    cases h
    exact Or.inr (by omega)

set_option maxHeartbeats 4000000 in
theorem pon_any (n : Int) (v : Value) (xs : List Oq) (w : World) (hX : OpsAt w v xs) (hl : xs.length ≤ 1099511627776) (hn : 1 ≤ n) (hn2 : n ≤ 1099511627776) (hok : Ok xs) :
    Calls Try.prog 49 #[v, .int .i64 n] w fun e w' => ∃ v', e = .returned v' ∧ OpsAt w' v' (onn xs n) ∧ Below w.heap.size w w' ∧ (∀ b, v'.ownBlock = some b → v.ownBlock = some b ∨ w.heap.size ≤ b) := by
  have HX := hidden hX
  cases xs with
  | nil =>
    obtain ⟨ao, cap, rfl⟩ := hX.shape
    clear hX
    go_enter Try.func49, Try.ntmps49
    go_wp2_with fail
    go_ret
    exact ⟨_, rfl, HX.out, Below.refl _ _, fun b h => Or.inl h⟩
  | cons x l =>
    obtain ⟨x1, x2, x3⟩ := x
    obtain ⟨ao, cap, rfl, hc⟩ := hX.open_
    obtain ⟨b, o, hao, hcap, hb, hcc⟩ := hc 0 (x1, x2, x3) rfl
    subst hao
    obtain ⟨c1, c2, c3⟩ := three_later hb (Below.refl _ _) hcc
    rw [show o + 0 * 3 = o by omega] at c1 c2 c3
    simp only at c1 c2 c3
    have hx2 := (hok (x1, x2, x3) (by simp)).2
    simp only at hx2
    have hlen : ((x1, x2, x3) :: l : List Oq).length = l.length + 1 := rfl
    rw [hlen] at HX hcap hl ⊢
    obtain ⟨N, hN⟩ : ∃ N, l.length = N := ⟨_, rfl⟩
    rw [hN] at HX hl hcap ⊢
    have HN := hidden hN
    by_cases hcap1 : cap = 1
    · subst hcap1
      obtain rfl : N = 0 := by omega
      have hl0 : l = [] := List.eq_nil_of_length_eq_zero hN
      have HR := hidden (show OpsAt w (.slice (some ⟨b, o, none⟩) 0 0) l by rw [hl0]; exact OpsAt.nil _ _ _)
      clear hl0 hN
      clear hX hc hcc hlen
      by_cases h : x1 = 1 ∧ n < x2
      · have HO := hidden (show onn ((x1, x2, x3) :: l) n = (1, x2 - n, []) :: l by rw [onn_cons, if_pos h])
        obtain ⟨rfl, hlt⟩ := h
        have hd : decide (x2 > n) = true := by simp; omega
        have hd2 : decide (n < x2) = true := by simp; omega
        go_enter Try.func49, Try.ntmps49
        have hw1 : wrap64 (x2 - n) = x2 - n := by unfold wrap64; omega
        have hw2 : IntKind.i64.wrap (x2 - n) = x2 - n := by rw [IntKind.wrap_i64]; omega
        have hO1 := owns_one (w := w) (B := w.heap.size) (Nat.le_refl _) 1 (x2 - n) []
        have hR1 := HR.out.later (bel_alloc (Below.refl w.heap.size w) (opO 1 (x2 - n) []))
        have hll : ([(1, x2 - n, [])] : List Oq).length + l.length ≤ 4398046511104 := by rw [HN.out]; simp <;> omega
        have hne : b ≠ w.heap.size := by omega
        go_upto_region 4 with fail
        go_region_held3 (fun X => X.cell? ⟨b, o + 1, none⟩ = some (.int .i64 x2)) (first | assumption | go_keep)
          (first | (refine step_append_ops _ (by go_simp) (.tmp 29) (.tmp 31) rfl w.heap.size (.slice (some ⟨w.heap.size, 0, none⟩) 1 1) _ [(1, x2 - n, [])] l rfl rfl (by first | exact hO1 | exact owns_later hO1 (Below.refl _ _).drew) (by first | exact hR1 | exact hR1.later (Below.refl _ _).drew) hll (by simp) ?_; intro v9 w9 hown9 hadd9; have c9 := far_cell hadd9 (b := b) (i := o + 1) (by simp; omega) hne (by first | assumption | simpa using c2)))
        have HB9 := hidden (show Below w.heap.size w w9 by first | exact adds_bel (bel_alloc (Below.refl w.heap.size w) (opO 1 (x2 - n) [])) (by simp) hO1 hadd9 | exact adds_bel (bel_alloc (Below.refl w.heap.size w) (opO 1 (x2 - n) [])).drew (by simp) (owns_later hO1 (Below.refl _ _).drew) hadd9)
        have HO9 := hidden (OpsAt.of_owns hown9)
        have HNB := hidden (show ∀ b', v9.ownBlock = some b' → some b = some b' ∨ w.heap.size ≤ b' from fresh_own (B := w.heap.size) (Q := fun b' => some b = some b') hadd9 (by simp))
        go_wp2_with fail
        go_ret
        exact ⟨_, rfl, by rw [HO.out]; exact HO9.out, HB9.out, HNB.out⟩
      · have HO := hidden (show onn ((x1, x2, x3) :: l) n = l by rw [onn_cons, if_neg h])
        by_cases h1 : x1 = 1
        · subst h1
          have hd : decide (x2 > n) = false := by simp; omega
          have hd2 : decide (n < x2) = false := by simp; omega
          go_enter Try.func49, Try.ntmps49
          go_wp2_with fail
          go_ret
          exact ⟨_, rfl, by rw [HO.out]; exact HR.out, Below.refl _ _, fun b h => Or.inl h⟩
        · have h1b : (x1 == 1) = false := by simpa using h1
          go_enter Try.func49, Try.ntmps49
          go_wp2_with fail
          go_ret
          exact ⟨_, rfl, by rw [HO.out]; exact HR.out, Below.refl _ _, fun b h => Or.inl h⟩
    · have HR := hidden (show OpsAt w (.slice (some ⟨b, o + 3, none⟩) N (cap - 1)) l by
        have := OpsAt.rest2 (k := 1) HX.out (by simp [hN]) (by omega)
        rw [if_neg hcap1] at this
        simpa [addr_add] using this)
      have hc1 : 1 ≤ cap := by omega
      clear hN
      clear hX hc hcc hlen
      by_cases h : x1 = 1 ∧ n < x2
      · have HO := hidden (show onn ((x1, x2, x3) :: l) n = (1, x2 - n, []) :: l by rw [onn_cons, if_pos h])
        obtain ⟨rfl, hlt⟩ := h
        have hd : decide (x2 > n) = true := by simp; omega
        have hd2 : decide (n < x2) = true := by simp; omega
        go_enter Try.func49, Try.ntmps49
        have hw1 : wrap64 (x2 - n) = x2 - n := by unfold wrap64; omega
        have hw2 : IntKind.i64.wrap (x2 - n) = x2 - n := by rw [IntKind.wrap_i64]; omega
        have hO1 := owns_one (w := w) (B := w.heap.size) (Nat.le_refl _) 1 (x2 - n) []
        have hR1 := HR.out.later (bel_alloc (Below.refl w.heap.size w) (opO 1 (x2 - n) []))
        have hll : ([(1, x2 - n, [])] : List Oq).length + l.length ≤ 4398046511104 := by rw [HN.out]; simp <;> omega
        have hs1 : (1 : Int) ≤ (N : Int) + 1 := by omega
        have hs2 : (0 : Int) ≤ (N : Int) + 1 := by omega
        have hne : b ≠ w.heap.size := by omega
        go_upto_region 4 with fail
        go_region_held3 (fun X => X.cell? ⟨b, o + 1, none⟩ = some (.int .i64 x2)) (first | assumption | go_keep)
          (first | (refine step_append_ops _ (by go_simp) (.tmp 29) (.tmp 31) rfl w.heap.size (.slice (some ⟨w.heap.size, 0, none⟩) 1 1) _ [(1, x2 - n, [])] l rfl rfl (by first | exact hO1 | exact owns_later hO1 (Below.refl _ _).drew) (by first | exact hR1 | exact hR1.later (Below.refl _ _).drew) hll (by simp) ?_; intro v9 w9 hown9 hadd9; have c9 := far_cell hadd9 (b := b) (i := o + 1) (by simp; omega) hne (by first | assumption | simpa using c2)))
        have HB9 := hidden (show Below w.heap.size w w9 by first | exact adds_bel (bel_alloc (Below.refl w.heap.size w) (opO 1 (x2 - n) [])) (by simp) hO1 hadd9 | exact adds_bel (bel_alloc (Below.refl w.heap.size w) (opO 1 (x2 - n) [])).drew (by simp) (owns_later hO1 (Below.refl _ _).drew) hadd9)
        have HO9 := hidden (OpsAt.of_owns hown9)
        have HNB := hidden (show ∀ b', v9.ownBlock = some b' → some b = some b' ∨ w.heap.size ≤ b' from fresh_own (B := w.heap.size) (Q := fun b' => some b = some b') hadd9 (by simp))
        go_wp2_with fail
        go_ret
        exact ⟨_, rfl, by rw [HO.out]; exact HO9.out, HB9.out, HNB.out⟩
      · have HO := hidden (show onn ((x1, x2, x3) :: l) n = l by rw [onn_cons, if_neg h])
        by_cases h1 : x1 = 1
        · subst h1
          have hd : decide (x2 > n) = false := by simp; omega
          have hd2 : decide (n < x2) = false := by simp; omega
          go_enter Try.func49, Try.ntmps49
          go_wp2_with fail
          go_ret
          exact ⟨_, rfl, by rw [HO.out]; exact HR.out, Below.refl _ _, fun b h => Or.inl h⟩
        · have h1b : (x1 == 1) = false := by simpa using h1
          go_enter Try.func49, Try.ntmps49
          go_wp2_with fail
          go_ret
          exact ⟨_, rfl, by rw [HO.out]; exact HR.out, Below.refl _ _, fun b h => Or.inl h⟩

set_option maxHeartbeats 2000000 in
theorem pops_any (v : Value) (xs : List (Oq × Int)) (w : World) (hX : ByAt w v xs) (hl : xs.length ≤ 1099511627776) :
    Calls Try.prog 30 #[v] w fun e w' => ∃ v', e = .returned v' ∧ OpsAt w' v' (xs.map (·.1)) ∧ Below w.heap.size w w' := by
  obtain ⟨ao, cap, rfl, hc⟩ := hX.open_
  have HC := hidden hc
  clear hX hc
  go_enter Try.func30, Try.ntmps30
  go_wp2_with fail
  go_loopw [3, 4] (fun q i wr => ∃ k : Nat, k ≤ xs.length ∧ i = .int .i64 k ∧ Hid (wr.ownsRow w.heap.size 38 3 q k (cellsO ((xs.take k).map (·.1))) ∧ Below w.heap.size w wr)) (fun _ i _ => xs.length - (intOf i).toNat)
  case atStart => exact ⟨0, Nat.zero_le _, rfl, ⟨rfl, Or.inl ⟨rfl, rfl⟩⟩, Below.refl _ _⟩
  case round =>
    obtain ⟨k, hk, rfl, hst⟩ := hrel
    have hws := hst.out.2.size
    have HLK := hidden (show ((xs.take k).map (·.1)).length = k by rw [List.length_map, List.length_take, Nat.min_eq_left hk])
    by_cases hlt : k < xs.length
    · obtain ⟨x, hx⟩ : ∃ x, xs[k]? = some x := ⟨xs[k], List.getElem?_eq_getElem hlt⟩
      obtain ⟨b, o, hao, hcap, hb, c1, c2, c3, c4⟩ := HC.out k x hx
      subst hao
      obtain ⟨⟨x1, x2, x3⟩, x4⟩ := x
      have d1 := (hst.out.2.cell (p := ⟨b, o + k * 4, none⟩) hb).trans c1
      have d2 := (hst.out.2.cell (p := ⟨b, o + k * 4 + 1, none⟩) hb).trans c2
      have d3 := (hst.out.2.cell (p := ⟨b, o + k * 4 + 2, none⟩) hb).trans c3
      simp only at d1 d2 d3
      have HXQ := hidden (show (xs.take (k + 1)).map (·.1) = (xs.take k).map (·.1) ++ [(x1, x2, x3)] by rw [take_snoc hx, List.map_append]; rfl)
      clear hx c1 c2 c3 c4
      go_wp2_with (at_builtin; go_must (refine wpList_append_ops _ (by go_simp) (.tmp 11) (.tmp 17) rfl w.heap.size _ (.slice (some ⟨wr.heap.size, 0, none⟩) 1 1) ((xs.take k).map (·.1)) [(x1, x2, x3)] rfl rfl (by rw [HLK.out]; exact hst.out.1.alloc _) (ops_oneAt _ _ _ _ _ rfl) (by rw [HLK.out]; simp; omega) (by simp; omega) ?_; intro v9 w9 hown9 hadd9))
      have HK := hidden (show w9.ownsRow w.heap.size 38 3 v9 (k + 1) (cellsO ((xs.take (k + 1)).map (·.1))) ∧ Below w.heap.size w w9 from ⟨by
        rw [List.length_append, HLK.out] at hown9
        rw [HXQ.out]; exact hown9, adds_bel (bel_alloc hst.out.2 _) (by simp; omega) (hst.out.1.alloc (opO x1 x2 x3)) hadd9⟩)
      clear hown9 hadd9
      go_roundw
      case rel => exact ⟨k + 1, by omega, by go_num, HK.out⟩
      case measure => simp [intOf]; omega
    · have hke : xs.take k = xs := List.take_of_length_le (by omega)
      rw [hke] at hst
      go_wp2_with fail
      go_ret
      exact ⟨_, rfl, OpsAt.of_owns hst.out.1, hst.out.2⟩

end Go.Proofs.Ytbmnflldjkcgnaa
