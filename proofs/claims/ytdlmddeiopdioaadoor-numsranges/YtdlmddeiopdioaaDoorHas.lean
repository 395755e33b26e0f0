/-
  What nums.Has, the document's own HasNum, and the laws' same answer at lists of ranges that lie in memory, of at most 1048576 ranges: whether a number is in one of them; whether two lists are one; conditions: those lengths.
-/
import Derived.Test.YtdlmddeiopdioaaDoorRanges
import Derived.Deep.QuietTactic
namespace Go.Proofs.YtdlmddeiopdioaaDoor
open Go.RowKit Go.Proofs.YtdlmddeiopdioaaDoor.Nm

theorem has_low {xs : List (Int × Int)} {n : Int} (h : n < 1) : has xs n = false := by
  rw [has, decide_eq_false (by omega)]; rfl
theorem has_up {xs : List (Int × Int)} {n : Int} (h : 1 ≤ n) : has xs n = (xs.isEmpty || xs.any fun r => inOne r n) := by
  rw [has, decide_eq_true h]; rfl
theorem any_drop {xs : List (Int × Int)} {n : Int} {k : Nat} {r : Int × Int} (hr : xs[k]? = some r) : (xs.drop k).any (fun r => inOne r n) = (inOne r n || (xs.drop (k + 1)).any fun r => inOne r n) := by
  obtain ⟨h, rfl⟩ := List.getElem?_eq_some_iff.1 hr
  rw [List.drop_eq_getElem_cons h, List.any_cons]

theorem in_yes {f t n : Int} (h1 : f ≤ n) (h2 : t < 0 ∨ n ≤ t) : inOne (f, t) n = true := by
  simp only [inOne, Bool.and_eq_true, Bool.or_eq_true, decide_eq_true_eq]; exact ⟨h1, h2⟩
theorem in_no {f t n : Int} (h : ¬ (f ≤ n ∧ (t < 0 ∨ n ≤ t))) : inOne (f, t) n = false := by
  rw [Bool.eq_false_iff]; intro e
  simp only [inOne, Bool.and_eq_true, Bool.or_eq_true, decide_eq_true_eq] at e
  exact h e
theorem any_yes {xs : List (Int × Int)} {n : Int} {k : Nat} {f t : Int} (HA : (xs.any fun r => inOne r n) = (inOne (f, t) n || (xs.drop (k + 1)).any fun r => inOne r n)) (h1 : f ≤ n) (h2 : t < 0 ∨ n ≤ t) : (xs.any fun r => inOne r n) = true := by
  rw [HA, in_yes h1 h2]; rfl
theorem any_no {xs : List (Int × Int)} {n : Int} {k : Nat} {f t : Int} (HA : (xs.any fun r => inOne r n) = (inOne (f, t) n || (xs.drop (k + 1)).any fun r => inOne r n)) (h : ¬ (f ≤ n ∧ (t < 0 ∨ n ≤ t))) : (xs.any fun r => inOne r n) = (xs.drop (k + 1)).any fun r => inOne r n := by
  rw [HA, in_no h]; rfl

set_option maxHeartbeats 1000000 in
theorem has_any (v : Value) (xs : List (Int × Int)) (n : Int) (w : World) (hr : RngAt w v xs) (hl : xs.length ≤ 1048576) :
    Calls Tryd.prog 17 #[v, .int .i64 n] w fun e w' => e = .returned (.bool (has xs n)) ∧ Below w.heap.size w w' := by
  by_cases hn : n < 1
  · obtain ⟨ao, cap, rfl⟩ := hr.shape
    clear hr
    go_enter Tryd.func17, Tryd.ntmps17
    go_wp2
    go_ret
    exact ⟨ret_bool (has_low hn).symm, Below.refl _ _⟩
  · have hn1 : 1 ≤ n := by omega
    have HU := hidden (has_up (xs := xs) hn1)
    by_cases hne : xs = []
    · subst hne
      obtain ⟨ao, cap, rfl⟩ := hr.shape
      clear hr
      go_enter Tryd.func17, Tryd.ntmps17
      go_wp2
      refine wp_loop_rounds 1 ?_
      rw [rounds_succ]
      go_wp2
      go_ret
      exact ⟨ret_bool (by rw [HU.out]; rfl), Below.refl _ _⟩
    · obtain ⟨b, o, cap, rfl, hcap, hb, hc⟩ := hr.cells hne
      have hpos : 0 < xs.length := List.length_pos_iff.2 hne
      have HC := hidden hc
      have HE := hidden (show xs.isEmpty = false by simp [hne])
      clear hc hr hne
      go_enter Tryd.func17, Tryd.ntmps17
      go_wp2
      go_loopw [11] (fun i wr => ∃ k : Nat, k ≤ xs.length ∧ i = .int .i64 k ∧ Hid (xs.any (fun r => inOne r n) = (xs.drop k).any fun r => inOne r n) ∧ Hid (Below w.heap.size w wr))
        (fun i _ => xs.length - (intOf i).toNat)
      case atStart => exact ⟨0, Nat.zero_le _, rfl, rfl, Below.refl _ _⟩
      case round =>
        obtain ⟨k, hk, rfl, ha, hbl⟩ := hrel
        by_cases hlt : k < xs.length
        · obtain ⟨⟨f, t⟩, hx⟩ : ∃ x, xs[k]? = some x := ⟨xs[k], List.getElem?_eq_getElem hlt⟩
          have hcell1 : wr.cell? ⟨b, o + k * 2, none⟩ = some (.int .i64 f) := (hbl.out.cell (p := ⟨b, o + k * 2, none⟩) hb).trans (HC.out k _ hx).1
          have hcell2 : wr.cell? ⟨b, o + k * 2 + 1, none⟩ = some (.int .i64 t) := (hbl.out.cell (p := ⟨b, o + k * 2 + 1, none⟩) hb).trans (HC.out k _ hx).2
          have HA := hidden (ha.out.trans (any_drop hx))
          clear ha hx
          go_wp2
          · go_ret
            exact ⟨ret_bool (by rw [HU.out, HE.out, any_yes HA.out (by omega) (by omega)]; rfl), hbl.out.alloc hbl.out.size _⟩
          · have HN := hidden (any_no HA.out (by omega))
            go_roundw
            case rel => exact ⟨k + 1, by omega, by go_num, HN.out, hbl.out.alloc hbl.out.size _⟩
            case measure => simp [intOf]; omega
          · go_ret
            exact ⟨ret_bool (by rw [HU.out, HE.out, any_yes HA.out (by omega) (by omega)]; rfl), hbl.out.alloc hbl.out.size _⟩
          · have HN := hidden (any_no HA.out (by omega))
            go_roundw
            case rel => exact ⟨k + 1, by omega, by go_num, HN.out, hbl.out.alloc hbl.out.size _⟩
            case measure => simp [intOf]; omega
        · go_wp2
          go_ret
          have hz : ((xs.length : Int) == 0) = false := by rw [beq_eq_false_iff_ne]; omega
          exact ⟨ret_bool (by rw [HU.out, HE.out, ha.out, List.drop_of_length_le (by omega)]; exact hz), hbl.out⟩

set_option maxHeartbeats 1000000 in
theorem hasNum_any (v : Value) (xs : List (Int × Int)) (n : Int) (w : World) (hr : RngAt w v xs) (hl : xs.length ≤ 1048576) :
    Calls Tryd.prog 18 #[v, .int .i64 n] w fun e w' => e = .returned (.bool (has xs n)) ∧ Below w.heap.size w w' := by
  by_cases hn : n < 1
  · obtain ⟨ao, cap, rfl⟩ := hr.shape
    clear hr
    go_enter Tryd.func18, Tryd.ntmps18
    go_wp2
    go_ret
    exact ⟨ret_bool (has_low hn).symm, Below.refl _ _⟩
  · have hn1 : 1 ≤ n := by omega
    have HU := hidden (has_up (xs := xs) hn1)
    by_cases hne : xs = []
    · subst hne
      obtain ⟨ao, cap, rfl⟩ := hr.shape
      clear hr
      go_enter Tryd.func18, Tryd.ntmps18
      go_wp2
      refine wp_loop_rounds 1 ?_
      rw [rounds_succ]
      go_wp2
      go_ret
      exact ⟨ret_bool (by rw [HU.out]; rfl), Below.refl _ _⟩
    · obtain ⟨b, o, cap, rfl, hcap, hb, hc⟩ := hr.cells hne
      have hpos : 0 < xs.length := List.length_pos_iff.2 hne
      have HC := hidden hc
      have HE := hidden (show xs.isEmpty = false by simp [hne])
      clear hc hr hne
      go_enter Tryd.func18, Tryd.ntmps18
      go_wp2
      go_loopw [5] (fun i wr => ∃ k : Nat, k ≤ xs.length ∧ i = .int .i64 k ∧ Hid (xs.any (fun r => inOne r n) = (xs.drop k).any fun r => inOne r n) ∧ Hid (Below w.heap.size w wr))
        (fun i _ => xs.length - (intOf i).toNat)
      case atStart => exact ⟨0, Nat.zero_le _, rfl, rfl, Below.refl _ _⟩
      case round =>
        obtain ⟨k, hk, rfl, ha, hbl⟩ := hrel
        by_cases hlt : k < xs.length
        · obtain ⟨⟨f, t⟩, hx⟩ : ∃ x, xs[k]? = some x := ⟨xs[k], List.getElem?_eq_getElem hlt⟩
          have hcell1 : wr.cell? ⟨b, o + k * 2, none⟩ = some (.int .i64 f) := (hbl.out.cell (p := ⟨b, o + k * 2, none⟩) hb).trans (HC.out k _ hx).1
          have hcell2 : wr.cell? ⟨b, o + k * 2 + 1, none⟩ = some (.int .i64 t) := (hbl.out.cell (p := ⟨b, o + k * 2 + 1, none⟩) hb).trans (HC.out k _ hx).2
          have HA := hidden (ha.out.trans (any_drop hx))
          clear ha hx
          go_wp2
          · go_ret
            exact ⟨ret_bool (by rw [HU.out, HE.out, any_yes HA.out (by omega) (by omega)]; rfl), hbl.out⟩
          · have HN := hidden (any_no HA.out (by omega))
            go_roundw
            case rel => exact ⟨k + 1, by omega, by go_num, HN.out, hbl.out⟩
            case measure => simp [intOf]; omega
          · go_ret
            exact ⟨ret_bool (by rw [HU.out, HE.out, any_yes HA.out (by omega) (by omega)]; rfl), hbl.out⟩
          · have HN := hidden (any_no HA.out (by omega))
            go_roundw
            case rel => exact ⟨k + 1, by omega, by go_num, HN.out, hbl.out⟩
            case measure => simp [intOf]; omega
        · go_wp2
          go_ret
          have hz : ((xs.length : Int) == 0) = false := by rw [beq_eq_false_iff_ne]; omega
          exact ⟨ret_bool (by rw [HU.out, HE.out, ha.out, List.drop_of_length_le (by omega)]; exact hz), hbl.out⟩

end Go.Proofs.YtdlmddeiopdioaaDoor
