/-
  The law LinesBack, called with any text, returns true, and nothing of what was in memory has turned; condition: the text is no longer than any text of the language can be.
-/
import Derived.Test.YtmmgppaefofehaaAlive
namespace Go.Proofs.Ytmmgppaefofehaa
open Go.RowKit Go.Proofs.Ytmmgppaefofehaa.Ln

theorem ends_take (s : ByteArray) (k : Nat) (h : k < s.size) (b : Bool) (hc : ((s[k].toNat : Int) == 10) = b) : ends (s.data.toList.take (k + 1)) = ends (s.data.toList.take k) + if b then 1 else 0 := by
  have h1 : s.data.toList.take (k + 1) = s.data.toList.take k ++ [s[k]] := by
    rw [List.take_succ_eq_append_getElem (by rw [← Lib.size_eq]; exact h)]; rfl
  rw [h1, ends, List.count_append, ends]
  cases b with
  | true =>
    have := get_ten s k h hc
    rw [get_data s k h] at this
    simp only [Option.some.injEq] at this
    rw [this]; simp
  | false =>
    have := get_ne s k h hc
    rw [get_data s k h] at this
    have hne : s[k] ≠ 10 := fun e => this (by rw [e])
    simp [hne]

theorem ends_le (l : List UInt8) (k : Nat) : ends (l.take k) ≤ k := by
  have h1 : ends (l.take k) ≤ (l.take k).length := List.count_le_length
  have h2 : (l.take k).length ≤ k := List.length_take_le _ _
  omega

theorem hidden {p : Prop} (h : p) : Hid p := h

set_option maxHeartbeats 1000000 in
theorem linesBack_any (s : ByteArray) (w : World) (hs : s.size ≤ maxLen) : Calls Try.prog 4 #[.string s] w fun e w' => e = .returned (.bool true) ∧ Below w.heap.size w w' := by
  unfold maxLen at hs
  by_cases hbig : 500 < s.size
  · go_enter Try.func4, Try.ntmps4
    go_wp2_with fail
    refine (alive_any _).mono ?_
    rintro e w1 ⟨rfl, hb1⟩
    have Hb1 : Hid (Below w.heap.size w w1) := hb1
    clear hb1
    go_wp2_with fail
    go_ret
    exact ⟨rfl, Hb1.out⟩
  · go_enter Try.func4, Try.ntmps4
    go_wp2_with fail
    refine (alive_any _).mono ?_
    rintro e w1 ⟨rfl, hb1⟩
    have Hb1 : Hid (Below w.heap.size w w1) := hb1
    clear hb1
    go_wp2_with fail
    go_loop [4, 5] (fun n i => ∃ k : Nat, k ≤ s.size ∧ i = .int .i64 k ∧ n = .int .i64 (ends (s.data.toList.take k))) (fun _ i => s.size - (intOf i).toNat)
    case atStart => exact ⟨0, Nat.zero_le _, rfl, rfl⟩
    case round =>
      obtain ⟨k, hk, rfl, rfl⟩ := hrel
      have hel := ends_le s.data.toList k
      by_cases hlt : k < s.size
      · have HE2 : Hid (∀ b, ((s[k].toNat : Int) == 10) = b → ends (s.data.toList.take (k + 1)) = ends (s.data.toList.take k) + if b then 1 else 0) := ends_take s k hlt
        go_wp2
        all_goals
          go_round
          case rel => exact ⟨k + 1, by omega, by go_num, by rw [HE2.out _ (by assumption)]; simp⟩
          case measure => simp [intOf]; omega
      · have hks : k = s.size := by omega
        have htk : s.data.toList.take k = s.data.toList := List.take_of_length_le (by rw [← Lib.size_eq]; omega)
        rw [htk] at hel ⊢
        have hN := spl_length s.data.toList
        generalize hE : ends s.data.toList = E at *
        generalize hM : (spl s.data.toList).length = M at *
        have HM : Hid ((spl s.data.toList).length = M) := hM
        clear htk hE hM
        have hsl : spl s.data.toList = [] ∨ 0 < s.size := by
          by_cases h : 0 < s.size
          · exact Or.inr h
          · left; rw [spl_eq_nil]; exact List.eq_nil_of_length_eq_zero (by rw [← Lib.size_eq]; omega)
        have hcases : (s.size = 0 ∧ M = E) ∨ (0 < s.size ∧ ∃ h : 0 < s.size, ((s[s.size - 1].toNat : Int) == 10) = true ∧ M = E) ∨ (0 < s.size ∧ ∃ h : 0 < s.size, ((s[s.size - 1].toNat : Int) == 10) = false ∧ M = E + 1) := by
          by_cases h : 0 < s.size
          · have hne : s.data.toList ≠ [] := fun e => by rw [Lib.size_eq, e] at h; simp at h
            cases hb : ((s[s.size - 1].toNat : Int) == 10)
            · refine Or.inr (Or.inr ⟨h, h, hb, ?_⟩)
              rw [hN, if_pos ⟨hne, by rw [cl_last s h, hb]⟩]
            · refine Or.inr (Or.inl ⟨h, h, hb, ?_⟩)
              rw [hN, if_neg (by rw [cl_last s h, hb]; simp)]; simp
          · have he : s.data.toList = [] := List.eq_nil_of_length_eq_zero (by rw [← Lib.size_eq]; omega)
            exact Or.inl ⟨by omega, by rw [hN, if_neg (by simp [he])]; simp⟩
        clear hN hsl
        rcases hcases with ⟨h0, hME⟩ | ⟨h0, h0', hlast, hME⟩ | ⟨h0, h0', hlast, hME⟩
        all_goals
          have HME := hidden hME
          clear hks hME
          go_wp2_with fail
          refine (split_any s _ (by omega)).mono ?_
          rintro e w2 ⟨v, rfl, hown, hb2⟩
          have hrow : RowAt w2 v (spl s.data.toList) := RowAt.of_owns hown
          obtain ⟨ao, cap, rfl⟩ := hrow.shape
          rw [HM.out] at hrow ⊢
          have Hb2 : Hid (Below w.heap.size w w2) := Hb1.out.trans (hb2.mono Hb1.out.size)
          have HR : Hid (RowAt w2 (.slice ao M cap) (spl s.data.toList)) := hrow
          have hll : (spl s.data.toList).length ≤ 1048576 := by have := spl_length_le s.data.toList; rw [← Lib.size_eq] at this; omega
          have hfl : (spl s.data.toList).flatten.length ≤ 1048576 := by rw [spl_flatten, ← Lib.size_eq]; omega
          have HL : Hid ((spl s.data.toList).length ≤ 1048576 ∧ (spl s.data.toList).flatten.length ≤ 1048576) := ⟨hll, hfl⟩
          clear hown hb2 hrow hll hfl
          go_wp2_with fail
          refine (join_any _ _ _ HR.out HL.out.1 HL.out.2).mono ?_
          rintro e w3 ⟨rfl, hb3⟩
          have HR3 : Hid (RowAt w3 (.slice ao M cap) (spl s.data.toList)) := HR.out.later hb3
          have Hb3 : Hid (Below w.heap.size w w3) := Hb2.out.trans (hb3.mono Hb2.out.size)
          clear hb3
          rw [spl_flatten, S_data]
          go_wp2_with fail
          refine (whole_any _ _ _ HR3.out HL.out.1 HL.out.2).mono ?_
          rintro e w4 ⟨rfl, hb4⟩
          rw [wh_spl]
          have Hb4 : Hid (Below w.heap.size w w4) := Hb3.out.trans (hb4.mono Hb3.out.size)
          clear hb4
          go_wp2_with fail
          go_ret
          exact ⟨ret_bool (by rw [beq_iff_eq, HME.out]; try rfl), Hb4.out⟩

end Go.Proofs.Ytmmgppaefofehaa
