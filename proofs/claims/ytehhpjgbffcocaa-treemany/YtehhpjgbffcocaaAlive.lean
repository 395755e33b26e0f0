/-
  What the laws' own example answers: true, in any memory; no condition.
-/
import Derived.Test.YtehhpjgbffcocaaRefPut
namespace Go.Proofs.Ytehhpjgbffcocaa
open Go.RowKit Go.Proofs.Ytehhpjgbffcocaa.Tr

theorem one_put : putL [97] [120] [] = [([97], [120])] := by decide
theorem one_get : getL [97] [([97], [120])] = some [120] := by decide
theorem one_cut : cutL [97] [([97], [120])] = [] := by decide
theorem one_right : right [] [([97], [120])] = true := by decide
theorem fit_nil : Fit [] := fun e he => by cases he
theorem fit_one : Fit [([97], [120])] := fun e he => by simp at he; subst he; exact ⟨by simp, by simp⟩

theorem get_none (w : World) : Calls Try.prog 8 #[.slice none 0 0, .string ⟨#[97]⟩] w fun e w' => e = .returned (.tuple #[.string ⟨#[]⟩, .bool false]) ∧ Below w.heap.size w w' :=
  get_any (.slice none 0 0) [] [97] w (TreeAt.nil _ _ _) (by simp) fit_nil
theorem put_one (w : World) : Calls Try.prog 13 #[.slice none 0 0, .string ⟨#[97]⟩, .string ⟨#[120]⟩] w fun e w' => (∃ v', e = .returned v' ∧ TreeAt w' v' [([97], [120])]) ∧ Below w.heap.size w w' := by
  have := put_any (.slice none 0 0) [] [97] [120] w (TreeAt.nil _ _ _) (by simp) fit_nil (by simp) (by simp)
  rw [one_put] at this
  exact this
theorem get_one (v : Value) (w : World) (h : TreeAt w v [([97], [120])]) : Calls Try.prog 8 #[v, .string ⟨#[97]⟩] w fun e w' => e = .returned (.tuple #[.string ⟨#[120]⟩, .bool true]) ∧ Below w.heap.size w w' := by
  have := get_any v _ [97] w h (by simp) fit_one
  rw [one_get] at this
  exact this
theorem right_one (v : Value) (w : World) (h : TreeAt w v [([97], [120])]) : Calls Try.prog 10 #[v] w fun e w' => e = .returned (.bool true) ∧ Below w.heap.size w w' := by
  have := right_any v _ w h (by simp)
  rw [one_right] at this
  exact this
theorem cut_one (v : Value) (w : World) (h : TreeAt w v [([97], [120])]) : Calls Try.prog 15 #[v, .string ⟨#[97]⟩] w fun e w' => (∃ ao cap, e = .returned (.slice ao 0 cap)) ∧ Below w.heap.size w w' := by
  have := cut_any v _ [97] w h (by simp) fit_one
  rw [one_cut] at this
  refine this.mono ?_
  rintro e w' ⟨⟨v', rfl, ht⟩, hb⟩
  obtain ⟨ao, cap, rfl⟩ := ht.shape
  exact ⟨⟨ao, cap, rfl⟩, hb⟩

set_option maxHeartbeats 2000000 in
theorem alive_any (w : World) : Calls Try.prog 7 #[] w fun e w' => e = .returned (.bool true) ∧ Below w.heap.size w w' := by
  go_enter Try.func7, Try.ntmps7
  go_wp2_with fail
  refine (get_none _).mono ?_
  rintro e w1 ⟨rfl, hb1⟩
  have H1 := hidden hb1
  clear hb1
  go_wp2_with fail
  refine (put_one _).mono ?_
  rintro e w2 ⟨⟨v2, rfl, ht2⟩, hb2⟩
  have H2 := hidden (H1.out.trans (hb2.mono H1.out.size))
  have T2 := hidden ht2
  clear hb2 ht2 H1
  go_wp2_with fail
  refine (get_one v2 _ T2.out).mono ?_
  rintro e w3 ⟨rfl, hb3⟩
  have H3 := hidden (H2.out.trans (hb3.mono H2.out.size))
  clear hb3 T2 H2
  go_wp2_with fail
  refine (put_one _).mono ?_
  rintro e w4 ⟨⟨v4, rfl, ht4⟩, hb4⟩
  have H4 := hidden (H3.out.trans (hb4.mono H3.out.size))
  have T4 := hidden ht4
  clear hb4 ht4 H3
  go_wp2_with fail
  refine (right_one v4 _ T4.out).mono ?_
  rintro e w5 ⟨rfl, hb5⟩
  have H5 := hidden (H4.out.trans (hb5.mono H4.out.size))
  clear hb5 T4 H4
  go_wp2_with fail
  refine (put_one _).mono ?_
  rintro e w6 ⟨⟨v6, rfl, ht6⟩, hb6⟩
  have H6 := hidden (H5.out.trans (hb6.mono H5.out.size))
  have T6 := hidden ht6
  clear hb6 ht6 H5
  go_wp2_with fail
  refine (cut_one v6 _ T6.out).mono ?_
  rintro e w7 ⟨⟨ao, cap, rfl⟩, hb7⟩
  have H7 := hidden (H6.out.trans (hb7.mono H6.out.size))
  clear hb7 T6 H6
  go_wp2_with fail
  go_ret
  exact ⟨rfl, H7.out⟩

end Go.Proofs.Ytehhpjgbffcocaa
