/-
  The law LinesParts, called with any two texts, returns true, and nothing of what was in memory has turned; condition: the texts are no longer than any text of the language can be.
-/
import Derived.Test.YtmmgppaefofehaaAlive
import Derived.Laws.AppendOwnNone
namespace Go.Proofs.Ytmmgppaefofehaa
open Go.RowKit Go.Proofs.Ytmmgppaefofehaa.Ln

theorem hidden {p : Prop} (h : p) : Hid p := h
theorem app_data (a b : ByteArray) : (a ++ b).data.toList = a.data.toList ++ b.data.toList := by simp
theorem app_size (a b : ByteArray) : (a ++ b).size = a.size + b.size := by simp

set_option maxHeartbeats 1000000 in
theorem linesParts_any (a b : ByteArray) (w : World) (ha : a.size ≤ maxLen) (hb : b.size ≤ maxLen) : Calls Try.prog 6 #[.string a, .string b] w fun e w' => e = .returned (.bool true) ∧ Below w.heap.size w w' := by
  unfold maxLen at ha hb
  by_cases hbig : 300 < a.size ∨ 300 < b.size
  · by_cases hba : 300 < a.size
    · go_enter Try.func6, Try.ntmps6
      go_wp2_with fail
      refine (alive_any _).mono ?_
      rintro e w1 ⟨rfl, hb1⟩
      have Hb1 : Hid (Below w.heap.size w w1) := hb1
      clear hb1 hbig
      go_wp2_with fail
      go_ret
      exact ⟨rfl, Hb1.out⟩
    · have hbb : 300 < b.size := by omega
      go_enter Try.func6, Try.ntmps6
      go_wp2_with fail
      refine (alive_any _).mono ?_
      rintro e w1 ⟨rfl, hb1⟩
      have Hb1 : Hid (Below w.heap.size w w1) := hb1
      clear hb1 hbig
      go_wp2_with fail
      go_ret
      exact ⟨rfl, Hb1.out⟩
  · have hba : a.size ≤ 300 := by omega
    have hbb : b.size ≤ 300 := by omega
    clear hbig
    go_enter Try.func6, Try.ntmps6
    go_wp2_with fail
    refine (alive_any _).mono ?_
    rintro e w1 ⟨rfl, hb1⟩
    have Hb1 : Hid (Below w.heap.size w w1) := hb1
    clear hb1
    go_wp2_with fail
    refine (split_any _ _ (by rw [app_size]; show _ + 1 ≤ _; omega)).mono ?_
    rintro e w2 ⟨v1, rfl, hown1, hb2⟩
    rw [app_data] at hown1
    have Hb2 : Hid (Below w.heap.size w w2) := Hb1.out.trans (hb2.mono Hb1.out.size)
    have HB : Hid (w1.heap.size ≤ w2.heap.size) := hb2.size
    have HW1 : Hid (w.heap.size ≤ w1.heap.size) := Hb1.out.size
    have Hown1 : Hid (w2.ownsRow w1.heap.size 9 1 v1 (spl (a.data.toList ++ [10])).length ((spl (a.data.toList ++ [10])).map S)) := hown1
    clear hb2 hown1
    go_wp2_with fail
    refine (split_any _ _ (by omega)).mono ?_
    rintro e w3 ⟨v2, rfl, hown2, hb3⟩
    have Hb3 : Hid (Below w.heap.size w w3) := Hb2.out.trans (hb3.mono Hb2.out.size)
    have HB3 : Hid (w1.heap.size ≤ w3.heap.size) := Nat.le_trans HB.out hb3.size
    have hown3 := owns_later Hown1.out hb3
    have hl1 := spl_length_le (a.data.toList ++ [10])
    have hl2 := spl_length_le b.data.toList
    rw [List.length_append, ← Lib.size_eq, List.length_singleton] at hl1
    rw [← Lib.size_eq] at hl2
    have HX : Hid (spl (a.data.toList ++ [10] ++ b.data.toList) = spl (a.data.toList ++ [10]) ++ spl b.data.toList) := spl_parts _ _
    generalize hXA : spl (a.data.toList ++ [10]) = xa at *
    generalize hXB : spl b.data.toList = xb at *
    have HXA := hidden hXA
    have HXB := hidden hXB
    clear hb3 hXA hXB
    obtain ⟨i0, hi, hz0, hz1, hz2⟩ := info_parts Try.info9
    have HN2 := hown2.2
    rcases HN2 with ⟨rfl, h0⟩ | ⟨g, cap, cur, rfl, hg1, hg2, hg3, _⟩
    · have hxb : xb = [] := List.eq_nil_of_length_eq_zero h0
      go_wp2_with (at_builtin; go_must (refine wpList_append_own_none rfl (.tmp 23) (.tmp 25) 22 rfl w1.heap.size 9 i0 1 Try.underlying22 hi _ _ _ rfl hown3 rfl ?_))
      have HROW : Hid (RowAt w3 v1 (xa ++ xb)) := by rw [hxb, List.append_nil]; exact RowAt.of_owns hown3
      have Hb4 := Hb3
      clear hown2 hown3 hxb
      refine (split_any _ _ (by rw [app_size, app_size]; show _ + 1 + _ ≤ _; omega)).mono ?_
      rintro e w5 ⟨v5, rfl, hown5, hb5⟩
      rw [app_data, app_data, HX.out] at hown5
      have HR5 := hidden (RowAt.of_owns hown5)
      have HR4 := hidden (HROW.out.later hb5)
      have Hb5 : Hid (Below w.heap.size w w5) := Hb4.out.trans (hb5.mono Hb4.out.size)
      clear hown5 hb5
      go_wp2_with fail
      refine (same_any _ _ _ _ _ HR5.out HR4.out (by rw [List.length_append]; omega) (by rw [List.length_append]; omega)).mono ?_
      rintro e w6 ⟨rfl, hb6⟩
      have Hb6 : Hid (Below w.heap.size w w6) := Hb5.out.trans (hb6.mono Hb5.out.size)
      clear hb6
      go_wp2_with fail
      go_ret
      exact ⟨ret_bool (by simp), Hb6.out⟩
    · have hcl : ∀ (j : Nat) u, (xb.map S)[j]? = some u → w3.cell? ((⟨g, 0, none⟩ : Addr).add j) = some u := hown2.cells rfl
      have HCL := hidden hcl
      have HG := hidden hg2
      clear hown2 hg1 hg2 hg3 hcl
      go_wp2_with (at_builtin; go_must (refine wpList_append_own _ rfl (.tmp 23) (.tmp 25) 22 rfl w1.heap.size 9 i0 (.string ⟨#[]⟩) 1 16 Try.underlying22 hi hz0 hz1 hz2 rfl (by decide) _ _ _ rfl hown3 ⟨g, 0, none⟩ _ cap (xb.map S) rfl (by simp) HCL.out (by intro u hu; obtain ⟨x, _, rfl⟩ := List.mem_map.1 hu; rfl) (by unfold maxLen; omega) (by omega) HB3.out ?_; intro v' w4 hown4 hgrow4 _))
      have HROW : Hid (RowAt w4 v' (xa ++ xb)) := by rw [← List.map_append] at hown4; exact RowAt.of_owns hown4
      have Hb4 : Hid (Below w.heap.size w w4) := Hb3.out.grown hgrow4 Hb3.out.size (fun j hj => Nat.le_trans HW1.out (hown3.lt j hj).1)
      clear hown3 hown4 hgrow4
      refine (split_any _ _ (by rw [app_size, app_size]; show _ + 1 + _ ≤ _; omega)).mono ?_
      rintro e w5 ⟨v5, rfl, hown5, hb5⟩
      rw [app_data, app_data, HX.out] at hown5
      have HR5 := hidden (RowAt.of_owns hown5)
      have HR4 := hidden (HROW.out.later hb5)
      have Hb5 : Hid (Below w.heap.size w w5) := Hb4.out.trans (hb5.mono Hb4.out.size)
      clear hown5 hb5
      go_wp2_with fail
      refine (same_any _ _ _ _ _ HR5.out HR4.out (by rw [List.length_append]; omega) (by rw [List.length_append]; omega)).mono ?_
      rintro e w6 ⟨rfl, hb6⟩
      have Hb6 : Hid (Below w.heap.size w w6) := Hb5.out.trans (hb6.mono Hb5.out.size)
      clear hb6
      go_wp2_with fail
      go_ret
      exact ⟨ret_bool (by simp), Hb6.out⟩

end Go.Proofs.Ytmmgppaefofehaa
