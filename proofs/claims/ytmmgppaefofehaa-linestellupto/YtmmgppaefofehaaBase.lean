/-
  What lines.firstEnd, closed, Right and strings.Clone answer at any text of at most 1048576 bytes: the first line's end, whether a byte 10 ends it, whether it is a line, the text itself; conditions: the text's length.
-/
import Derived.WalkKit
import Derived.WalkSpells
import Derived.WalkLawsBesides
import Derived.Test.YtmmgppaefofehaaShelf
import Derived.Test.YtmmgppaefofehaaPlain
namespace Go.Proofs.Ytmmgppaefofehaa
open Go.RowKit Go.Proofs.Ytmmgppaefofehaa.Ln

theorem ret_int {k : IntKind} {a b : Int} (h : a = b) : Ending.returned (.int k a) = .returned (.int k b) := by rw [h]
theorem ret_bool {a b : Bool} (h : a = b) : Ending.returned (.bool a) = .returned (.bool b) := by rw [h]

set_option maxHeartbeats 400000 in
theorem firstEnd_any (s : ByteArray) (w : World) (hs : s.size ≤ 1048576) :
    Calls Try.prog 18 #[.string s] w fun e w' => e = .returned (.int .i64 (fe s.data.toList)) ∧ w' = w := by
  obtain ⟨h1, h2, h3, h4⟩ := fe_index s.data.toList
  rw [← Lib.size_eq] at h2 h3
  generalize hix : Lib.indexByte s.data.toList 10 = ix at *
  have Hix : Hid (Lib.indexByte s.data.toList 10 = ix) := hix
  clear hix
  by_cases h0 : 0 ≤ ix
  · have hfe := h1 h0
    have HF : Hid ((fe s.data.toList : Int) = ix + 1) := hfe
    clear h1 h2 hfe
    go_enter Try.func18, Try.ntmps18
    go_wp2_with (go_at_call 24; refine (Try.strings_IndexByte _ _ _).mono ?_; rintro e w' ⟨rfl, rfl⟩; rw [show ((10 : Int).toNat.toUInt8) = 10 from rfl, Hix.out])
    go_ret
    exact ⟨ret_int HF.out.symm, rfl⟩
  · have hfe := h2 h0
    have HF : Hid (fe s.data.toList = s.size) := hfe
    clear h1 h2 hfe
    go_enter Try.func18, Try.ntmps18
    go_wp2_with (go_at_call 24; refine (Try.strings_IndexByte _ _ _).mono ?_; rintro e w' ⟨rfl, rfl⟩; rw [show ((10 : Int).toNat.toUInt8) = 10 from rfl, Hix.out])
    go_ret
    exact ⟨ret_int (by rw [HF.out]), rfl⟩

set_option maxHeartbeats 400000 in
theorem closed_any (s : ByteArray) (w : World) (hs : s.size ≤ 1048576) :
    Calls Try.prog 22 #[.string s] w fun e w' => e = .returned (.bool (cl s.data.toList)) ∧ w' = w := by
  go_enter Try.func22, Try.ntmps22
  go_wp2_with (go_at_call 27; refine (Try.strings_HasSuffix _ _ _ (by omega)).mono ?_; rintro e w' ⟨rfl, rfl⟩)
  go_ret
  exact ⟨ret_bool (cl_suffix _), rfl⟩

set_option maxHeartbeats 400000 in
theorem clone_any (s : ByteArray) (w : World) (hs : s.size ≤ 1048576) :
    Calls Try.prog 19 #[.string s] w fun e w' => e = .returned (.string s) ∧ Below w.heap.size w w' := by
  go_enter Try.func19, Try.ntmps19
  go_wp2_with (go_at_call 25; refine (Try.stringslite_Clone _ _ (by omega)).mono ?_; rintro e w' ⟨rfl, hb⟩)
  go_ret
  exact ⟨rfl, hb⟩

theorem empty_data {s : ByteArray} (h : s.toList.isEmpty = true) : s.data.toList = [] := by
  rw [Lib.toList_data] at h; simpa using h
theorem nonempty_data {s : ByteArray} (h : s.toList.isEmpty = false) : s.data.toList ≠ [] := by
  rw [Lib.toList_data] at h; intro e; rw [e] at h; simp at h

set_option maxHeartbeats 400000 in
theorem right_any (s : ByteArray) (w : World) (hs : s.size ≤ 1048576) :
    Calls Try.prog 10 #[.string s] w fun e w' => e = .returned (.bool (rt s.data.toList)) ∧ w' = w := by
  by_cases h0 : s.toList.isEmpty = true
  · go_enter Try.func10, Try.ntmps10
    go_wp2_with (go_at_call 18; refine (firstEnd_any _ _ (by omega)).mono ?_; rintro e w' ⟨rfl, rfl⟩)
    go_ret
    exact ⟨ret_bool (by simp [rt, empty_data h0]), rfl⟩
  · have h1 : s.toList.isEmpty = false := by simpa using h0
    go_enter Try.func10, Try.ntmps10
    go_wp2_with (go_at_call 18; refine (firstEnd_any _ _ (by omega)).mono ?_; rintro e w' ⟨rfl, rfl⟩)
    go_ret
    exact ⟨ret_bool (by rw [rt, Lib.size_eq, ← Lib.toList_data, h1, Bool.not_false, Bool.true_and, Bool.eq_iff_iff, beq_iff_eq, beq_iff_eq]; omega), rfl⟩

/-- a text as a value -/
def S (x : List UInt8) : Value := .string ⟨x.toArray⟩
theorem S_data (s : ByteArray) : S s.data.toList = .string s := by rw [S, Lib.mk_data]
theorem S_one (x : List UInt8) : (S x).oneCell' = true := rfl

theorem Try.info9 : (Try.prog.info? 9).map (fun i => (i.zero, i.size, i.bytes)) = some (some (.string ⟨#[]⟩), 1, 16) := by kernel_rfl

/-- what one round of lines.Split does to what it has made -/
theorem split_step (s r : ByteArray) (xs : List (List UInt8)) (h : r.toList.isEmpty = false) (hx : spl s.data.toList = xs ++ spl r.data.toList) :
    spl s.data.toList = (xs ++ [(r.extract 0 (fe r.data.toList)).data.toList]) ++ spl (r.extract (fe r.data.toList) r.size).data.toList := by
  rw [hx, spl_ne _ (nonempty_data h), Lib.extract_data, Lib.extract_data]
  simp only [List.drop_zero, Nat.sub_zero, List.append_assoc, List.singleton_append]
  congr 2
  rw [List.take_of_length_le (by rw [List.length_drop, Lib.size_eq]; exact Nat.le_refl _)]

set_option maxHeartbeats 1000000 in
theorem split_any (s : ByteArray) (w : World) (hs : s.size ≤ 1048576) :
    Calls Try.prog 13 #[.string s] w fun e w' => ∃ v, e = .returned v ∧ w'.ownsRow w.heap.size 9 1 v (spl s.data.toList).length ((spl s.data.toList).map S) ∧ Below w.heap.size w w' := by
  obtain ⟨i0, hi, hz0, hz1, hz2⟩ := info_parts Try.info9
  go_enter Try.func13, Try.ntmps13
  go_wp2_with (go_at_call 19; refine (clone_any _ _ (by omega)).mono ?_; rintro e w1 ⟨rfl, hb1⟩)
  have HB1 : Hid (Below w.heap.size w w1) := hb1
  clear hb1
  go_loopw [3, 4] (fun v r wr => ∃ (rs : ByteArray) (xs : List (List UInt8)), r = .string rs ∧ Hid (spl s.data.toList = xs ++ spl rs.data.toList) ∧ xs.length + rs.size ≤ s.size ∧ wr.ownsRow w.heap.size 9 1 v xs.length (xs.map S) ∧ Hid (Below w.heap.size w wr))
    (fun _ r _ => match r with | .string rs => rs.size | _ => 0)
  case atStart => exact ⟨s, [], rfl, rfl, by simp, World.ownsRow_nil _ _ _ _, HB1⟩
  case round =>
    obtain ⟨rs, xs, rfl, hx, hle, hown, hb⟩ := hrel
    by_cases h0 : rs.toList.isEmpty = true
    · go_wp2
      go_ret
      have hxx : spl s.data.toList = xs := by have h := hx.out; rw [empty_data h0] at h; simpa [spl] using h
      exact ⟨_, rfl, by rw [hxx]; exact hown, hb.out⟩
    · have h1 : rs.toList.isEmpty = false := by simpa using h0
      have hfl := fe_le rs.data.toList
      have hfp := fe_pos rs.data.toList (nonempty_data h1)
      rw [← Lib.size_eq] at hfl
      go_wp2_with (first | (go_at_call 18; refine (firstEnd_any _ _ (by omega)).mono ?_; rintro e w' ⟨rfl, rfl⟩) | (at_builtin; go_must (refine wpList_append_own _ rfl (.tmp 12) (.tmp 16) 22 rfl w.heap.size 9 i0 (.string ⟨#[]⟩) 1 16 Try.underlying22 hi hz0 hz1 hz2 rfl (by decide) _ _ _ rfl (hown.alloc _) ⟨_, 0, none⟩ 1 1 [.string (rs.extract 0 (fe rs.data.toList))] rfl rfl (cell_one_new _ _ _) (by intro u hu; simp at hu; subst hu; rfl) (by unfold maxLen; omega) (by omega) (by have := hb.out.size; simp; omega) ?_; intro v' w2 hown2 hgrow2 _)))
      have hstep := split_step s rs xs h1 hx.out
      have HX := hown.alloc (.cells #[.string (rs.extract 0 (fe rs.data.toList))] 9)
      have hb2 : Below w.heap.size w w2 := (hb.out.alloc hb.out.size _).grown hgrow2 (by have := hb.out.size; simp; omega) (fun j hj => (HX.lt j hj).1)
      have hl : (rs.extract 0 (fe rs.data.toList)).size + (rs.extract (fe rs.data.toList) rs.size).size = rs.size := by simp; omega
      go_roundw
      case rel => exact ⟨_, _, rfl, hstep, by simp; omega, by rw [List.length_append, List.map_append, List.map_singleton, S_data]; exact hown2, hb2⟩
      case measure => simp; omega

end Go.Proofs.Ytmmgppaefofehaa
