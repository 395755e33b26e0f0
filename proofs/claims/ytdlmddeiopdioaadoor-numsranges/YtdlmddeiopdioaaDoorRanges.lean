/-
  What nums.Ranges and the document's own Ranges answer at any text of at most 1048576 bytes: the ranges that it lists, or that it is no such list; conditions: the text's length and, of the first, that a cell of the library's holds an int.
-/
import Derived.Test.YtdlmddeiopdioaaDoorLists
namespace Go.Proofs.YtdlmddeiopdioaaDoor
open Go.RowKit Go.Proofs.YtdlmddeiopdioaaDoor.Nm

/-- the ranges so far, and those of the rest -/
theorem rngs_start (ps : List (List UInt8)) : rngs ps = (rngs (ps.drop 0)).map ([] ++ ·) := by
  rw [List.drop_zero]; cases rngs ps <;> rfl
theorem rngs_drop {ps : List (List UInt8)} {k : Nat} {x : List UInt8} (hx : ps[k]? = some x) : ps.drop k = x :: ps.drop (k + 1) := by
  obtain ⟨h, rfl⟩ := List.getElem?_eq_some_iff.1 hx
  exact List.drop_eq_getElem_cons h
theorem rngs_yes {ps : List (List UInt8)} {k : Nat} {x : List UInt8} {xs : List (Int × Int)} {r : Int × Int} (hx : ps[k]? = some x) (hr : Nm.part x = some r) (h : rngs ps = (rngs (ps.drop k)).map (xs ++ ·)) :
    rngs ps = (rngs (ps.drop (k + 1))).map ((xs ++ [r]) ++ ·) := by
  rw [h, rngs_drop hx, rngs, hr]
  cases rngs (ps.drop (k + 1)) <;> simp
theorem rngs_no {ps : List (List UInt8)} {k : Nat} {x : List UInt8} {xs : List (Int × Int)} (hx : ps[k]? = some x) (hr : Nm.part x = none) (h : rngs ps = (rngs (ps.drop k)).map (xs ++ ·)) : rngs ps = none := by
  rw [h, rngs_drop hx, rngs, hr]; rfl
theorem rngs_all {ps : List (List UInt8)} {k : Nat} {xs : List (Int × Int)} (hk : ps.length ≤ k) (h : rngs ps = (rngs (ps.drop k)).map (xs ++ ·)) : rngs ps = some xs := by
  rw [h, List.drop_of_length_le hk]; simp [rngs]

/-- each piece is no longer than the whole -/
theorem cuts_mem (c : UInt8) (l : List UInt8) : ∀ x, x ∈ cuts c l → x.length ≤ l.length := by
  induction l with
  | nil => intro x hx; simp [cuts] at hx; simp [hx]
  | cons b l ih =>
    intro x hx
    rw [cuts] at hx
    split at hx
    · rcases List.mem_cons.1 hx with rfl | hx
      · simp
      · have := ih x hx; simp; omega
    · split at hx
      · simp at hx; simp [hx]
      · rename_i y t e
        rcases List.mem_cons.1 hx with rfl | hx
        · have := ih y (by rw [e]; simp); simp; exact this
        · have := ih x (by rw [e]; simp [hx]); simp; omega

theorem cell_two_next (w : World) (o : Obj) (a b : Value) (t : TypeId) : ∀ j u, [a, b][j]? = some u → ((w.alloc o).alloc (.cells #[a, b] t)).cell? ((⟨w.heap.size + 1, 0, none⟩ : Addr).add j) = some u := by
  have h := cell_two_new (w.alloc o) a b t
  rw [show (w.alloc o).heap.size = w.heap.size + 1 by simp] at h
  exact h

set_option maxHeartbeats 2000000 in
theorem ranges_any (s : ByteArray) (w : World) (he : Env w) (hs : s.size ≤ 1048576) :
    Calls Tryd.prog 11 #[.string s] w fun e w' => ∃ u, e = .returned (.tuple #[u, .bool (ranges s.data.toList).isSome]) ∧ RngAt w' u ((ranges s.data.toList).getD []) ∧ Below w.heap.size w w' := by
  obtain ⟨i0, hi, hz0, hz1, hz2⟩ := info_parts Tryd.info39
  have HE := hidden he
  clear he
  go_enter Tryd.func11, Tryd.ntmps11
  go_wp2_with fail
  refine (split_any s _ HE.out hs).mono ?_
  rintro e w1 ⟨v, rfl, hrow, hb1⟩
  obtain ⟨b, o, cap, rfl, hcap, hb, hc⟩ := hrow.cells (cuts_ne 44 _)
  have HB1 := hidden hb1
  have HE1 := hidden (HE.out.on hb1)
  have hlen := cuts_len 44 s.data.toList
  rw [← Lib.size_eq] at hlen
  have hmem := cuts_mem 44 s.data.toList
  rw [← Lib.size_eq] at hmem
  have HM := hidden hmem
  have HR := hidden (show ranges s.data.toList = rngs (cuts 44 s.data.toList) from rfl)
  generalize cuts 44 s.data.toList = ps at *
  have HC := hidden hc
  clear hc hb1 hrow hmem HE
  go_wp2
  go_loopw [4, 12] (fun v i wr => ∃ (k : Nat) (xs : List (Int × Int)), i = .int .i64 k ∧ k ≤ ps.length ∧ xs.length = k ∧ wr.ownsRow w1.heap.size 39 2 v xs.length (cellsR xs) ∧ Hid (Below w1.heap.size w1 wr) ∧ Hid (rngs ps = (rngs (ps.drop k)).map (xs ++ ·)))
    (fun _ i _ => ps.length - (intOf i).toNat)
  case atStart => exact ⟨0, [], rfl, by omega, rfl, World.ownsRow_nil _ _ _ _, Below.refl _ _, rngs_start ps⟩
  case round =>
    obtain ⟨k, xs, rfl, hk, hxl, hown, hbl, hx⟩ := hrel
    have HXL := hidden hxl
    by_cases hlt : k < ps.length
    · obtain ⟨x, hpx⟩ : ∃ x, ps[k]? = some x := ⟨ps[k], List.getElem?_eq_getElem hlt⟩
      have hcell : wr.cell? ⟨b, o + k, none⟩ = some (.string ⟨x.toArray⟩) := (hbl.out.cell (p := ⟨b, o + k, none⟩) hb).trans (HC.out k x hpx)
      have hxs : (⟨x.toArray⟩ : ByteArray).size ≤ 1048576 := by
        have := HM.out x (List.mem_of_getElem? hpx)
        show x.length ≤ _; omega
      have HCall := hidden (oneRange_any ⟨x.toArray⟩ wr (HE1.out.on hbl.out) hxs)
      have HPX := hidden hpx
      clear hpx hxs hxl
      go_wp2_with fail
      refine HCall.out.mono ?_
      rintro e w2 ⟨u, rfl, hu, hb2⟩
      have HB2 := hidden (hbl.out.trans (hb2.mono hbl.out.size))
      have hown2 := owns_later hown hb2
      clear hcell hown hbl hb2 HCall
      cases hp : Nm.part x with
      | none =>
        have hp' : Nm.part (⟨x.toArray⟩ : ByteArray).data.toList = none := hp
        rw [hp'] at hu
        obtain ⟨a1, a2, rfl⟩ := hu
        have HN := hidden (rngs_no HPX.out hp hx.out)
        clear hp hp'
        go_wp2
        go_ret2
        have hfin : ranges s.data.toList = none := by rw [HR.out, HN.out]
        exact ⟨.slice none 0 0, by rw [hfin]; rfl, by rw [hfin]; exact Or.inl ⟨rfl, _, _, rfl⟩, HB1.out.trans ((HB2.out.alloc HB2.out.size _).mono HB1.out.size)⟩
      | some r =>
        have hp' : Nm.part (⟨x.toArray⟩ : ByteArray).data.toList = some r := hp
        rw [hp'] at hu
        obtain ⟨f, t⟩ := r
        obtain rfl := hu
        have HN := hidden (rngs_yes HPX.out hp hx.out)
        clear hp hp' hx
        go_wp2_with (at_builtin; go_must (refine wpList_append_own _ rfl (.tmp 23) (.tmp 25) 22 rfl w1.heap.size 39 i0 (.agg #[.int .i64 0, .int .i64 0]) 2 16 Tryd.underlying22 hi hz0 hz1 hz2 rfl (by decide) _ _ _ rfl ((hown2.alloc _).alloc _) ⟨_, 0, none⟩ 1 1 [.int .i64 f, .int .i64 t] rfl rfl (cell_two_next _ _ _ _ _) (by intro u hu; simp at hu; rcases hu with rfl | rfl <;> rfl) (by have := HXL.out; unfold maxLen; omega) (by have := HXL.out; omega) (by have := HB2.out.size; simp; omega) ?_; intro v' w3 hown3 hgrow3 _))
        have HX := (hown2.alloc (.cells #[.int .i64 f, .int .i64 t] 39)).alloc (.cells #[.int .i64 f, .int .i64 t] 39)
        have hb3 : Below w1.heap.size w1 w3 := ((HB2.out.alloc HB2.out.size _).alloc (by have := HB2.out.size; simp; omega) _).grown hgrow3 (by have := HB2.out.size; simp; omega) (fun j hj => (HX.lt j hj).1)
        have hown4 : w3.ownsRow w1.heap.size 39 2 v' (xs ++ [(f, t)]).length (cellsR (xs ++ [(f, t)])) := by
          rw [List.length_append, cellsR_app]; exact hown3
        clear hown3 hgrow3 HX hown2
        go_roundw
        case rel => exact ⟨k + 1, xs ++ [(f, t)], by go_num, by omega, by rw [List.length_append, HXL.out]; rfl, hown4, hb3, HN.out⟩
        case measure => simp [intOf]; omega
    · have HN := hidden (rngs_all (by omega) hx.out)
      go_wp2
      go_ret2
      have hfin : ranges s.data.toList = some xs := by rw [HR.out, HN.out]
      exact ⟨_, by rw [hfin]; rfl, by rw [hfin]; exact RngAt.of_owns hown, HB1.out.trans (hbl.out.mono HB1.out.size)⟩

set_option maxHeartbeats 2000000 in
theorem refRanges_any (s : ByteArray) (w : World) (hs : s.size ≤ 1048576) :
    Calls Tryd.prog 12 #[.string s] w fun e w' => ∃ u, e = .returned (.tuple #[u, .bool (ranges s.data.toList).isSome]) ∧ RngAt w' u ((ranges s.data.toList).getD []) ∧ Below w.heap.size w w' := by
  obtain ⟨i0, hi, hz0, hz1, hz2⟩ := info_parts Tryd.info39
  go_enter Tryd.func12, Tryd.ntmps12
  go_wp2_with fail
  refine (cuts_any s 44 _ hs).mono ?_
  rintro e w1 ⟨v, rfl, hrow, hb1⟩
  obtain ⟨b, o, cap, rfl, hcap, hb, hc⟩ := hrow.cells (cuts_ne 44 _)
  have HB1 := hidden hb1
  have hlen := cuts_len 44 s.data.toList
  rw [← Lib.size_eq] at hlen
  have hmem := cuts_mem 44 s.data.toList
  rw [← Lib.size_eq] at hmem
  have HM := hidden hmem
  have HR := hidden (show ranges s.data.toList = rngs (cuts 44 s.data.toList) from rfl)
  generalize cuts 44 s.data.toList = ps at *
  have HC := hidden hc
  clear hc hb1 hrow hmem
  go_wp2
  go_loopw [5, 6] (fun v i wr => ∃ (k : Nat) (xs : List (Int × Int)), i = .int .i64 k ∧ k ≤ ps.length ∧ xs.length = k ∧ wr.ownsRow w1.heap.size 39 2 v xs.length (cellsR xs) ∧ Hid (Below w1.heap.size w1 wr) ∧ Hid (rngs ps = (rngs (ps.drop k)).map (xs ++ ·)))
    (fun _ i _ => ps.length - (intOf i).toNat)
  case atStart => exact ⟨0, [], rfl, by omega, rfl, World.ownsRow_nil _ _ _ _, Below.refl _ _, rngs_start ps⟩
  case round =>
    obtain ⟨k, xs, rfl, hk, hxl, hown, hbl, hx⟩ := hrel
    have HXL := hidden hxl
    by_cases hlt : k < ps.length
    · obtain ⟨x, hpx⟩ : ∃ x, ps[k]? = some x := ⟨ps[k], List.getElem?_eq_getElem hlt⟩
      have hcell : wr.cell? ⟨b, o + k, none⟩ = some (.string ⟨x.toArray⟩) := (hbl.out.cell (p := ⟨b, o + k, none⟩) hb).trans (HC.out k x hpx)
      have hxs : (⟨x.toArray⟩ : ByteArray).size ≤ 1048576 := by
        have := HM.out x (List.mem_of_getElem? hpx)
        show x.length ≤ _; omega
      have HCall := hidden (refPart_any ⟨x.toArray⟩ wr hxs)
      have HPX := hidden hpx
      clear hpx hxs hxl
      go_wp2_with fail
      refine HCall.out.mono ?_
      rintro e w2 ⟨u, rfl, hu, hb2⟩
      have HB2 := hidden (hbl.out.trans (hb2.mono hbl.out.size))
      have hown2 := owns_later hown hb2
      clear hcell hown hbl hb2 HCall
      cases hp : Nm.part x with
      | none =>
        have hp' : Nm.part (⟨x.toArray⟩ : ByteArray).data.toList = none := hp
        rw [hp'] at hu
        obtain ⟨a1, a2, rfl⟩ := hu
        have HN := hidden (rngs_no HPX.out hp hx.out)
        clear hp hp'
        go_wp2
        go_ret2
        have hfin : ranges s.data.toList = none := by rw [HR.out, HN.out]
        exact ⟨.slice none 0 0, by rw [hfin]; rfl, by rw [hfin]; exact Or.inl ⟨rfl, _, _, rfl⟩, HB1.out.trans ((HB2.out.alloc HB2.out.size _).mono HB1.out.size)⟩
      | some r =>
        have hp' : Nm.part (⟨x.toArray⟩ : ByteArray).data.toList = some r := hp
        rw [hp'] at hu
        obtain ⟨f, t⟩ := r
        obtain rfl := hu
        have HN := hidden (rngs_yes HPX.out hp hx.out)
        clear hp hp' hx
        go_wp2_with (at_builtin; go_must (refine wpList_append_own _ rfl (.tmp 27) (.tmp 29) 22 rfl w1.heap.size 39 i0 (.agg #[.int .i64 0, .int .i64 0]) 2 16 Tryd.underlying22 hi hz0 hz1 hz2 rfl (by decide) _ _ _ rfl ((hown2.alloc _).alloc _) ⟨_, 0, none⟩ 1 1 [.int .i64 f, .int .i64 t] rfl rfl (cell_two_next _ _ _ _ _) (by intro u hu; simp at hu; rcases hu with rfl | rfl <;> rfl) (by have := HXL.out; unfold maxLen; omega) (by have := HXL.out; omega) (by have := HB2.out.size; simp; omega) ?_; intro v' w3 hown3 hgrow3 _))
        have HX := (hown2.alloc (.cells #[.int .i64 f, .int .i64 t] 39)).alloc (.cells #[.int .i64 f, .int .i64 t] 39)
        have hb3 : Below w1.heap.size w1 w3 := ((HB2.out.alloc HB2.out.size _).alloc (by have := HB2.out.size; simp; omega) _).grown hgrow3 (by have := HB2.out.size; simp; omega) (fun j hj => (HX.lt j hj).1)
        have hown4 : w3.ownsRow w1.heap.size 39 2 v' (xs ++ [(f, t)]).length (cellsR (xs ++ [(f, t)])) := by
          rw [List.length_append, cellsR_app]; exact hown3
        clear hown3 hgrow3 HX hown2
        go_roundw
        case rel => exact ⟨k + 1, xs ++ [(f, t)], by go_num, by omega, by rw [List.length_append, HXL.out]; rfl, hown4, hb3, HN.out⟩
        case measure => simp [intOf]; omega
    · have HN := hidden (rngs_all (by omega) hx.out)
      go_wp2
      go_ret2
      have hfin : ranges s.data.toList = some xs := by rw [HR.out, HN.out]
      exact ⟨_, by rw [hfin]; rfl, by rw [hfin]; exact RngAt.of_owns hown, HB1.out.trans (hbl.out.mono HB1.out.size)⟩

end Go.Proofs.YtdlmddeiopdioaaDoor
