/-
  The law LinesEach, called with any number, returns true, and nothing of what was in memory has turned; no condition.
-/
import Derived.Test.YtmmgppaefofehaaAlive
import Derived.Deep.RegionHeld3
namespace Go.Proofs.Ytmmgppaefofehaa
open Go.RowKit Go.Proofs.Ytmmgppaefofehaa.Ln

theorem hidden {p : Prop} (h : p) : Hid p := h

set_option maxHeartbeats 1000000 in
theorem linesEach_out (i : Int) (w : World) (hout : i < 0 ∨ 9 ≤ i) : Calls Try.prog 7 #[.int .i64 i] w fun e w' => e = .returned (.bool true) ∧ Below w.heap.size w w' := by
  rcases hout with h | h
  all_goals
    go_enter Try.func7, Try.ntmps7
    go_wp2_with fail
    refine (alive_any _).mono ?_
    rintro e w1 ⟨rfl, hb1⟩
    have Hb1 := hidden hb1
    clear hb1
    go_wp2_with fail
    go_ret
    exact ⟨rfl, (((Hb1.out.alloc Hb1.out.size _).alloc (by have := Hb1.out.size; simp; omega) _).alloc (by have := Hb1.out.size; simp; omega) _)⟩

/-- the memory behind the law's three tables -/
def tabT : Array Value := #[Value.string { data := #[] }, Value.string { data := #[10] }, Value.string { data := #[97] },
              Value.string { data := #[97, 10] }, Value.string { data := #[10, 10] },
              Value.string { data := #[97, 10, 98] }, Value.string { data := #[97, 13, 10, 98, 13] },
              Value.string { data := #[10, 97] }, Value.string { data := #[97, 10, 10] }]
def tabN : Array Value := #[Value.int IntKind.i64 0, Value.int IntKind.i64 1, Value.int IntKind.i64 1, Value.int IntKind.i64 1,
          Value.int IntKind.i64 2, Value.int IntKind.i64 2, Value.int IntKind.i64 2, Value.int IntKind.i64 2,
          Value.int IntKind.i64 2]
def tabR : Array Value := #[Value.bool false, Value.bool true, Value.bool true, Value.bool true, Value.bool false, Value.bool false,
      Value.bool false, Value.bool false, Value.bool false]
def eachWorld (w : World) : World := ((w.alloc (Obj.cells tabT 9)).alloc (Obj.cells tabN 3)).alloc (Obj.cells tabR 4)

theorem tab_at (k : Nat) (hk : k < 9) : ∃ (t : ByteArray), tabT[k]? = some (.string t) ∧ tabN[k]? = some (.int .i64 ((spl t.data.toList).length : Nat)) ∧ tabR[k]? = some (.bool (rt t.data.toList)) ∧ t.size ≤ 1048576 := by
  match k, hk with
  | 0, _ => exact ⟨_, rfl, rfl, rfl, by decide⟩
  | 1, _ => exact ⟨_, rfl, rfl, rfl, by decide⟩
  | 2, _ => exact ⟨_, rfl, rfl, rfl, by decide⟩
  | 3, _ => exact ⟨_, rfl, rfl, rfl, by decide⟩
  | 4, _ => exact ⟨_, rfl, rfl, rfl, by decide⟩
  | 5, _ => exact ⟨_, rfl, rfl, rfl, by decide⟩
  | 6, _ => exact ⟨_, rfl, rfl, rfl, by decide⟩
  | 7, _ => exact ⟨_, rfl, rfl, rfl, by decide⟩
  | 8, _ => exact ⟨_, rfl, rfl, rfl, by decide⟩

theorem split_len (t : ByteArray) (w : World) (L : Nat) (hL : (spl t.data.toList).length = L) (hs : t.size ≤ 1048576) :
    Calls Try.prog 13 #[.string t] w fun e w' => ∃ ao cap, e = .returned (.slice ao L cap) ∧ Below w.heap.size w w' := by
  refine (split_any t w hs).mono ?_
  rintro e w' ⟨v, rfl, hown, hb⟩
  obtain ⟨ao, cap, rfl⟩ := (RowAt.of_owns hown).shape
  exact ⟨ao, cap, by rw [hL], hb⟩

theorem right_is (t : ByteArray) (w : World) (r : Bool) (hr : rt t.data.toList = r) (hs : t.size ≤ 1048576) :
    Calls Try.prog 10 #[.string t] w fun e w' => e = .returned (.bool r) ∧ w' = w := by
  rw [← hr]; exact right_any t w hs

theorem each_heap (w : World) : (eachWorld w).heap = ((w.heap.push (Obj.cells tabT 9)).push (Obj.cells tabN 3)).push (Obj.cells tabR 4) := rfl
theorem each_size (w : World) : (eachWorld w).heap.size = w.heap.size + 3 := by rw [each_heap]; simp
theorem each_below (w : World) : Below w.heap.size w (eachWorld w) :=
  (((Below.refl _ w).alloc (Nat.le_refl _) _).alloc (by simp) _).alloc (by simp; omega) _
theorem each_T (w : World) (k : Nat) : (eachWorld w).cell? ⟨w.heap.size, k, none⟩ = tabT[k]? := by
  have : (eachWorld w).heap[w.heap.size]? = some (Obj.cells tabT 9) := by rw [each_heap, Array.getElem?_push, if_neg (by simp; omega), Array.getElem?_push, if_neg (by simp), Array.getElem?_push, if_pos rfl]
  simp [World.cell?, this]
theorem each_N (w : World) (k : Nat) : (eachWorld w).cell? ⟨w.heap.size + 1, k, none⟩ = tabN[k]? := by
  have : (eachWorld w).heap[w.heap.size + 1]? = some (Obj.cells tabN 3) := by rw [each_heap, Array.getElem?_push, if_neg (by simp), Array.getElem?_push, if_pos (by simp)]
  simp [World.cell?, this]
theorem each_R (w : World) (k : Nat) : (eachWorld w).cell? ⟨w.heap.size + 1 + 1, k, none⟩ = tabR[k]? := by
  have : (eachWorld w).heap[w.heap.size + 1 + 1]? = some (Obj.cells tabR 4) := by rw [each_heap, Array.getElem?_push, if_pos (by simp)]
  simp [World.cell?, this]

set_option maxHeartbeats 2000000 in
theorem linesEach_in (k : Nat) (w : World) (hk : k < 9) : Calls Try.prog 7 #[.int .i64 k] w fun e w' => e = .returned (.bool true) ∧ Below w.heap.size w w' := by
  obtain ⟨t, ht, hm, hr, hts⟩ := tab_at k hk
  generalize hL : (spl t.data.toList).length = L at *
  generalize hR : rt t.data.toList = r at *
  have Hx := hidden (And.intro ht (And.intro hm hr))
  have HL := hidden hL
  have HR := hidden hR
  clear ht hm hr hL hR
  go_enter Try.func7, Try.ntmps7
  go_wp2_with fail
  refine (alive_any _).mono ?_
  rintro e w1 ⟨rfl, hb1⟩
  have Hb1 := hidden hb1
  clear hb1
  go_wp2_with fail
  have cT := (each_T w1 k).trans Hx.out.1
  have cN := (each_N w1 k).trans Hx.out.2.1
  have cR := (each_R w1 k).trans Hx.out.2.2
  have hbe := each_below w1
  have hze := each_size w1
  obtain ⟨W, hW⟩ : ∃ W, eachWorld w1 = W := ⟨_, rfl⟩
  rw [hW] at cT cN cR hbe hze
  unfold eachWorld tabT tabN tabR at hW
  rw [hW]
  have HbW : Hid (Below w.heap.size w W) := Hb1.out.trans (hbe.mono Hb1.out.size)
  have hzz : w1.heap.size + 1 + 1 < W.heap.size := by omega
  clear hW hbe hze
  generalize w1.heap.size = bb at *
  clear Hb1
  have hKeep : ∀ w1 w2 : World, (w1.cell? ⟨bb, k, none⟩ = some (.string t) ∧ w1.cell? ⟨bb + 1, k, none⟩ = some (.int .i64 L) ∧ w1.cell? ⟨bb + 1 + 1, k, none⟩ = some (.bool r) ∧ Hid (Below w.heap.size w w1)) → Below w1.heap.size w1 w2 → (w2.cell? ⟨bb, k, none⟩ = some (.string t) ∧ w2.cell? ⟨bb + 1, k, none⟩ = some (.int .i64 L) ∧ w2.cell? ⟨bb + 1 + 1, k, none⟩ = some (.bool r) ∧ Hid (Below w.heap.size w w2)) := fun w1 w2 h hb =>
    ⟨cell_later hb h.1, cell_later hb h.2.1, cell_later hb h.2.2.1, h.2.2.2.out.trans (hb.mono h.2.2.2.out.size)⟩
  have HKeep := hidden hKeep
  clear hKeep
  go_region_held3 (fun w' => w'.cell? ⟨bb, k, none⟩ = some (.string t) ∧ w'.cell? ⟨bb + 1, k, none⟩ = some (.int .i64 L) ∧ w'.cell? ⟨bb + 1 + 1, k, none⟩ = some (.bool r) ∧ Hid (Below w.heap.size w w')) (first | exact ⟨cT, cN, cR, HbW.out.drew⟩ | exact HKeep.out _ _ (by assumption) (by assumption) | go_keep) (first | (go_at_call 13; refine (split_len t _ L HL.out hts).mono ?_; rintro e w2 ⟨ao, cap, rfl, hb2⟩) | (go_at_call 10; refine (right_is t _ r HR.out hts).mono ?_; rintro e w3 ⟨rfl, rfl⟩))
  go_wp2
  go_ret
  rename_i hHeld
  exact ⟨rfl, hHeld.2.2.2.out⟩

theorem linesEach_any (i : Int) (w : World) : Calls Try.prog 7 #[.int .i64 i] w fun e w' => e = .returned (.bool true) ∧ Below w.heap.size w w' := by
  by_cases h : i < 0 ∨ 9 ≤ i
  · exact linesEach_out i w h
  · obtain ⟨k, rfl⟩ := Int.eq_ofNat_of_zero_le (show 0 ≤ i by omega)
    exact linesEach_in k w (by omega)

end Go.Proofs.Ytmmgppaefofehaa
