/-
  The law GlobEach, called with any number, returns true, and nothing of what was in memory has turned; no condition.
-/
import Derived.Test.YthjhihpbilaifaaGAlive
import Derived.Deep.RegionHeld3
namespace Go.Proofs.Ythjhihpbilaifaa
open Go.RowKit Go.Proofs.Ythjhihpbilaifaa.Gl

set_option maxHeartbeats 1000000 in
theorem globEach_out (i : Int) (w : World) (hout : i < 0 ∨ 29 ≤ i) : Calls Try.prog 6 #[.int .i64 i] w fun e w' => e = .returned (.bool true) ∧ Below w.heap.size w w' := by
  rcases hout with h | h
  all_goals
    go_enter Try.func6, Try.ntmps6
    go_wp2_with fail
    refine (alive_any _).mono ?_
    rintro e w1 ⟨rfl, hb1⟩
    have Hb1 := hidden hb1
    clear hb1
    go_wp2_with fail
    go_ret
    exact ⟨rfl, ((Hb1.out.alloc Hb1.out.size _).alloc (by have := Hb1.out.size; simp; omega) _).alloc (by have := Hb1.out.size; simp; omega) _⟩

/-- the memory behind the law's three tables -/
def tabP : Array Value := #[Value.string { data := #[] }, Value.string { data := #[42] }, Value.string { data := #[42] }, Value.string { data := #[63] }, Value.string { data := #[63] }, Value.string { data := #[97, 42, 98] }, Value.string { data := #[97, 42, 98] }, Value.string { data := #[91, 97, 98, 99, 93] }, Value.string { data := #[91, 97, 45, 99, 93, 120] }, Value.string { data := #[91, 93, 97, 93] }, Value.string { data := #[91, 33, 93, 97, 93] }, Value.string { data := #[91, 94, 97, 93] }, Value.string { data := #[91, 97, 45, 93] }, Value.string { data := #[91, 45, 97, 93] }, Value.string { data := #[91, 91, 58, 100, 105, 103, 105, 116, 58, 93, 93] }, Value.string { data := #[91, 91, 58, 100, 105, 103, 105, 116, 58, 93, 120, 45, 122, 93] }, Value.string { data := #[91, 91, 58, 102, 111, 111, 58, 93, 93] }, Value.string { data := #[91] }, Value.string { data := #[91, 97] }, Value.string { data := #[97, 91] }, Value.string { data := #[92, 42] }, Value.string { data := #[92] }, Value.string { data := #[42, 47, 42] }, Value.string { data := #[42, 42] }, Value.string { data := #[91, 33, 97, 93] }, Value.string { data := #[91, 99, 45, 97, 93] }, Value.string { data := #[91, 92, 93, 93] }, Value.string { data := #[91, 91, 58, 117, 112, 112, 101, 114, 58, 93, 91, 58, 115, 112, 97, 99, 101, 58, 93, 93] }, Value.string { data := #[97, 92] }]
def tabN : Array Value := #[Value.string { data := #[] }, Value.string { data := #[] }, Value.string { data := #[47] }, Value.string { data := #[] }, Value.string { data := #[120] }, Value.string { data := #[97, 98] }, Value.string { data := #[97, 47, 98] }, Value.string { data := #[98] }, Value.string { data := #[98, 120] }, Value.string { data := #[93] }, Value.string { data := #[93] }, Value.string { data := #[98] }, Value.string { data := #[45] }, Value.string { data := #[45] }, Value.string { data := #[55] }, Value.string { data := #[121] }, Value.string { data := #[58, 93] }, Value.string { data := #[91] }, Value.string { data := #[91, 97] }, Value.string { data := #[97, 91] }, Value.string { data := #[42] }, Value.string { data := #[92] }, Value.string { data := #[97, 47, 98] }, Value.string { data := #[97, 98] }, Value.string { data := #[47] }, Value.string { data := #[98] }, Value.string { data := #[93] }, Value.string { data := #[9] }, Value.string { data := #[97, 92] }]
def tabW : Array Value := #[Value.bool true, Value.bool true, Value.bool false, Value.bool false, Value.bool true, Value.bool true, Value.bool false, Value.bool true, Value.bool true, Value.bool true, Value.bool false, Value.bool true, Value.bool true, Value.bool true, Value.bool true, Value.bool true, Value.bool true, Value.bool true, Value.bool true, Value.bool true, Value.bool true, Value.bool true, Value.bool true, Value.bool true, Value.bool false, Value.bool false, Value.bool true, Value.bool true, Value.bool true]
def eachWorld (w : World) : World := ((w.alloc (Obj.cells tabP 9)).alloc (Obj.cells tabN 9)).alloc (Obj.cells tabW 4)

theorem tab_at (k : Nat) (hk : k < 29) : ∃ (p s : Tx) (r : Bool), tabP[k]? = some (.string ⟨p.toArray⟩) ∧ tabN[k]? = some (.string ⟨s.toArray⟩) ∧ tabW[k]? = some (.bool r) ∧ hits p s = r ∧ p.length ≤ 1000000 ∧ s.length ≤ 1000000 := by
  match k, hk with
  | 0, _ => exact ⟨[], [], true, rfl, rfl, rfl, by decide +kernel, by decide, by decide⟩
  | 1, _ => exact ⟨[42], [], true, rfl, rfl, rfl, by decide +kernel, by decide, by decide⟩
  | 2, _ => exact ⟨[42], [47], false, rfl, rfl, rfl, by decide +kernel, by decide, by decide⟩
  | 3, _ => exact ⟨[63], [], false, rfl, rfl, rfl, by decide +kernel, by decide, by decide⟩
  | 4, _ => exact ⟨[63], [120], true, rfl, rfl, rfl, by decide +kernel, by decide, by decide⟩
  | 5, _ => exact ⟨[97, 42, 98], [97, 98], true, rfl, rfl, rfl, by decide +kernel, by decide, by decide⟩
  | 6, _ => exact ⟨[97, 42, 98], [97, 47, 98], false, rfl, rfl, rfl, by decide +kernel, by decide, by decide⟩
  | 7, _ => exact ⟨[91, 97, 98, 99, 93], [98], true, rfl, rfl, rfl, by decide +kernel, by decide, by decide⟩
  | 8, _ => exact ⟨[91, 97, 45, 99, 93, 120], [98, 120], true, rfl, rfl, rfl, by decide +kernel, by decide, by decide⟩
  | 9, _ => exact ⟨[91, 93, 97, 93], [93], true, rfl, rfl, rfl, by decide +kernel, by decide, by decide⟩
  | 10, _ => exact ⟨[91, 33, 93, 97, 93], [93], false, rfl, rfl, rfl, by decide +kernel, by decide, by decide⟩
  | 11, _ => exact ⟨[91, 94, 97, 93], [98], true, rfl, rfl, rfl, by decide +kernel, by decide, by decide⟩
  | 12, _ => exact ⟨[91, 97, 45, 93], [45], true, rfl, rfl, rfl, by decide +kernel, by decide, by decide⟩
  | 13, _ => exact ⟨[91, 45, 97, 93], [45], true, rfl, rfl, rfl, by decide +kernel, by decide, by decide⟩
  | 14, _ => exact ⟨[91, 91, 58, 100, 105, 103, 105, 116, 58, 93, 93], [55], true, rfl, rfl, rfl, by decide +kernel, by decide, by decide⟩
  | 15, _ => exact ⟨[91, 91, 58, 100, 105, 103, 105, 116, 58, 93, 120, 45, 122, 93], [121], true, rfl, rfl, rfl, by decide +kernel, by decide, by decide⟩
  | 16, _ => exact ⟨[91, 91, 58, 102, 111, 111, 58, 93, 93], [58, 93], true, rfl, rfl, rfl, by decide +kernel, by decide, by decide⟩
  | 17, _ => exact ⟨[91], [91], true, rfl, rfl, rfl, by decide +kernel, by decide, by decide⟩
  | 18, _ => exact ⟨[91, 97], [91, 97], true, rfl, rfl, rfl, by decide +kernel, by decide, by decide⟩
  | 19, _ => exact ⟨[97, 91], [97, 91], true, rfl, rfl, rfl, by decide +kernel, by decide, by decide⟩
  | 20, _ => exact ⟨[92, 42], [42], true, rfl, rfl, rfl, by decide +kernel, by decide, by decide⟩
  | 21, _ => exact ⟨[92], [92], true, rfl, rfl, rfl, by decide +kernel, by decide, by decide⟩
  | 22, _ => exact ⟨[42, 47, 42], [97, 47, 98], true, rfl, rfl, rfl, by decide +kernel, by decide, by decide⟩
  | 23, _ => exact ⟨[42, 42], [97, 98], true, rfl, rfl, rfl, by decide +kernel, by decide, by decide⟩
  | 24, _ => exact ⟨[91, 33, 97, 93], [47], false, rfl, rfl, rfl, by decide +kernel, by decide, by decide⟩
  | 25, _ => exact ⟨[91, 99, 45, 97, 93], [98], false, rfl, rfl, rfl, by decide +kernel, by decide, by decide⟩
  | 26, _ => exact ⟨[91, 92, 93, 93], [93], true, rfl, rfl, rfl, by decide +kernel, by decide, by decide⟩
  | 27, _ => exact ⟨[91, 91, 58, 117, 112, 112, 101, 114, 58, 93, 91, 58, 115, 112, 97, 99, 101, 58, 93, 93], [9], true, rfl, rfl, rfl, by decide +kernel, by decide, by decide⟩
  | 28, _ => exact ⟨[97, 92], [97, 92], true, rfl, rfl, rfl, by decide +kernel, by decide, by decide⟩
  | n + 29, h => exact absurd h (by omega)

theorem each_heap (w : World) : (eachWorld w).heap = ((w.heap.push (Obj.cells tabP 9)).push (Obj.cells tabN 9)).push (Obj.cells tabW 4) := rfl
theorem each_size (w : World) : (eachWorld w).heap.size = w.heap.size + 3 := by rw [each_heap]; simp
theorem each_below (w : World) : Below w.heap.size w (eachWorld w) :=
  (((Below.refl _ w).alloc (Nat.le_refl _) _).alloc (by simp) _).alloc (by simp; omega) _
theorem each_P (w : World) (k : Nat) : (eachWorld w).cell? ⟨w.heap.size, k, none⟩ = tabP[k]? := by
  have : (eachWorld w).heap[w.heap.size]? = some (Obj.cells tabP 9) := by
    rw [each_heap, Array.getElem?_push, if_neg (by simp <;> omega), Array.getElem?_push, if_neg (by simp), Array.getElem?_push, if_pos rfl]
  simp [World.cell?, this]
theorem each_N (w : World) (k : Nat) : (eachWorld w).cell? ⟨w.heap.size + 1, k, none⟩ = tabN[k]? := by
  have : (eachWorld w).heap[w.heap.size + 1]? = some (Obj.cells tabN 9) := by
    rw [each_heap, Array.getElem?_push, if_neg (by simp), Array.getElem?_push, if_pos (by simp)]
  simp [World.cell?, this]
theorem each_W (w : World) (k : Nat) : (eachWorld w).cell? ⟨w.heap.size + 1 + 1, k, none⟩ = tabW[k]? := by
  have : (eachWorld w).heap[w.heap.size + 1 + 1]? = some (Obj.cells tabW 4) := by
    rw [each_heap, Array.getElem?_push, if_pos (by simp)]
  simp [World.cell?, this]

set_option maxHeartbeats 4000000 in
theorem globEach_in (k : Nat) (w : World) (hk : k < 29) : Calls Try.prog 6 #[.int .i64 k] w fun e w' => e = .returned (.bool true) ∧ Below w.heap.size w w' := by
  obtain ⟨t, x, r, ht, hm, hr, hh, hlt, hlx⟩ := tab_at k hk
  have Hx := hidden (And.intro ht (And.intro hm hr))
  have HH := hidden hh
  clear ht hm hr hh
  go_enter Try.func6, Try.ntmps6
  go_wp2_with fail
  refine (alive_any _).mono ?_
  rintro e w1 ⟨rfl, hb1⟩
  have Hb1 := hidden hb1
  clear hb1
  go_wp2_with fail
  have cP := (each_P w1 k).trans Hx.out.1
  have cN := (each_N w1 k).trans Hx.out.2.1
  have cW := (each_W w1 k).trans Hx.out.2.2
  have hbe := each_below w1
  have hze := each_size w1
  obtain ⟨W, hW⟩ : ∃ W, eachWorld w1 = W := ⟨_, rfl⟩
  rw [hW] at cP cN cW hbe hze
  unfold eachWorld tabP tabN tabW at hW
  rw [hW]
  have HbW : Hid (Below w.heap.size w W) := Hb1.out.trans (hbe.mono Hb1.out.size)
  have hzz : w1.heap.size + 1 + 1 < W.heap.size := by omega
  clear hW hbe hze
  generalize w1.heap.size = bb at *
  clear Hb1
  have hKeep : ∀ w1 w2 : World, (w1.cell? ⟨bb, k, none⟩ = some (.string ⟨t.toArray⟩) ∧ w1.cell? ⟨bb + 1, k, none⟩ = some (.string ⟨x.toArray⟩) ∧ w1.cell? ⟨bb + 1 + 1, k, none⟩ = some (.bool r) ∧ Hid (Below w.heap.size w w1)) → Below w1.heap.size w1 w2 → (w2.cell? ⟨bb, k, none⟩ = some (.string ⟨t.toArray⟩) ∧ w2.cell? ⟨bb + 1, k, none⟩ = some (.string ⟨x.toArray⟩) ∧ w2.cell? ⟨bb + 1 + 1, k, none⟩ = some (.bool r) ∧ Hid (Below w.heap.size w w2)) := fun w1 w2 h hb =>
    ⟨cell_later hb h.1, cell_later hb h.2.1, cell_later hb h.2.2.1, h.2.2.2.out.trans (hb.mono h.2.2.2.out.size)⟩
  have HKeep := hidden hKeep
  clear hKeep
  go_region_held3 (fun w' => w'.cell? ⟨bb, k, none⟩ = some (.string ⟨t.toArray⟩) ∧ w'.cell? ⟨bb + 1, k, none⟩ = some (.string ⟨x.toArray⟩) ∧ w'.cell? ⟨bb + 1 + 1, k, none⟩ = some (.bool r) ∧ Hid (Below w.heap.size w w')) (first | exact ⟨cP, cN, cW, HbW.out.drew⟩ | exact HKeep.out _ _ (by assumption) (by assumption) | go_keep) (first | (go_at_call 10; refine (match_is t x r _ HH.out hlt hlx).mono ?_; rintro e w2 ⟨rfl, hb2⟩))
  all_goals
    rename_i hHeld
    have HHeld := hidden hHeld
    clear hHeld
    go_wp2
    go_ret
    exact ⟨by simp, HHeld.out.2.2.2.out⟩

theorem globEach_any (i : Int) (w : World) : Calls Try.prog 6 #[.int .i64 i] w fun e w' => e = .returned (.bool true) ∧ Below w.heap.size w w' := by
  by_cases h : i < 0 ∨ 29 ≤ i
  · exact globEach_out i w h
  · obtain ⟨k, rfl⟩ := Int.eq_ofNat_of_zero_le (show 0 ≤ i by omega)
    exact globEach_in k w (by omega)

end Go.Proofs.Ythjhihpbilaifaa
