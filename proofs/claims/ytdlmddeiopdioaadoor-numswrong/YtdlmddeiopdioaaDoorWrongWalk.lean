/-
  The law NumsWrong, called with any number, returns true, and nothing of what was in memory has turned; condition: the library's own variables hold what their text lays.
-/
import Derived.Test.YtdlmddeiopdioaaDoorAlive
namespace Go.Proofs.YtdlmddeiopdioaaDoor
open Go.RowKit Go.Proofs.YtdlmddeiopdioaaDoor.Nm

/-- the law's two tables -/
def tabT : Array Value := #[Value.string { data := #[49] }, Value.string { data := #[] }, Value.string { data := #[48] }, Value.string { data := #[49, 45] }, Value.string { data := #[45, 49] }, Value.string { data := #[45] }, Value.string { data := #[49, 45, 50] }, Value.string { data := #[50, 45, 49] }, Value.string { data := #[50, 45, 50] }, Value.string { data := #[49, 44, 50] }, Value.string { data := #[49, 44] }, Value.string { data := #[44, 49] }, Value.string { data := #[49, 45, 45, 50] }, Value.string { data := #[32, 49] }, Value.string { data := #[49, 32] }, Value.string { data := #[48, 49, 45, 48, 50] }, Value.string { data := #[50, 49, 52, 55, 52, 56, 51, 54, 52, 56] }, Value.string { data := #[50, 49, 52, 55, 52, 56, 51, 54, 52, 57] }, Value.string { data := #[45, 48] }, Value.string { data := #[49, 45, 48] }, Value.string { data := #[97] }, Value.string { data := #[49, 45, 97] }, Value.string { data := #[45, 50, 45] }]
def tabB : Array Value := #[Value.bool true, Value.bool false, Value.bool false, Value.bool true, Value.bool true, Value.bool false, Value.bool true, Value.bool false, Value.bool true, Value.bool true, Value.bool false, Value.bool false, Value.bool false, Value.bool false, Value.bool false, Value.bool true, Value.bool true, Value.bool false, Value.bool false, Value.bool false, Value.bool false, Value.bool false, Value.bool false]
def wrongWorld (w : World) : World := (w.alloc (Obj.cells tabT 9)).alloc (Obj.cells tabB 4)

/-- its texts -/
def txts : List ByteArray := [⟨#[49]⟩, ⟨#[]⟩, ⟨#[48]⟩, ⟨#[49, 45]⟩, ⟨#[45, 49]⟩, ⟨#[45]⟩, ⟨#[49, 45, 50]⟩, ⟨#[50, 45, 49]⟩, ⟨#[50, 45, 50]⟩, ⟨#[49, 44, 50]⟩, ⟨#[49, 44]⟩, ⟨#[44, 49]⟩, ⟨#[49, 45, 45, 50]⟩, ⟨#[32, 49]⟩, ⟨#[49, 32]⟩, ⟨#[48, 49, 45, 48, 50]⟩, ⟨#[50, 49, 52, 55, 52, 56, 51, 54, 52, 56]⟩, ⟨#[50, 49, 52, 55, 52, 56, 51, 54, 52, 57]⟩, ⟨#[45, 48]⟩, ⟨#[49, 45, 48]⟩, ⟨#[97]⟩, ⟨#[49, 45, 97]⟩, ⟨#[45, 50, 45]⟩]
set_option maxRecDepth 100000 in
theorem txts_ok : txts.map (fun t => (ranges t.data.toList).isSome) = [true, false, false, true, true, false, true, false, true, true, false, false, false, false, false, true, true, false, false, false, false, false, false] := by decide
theorem txts_small : ∀ t, t ∈ txts → t.size ≤ 1048576 := by
  intro t ht
  have h : (txts.all fun t => decide (t.size ≤ 1048576)) = true := by decide
  simpa using List.all_eq_true.1 h t ht

theorem tab_at (k : Nat) (hk : k < 23) : ∃ (t : ByteArray), tabT[k]? = some (.string t) ∧ tabB[k]? = some (.bool (ranges t.data.toList).isSome) ∧ t.size ≤ 1048576 := by
  obtain ⟨t, ht⟩ : ∃ t, txts[k]? = some t := ⟨txts[k]'hk, List.getElem?_eq_getElem _⟩
  refine ⟨t, ?_, ?_, txts_small t (List.mem_of_getElem? ht)⟩
  · rw [show tabT = (txts.map Value.string).toArray from rfl, List.getElem?_toArray, List.getElem?_map, ht]; rfl
  · rw [show tabB = ((txts.map fun t => (ranges t.data.toList).isSome).map Value.bool).toArray by rw [txts_ok]; rfl, List.getElem?_toArray, List.getElem?_map, List.getElem?_map, ht]; rfl

theorem wrong_heap (w : World) : (wrongWorld w).heap = (w.heap.push (Obj.cells tabT 9)).push (Obj.cells tabB 4) := rfl
theorem wrong_size (w : World) : (wrongWorld w).heap.size = w.heap.size + 2 := by rw [wrong_heap]; simp
theorem wrong_below (w : World) : Below w.heap.size w (wrongWorld w) := ((Below.refl _ w).alloc (Nat.le_refl _) _).alloc (by simp) _
theorem wrong_T (w : World) (k : Nat) : (wrongWorld w).cell? ⟨w.heap.size, k, none⟩ = tabT[k]? := by
  have : (wrongWorld w).heap[w.heap.size]? = some (Obj.cells tabT 9) := by rw [wrong_heap, Array.getElem?_push, if_neg (by simp), Array.getElem?_push, if_pos rfl]
  simp [World.cell?, this]
theorem wrong_B (w : World) (k : Nat) : (wrongWorld w).cell? ⟨w.heap.size + 1, k, none⟩ = tabB[k]? := by
  have : (wrongWorld w).heap[w.heap.size + 1]? = some (Obj.cells tabB 4) := by rw [wrong_heap, Array.getElem?_push, if_pos (by simp)]
  simp [World.cell?, this]

set_option maxHeartbeats 1000000 in
theorem numsWrong_out (i : Int) (w : World) (he : Env w) (hout : i < 0 ∨ 23 ≤ i) : Calls Tryd.prog 6 #[.int .i64 i] w fun e w' => e = .returned (.bool true) ∧ Below w.heap.size w w' := by
  have HE := hidden he
  clear he
  rcases hout with h | h
  all_goals
    go_enter Tryd.func6, Tryd.ntmps6
    go_wp2_with fail
    refine (alive_any _ HE.out).mono ?_
    rintro e w1 ⟨rfl, hb1⟩
    have Hb1 := hidden hb1
    clear hb1
    go_wp2_with fail
    go_ret
    exact ⟨rfl, ((Hb1.out.alloc Hb1.out.size _).alloc (by have := Hb1.out.size; simp; omega) _)⟩

set_option maxHeartbeats 2000000 in
theorem numsWrong_in (k : Nat) (w : World) (he : Env w) (hk : k < 23) : Calls Tryd.prog 6 #[.int .i64 k] w fun e w' => e = .returned (.bool true) ∧ Below w.heap.size w w' := by
  obtain ⟨t, ht, hm, hts⟩ := tab_at k hk
  have HE := hidden he
  clear he
  generalize hR : (ranges t.data.toList).isSome = r at *
  have Hx := hidden (And.intro ht hm)
  have HR := hidden hR
  clear ht hm hR
  go_enter Tryd.func6, Tryd.ntmps6
  go_wp2_with fail
  refine (alive_any _ HE.out).mono ?_
  rintro e w1 ⟨rfl, hb1⟩
  have Hb1 := hidden hb1
  have cT := (wrong_T w1 k).trans Hx.out.1
  have cB := (wrong_B w1 k).trans Hx.out.2
  have hbe := wrong_below w1
  have hze := wrong_size w1
  have HE1 := hidden ((HE.out.on hb1).on hbe)
  clear hb1
  obtain ⟨W, hW⟩ : ∃ W, wrongWorld w1 = W := ⟨_, rfl⟩
  rw [hW] at cT cB hbe hze HE1
  unfold wrongWorld tabT tabB at hW
  have HW := hidden hW
  have HBW := hidden (Hb1.out.trans (hbe.mono Hb1.out.size))
  have Hc := hidden (And.intro cT (And.intro cB (And.intro hbe hze)))
  clear hW cT cB hbe hze
  have eT : ∀ h, ([Value.string { data := #[49] }, Value.string { data := #[] }, Value.string { data := #[48] }, Value.string { data := #[49, 45] }, Value.string { data := #[45, 49] }, Value.string { data := #[45] }, Value.string { data := #[49, 45, 50] }, Value.string { data := #[50, 45, 49] }, Value.string { data := #[50, 45, 50] }, Value.string { data := #[49, 44, 50] }, Value.string { data := #[49, 44] }, Value.string { data := #[44, 49] }, Value.string { data := #[49, 45, 45, 50] }, Value.string { data := #[32, 49] }, Value.string { data := #[49, 32] }, Value.string { data := #[48, 49, 45, 48, 50] }, Value.string { data := #[50, 49, 52, 55, 52, 56, 51, 54, 52, 56] }, Value.string { data := #[50, 49, 52, 55, 52, 56, 51, 54, 52, 57] }, Value.string { data := #[45, 48] }, Value.string { data := #[49, 45, 48] }, Value.string { data := #[97] }, Value.string { data := #[49, 45, 97] }, Value.string { data := #[45, 50, 45] }] : List Value)[k]'h = .string t := fun h => by
    have e := Hx.out.1
    rw [show tabT = ([Value.string { data := #[49] }, Value.string { data := #[] }, Value.string { data := #[48] }, Value.string { data := #[49, 45] }, Value.string { data := #[45, 49] }, Value.string { data := #[45] }, Value.string { data := #[49, 45, 50] }, Value.string { data := #[50, 45, 49] }, Value.string { data := #[50, 45, 50] }, Value.string { data := #[49, 44, 50] }, Value.string { data := #[49, 44] }, Value.string { data := #[44, 49] }, Value.string { data := #[49, 45, 45, 50] }, Value.string { data := #[32, 49] }, Value.string { data := #[49, 32] }, Value.string { data := #[48, 49, 45, 48, 50] }, Value.string { data := #[50, 49, 52, 55, 52, 56, 51, 54, 52, 56] }, Value.string { data := #[50, 49, 52, 55, 52, 56, 51, 54, 52, 57] }, Value.string { data := #[45, 48] }, Value.string { data := #[49, 45, 48] }, Value.string { data := #[97] }, Value.string { data := #[49, 45, 97] }, Value.string { data := #[45, 50, 45] }] : List Value).toArray from rfl, List.getElem?_toArray, List.getElem?_eq_getElem h] at e
    exact Option.some.inj e
  have HT := hidden eT
  clear eT
  go_wp2_with fail
  rw [HW.out]
  simp only [HT.out]
  have HZ := hidden Hc.out.2.2.2
  generalize w1.heap.size = bb at *
  refine (ranges_any t _ HE1.out hts).mono ?_
  rintro e w2 ⟨u, rfl, hr, hb2⟩
  rw [HR.out]
  have hcell : w2.cell? ⟨bb + 1, k, none⟩ = some (.bool r) := (hb2.cell (p := ⟨bb + 1, k, none⟩) (by have := HZ.out; show bb + 1 < _; omega)).trans Hc.out.2.1
  have HB := hidden (HBW.out.trans (hb2.mono HBW.out.size))
  clear hr hb2
  go_wp2_with fail
  go_ret
  exact ⟨ret_bool (by simp), HB.out⟩

theorem numsWrong_any (i : Int) (w : World) (he : Env w) : Calls Tryd.prog 6 #[.int .i64 i] w fun e w' => e = .returned (.bool true) ∧ Below w.heap.size w w' := by
  by_cases h : i < 0 ∨ 23 ≤ i
  · exact numsWrong_out i w he h
  · obtain ⟨k, rfl⟩ := Int.eq_ofNat_of_zero_le (show 0 ≤ i by omega)
    exact numsWrong_in k w he (by omega)

end Go.Proofs.YtdlmddeiopdioaaDoor
