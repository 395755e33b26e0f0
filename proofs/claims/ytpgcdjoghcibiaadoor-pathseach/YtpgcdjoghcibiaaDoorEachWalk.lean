/-
  The law PathsEach, called with any number, returns true, and nothing of what was in memory has turned; condition: a cell of the library's holds an int.
-/
import Derived.Test.YtpgcdjoghcibiaaDoorAlive
import Derived.Deep.RegionHeld3
namespace Go.Proofs.YtpgcdjoghcibiaaDoor
open Go.RowKit Go.Proofs.YtpgcdjoghcibiaaDoor.Nm

set_option maxHeartbeats 1000000 in
theorem pathsEach_out (i : Int) (w : World) (he : Env w) (hout : i < 0 ∨ 14 ≤ i) : Calls Tryd.prog 6 #[.int .i64 i] w fun e w' => e = .returned (.bool true) ∧ Below w.heap.size w w' := by
  rcases hout with h | h
  all_goals
    go_enter Tryd.func6, Tryd.ntmps6
    go_wp2_with fail
    refine (alive_any _ he).mono ?_
    rintro e w1 ⟨rfl, hb1⟩
    have Hb1 := hidden hb1
    clear hb1
    go_wp2_with fail
    go_ret
    exact ⟨rfl, ((((Hb1.out.alloc Hb1.out.size _).alloc (by have := Hb1.out.size; simp; omega) _).alloc (by have := Hb1.out.size; simp; omega) _).alloc (by have := Hb1.out.size; simp; omega) _)⟩

/-- the memory behind the law's four tables -/
def tabT : Array Value := #[Value.string { data := #[97, 47, 98, 47, 99] }, Value.string { data := #[97, 47, 98, 47, 99] }, Value.string { data := #[97, 47, 98, 47, 99] }, Value.string { data := #[97, 47, 98, 47, 99] }, Value.string { data := #[97, 47, 98, 47, 99] }, Value.string { data := #[47, 97, 47, 98] }, Value.string { data := #[47, 97, 47, 98] }, Value.string { data := #[97, 47, 47, 98] }, Value.string { data := #[97, 47] }, Value.string { data := #[97, 47] }, Value.string { data := #[47] }, Value.string { data := #[] }, Value.string { data := #[47, 47, 97] }, Value.string { data := #[97, 47, 98, 47, 47, 99] }]
def tabN : Array Value := #[Value.int IntKind.i64 0, Value.int IntKind.i64 1, Value.int IntKind.i64 2, Value.int IntKind.i64 3, Value.int IntKind.i64 (-1), Value.int IntKind.i64 1, Value.int IntKind.i64 2, Value.int IntKind.i64 1, Value.int IntKind.i64 1, Value.int IntKind.i64 2, Value.int IntKind.i64 1, Value.int IntKind.i64 1, Value.int IntKind.i64 1, Value.int IntKind.i64 2]
def tabX : Array Value := #[Value.string { data := #[97, 47, 98, 47, 99] }, Value.string { data := #[98, 47, 99] }, Value.string { data := #[99] }, Value.string { data := #[99] }, Value.string { data := #[97, 47, 98, 47, 99] }, Value.string { data := #[97, 47, 98] }, Value.string { data := #[98] }, Value.string { data := #[98] }, Value.string { data := #[] }, Value.string { data := #[] }, Value.string { data := #[] }, Value.string { data := #[] }, Value.string { data := #[97] }, Value.string { data := #[99] }]
def tabY : Array Value := #[Value.string { data := #[99] }, Value.string { data := #[99] }, Value.string { data := #[99] }, Value.string { data := #[99] }, Value.string { data := #[99] }, Value.string { data := #[98] }, Value.string { data := #[98] }, Value.string { data := #[98] }, Value.string { data := #[97] }, Value.string { data := #[97] }, Value.string { data := #[] }, Value.string { data := #[] }, Value.string { data := #[97] }, Value.string { data := #[99] }]
def eachWorld (w : World) : World := (((w.alloc (Obj.cells tabT 9)).alloc (Obj.cells tabN 3)).alloc (Obj.cells tabX 9)).alloc (Obj.cells tabY 9)

theorem tab_at (k : Nat) (hk : k < 14) : ∃ (t : ByteArray) (n : Int), tabT[k]? = some (.string t) ∧ tabN[k]? = some (.int .i64 n) ∧ tabX[k]? = some (S (strip n.toNat t.data.toList)) ∧ tabY[k]? = some (S (base t.data.toList)) ∧ t.size ≤ 1048576 ∧ n ≤ 9223372036854775807 := by
  match k, hk with
  | 0, _ => exact ⟨_, _, rfl, rfl, rfl, rfl, by decide, by decide⟩
  | 1, _ => exact ⟨_, _, rfl, rfl, rfl, rfl, by decide, by decide⟩
  | 2, _ => exact ⟨_, _, rfl, rfl, rfl, rfl, by decide, by decide⟩
  | 3, _ => exact ⟨_, _, rfl, rfl, rfl, rfl, by decide, by decide⟩
  | 4, _ => exact ⟨_, _, rfl, rfl, rfl, rfl, by decide, by decide⟩
  | 5, _ => exact ⟨_, _, rfl, rfl, rfl, rfl, by decide, by decide⟩
  | 6, _ => exact ⟨_, _, rfl, rfl, rfl, rfl, by decide, by decide⟩
  | 7, _ => exact ⟨_, _, rfl, rfl, rfl, rfl, by decide, by decide⟩
  | 8, _ => exact ⟨_, _, rfl, rfl, rfl, rfl, by decide, by decide⟩
  | 9, _ => exact ⟨_, _, rfl, rfl, rfl, rfl, by decide, by decide⟩
  | 10, _ => exact ⟨_, _, rfl, rfl, rfl, rfl, by decide, by decide⟩
  | 11, _ => exact ⟨_, _, rfl, rfl, rfl, rfl, by decide, by decide⟩
  | 12, _ => exact ⟨_, _, rfl, rfl, rfl, rfl, by decide, by decide⟩
  | 13, _ => exact ⟨_, _, rfl, rfl, rfl, rfl, by decide, by decide⟩

theorem strip_is (t : ByteArray) (n : Int) (w : World) (x : List UInt8) (hx : strip n.toNat t.data.toList = x) (hs : t.size ≤ 1048576) (hn : n ≤ 9223372036854775807) :
    Calls Tryd.prog 8 #[.string t, .int .i64 n] w fun e w' => e = .returned (.string ⟨x.toArray⟩) ∧ Below w.heap.size w w' := by
  rw [← hx]; exact strip_any t n w hs hn
theorem base_is (t : ByteArray) (w : World) (y : List UInt8) (hy : base t.data.toList = y) (hs : t.size ≤ 1048576) :
    Calls Tryd.prog 13 #[.string t] w fun e w' => e = .returned (.string ⟨y.toArray⟩) ∧ Below w.heap.size w w' := by
  rw [← hy]; exact base_any t w hs

theorem each_heap (w : World) : (eachWorld w).heap = (((w.heap.push (Obj.cells tabT 9)).push (Obj.cells tabN 3)).push (Obj.cells tabX 9)).push (Obj.cells tabY 9) := rfl
theorem each_size (w : World) : (eachWorld w).heap.size = w.heap.size + 4 := by rw [each_heap]; simp
theorem each_below (w : World) : Below w.heap.size w (eachWorld w) :=
  ((((Below.refl _ w).alloc (Nat.le_refl _) _).alloc (by simp) _).alloc (by simp; omega) _).alloc (by simp; omega) _
theorem each_T (w : World) (k : Nat) : (eachWorld w).cell? ⟨w.heap.size, k, none⟩ = tabT[k]? := by
  have : (eachWorld w).heap[w.heap.size]? = some (Obj.cells tabT 9) := by
    rw [each_heap, Array.getElem?_push, if_neg (by simp <;> omega), Array.getElem?_push, if_neg (by simp <;> omega), Array.getElem?_push, if_neg (by simp), Array.getElem?_push, if_pos rfl]
  simp [World.cell?, this]
theorem each_N (w : World) (k : Nat) : (eachWorld w).cell? ⟨w.heap.size + 1, k, none⟩ = tabN[k]? := by
  have : (eachWorld w).heap[w.heap.size + 1]? = some (Obj.cells tabN 3) := by
    rw [each_heap, Array.getElem?_push, if_neg (by simp <;> omega), Array.getElem?_push, if_neg (by simp), Array.getElem?_push, if_pos (by simp)]
  simp [World.cell?, this]
theorem each_X (w : World) (k : Nat) : (eachWorld w).cell? ⟨w.heap.size + 1 + 1, k, none⟩ = tabX[k]? := by
  have : (eachWorld w).heap[w.heap.size + 1 + 1]? = some (Obj.cells tabX 9) := by
    rw [each_heap, Array.getElem?_push, if_neg (by simp), Array.getElem?_push, if_pos (by simp)]
  simp [World.cell?, this]
theorem each_Y (w : World) (k : Nat) : (eachWorld w).cell? ⟨w.heap.size + 1 + 1 + 1, k, none⟩ = tabY[k]? := by
  have : (eachWorld w).heap[w.heap.size + 1 + 1 + 1]? = some (Obj.cells tabY 9) := by rw [each_heap, Array.getElem?_push, if_pos (by simp)]
  simp [World.cell?, this]

set_option maxHeartbeats 4000000 in
theorem pathsEach_in (k : Nat) (w : World) (he : Env w) (hk : k < 14) : Calls Tryd.prog 6 #[.int .i64 k] w fun e w' => e = .returned (.bool true) ∧ Below w.heap.size w w' := by
  obtain ⟨t, n, ht, hm, hr, hq, hts, hn⟩ := tab_at k hk
  generalize hX : strip n.toNat t.data.toList = x at *
  generalize hY : base t.data.toList = y at *
  have Hx := hidden (And.intro ht (And.intro hm (And.intro hr hq)))
  have HX := hidden hX
  have HY := hidden hY
  clear ht hm hr hq hX hY
  go_enter Tryd.func6, Tryd.ntmps6
  go_wp2_with fail
  refine (alive_any _ he).mono ?_
  rintro e w1 ⟨rfl, hb1⟩
  have Hb1 := hidden hb1
  clear hb1 he
  go_wp2_with fail
  have cT := (each_T w1 k).trans Hx.out.1
  have cN := (each_N w1 k).trans Hx.out.2.1
  have cX := (each_X w1 k).trans Hx.out.2.2.1
  have cY := (each_Y w1 k).trans Hx.out.2.2.2
  unfold S at cX cY
  have hbe := each_below w1
  have hze := each_size w1
  obtain ⟨W, hW⟩ : ∃ W, eachWorld w1 = W := ⟨_, rfl⟩
  rw [hW] at cT cN cX cY hbe hze
  unfold eachWorld tabT tabN tabX tabY at hW
  rw [hW]
  have HbW : Hid (Below w.heap.size w W) := Hb1.out.trans (hbe.mono Hb1.out.size)
  have hzz : w1.heap.size + 1 + 1 + 1 < W.heap.size := by omega
  clear hW hbe hze
  generalize w1.heap.size = bb at *
  clear Hb1
  have hKeep : ∀ w1 w2 : World, (w1.cell? ⟨bb, k, none⟩ = some (.string t) ∧ w1.cell? ⟨bb + 1, k, none⟩ = some (.int .i64 n) ∧ w1.cell? ⟨bb + 1 + 1, k, none⟩ = some (.string ⟨x.toArray⟩) ∧ w1.cell? ⟨bb + 1 + 1 + 1, k, none⟩ = some (.string ⟨y.toArray⟩) ∧ Hid (Below w.heap.size w w1)) → Below w1.heap.size w1 w2 → (w2.cell? ⟨bb, k, none⟩ = some (.string t) ∧ w2.cell? ⟨bb + 1, k, none⟩ = some (.int .i64 n) ∧ w2.cell? ⟨bb + 1 + 1, k, none⟩ = some (.string ⟨x.toArray⟩) ∧ w2.cell? ⟨bb + 1 + 1 + 1, k, none⟩ = some (.string ⟨y.toArray⟩) ∧ Hid (Below w.heap.size w w2)) := fun w1 w2 h hb =>
    ⟨cell_later hb h.1, cell_later hb h.2.1, cell_later hb h.2.2.1, cell_later hb h.2.2.2.1, h.2.2.2.2.out.trans (hb.mono h.2.2.2.2.out.size)⟩
  have HKeep := hidden hKeep
  clear hKeep
  go_region_held3 (fun w' => w'.cell? ⟨bb, k, none⟩ = some (.string t) ∧ w'.cell? ⟨bb + 1, k, none⟩ = some (.int .i64 n) ∧ w'.cell? ⟨bb + 1 + 1, k, none⟩ = some (.string ⟨x.toArray⟩) ∧ w'.cell? ⟨bb + 1 + 1 + 1, k, none⟩ = some (.string ⟨y.toArray⟩) ∧ Hid (Below w.heap.size w w')) (first | exact ⟨cT, cN, cX, cY, HbW.out.drew⟩ | exact HKeep.out _ _ (by assumption) (by assumption) | go_keep) (first | (go_at_call 8; refine (strip_is t n _ x HX.out hts hn).mono ?_; rintro e w2 ⟨rfl, hb2⟩) | (go_at_call 13; refine (base_is t _ y HY.out hts).mono ?_; rintro e w3 ⟨rfl, hb3⟩))
  go_wp2
  go_ret
  rename_i hHeld
  exact ⟨rfl, hHeld.2.2.2.2.out⟩

theorem pathsEach_any (i : Int) (w : World) (he : Env w) : Calls Tryd.prog 6 #[.int .i64 i] w fun e w' => e = .returned (.bool true) ∧ Below w.heap.size w w' := by
  by_cases h : i < 0 ∨ 14 ≤ i
  · exact pathsEach_out i w he h
  · obtain ⟨k, rfl⟩ := Int.eq_ofNat_of_zero_le (show 0 ≤ i by omega)
    exact pathsEach_in k w he (by omega)

end Go.Proofs.YtpgcdjoghcibiaaDoor
