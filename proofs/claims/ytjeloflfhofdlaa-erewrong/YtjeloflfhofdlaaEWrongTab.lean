/-
  The tables of the law EreWrong, and that the reading of each text comes out as they say; no conditions.
-/
import Derived.Test.YtjeloflfhofdlaaEAlive
namespace Go.Proofs.Ytjeloflfhofdlaa
open Go.RowKit Go.Proofs.Ytjeloflfhofdlaa.Gl

/-- where and why -/
def codeR : Rs Nd → Int × Int
  | .ok _ _ => (-1, 0)
  | .er m c => (m, c)
def tabL : Array Value := #[Value.string { data := #[] }, Value.string { data := #[97] }, Value.string { data := #[41] }, Value.string { data := #[40] }, Value.string { data := #[40, 41] }, Value.string { data := #[40, 97] }, Value.string { data := #[97, 41] }, Value.string { data := #[42] }, Value.string { data := #[97, 42] }, Value.string { data := #[97, 42, 42] }, Value.string { data := #[40, 42, 41] }, Value.string { data := #[124] }, Value.string { data := #[97, 124] }, Value.string { data := #[91] }, Value.string { data := #[91, 93] }, Value.string { data := #[91, 93, 93] }, Value.string { data := #[91, 94, 93, 93] }, Value.string { data := #[91, 97] }, Value.string { data := #[97, 123] }, Value.string { data := #[97, 123, 49] }, Value.string { data := #[97, 123, 49, 125] }, Value.string { data := #[97, 123, 44, 50, 125] }, Value.string { data := #[97, 123, 50, 44, 49, 125] }, Value.string { data := #[97, 123, 50, 48, 49, 125] }, Value.string { data := #[97, 123, 48, 48, 48, 49, 125] }, Value.string { data := #[97, 123, 49, 44, 125] }, Value.string { data := #[92] }, Value.string { data := #[92, 40] }, Value.string { data := #[123] }, Value.string { data := #[97, 124, 42] }, Value.string { data := #[93] }, Value.string { data := #[125] }, Value.string { data := #[94, 42] }, Value.string { data := #[36, 94] }, Value.string { data := #[91, 91, 58, 97, 108, 112, 104, 97, 58, 93] }, Value.string { data := #[91, 91, 58, 97, 108, 112, 104, 97, 58, 93, 93] }, Value.string { data := #[91, 122, 45, 97, 93] }, Value.string { data := #[40, 40, 40, 40, 40, 40, 40, 40, 40, 40, 40, 40, 40, 40, 40, 40, 40, 40, 40, 40, 40, 40, 40, 40, 40, 40, 40, 40, 40, 40, 97, 41, 41, 41, 41, 41, 41, 41, 41, 41, 41, 41, 41, 41, 41, 41, 41, 41, 41, 41, 41, 41, 41, 41, 41, 41, 41, 41, 41, 41, 41] }, Value.string { data := #[40, 40, 40, 40, 40, 40, 40, 40, 40, 40, 40, 40, 40, 40, 40, 40, 40, 40, 40, 40, 40, 40, 40, 40, 40, 40, 40, 40, 40, 40, 40, 97, 41, 41, 41, 41, 41, 41, 41, 41, 41, 41, 41, 41, 41, 41, 41, 41, 41, 41, 41, 41, 41, 41, 41, 41, 41, 41, 41, 41, 41, 41, 41] }, Value.string { data := #[40, 97, 123, 50, 48, 48, 125, 41, 123, 50, 48, 48, 125] }, Value.string { data := #[40, 97, 123, 49, 48, 48, 125, 41, 123, 49, 48, 48, 125] }]
def tabA : Array Value := #[Value.int IntKind.i64 (-1), Value.int IntKind.i64 (-1), Value.int IntKind.i64 0, Value.int IntKind.i64 1, Value.int IntKind.i64 (-1), Value.int IntKind.i64 2, Value.int IntKind.i64 1, Value.int IntKind.i64 0, Value.int IntKind.i64 (-1), Value.int IntKind.i64 (-1), Value.int IntKind.i64 1, Value.int IntKind.i64 (-1), Value.int IntKind.i64 (-1), Value.int IntKind.i64 0, Value.int IntKind.i64 0, Value.int IntKind.i64 (-1), Value.int IntKind.i64 (-1), Value.int IntKind.i64 0, Value.int IntKind.i64 1, Value.int IntKind.i64 1, Value.int IntKind.i64 (-1), Value.int IntKind.i64 1, Value.int IntKind.i64 1, Value.int IntKind.i64 1, Value.int IntKind.i64 1, Value.int IntKind.i64 (-1), Value.int IntKind.i64 1, Value.int IntKind.i64 (-1), Value.int IntKind.i64 0, Value.int IntKind.i64 2, Value.int IntKind.i64 (-1), Value.int IntKind.i64 (-1), Value.int IntKind.i64 (-1), Value.int IntKind.i64 (-1), Value.int IntKind.i64 0, Value.int IntKind.i64 (-1), Value.int IntKind.i64 (-1), Value.int IntKind.i64 (-1), Value.int IntKind.i64 30, Value.int IntKind.i64 0, Value.int IntKind.i64 (-1)]
def tabE : Array Value := #[Value.int IntKind.i64 0, Value.int IntKind.i64 0, Value.int IntKind.i64 2, Value.int IntKind.i64 2, Value.int IntKind.i64 0, Value.int IntKind.i64 2, Value.int IntKind.i64 2, Value.int IntKind.i64 2, Value.int IntKind.i64 0, Value.int IntKind.i64 0, Value.int IntKind.i64 2, Value.int IntKind.i64 0, Value.int IntKind.i64 0, Value.int IntKind.i64 2, Value.int IntKind.i64 2, Value.int IntKind.i64 0, Value.int IntKind.i64 0, Value.int IntKind.i64 2, Value.int IntKind.i64 2, Value.int IntKind.i64 2, Value.int IntKind.i64 0, Value.int IntKind.i64 2, Value.int IntKind.i64 2, Value.int IntKind.i64 2, Value.int IntKind.i64 2, Value.int IntKind.i64 0, Value.int IntKind.i64 2, Value.int IntKind.i64 0, Value.int IntKind.i64 2, Value.int IntKind.i64 2, Value.int IntKind.i64 0, Value.int IntKind.i64 0, Value.int IntKind.i64 0, Value.int IntKind.i64 0, Value.int IntKind.i64 2, Value.int IntKind.i64 0, Value.int IntKind.i64 0, Value.int IntKind.i64 0, Value.int IntKind.i64 4, Value.int IntKind.i64 4, Value.int IntKind.i64 0]
def wrongWorld (w : World) : World := ((w.alloc (Obj.cells tabL 9)).alloc (Obj.cells tabA 3)).alloc (Obj.cells tabE 3)

theorem tab_at (k : Nat) (hk : k < 41) : ∃ (p : Tx) (a c : Int), tabL[k]? = some (.string ⟨p.toArray⟩) ∧ tabA[k]? = some (.int .i64 a) ∧ tabE[k]? = some (.int .i64 c) ∧ codeR (topE p) = (a, c) ∧ p.length ≤ 1048576 := by
  match k, hk with
  | 0, _ => exact ⟨[], -1, 0, rfl, rfl, rfl, by decide +kernel, by decide⟩
  | 1, _ => exact ⟨[97], -1, 0, rfl, rfl, rfl, by decide +kernel, by decide⟩
  | 2, _ => exact ⟨[41], 0, 2, rfl, rfl, rfl, by decide +kernel, by decide⟩
  | 3, _ => exact ⟨[40], 1, 2, rfl, rfl, rfl, by decide +kernel, by decide⟩
  | 4, _ => exact ⟨[40, 41], -1, 0, rfl, rfl, rfl, by decide +kernel, by decide⟩
  | 5, _ => exact ⟨[40, 97], 2, 2, rfl, rfl, rfl, by decide +kernel, by decide⟩
  | 6, _ => exact ⟨[97, 41], 1, 2, rfl, rfl, rfl, by decide +kernel, by decide⟩
  | 7, _ => exact ⟨[42], 0, 2, rfl, rfl, rfl, by decide +kernel, by decide⟩
  | 8, _ => exact ⟨[97, 42], -1, 0, rfl, rfl, rfl, by decide +kernel, by decide⟩
  | 9, _ => exact ⟨[97, 42, 42], -1, 0, rfl, rfl, rfl, by decide +kernel, by decide⟩
  | 10, _ => exact ⟨[40, 42, 41], 1, 2, rfl, rfl, rfl, by decide +kernel, by decide⟩
  | 11, _ => exact ⟨[124], -1, 0, rfl, rfl, rfl, by decide +kernel, by decide⟩
  | 12, _ => exact ⟨[97, 124], -1, 0, rfl, rfl, rfl, by decide +kernel, by decide⟩
  | 13, _ => exact ⟨[91], 0, 2, rfl, rfl, rfl, by decide +kernel, by decide⟩
  | 14, _ => exact ⟨[91, 93], 0, 2, rfl, rfl, rfl, by decide +kernel, by decide⟩
  | 15, _ => exact ⟨[91, 93, 93], -1, 0, rfl, rfl, rfl, by decide +kernel, by decide⟩
  | 16, _ => exact ⟨[91, 94, 93, 93], -1, 0, rfl, rfl, rfl, by decide +kernel, by decide⟩
  | 17, _ => exact ⟨[91, 97], 0, 2, rfl, rfl, rfl, by decide +kernel, by decide⟩
  | 18, _ => exact ⟨[97, 123], 1, 2, rfl, rfl, rfl, by decide +kernel, by decide⟩
  | 19, _ => exact ⟨[97, 123, 49], 1, 2, rfl, rfl, rfl, by decide +kernel, by decide⟩
  | 20, _ => exact ⟨[97, 123, 49, 125], -1, 0, rfl, rfl, rfl, by decide +kernel, by decide⟩
  | 21, _ => exact ⟨[97, 123, 44, 50, 125], 1, 2, rfl, rfl, rfl, by decide +kernel, by decide⟩
  | 22, _ => exact ⟨[97, 123, 50, 44, 49, 125], 1, 2, rfl, rfl, rfl, by decide +kernel, by decide⟩
  | 23, _ => exact ⟨[97, 123, 50, 48, 49, 125], 1, 2, rfl, rfl, rfl, by decide +kernel, by decide⟩
  | 24, _ => exact ⟨[97, 123, 48, 48, 48, 49, 125], 1, 2, rfl, rfl, rfl, by decide +kernel, by decide⟩
  | 25, _ => exact ⟨[97, 123, 49, 44, 125], -1, 0, rfl, rfl, rfl, by decide +kernel, by decide⟩
  | 26, _ => exact ⟨[92], 1, 2, rfl, rfl, rfl, by decide +kernel, by decide⟩
  | 27, _ => exact ⟨[92, 40], -1, 0, rfl, rfl, rfl, by decide +kernel, by decide⟩
  | 28, _ => exact ⟨[123], 0, 2, rfl, rfl, rfl, by decide +kernel, by decide⟩
  | 29, _ => exact ⟨[97, 124, 42], 2, 2, rfl, rfl, rfl, by decide +kernel, by decide⟩
  | 30, _ => exact ⟨[93], -1, 0, rfl, rfl, rfl, by decide +kernel, by decide⟩
  | 31, _ => exact ⟨[125], -1, 0, rfl, rfl, rfl, by decide +kernel, by decide⟩
  | 32, _ => exact ⟨[94, 42], -1, 0, rfl, rfl, rfl, by decide +kernel, by decide⟩
  | 33, _ => exact ⟨[36, 94], -1, 0, rfl, rfl, rfl, by decide +kernel, by decide⟩
  | 34, _ => exact ⟨[91, 91, 58, 97, 108, 112, 104, 97, 58, 93], 0, 2, rfl, rfl, rfl, by decide +kernel, by decide⟩
  | 35, _ => exact ⟨[91, 91, 58, 97, 108, 112, 104, 97, 58, 93, 93], -1, 0, rfl, rfl, rfl, by decide +kernel, by decide⟩
  | 36, _ => exact ⟨[91, 122, 45, 97, 93], -1, 0, rfl, rfl, rfl, by decide +kernel, by decide⟩
  | 37, _ => exact ⟨[40, 40, 40, 40, 40, 40, 40, 40, 40, 40, 40, 40, 40, 40, 40, 40, 40, 40, 40, 40, 40, 40, 40, 40, 40, 40, 40, 40, 40, 40, 97, 41, 41, 41, 41, 41, 41, 41, 41, 41, 41, 41, 41, 41, 41, 41, 41, 41, 41, 41, 41, 41, 41, 41, 41, 41, 41, 41, 41, 41, 41], -1, 0, rfl, rfl, rfl, by decide +kernel, by decide⟩
  | 38, _ => exact ⟨[40, 40, 40, 40, 40, 40, 40, 40, 40, 40, 40, 40, 40, 40, 40, 40, 40, 40, 40, 40, 40, 40, 40, 40, 40, 40, 40, 40, 40, 40, 40, 97, 41, 41, 41, 41, 41, 41, 41, 41, 41, 41, 41, 41, 41, 41, 41, 41, 41, 41, 41, 41, 41, 41, 41, 41, 41, 41, 41, 41, 41, 41, 41], 30, 4, rfl, rfl, rfl, by decide +kernel, by decide⟩
  | 39, _ => exact ⟨[40, 97, 123, 50, 48, 48, 125, 41, 123, 50, 48, 48, 125], 0, 4, rfl, rfl, rfl, by decide +kernel, by decide⟩
  | 40, _ => exact ⟨[40, 97, 123, 49, 48, 48, 125, 41, 123, 49, 48, 48, 125], -1, 0, rfl, rfl, rfl, by decide +kernel, by decide⟩
  | n + 41, h => exact absurd h (by omega)
theorem wrong_heap (w : World) : (wrongWorld w).heap = ((w.heap.push (Obj.cells tabL 9)).push (Obj.cells tabA 3)).push (Obj.cells tabE 3) := rfl
theorem wrong_size (w : World) : (wrongWorld w).heap.size = w.heap.size + 3 := by rw [wrong_heap]; simp
theorem wrong_below (w : World) : Below w.heap.size w (wrongWorld w) :=
  (((Below.refl _ w).alloc (Nat.le_refl _) _).alloc (by simp) _).alloc (by simp; omega) _
theorem wrong_L (w : World) (k : Nat) : (wrongWorld w).cell? ⟨w.heap.size, k, none⟩ = tabL[k]? := by
  have : (wrongWorld w).heap[w.heap.size]? = some (Obj.cells tabL 9) := by
    rw [wrong_heap, Array.getElem?_push, if_neg (by simp <;> omega), Array.getElem?_push, if_neg (by simp), Array.getElem?_push, if_pos rfl]
  simp [World.cell?, this]
theorem wrong_A (w : World) (k : Nat) : (wrongWorld w).cell? ⟨w.heap.size + 1, k, none⟩ = tabA[k]? := by
  have : (wrongWorld w).heap[w.heap.size + 1]? = some (Obj.cells tabA 3) := by
    rw [wrong_heap, Array.getElem?_push, if_neg (by simp), Array.getElem?_push, if_pos (by simp)]
  simp [World.cell?, this]
theorem wrong_E (w : World) (k : Nat) : (wrongWorld w).cell? ⟨w.heap.size + 1 + 1, k, none⟩ = tabE[k]? := by
  have : (wrongWorld w).heap[w.heap.size + 1 + 1]? = some (Obj.cells tabE 3) := by
    rw [wrong_heap, Array.getElem?_push, if_pos (by simp)]
  simp [World.cell?, this]


end Go.Proofs.Ytjeloflfhofdlaa
