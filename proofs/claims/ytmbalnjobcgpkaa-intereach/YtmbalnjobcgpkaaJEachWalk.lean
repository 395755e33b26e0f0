
/-
  The law InterEach answers true at whatever number, and leaves what lay in memory as it was.
-/
import Derived.Test.YtmbalnjobcgpkaaJLaw
import Derived.Deep.CutRange
namespace Go.Proofs.Ytmbalnjobcgpkaa
open Go.RowKit Go.Proofs.Ytmbalnjobcgpkaa.Ln Go.Proofs.Ytmbalnjobcgpkaa.Ol

namespace Je
/-- memory with some new blocks -/
def allocs (w : World) : List Obj → World
  | [] => w
  | o :: l => allocs (w.alloc o) l
theorem allocs_old (l : List Obj) : ∀ (w : World) (k : Nat), k < w.heap.size → (allocs w l).heap[k]? = w.heap[k]? := by
  induction l with
  | nil => intro w k _; rfl
  | cons o l ih => intro w k hk; rw [allocs, ih _ _ (by rw [World.size_alloc]; omega), Below.heap_alloc _ _ _ hk]
theorem allocs_at (l : List Obj) : ∀ (w : World) (i : Nat) (o : Obj), l[i]? = some o → (allocs w l).heap[w.heap.size + i]? = some o := by
  induction l with
  | nil => intro w i o h; simp at h
  | cons x l ih =>
    intro w i o h
    cases i with
    | zero =>
      simp at h; subst h
      rw [allocs, Nat.add_zero, allocs_old _ _ _ (by rw [World.size_alloc]; omega)]
      exact World.alloc_heap_new w x
    | succ i =>
      have := ih (w.alloc x) i o (by simpa using h)
      rw [World.size_alloc] at this
      rw [allocs, ← this]
      congr 1
      omega
theorem allocs_bel (l : List Obj) : ∀ {a w : World}, Below a.heap.size a w → Below a.heap.size a (allocs w l) := by
  induction l with
  | nil => intro a w h; exact h
  | cons o l ih => intro a w h; exact ih (bel_alloc h o)
theorem cell_lit {W : World} {b : Nat} {t : TypeId} {cs : Array Value} {k : Nat} {v : Value} (h : W.heap[b]? = some (.cells cs t (0, 0))) (hv : cs.toList[k]? = some v) : W.cell? ⟨b, k, none⟩ = some v := by
  unfold World.cell?; rw [h]; simpa using hv
def tabP : List (List Oq) := [[(3, 0, [97, 10])], [(3, 0, [97, 10])], [], [(3, 0, [97, 10]), (4, 0, [98, 10])], [(3, 0, [97, 10]), (4, 0, [98, 10])], [(4, 0, [98, 10])], [(2, 0, [97, 10])], [(1, 2, []), (4, 0, [98, 10])], [(3, 0, [122, 10])]]
def tabQ : List (List Oq) := [[], [(3, 0, [97, 10])], [(3, 0, [97, 10])], [(3, 0, [97, 10]), (4, 0, [99, 10])], [(3, 0, [97, 10]), (4, 0, [98, 10]), (4, 0, [99, 10])], [(2, 0, [97, 10]), (4, 0, [99, 10])], [(3, 0, [97, 10])], [(4, 0, [98, 10])], [(3, 0, [97, 10])]]
def tabD : List (List Oq) := [[(4, 0, [97, 10])], [], [(3, 0, [97, 10])], [(3, 0, [98, 10]), (4, 0, [99, 10])], [(2, 0, [98, 10]), (4, 0, [99, 10])], [(3, 0, [98, 10]), (2, 0, [97, 10]), (4, 0, [99, 10])], [(3, 0, [97, 10])], [(4, 0, [98, 10]), (1, 2, []), (3, 0, [98, 10])], []]
/-- the blocks that the law makes -/
def objsL (s : Nat) : List Obj := [.cells #[.int .i64 3, .int .i64 0, .string ⟨#[97, 10]⟩] 37, .cells #[.int .i64 2, .int .i64 0, .string ⟨#[97, 10]⟩] 37, .cells #[.int .i64 4, .int .i64 0, .string ⟨#[98, 10]⟩] 37, .cells #[.int .i64 4, .int .i64 0, .string ⟨#[99, 10]⟩] 37, .cells #[.int .i64 4, .int .i64 0, .string ⟨#[97, 10]⟩] 37, .cells #[.int .i64 3, .int .i64 0, .string ⟨#[98, 10]⟩] 37, .cells #[.int .i64 2, .int .i64 0, .string ⟨#[98, 10]⟩] 37, .cells #[.int .i64 3, .int .i64 0, .string ⟨#[97, 10]⟩] 37, .cells #[.int .i64 3, .int .i64 0, .string ⟨#[97, 10]⟩] 37, .cells #[] 37, .cells #[.int .i64 3, .int .i64 0, .string ⟨#[97, 10]⟩, .int .i64 4, .int .i64 0, .string ⟨#[98, 10]⟩] 37, .cells #[.int .i64 3, .int .i64 0, .string ⟨#[97, 10]⟩, .int .i64 4, .int .i64 0, .string ⟨#[98, 10]⟩] 37, .cells #[.int .i64 4, .int .i64 0, .string ⟨#[98, 10]⟩] 37, .cells #[.int .i64 2, .int .i64 0, .string ⟨#[97, 10]⟩] 37, .cells #[.int .i64 1, .int .i64 2, .string ⟨#[]⟩, .int .i64 4, .int .i64 0, .string ⟨#[98, 10]⟩] 37, .cells #[.int .i64 3, .int .i64 0, .string ⟨#[122, 10]⟩] 37, .cells #[.slice (some ⟨s + 1 + 1 + 1 + 1 + 1 + 1 + 1, 0, none⟩) 1 1, .slice (some ⟨s + 1 + 1 + 1 + 1 + 1 + 1 + 1 + 1, 0, none⟩) 1 1, .slice (some ⟨s + 1 + 1 + 1 + 1 + 1 + 1 + 1 + 1 + 1, 0, none⟩) 0 0, .slice (some ⟨s + 1 + 1 + 1 + 1 + 1 + 1 + 1 + 1 + 1 + 1, 0, none⟩) 2 2, .slice (some ⟨s + 1 + 1 + 1 + 1 + 1 + 1 + 1 + 1 + 1 + 1 + 1, 0, none⟩) 2 2, .slice (some ⟨s + 1 + 1 + 1 + 1 + 1 + 1 + 1 + 1 + 1 + 1 + 1 + 1, 0, none⟩) 1 1, .slice (some ⟨s + 1 + 1 + 1 + 1 + 1 + 1 + 1 + 1 + 1 + 1 + 1 + 1 + 1, 0, none⟩) 1 1, .slice (some ⟨s + 1 + 1 + 1 + 1 + 1 + 1 + 1 + 1 + 1 + 1 + 1 + 1 + 1 + 1, 0, none⟩) 2 2, .slice (some ⟨s + 1 + 1 + 1 + 1 + 1 + 1 + 1 + 1 + 1 + 1 + 1 + 1 + 1 + 1 + 1, 0, none⟩) 1 1] 22, .cells #[] 37, .cells #[.int .i64 3, .int .i64 0, .string ⟨#[97, 10]⟩] 37, .cells #[.int .i64 3, .int .i64 0, .string ⟨#[97, 10]⟩] 37, .cells #[.int .i64 3, .int .i64 0, .string ⟨#[97, 10]⟩, .int .i64 4, .int .i64 0, .string ⟨#[99, 10]⟩] 37, .cells #[.int .i64 3, .int .i64 0, .string ⟨#[97, 10]⟩, .int .i64 4, .int .i64 0, .string ⟨#[98, 10]⟩, .int .i64 4, .int .i64 0, .string ⟨#[99, 10]⟩] 37, .cells #[.int .i64 2, .int .i64 0, .string ⟨#[97, 10]⟩, .int .i64 4, .int .i64 0, .string ⟨#[99, 10]⟩] 37, .cells #[.int .i64 3, .int .i64 0, .string ⟨#[97, 10]⟩] 37, .cells #[.int .i64 4, .int .i64 0, .string ⟨#[98, 10]⟩] 37, .cells #[.int .i64 3, .int .i64 0, .string ⟨#[97, 10]⟩] 37, .cells #[.slice (some ⟨s + 1 + 1 + 1 + 1 + 1 + 1 + 1 + 1 + 1 + 1 + 1 + 1 + 1 + 1 + 1 + 1 + 1, 0, none⟩) 0 0, .slice (some ⟨s + 1 + 1 + 1 + 1 + 1 + 1 + 1 + 1 + 1 + 1 + 1 + 1 + 1 + 1 + 1 + 1 + 1 + 1, 0, none⟩) 1 1, .slice (some ⟨s + 1 + 1 + 1 + 1 + 1 + 1 + 1 + 1 + 1 + 1 + 1 + 1 + 1 + 1 + 1 + 1 + 1 + 1 + 1, 0, none⟩) 1 1, .slice (some ⟨s + 1 + 1 + 1 + 1 + 1 + 1 + 1 + 1 + 1 + 1 + 1 + 1 + 1 + 1 + 1 + 1 + 1 + 1 + 1 + 1, 0, none⟩) 2 2, .slice (some ⟨s + 1 + 1 + 1 + 1 + 1 + 1 + 1 + 1 + 1 + 1 + 1 + 1 + 1 + 1 + 1 + 1 + 1 + 1 + 1 + 1 + 1, 0, none⟩) 3 3, .slice (some ⟨s + 1 + 1 + 1 + 1 + 1 + 1 + 1 + 1 + 1 + 1 + 1 + 1 + 1 + 1 + 1 + 1 + 1 + 1 + 1 + 1 + 1 + 1, 0, none⟩) 2 2, .slice (some ⟨s + 1 + 1 + 1 + 1 + 1 + 1 + 1 + 1 + 1 + 1 + 1 + 1 + 1 + 1 + 1 + 1 + 1 + 1 + 1 + 1 + 1 + 1 + 1, 0, none⟩) 1 1, .slice (some ⟨s + 1 + 1 + 1 + 1 + 1 + 1 + 1 + 1 + 1 + 1 + 1 + 1 + 1 + 1 + 1 + 1 + 1 + 1 + 1 + 1 + 1 + 1 + 1 + 1, 0, none⟩) 1 1, .slice (some ⟨s + 1 + 1 + 1 + 1 + 1 + 1 + 1 + 1 + 1 + 1 + 1 + 1 + 1 + 1 + 1 + 1 + 1 + 1 + 1 + 1 + 1 + 1 + 1 + 1 + 1, 0, none⟩) 1 1] 22, .cells #[.int .i64 4, .int .i64 0, .string ⟨#[97, 10]⟩] 37, .cells #[] 37, .cells #[.int .i64 3, .int .i64 0, .string ⟨#[97, 10]⟩] 37, .cells #[.int .i64 3, .int .i64 0, .string ⟨#[98, 10]⟩, .int .i64 4, .int .i64 0, .string ⟨#[99, 10]⟩] 37, .cells #[.int .i64 2, .int .i64 0, .string ⟨#[98, 10]⟩, .int .i64 4, .int .i64 0, .string ⟨#[99, 10]⟩] 37, .cells #[.int .i64 3, .int .i64 0, .string ⟨#[98, 10]⟩, .int .i64 2, .int .i64 0, .string ⟨#[97, 10]⟩, .int .i64 4, .int .i64 0, .string ⟨#[99, 10]⟩] 37, .cells #[.int .i64 3, .int .i64 0, .string ⟨#[97, 10]⟩] 37, .cells #[.int .i64 4, .int .i64 0, .string ⟨#[98, 10]⟩, .int .i64 1, .int .i64 2, .string ⟨#[]⟩, .int .i64 3, .int .i64 0, .string ⟨#[98, 10]⟩] 37, .cells #[.slice (some ⟨s + 1 + 1 + 1 + 1 + 1 + 1 + 1 + 1 + 1 + 1 + 1 + 1 + 1 + 1 + 1 + 1 + 1 + 1 + 1 + 1 + 1 + 1 + 1 + 1 + 1 + 1 + 1, 0, none⟩) 1 1, .slice (some ⟨s + 1 + 1 + 1 + 1 + 1 + 1 + 1 + 1 + 1 + 1 + 1 + 1 + 1 + 1 + 1 + 1 + 1 + 1 + 1 + 1 + 1 + 1 + 1 + 1 + 1 + 1 + 1 + 1, 0, none⟩) 0 0, .slice (some ⟨s + 1 + 1 + 1 + 1 + 1 + 1 + 1 + 1 + 1 + 1 + 1 + 1 + 1 + 1 + 1 + 1 + 1 + 1 + 1 + 1 + 1 + 1 + 1 + 1 + 1 + 1 + 1 + 1 + 1, 0, none⟩) 1 1, .slice (some ⟨s + 1 + 1 + 1 + 1 + 1 + 1 + 1 + 1 + 1 + 1 + 1 + 1 + 1 + 1 + 1 + 1 + 1 + 1 + 1 + 1 + 1 + 1 + 1 + 1 + 1 + 1 + 1 + 1 + 1 + 1, 0, none⟩) 2 2, .slice (some ⟨s + 1 + 1 + 1 + 1 + 1 + 1 + 1 + 1 + 1 + 1 + 1 + 1 + 1 + 1 + 1 + 1 + 1 + 1 + 1 + 1 + 1 + 1 + 1 + 1 + 1 + 1 + 1 + 1 + 1 + 1 + 1, 0, none⟩) 2 2, .slice (some ⟨s + 1 + 1 + 1 + 1 + 1 + 1 + 1 + 1 + 1 + 1 + 1 + 1 + 1 + 1 + 1 + 1 + 1 + 1 + 1 + 1 + 1 + 1 + 1 + 1 + 1 + 1 + 1 + 1 + 1 + 1 + 1 + 1, 0, none⟩) 3 3, .slice (some ⟨s + 1 + 1 + 1 + 1 + 1 + 1 + 1 + 1 + 1 + 1 + 1 + 1 + 1 + 1 + 1 + 1 + 1 + 1 + 1 + 1 + 1 + 1 + 1 + 1 + 1 + 1 + 1 + 1 + 1 + 1 + 1 + 1 + 1, 0, none⟩) 1 1, .slice (some ⟨s + 1 + 1 + 1 + 1 + 1 + 1 + 1 + 1 + 1 + 1 + 1 + 1 + 1 + 1 + 1 + 1 + 1 + 1 + 1 + 1 + 1 + 1 + 1 + 1 + 1 + 1 + 1 + 1 + 1 + 1 + 1 + 1 + 1 + 1, 0, none⟩) 3 3, .slice none 0 0] 22]
/-- the tables lie in memory -/
structure Tab (w : World) (T : Nat) (W : World) : Prop where
  bel : Below w.heap.size w W
  lt : T + 19 < W.heap.size
  rowP : ∀ k, k < 9 → ∃ g n, n = ((tabP[k]?).getD []).length ∧ W.cell? ⟨T, k, none⟩ = some (.slice (some ⟨g, 0, none⟩) n n) ∧ OpsAt W (.slice (some ⟨g, 0, none⟩) n n) ((tabP[k]?).getD [])
  rowQ : ∀ k, k < 9 → ∃ g n, n = ((tabQ[k]?).getD []).length ∧ W.cell? ⟨T + 10, k, none⟩ = some (.slice (some ⟨g, 0, none⟩) n n) ∧ OpsAt W (.slice (some ⟨g, 0, none⟩) n n) ((tabQ[k]?).getD [])
  rowD : ∀ k, k < 9 → ∃ g n, n = ((tabD[k]?).getD []).length ∧ W.cell? ⟨T + 19, k, none⟩ = some (.slice g n n) ∧ OpsAt W (.slice g n n) ((tabD[k]?).getD [])
theorem Tab.later {w : World} {T : Nat} {W W' : World} (h : Tab w T W) (hb : Below W.heap.size W W') : Tab w T W' := by
  have hlt := h.lt
  exact ⟨h.bel.trans (hb.mono h.bel.size), Nat.lt_of_lt_of_le h.lt hb.size, fun k hk => by
    obtain ⟨g, n, hn, hc, ho⟩ := h.rowP k hk
    exact ⟨g, n, hn, (hb.cell (p := ⟨T, k, none⟩) (by show T < _; omega)).trans hc, ho.later hb⟩, fun k hk => by
    obtain ⟨g, n, hn, hc, ho⟩ := h.rowQ k hk
    exact ⟨g, n, hn, (hb.cell (p := ⟨T + 10, k, none⟩) (by show T + 10 < _; omega)).trans hc, ho.later hb⟩, fun k hk => by
    obtain ⟨g, n, hn, hc, ho⟩ := h.rowD k hk
    exact ⟨g, n, hn, (hb.cell (p := ⟨T + 19, k, none⟩) (by show T + 19 < _; omega)).trans hc, ho.later hb⟩⟩
set_option maxRecDepth 4000 in
set_option maxHeartbeats 2000000 in
theorem tab_ok (w w1 : World) (hb : Below w.heap.size w w1) : Tab w (w1.heap.size + 1 + 1 + 1 + 1 + 1 + 1 + 1 + 1 + 1 + 1 + 1 + 1 + 1 + 1 + 1 + 1) (allocs w1 (objsL w1.heap.size)) := by
  have HA := allocs_at (objsL w1.heap.size) w1
  refine ⟨allocs_bel _ hb, ?_, ?_, ?_, ?_⟩
  · exact (Array.getElem?_eq_some_iff.1 (HA 35 _ rfl)).1
  · intro k hk
    have hT := HA 16 _ rfl
    match k, hk with
    | 0, _ => exact ⟨_, _, rfl, cell_lit hT rfl, ops_lit (HA 7 _ rfl) rfl rfl⟩
    | 1, _ => exact ⟨_, _, rfl, cell_lit hT rfl, ops_lit (HA 8 _ rfl) rfl rfl⟩
    | 2, _ => exact ⟨_, _, rfl, cell_lit hT rfl, ops_lit (HA 9 _ rfl) rfl rfl⟩
    | 3, _ => exact ⟨_, _, rfl, cell_lit hT rfl, ops_lit (HA 10 _ rfl) rfl rfl⟩
    | 4, _ => exact ⟨_, _, rfl, cell_lit hT rfl, ops_lit (HA 11 _ rfl) rfl rfl⟩
    | 5, _ => exact ⟨_, _, rfl, cell_lit hT rfl, ops_lit (HA 12 _ rfl) rfl rfl⟩
    | 6, _ => exact ⟨_, _, rfl, cell_lit hT rfl, ops_lit (HA 13 _ rfl) rfl rfl⟩
    | 7, _ => exact ⟨_, _, rfl, cell_lit hT rfl, ops_lit (HA 14 _ rfl) rfl rfl⟩
    | 8, _ => exact ⟨_, _, rfl, cell_lit hT rfl, ops_lit (HA 15 _ rfl) rfl rfl⟩
    | (k + 9), hk => exact absurd hk (by omega)
  · intro k hk
    have hT := HA 26 _ rfl
    match k, hk with
    | 0, _ => exact ⟨_, _, rfl, cell_lit hT rfl, ops_lit (HA 17 _ rfl) rfl rfl⟩
    | 1, _ => exact ⟨_, _, rfl, cell_lit hT rfl, ops_lit (HA 18 _ rfl) rfl rfl⟩
    | 2, _ => exact ⟨_, _, rfl, cell_lit hT rfl, ops_lit (HA 19 _ rfl) rfl rfl⟩
    | 3, _ => exact ⟨_, _, rfl, cell_lit hT rfl, ops_lit (HA 20 _ rfl) rfl rfl⟩
    | 4, _ => exact ⟨_, _, rfl, cell_lit hT rfl, ops_lit (HA 21 _ rfl) rfl rfl⟩
    | 5, _ => exact ⟨_, _, rfl, cell_lit hT rfl, ops_lit (HA 22 _ rfl) rfl rfl⟩
    | 6, _ => exact ⟨_, _, rfl, cell_lit hT rfl, ops_lit (HA 23 _ rfl) rfl rfl⟩
    | 7, _ => exact ⟨_, _, rfl, cell_lit hT rfl, ops_lit (HA 24 _ rfl) rfl rfl⟩
    | 8, _ => exact ⟨_, _, rfl, cell_lit hT rfl, ops_lit (HA 25 _ rfl) rfl rfl⟩
    | (k + 9), hk => exact absurd hk (by omega)
  · intro k hk
    have hT := HA 35 _ rfl
    match k, hk with
    | 0, _ => exact ⟨_, _, rfl, cell_lit hT rfl, ops_lit (HA 27 _ rfl) rfl rfl⟩
    | 1, _ => exact ⟨_, _, rfl, cell_lit hT rfl, ops_lit (HA 28 _ rfl) rfl rfl⟩
    | 2, _ => exact ⟨_, _, rfl, cell_lit hT rfl, ops_lit (HA 29 _ rfl) rfl rfl⟩
    | 3, _ => exact ⟨_, _, rfl, cell_lit hT rfl, ops_lit (HA 30 _ rfl) rfl rfl⟩
    | 4, _ => exact ⟨_, _, rfl, cell_lit hT rfl, ops_lit (HA 31 _ rfl) rfl rfl⟩
    | 5, _ => exact ⟨_, _, rfl, cell_lit hT rfl, ops_lit (HA 32 _ rfl) rfl rfl⟩
    | 6, _ => exact ⟨_, _, rfl, cell_lit hT rfl, ops_lit (HA 33 _ rfl) rfl rfl⟩
    | 7, _ => exact ⟨_, _, rfl, cell_lit hT rfl, ops_lit (HA 34 _ rfl) rfl rfl⟩
    | 8, _ => exact ⟨_, _, rfl, cell_lit hT rfl, OpsAt.nil _ _ _⟩
    | (k + 9), hk => exact absurd hk (by omega)
/-- what the law's row needs of memory -/
structure KJ (w : World) (T k g m g2 m2 : Nat) (g3 : Option Addr) (m3 : Nat) (LP LQ LD : List Oq) (W : World) : Prop where
  bel : Below w.heap.size w W
  lt : T + 19 < W.heap.size
  cp : W.cell? ⟨T, k, none⟩ = some (.slice (some ⟨g, 0, none⟩) m m)
  cq : W.cell? ⟨T + 10, k, none⟩ = some (.slice (some ⟨g2, 0, none⟩) m2 m2)
  cd : W.cell? ⟨T + 19, k, none⟩ = some (.slice g3 m3 m3)
  op : OpsAt W (.slice (some ⟨g, 0, none⟩) m m) LP
  oq : OpsAt W (.slice (some ⟨g2, 0, none⟩) m2 m2) LQ
  od : OpsAt W (.slice g3 m3 m3) LD
theorem KJ.later {w : World} {T k g m g2 m2 : Nat} {g3 : Option Addr} {m3 : Nat} {LP LQ LD : List Oq} {W W' : World} (h : KJ w T k g m g2 m2 g3 m3 LP LQ LD W) (hb : Below W.heap.size W W') : KJ w T k g m g2 m2 g3 m3 LP LQ LD W' := by
  have hlt := h.lt
  exact ⟨h.bel.trans (hb.mono h.bel.size), Nat.lt_of_lt_of_le h.lt hb.size, (hb.cell (p := ⟨T, k, none⟩) (by show T < _; omega)).trans h.cp, (hb.cell (p := ⟨T + 10, k, none⟩) (by show T + 10 < _; omega)).trans h.cq, (hb.cell (p := ⟨T + 19, k, none⟩) (by show T + 19 < _; omega)).trans h.cd, h.op.later hb, h.oq.later hb, h.od.later hb⟩
theorem KJ.drew {w : World} {T k g m g2 m2 : Nat} {g3 : Option Addr} {m3 : Nat} {LP LQ LD : List Oq} {W : World} (h : KJ w T k g m g2 m2 g3 m3 LP LQ LD W) : KJ w T k g m g2 m2 g3 m3 LP LQ LD W.drew := h.later (Below.refl _ W).drew
theorem tab_facts : ∀ i : Fin 9, (itr ((tabP[i.val]?).getD []) ((tabQ[i.val]?).getD [])).isSome = decide (i.val < 8) ∧ (itr ((tabP[i.val]?).getD []) ((tabQ[i.val]?).getD [])).getD [] = (tabD[i.val]?).getD [] := by decide
theorem tab_fit : ∀ i : Fin 9, ((tabP[i.val]?).getD []).all (fun x => decide (x.2.2.length ≤ 1000)) = true ∧ ((tabQ[i.val]?).getD []).all (fun x => decide (x.2.2.length ≤ 1000)) = true ∧ ((tabP[i.val]?).getD []).length ≤ 5 ∧ ((tabQ[i.val]?).getD []).length ≤ 5 ∧ ((tabD[i.val]?).getD []).length ≤ 5 := by decide

set_option maxRecDepth 8000 in
set_option maxHeartbeats 8000000 in
theorem interEach_any (z : Int) (w : World) :
    Calls Try.prog 7 #[.int .i64 z] w fun e w' => e = .returned (.bool true) ∧ Below w.heap.size w w' := by
  have HTF := hidden tab_facts
  have HTT := hidden tab_fit
  go_enter Try.func7, Try.ntmps7
  go_wp2_with fail
  refine (alive14_any _).mono ?_
  rintro e w1 ⟨rfl, hb⟩
  have HTAB := hidden (tab_ok w w1 hb)
  clear hb
  go_upto_region 11 with fail
  go_cut [4, 5, 6, 7, 8, 9, 10, 11, 12, 13] from 17 to 88 (fun _ _ _ _ _ _ _ v11 v12 v13 wx => ∃ T : Nat, v11 = .slice (some ⟨T, 0, none⟩) 9 9 ∧ v12 = .slice (some ⟨T + 10, 0, none⟩) 9 9 ∧ v13 = .slice (some ⟨T + 19, 0, none⟩) 9 9 ∧ Hid (Tab w T wx))
  case first =>
    go_wp2_with fail
    go_meet
    exact ⟨_, rfl, rfl, rfl, HTAB.out⟩
  case rest =>
  obtain ⟨T, rfl, rfl, rfl, HT⟩ := hcut
  clear HTAB
  by_cases h0 : z < 0
  · go_wp2_with fail
    go_ret
    exact ⟨rfl, HT.out.bel⟩
  · by_cases h1 : z ≥ 9
    · go_wp2_with fail
      go_ret
      exact ⟨rfl, HT.out.bel⟩
    · obtain ⟨k, rfl⟩ : ∃ k : Nat, z = k := ⟨z.toNat, by omega⟩
      have hk : k < 9 := by omega
      have hki : (k : Int) < 9 := by omega
      have hkd : decide ((k : Int) ≥ 9) = false := by simp; omega
      have hkd2 : decide (9 ≤ (k : Int)) = false := by simp; omega
      obtain ⟨g, m, hm, cp, hop⟩ := HT.out.rowP k hk
      obtain ⟨g2, m2, hm2, cq, hoq⟩ := HT.out.rowQ k hk
      obtain ⟨g3, m3, hm3, cd, hod⟩ := HT.out.rowD k hk
      obtain ⟨t1, t2⟩ := HTF.out ⟨k, hk⟩
      obtain ⟨f1, f2, f3, f4, f5⟩ := HTT.out ⟨k, hk⟩
      simp only at t1 t2 f1 f2 f3 f4 f5
      generalize (tabP[k]?).getD [] = LP at hop hm t1 t2 f1 f3
      generalize (tabQ[k]?).getD [] = LQ at hoq hm2 t1 t2 f2 f4
      generalize (tabD[k]?).getD [] = LD at hod hm3 t2 f5
      have hK : KJ w T k g m g2 m2 g3 m3 LP LQ LD wc := ⟨HT.out.bel, HT.out.lt, cp, cq, cd, hop, hoq, hod⟩
      have HFP := hidden (fit_of f1)
      have HFQ := hidden (fit_of f2)
      have HLP := hidden (show LP.length ≤ 4398046511104 by omega)
      have HLQ := hidden (show LQ.length ≤ 4398046511104 by omega)
      have HLD := hidden (show LD.length ≤ 4398046511104 by omega)
      obtain ⟨b, hb⟩ : ∃ b, decide (k < 8) = b := ⟨_, rfl⟩
      have hb2 : decide ((k : Int) < 8) = b := by rw [← hb]; simp only [decide_eq_decide]; omega
      rw [hb] at t1
      have HI1 := hidden t1
      have HI2 := hidden t2
      have hbb : (b == b) = true := by simp
      clear t1 t2 f1 f2 f3 f4 f5 hm hm2 hm3 cp cq cd hop hoq hod HT HTF HTT h0 h1
      go_upto_region 14 with fail
      go_region_held3 (fun X => X.cell? ⟨T, k, none⟩ = some (.slice (some ⟨g, 0, none⟩) m m) ∧ X.cell? ⟨T + 10, k, none⟩ = some (.slice (some ⟨g2, 0, none⟩) m2 m2))
        (first | exact ⟨KJ.cp (by assumption), KJ.cq (by assumption)⟩ | exact ⟨KJ.cp (KJ.drew (by assumption)), KJ.cq (KJ.drew (by assumption))⟩ | assumption)
        (first | (go_at_call 10; with_reducible refine (inter_any _ _ LP LQ _ ?_ ?_ HLP.out HLQ.out HFP.out HFQ.out).mono ?_; (· first | exact hK.op | exact hK.drew.op); (· first | exact hK.oq | exact hK.drew.oq); rw [HI1.out, HI2.out]; rintro e w5 ⟨v5, rfl, hops5, hb5⟩; have hK5 := KJ.later (by first | exact hK | exact hK.drew) hb5))
      have HK5 := hidden hK5
      have HO5 := hidden hops5
      have c13 := hK5.cd
      obtain ⟨a5, n5, c5, hv5⟩ : ∃ a n c, v5 = .slice a n c := by obtain ⟨a, c, e⟩ := HO5.out.shape; exact ⟨_, _, _, e⟩
      subst hv5
      clear hK hK5 hops5 hb5
      go_wp2_with (go_at_call 12; refine (psame_any _ _ LD LD _ HO5.out HK5.out.od HLD.out HLD.out).mono ?_; rw [decide_eq_true (Eq.refl LD)]; rintro e w6 ⟨rfl, hb6⟩; have HB6 := hidden (HK5.out.later hb6).bel; clear hb6)
      go_ret
      exact ⟨by first | rfl | simp, HB6.out⟩
end Je

end Go.Proofs.Ytmbalnjobcgpkaa
