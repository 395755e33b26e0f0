
/-
  The law ApplyEach answers true at whatever number, and leaves what lay in memory as it was.
-/
import Derived.Test.YtophhgbkcdeidaaALaw
import Derived.Test.YtophhgbkcdeidaaADo2
import Derived.Deep.CutRange
namespace Go.Proofs.Ytophhgbkcdeidaa
open Go.RowKit Go.Proofs.Ytophhgbkcdeidaa.Ln Go.Proofs.Ytophhgbkcdeidaa.Ol

namespace Ae
/-- memory with some new blocks -/
def allocs (w : World) : List Obj → World
  | [] => w
  | o :: l => allocs (w.alloc o) l
theorem allocs_old (l : List Obj) : ∀ (w : World) (k : Nat), k < w.heap.size → (allocs w l).heap[k]? = w.heap[k]? := by
  induction l with
  | nil => intro w k _; rfl
  | cons o l ih => intro w k hk; rw [allocs, ih _ _ (by rw [World.size_alloc]; omega), Below.heap_alloc _ _ _ hk]
theorem allocs_at (l : List Obj) : ∀ (w : World) (i : Nat) (o : Obj), l[i]? = some o → (allocs w l).heap[w.heap.size + i]? = some o := by
  induction l with
  | nil => intro w i o h; simp at h
  | cons x l ih =>
    intro w i o h
    cases i with
    | zero =>
      simp at h; subst h
      rw [allocs, Nat.add_zero, allocs_old _ _ _ (by rw [World.size_alloc]; omega)]
      exact World.alloc_heap_new w x
    | succ i =>
      have := ih (w.alloc x) i o (by simpa using h)
      rw [World.size_alloc] at this
      rw [allocs, ← this]
      congr 1
      omega
theorem allocs_bel (l : List Obj) : ∀ {a w : World}, Below a.heap.size a w → Below a.heap.size a (allocs w l) := by
  induction l with
  | nil => intro a w h; exact h
  | cons o l ih => intro a w h; exact ih (bel_alloc h o)
theorem cell_lit {W : World} {b : Nat} {t : TypeId} {cs : Array Value} {k : Nat} {v : Value} (h : W.heap[b]? = some (.cells cs t (0, 0))) (hv : cs.toList[k]? = some v) : W.cell? ⟨b, k, none⟩ = some v := by
  unfold World.cell?; rw [h]; simpa using hv
def tabI : List Tx := [[120, 10], [97, 10, 122, 10], [98, 10], [], [122, 10, 97, 10], [122, 10, 97, 10], [99, 10, 100, 10], [100, 10], [120], [120, 10, 121], [], [120, 10], [99], [99], []]
theorem tabI_cells : tabI.map S = [.string ⟨#[120, 10]⟩, .string ⟨#[97, 10, 122, 10]⟩, .string ⟨#[98, 10]⟩, .string ⟨#[]⟩, .string ⟨#[122, 10, 97, 10]⟩, .string ⟨#[122, 10, 97, 10]⟩, .string ⟨#[99, 10, 100, 10]⟩, .string ⟨#[100, 10]⟩, .string ⟨#[120]⟩, .string ⟨#[120, 10, 121]⟩, .string ⟨#[]⟩, .string ⟨#[120, 10]⟩, .string ⟨#[99]⟩, .string ⟨#[99]⟩, .string ⟨#[]⟩] := rfl
theorem tabI_at {k : Nat} {t : Tx} (h : tabI[k]? = some t) : (#[.string ⟨#[120, 10]⟩, .string ⟨#[97, 10, 122, 10]⟩, .string ⟨#[98, 10]⟩, .string ⟨#[]⟩, .string ⟨#[122, 10, 97, 10]⟩, .string ⟨#[122, 10, 97, 10]⟩, .string ⟨#[99, 10, 100, 10]⟩, .string ⟨#[100, 10]⟩, .string ⟨#[120]⟩, .string ⟨#[120, 10, 121]⟩, .string ⟨#[]⟩, .string ⟨#[120, 10]⟩, .string ⟨#[99]⟩, .string ⟨#[99]⟩, .string ⟨#[]⟩] : Array Value).toList[k]? = some (.string ⟨t.toArray⟩) := by
  have : (tabI.map S)[k]? = some (S t) := by rw [List.getElem?_map, h]; rfl
  rw [tabI_cells] at this
  exact this
def tabO : List Tx := [[120, 10], [122, 10], [45], [98, 10], [122, 10], [45], [99, 10, 98, 10, 100, 10], [45], [45], [98, 10, 120, 10, 121], [111], [45], [45], [99, 10, 98, 10], [45]]
theorem tabO_cells : tabO.map S = [.string ⟨#[120, 10]⟩, .string ⟨#[122, 10]⟩, .string ⟨#[45]⟩, .string ⟨#[98, 10]⟩, .string ⟨#[122, 10]⟩, .string ⟨#[45]⟩, .string ⟨#[99, 10, 98, 10, 100, 10]⟩, .string ⟨#[45]⟩, .string ⟨#[45]⟩, .string ⟨#[98, 10, 120, 10, 121]⟩, .string ⟨#[111]⟩, .string ⟨#[45]⟩, .string ⟨#[45]⟩, .string ⟨#[99, 10, 98, 10]⟩, .string ⟨#[45]⟩] := rfl
theorem tabO_at {k : Nat} {t : Tx} (h : tabO[k]? = some t) : (#[.string ⟨#[120, 10]⟩, .string ⟨#[122, 10]⟩, .string ⟨#[45]⟩, .string ⟨#[98, 10]⟩, .string ⟨#[122, 10]⟩, .string ⟨#[45]⟩, .string ⟨#[99, 10, 98, 10, 100, 10]⟩, .string ⟨#[45]⟩, .string ⟨#[45]⟩, .string ⟨#[98, 10, 120, 10, 121]⟩, .string ⟨#[111]⟩, .string ⟨#[45]⟩, .string ⟨#[45]⟩, .string ⟨#[99, 10, 98, 10]⟩, .string ⟨#[45]⟩] : Array Value).toList[k]? = some (.string ⟨t.toArray⟩) := by
  have : (tabO.map S)[k]? = some (S t) := by rw [List.getElem?_map, h]; rfl
  rw [tabO_cells] at this
  exact this
/-- the lists that the law names -/
def tabL : List (List Oq) := [[], [(3, 0, [97, 10])], [(3, 0, [97, 10])], [(4, 0, [98, 10])], [(1, 1, []), (3, 0, [97, 10])], [(1, 1, []), (1, 1, []), (3, 0, [97, 10])], [(2, 0, [99, 10]), (4, 0, [98, 10])], [(2, 0, [99, 10]), (4, 0, [98, 10])], [(1, 1, []), (4, 0, [98, 10])], [(4, 0, [98, 10])], [(4, 0, [111])], [(4, 0, [111])], [(2, 0, [99]), (4, 0, [98, 10])], [(3, 0, [99]), (4, 0, [99, 10]), (4, 0, [98, 10])], [(1, 1, [])]]
/-- the blocks that the law makes -/
def objsL (s : Nat) : List Obj := [.cells #[.int .i64 3, .int .i64 0, .string ⟨#[97, 10]⟩] 34, .cells #[.int .i64 4, .int .i64 0, .string ⟨#[98, 10]⟩] 34, .cells #[.int .i64 2, .int .i64 0, .string ⟨#[99, 10]⟩] 34, .cells #[.int .i64 1, .int .i64 1, .string ⟨#[]⟩] 34, .cells #[] 34, .cells #[.int .i64 3, .int .i64 0, .string ⟨#[97, 10]⟩] 34, .cells #[.int .i64 3, .int .i64 0, .string ⟨#[97, 10]⟩] 34, .cells #[.int .i64 4, .int .i64 0, .string ⟨#[98, 10]⟩] 34, .cells #[.int .i64 1, .int .i64 1, .string ⟨#[]⟩, .int .i64 3, .int .i64 0, .string ⟨#[97, 10]⟩] 34, .cells #[.int .i64 1, .int .i64 1, .string ⟨#[]⟩, .int .i64 1, .int .i64 1, .string ⟨#[]⟩, .int .i64 3, .int .i64 0, .string ⟨#[97, 10]⟩] 34, .cells #[.int .i64 2, .int .i64 0, .string ⟨#[99, 10]⟩, .int .i64 4, .int .i64 0, .string ⟨#[98, 10]⟩] 34, .cells #[.int .i64 2, .int .i64 0, .string ⟨#[99, 10]⟩, .int .i64 4, .int .i64 0, .string ⟨#[98, 10]⟩] 34, .cells #[.int .i64 1, .int .i64 1, .string ⟨#[]⟩, .int .i64 4, .int .i64 0, .string ⟨#[98, 10]⟩] 34, .cells #[.int .i64 4, .int .i64 0, .string ⟨#[98, 10]⟩] 34, .cells #[.int .i64 4, .int .i64 0, .string ⟨#[111]⟩] 34, .cells #[.int .i64 4, .int .i64 0, .string ⟨#[111]⟩] 34, .cells #[.int .i64 2, .int .i64 0, .string ⟨#[99]⟩, .int .i64 4, .int .i64 0, .string ⟨#[98, 10]⟩] 34, .cells #[.int .i64 3, .int .i64 0, .string ⟨#[99]⟩, .int .i64 4, .int .i64 0, .string ⟨#[99, 10]⟩, .int .i64 4, .int .i64 0, .string ⟨#[98, 10]⟩] 34, .cells #[.int .i64 1, .int .i64 1, .string ⟨#[]⟩] 34, .cells #[.slice (some ⟨s + 1 + 1 + 1 + 1, 0, none⟩) 0 0, .slice (some ⟨s + 1 + 1 + 1 + 1 + 1, 0, none⟩) 1 1, .slice (some ⟨s + 1 + 1 + 1 + 1 + 1 + 1, 0, none⟩) 1 1, .slice (some ⟨s + 1 + 1 + 1 + 1 + 1 + 1 + 1, 0, none⟩) 1 1, .slice (some ⟨s + 1 + 1 + 1 + 1 + 1 + 1 + 1 + 1, 0, none⟩) 2 2, .slice (some ⟨s + 1 + 1 + 1 + 1 + 1 + 1 + 1 + 1 + 1, 0, none⟩) 3 3, .slice (some ⟨s + 1 + 1 + 1 + 1 + 1 + 1 + 1 + 1 + 1 + 1, 0, none⟩) 2 2, .slice (some ⟨s + 1 + 1 + 1 + 1 + 1 + 1 + 1 + 1 + 1 + 1 + 1, 0, none⟩) 2 2, .slice (some ⟨s + 1 + 1 + 1 + 1 + 1 + 1 + 1 + 1 + 1 + 1 + 1 + 1, 0, none⟩) 2 2, .slice (some ⟨s + 1 + 1 + 1 + 1 + 1 + 1 + 1 + 1 + 1 + 1 + 1 + 1 + 1, 0, none⟩) 1 1, .slice (some ⟨s + 1 + 1 + 1 + 1 + 1 + 1 + 1 + 1 + 1 + 1 + 1 + 1 + 1 + 1, 0, none⟩) 1 1, .slice (some ⟨s + 1 + 1 + 1 + 1 + 1 + 1 + 1 + 1 + 1 + 1 + 1 + 1 + 1 + 1 + 1, 0, none⟩) 1 1, .slice (some ⟨s + 1 + 1 + 1 + 1 + 1 + 1 + 1 + 1 + 1 + 1 + 1 + 1 + 1 + 1 + 1 + 1, 0, none⟩) 2 2, .slice (some ⟨s + 1 + 1 + 1 + 1 + 1 + 1 + 1 + 1 + 1 + 1 + 1 + 1 + 1 + 1 + 1 + 1 + 1, 0, none⟩) 3 3, .slice (some ⟨s + 1 + 1 + 1 + 1 + 1 + 1 + 1 + 1 + 1 + 1 + 1 + 1 + 1 + 1 + 1 + 1 + 1 + 1, 0, none⟩) 1 1] 22, .cells #[.string ⟨#[120, 10]⟩, .string ⟨#[97, 10, 122, 10]⟩, .string ⟨#[98, 10]⟩, .string ⟨#[]⟩, .string ⟨#[122, 10, 97, 10]⟩, .string ⟨#[122, 10, 97, 10]⟩, .string ⟨#[99, 10, 100, 10]⟩, .string ⟨#[100, 10]⟩, .string ⟨#[120]⟩, .string ⟨#[120, 10, 121]⟩, .string ⟨#[]⟩, .string ⟨#[120, 10]⟩, .string ⟨#[99]⟩, .string ⟨#[99]⟩, .string ⟨#[]⟩] 9, .cells #[.string ⟨#[120, 10]⟩, .string ⟨#[122, 10]⟩, .string ⟨#[45]⟩, .string ⟨#[98, 10]⟩, .string ⟨#[122, 10]⟩, .string ⟨#[45]⟩, .string ⟨#[99, 10, 98, 10, 100, 10]⟩, .string ⟨#[45]⟩, .string ⟨#[45]⟩, .string ⟨#[98, 10, 120, 10, 121]⟩, .string ⟨#[111]⟩, .string ⟨#[45]⟩, .string ⟨#[45]⟩, .string ⟨#[99, 10, 98, 10]⟩, .string ⟨#[45]⟩] 9]
/-- the tables lie in memory -/
structure Tab (w : World) (T : Nat) (W : World) : Prop where
  bel : Below w.heap.size w W
  lt : T + 2 < W.heap.size
  row : ∀ k, k < 15 → ∃ g n, n = ((tabL[k]?).getD []).length ∧ W.cell? ⟨T, k, none⟩ = some (.slice (some ⟨g, 0, none⟩) n n) ∧ OpsAt W (.slice (some ⟨g, 0, none⟩) n n) ((tabL[k]?).getD [])
  inp : ∀ (k : Nat) (t : Tx), tabI[k]? = some t → W.cell? ⟨T + 1, k, none⟩ = some (.string ⟨t.toArray⟩)
  out : ∀ (k : Nat) (t : Tx), tabO[k]? = some t → W.cell? ⟨T + 2, k, none⟩ = some (.string ⟨t.toArray⟩)
theorem Tab.later {w : World} {T : Nat} {W W' : World} (h : Tab w T W) (hb : Below W.heap.size W W') : Tab w T W' := by
  have hlt := h.lt
  refine ⟨h.bel.trans (hb.mono h.bel.size), Nat.lt_of_lt_of_le h.lt hb.size, fun k hk => ?_, fun k n hn => (hb.cell (p := ⟨T + 1, k, none⟩) (by show T + 1 < _; omega)).trans (h.inp k n hn), fun k n hn => (hb.cell (p := ⟨T + 2, k, none⟩) hlt).trans (h.out k n hn)⟩
  obtain ⟨g, n, hn, hc, ho⟩ := h.row k hk
  exact ⟨g, n, hn, (hb.cell (p := ⟨T, k, none⟩) (by show T < _; omega)).trans hc, ho.later hb⟩
set_option maxRecDepth 4000 in
set_option maxHeartbeats 2000000 in
theorem tab_ok (w w1 : World) (hb : Below w.heap.size w w1) : Tab w (w1.heap.size + 1 + 1 + 1 + 1 + 1 + 1 + 1 + 1 + 1 + 1 + 1 + 1 + 1 + 1 + 1 + 1 + 1 + 1 + 1) (allocs w1 (objsL w1.heap.size)) := by
  have HA := allocs_at (objsL w1.heap.size) w1
  refine ⟨allocs_bel _ hb, ?_, ?_, ?_, ?_⟩
  · exact (Array.getElem?_eq_some_iff.1 (HA 21 _ rfl)).1
  · intro k hk
    have hT := HA 19 _ rfl
    match k, hk with
    | 0, _ => exact ⟨_, _, rfl, cell_lit hT rfl, ops_lit (HA 4 _ rfl) rfl rfl⟩
    | 1, _ => exact ⟨_, _, rfl, cell_lit hT rfl, ops_lit (HA 5 _ rfl) rfl rfl⟩
    | 2, _ => exact ⟨_, _, rfl, cell_lit hT rfl, ops_lit (HA 6 _ rfl) rfl rfl⟩
    | 3, _ => exact ⟨_, _, rfl, cell_lit hT rfl, ops_lit (HA 7 _ rfl) rfl rfl⟩
    | 4, _ => exact ⟨_, _, rfl, cell_lit hT rfl, ops_lit (HA 8 _ rfl) rfl rfl⟩
    | 5, _ => exact ⟨_, _, rfl, cell_lit hT rfl, ops_lit (HA 9 _ rfl) rfl rfl⟩
    | 6, _ => exact ⟨_, _, rfl, cell_lit hT rfl, ops_lit (HA 10 _ rfl) rfl rfl⟩
    | 7, _ => exact ⟨_, _, rfl, cell_lit hT rfl, ops_lit (HA 11 _ rfl) rfl rfl⟩
    | 8, _ => exact ⟨_, _, rfl, cell_lit hT rfl, ops_lit (HA 12 _ rfl) rfl rfl⟩
    | 9, _ => exact ⟨_, _, rfl, cell_lit hT rfl, ops_lit (HA 13 _ rfl) rfl rfl⟩
    | 10, _ => exact ⟨_, _, rfl, cell_lit hT rfl, ops_lit (HA 14 _ rfl) rfl rfl⟩
    | 11, _ => exact ⟨_, _, rfl, cell_lit hT rfl, ops_lit (HA 15 _ rfl) rfl rfl⟩
    | 12, _ => exact ⟨_, _, rfl, cell_lit hT rfl, ops_lit (HA 16 _ rfl) rfl rfl⟩
    | 13, _ => exact ⟨_, _, rfl, cell_lit hT rfl, ops_lit (HA 17 _ rfl) rfl rfl⟩
    | 14, _ => exact ⟨_, _, rfl, cell_lit hT rfl, ops_lit (HA 18 _ rfl) rfl rfl⟩
    | (k + 15), hk => exact absurd hk (by omega)
  · intro k n hn
    exact cell_lit (HA 20 _ rfl) (tabI_at hn)
  · intro k n hn
    exact cell_lit (HA 21 _ rfl) (tabO_at hn)
/-- what the law's row needs of memory -/
structure KE (w : World) (T k g m : Nat) (LL : List Oq) (I O : Tx) (W : World) : Prop where
  bel : Below w.heap.size w W
  lt : T + 2 < W.heap.size
  c8 : W.cell? ⟨T, k, none⟩ = some (.slice (some ⟨g, 0, none⟩) m m)
  c9 : W.cell? ⟨T + 1, k, none⟩ = some (.string ⟨I.toArray⟩)
  c10 : W.cell? ⟨T + 2, k, none⟩ = some (.string ⟨O.toArray⟩)
  ops : OpsAt W (.slice (some ⟨g, 0, none⟩) m m) LL
theorem KE.later {w : World} {T k g m : Nat} {LL : List Oq} {I O : Tx} {W W' : World} (h : KE w T k g m LL I O W) (hb : Below W.heap.size W W') : KE w T k g m LL I O W' := by
  have hlt := h.lt
  exact ⟨h.bel.trans (hb.mono h.bel.size), Nat.lt_of_lt_of_le h.lt hb.size, (hb.cell (p := ⟨T, k, none⟩) (by show T < _; omega)).trans h.c8, (hb.cell (p := ⟨T + 1, k, none⟩) (by show T + 1 < _; omega)).trans h.c9, (hb.cell (p := ⟨T + 2, k, none⟩) hlt).trans h.c10, h.ops.later hb⟩
theorem KE.drew {w : World} {T k g m : Nat} {LL : List Oq} {I O : Tx} {W : World} (h : KE w T k g m LL I O W) : KE w T k g m LL I O W.drew := h.later (Below.refl _ W).drew
theorem splitX (x : Tx) (w : World) (hs : x.length ≤ 4398046511104) : Calls Try.prog 20 #[.string ⟨x.toArray⟩] w fun e w' => ∃ v, e = .returned v ∧ RowAt w' v (spl x) ∧ Below w.heap.size w w' := by
  refine (refSplit_any ⟨x.toArray⟩ w hs).mono ?_
  rintro e w' ⟨v, rfl, ho, hb⟩
  exact ⟨v, rfl, RowAt.of_owns ho, hb⟩
theorem tab_facts : ∀ i : Fin 15, if (tabO[i.val]?).getD [] = [45] then doo ((tabL[i.val]?).getD []) (spl ((tabI[i.val]?).getD [])) = none else (doo ((tabL[i.val]?).getD []) (spl ((tabI[i.val]?).getD []))).map List.flatten = some ((tabO[i.val]?).getD []) := by decide
theorem tab_fit : ∀ i : Fin 15, ((tabL[i.val]?).getD []).all (fun x => decide (x.2.2.length ≤ 1000)) = true ∧ ((tabL[i.val]?).getD []).length ≤ 5 ∧ ((tabI[i.val]?).getD []).length ≤ 1000 ∧ ((tabO[i.val]?).getD []).length ≤ 1000 ∧ (spl ((tabI[i.val]?).getD [])).all (fun x => decide (x.length ≤ 1000)) = true := by decide

set_option maxRecDepth 8000 in
set_option maxHeartbeats 8000000 in
theorem applyEach_any (z : Int) (w : World) :
    Calls Try.prog 7 #[.int .i64 z] w fun e w' => e = .returned (.bool true) ∧ Below w.heap.size w w' := by
  have HTF := hidden tab_facts
  have HTT := hidden tab_fit
  go_enter Try.func7, Try.ntmps7
  go_wp2_with fail
  refine (alive9_any _).mono ?_
  rintro e w1 ⟨rfl, hb⟩
  have HTAB := hidden (tab_ok w w1 hb)
  clear hb
  go_upto_region 8 with fail
  go_cut [4, 5, 6, 7, 8, 9, 10] from 13 to 58 (fun _ _ _ _ v8 v9 v10 wx => ∃ T : Nat, v8 = .slice (some ⟨T, 0, none⟩) 15 15 ∧ v9 = .slice (some ⟨T + 1, 0, none⟩) 15 15 ∧ v10 = .slice (some ⟨T + 2, 0, none⟩) 15 15 ∧ Hid (Tab w T wx))
  case first =>
    go_wp2_with fail
    go_meet
    exact ⟨_, rfl, rfl, rfl, HTAB.out⟩
  case rest =>
  obtain ⟨T, rfl, rfl, rfl, HT⟩ := hcut
  clear HTAB
  by_cases h0 : z < 0
  · go_wp2_with fail
    go_ret
    exact ⟨rfl, HT.out.bel⟩
  · by_cases h1 : z ≥ 15
    · go_wp2_with fail
      go_ret
      exact ⟨rfl, HT.out.bel⟩
    · obtain ⟨k, rfl⟩ : ∃ k : Nat, z = k := ⟨z.toNat, by omega⟩
      have hk : k < 15 := by omega
      have hki : (k : Int) < 15 := by omega
      have hkd : decide ((k : Int) ≥ 15) = false := by simp; omega
      have hkd2 : decide (15 ≤ (k : Int)) = false := by simp; omega
      obtain ⟨I, hI⟩ : ∃ n, tabI[k]? = some n := ⟨tabI[k]'hk, List.getElem?_eq_getElem hk⟩
      obtain ⟨O, hO⟩ : ∃ n, tabO[k]? = some n := ⟨tabO[k]'hk, List.getElem?_eq_getElem hk⟩
      have HI := hidden hI
      have HO := hidden hO
      have hkt : k < tabO.length := hk
      obtain ⟨g, m, hm, c8, hops⟩ := HT.out.row k hk
      have t1 := HTF.out ⟨k, hk⟩
      obtain ⟨f1, f2, f3, f4, f5⟩ := HTT.out ⟨k, hk⟩
      simp only at t1 f1 f2 f3 f4 f5
      rw [hI, hO] at t1
      rw [hI] at f3 f5
      rw [hO] at f4
      simp only [Option.getD_some] at t1 f3 f4 f5
      generalize (tabL[k]?).getD [] = LL at hops hm t1 f1 f2
      have hK : KE w T k g m LL I O wc := ⟨HT.out.bel, HT.out.lt, c8, HT.out.inp k I hI, HT.out.out k O hO, hops⟩
      have HF := hidden (fit_of f1)
      have HFT := hidden (fitT_of f5)
      have HSL := hidden (spl_length_le I)
      have HLN := hidden (show LL.length + (spl I).length ≤ 4398046511104 by have := HSL.out; omega)
      have HIZ := hidden (show I.length ≤ 4398046511104 by omega)
      have HOZ := hidden (show O.length ≤ 1000 by omega)
      have hT1 : T + 1 ≠ T := by omega
      clear hI hO HTF HTT h0 h1 HI HO HT hops c8 hm f1 f2 f3 f4 f5 hkt hT1
      by_cases hdash : O = [45]
      · rw [if_pos hdash] at t1
        have HR := hidden t1
        subst hdash
        clear t1
        go_upto_region 11 with fail
        go_region_held3 (fun X => X.cell? ⟨T, k, none⟩ = some (.slice (some ⟨g, 0, none⟩) m m) ∧ X.cell? ⟨T + 1, k, none⟩ = some (.string ⟨I.toArray⟩))
          (first | exact ⟨KE.c8 (by assumption), KE.c9 (by assumption)⟩ | exact ⟨KE.c8 (KE.drew (by assumption)), KE.c9 (KE.drew (by assumption))⟩ | assumption)
          (first
            | (go_at_call 20; with_reducible refine (splitX _ _ ?_).mono ?_; (· exact HIZ.out); rintro e w5 ⟨v5, rfl, hrow5, hb5⟩; have hK5 := KE.later (by first | exact hK | exact hK.drew) hb5)
            | (go_at_call 12; with_reducible refine (do_none _ LL _ (spl I) _ ?_ ?_ HLN.out HF.out HFT.out HR.out).mono ?_; (· first | exact hK5.ops | exact hK5.drew.ops); (· first | exact hrow5 | exact hrow5.later (Below.refl _ _).drew); rintro e w6 ⟨⟨a6, p6, rfl⟩, hb6⟩; have hK6 := KE.later (by first | exact hK5 | exact hK5.drew) hb6))
        have c10 := hK6.c10
        have hq : ((⟨#[45]⟩ : ByteArray).toList == (⟨#[45]⟩ : ByteArray).toList) = true := by simp
        go_wp2_with fail
        go_ret
        exact ⟨by first | rfl | simp, hK6.bel⟩
      · rw [if_neg hdash] at t1
        obtain ⟨r, hr, hfl⟩ := Option.map_eq_some_iff.1 t1
        have HR := hidden hr
        have HJ := hidden (fun (v : Value) (W : World) (h : RowAt W v r) => refJoin_any v r W h (by have := doo_len hr; have := HLN.out; omega) (by rw [hfl]; have := HOZ.out; omega))
        rw [hfl] at HJ
        have hdb : (O == [45]) = false := by simpa using hdash
        clear t1 hr hfl
        go_upto_region 11 with fail
        go_region_held3 (fun X => X.cell? ⟨T, k, none⟩ = some (.slice (some ⟨g, 0, none⟩) m m) ∧ X.cell? ⟨T + 1, k, none⟩ = some (.string ⟨I.toArray⟩))
          (first | exact ⟨KE.c8 (by assumption), KE.c9 (by assumption)⟩ | exact ⟨KE.c8 (KE.drew (by assumption)), KE.c9 (KE.drew (by assumption))⟩ | assumption)
          (first
            | (go_at_call 20; with_reducible refine (splitX _ _ ?_).mono ?_; (· exact HIZ.out); rintro e w5 ⟨v5, rfl, hrow5, hb5⟩; have hK5 := KE.later (by first | exact hK | exact hK.drew) hb5)
            | (go_at_call 12; with_reducible refine (do_some _ LL _ (spl I) r _ ?_ ?_ HLN.out HF.out HFT.out HR.out).mono ?_; (· first | exact hK5.ops | exact hK5.drew.ops); (· first | exact hrow5 | exact hrow5.later (Below.refl _ _).drew); rintro e w6 ⟨⟨a6, p6, rfl, hrow6⟩, hb6⟩; have hK6 := KE.later (by first | exact hK5 | exact hK5.drew) hb6))
        have c10 := hK6.c10
        have HK6 := hidden hK6
        have HROW6 := hidden hrow6
        clear hK hK5 hrow5 hb5 hb6
        go_upto_region 14 with fail
        go_region_held3 (fun X => X.cell? ⟨T + 2, k, none⟩ = some (.string ⟨O.toArray⟩))
          (first | exact KE.c10 (by assumption) | exact KE.c10 (KE.drew (by assumption)) | assumption)
          (first | (go_at_call 21; with_reducible refine (HJ.out _ _ ?_).mono ?_; (· first | exact hrow6 | exact hrow6.later (Below.refl _ _).drew); rintro e w7 ⟨rfl, hb7⟩; have hK7 := KE.later (by first | exact hK6 | exact hK6.drew) hb7))
        have HB7 := hidden hK7.bel
        clear hK7 hK6 hrow6
        go_wp2_with fail
        go_ret
        exact ⟨by first | rfl | simp, HB7.out⟩
end Ae

end Go.Proofs.Ytophhgbkcdeidaa
