
/-
  The law OpsEach answers true at whatever number, and leaves what lay in memory as it was.
-/
import Derived.Test.YtophhgbkcdeidaaOLaw
import Derived.Test.YtophhgbkcdeidaaOFacts
import Derived.Deep.CutRange
namespace Go.Proofs.Ytophhgbkcdeidaa
open Go.RowKit Go.Proofs.Ytophhgbkcdeidaa.Ln Go.Proofs.Ytophhgbkcdeidaa.Ol

namespace Oe
/-- memory with some new blocks -/
def allocs (w : World) : List Obj → World
  | [] => w
  | o :: l => allocs (w.alloc o) l
theorem allocs_old (l : List Obj) : ∀ (w : World) (k : Nat), k < w.heap.size → (allocs w l).heap[k]? = w.heap[k]? := by
  induction l with
  | nil => intro w k _; rfl
  | cons o l ih => intro w k hk; rw [allocs, ih _ _ (by rw [World.size_alloc]; omega), Below.heap_alloc _ _ _ hk]
theorem allocs_at (l : List Obj) : ∀ (w : World) (i : Nat) (o : Obj), l[i]? = some o → (allocs w l).heap[w.heap.size + i]? = some o := by
  induction l with
  | nil => intro w i o h; simp at h
  | cons x l ih =>
    intro w i o h
    cases i with
    | zero =>
      simp at h; subst h
      rw [allocs, Nat.add_zero, allocs_old _ _ _ (by rw [World.size_alloc]; omega)]
      exact World.alloc_heap_new w x
    | succ i =>
      have := ih (w.alloc x) i o (by simpa using h)
      rw [World.size_alloc] at this
      rw [allocs, ← this]
      congr 1
      omega
theorem allocs_bel (l : List Obj) : ∀ {a w : World}, Below a.heap.size a w → Below a.heap.size a (allocs w l) := by
  induction l with
  | nil => intro a w h; exact h
  | cons o l ih => intro a w h; exact ih (bel_alloc h o)
theorem cell_lit {W : World} {b : Nat} {t : TypeId} {cs : Array Value} {k : Nat} {v : Value} (h : W.heap[b]? = some (.cells cs t (0, 0))) (hv : cs.toList[k]? = some v) : W.cell? ⟨b, k, none⟩ = some v := by
  unfold World.cell?; rw [h]; simpa using hv
def tabN : List Int := [0, 1, 2, 1, 3, 2, -1, -1, -1, -1, -1, -1, -1, -1, -1, 2, 2, -1, 5]
theorem tab_ints : tabN.map (Value.int .i64) = [.int .i64 0, .int .i64 1, .int .i64 2, .int .i64 1, .int .i64 3, .int .i64 2, .int .i64 (-1), .int .i64 (-1), .int .i64 (-1), .int .i64 (-1), .int .i64 (-1), .int .i64 (-1), .int .i64 (-1), .int .i64 (-1), .int .i64 (-1), .int .i64 2, .int .i64 2, .int .i64 (-1), .int .i64 5] := rfl
theorem tab_at {k : Nat} {n : Int} (h : tabN[k]? = some n) : (#[.int .i64 0, .int .i64 1, .int .i64 2, .int .i64 1, .int .i64 3, .int .i64 2, .int .i64 (-1), .int .i64 (-1), .int .i64 (-1), .int .i64 (-1), .int .i64 (-1), .int .i64 (-1), .int .i64 (-1), .int .i64 (-1), .int .i64 (-1), .int .i64 2, .int .i64 2, .int .i64 (-1), .int .i64 5] : Array Value).toList[k]? = some (.int .i64 n) := by
  have : (tabN.map (Value.int .i64))[k]? = some (.int .i64 n) := by rw [List.getElem?_map, h]; rfl
  rw [tab_ints] at this
  exact this
/-- the lists that the law names -/
def tabL : List (List Oq) := [[], [(3, 0, [97, 10])], [(4, 0, [98, 10]), (3, 0, [97, 10])], [(1, 2, []), (1, 2, [])], [(1, 2, []), (1, 2, []), (3, 0, [97, 10]), (1, 2, [])], [(2, 0, [99, 10]), (2, 0, [111])], [(2, 0, [111]), (2, 0, [99, 10])], [(2, 0, [111]), (1, 2, [])], [(3, 0, [97, 10]), (2, 0, [111]), (4, 0, [98, 10])], [(1, 0, [])], [(1, 1, [120])], [(2, 0, [])], [(2, 1, [120, 10])], [(5, 0, [120, 10])], [(4, 0, [120, 10, 121])], [(3, 0, [111]), (4, 0, [98, 10])], [(4, 0, [111]), (3, 0, [97, 10])], [(3, 0, [111]), (3, 0, [97, 10])], [(4, 0, [98, 10]), (2, 0, [99, 10]), (4, 0, [98, 10]), (3, 0, [97, 10]), (4, 0, [98, 10])]]
/-- the blocks that the law makes -/
def objsL (s : Nat) : List Obj := [.cells #[.int .i64 3, .int .i64 0, .string ⟨#[97, 10]⟩] 34, .cells #[.int .i64 4, .int .i64 0, .string ⟨#[98, 10]⟩] 34, .cells #[.int .i64 2, .int .i64 0, .string ⟨#[99, 10]⟩] 34, .cells #[.int .i64 1, .int .i64 2, .string ⟨#[]⟩] 34, .cells #[.int .i64 2, .int .i64 0, .string ⟨#[111]⟩] 34, .cells #[] 34, .cells #[.int .i64 3, .int .i64 0, .string ⟨#[97, 10]⟩] 34, .cells #[.int .i64 4, .int .i64 0, .string ⟨#[98, 10]⟩, .int .i64 3, .int .i64 0, .string ⟨#[97, 10]⟩] 34, .cells #[.int .i64 1, .int .i64 2, .string ⟨#[]⟩, .int .i64 1, .int .i64 2, .string ⟨#[]⟩] 34, .cells #[.int .i64 1, .int .i64 2, .string ⟨#[]⟩, .int .i64 1, .int .i64 2, .string ⟨#[]⟩, .int .i64 3, .int .i64 0, .string ⟨#[97, 10]⟩, .int .i64 1, .int .i64 2, .string ⟨#[]⟩] 34, .cells #[.int .i64 2, .int .i64 0, .string ⟨#[99, 10]⟩, .int .i64 2, .int .i64 0, .string ⟨#[111]⟩] 34, .cells #[.int .i64 2, .int .i64 0, .string ⟨#[111]⟩, .int .i64 2, .int .i64 0, .string ⟨#[99, 10]⟩] 34, .cells #[.int .i64 2, .int .i64 0, .string ⟨#[111]⟩, .int .i64 1, .int .i64 2, .string ⟨#[]⟩] 34, .cells #[.int .i64 3, .int .i64 0, .string ⟨#[97, 10]⟩, .int .i64 2, .int .i64 0, .string ⟨#[111]⟩, .int .i64 4, .int .i64 0, .string ⟨#[98, 10]⟩] 34, .cells #[.int .i64 1, .int .i64 0, .string ⟨#[]⟩] 34, .cells #[.int .i64 1, .int .i64 1, .string ⟨#[120]⟩] 34, .cells #[.int .i64 2, .int .i64 0, .string ⟨#[]⟩] 34, .cells #[.int .i64 2, .int .i64 1, .string ⟨#[120, 10]⟩] 34, .cells #[.int .i64 5, .int .i64 0, .string ⟨#[120, 10]⟩] 34, .cells #[.int .i64 4, .int .i64 0, .string ⟨#[120, 10, 121]⟩] 34, .cells #[.int .i64 3, .int .i64 0, .string ⟨#[111]⟩, .int .i64 4, .int .i64 0, .string ⟨#[98, 10]⟩] 34, .cells #[.int .i64 4, .int .i64 0, .string ⟨#[111]⟩, .int .i64 3, .int .i64 0, .string ⟨#[97, 10]⟩] 34, .cells #[.int .i64 3, .int .i64 0, .string ⟨#[111]⟩, .int .i64 3, .int .i64 0, .string ⟨#[97, 10]⟩] 34, .cells #[.int .i64 4, .int .i64 0, .string ⟨#[98, 10]⟩, .int .i64 2, .int .i64 0, .string ⟨#[99, 10]⟩, .int .i64 4, .int .i64 0, .string ⟨#[98, 10]⟩, .int .i64 3, .int .i64 0, .string ⟨#[97, 10]⟩, .int .i64 4, .int .i64 0, .string ⟨#[98, 10]⟩] 34, .cells #[.slice (some ⟨s + 1 + 1 + 1 + 1 + 1, 0, none⟩) 0 0, .slice (some ⟨s + 1 + 1 + 1 + 1 + 1 + 1, 0, none⟩) 1 1, .slice (some ⟨s + 1 + 1 + 1 + 1 + 1 + 1 + 1, 0, none⟩) 2 2, .slice (some ⟨s + 1 + 1 + 1 + 1 + 1 + 1 + 1 + 1, 0, none⟩) 2 2, .slice (some ⟨s + 1 + 1 + 1 + 1 + 1 + 1 + 1 + 1 + 1, 0, none⟩) 4 4, .slice (some ⟨s + 1 + 1 + 1 + 1 + 1 + 1 + 1 + 1 + 1 + 1, 0, none⟩) 2 2, .slice (some ⟨s + 1 + 1 + 1 + 1 + 1 + 1 + 1 + 1 + 1 + 1 + 1, 0, none⟩) 2 2, .slice (some ⟨s + 1 + 1 + 1 + 1 + 1 + 1 + 1 + 1 + 1 + 1 + 1 + 1, 0, none⟩) 2 2, .slice (some ⟨s + 1 + 1 + 1 + 1 + 1 + 1 + 1 + 1 + 1 + 1 + 1 + 1 + 1, 0, none⟩) 3 3, .slice (some ⟨s + 1 + 1 + 1 + 1 + 1 + 1 + 1 + 1 + 1 + 1 + 1 + 1 + 1 + 1, 0, none⟩) 1 1, .slice (some ⟨s + 1 + 1 + 1 + 1 + 1 + 1 + 1 + 1 + 1 + 1 + 1 + 1 + 1 + 1 + 1, 0, none⟩) 1 1, .slice (some ⟨s + 1 + 1 + 1 + 1 + 1 + 1 + 1 + 1 + 1 + 1 + 1 + 1 + 1 + 1 + 1 + 1, 0, none⟩) 1 1, .slice (some ⟨s + 1 + 1 + 1 + 1 + 1 + 1 + 1 + 1 + 1 + 1 + 1 + 1 + 1 + 1 + 1 + 1 + 1, 0, none⟩) 1 1, .slice (some ⟨s + 1 + 1 + 1 + 1 + 1 + 1 + 1 + 1 + 1 + 1 + 1 + 1 + 1 + 1 + 1 + 1 + 1 + 1, 0, none⟩) 1 1, .slice (some ⟨s + 1 + 1 + 1 + 1 + 1 + 1 + 1 + 1 + 1 + 1 + 1 + 1 + 1 + 1 + 1 + 1 + 1 + 1 + 1, 0, none⟩) 1 1, .slice (some ⟨s + 1 + 1 + 1 + 1 + 1 + 1 + 1 + 1 + 1 + 1 + 1 + 1 + 1 + 1 + 1 + 1 + 1 + 1 + 1 + 1, 0, none⟩) 2 2, .slice (some ⟨s + 1 + 1 + 1 + 1 + 1 + 1 + 1 + 1 + 1 + 1 + 1 + 1 + 1 + 1 + 1 + 1 + 1 + 1 + 1 + 1 + 1, 0, none⟩) 2 2, .slice (some ⟨s + 1 + 1 + 1 + 1 + 1 + 1 + 1 + 1 + 1 + 1 + 1 + 1 + 1 + 1 + 1 + 1 + 1 + 1 + 1 + 1 + 1 + 1, 0, none⟩) 2 2, .slice (some ⟨s + 1 + 1 + 1 + 1 + 1 + 1 + 1 + 1 + 1 + 1 + 1 + 1 + 1 + 1 + 1 + 1 + 1 + 1 + 1 + 1 + 1 + 1 + 1, 0, none⟩) 5 5] 22, .cells #[.int .i64 0, .int .i64 1, .int .i64 2, .int .i64 1, .int .i64 3, .int .i64 2, .int .i64 (-1), .int .i64 (-1), .int .i64 (-1), .int .i64 (-1), .int .i64 (-1), .int .i64 (-1), .int .i64 (-1), .int .i64 (-1), .int .i64 (-1), .int .i64 2, .int .i64 2, .int .i64 (-1), .int .i64 5] 3]
/-- the tables lie in memory -/
structure Tab (w : World) (T : Nat) (W : World) : Prop where
  bel : Below w.heap.size w W
  lt : T + 1 < W.heap.size
  row : ∀ k, k < 19 → ∃ g n, n = ((tabL[k]?).getD []).length ∧ W.cell? ⟨T, k, none⟩ = some (.slice (some ⟨g, 0, none⟩) n n) ∧ OpsAt W (.slice (some ⟨g, 0, none⟩) n n) ((tabL[k]?).getD [])
  num : ∀ (k : Nat) (n : Int), tabN[k]? = some n → W.cell? ⟨T + 1, k, none⟩ = some (.int .i64 n)
theorem Tab.later {w : World} {T : Nat} {W W' : World} (h : Tab w T W) (hb : Below W.heap.size W W') : Tab w T W' := by
  have hlt := h.lt
  refine ⟨h.bel.trans (hb.mono h.bel.size), Nat.lt_of_lt_of_le h.lt hb.size, fun k hk => ?_, fun k n hn => (hb.cell (p := ⟨T + 1, k, none⟩) hlt).trans (h.num k n hn)⟩
  obtain ⟨g, n, hn, hc, ho⟩ := h.row k hk
  exact ⟨g, n, hn, (hb.cell (p := ⟨T, k, none⟩) (by show T < _; omega)).trans hc, ho.later hb⟩
set_option maxRecDepth 4000 in
set_option maxHeartbeats 2000000 in
theorem tab_ok (w w1 : World) (hb : Below w.heap.size w w1) : Tab w (w1.heap.size + 1 + 1 + 1 + 1 + 1 + 1 + 1 + 1 + 1 + 1 + 1 + 1 + 1 + 1 + 1 + 1 + 1 + 1 + 1 + 1 + 1 + 1 + 1 + 1) (allocs w1 (objsL w1.heap.size)) := by
  have HA := allocs_at (objsL w1.heap.size) w1
  refine ⟨allocs_bel _ hb, ?_, ?_, ?_⟩
  · exact (Array.getElem?_eq_some_iff.1 (HA 25 _ rfl)).1
  · intro k hk
    have hT := HA 24 _ rfl
    match k, hk with
    | 0, _ => exact ⟨_, _, rfl, cell_lit hT rfl, ops_lit (HA 5 _ rfl) rfl rfl⟩
    | 1, _ => exact ⟨_, _, rfl, cell_lit hT rfl, ops_lit (HA 6 _ rfl) rfl rfl⟩
    | 2, _ => exact ⟨_, _, rfl, cell_lit hT rfl, ops_lit (HA 7 _ rfl) rfl rfl⟩
    | 3, _ => exact ⟨_, _, rfl, cell_lit hT rfl, ops_lit (HA 8 _ rfl) rfl rfl⟩
    | 4, _ => exact ⟨_, _, rfl, cell_lit hT rfl, ops_lit (HA 9 _ rfl) rfl rfl⟩
    | 5, _ => exact ⟨_, _, rfl, cell_lit hT rfl, ops_lit (HA 10 _ rfl) rfl rfl⟩
    | 6, _ => exact ⟨_, _, rfl, cell_lit hT rfl, ops_lit (HA 11 _ rfl) rfl rfl⟩
    | 7, _ => exact ⟨_, _, rfl, cell_lit hT rfl, ops_lit (HA 12 _ rfl) rfl rfl⟩
    | 8, _ => exact ⟨_, _, rfl, cell_lit hT rfl, ops_lit (HA 13 _ rfl) rfl rfl⟩
    | 9, _ => exact ⟨_, _, rfl, cell_lit hT rfl, ops_lit (HA 14 _ rfl) rfl rfl⟩
    | 10, _ => exact ⟨_, _, rfl, cell_lit hT rfl, ops_lit (HA 15 _ rfl) rfl rfl⟩
    | 11, _ => exact ⟨_, _, rfl, cell_lit hT rfl, ops_lit (HA 16 _ rfl) rfl rfl⟩
    | 12, _ => exact ⟨_, _, rfl, cell_lit hT rfl, ops_lit (HA 17 _ rfl) rfl rfl⟩
    | 13, _ => exact ⟨_, _, rfl, cell_lit hT rfl, ops_lit (HA 18 _ rfl) rfl rfl⟩
    | 14, _ => exact ⟨_, _, rfl, cell_lit hT rfl, ops_lit (HA 19 _ rfl) rfl rfl⟩
    | 15, _ => exact ⟨_, _, rfl, cell_lit hT rfl, ops_lit (HA 20 _ rfl) rfl rfl⟩
    | 16, _ => exact ⟨_, _, rfl, cell_lit hT rfl, ops_lit (HA 21 _ rfl) rfl rfl⟩
    | 17, _ => exact ⟨_, _, rfl, cell_lit hT rfl, ops_lit (HA 22 _ rfl) rfl rfl⟩
    | 18, _ => exact ⟨_, _, rfl, cell_lit hT rfl, ops_lit (HA 23 _ rfl) rfl rfl⟩
    | (k + 19), hk => exact absurd hk (by omega)
  · intro k n hn
    exact cell_lit (HA 25 _ rfl) (tab_at hn)
theorem tab_facts : ∀ i : Fin 19, ((tabN[i.val]?).getD 0 < 0 → right ((tabL[i.val]?).getD []) = false) ∧ (¬ (tabN[i.val]?).getD 0 < 0 → right ((tabL[i.val]?).getD []) = true ∧ ((normL ((tabL[i.val]?).getD [])).length : Int) = (tabN[i.val]?).getD 0) := by decide
theorem tab_fit : ∀ i : Fin 19, ((tabL[i.val]?).getD []).all (fun x => decide (x.2.2.length ≤ 1000)) = true ∧ ((tabL[i.val]?).getD []).length ≤ 5 := by decide

set_option maxRecDepth 8000 in
set_option maxHeartbeats 8000000 in
theorem opsEach_any (z : Int) (w : World) :
    Calls Try.prog 8 #[.int .i64 z] w fun e w' => e = .returned (.bool true) ∧ Below w.heap.size w w' := by
  have HTF := hidden tab_facts
  have HTT := hidden tab_fit
  go_enter Try.func8, Try.ntmps8
  go_wp2_with fail
  refine (alive_any _).mono ?_
  rintro e w1 ⟨rfl, hb⟩
  have HTAB := hidden (tab_ok w w1 hb)
  clear hb
  go_upto_region 8 with fail
  go_cut [4, 5, 6, 7, 8, 9, 10] from 13 to 73 (fun _ _ _ _ _ v9 v10 wx => ∃ T : Nat, v9 = .slice (some ⟨T, 0, none⟩) 19 19 ∧ v10 = .slice (some ⟨T + 1, 0, none⟩) 19 19 ∧ Hid (Tab w T wx))
  case first =>
    go_wp2_with fail
    go_meet
    exact ⟨_, rfl, rfl, HTAB.out⟩
  case rest =>
  obtain ⟨T, rfl, rfl, HT⟩ := hcut
  clear HTAB
  by_cases h0 : z < 0
  · go_wp2_with fail
    go_ret
    exact ⟨rfl, HT.out.bel⟩
  · by_cases h1 : z ≥ 19
    · go_wp2_with fail
      go_ret
      exact ⟨rfl, HT.out.bel⟩
    · obtain ⟨k, rfl⟩ : ∃ k : Nat, z = k := ⟨z.toNat, by omega⟩
      have hk : k < 19 := by omega
      have hki : (k : Int) < 19 := by omega
      have hkd : decide ((k : Int) ≥ 19) = false := by simp; omega
      have hkd2 : decide (19 ≤ (k : Int)) = false := by simp; omega
      obtain ⟨n, hn⟩ : ∃ n, tabN[k]? = some n := ⟨tabN[k]'hk, List.getElem?_eq_getElem hk⟩
      obtain ⟨g, m, hm, c36, hops⟩ := HT.out.row k hk
      have c37 := HT.out.num k n hn
      have hTl := HT.out.lt
      obtain ⟨t1, t2⟩ := HTF.out ⟨k, hk⟩
      obtain ⟨f1, f2⟩ := HTT.out ⟨k, hk⟩
      simp only at t1 t2 f1 f2
      rw [hn] at t1 t2
      simp only [Option.getD_some] at t1 t2
      generalize (tabL[k]?).getD [] = LL at hops hm t1 t2 f1 f2
      have HLL := hidden (show LL.length ≤ 4398046511104 by omega)
      have HF := hidden (fit_of f1)
      have HOP := hidden hops
      have HB := hidden HT.out.bel
      clear hops hn HTF HTT HT h0 h1 f1 f2 hm
      by_cases h2 : n < 0
      · have HR := hidden (t1 h2)
        have HN := hidden (show normL LL = [] by simp [normL, HR.out])
        clear t1 t2
        go_wp2_with fail
        refine (onorm_any _ LL wc HOP.out HLL.out HF.out).mono ?_
        rw [HN.out]
        rintro e w5 ⟨v5, rfl, hv5, hb⟩
        obtain ⟨a5, p5, rfl⟩ := hv5.shape
        have d36 : w5.cell? ⟨T, k, none⟩ = some (.slice (some ⟨g, 0, none⟩) m m) := (hb.cell (p := ⟨T, k, none⟩) (Nat.lt_trans (Nat.lt_succ_self T) hTl)).trans c36
        have d37 : w5.cell? ⟨T + 1, k, none⟩ = some (.int .i64 n) := (hb.cell (p := ⟨T + 1, k, none⟩) hTl).trans c37
        have HOP5 := hidden (HOP.out.later hb)
        have HB5 := hidden (HB.out.trans (hb.mono HB.out.size))
        clear hb hv5 c36 c37 HOP HB hTl
        go_wp2_with fail
        refine (oright_any _ LL w5 HOP5.out HLL.out HF.out).mono ?_
        rw [HR.out]
        rintro e w6 ⟨rfl, hb⟩
        have HB6 := hidden (HB5.out.trans (hb.mono HB5.out.size))
        clear hb
        go_wp2_with fail
        go_ret
        exact ⟨by first | rfl | simp, HB6.out⟩
      · have HR := hidden (t2 (by omega)).1
        have hq := (t2 (by omega)).2
        obtain ⟨q, hqn⟩ : ∃ q : Nat, (normL LL).length = q := ⟨_, rfl⟩
        rw [hqn] at hq
        subst hq
        have HQ := hidden hqn
        have h2b : decide ((q : Int) < 0) = false := by simp
        clear t1 t2 hqn
        go_wp2_with fail
        refine (onorm_any _ LL wc HOP.out HLL.out HF.out).mono ?_
        rintro e w5 ⟨v5, rfl, hv5, hb⟩
        obtain ⟨a5, p5, hv5e⟩ := hv5.shape
        rw [HQ.out] at hv5e
        subst hv5e
        have d36 : w5.cell? ⟨T, k, none⟩ = some (.slice (some ⟨g, 0, none⟩) m m) := (hb.cell (p := ⟨T, k, none⟩) (Nat.lt_trans (Nat.lt_succ_self T) hTl)).trans c36
        have d37 : w5.cell? ⟨T + 1, k, none⟩ = some (.int .i64 q) := (hb.cell (p := ⟨T + 1, k, none⟩) hTl).trans c37
        have HOP5 := hidden (HOP.out.later hb)
        have HB5 := hidden (HB.out.trans (hb.mono HB.out.size))
        have hTl5 : T + 1 < w5.heap.size := Nat.lt_of_lt_of_le hTl hb.size
        clear hb hv5 c36 c37 HOP HB hTl
        go_wp2_with fail
        refine (oright_any _ LL w5 HOP5.out HLL.out HF.out).mono ?_
        rw [HR.out]
        rintro e w6 ⟨rfl, hb⟩
        have e37 : w6.cell? ⟨T + 1, k, none⟩ = some (.int .i64 q) := (hb.cell (p := ⟨T + 1, k, none⟩) hTl5).trans d37
        have HB6 := hidden (HB5.out.trans (hb.mono HB5.out.size))
        clear hb d36 d37
        go_wp2_with fail
        go_ret
        exact ⟨by first | rfl | simp, HB6.out⟩
end Oe

end Go.Proofs.Ytophhgbkcdeidaa
