
/-
  The law FlipEach answers true at whatever number, and leaves what lay in memory as it was.
-/
import Derived.Test.YtebikpdjamnhbaaFAlive
import Derived.Deep.CutRange
namespace Go.Proofs.Ytebikpdjamnhbaa
open Go.RowKit Go.Proofs.Ytebikpdjamnhbaa.Ln Go.Proofs.Ytebikpdjamnhbaa.Ol

namespace Fe
/-- memory with some new blocks -/
def allocs (w : World) : List Obj → World
  | [] => w
  | o :: l => allocs (w.alloc o) l
theorem allocs_old (l : List Obj) : ∀ (w : World) (k : Nat), k < w.heap.size → (allocs w l).heap[k]? = w.heap[k]? := by
  induction l with
  | nil => intro w k _; rfl
  | cons o l ih => intro w k hk; rw [allocs, ih _ _ (by rw [World.size_alloc]; omega), Below.heap_alloc _ _ _ hk]
theorem allocs_at (l : List Obj) : ∀ (w : World) (i : Nat) (o : Obj), l[i]? = some o → (allocs w l).heap[w.heap.size + i]? = some o := by
  induction l with
  | nil => intro w i o h; simp at h
  | cons x l ih =>
    intro w i o h
    cases i with
    | zero =>
      simp at h; subst h
      rw [allocs, Nat.add_zero, allocs_old _ _ _ (by rw [World.size_alloc]; omega)]
      exact World.alloc_heap_new w x
    | succ i =>
      have := ih (w.alloc x) i o (by simpa using h)
      rw [World.size_alloc] at this
      rw [allocs, ← this]
      congr 1
      omega
theorem allocs_bel (l : List Obj) : ∀ {a w : World}, Below a.heap.size a w → Below a.heap.size a (allocs w l) := by
  induction l with
  | nil => intro a w h; exact h
  | cons o l ih => intro a w h; exact ih (bel_alloc h o)
theorem cell_lit {W : World} {b : Nat} {t : TypeId} {cs : Array Value} {k : Nat} {v : Value} (h : W.heap[b]? = some (.cells cs t (0, 0))) (hv : cs.toList[k]? = some v) : W.cell? ⟨b, k, none⟩ = some v := by
  unfold World.cell?; rw [h]; simpa using hv
def tabL : List (List Oq) := [[(1, 2, [])], [(2, 0, [99, 10])], [(3, 0, [97, 10])], [(3, 0, [97, 10]), (4, 0, [98, 10])], [(4, 0, [98, 10]), (3, 0, [97, 10])], [(3, 0, [97, 10]), (2, 0, [99, 10]), (4, 0, [98, 10])], [(1, 2, []), (3, 0, [97, 10]), (1, 2, [])], [(1, 2, []), (1, 2, [])], [(2, 0, [111]), (2, 0, [99, 10])]]
def tabM : List (List Oq) := [[(1, 2, [])], [(2, 0, [99, 10])], [(4, 0, [97, 10])], [(3, 0, [98, 10]), (4, 0, [97, 10])], [(3, 0, [98, 10]), (4, 0, [97, 10])], [(4, 0, [97, 10]), (2, 0, [99, 10]), (3, 0, [98, 10])], [(1, 2, []), (4, 0, [97, 10]), (1, 2, [])], [(1, 4, [])], []]
/-- the blocks that the law makes -/
def objsL (s : Nat) : List Obj := [.cells #[.int .i64 3, .int .i64 0, .string ⟨#[97, 10]⟩] 36, .cells #[.int .i64 4, .int .i64 0, .string ⟨#[98, 10]⟩] 36, .cells #[.int .i64 2, .int .i64 0, .string ⟨#[99, 10]⟩] 36, .cells #[.int .i64 1, .int .i64 2, .string ⟨#[]⟩] 36, .cells #[.int .i64 4, .int .i64 0, .string ⟨#[97, 10]⟩] 36, .cells #[.int .i64 3, .int .i64 0, .string ⟨#[98, 10]⟩] 36, .cells #[.int .i64 1, .int .i64 2, .string ⟨#[]⟩] 36, .cells #[.int .i64 2, .int .i64 0, .string ⟨#[99, 10]⟩] 36, .cells #[.int .i64 3, .int .i64 0, .string ⟨#[97, 10]⟩] 36, .cells #[.int .i64 3, .int .i64 0, .string ⟨#[97, 10]⟩, .int .i64 4, .int .i64 0, .string ⟨#[98, 10]⟩] 36, .cells #[.int .i64 4, .int .i64 0, .string ⟨#[98, 10]⟩, .int .i64 3, .int .i64 0, .string ⟨#[97, 10]⟩] 36, .cells #[.int .i64 3, .int .i64 0, .string ⟨#[97, 10]⟩, .int .i64 2, .int .i64 0, .string ⟨#[99, 10]⟩, .int .i64 4, .int .i64 0, .string ⟨#[98, 10]⟩] 36, .cells #[.int .i64 1, .int .i64 2, .string ⟨#[]⟩, .int .i64 3, .int .i64 0, .string ⟨#[97, 10]⟩, .int .i64 1, .int .i64 2, .string ⟨#[]⟩] 36, .cells #[.int .i64 1, .int .i64 2, .string ⟨#[]⟩, .int .i64 1, .int .i64 2, .string ⟨#[]⟩] 36, .cells #[.int .i64 2, .int .i64 0, .string ⟨#[111]⟩, .int .i64 2, .int .i64 0, .string ⟨#[99, 10]⟩] 36, .cells #[.slice (some ⟨s + 1 + 1 + 1 + 1 + 1 + 1, 0, none⟩) 1 1, .slice (some ⟨s + 1 + 1 + 1 + 1 + 1 + 1 + 1, 0, none⟩) 1 1, .slice (some ⟨s + 1 + 1 + 1 + 1 + 1 + 1 + 1 + 1, 0, none⟩) 1 1, .slice (some ⟨s + 1 + 1 + 1 + 1 + 1 + 1 + 1 + 1 + 1, 0, none⟩) 2 2, .slice (some ⟨s + 1 + 1 + 1 + 1 + 1 + 1 + 1 + 1 + 1 + 1, 0, none⟩) 2 2, .slice (some ⟨s + 1 + 1 + 1 + 1 + 1 + 1 + 1 + 1 + 1 + 1 + 1, 0, none⟩) 3 3, .slice (some ⟨s + 1 + 1 + 1 + 1 + 1 + 1 + 1 + 1 + 1 + 1 + 1 + 1, 0, none⟩) 3 3, .slice (some ⟨s + 1 + 1 + 1 + 1 + 1 + 1 + 1 + 1 + 1 + 1 + 1 + 1 + 1, 0, none⟩) 2 2, .slice (some ⟨s + 1 + 1 + 1 + 1 + 1 + 1 + 1 + 1 + 1 + 1 + 1 + 1 + 1 + 1, 0, none⟩) 2 2] 22, .cells #[.int .i64 1, .int .i64 2, .string ⟨#[]⟩] 36, .cells #[.int .i64 2, .int .i64 0, .string ⟨#[99, 10]⟩] 36, .cells #[.int .i64 4, .int .i64 0, .string ⟨#[97, 10]⟩] 36, .cells #[.int .i64 3, .int .i64 0, .string ⟨#[98, 10]⟩, .int .i64 4, .int .i64 0, .string ⟨#[97, 10]⟩] 36, .cells #[.int .i64 3, .int .i64 0, .string ⟨#[98, 10]⟩, .int .i64 4, .int .i64 0, .string ⟨#[97, 10]⟩] 36, .cells #[.int .i64 4, .int .i64 0, .string ⟨#[97, 10]⟩, .int .i64 2, .int .i64 0, .string ⟨#[99, 10]⟩, .int .i64 3, .int .i64 0, .string ⟨#[98, 10]⟩] 36, .cells #[.int .i64 1, .int .i64 2, .string ⟨#[]⟩, .int .i64 4, .int .i64 0, .string ⟨#[97, 10]⟩, .int .i64 1, .int .i64 2, .string ⟨#[]⟩] 36, .cells #[.int .i64 1, .int .i64 4, .string ⟨#[]⟩] 36, .cells #[] 36, .cells #[.slice (some ⟨s + 1 + 1 + 1 + 1 + 1 + 1 + 1 + 1 + 1 + 1 + 1 + 1 + 1 + 1 + 1 + 1, 0, none⟩) 1 1, .slice (some ⟨s + 1 + 1 + 1 + 1 + 1 + 1 + 1 + 1 + 1 + 1 + 1 + 1 + 1 + 1 + 1 + 1 + 1, 0, none⟩) 1 1, .slice (some ⟨s + 1 + 1 + 1 + 1 + 1 + 1 + 1 + 1 + 1 + 1 + 1 + 1 + 1 + 1 + 1 + 1 + 1 + 1, 0, none⟩) 1 1, .slice (some ⟨s + 1 + 1 + 1 + 1 + 1 + 1 + 1 + 1 + 1 + 1 + 1 + 1 + 1 + 1 + 1 + 1 + 1 + 1 + 1, 0, none⟩) 2 2, .slice (some ⟨s + 1 + 1 + 1 + 1 + 1 + 1 + 1 + 1 + 1 + 1 + 1 + 1 + 1 + 1 + 1 + 1 + 1 + 1 + 1 + 1, 0, none⟩) 2 2, .slice (some ⟨s + 1 + 1 + 1 + 1 + 1 + 1 + 1 + 1 + 1 + 1 + 1 + 1 + 1 + 1 + 1 + 1 + 1 + 1 + 1 + 1 + 1, 0, none⟩) 3 3, .slice (some ⟨s + 1 + 1 + 1 + 1 + 1 + 1 + 1 + 1 + 1 + 1 + 1 + 1 + 1 + 1 + 1 + 1 + 1 + 1 + 1 + 1 + 1 + 1, 0, none⟩) 3 3, .slice (some ⟨s + 1 + 1 + 1 + 1 + 1 + 1 + 1 + 1 + 1 + 1 + 1 + 1 + 1 + 1 + 1 + 1 + 1 + 1 + 1 + 1 + 1 + 1 + 1, 0, none⟩) 1 1, .slice (some ⟨s + 1 + 1 + 1 + 1 + 1 + 1 + 1 + 1 + 1 + 1 + 1 + 1 + 1 + 1 + 1 + 1 + 1 + 1 + 1 + 1 + 1 + 1 + 1 + 1, 0, none⟩) 0 0] 22]
/-- the tables lie in memory -/
structure Tab (w : World) (T : Nat) (W : World) : Prop where
  bel : Below w.heap.size w W
  lt : T + 10 < W.heap.size
  rowL : ∀ k, k < 9 → ∃ g n, n = ((tabL[k]?).getD []).length ∧ W.cell? ⟨T, k, none⟩ = some (.slice (some ⟨g, 0, none⟩) n n) ∧ OpsAt W (.slice (some ⟨g, 0, none⟩) n n) ((tabL[k]?).getD [])
  rowM : ∀ k, k < 9 → ∃ g n, n = ((tabM[k]?).getD []).length ∧ W.cell? ⟨T + 10, k, none⟩ = some (.slice (some ⟨g, 0, none⟩) n n) ∧ OpsAt W (.slice (some ⟨g, 0, none⟩) n n) ((tabM[k]?).getD [])
theorem Tab.later {w : World} {T : Nat} {W W' : World} (h : Tab w T W) (hb : Below W.heap.size W W') : Tab w T W' := by
  have hlt := h.lt
  exact ⟨h.bel.trans (hb.mono h.bel.size), Nat.lt_of_lt_of_le h.lt hb.size, fun k hk => by
    obtain ⟨g, n, hn, hc, ho⟩ := h.rowL k hk
    exact ⟨g, n, hn, (hb.cell (p := ⟨T, k, none⟩) (by show T < _; omega)).trans hc, ho.later hb⟩, fun k hk => by
    obtain ⟨g, n, hn, hc, ho⟩ := h.rowM k hk
    exact ⟨g, n, hn, (hb.cell (p := ⟨T + 10, k, none⟩) (by show T + 10 < _; omega)).trans hc, ho.later hb⟩⟩
set_option maxRecDepth 4000 in
set_option maxHeartbeats 2000000 in
theorem tab_ok (w w1 : World) (hb : Below w.heap.size w w1) : Tab w (w1.heap.size + 1 + 1 + 1 + 1 + 1 + 1 + 1 + 1 + 1 + 1 + 1 + 1 + 1 + 1 + 1) (allocs w1 (objsL w1.heap.size)) := by
  have HA := allocs_at (objsL w1.heap.size) w1
  refine ⟨allocs_bel _ hb, ?_, ?_, ?_⟩
  · exact (Array.getElem?_eq_some_iff.1 (HA 25 _ rfl)).1
  · intro k hk
    have hT := HA 15 _ rfl
    match k, hk with
    | 0, _ => exact ⟨_, _, rfl, cell_lit hT rfl, ops_lit (HA 6 _ rfl) rfl rfl⟩
    | 1, _ => exact ⟨_, _, rfl, cell_lit hT rfl, ops_lit (HA 7 _ rfl) rfl rfl⟩
    | 2, _ => exact ⟨_, _, rfl, cell_lit hT rfl, ops_lit (HA 8 _ rfl) rfl rfl⟩
    | 3, _ => exact ⟨_, _, rfl, cell_lit hT rfl, ops_lit (HA 9 _ rfl) rfl rfl⟩
    | 4, _ => exact ⟨_, _, rfl, cell_lit hT rfl, ops_lit (HA 10 _ rfl) rfl rfl⟩
    | 5, _ => exact ⟨_, _, rfl, cell_lit hT rfl, ops_lit (HA 11 _ rfl) rfl rfl⟩
    | 6, _ => exact ⟨_, _, rfl, cell_lit hT rfl, ops_lit (HA 12 _ rfl) rfl rfl⟩
    | 7, _ => exact ⟨_, _, rfl, cell_lit hT rfl, ops_lit (HA 13 _ rfl) rfl rfl⟩
    | 8, _ => exact ⟨_, _, rfl, cell_lit hT rfl, ops_lit (HA 14 _ rfl) rfl rfl⟩
    | (k + 9), hk => exact absurd hk (by omega)
  · intro k hk
    have hT := HA 25 _ rfl
    match k, hk with
    | 0, _ => exact ⟨_, _, rfl, cell_lit hT rfl, ops_lit (HA 16 _ rfl) rfl rfl⟩
    | 1, _ => exact ⟨_, _, rfl, cell_lit hT rfl, ops_lit (HA 17 _ rfl) rfl rfl⟩
    | 2, _ => exact ⟨_, _, rfl, cell_lit hT rfl, ops_lit (HA 18 _ rfl) rfl rfl⟩
    | 3, _ => exact ⟨_, _, rfl, cell_lit hT rfl, ops_lit (HA 19 _ rfl) rfl rfl⟩
    | 4, _ => exact ⟨_, _, rfl, cell_lit hT rfl, ops_lit (HA 20 _ rfl) rfl rfl⟩
    | 5, _ => exact ⟨_, _, rfl, cell_lit hT rfl, ops_lit (HA 21 _ rfl) rfl rfl⟩
    | 6, _ => exact ⟨_, _, rfl, cell_lit hT rfl, ops_lit (HA 22 _ rfl) rfl rfl⟩
    | 7, _ => exact ⟨_, _, rfl, cell_lit hT rfl, ops_lit (HA 23 _ rfl) rfl rfl⟩
    | 8, _ => exact ⟨_, _, rfl, cell_lit hT rfl, ops_lit (HA 24 _ rfl) rfl rfl⟩
    | (k + 9), hk => exact absurd hk (by omega)
/-- what the law's row needs of memory -/
structure KF (w : World) (T k g m g2 m2 : Nat) (LL MM : List Oq) (W : World) : Prop where
  bel : Below w.heap.size w W
  lt : T + 10 < W.heap.size
  c10 : W.cell? ⟨T, k, none⟩ = some (.slice (some ⟨g, 0, none⟩) m m)
  c11 : W.cell? ⟨T + 10, k, none⟩ = some (.slice (some ⟨g2, 0, none⟩) m2 m2)
  ops : OpsAt W (.slice (some ⟨g, 0, none⟩) m m) LL
  ops2 : OpsAt W (.slice (some ⟨g2, 0, none⟩) m2 m2) MM
theorem KF.later {w : World} {T k g m g2 m2 : Nat} {LL MM : List Oq} {W W' : World} (h : KF w T k g m g2 m2 LL MM W) (hb : Below W.heap.size W W') : KF w T k g m g2 m2 LL MM W' := by
  have hlt := h.lt
  exact ⟨h.bel.trans (hb.mono h.bel.size), Nat.lt_of_lt_of_le h.lt hb.size, (hb.cell (p := ⟨T, k, none⟩) (by show T < _; omega)).trans h.c10, (hb.cell (p := ⟨T + 10, k, none⟩) (by show T + 10 < _; omega)).trans h.c11, h.ops.later hb, h.ops2.later hb⟩
theorem KF.drew {w : World} {T k g m g2 m2 : Nat} {LL MM : List Oq} {W : World} (h : KF w T k g m g2 m2 LL MM W) : KF w T k g m g2 m2 LL MM W.drew := h.later (Below.refl _ W).drew
theorem tab_facts : ∀ i : Fin 9, flN ((tabL[i.val]?).getD []) = (tabM[i.val]?).getD [] := by decide
theorem tab_fit : ∀ i : Fin 9, ((tabL[i.val]?).getD []).all (fun x => decide (x.2.2.length ≤ 1000)) = true ∧ ((tabL[i.val]?).getD []).length ≤ 5 ∧ ((tabM[i.val]?).getD []).length ≤ 5 := by decide

set_option maxRecDepth 8000 in
set_option maxHeartbeats 8000000 in
theorem flipEach_any (z : Int) (w : World) :
    Calls Try.prog 6 #[.int .i64 z] w fun e w' => e = .returned (.bool true) ∧ Below w.heap.size w w' := by
  have HTF := hidden tab_facts
  have HTT := hidden tab_fit
  go_enter Try.func6, Try.ntmps6
  go_wp2_with fail
  refine (alive10_any _).mono ?_
  rintro e w1 ⟨rfl, hb⟩
  have HTAB := hidden (tab_ok w w1 hb)
  clear hb
  go_upto_region 9 with fail
  go_cut [4, 5, 6, 7, 8, 9, 10, 11] from 13 to 69 (fun _ _ _ _ _ _ v10 v11 wx => ∃ T : Nat, v10 = .slice (some ⟨T, 0, none⟩) 9 9 ∧ v11 = .slice (some ⟨T + 10, 0, none⟩) 9 9 ∧ Hid (Tab w T wx))
  case first =>
    go_wp2_with fail
    go_meet
    exact ⟨_, rfl, rfl, HTAB.out⟩
  case rest =>
  obtain ⟨T, rfl, rfl, HT⟩ := hcut
  clear HTAB
  by_cases h0 : z < 0
  · go_wp2_with fail
    go_ret
    exact ⟨rfl, HT.out.bel⟩
  · by_cases h1 : z ≥ 9
    · go_wp2_with fail
      go_ret
      exact ⟨rfl, HT.out.bel⟩
    · obtain ⟨k, rfl⟩ : ∃ k : Nat, z = k := ⟨z.toNat, by omega⟩
      have hk : k < 9 := by omega
      have hki : (k : Int) < 9 := by omega
      have hkd : decide ((k : Int) ≥ 9) = false := by simp; omega
      have hkd2 : decide (9 ≤ (k : Int)) = false := by simp; omega
      obtain ⟨g, m, hm, c10, hops⟩ := HT.out.rowL k hk
      obtain ⟨g2, m2, hm2, c11, hops2⟩ := HT.out.rowM k hk
      have t1 := HTF.out ⟨k, hk⟩
      obtain ⟨f1, f2, f3⟩ := HTT.out ⟨k, hk⟩
      simp only at t1 f1 f2 f3
      generalize (tabL[k]?).getD [] = LL at hops hm t1 f1 f2
      generalize (tabM[k]?).getD [] = MM at hops2 hm2 t1 f3
      have hK : KF w T k g m g2 m2 LL MM wc := ⟨HT.out.bel, HT.out.lt, c10, c11, hops, hops2⟩
      have HF := hidden (fit_of f1)
      have HLL := hidden (show LL.length ≤ 4398046511104 by omega)
      have HLM := hidden (show MM.length ≤ 4398046511104 by omega)
      have HR := hidden t1
      clear t1 f1 f2 f3 hm hm2 c10 c11 hops hops2 HT HTF HTT h0 h1
      go_upto_region 12 with fail
      go_region_held3 (fun X => X.cell? ⟨T, k, none⟩ = some (.slice (some ⟨g, 0, none⟩) m m) ∧ X.cell? ⟨T + 10, k, none⟩ = some (.slice (some ⟨g2, 0, none⟩) m2 m2))
        (first | exact ⟨KF.c10 (by assumption), KF.c11 (by assumption)⟩ | exact ⟨KF.c10 (KF.drew (by assumption)), KF.c11 (KF.drew (by assumption))⟩ | assumption)
        (first
          | (go_at_call 10; with_reducible refine (flip_any _ LL _ ?_ HLL.out HF.out).mono ?_; (· first | exact hK.ops | exact hK.drew.ops); rw [HR.out]; rintro e w5 ⟨v5, rfl, hops5, hb5⟩; have hK5 := KF.later (by first | exact hK | exact hK.drew) hb5)
          | (go_at_call 9; with_reducible refine (psame_any _ _ MM MM _ ?_ ?_ HLM.out HLM.out).mono ?_; (· first | exact hops5 | exact hops5.later (Below.refl _ _).drew); (· first | exact hK5.ops2 | exact hK5.drew.ops2); rw [decide_eq_true (Eq.refl MM)]; rintro e w6 ⟨rfl, hb6⟩; have hK6 := KF.later (by first | exact hK5 | exact hK5.drew) hb6))
      have HB := hidden hK6.bel
      clear hK hK5 hK6 hops5 hb5 hb6
      go_wp2_with fail
      go_ret
      exact ⟨by first | rfl | simp, HB.out⟩
end Fe

end Go.Proofs.Ytebikpdjamnhbaa
