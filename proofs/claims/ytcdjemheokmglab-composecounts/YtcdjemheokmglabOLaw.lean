
/-
  What the law's own Few, Known and alive answer at any steps or texts that lie in memory; conditions: the lists' and texts' lengths.
-/
import Derived.Test.YtcdjemheokmglabONorm
import Derived.Test.YtcdjemheokmglabORow
import Derived.Test.YtcdjemheokmglabOPRight
namespace Go.Proofs.Ytcdjemheokmglab
open Go.RowKit Go.Proofs.Ytcdjemheokmglab.Ln Go.Proofs.Ytcdjemheokmglab.Ol

set_option maxHeartbeats 2000000 in
theorem few_any (v : Value) (xs : List Oq) (w : World) (hr : OpsAt w v xs) (hl : xs.length ≤ 4398046511104) :
    Calls Try.prog 5 #[v] w fun e w' => (∃ c : Bool, e = .returned (.bool c)) ∧ w' = w := by
  by_cases hne : xs = []
  · subst hne
    obtain ⟨ao, cap, rfl⟩ := hr.shape
    clear hr
    go_enter Try.func5, Try.ntmps5
    go_wp2_with fail
    refine wp_loop_rounds 1 ?_
    rw [rounds_succ]
    go_wp2_with fail
    go_ret
    exact ⟨⟨_, rfl⟩, rfl⟩
  · obtain ⟨b, o, cap, rfl, hcap, hb, hc⟩ := hr.cells hne
    have HC := hidden hc
    clear hr hc hne
    go_enter Try.func5, Try.ntmps5
    go_wp2_with fail
    go_loopw [3, 4] (fun q i wr => ∃ (k : Nat) (z : Int), k ≤ xs.length ∧ q = .int .i64 z ∧ i = .int .i64 k ∧ wr = w) (fun _ i _ => xs.length - (intOf i).toNat)
    case atStart => exact ⟨0, 0, Nat.zero_le _, rfl, rfl, rfl⟩
    case round =>
      obtain ⟨k, z, hk, rfl, rfl, rfl⟩ := hrel
      by_cases hlt : k < xs.length
      · obtain ⟨x1, x2, x3, hx⟩ := op_some hlt
        obtain ⟨c1, c2, c3⟩ := three_later hb (Below.refl _ _) (HC.out k _ hx)
        simp only at c1 c2 c3
        clear hx
        go_wp2_with fail
        go_roundw
        case rel => exact ⟨k + 1, _, by omega, rfl, by go_num, by first | rfl | trivial⟩
        case measure => simp [intOf]; omega
      · go_wp2_with fail
        go_ret
        exact ⟨⟨_, rfl⟩, by first | rfl | trivial⟩

theorem kn_len (but : Int) (l : List Oq) : (kn but l).length ≤ l.length := by
  unfold kn; rw [List.length_map]; exact List.length_filter_le _ _
theorem kn_on {but : Int} {xs : List Oq} {k : Nat} {x : Oq} (h : xs[k]? = some x) (h1 : ¬ x.1 = 1) (h2 : ¬ x.1 = but) : kn but (xs.take (k + 1)) = kn but (xs.take k) ++ [x.2.2] := by
  rw [take_snoc h, kn_app]; simp [kn, h1, h2]
theorem kn_skip {but : Int} {xs : List Oq} {k : Nat} {x : Oq} (h : xs[k]? = some x) (h1 : x.1 = 1 ∨ x.1 = but) : kn but (xs.take (k + 1)) = kn but (xs.take k) := by
  rw [take_snoc h, kn_app, kn_off but [x] (by simpa using h1), List.append_nil]
/-- steps that are written down -/
theorem ops_lit {W : World} {b n : Nat} {xs : List Oq} {cs : Array Value} (h : W.heap[b]? = some (.cells cs 30 (0, 0))) (hc : cs.toList = cellsO xs) (hn : n = xs.length) : OpsAt W (.slice (some ⟨b, 0, none⟩) n n) xs := by
  subst hn
  refine Or.inr ⟨b, 0, _, rfl, Nat.le_refl _, (Array.getElem?_eq_some_iff.1 h).1, fun j e he => ?_⟩
  obtain ⟨c1, c2, c3⟩ := cellsO_at xs j e he
  rw [← hc] at c1 c2 c3
  refine ⟨?_, ?_, ?_⟩
  · unfold World.cell?; rw [h]; simpa using c1
  · unfold World.cell?; rw [h]; simpa using c2
  · unfold World.cell?; rw [h]; simpa using c3
/-- the steps that the document names -/
def L0 : List Oq := [(1, 3, []), (4, 0, [97, 10])]
theorem fit_of {xs : List Oq} (h : xs.all (fun x => decide (x.2.2.length ≤ 1000)) = true) : Fit xs := fun x hx => by
  have := List.all_eq_true.1 h x hx
  simp at this
  omega

end Go.Proofs.Ytcdjemheokmglab
