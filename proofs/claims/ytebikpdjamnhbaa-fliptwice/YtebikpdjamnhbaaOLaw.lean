
/-
  What the law's own Few, Known and alive answer at any steps or texts that lie in memory; conditions: the lists' and texts' lengths.
-/
import Derived.Test.YtebikpdjamnhbaaONorm
import Derived.Test.YtebikpdjamnhbaaORow
import Derived.Test.YtebikpdjamnhbaaOPRight
namespace Go.Proofs.Ytebikpdjamnhbaa
open Go.RowKit Go.Proofs.Ytebikpdjamnhbaa.Ln Go.Proofs.Ytebikpdjamnhbaa.Ol

set_option maxHeartbeats 2000000 in
theorem few_any (v : Value) (xs : List Oq) (w : World) (hr : OpsAt w v xs) (hl : xs.length ≤ 4398046511104) :
    Calls Try.prog 8 #[v] w fun e w' => (∃ c : Bool, e = .returned (.bool c)) ∧ w' = w := by
  by_cases hne : xs = []
  · subst hne
    obtain ⟨ao, cap, rfl⟩ := hr.shape
    clear hr
    go_enter Try.func8, Try.ntmps8
    go_wp2_with fail
    refine wp_loop_rounds 1 ?_
    rw [rounds_succ]
    go_wp2_with fail
    go_ret
    exact ⟨⟨_, rfl⟩, rfl⟩
  · obtain ⟨b, o, cap, rfl, hcap, hb, hc⟩ := hr.cells hne
    have HC := hidden hc
    clear hr hc hne
    go_enter Try.func8, Try.ntmps8
    go_wp2_with fail
    go_loopw [3, 4] (fun q i wr => ∃ (k : Nat) (z : Int), k ≤ xs.length ∧ q = .int .i64 z ∧ i = .int .i64 k ∧ wr = w) (fun _ i _ => xs.length - (intOf i).toNat)
    case atStart => exact ⟨0, 0, Nat.zero_le _, rfl, rfl, rfl⟩
    case round =>
      obtain ⟨k, z, hk, rfl, rfl, rfl⟩ := hrel
      by_cases hlt : k < xs.length
      · obtain ⟨x1, x2, x3, hx⟩ := op_some hlt
        obtain ⟨c1, c2, c3⟩ := three_later hb (Below.refl _ _) (HC.out k _ hx)
        simp only at c1 c2 c3
        clear hx
        go_wp2_with fail
        go_roundw
        case rel => exact ⟨k + 1, _, by omega, rfl, by go_num, by first | rfl | trivial⟩
        case measure => simp [intOf]; omega
      · go_wp2_with fail
        go_ret
        exact ⟨⟨_, rfl⟩, by first | rfl | trivial⟩

theorem kn_len (but : Int) (l : List Oq) : (kn but l).length ≤ l.length := by
  unfold kn; rw [List.length_map]; exact List.length_filter_le _ _
theorem kn_on {but : Int} {xs : List Oq} {k : Nat} {x : Oq} (h : xs[k]? = some x) (h1 : ¬ x.1 = 1) (h2 : ¬ x.1 = but) : kn but (xs.take (k + 1)) = kn but (xs.take k) ++ [x.2.2] := by
  rw [take_snoc h, kn_app]; simp [kn, h1, h2]
theorem kn_skip {but : Int} {xs : List Oq} {k : Nat} {x : Oq} (h : xs[k]? = some x) (h1 : x.1 = 1 ∨ x.1 = but) : kn but (xs.take (k + 1)) = kn but (xs.take k) := by
  rw [take_snoc h, kn_app, kn_off but [x] (by simpa using h1), List.append_nil]
set_option maxHeartbeats 2000000 in
theorem known_any (but : Int) (v : Value) (xs : List Oq) (w : World) (hr : OpsAt w v xs) (hl : xs.length ≤ 4398046511104) :
    Calls Try.prog 17 #[v, .int .i64 but] w fun e w' => ∃ v', e = .returned v' ∧ RowAt w' v' (kn but xs) ∧ Below w.heap.size w w' := by
  obtain ⟨i0, hi, hz0, hz1, hz2⟩ := info_parts Try.infoStr
  by_cases hne : xs = []
  · subst hne
    obtain ⟨ao, cap, rfl⟩ := hr.shape
    clear hr
    go_enter Try.func17, Try.ntmps17
    go_wp2_with fail
    refine wp_loop_rounds 1 ?_
    rw [rounds_succ]
    go_wp2_with fail
    go_ret
    exact ⟨_, rfl, RowAt.nil _ _ _, Below.refl _ _⟩
  · obtain ⟨b, o, cap, rfl, hcap, hb, hc⟩ := hr.cells hne
    have HC := hidden hc
    clear hr hc hne
    go_enter Try.func17, Try.ntmps17
    go_wp2_with fail
    go_loopw [5, 6] (fun q i wr => ∃ (k n : Nat) (ts : List Tx), k ≤ xs.length ∧ n ≤ k ∧ i = .int .i64 k ∧ Hid (ts = kn but (xs.take k) ∧ wr.ownsRow w.heap.size 9 1 q n (ts.map S) ∧ Below w.heap.size w wr)) (fun _ i _ => xs.length - (intOf i).toNat)
    case atStart => exact ⟨0, 0, [], Nat.zero_le _, Nat.le_refl _, rfl, rfl, ⟨rfl, Or.inl ⟨rfl, rfl⟩⟩, Below.refl _ _⟩
    case round =>
      obtain ⟨k, n, ts, hk, hn, rfl, hts⟩ := hrel
      by_cases hlt : k < xs.length
      · obtain ⟨x1, x2, x3, hx⟩ := op_some hlt
        obtain ⟨c1, c2, c3⟩ := three_later hb hts.out.2.2 (HC.out k _ hx)
        simp only at c1 c2 c3
        have HX := hidden hx
        have hws := hts.out.2.2.size
        clear hx
        by_cases h1 : x1 = 1
        · subst h1
          have HS := hidden (kn_skip (but := but) HX.out (Or.inl rfl))
          go_wp2_with fail
          go_roundw
          case rel => exact ⟨k + 1, n, ts, by omega, by omega, by go_num, by rw [HS.out]; exact hts.out.1, hts.out.2⟩
          case measure => simp [intOf]; omega
        · have h1b : (x1 == 1) = false := by simpa using h1
          have h1c : (x1 != 1) = true := by simpa using h1
          by_cases h2 : x1 = but
          · have HS := hidden (kn_skip (but := but) HX.out (Or.inr h2))
            have h2b : (x1 == but) = true := by simpa using h2
            have h2c : (x1 != but) = false := by simp [h2]
            clear h2
            go_wp2_with fail
            go_roundw
            case rel => exact ⟨k + 1, n, ts, by omega, by omega, by go_num, by rw [HS.out]; exact hts.out.1, hts.out.2⟩
            case measure => simp [intOf]; omega
          · have h2b : (x1 == but) = false := by simpa using h2
            have h2c : (x1 != but) = true := by simpa using h2
            have HS := hidden (kn_on (but := but) HX.out h1 h2)
            go_wp2_with (at_builtin; go_must (refine wpList_append_lies _ rfl (.tmp 28) (.tmp 34) 29 rfl w.heap.size 9 i0 (.string ⟨#[]⟩) 1 16 Try.underlying29 hi hz0 hz1 hz2 rfl (by decide) _ n (ts.map S) rfl (hts.out.2.1.alloc _) ⟨wr.heap.size, 0, none⟩ 1 1 [S x3] rfl rfl (one_new _ _ _ _ rfl) (by simp [S]; rfl) (by decide) (by unfold maxLen; omega) (by omega) (by simp; omega) _ rfl ?_; intro g cp w9 hown9 hgrow9 hat9 hlt9))
            have HN := hidden (show w9.ownsRow w.heap.size 9 1 (.slice (some ⟨g, 0, none⟩) (n + 1) cp) (n + 1) ((ts ++ [x3]).map S) ∧ Below w.heap.size w w9 from ⟨by rw [List.map_append]; exact hown9, (bel_alloc hts.out.2.2 _).grown hgrow9 (by simp; omega) (fun j ej => ((hts.out.2.1.alloc (.cells #[S x3] 9)).lt j ej).1)⟩)
            clear hown9 hgrow9 hat9
            go_roundw
            case rel => exact ⟨k + 1, n + 1, ts ++ [x3], by omega, by omega, by go_num, by rw [HS.out, hts.out.1], HN.out⟩
            case measure => simp [intOf]; omega
      · have HE := hidden (show ts = kn but xs by have := hts.out.1; rw [List.take_of_length_le (by omega)] at this; exact this)
        go_wp2_with fail
        go_ret
        exact ⟨_, rfl, by rw [← HE.out]; exact RowAt.of_owns hts.out.2.1, hts.out.2.2⟩

/-- steps that are written down -/
theorem ops_lit {W : World} {b n : Nat} {xs : List Oq} {cs : Array Value} (h : W.heap[b]? = some (.cells cs 36 (0, 0))) (hc : cs.toList = cellsO xs) (hn : n = xs.length) : OpsAt W (.slice (some ⟨b, 0, none⟩) n n) xs := by
  subst hn
  refine Or.inr ⟨b, 0, _, rfl, Nat.le_refl _, (Array.getElem?_eq_some_iff.1 h).1, fun j e he => ?_⟩
  obtain ⟨c1, c2, c3⟩ := cellsO_at xs j e he
  rw [← hc] at c1 c2 c3
  refine ⟨?_, ?_, ?_⟩
  · unfold World.cell?; rw [h]; simpa using c1
  · unfold World.cell?; rw [h]; simpa using c2
  · unfold World.cell?; rw [h]; simpa using c3
/-- the steps that the document names -/
def L0 : List Oq := [(1, 3, []), (4, 0, [97, 10])]
theorem fit_of {xs : List Oq} (h : xs.all (fun x => decide (x.2.2.length ≤ 1000)) = true) : Fit xs := fun x hx => by
  have := List.all_eq_true.1 h x hx
  simp at this
  omega

end Go.Proofs.Ytebikpdjamnhbaa
