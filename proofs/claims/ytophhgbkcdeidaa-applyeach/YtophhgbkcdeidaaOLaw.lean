
/-
  What the law's own Few, Known and alive answer at any steps or texts that lie in memory; conditions: the lists' and texts' lengths.
-/
import Derived.Test.YtophhgbkcdeidaaONorm
import Derived.Test.YtophhgbkcdeidaaORow
import Derived.Test.YtophhgbkcdeidaaOPRight
namespace Go.Proofs.Ytophhgbkcdeidaa
open Go.RowKit Go.Proofs.Ytophhgbkcdeidaa.Ln Go.Proofs.Ytophhgbkcdeidaa.Ol

set_option maxHeartbeats 2000000 in
theorem few_any (v : Value) (xs : List Oq) (w : World) (hr : OpsAt w v xs) (hl : xs.length ≤ 4398046511104) :
    Calls Try.prog 10 #[v] w fun e w' => (∃ c : Bool, e = .returned (.bool c)) ∧ w' = w := by
  by_cases hne : xs = []
  · subst hne
    obtain ⟨ao, cap, rfl⟩ := hr.shape
    clear hr
    go_enter Try.func10, Try.ntmps10
    go_wp2_with fail
    refine wp_loop_rounds 1 ?_
    rw [rounds_succ]
    go_wp2_with fail
    go_ret
    exact ⟨⟨_, rfl⟩, rfl⟩
  · obtain ⟨b, o, cap, rfl, hcap, hb, hc⟩ := hr.cells hne
    have HC := hidden hc
    clear hr hc hne
    go_enter Try.func10, Try.ntmps10
    go_wp2_with fail
    go_loopw [3, 4] (fun q i wr => ∃ (k : Nat) (z : Int), k ≤ xs.length ∧ q = .int .i64 z ∧ i = .int .i64 k ∧ wr = w) (fun _ i _ => xs.length - (intOf i).toNat)
    case atStart => exact ⟨0, 0, Nat.zero_le _, rfl, rfl, rfl⟩
    case round =>
      obtain ⟨k, z, hk, rfl, rfl, rfl⟩ := hrel
      by_cases hlt : k < xs.length
      · obtain ⟨x1, x2, x3, hx⟩ := op_some hlt
        obtain ⟨c1, c2, c3⟩ := three_later hb (Below.refl _ _) (HC.out k _ hx)
        simp only at c1 c2 c3
        clear hx
        go_wp2_with fail
        go_roundw
        case rel => exact ⟨k + 1, _, by omega, rfl, by go_num, by first | rfl | trivial⟩
        case measure => simp [intOf]; omega
      · go_wp2_with fail
        go_ret
        exact ⟨⟨_, rfl⟩, by first | rfl | trivial⟩

theorem kn_len (but : Int) (l : List Oq) : (kn but l).length ≤ l.length := by
  unfold kn; rw [List.length_map]; exact List.length_filter_le _ _
theorem kn_on {but : Int} {xs : List Oq} {k : Nat} {x : Oq} (h : xs[k]? = some x) (h1 : ¬ x.1 = 1) (h2 : ¬ x.1 = but) : kn but (xs.take (k + 1)) = kn but (xs.take k) ++ [x.2.2] := by
  rw [take_snoc h, kn_app]; simp [kn, h1, h2]
theorem kn_skip {but : Int} {xs : List Oq} {k : Nat} {x : Oq} (h : xs[k]? = some x) (h1 : x.1 = 1 ∨ x.1 = but) : kn but (xs.take (k + 1)) = kn but (xs.take k) := by
  rw [take_snoc h, kn_app, kn_off but [x] (by simpa using h1), List.append_nil]
/-- steps that are written down -/
theorem ops_lit {W : World} {b n : Nat} {xs : List Oq} {cs : Array Value} (h : W.heap[b]? = some (.cells cs 34 (0, 0))) (hc : cs.toList = cellsO xs) (hn : n = xs.length) : OpsAt W (.slice (some ⟨b, 0, none⟩) n n) xs := by
  subst hn
  refine Or.inr ⟨b, 0, _, rfl, Nat.le_refl _, (Array.getElem?_eq_some_iff.1 h).1, fun j e he => ?_⟩
  obtain ⟨c1, c2, c3⟩ := cellsO_at xs j e he
  rw [← hc] at c1 c2 c3
  refine ⟨?_, ?_, ?_⟩
  · unfold World.cell?; rw [h]; simpa using c1
  · unfold World.cell?; rw [h]; simpa using c2
  · unfold World.cell?; rw [h]; simpa using c3
/-- the steps that the document names -/
def L0 : List Oq := [(1, 3, []), (4, 0, [97, 10])]
theorem fit_of {xs : List Oq} (h : xs.all (fun x => decide (x.2.2.length ≤ 1000)) = true) : Fit xs := fun x hx => by
  have := List.all_eq_true.1 h x hx
  simp at this
  omega

set_option maxHeartbeats 2000000 in
theorem alive_any (w : World) : Calls Try.prog 22 #[] w fun e w' => e = .returned (.bool true) ∧ Below w.heap.size w w' := by
  have HL := hidden (show OpsAt (w.alloc (.cells #[.int .i64 1, .int .i64 3, .string ⟨#[]⟩, .int .i64 4, .int .i64 0, .string ⟨#[97, 10]⟩] 34)) (.slice (some ⟨w.heap.size, 0, none⟩) 2 2) L0 from ops_lit (World.alloc_heap_new w _) rfl rfl)
  have HF := hidden (fit_of (xs := L0) rfl)
  have HF0 := hidden (fit_of (xs := []) rfl)
  have HB0 := hidden (show Below w.heap.size w (w.alloc (.cells #[.int .i64 1, .int .i64 3, .string ⟨#[]⟩, .int .i64 4, .int .i64 0, .string ⟨#[97, 10]⟩] 34)) from bel_alloc (Below.refl _ _) _)
  go_enter Try.func22, Try.ntmps22
  go_wp2_with fail
  generalize World.alloc w _ = w0 at HL HB0 ⊢
  refine (oright_any _ [] w0 (OpsAt.nil _ _ _) (by simp) HF0.out).mono ?_
  rw [show right [] = true from rfl]
  rintro e w1 ⟨rfl, hb⟩
  have HL1 := hidden (HL.out.later hb)
  have HB1 := hidden (HB0.out.trans (hb.mono HB0.out.size))
  clear hb
  go_wp2_with fail
  refine (oright_any _ L0 w1 HL1.out (by simp [L0]) HF.out).mono ?_
  rw [show right L0 = true by decide]
  rintro e w2 ⟨rfl, hb⟩
  have HL2 := hidden (HL1.out.later hb)
  have HB2 := hidden (HB1.out.trans (hb.mono HB1.out.size))
  clear hb
  go_wp2_with fail
  refine (oolds_any _ L0 w2 HL2.out (by simp [L0])).mono ?_
  rw [show cnt 3 L0 = 3 by decide]
  rintro e w3 ⟨rfl, hb⟩
  have HL3 := hidden (HL2.out.later hb)
  have HB3 := hidden (HB2.out.trans (hb.mono HB2.out.size))
  clear hb
  go_wp2_with fail
  refine (onews_any _ L0 w3 HL3.out (by simp [L0])).mono ?_
  rw [show cnt 4 L0 = 4 by decide]
  rintro e w4 ⟨rfl, hb⟩
  have HL4 := hidden (HL3.out.later hb)
  have HB4 := hidden (HB3.out.trans (hb.mono HB3.out.size))
  clear hb
  go_wp2_with fail
  refine (ochanges_any _ L0 w4 HL4.out (by simp [L0])).mono ?_
  rw [show ((chs L0 : Nat) : Int) = 1 by decide]
  rintro e w5 ⟨rfl, hb⟩
  have HL5 := hidden (HL4.out.later hb)
  have HB5 := hidden (HB4.out.trans (hb.mono HB4.out.size))
  clear hb
  go_wp2_with fail
  refine (onorm_any _ L0 w5 HL5.out (by simp [L0]) HF.out).mono ?_
  rw [show normL L0 = L0 by decide]
  rintro e w6 ⟨v6, rfl, hv6, hb⟩
  have HV6 := hidden hv6
  have HL6 := hidden (HL5.out.later hb)
  have HB6 := hidden (HB5.out.trans (hb.mono HB5.out.size))
  clear hb hv6
  go_wp2_with fail
  refine (osame_any _ _ L0 L0 w6 HV6.out HL6.out (by simp [L0]) (by simp [L0])).mono ?_
  rw [show decide (L0 = L0) = true by simp]
  rintro e w7 ⟨rfl, hb⟩
  have HB7 := hidden (HB6.out.trans (hb.mono HB6.out.size))
  clear hb
  go_wp2_with fail
  go_ret
  exact ⟨rfl, HB7.out⟩

end Go.Proofs.Ytophhgbkcdeidaa
