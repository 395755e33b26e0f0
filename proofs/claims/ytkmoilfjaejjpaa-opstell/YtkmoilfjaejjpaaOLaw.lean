/-
  What the law's own Few, Known and alive, and the document's SameTexts, answer at any steps or texts that lie in memory; conditions: the lists' and texts' lengths.
-/
import Derived.Test.YtkmoilfjaejjpaaONorm
import Derived.Test.YtkmoilfjaejjpaaOPRight
namespace Go.Proofs.Ytkmoilfjaejjpaa
open Go.RowKit Go.Proofs.Ytkmoilfjaejjpaa.Ln Go.Proofs.Ytkmoilfjaejjpaa.Ol

set_option maxHeartbeats 2000000 in
theorem few_any (v : Value) (xs : List Oq) (w : World) (hr : OpsAt w v xs) (hl : xs.length ≤ 4398046511104) :
    Calls Try.prog 10 #[v] w fun e w' => (∃ c : Bool, e = .returned (.bool c)) ∧ w' = w := by
  by_cases hne : xs = []
  · subst hne
    obtain ⟨ao, cap, rfl⟩ := hr.shape
    clear hr
    go_enter Try.func10, Try.ntmps10
    go_wp2_with fail
    refine wp_loop_rounds 1 ?_
    rw [rounds_succ]
    go_wp2_with fail
    go_ret
    exact ⟨⟨_, rfl⟩, rfl⟩
  · obtain ⟨b, o, cap, rfl, hcap, hb, hc⟩ := hr.cells hne
    have HC := hidden hc
    clear hr hc hne
    go_enter Try.func10, Try.ntmps10
    go_wp2_with fail
    go_loopw [3, 4] (fun q i wr => ∃ (k : Nat) (z : Int), k ≤ xs.length ∧ q = .int .i64 z ∧ i = .int .i64 k ∧ wr = w) (fun _ i _ => xs.length - (intOf i).toNat)
    case atStart => exact ⟨0, 0, Nat.zero_le _, rfl, rfl, rfl⟩
    case round =>
      obtain ⟨k, z, hk, rfl, rfl, rfl⟩ := hrel
      by_cases hlt : k < xs.length
      · obtain ⟨x1, x2, x3, hx⟩ := op_some hlt
        obtain ⟨c1, c2, c3⟩ := three_later hb (Below.refl _ _) (HC.out k _ hx)
        simp only at c1 c2 c3
        clear hx
        go_wp2_with fail
        go_roundw
        case rel => exact ⟨k + 1, _, by omega, rfl, by go_num, by first | rfl | trivial⟩
        case measure => simp [intOf]; omega
      · go_wp2_with fail
        go_ret
        exact ⟨⟨_, rfl⟩, by first | rfl | trivial⟩

/-- a list of texts lies in memory -/
def RowAt (w : World) (v : Value) (xs : List Tx) : Prop :=
  (xs = [] ∧ ∃ ao cap, v = .slice ao 0 cap) ∨ ∃ b o cap, v = .slice (some ⟨b, o, none⟩) xs.length cap ∧ xs.length ≤ cap ∧ b < w.heap.size ∧ ∀ (j : Nat) x, xs[j]? = some x → w.cell? ⟨b, o + j, none⟩ = some (S x)
theorem RowAt.later {w w' : World} {v : Value} {xs : List Tx} (h : RowAt w v xs) (hb : Below w.heap.size w w') : RowAt w' v xs := by
  rcases h with h | ⟨b, o, cap, h1, h2, h3, h4⟩
  · exact Or.inl h
  · refine Or.inr ⟨b, o, cap, h1, h2, Nat.lt_of_lt_of_le h3 hb.size, fun j x hx => ?_⟩
    rw [hb.cell (p := ⟨b, o + j, none⟩) h3]
    exact h4 j x hx
theorem RowAt.of_owns {w : World} {B n : Nat} {v : Value} {xs : List Tx} (h : w.ownsRow B 9 1 v n (xs.map S)) : RowAt w v xs := by
  have hn : xs.length = n := by simpa using h.1
  rcases h.2 with ⟨rfl, h0⟩ | ⟨g, cap, cur, hv, hB, hg, hc, hm, hs, ht⟩
  · exact Or.inl ⟨List.eq_nil_of_length_eq_zero (by omega), none, 0, rfl⟩
  · refine Or.inr ⟨g, 0, cap, by rw [hn]; exact hv, by omega, (Array.getElem?_eq_some_iff.1 hg).1, fun j x hx => ?_⟩
    have := h.cells (g := g) (by rw [hv]; rfl) j (S x) (by simp [hx])
    rw [addr_add] at this
    exact this
theorem RowAt.shape {w : World} {v : Value} {xs : List Tx} (h : RowAt w v xs) : ∃ ao cap, v = .slice ao xs.length cap := by
  rcases h with ⟨rfl, ao, cap, rfl⟩ | ⟨b, o, cap, rfl, _⟩
  · exact ⟨ao, cap, rfl⟩
  · exact ⟨_, cap, rfl⟩
theorem RowAt.cells {w : World} {v : Value} {xs : List Tx} (h : RowAt w v xs) (hne : xs ≠ []) : ∃ b o cap, v = .slice (some ⟨b, o, none⟩) xs.length cap ∧ xs.length ≤ cap ∧ b < w.heap.size ∧ ∀ (j : Nat) x, xs[j]? = some x → w.cell? ⟨b, o + j, none⟩ = some (S x) := by
  rcases h with ⟨rfl, _⟩ | h
  · exact absurd rfl hne
  · exact h

set_option maxHeartbeats 1000000 in
theorem sameTexts_any (v u : Value) (xs ys : List Tx) (w : World) (hr : RowAt w v xs) (hq : RowAt w u ys) (hl : xs.length ≤ 4398046511104) (hm : ys.length ≤ 4398046511104) :
    Calls Try.prog 23 #[v, u] w fun e w' => e = .returned (.bool (decide (xs = ys))) ∧ Below w.heap.size w w' := by
  by_cases hlen : xs.length = ys.length
  · by_cases hne : xs.length = 0
    · have hx : xs = [] := List.eq_nil_of_length_eq_zero hne
      have hy : ys = [] := List.eq_nil_of_length_eq_zero (by omega)
      subst hx hy
      obtain ⟨ao, cap, rfl⟩ := hr.shape
      obtain ⟨bo, cap', rfl⟩ := hq.shape
      clear hr hq
      go_enter Try.func23, Try.ntmps23
      go_wp2
      refine wp_loop_rounds 1 ?_
      rw [rounds_succ]
      go_wp2
      go_ret
      exact ⟨rfl, Below.refl _ _⟩
    · obtain ⟨b, o, cap, rfl, hcap, hb, hc⟩ := hr.cells (by intro h; simp [h] at hne)
      obtain ⟨b', o', cap', rfl, hcap', hb', hc'⟩ := hq.cells (by intro h; simp [h] at hlen; simp [hlen] at hne)
      clear hr hq
      have HC : Hid (∀ (j : Nat) x, xs[j]? = some x → w.cell? ⟨b, o + j, none⟩ = some (S x)) := hc
      have HC' : Hid (∀ (j : Nat) x, ys[j]? = some x → w.cell? ⟨b', o' + j, none⟩ = some (S x)) := hc'
      have hbn : ((xs.length : Int) != (ys.length : Int)) = false := by simp [hlen]
      have HL : Hid (xs.length = ys.length) := hlen
      have h1 : xs.length ≤ ys.length := by omega
      have h2 : ys.length ≤ xs.length := by omega
      clear hc hc' hlen
      go_enter Try.func23, Try.ntmps23
      go_wp2
      go_loopw [5] (fun i wr => ∃ k : Nat, k ≤ xs.length ∧ i = .int .i64 k ∧ Hid (∀ j, j < k → xs[j]? = ys[j]?) ∧ Hid (Below w.heap.size w wr))
        (fun i _ => xs.length - (intOf i).toNat)
      case atStart => exact ⟨0, Nat.zero_le _, rfl, (fun j hj => absurd hj (Nat.not_lt_zero _)), Below.refl _ _⟩
      case round =>
        obtain ⟨k, hk, rfl, hsame, hbl⟩ := hrel
        by_cases hlt : k < xs.length
        · obtain ⟨x, hx⟩ : ∃ x, xs[k]? = some x := ⟨xs[k], List.getElem?_eq_getElem hlt⟩
          obtain ⟨y, hy⟩ : ∃ y, ys[k]? = some y := ⟨ys[k]'(by omega), List.getElem?_eq_getElem _⟩
          have hcell : wr.cell? ⟨b, o + k, none⟩ = some (.string ⟨x.toArray⟩) := (hbl.out.cell (p := ⟨b, o + k, none⟩) hb).trans (HC.out k x hx)
          have hcell' : wr.cell? ⟨b', o' + k, none⟩ = some (.string ⟨y.toArray⟩) := (hbl.out.cell (p := ⟨b', o' + k, none⟩) hb').trans (HC'.out k y hy)
          have HX : Hid (xs[k]? = some x) := hx
          have HY : Hid (ys[k]? = some y) := hy
          clear hx hy
          go_wp2
          go_quiet (fail)
          go_wp2
          · go_ret
            have hne2 : ¬ x = y := by have h : (!x == y) = true := by assumption
                                      simpa using h
            exact ⟨ret_bool (by have : xs ≠ ys := fun h => hne2 (by have a := HX.out; have b := HY.out; rw [h] at a; rw [a] at b; simpa using b)
                                simp [this]), below_drewN hbl.out nq⟩
          · have hxy : x = y := by have h : (!x == y) = false := by assumption
                                   simpa using h
            have H : ∀ j, j < k + 1 → xs[j]? = ys[j]? := fun j hj => by
              by_cases hjk : j = k
              · rw [hjk, HX.out, HY.out, hxy]
              · exact hsame.out j (by omega)
            have hb2 := below_drewN hbl.out nq
            clear hxy
            go_roundw
            case rel => exact ⟨k + 1, by omega, by go_num, H, hb2⟩
            case measure => simp [intOf]; omega
        · go_wp2
          go_ret
          exact ⟨ret_bool (by rw [same_of xs ys HL.out (fun j hj => hsame.out j (by omega))]; simp), hbl.out⟩
  · obtain ⟨ao, cap, rfl⟩ := hr.shape
    obtain ⟨bo, cap', rfl⟩ := hq.shape
    clear hr hq
    have hbn : ((xs.length : Int) != (ys.length : Int)) = true := by simp; omega
    go_enter Try.func23, Try.ntmps23
    go_wp2
    go_ret
    exact ⟨ret_bool (by have : xs ≠ ys := fun h => hlen (by rw [h])
                        simp [this]), Below.refl _ _⟩

theorem kn_len (but : Int) (l : List Oq) : (kn but l).length ≤ l.length := by
  unfold kn; rw [List.length_map]; exact List.length_filter_le _ _
theorem kn_on {but : Int} {xs : List Oq} {k : Nat} {x : Oq} (h : xs[k]? = some x) (h1 : ¬ x.1 = 1) (h2 : ¬ x.1 = but) : kn but (xs.take (k + 1)) = kn but (xs.take k) ++ [x.2.2] := by
  rw [take_snoc h, kn_app]; simp [kn, h1, h2]
theorem kn_skip {but : Int} {xs : List Oq} {k : Nat} {x : Oq} (h : xs[k]? = some x) (h1 : x.1 = 1 ∨ x.1 = but) : kn but (xs.take (k + 1)) = kn but (xs.take k) := by
  rw [take_snoc h, kn_app, kn_off but [x] (by simpa using h1), List.append_nil]
theorem one_new (w : World) (u : Value) (t : TypeId) (n : Nat) (hn : w.heap.size = n) : ∀ j z, [u][j]? = some z → (w.alloc (.cells #[u] t)).cell? ((⟨n, 0, none⟩ : Addr).add j) = some z := by
  intro j z hj
  subst hn
  match j, hj with
  | 0, hj => simp at hj; subst hj; simp [Addr.add]
  | (j + 1), hj => simp at hj

set_option maxHeartbeats 2000000 in
theorem known_any (but : Int) (v : Value) (xs : List Oq) (w : World) (hr : OpsAt w v xs) (hl : xs.length ≤ 4398046511104) :
    Calls Try.prog 24 #[v, .int .i64 but] w fun e w' => ∃ v', e = .returned v' ∧ RowAt w' v' (kn but xs) ∧ Below w.heap.size w w' := by
  obtain ⟨i0, hi, hz0, hz1, hz2⟩ := info_parts Try.infoStr
  by_cases hne : xs = []
  · subst hne
    obtain ⟨ao, cap, rfl⟩ := hr.shape
    clear hr
    go_enter Try.func24, Try.ntmps24
    go_wp2_with fail
    refine wp_loop_rounds 1 ?_
    rw [rounds_succ]
    go_wp2_with fail
    go_ret
    exact ⟨_, rfl, Or.inl ⟨rfl, _, _, rfl⟩, Below.refl _ _⟩
  · obtain ⟨b, o, cap, rfl, hcap, hb, hc⟩ := hr.cells hne
    have HC := hidden hc
    clear hr hc hne
    go_enter Try.func24, Try.ntmps24
    go_wp2_with fail
    go_loopw [5, 6] (fun q i wr => ∃ (k n : Nat) (ts : List Tx), k ≤ xs.length ∧ n ≤ k ∧ i = .int .i64 k ∧ Hid (ts = kn but (xs.take k) ∧ wr.ownsRow w.heap.size 9 1 q n (ts.map S) ∧ Below w.heap.size w wr)) (fun _ i _ => xs.length - (intOf i).toNat)
    case atStart => exact ⟨0, 0, [], Nat.zero_le _, Nat.le_refl _, rfl, rfl, ⟨rfl, Or.inl ⟨rfl, rfl⟩⟩, Below.refl _ _⟩
    case round =>
      obtain ⟨k, n, ts, hk, hn, rfl, hts⟩ := hrel
      by_cases hlt : k < xs.length
      · obtain ⟨x1, x2, x3, hx⟩ := op_some hlt
        obtain ⟨c1, c2, c3⟩ := three_later hb hts.out.2.2 (HC.out k _ hx)
        simp only at c1 c2 c3
        have HX := hidden hx
        have hws := hts.out.2.2.size
        clear hx
        by_cases h1 : x1 = 1
        · subst h1
          have HS := hidden (kn_skip (but := but) HX.out (Or.inl rfl))
          go_wp2_with fail
          go_roundw
          case rel => exact ⟨k + 1, n, ts, by omega, by omega, by go_num, by rw [HS.out]; exact hts.out.1, hts.out.2⟩
          case measure => simp [intOf]; omega
        · have h1b : (x1 == 1) = false := by simpa using h1
          have h1c : (x1 != 1) = true := by simpa using h1
          by_cases h2 : x1 = but
          · have HS := hidden (kn_skip (but := but) HX.out (Or.inr h2))
            have h2b : (x1 == but) = true := by simpa using h2
            have h2c : (x1 != but) = false := by simp [h2]
            clear h2
            go_wp2_with fail
            go_roundw
            case rel => exact ⟨k + 1, n, ts, by omega, by omega, by go_num, by rw [HS.out]; exact hts.out.1, hts.out.2⟩
            case measure => simp [intOf]; omega
          · have h2b : (x1 == but) = false := by simpa using h2
            have h2c : (x1 != but) = true := by simpa using h2
            have HS := hidden (kn_on (but := but) HX.out h1 h2)
            go_wp2_with (at_builtin; go_must (refine wpList_append_lies _ rfl (.tmp 28) (.tmp 34) 29 rfl w.heap.size 9 i0 (.string ⟨#[]⟩) 1 16 Try.underlying29 hi hz0 hz1 hz2 rfl (by decide) _ n (ts.map S) rfl (hts.out.2.1.alloc _) ⟨wr.heap.size, 0, none⟩ 1 1 [S x3] rfl rfl (one_new _ _ _ _ rfl) (by simp [S]; rfl) (by decide) (by unfold maxLen; omega) (by omega) (by simp; omega) _ rfl ?_; intro g cp w9 hown9 hgrow9 hat9 hlt9))
            have HN := hidden (show w9.ownsRow w.heap.size 9 1 (.slice (some ⟨g, 0, none⟩) (n + 1) cp) (n + 1) ((ts ++ [x3]).map S) ∧ Below w.heap.size w w9 from ⟨by rw [List.map_append]; exact hown9, (bel_alloc hts.out.2.2 _).grown hgrow9 (by simp; omega) (fun j ej => ((hts.out.2.1.alloc (.cells #[S x3] 9)).lt j ej).1)⟩)
            clear hown9 hgrow9 hat9
            go_roundw
            case rel => exact ⟨k + 1, n + 1, ts ++ [x3], by omega, by omega, by go_num, by rw [HS.out, hts.out.1], HN.out⟩
            case measure => simp [intOf]; omega
      · have HE := hidden (show ts = kn but xs by have := hts.out.1; rw [List.take_of_length_le (by omega)] at this; exact this)
        go_wp2_with fail
        go_ret
        exact ⟨_, rfl, by rw [← HE.out]; exact RowAt.of_owns hts.out.2.1, hts.out.2.2⟩

/-- steps that are written down -/
theorem ops_lit {W : World} {b n : Nat} {xs : List Oq} {cs : Array Value} (h : W.heap[b]? = some (.cells cs 33 (0, 0))) (hc : cs.toList = cellsO xs) (hn : n = xs.length) : OpsAt W (.slice (some ⟨b, 0, none⟩) n n) xs := by
  subst hn
  refine Or.inr ⟨b, 0, _, rfl, Nat.le_refl _, (Array.getElem?_eq_some_iff.1 h).1, fun j e he => ?_⟩
  obtain ⟨c1, c2, c3⟩ := cellsO_at xs j e he
  rw [← hc] at c1 c2 c3
  refine ⟨?_, ?_, ?_⟩
  · unfold World.cell?; rw [h]; simpa using c1
  · unfold World.cell?; rw [h]; simpa using c2
  · unfold World.cell?; rw [h]; simpa using c3
/-- the steps that the document names -/
def L0 : List Oq := [(1, 3, []), (4, 0, [97, 10])]
theorem fit_of {xs : List Oq} (h : xs.all (fun x => decide (x.2.2.length ≤ 1000)) = true) : Fit xs := fun x hx => by
  have := List.all_eq_true.1 h x hx
  simp at this
  omega

set_option maxHeartbeats 2000000 in
theorem alive_any (w : World) : Calls Try.prog 9 #[] w fun e w' => e = .returned (.bool true) ∧ Below w.heap.size w w' := by
  have HL := hidden (show OpsAt (w.alloc (.cells #[.int .i64 1, .int .i64 3, .string ⟨#[]⟩, .int .i64 4, .int .i64 0, .string ⟨#[97, 10]⟩] 33)) (.slice (some ⟨w.heap.size, 0, none⟩) 2 2) L0 from ops_lit (World.alloc_heap_new w _) rfl rfl)
  have HF := hidden (fit_of (xs := L0) rfl)
  have HF0 := hidden (fit_of (xs := []) rfl)
  have HB0 := hidden (show Below w.heap.size w (w.alloc (.cells #[.int .i64 1, .int .i64 3, .string ⟨#[]⟩, .int .i64 4, .int .i64 0, .string ⟨#[97, 10]⟩] 33)) from bel_alloc (Below.refl _ _) _)
  go_enter Try.func9, Try.ntmps9
  go_wp2_with fail
  generalize World.alloc w _ = w0 at HL HB0 ⊢
  refine (oright_any _ [] w0 (OpsAt.nil _ _ _) (by simp) HF0.out).mono ?_
  rw [show right [] = true from rfl]
  rintro e w1 ⟨rfl, hb⟩
  have HL1 := hidden (HL.out.later hb)
  have HB1 := hidden (HB0.out.trans (hb.mono HB0.out.size))
  clear hb
  go_wp2_with fail
  refine (oright_any _ L0 w1 HL1.out (by simp [L0]) HF.out).mono ?_
  rw [show right L0 = true by decide]
  rintro e w2 ⟨rfl, hb⟩
  have HL2 := hidden (HL1.out.later hb)
  have HB2 := hidden (HB1.out.trans (hb.mono HB1.out.size))
  clear hb
  go_wp2_with fail
  refine (oolds_any _ L0 w2 HL2.out (by simp [L0])).mono ?_
  rw [show cnt 3 L0 = 3 by decide]
  rintro e w3 ⟨rfl, hb⟩
  have HL3 := hidden (HL2.out.later hb)
  have HB3 := hidden (HB2.out.trans (hb.mono HB2.out.size))
  clear hb
  go_wp2_with fail
  refine (onews_any _ L0 w3 HL3.out (by simp [L0])).mono ?_
  rw [show cnt 4 L0 = 4 by decide]
  rintro e w4 ⟨rfl, hb⟩
  have HL4 := hidden (HL3.out.later hb)
  have HB4 := hidden (HB3.out.trans (hb.mono HB3.out.size))
  clear hb
  go_wp2_with fail
  refine (ochanges_any _ L0 w4 HL4.out (by simp [L0])).mono ?_
  rw [show ((chs L0 : Nat) : Int) = 1 by decide]
  rintro e w5 ⟨rfl, hb⟩
  have HL5 := hidden (HL4.out.later hb)
  have HB5 := hidden (HB4.out.trans (hb.mono HB4.out.size))
  clear hb
  go_wp2_with fail
  refine (onorm_any _ L0 w5 HL5.out (by simp [L0]) HF.out).mono ?_
  rw [show normL L0 = L0 by decide]
  rintro e w6 ⟨v6, rfl, hv6, hb⟩
  have HV6 := hidden hv6
  have HL6 := hidden (HL5.out.later hb)
  have HB6 := hidden (HB5.out.trans (hb.mono HB5.out.size))
  clear hb hv6
  go_wp2_with fail
  refine (osame_any _ _ L0 L0 w6 HV6.out HL6.out (by simp [L0]) (by simp [L0])).mono ?_
  rw [show decide (L0 = L0) = true by simp]
  rintro e w7 ⟨rfl, hb⟩
  have HB7 := hidden (HB6.out.trans (hb.mono HB6.out.size))
  clear hb
  go_wp2_with fail
  go_ret
  exact ⟨rfl, HB7.out⟩

end Go.Proofs.Ytkmoilfjaejjpaa
