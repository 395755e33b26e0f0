
/-
  What the document's own near answers at any steps that lie in memory; conditions: the lists' lengths.
-/
import Derived.Test.YtcjjboomljbmbaaVPlain
import Derived.Test.YtcjjboomljbmbaaORef
namespace Go.Proofs.Ytcjjboomljbmbaa
open Go.RowKit Go.Proofs.Ytcjjboomljbmbaa.Ln Go.Proofs.Ytcjjboomljbmbaa.Ol

theorem dno_at {l : List Oq} {k : Nat} {x : Oq} (h : l[k]? = some x) : dno (l.drop k) = if x.1 = 1 then none else if x.1 = 2 then (dno (l.drop (k + 1))).map (· + 1) else some 0 := by
  obtain ⟨hk, e⟩ := List.getElem?_eq_some_iff.1 h
  rw [List.drop_eq_getElem_cons hk, e]; rfl
theorem dno_back {l : List Oq} {k : Nat} {x : Oq} (h : l[k]? = some x) : dno (l.take (k + 1)).reverse = if x.1 = 1 then none else if x.1 = 2 then (dno (l.take k).reverse).map (· + 1) else some 0 := by
  rw [take_snoc h, List.reverse_append]; rfl
theorem kinds {l : List Oq} (h : ∀ x ∈ l, al0 x) {k : Nat} {x1 x2 : Int} {x3 : Tx} (hx : l[k]? = some (x1, x2, x3)) : x1 = 1 ∨ x1 = 2 ∨ chg (x1, x2, x3) = true := by
  have := h _ (List.mem_of_getElem? hx)
  simp only [al0] at this
  simp only [chg, Bool.or_eq_true, beq_iff_eq]
  rcases this with ⟨h, _⟩ | ⟨h, _⟩ <;> omega
theorem map_succ (o : Option Nat) (n : Nat) : (o.map (· + 1)).map (· + n) = o.map (· + (n + 1)) := by
  cases o with
  | none => rfl
  | some m => simp only [Option.map_some]; congr 1; omega

set_option maxHeartbeats 2000000 in
theorem near_fwd (v : Value) (xs : List Oq) (i a : Nat) (w : World) (hr : OpsAt w v xs) (hl : xs.length ≤ 4398046511104) (hal : ∀ x ∈ xs, al0 x) (hi : i < xs.length) (_ha : a ≤ 1000000) :
    Calls Try.prog 35 #[v, .int .i64 i, .int .i64 1, .int .i64 a] w fun e w' => e = .returned (.bool (lto (dno (xs.drop (i + 1))) a)) ∧ Below w.heap.size w w' := by
  have hne : xs ≠ [] := fun h => by rw [h] at hi; simp at hi
  obtain ⟨b, o, cap, rfl, hcap, hb, hc⟩ := hr.cells hne
  have HC := hidden hc
  have HAL := hidden hal
  clear hr hc hne hal
  go_enter Try.func35, Try.ntmps35
  go_wp2_with fail
  go_loopw [9, 10] (fun q k wr => ∃ n : Nat, i + 1 + n ≤ xs.length ∧ q = .int .i64 n ∧ k = .int .i64 ((i + 1 + n : Nat) : Int) ∧ Hid (dno (xs.drop (i + 1)) = (dno (xs.drop (i + 1 + n))).map (· + n)) ∧ Hid (Below w.heap.size w wr)) (fun _ k _ => xs.length - (intOf k).toNat)
  case atStart => exact ⟨0, by omega, rfl, by go_num, hidden (by cases dno (xs.drop (i + 1)) <;> rfl), Below.refl _ _⟩
  case round =>
    obtain ⟨n, hn, rfl, rfl, hch, hbl⟩ := hrel
    by_cases hlt : i + 1 + n < xs.length
    · obtain ⟨x1, x2, x3, hx⟩ := op_some hlt
      obtain ⟨c1, c2, c3⟩ := three_later hb hbl.out (HC.out (i + 1 + n) _ hx)
      obtain ⟨d1, _, _⟩ := three_later hb (bel_alloc hbl.out (opO x1 x2 x3)) (HC.out (i + 1 + n) _ hx)
      simp only at c1 c2 c3 d1
      have hk := kinds HAL.out hx
      have HD := hidden (dno_at hx)
      clear hx
      cases hg : chg (x1, x2, x3) with
      | true =>
        have HG := hidden hg
        have HR := hidden (show lto (dno (xs.drop (i + 1))) a = decide (n < a) by
          rw [hch.out, HD.out]
          have h12 := (chg_of _).1 HG.out
          simp only at h12
          rw [if_neg (by omega), if_neg (by omega)]
          simp only [Option.map_some, lto, Nat.zero_add])
        clear hg hk
        go_wp2_with (go_at_call 52; refine (change_any x1 x2 x3 _).mono ?_; rw [HG.out]; rintro e w' ⟨rfl, rfl⟩)
        go_ret
        exact ⟨ret_bool HR.out.symm, bel_alloc hbl.out _⟩
      | false =>
        have HG := hidden hg
        rw [hg] at hk
        clear hg
        by_cases h1 : x1 = 1
        · subst h1
          have HR := hidden (show lto (dno (xs.drop (i + 1))) a = false by rw [hch.out, HD.out]; rfl)
          go_wp2_with (go_at_call 52; refine (change_any 1 x2 x3 _).mono ?_; rw [HG.out]; rintro e w' ⟨rfl, rfl⟩)
          go_ret
          exact ⟨ret_bool HR.out.symm, bel_alloc hbl.out _⟩
        · obtain rfl : x1 = 2 := by rcases hk with h | h | h; exact absurd h h1; exact h; cases h
          have HR := hidden (show dno (xs.drop (i + 1)) = (dno (xs.drop (i + 1 + (n + 1)))).map (· + (n + 1)) by
            rw [hch.out, HD.out, if_neg (show ¬ (2 : Int) = 1 by decide), if_pos rfl, map_succ]; rfl)
          go_wp2_with (go_at_call 52; refine (change_any 2 x2 x3 _).mono ?_; rw [HG.out]; rintro e w' ⟨rfl, rfl⟩)
          go_roundw
          case rel => exact ⟨n + 1, by omega, by go_num, by go_num, HR.out, bel_alloc hbl.out _⟩
          case measure => simp [intOf]; omega
    · have HR := hidden (show lto (dno (xs.drop (i + 1))) a = false by rw [hch.out, List.drop_of_length_le (by omega)]; rfl)
      go_wp2_with fail
      go_ret
      exact ⟨ret_bool HR.out.symm, hbl.out⟩

set_option maxHeartbeats 2000000 in
theorem near_back (v : Value) (xs : List Oq) (i a : Nat) (w : World) (hr : OpsAt w v xs) (hl : xs.length ≤ 4398046511104) (hal : ∀ x ∈ xs, al0 x) (hi : i < xs.length) (_ha : a ≤ 1000000) :
    Calls Try.prog 35 #[v, .int .i64 i, .int .i64 (-1), .int .i64 a] w fun e w' => e = .returned (.bool (lto (dno (xs.take i).reverse) a)) ∧ Below w.heap.size w w' := by
  have hne : xs ≠ [] := fun h => by rw [h] at hi; simp at hi
  obtain ⟨b, o, cap, rfl, hcap, hb, hc⟩ := hr.cells hne
  have HC := hidden hc
  have HAL := hidden hal
  clear hr hc hne hal
  go_enter Try.func35, Try.ntmps35
  go_wp2_with fail
  go_loopw [9, 10] (fun q k wr => ∃ n j : Nat, j + n = i ∧ q = .int .i64 n ∧ k = .int .i64 ((j : Int) - 1) ∧ Hid (dno (xs.take i).reverse = (dno (xs.take j).reverse).map (· + n)) ∧ Hid (Below w.heap.size w wr)) (fun _ k _ => (intOf k + 1).toNat)
  case atStart => exact ⟨0, i, rfl, rfl, by go_num, hidden (by cases dno (xs.take i).reverse <;> rfl), Below.refl _ _⟩
  case round =>
    obtain ⟨n, j, hn, rfl, rfl, hch, hbl⟩ := hrel
    cases j with
    | zero =>
      have HR := hidden (show lto (dno (xs.take i).reverse) a = false by rw [hch.out]; rfl)
      go_wp2_with fail
      go_ret
      exact ⟨ret_bool HR.out.symm, hbl.out⟩
    | succ j =>
      have hlt : j < xs.length := by omega
      obtain ⟨x1, x2, x3, hx⟩ := op_some hlt
      obtain ⟨c1, c2, c3⟩ := three_later hb hbl.out (HC.out j _ hx)
      obtain ⟨d1, _, _⟩ := three_later hb (bel_alloc hbl.out (opO x1 x2 x3)) (HC.out j _ hx)
      simp only at c1 c2 c3 d1
      have hk := kinds HAL.out hx
      have HD := hidden (dno_back hx)
      have hj : ((j + 1 : Nat) : Int) - 1 = j := by omega
      rw [hj]
      clear hx hj
      cases hg : chg (x1, x2, x3) with
      | true =>
        have HG := hidden hg
        have HR := hidden (show lto (dno (xs.take i).reverse) a = decide (n < a) by
          rw [hch.out, HD.out]
          have h12 := (chg_of _).1 HG.out
          simp only at h12
          rw [if_neg (by omega), if_neg (by omega)]
          simp only [Option.map_some, lto, Nat.zero_add])
        clear hg hk
        go_wp2_with (go_at_call 52; refine (change_any x1 x2 x3 _).mono ?_; rw [HG.out]; rintro e w' ⟨rfl, rfl⟩)
        go_ret
        exact ⟨ret_bool HR.out.symm, bel_alloc hbl.out _⟩
      | false =>
        have HG := hidden hg
        rw [hg] at hk
        clear hg
        by_cases h1 : x1 = 1
        · subst h1
          have HR := hidden (show lto (dno (xs.take i).reverse) a = false by rw [hch.out, HD.out]; rfl)
          go_wp2_with (go_at_call 52; refine (change_any 1 x2 x3 _).mono ?_; rw [HG.out]; rintro e w' ⟨rfl, rfl⟩)
          go_ret
          exact ⟨ret_bool HR.out.symm, bel_alloc hbl.out _⟩
        · obtain rfl : x1 = 2 := by rcases hk with h | h | h; exact absurd h h1; exact h; cases h
          have HR := hidden (show dno (xs.take i).reverse = (dno (xs.take j).reverse).map (· + (n + 1)) by
            rw [hch.out, HD.out, if_neg (show ¬ (2 : Int) = 1 by decide), if_pos rfl, map_succ])
          go_wp2_with (go_at_call 52; refine (change_any 2 x2 x3 _).mono ?_; rw [HG.out]; rintro e w' ⟨rfl, rfl⟩)
          go_roundw
          case rel => exact ⟨n + 1, j, by omega, by go_num, by go_num, HR.out, bel_alloc hbl.out _⟩
          case measure => simp [intOf]; omega

end Go.Proofs.Ytcjjboomljbmbaa
