/-
  What the laws' same answers at two lists of ranges that lie in memory, of at most 1048576 ranges: whether they are one; conditions: those lengths.
-/
import Derived.Test.YtdlmddeiopdioaaDoorHas
namespace Go.Proofs.YtdlmddeiopdioaaDoor
open Go.RowKit Go.Proofs.YtdlmddeiopdioaaDoor.Nm

theorem same_of (xs ys : List (Int × Int)) (hl : xs.length = ys.length) (h : ∀ j, j < xs.length → xs[j]? = ys[j]?) : xs = ys := by
  apply List.ext_getElem?
  intro j
  by_cases hj : j < xs.length
  · exact h j hj
  · rw [List.getElem?_eq_none (by omega), List.getElem?_eq_none (by omega)]

set_option maxHeartbeats 1000000 in
theorem same_any (v u : Value) (xs ys : List (Int × Int)) (w : World) (hr : RngAt w v xs) (hq : RngAt w u ys) (hl : xs.length ≤ 1048576) (hm : ys.length ≤ 1048576) :
    Calls Tryd.prog 16 #[v, u] w fun e w' => e = .returned (.bool (decide (xs = ys))) ∧ Below w.heap.size w w' := by
  by_cases hlen : xs.length = ys.length
  · by_cases hne : xs.length = 0
    · have hx : xs = [] := List.eq_nil_of_length_eq_zero hne
      have hy : ys = [] := List.eq_nil_of_length_eq_zero (by omega)
      subst hx hy
      obtain ⟨ao, cap, rfl⟩ := hr.shape
      obtain ⟨bo, cap', rfl⟩ := hq.shape
      clear hr hq
      go_enter Tryd.func16, Tryd.ntmps16
      go_wp2
      refine wp_loop_rounds 1 ?_
      rw [rounds_succ]
      go_wp2
      go_ret
      exact ⟨rfl, Below.refl _ _⟩
    · obtain ⟨b, o, cap, rfl, hcap, hb, hc⟩ := hr.cells (by intro h; simp [h] at hne)
      obtain ⟨b', o', cap', rfl, hcap', hb', hc'⟩ := hq.cells (by intro h; simp [h] at hlen; simp [hlen] at hne)
      clear hr hq
      have HC := hidden hc
      have HC' := hidden hc'
      have hbn : ((xs.length : Int) != (ys.length : Int)) = false := by simp [hlen]
      have HL : Hid (xs.length = ys.length) := hlen
      have h1 : xs.length ≤ ys.length := by omega
      have h2 : ys.length ≤ xs.length := by omega
      clear hc hc' hlen
      go_enter Tryd.func16, Tryd.ntmps16
      go_wp2
      go_loopw [5] (fun i wr => ∃ k : Nat, k ≤ xs.length ∧ i = .int .i64 k ∧ Hid (∀ j, j < k → xs[j]? = ys[j]?) ∧ Hid (Below w.heap.size w wr))
        (fun i _ => xs.length - (intOf i).toNat)
      case atStart => exact ⟨0, Nat.zero_le _, rfl, (fun j hj => absurd hj (Nat.not_lt_zero _)), Below.refl _ _⟩
      case round =>
        obtain ⟨k, hk, rfl, hsame, hbl⟩ := hrel
        by_cases hlt : k < xs.length
        · obtain ⟨⟨x1, x2⟩, hx⟩ : ∃ x, xs[k]? = some x := ⟨xs[k], List.getElem?_eq_getElem hlt⟩
          obtain ⟨⟨y1, y2⟩, hy⟩ : ∃ y, ys[k]? = some y := ⟨ys[k]'(by omega), List.getElem?_eq_getElem _⟩
          have hcell1 : wr.cell? ⟨b, o + k * 2, none⟩ = some (.int .i64 x1) := (hbl.out.cell (p := ⟨b, o + k * 2, none⟩) hb).trans (HC.out k _ hx).1
          have hcell2 : wr.cell? ⟨b, o + k * 2 + 1, none⟩ = some (.int .i64 x2) := (hbl.out.cell (p := ⟨b, o + k * 2 + 1, none⟩) hb).trans (HC.out k _ hx).2
          have hcell3 : wr.cell? ⟨b', o' + k * 2, none⟩ = some (.int .i64 y1) := (hbl.out.cell (p := ⟨b', o' + k * 2, none⟩) hb').trans (HC'.out k _ hy).1
          have hcell4 : wr.cell? ⟨b', o' + k * 2 + 1, none⟩ = some (.int .i64 y2) := (hbl.out.cell (p := ⟨b', o' + k * 2 + 1, none⟩) hb').trans (HC'.out k _ hy).2
          have hlt2 : k < ys.length := by omega
          have HX := hidden hx
          have HY := hidden hy
          clear hx hy
          by_cases e1 : x1 = y1
          · subst e1
            by_cases e2 : x2 = y2
            · subst e2
              have H := hidden (show ∀ j, j < k + 1 → xs[j]? = ys[j]? from fun j hj => by
                by_cases hjk : j = k
                · rw [hjk, HX.out, HY.out]
                · exact hsame.out j (by omega))
              go_wp2
              go_quiet (fail)
              go_wp2
              have hb2 := below_drewN hbl.out nq
              go_roundw
              case rel => exact ⟨k + 1, by omega, by go_num, H.out, hb2⟩
              case measure => simp [intOf]; omega
            · have hne2 : ∀ h : xs = ys, False := fun h => by
                have a := HX.out; have b := HY.out; rw [h] at a; rw [a] at b; simp at b; omega
              have HNE := hidden (show xs ≠ ys from hne2)
              clear hne2
              go_wp2
              go_quiet (fail)
              go_wp2
              go_ret
              exact ⟨ret_bool (by simp [HNE.out]), below_drewN hbl.out nq⟩
          · have hne2 : ∀ h : xs = ys, False := fun h => by
              have a := HX.out; have b := HY.out; rw [h] at a; rw [a] at b; simp at b; omega
            have HNE := hidden (show xs ≠ ys from hne2)
            clear hne2
            go_wp2
            go_quiet (fail)
            go_wp2
            go_ret
            exact ⟨ret_bool (by simp [HNE.out]), below_drewN hbl.out nq⟩
        · go_wp2
          go_ret
          exact ⟨ret_bool (by rw [same_of xs ys HL.out (fun j hj => hsame.out j (by omega))]; simp), hbl.out⟩
  · obtain ⟨ao, cap, rfl⟩ := hr.shape
    obtain ⟨bo, cap', rfl⟩ := hq.shape
    clear hr hq
    have hbn : ((xs.length : Int) != (ys.length : Int)) = true := by simp; omega
    go_enter Tryd.func16, Tryd.ntmps16
    go_wp2
    go_ret
    exact ⟨ret_bool (by have : xs ≠ ys := fun h => hlen (by rw [h])
                        simp [this]), Below.refl _ _⟩

end Go.Proofs.YtdlmddeiopdioaaDoor
