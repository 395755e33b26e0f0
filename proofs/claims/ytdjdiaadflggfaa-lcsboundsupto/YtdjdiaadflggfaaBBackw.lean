
/-
  What slices.Backward yields of a list of texts; conditions: where the list lies.
-/
import Derived.Test.YtdjdiaadflggfaaBRange
import Derived.Test.YtdjdiaadflggfaaORow
import Derived.Test.YtdjdiaadflggfaaOStay
namespace Go.Proofs.Ytdjdiaadflggfaa
open Go.RowKit Go.Proofs.Ytdjdiaadflggfaa.Ln Go.Proofs.Ytdjdiaadflggfaa.Ol

theorem backw_any (a : Option Addr) (n c : Nat) (w : World) : Calls Try.prog 29 #[.slice a n c] w fun e w' => e = .returned (.func (.func 35) #[] #[.pointer (some ⟨w.heap.size, 0, none⟩)]) ∧ w' = w.alloc (.cells #[.slice a n c] 22) := by
  go_enter Try.func29, Try.ntmps29
  go_wp2
  go_ret
  exact ⟨rfl, rfl⟩

set_option maxHeartbeats 2000000 in
theorem backw1_any (xs : List Tx) (a : Option Addr) (n cp bl l : Nat) (hn : xs.length = n) (hnb : n ≤ 1048576) (J : Nat → World → Prop) (Jx : World → Prop)
    (hb : ∀ p W, J p W → Boxed W bl 22 (.slice a n cp))
    (hr : ∀ p W, J p W → RowAt W (.slice a n cp) xs)
    (hY : ∀ p x W, xs[n - 1 - p]? = some x → p < n → J p W → ∀ m, YieldAt Fence.wide m Try.prog l #[.int .i64 (((n - 1 - p : Nat) : Int)), .string ⟨x.toArray⟩] W fun e W' => (e = .returned (.bool true) ∧ J (p + 1) W') ∨ (e = .returned (.bool false) ∧ Jx W'))
    (W : World) (h0 : J 0 W) :
    Calls Try.prog 35 #[.func (.yield l) #[] #[], .pointer (some ⟨bl, 0, none⟩)] W fun e W' => (∃ v, e = .returned v) ∧ (J n W' ∨ Jx W') := by
  have HY := hidden hY
  have HR := hidden hr
  have HBX := hidden hb
  have HJ := hidden h0
  have HN := hidden hn
  have z0 := (hb 0 W h0).cell
  clear hb hr hY hn
  go_enter Try.func35, Try.ntmps35
  go_wp2_with fail
  go_loopw [3] (fun i wr => ∃ p : Nat, p ≤ n ∧ i = .int .i64 ((n : Int) - 1 - p) ∧ Hid (J p wr)) (fun i _ => ((intOf i) + 1).toNat)
  case atStart => exact ⟨0, Nat.zero_le _, by simp, HJ.out⟩
  case round =>
    obtain ⟨p, hp, rfl, hj⟩ := hrel
    clear HJ
    have z1 := (HBX.out p wr hj.out).cell
    by_cases hlt : p < n
    · obtain ⟨j, hjj⟩ : ∃ j, n - 1 - p = j := ⟨_, rfl⟩
      have hji : (n : Int) - 1 - p = j := by omega
      obtain ⟨x, hx⟩ : ∃ x, xs[j]? = some x := ⟨xs[j]'(by rw [HN.out]; omega), List.getElem?_eq_getElem _⟩
      obtain ⟨b, o, cap, e, hcap, hbl, hc⟩ := (HR.out p wr hj.out).cells (by intro e; have := HN.out; rw [e] at this; simp at this; omega)
      rw [HN.out] at hcap
      have e2 := e
      rw [HN.out] at e2
      cases e2
      have c0 : wr.cell? ⟨b, o + j, none⟩ = some (.string ⟨x.toArray⟩) := hc j x hx
      have hjn : j < n := by omega
      rw [hji]
      have HX := hidden (show xs[n - 1 - p]? = some x by rw [hjj]; exact hx)
      have HJJ := hidden hjj
      have HJ := hidden hj.out
      clear hj hc hx e
      go_upto_region 3 with fail
      refine (wpIn_wide (n := 3)).1 ?_
      obtain ⟨fn, tmps, assign, body, hy, hRo⟩ := HY.out p x wr HX.out hlt HJ.out (3 - 1)
      rw [HJJ.out] at hy
      gi_wp2
      refine hRo.mono ?_
      clear hy hRo c0
      rintro e w4 (⟨rfl, hJ4⟩ | ⟨rfl, hx4⟩)
      · have HJ4 := hidden hJ4
        have hJJ := HJJ.out
        clear hJ4
        gi_wp2
        go_wp2_with fail
        go_roundw
        case rel => exact ⟨p + 1, by omega, by go_num, HJ4.out⟩
        case measure => simp [intOf]
      · have HX4 := hidden hx4
        clear hx4
        gi_wp2
        go_wp2_with fail
        refine bodyPost_ret (results_none rfl _ _ _) rfl ?_
        exact ⟨⟨_, rfl⟩, Or.inr HX4.out⟩
    · obtain rfl : p = n := by omega
      have hz : (p : Int) - 1 - p = -1 := by omega
      rw [hz]
      go_wp2_with fail
      go_end0
      exact ⟨⟨_, rfl⟩, Or.inl hj.out⟩

end Go.Proofs.Ytdjdiaadflggfaa
