/-
  What the program's first and around answer at any tree that lies in memory: the place of the first of a name, and what stands ahead of and behind what Put makes; the same of its Get and Right; conditions: the tree's length, and of Get the length of the data.
-/
import Derived.Test.YtehhpjgbffcocaaBase
import Derived.Test.YtehhpjgbffcocaaShelf
namespace Go.Proofs.Ytehhpjgbffcocaa
open Go.RowKit Go.Proofs.Ytehhpjgbffcocaa.Tr

theorem eq_name (n : Tx) (B : Nat) (x1 x2 : Tx) (W : World) (hB : B < W.heap.size) (hc : W.cell? ⟨B, 0, none⟩ = some (.string ⟨n.toArray⟩)) :
    Calls Try.prog 23 #[.agg #[.string ⟨x1.toArray⟩, .string ⟨x2.toArray⟩], .pointer (some ⟨B, 0, none⟩)] W fun e w' => e = .returned (.bool (decide (x1 = n))) ∧ Below W.heap.size W w' := by
  have hne : B ≠ W.heap.size := by omega
  have hne2 : ¬ W.heap.size = B := by omega
  go_enter Try.func23, Try.ntmps23
  go_wp2
  go_ret
  exact ⟨ret_bool (by by_cases h : x1 = n <;> simp [h]), (Below.refl _ W).alloc (Nat.le_refl _) _⟩

theorem more_name (n : Tx) (B : Nat) (x1 x2 : Tx) (W : World) (hB : B < W.heap.size) (hc : W.cell? ⟨B, 0, none⟩ = some (.string ⟨n.toArray⟩)) :
    Calls Try.prog 25 #[.agg #[.string ⟨x1.toArray⟩, .string ⟨x2.toArray⟩], .pointer (some ⟨B, 0, none⟩)] W fun e w' => e = .returned (.bool (Op.bytesLess n x1)) ∧ Below W.heap.size W w' := by
  have hne : B ≠ W.heap.size := by omega
  have hne2 : ¬ W.heap.size = B := by omega
  have hle := le_iff x1 n
  have HLE := hidden hle
  clear hle
  go_enter Try.func25, Try.ntmps25
  go_wp2
  go_ret
  exact ⟨ret_bool (by rw [← Bool.not_or, HLE.out]; simp), (Below.refl _ W).alloc (Nat.le_refl _) _⟩


set_option maxHeartbeats 1000000 in
theorem indexEq_any (v : Value) (xs : List En) (n : Tx) (B : Nat) (w : World) (hr : TreeAt w v xs) (hl : xs.length ≤ 1048576) (hB : B < w.heap.size) (hn : w.cell? ⟨B, 0, none⟩ = some (.string ⟨n.toArray⟩)) :
    Calls Try.prog 22 #[v, .func (.func 23) #[] #[.pointer (some ⟨B, 0, none⟩)]] w fun e w' => (∃ z, e = .returned (.int .i64 z) ∧ Place (fun x => x.1 = n) xs z) ∧ Below w.heap.size w w' := by
  have eg : ∀ args w, (callFunc 23 args).run Try.prog w = .ok (.enter 23 args) w := enters_of Try.func23 (by kernel_rfl) rfl
  by_cases hne : xs = []
  · subst hne
    obtain ⟨ao, cap, rfl⟩ := hr.shape
    clear hr
    go_enter Try.func22, Try.ntmps22
    go_wp2
    refine wp_loop_rounds 1 ?_
    rw [rounds_succ]
    go_wp2
    go_ret
    exact ⟨⟨_, rfl, Or.inr ⟨rfl, fun j x hj => by simp at hj⟩⟩, Below.refl _ _⟩
  · obtain ⟨b, o, cap, rfl, hcap, hb, hc⟩ := hr.cells hne
    have HC := hidden hc
    have HN := hidden hn
    clear hr hc hne hn
    go_enter Try.func22, Try.ntmps22
    go_wp2
    go_loopw [5, 8] (fun _ i wr => ∃ k : Nat, k ≤ xs.length ∧ i = .int .i64 k ∧ Hid (∀ (j : Nat) x, j < k → xs[j]? = some x → ¬ x.1 = n) ∧ Hid (Below w.heap.size w wr))
      (fun _ i _ => xs.length - (intOf i).toNat)
    case atStart => exact ⟨0, Nat.zero_le _, rfl, (fun j x hj => absurd hj (Nat.not_lt_zero _)), Below.refl _ _⟩
    case round =>
      obtain ⟨k, hk, rfl, hno, hbl⟩ := hrel
      by_cases hlt : k < xs.length
      · obtain ⟨x1, x2, hx⟩ := at_some hlt
        have hc1 : wr.cell? ⟨b, o + k * 2, none⟩ = some (.string ⟨x1.toArray⟩) := (hbl.out.cell (p := ⟨b, o + k * 2, none⟩) hb).trans (HC.out k _ hx).1
        have hc2 : wr.cell? ⟨b, o + k * 2 + 1, none⟩ = some (.string ⟨x2.toArray⟩) := (hbl.out.cell (p := ⟨b, o + k * 2 + 1, none⟩) hb).trans (HC.out k _ hx).2
        have HX := hidden hx
        have hcall := eq_name n B x1 x2 wr (Nat.lt_of_lt_of_le hB hbl.out.size) ((hbl.out.cell (p := ⟨B, 0, none⟩) hB).trans HN.out)
        clear hx
        cases hq : decide (x1 = n) with
        | true =>
          rw [hq] at hcall
          have HQ := hidden hq
          clear hq
          go_wp2_with (go_at_call 23; refine hcall.mono ?_; rintro e w1 ⟨rfl, hb1⟩)
          have hb2 : Below w.heap.size w w1 := hbl.out.trans (hb1.mono hbl.out.size)
          go_ret
          exact ⟨⟨_, rfl, Or.inl ⟨k, _, rfl, HX.out, by simpa using HQ.out, hno.out⟩⟩, hb2⟩
        | false =>
          rw [hq] at hcall
          have HQ := hidden (none_step HX.out (p := fun x => ¬ x.1 = n) (by simpa using hq) hno.out)
          clear hq
          go_wp2_with (go_at_call 23; refine hcall.mono ?_; rintro e w1 ⟨rfl, hb1⟩)
          have hb2 : Below w.heap.size w w1 := hbl.out.trans (hb1.mono hbl.out.size)
          go_roundw
          case rel => exact ⟨k + 1, by omega, by go_num, HQ.out, hb2⟩
          case measure => simp [intOf]; omega
      · go_wp2
        go_ret
        exact ⟨⟨_, rfl, Or.inr ⟨rfl, fun j x hj hx => hno.out j x (by omega) hx⟩⟩, hbl.out⟩

set_option maxHeartbeats 1000000 in
theorem indexMore_any (v : Value) (xs : List En) (n : Tx) (B : Nat) (w : World) (hr : TreeAt w v xs) (hl : xs.length ≤ 1048576) (hB : B < w.heap.size) (hn : w.cell? ⟨B, 0, none⟩ = some (.string ⟨n.toArray⟩)) :
    Calls Try.prog 22 #[v, .func (.func 25) #[] #[.pointer (some ⟨B, 0, none⟩)]] w fun e w' => (∃ z, e = .returned (.int .i64 z) ∧ Place (fun x => Op.bytesLess n x.1 = true) xs z) ∧ Below w.heap.size w w' := by
  have eg : ∀ args w, (callFunc 25 args).run Try.prog w = .ok (.enter 25 args) w := enters_of Try.func25 (by kernel_rfl) rfl
  by_cases hne : xs = []
  · subst hne
    obtain ⟨ao, cap, rfl⟩ := hr.shape
    clear hr
    go_enter Try.func22, Try.ntmps22
    go_wp2
    refine wp_loop_rounds 1 ?_
    rw [rounds_succ]
    go_wp2
    go_ret
    exact ⟨⟨_, rfl, Or.inr ⟨rfl, fun j x hj => by simp at hj⟩⟩, Below.refl _ _⟩
  · obtain ⟨b, o, cap, rfl, hcap, hb, hc⟩ := hr.cells hne
    have HC := hidden hc
    have HN := hidden hn
    clear hr hc hne hn
    go_enter Try.func22, Try.ntmps22
    go_wp2
    go_loopw [5, 8] (fun _ i wr => ∃ k : Nat, k ≤ xs.length ∧ i = .int .i64 k ∧ Hid (∀ (j : Nat) x, j < k → xs[j]? = some x → ¬ Op.bytesLess n x.1 = true) ∧ Hid (Below w.heap.size w wr))
      (fun _ i _ => xs.length - (intOf i).toNat)
    case atStart => exact ⟨0, Nat.zero_le _, rfl, (fun j x hj => absurd hj (Nat.not_lt_zero _)), Below.refl _ _⟩
    case round =>
      obtain ⟨k, hk, rfl, hno, hbl⟩ := hrel
      by_cases hlt : k < xs.length
      · obtain ⟨x1, x2, hx⟩ := at_some hlt
        have hc1 : wr.cell? ⟨b, o + k * 2, none⟩ = some (.string ⟨x1.toArray⟩) := (hbl.out.cell (p := ⟨b, o + k * 2, none⟩) hb).trans (HC.out k _ hx).1
        have hc2 : wr.cell? ⟨b, o + k * 2 + 1, none⟩ = some (.string ⟨x2.toArray⟩) := (hbl.out.cell (p := ⟨b, o + k * 2 + 1, none⟩) hb).trans (HC.out k _ hx).2
        have HX := hidden hx
        have hcall := more_name n B x1 x2 wr (Nat.lt_of_lt_of_le hB hbl.out.size) ((hbl.out.cell (p := ⟨B, 0, none⟩) hB).trans HN.out)
        clear hx
        cases hq : Op.bytesLess n x1 with
        | true =>
          rw [hq] at hcall
          have HQ := hidden hq
          clear hq
          go_wp2_with (go_at_call 25; refine hcall.mono ?_; rintro e w1 ⟨rfl, hb1⟩)
          have hb2 : Below w.heap.size w w1 := hbl.out.trans (hb1.mono hbl.out.size)
          go_ret
          exact ⟨⟨_, rfl, Or.inl ⟨k, _, rfl, HX.out, by simpa using HQ.out, hno.out⟩⟩, hb2⟩
        | false =>
          rw [hq] at hcall
          have HQ := hidden (none_step HX.out (p := fun x => ¬ Op.bytesLess n x.1 = true) (by simpa using hq) hno.out)
          clear hq
          go_wp2_with (go_at_call 25; refine hcall.mono ?_; rintro e w1 ⟨rfl, hb1⟩)
          have hb2 : Below w.heap.size w w1 := hbl.out.trans (hb1.mono hbl.out.size)
          go_roundw
          case rel => exact ⟨k + 1, by omega, by go_num, HQ.out, hb2⟩
          case measure => simp [intOf]; omega
      · go_wp2
        go_ret
        exact ⟨⟨_, rfl, Or.inr ⟨rfl, fun j x hj hx => hno.out j x (by omega) hx⟩⟩, hbl.out⟩

set_option maxHeartbeats 1000000 in
theorem first_any (v : Value) (xs : List En) (n : Tx) (w : World) (hr : TreeAt w v xs) (hl : xs.length ≤ 1048576) :
    Calls Try.prog 17 #[v, S n] w fun e w' => (∃ z, e = .returned (.int .i64 z) ∧ Place (fun x => x.1 = n) xs z) ∧ Below w.heap.size w w' := by
  have hcon := indexEq_any v xs n w.heap.size (w.alloc (.cells #[.string ⟨n.toArray⟩] 9)) (hr.later ((Below.refl _ w).alloc (Nat.le_refl _) _)) hl (by simp) (by simp)
  unfold S
  clear hr
  go_enter Try.func17, Try.ntmps17
  go_wp2_with fail
  refine hcon.mono ?_
  rintro e w1 ⟨⟨z, rfl, hz⟩, hb⟩
  have HZ := hidden hz
  have HB := hidden (((Below.refl _ w).alloc (Nat.le_refl _) _).trans (hb.mono (by simp)))
  clear hz hb hcon
  go_wp2_with fail
  go_ret
  exact ⟨⟨z, rfl, HZ.out⟩, HB.out⟩

end Go.Proofs.Ytehhpjgbffcocaa
