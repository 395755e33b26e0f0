
/-
  How many lines the program finds the same at both beginnings; a step with a text of its own; conditions: how many lines there are.
-/
import Derived.Test.YtdjdiaadflggfaaBLc
import Derived.Test.YtdjdiaadflggfaaHTable
import Derived.Test.YtdjdiaadflggfaaOStay
namespace Go.Proofs.Ytdjdiaadflggfaa
open Go.RowKit Go.Proofs.Ytdjdiaadflggfaa.Ln Go.Proofs.Ytdjdiaadflggfaa.Ol

/-- how many lines at both beginnings are the same -/
def alk : List Tx → List Tx → Nat
  | x :: a, y :: b => if x = y then alk a b + 1 else 0
  | _, _ => 0
theorem alk_le : ∀ a b : List Tx, alk a b ≤ a.length ∧ alk a b ≤ b.length
  | [], _ => ⟨Nat.zero_le _, Nat.zero_le _⟩
  | _ :: _, [] => ⟨Nat.zero_le _, Nat.zero_le _⟩
  | x :: a, y :: b => by
    have := alk_le a b
    unfold alk
    split <;> simp <;> omega
theorem alk_take : ∀ a b : List Tx, a.take (alk a b) = b.take (alk a b)
  | [], b => by simp [alk]
  | _ :: _, [] => by simp [alk]
  | x :: a, y :: b => by
    unfold alk
    split
    · rename_i h; rw [List.take_succ_cons, List.take_succ_cons, h, alk_take a b]
    · rfl
theorem alk_at (a b : List Tx) (k : Nat) {x y : Tx} (hx : a[k]? = some x) (hy : b[k]? = some y) : alk (a.drop k) (b.drop k) = if x = y then alk (a.drop (k + 1)) (b.drop (k + 1)) + 1 else 0 := by
  obtain ⟨h1, e1⟩ := List.getElem?_eq_some_iff.1 hx
  obtain ⟨h2, e2⟩ := List.getElem?_eq_some_iff.1 hy
  rw [List.drop_eq_getElem_cons h1, List.drop_eq_getElem_cons h2, e1, e2]
  rfl
theorem alk_end (a b : List Tx) (k : Nat) (h : a.length ≤ k ∨ b.length ≤ k) : alk (a.drop k) (b.drop k) = 0 := by
  rcases h with h | h
  · rw [List.drop_of_length_le h]; simp [alk]
  · rw [List.drop_of_length_le h]; cases a.drop k <;> simp [alk]
theorem lc_alk (a b : List Tx) : lc a b = alk a b + lc (a.drop (alk a b)) (b.drop (alk a b)) := by
  have h := lc_front (a.take (alk a b)) (a.drop (alk a b)) (b.drop (alk a b))
  rw [List.take_append_drop, alk_take, List.take_append_drop, List.length_take, Nat.min_eq_left (alk_le a b).2] at h
  omega
theorem df_alk : ∀ a b : List Tx, df a b = (a.take (alk a b)).map (fun x => ((2, 0, x) : Oq)) ++ df (a.drop (alk a b)) (b.drop (alk a b))
  | [], b => by simp [alk]
  | x :: a, [] => by simp [alk]
  | x :: a, y :: b => by
    unfold alk
    split
    · rename_i h
      subst h
      rw [df_cons, if_pos ⟨rfl, lc_head x a b⟩, df_alk a b]
      simp
    · simp
/-- where it goes on -/
structure AK (w : World) (a b : List Tx) (k : Nat) (W : World) : Prop where
  bel : Below w.heap.size w W
  eq : alk a b = k + alk (a.drop k) (b.drop k)
set_option maxHeartbeats 2000000 in
theorem balike_any (v u : Value) (a b : List Tx) (w : World) (hA : RowAt w v a) (hB : RowAt w u b) (hla : a.length ≤ 4294967296) (_hlb : b.length ≤ 4294967296) :
    Calls Try.prog 16 #[v, u] w fun e w' => e = .returned (.int .i64 (alk a b)) ∧ Below w.heap.size w w' := by
  obtain ⟨ao, cap, rfl, hca⟩ := hA.open_
  obtain ⟨bo, cap2, rfl, hcb⟩ := hB.open_
  obtain ⟨n, hn⟩ : ∃ n, a.length = n := ⟨_, rfl⟩
  obtain ⟨m, hm⟩ : ∃ m, b.length = m := ⟨_, rfl⟩
  rw [hn] at hla hca ⊢
  rw [hm] at hcb ⊢
  have HN := hidden hn
  have HM := hidden hm
  have HCA := hidden hca
  have HCB := hidden hcb
  have HS := hidden (show AK w a b 0 w from ⟨Below.refl _ _, by simp⟩)
  clear hA hB hca hcb hn hm
  go_enter Try.func16, Try.ntmps16
  go_wp2_with fail
  go_loopw [5] (fun s wr => ∃ k : Nat, k ≤ n ∧ k ≤ m ∧ s = .int .i64 k ∧ Hid (AK w a b k wr)) (fun s _ => n - (intOf s).toNat)
  case atStart => exact ⟨0, Nat.zero_le _, Nat.zero_le _, rfl, HS.out⟩
  case round =>
    obtain ⟨k, hkn, hkm, rfl, hak⟩ := hrel
    clear HS
    by_cases hlt : k < n ∧ k < m
    · obtain ⟨h1, h2⟩ := hlt
      obtain ⟨x, hx⟩ : ∃ x, a[k]? = some x := ⟨a[k]'(by rw [HN.out]; exact h1), List.getElem?_eq_getElem _⟩
      obtain ⟨y, hy⟩ : ∃ y, b[k]? = some y := ⟨b[k]'(by rw [HM.out]; exact h2), List.getElem?_eq_getElem _⟩
      obtain ⟨b1, o1, hao, hcp1, hb1, cx⟩ := HCA.out k x hx
      obtain ⟨b2, o2, hbo, hcp2, hb2, cy⟩ := HCB.out k y hy
      subst hao hbo
      have cx2 := (hak.out.bel.cell (p := ⟨b1, o1 + k, none⟩) hb1).trans cx
      have cy2 := (hak.out.bel.cell (p := ⟨b2, o2 + k, none⟩) hb2).trans cy
      have HE := hidden (alk_at a b k hx hy)
      have hmn : (k : Int) < min (n : Int) m := by omega
      have hmd : decide ((k : Int) < min (n : Int) m) = true := decide_eq_true hmn
      clear hx hy cx cy
      by_cases hxy : x = y
      · subst hxy
        have hqq : (x == x) = true := by simp
        have HK := hidden (show ∀ (W : World), Below w.heap.size w W → AK w a b (k + 1) W from fun _ hb => ⟨hb, by rw [hak.out.eq, HE.out, if_pos rfl]; omega⟩)
        have HB := hidden hak.out.bel
        clear hak HE
        go_wp2_with fail
        go_region
        go_wp2_with fail
        go_roundw
        case rel => exact ⟨k + 1, by omega, by omega, by go_num, HK.out _ (by first | exact HB.out | (with_reducible (repeat (first | exact HB.out | exact Below.refl _ _ | apply bel_alloc | apply bel_put | apply bel_set | apply Below.drew | apply below_drewN | assumption | omega))))⟩
        case measure => simp [intOf]; omega
      · have hqq : (x == y) = false := by simpa using hxy
        have HK := hidden (show alk a b = k by rw [hak.out.eq, HE.out, if_neg hxy]; rfl)
        have HB := hidden hak.out.bel
        clear hak HE hxy
        go_wp2_with fail
        go_region
        go_wp2_with fail
        go_ret
        exact ⟨by rw [HK.out]; rfl, by first | exact HB.out | (with_reducible (repeat (first | exact HB.out | exact Below.refl _ _ | apply bel_alloc | apply bel_put | apply bel_set | apply Below.drew | apply below_drewN | assumption | omega)))⟩
    · have HK := hidden (show alk a b = k by rw [hak.out.eq, alk_end a b k (by rw [HN.out, HM.out]; omega)]; rfl)
      have HB := hidden hak.out.bel
      have hmd : decide ((k : Int) < min (n : Int) m) = false := by rw [decide_eq_false_iff_not]; omega
      clear hak
      go_wp2_with fail
      go_region
      go_wp2_with fail
      go_ret
      exact ⟨by rw [HK.out]; rfl, by first | exact HB.out | (with_reducible (repeat (first | exact HB.out | exact Below.refl _ _ | apply bel_alloc | apply bel_put | apply bel_set | apply Below.drew | apply below_drewN | assumption | omega)))⟩

end Go.Proofs.Ytdjdiaadflggfaa
