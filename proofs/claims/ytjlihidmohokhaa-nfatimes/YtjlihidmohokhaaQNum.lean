/-
  What the document's own number and times answer at any place of a text; conditions: the text's length, and that the reader's block holds it.
-/
import Derived.Test.YtjlihidmohokhaaQBase
namespace Go.Proofs.Ytjlihidmohokhaa
open Go.RowKit Go.Proofs.Ytjlihidmohokhaa.Gl

/-- number's answer -/
def NumAns (at_ : Nat) (e : Ending) : Option (Nat × Nat) → Prop
  | none => ∃ a b : Int, e = .returned (.tuple #[.int .i64 a, .int .i64 b, .bool false])
  | some (n, m) => e = .returned (.tuple #[.int .i64 n, .int .i64 (at_ + m : Nat), .bool true])
theorem dig_digit (c : UInt8) : digit c.toNat = dig c := rfl
theorem rd_snoc (t : Tx) (c : UInt8) (h : rd t < 1000) (hc : dig c = true) : rd (t ++ [c]) = 10 * rd t + (c.toNat - 48) := by
  have := dig_lo hc
  have := dig_hi hc
  unfold rd at h ⊢
  rw [List.foldl_append]
  generalize t.foldl st 0 = f at h ⊢
  show st f c = _
  unfold st
  omega
theorem countR_many {l : Tx} (h : 3 < (ds l).length) : countR l = none := by unfold countR; rw [if_pos (Or.inr (Or.inl h))]
theorem countR_nothing {l : Tx} (h : ds l = []) : countR l = none := by unfold countR; rw [if_pos (Or.inl h)]
theorem countR_great {l : Tx} (h : 200 < rd (ds l)) : countR l = none := by unfold countR; rw [if_pos (Or.inr (Or.inr h))]
theorem countR_fine {l : Tx} (h0 : ds l ≠ []) (h3 : (ds l).length ≤ 3) (h2 : rd (ds l) ≤ 200) : countR l = some (rd (ds l), (ds l).length) := by
  unfold countR
  rw [if_neg]
  rintro (e | e | e)
  · exact h0 e
  · omega
  · omega

set_option maxHeartbeats 8000000 in
theorem number_any (p : Tx) (k d b c : Int) (R at_ : Nat) (w : World) (hp : p.length ≤ 1000) (hat : at_ ≤ p.length) (hr : RqAt w R p k d b c) :
    Calls Try.prog 56 #[.pointer (some ⟨R, 0, none⟩), .int .i64 at_] w fun e w' => NumAns at_ e (countR (p.drop at_)) ∧ w' = w := by
  obtain ⟨r0, r1, r2, r3, r4⟩ := hr.cells
  clear hr
  go_enter Try.func56, Try.ntmps56
  go_wp2_with fail
  go_loop [7, 8] (fun n i => ∃ (q v : Nat), n = .int .i64 v ∧ i = .int .i64 q ∧ at_ ≤ q ∧ q ≤ at_ + 3 ∧ q ≤ p.length ∧ v < 1000 ∧ Hid (∃ t : Tx, t.length = q - at_ ∧ ds (p.drop at_) = t ++ ds (p.drop q) ∧ v = rd t ∧ v < 10 ^ (q - at_)))
    (fun _ i => p.length - (intOf i).toNat)
  case atStart => exact ⟨at_, 0, rfl, rfl, Nat.le_refl _, by omega, hat, by omega, [], by simp, rfl, rfl, by simp⟩
  case round =>
    obtain ⟨q, v, rfl, rfl, hq0, hq3, hqp, hv, H⟩ := hrel
    have HEND := hidden (show ds (p.drop q) = [] → ∃ t : Tx, t.length = q - at_ ∧ ds (p.drop at_) = t ∧ v = rd t from fun h => by
      obtain ⟨t, h1, h2, h3, _⟩ := H.out
      exact ⟨t, h1, by rw [h2, h, List.append_nil], h3⟩)
    have HZ := hidden (show ds (p.drop q) = [] → q = at_ → countR (p.drop at_) = none from fun h he => by
      obtain ⟨t, h1, h2, h3⟩ := HEND.out h
      exact countR_nothing (by rw [h2]; exact List.eq_nil_of_length_eq_zero (by omega)))
    have HG := hidden (show ds (p.drop q) = [] → 200 < v → countR (p.drop at_) = none from fun h he => by
      obtain ⟨t, h1, h2, h3⟩ := HEND.out h
      exact countR_great (by rw [h2, ← h3]; exact he))
    have HF := hidden (show ds (p.drop q) = [] → at_ < q → v ≤ 200 → countR (p.drop at_) = some (v, q - at_) from fun h h0 he => by
      obtain ⟨t, h1, h2, h3⟩ := HEND.out h
      rw [countR_fine (by rw [h2]; intro e; rw [e] at h1; simp at h1; omega) (by rw [h2]; omega) (by rw [h2, ← h3]; exact he), h2, ← h3, h1])
    by_cases hlt : q < p.length
    · have hli : (q : Int) < p.length := by omega
      obtain ⟨x, hx⟩ : ∃ x, x = p.getD q 0 := ⟨_, rfl⟩
      have hb : ∀ h, (⟨p.toArray⟩ : ByteArray)[q]'h = x := fun h => by rw [byte_at, hx]
      have hxs : p[q]? = some x := by rw [hx, List.getD_eq_getElem?_getD, List.getElem?_eq_getElem hlt]; rfl
      have hx9 : x.toNat < 256 := x.toNat_lt
      clear hx
      cases hdx : dig x with
      | true =>
        have h48 := dig_lo hdx
        have h57 := dig_hi hdx
        have h48i : (48 : Int) ≤ x.toNat := by omega
        by_cases h3 : q = at_ + 3
        · have HN := hidden (show countR (p.drop at_) = none from countR_many (by
            obtain ⟨t, h1, h2, _⟩ := H.out
            rw [h2, ds_step hxs hdx]
            simp
            omega))
          have h3i : (q : Int) - at_ = 3 := by omega
          clear hxs h3
          go_wp2_with fail
          refine (rDigit_any x.toNat _).mono ?_
          rintro e w2 ⟨rfl, rfl⟩
          rw [dig_digit, hdx]
          go_wp2_with fail
          go_ret3
          exact ⟨by rw [HN.out]; exact ⟨0, 0, rfl⟩, rfl⟩
        · have h3i : ¬ (q : Int) - at_ = 3 := by omega
          have h3b : ((q : Int) - at_ == 3) = false := by rw [beq_eq_false_iff_ne]; exact h3i
          have HS := hidden (show ∃ t : Tx, t.length = q + 1 - at_ ∧ ds (p.drop at_) = t ++ ds (p.drop (q + 1)) ∧ 10 * v + (x.toNat - 48) = rd t ∧ 10 * v + (x.toNat - 48) < 10 ^ (q + 1 - at_) by
            obtain ⟨t, h1, h2, h3, h4⟩ := H.out
            refine ⟨t ++ [x], by simp; omega, by rw [h2, ds_step hxs hdx]; simp, by rw [rd_snoc t x (by omega) hdx, ← h3], ?_⟩
            rw [show q + 1 - at_ = (q - at_) + 1 by omega, Nat.pow_succ]
            omega)
          have hv9 : 10 * v + (x.toNat - 48) < 1000 := by
            obtain ⟨t, _, _, _, h4⟩ := HS.out
            have : 10 ^ (q + 1 - at_) ≤ 10 ^ 3 := Nat.pow_le_pow_right (by decide) (by omega)
            omega
          clear hxs
          go_wp2_with fail
          refine (rDigit_any x.toNat _).mono ?_
          rintro e w2 ⟨rfl, rfl⟩
          rw [dig_digit, hdx]
          go_wp2_with fail
          first | (go_round; case rel => exact ⟨q + 1, 10 * v + (x.toNat - 48), by go_num, by go_num, by omega, by omega, by omega, hv9, HS.out⟩; case measure => simp [intOf]; omega) | exact ⟨⟨q + 1, 10 * v + (x.toNat - 48), by go_num, by go_num, by omega, by omega, by omega, hv9, HS.out⟩, by simp [intOf]; omega⟩
      | false =>
        have hds := ds_stop hxs hdx
        clear hxs
        by_cases h0 : q = at_
        · have HN := hidden (HZ.out hds h0)
          have h0i : ¬ (at_ : Int) < q := by omega
          have h0d : decide ((at_ : Int) < q) = false := decide_eq_false h0i
          subst h0
          go_wp2_with fail
          refine (rDigit_any x.toNat _).mono ?_
          rintro e w2 ⟨rfl, rfl⟩
          rw [dig_digit, hdx]
          go_wp2_with fail
          go_ret3
          exact ⟨by rw [HN.out]; exact ⟨_, _, rfl⟩, rfl⟩
        · have h0i : (at_ : Int) < q := by omega
          by_cases h2 : v ≤ 200
          · have h2i : (v : Int) ≤ 200 := by omega
            have HN := hidden (HF.out hds (by omega) h2)
            go_wp2_with fail
            refine (rDigit_any x.toNat _).mono ?_
            rintro e w2 ⟨rfl, rfl⟩
            rw [dig_digit, hdx]
            go_wp2_with fail
            go_ret3
            exact ⟨by rw [HN.out]; show _ = _; rw [show at_ + (q - at_) = q by omega]; rfl, rfl⟩
          · have h2i : ¬ (v : Int) ≤ 200 := by omega
            have h2d : decide ((v : Int) ≤ 200) = false := decide_eq_false h2i
            have HN := hidden (HG.out hds (by omega))
            go_wp2_with fail
            refine (rDigit_any x.toNat _).mono ?_
            rintro e w2 ⟨rfl, rfl⟩
            rw [dig_digit, hdx]
            go_wp2_with fail
            go_ret3
            exact ⟨by rw [HN.out]; exact ⟨_, _, rfl⟩, rfl⟩
    · have hli : ¬ (q : Int) < p.length := by omega
      have hld : decide ((q : Int) < p.length) = false := decide_eq_false hli
      have hds := ds_end (l := p) (e := q) (by omega)
      by_cases h0 : q = at_
      · have HN := hidden (HZ.out hds h0)
        have h0i : ¬ (at_ : Int) < q := by omega
        have h0d : decide ((at_ : Int) < q) = false := decide_eq_false h0i
        subst h0
        go_wp2_with fail
        go_ret3
        exact ⟨by rw [HN.out]; exact ⟨_, _, rfl⟩, rfl⟩
      · have h0i : (at_ : Int) < q := by omega
        by_cases h2 : v ≤ 200
        · have h2i : (v : Int) ≤ 200 := by omega
          have HN := hidden (HF.out hds (by omega) h2)
          go_wp2_with fail
          go_ret3
          exact ⟨by rw [HN.out]; show _ = _; rw [show at_ + (q - at_) = q by omega]; rfl, rfl⟩
        · have h2i : ¬ (v : Int) ≤ 200 := by omega
          have h2d : decide ((v : Int) ≤ 200) = false := decide_eq_false h2i
          have HN := hidden (HG.out hds (by omega))
          go_wp2_with fail
          go_ret3
          exact ⟨by rw [HN.out]; exact ⟨_, _, rfl⟩, rfl⟩

end Go.Proofs.Ytjlihidmohokhaa
