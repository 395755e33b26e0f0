/-
  The law NumsBack, called with any two ints and any text, returns true, and nothing of what was in memory has turned; condition: the library's own variables hold what their text lays.
-/
import Derived.Test.YtdlmddeiopdioaaDoorAlive
import Derived.Deep.RegionHeld3
namespace Go.Proofs.YtdlmddeiopdioaaDoor
open Go.RowKit Go.Proofs.YtdlmddeiopdioaaDoor.Nm

theorem zeros_text (k : Nat) (h : k ≤ 20) : (⟨#[48, 48, 48, 48, 48, 48, 48, 48, 48, 48, 48, 48, 48, 48, 48, 48, 48, 48, 48, 48]⟩ : ByteArray).extract 0 k = ⟨(List.replicate k 48).toArray⟩ := by
  rw [← Lib.mk_data ((⟨#[48, 48, 48, 48, 48, 48, 48, 48, 48, 48, 48, 48, 48, 48, 48, 48, 48, 48, 48, 48]⟩ : ByteArray).extract 0 k), Lib.extract_data]
  congr 2
  show ((List.replicate 20 48).drop 0).take (k - 0) = List.replicate k 48
  rw [List.drop_zero, List.take_replicate, Nat.sub_zero, Nat.min_eq_left h]

theorem app_data (a : List UInt8) (s : ByteArray) : ((⟨a.toArray⟩ : ByteArray) ++ s).data.toList = a ++ s.data.toList := by simp
theorem size_app (a s : ByteArray) : (a ++ s).size = a.size + s.size := by simp

theorem zeros_dig (k : Nat) : (List.replicate k (48 : UInt8)).all dig = true := by
  rw [List.all_eq_true]; intro x hx; rw [List.eq_of_mem_replicate hx]; rfl

/-- a number with noughts ahead, read where no digit follows -/
theorem read_back (u k : Nat) (b : List UInt8) (hb : ∀ x t, b = x :: t → dig x = false) :
    read ((List.replicate k 48 ++ Lib.decDigits u) ++ b) 0 = if 2147483648 < u then (0, 0, 4) else ((u : Int), ((List.replicate k (48 : UInt8) ++ Lib.decDigits u).length : Int), 0) := by
  have h := read_at ((List.replicate k 48 ++ Lib.decDigits u) ++ b) 0 (List.replicate k 48 ++ Lib.decDigits u) b (by omega) rfl (by rw [List.all_append, zeros_dig, dec_dig]; rfl) (by simp [dec_ne]) hb
  have hv : rd (List.replicate k 48 ++ Lib.decDigits u) = min u 2147483649 := by rw [rd_val, val_append, val_zeros, dec_val]
  rw [hv] at h
  rw [Int.natCast_zero] at h
  rw [h]
  by_cases hu : 2147483648 < u
  · rw [if_pos (by omega), if_pos hu]
  · rw [if_neg (by omega), if_neg hu, Nat.min_eq_left (by omega), Int.zero_add]

/-- what is kept through a region -/
def Kept (w w' : World) : Prop := Env w' ∧ Below w.heap.size w w'
theorem Kept.on {w w1 w2 : World} (h : Kept w w1) (hb : Below w1.heap.size w1 w2) : Kept w w2 := ⟨h.1.on hb, h.2.trans (hb.mono h.2.size)⟩
theorem Kept.drew {w w1 : World} (h : Kept w w1) : Kept w w1.drew := h.on (Below.refl _ _).drew

theorem put_kept {w w1 : World} (h : Kept w w1) (u : Nat) (h1 : u ≤ 9223372036854775807) :
    Calls Tryd.prog 14 #[.int .i64 u] w1 fun e w' => e = .returned (.string ⟨(Lib.decDigits u).toArray⟩) ∧ Below w1.heap.size w1 w' := by
  refine (put_any u w1 h.1 (by omega) (by omega)).mono ?_
  rintro e w' ⟨rfl, hb⟩
  exact ⟨by rw [itoa_pos]; rfl, hb⟩

set_option maxHeartbeats 1000000 in
theorem numsBack_out (n k : Int) (s : ByteArray) (w : World) (he : Env w) (hs : s.size ≤ 9223372036854775807) (hout : n < 0 ∨ 1099511627776 < n ∨ k < 0 ∨ 20 < k ∨ 20 < s.size ∨ (∃ h : 0 < s.size, 48 ≤ s[0].toNat ∧ s[0].toNat ≤ 57)) :
    Calls Tryd.prog 4 #[.int .i64 n, .int .i64 k, .string s] w fun e w' => e = .returned (.bool true) ∧ Below w.heap.size w w' := by
  have HE := hidden he
  clear he
  by_cases c1 : n < 0
  · clear hout
    go_enter Tryd.func4, Tryd.ntmps4
    go_wp2_with fail
    refine (alive_any _ HE.out).mono ?_
    rintro e w1 ⟨rfl, hb1⟩
    have Hb1 := hidden hb1
    clear hb1
    go_wp2_with fail
    go_ret
    exact ⟨rfl, Hb1.out⟩
  · by_cases c2 : 1099511627776 < n
    · clear hout
      go_enter Tryd.func4, Tryd.ntmps4
      go_wp2_with fail
      refine (alive_any _ HE.out).mono ?_
      rintro e w1 ⟨rfl, hb1⟩
      have Hb1 := hidden hb1
      clear hb1
      go_wp2_with fail
      go_ret
      exact ⟨rfl, Hb1.out⟩
    · by_cases c3 : k < 0
      · clear hout
        go_enter Tryd.func4, Tryd.ntmps4
        go_wp2_with fail
        refine (alive_any _ HE.out).mono ?_
        rintro e w1 ⟨rfl, hb1⟩
        have Hb1 := hidden hb1
        clear hb1
        go_wp2_with fail
        go_ret
        exact ⟨rfl, Hb1.out⟩
      · by_cases c4 : 20 < k
        · clear hout
          go_enter Tryd.func4, Tryd.ntmps4
          go_wp2_with fail
          refine (alive_any _ HE.out).mono ?_
          rintro e w1 ⟨rfl, hb1⟩
          have Hb1 := hidden hb1
          clear hb1
          go_wp2_with fail
          go_ret
          exact ⟨rfl, Hb1.out⟩
        · by_cases c5 : 20 < s.size
          · clear hout
            go_enter Tryd.func4, Tryd.ntmps4
            go_wp2_with fail
            refine (alive_any _ HE.out).mono ?_
            rintro e w1 ⟨rfl, hb1⟩
            have Hb1 := hidden hb1
            clear hb1
            go_wp2_with fail
            go_ret
            exact ⟨rfl, Hb1.out⟩
          · obtain ⟨h0, h1, h2⟩ : ∃ h : 0 < s.size, 48 ≤ s[0].toNat ∧ s[0].toNat ≤ 57 := by
              rcases hout with h | h | h | h | h | h
              · exact absurd h c1
              · exact absurd h c2
              · exact absurd h c3
              · exact absurd h c4
              · exact absurd h c5
              · exact h
            clear hout
            go_enter Tryd.func4, Tryd.ntmps4
            go_wp2_with fail
            refine (alive_any _ HE.out).mono ?_
            rintro e w1 ⟨rfl, hb1⟩
            have Hb1 := hidden hb1
            clear hb1
            go_wp2_with fail
            go_ret
            exact ⟨rfl, Hb1.out⟩

set_option maxHeartbeats 2000000 in
theorem numsBack_in (u k : Nat) (s : ByteArray) (w : World) (he : Env w) (hu : u ≤ 1099511627776) (hk : k ≤ 20) (hs : s.size ≤ 20) (hd : (∃ h : 0 < s.size, s[0].toNat < 48) ∨ (∃ h : 0 < s.size, 57 < s[0].toNat) ∨ s.size = 0) :
    Calls Tryd.prog 4 #[.int .i64 u, .int .i64 k, .string s] w fun e w' => e = .returned (.bool true) ∧ Below w.heap.size w w' := by
  have hb : ∀ x t, s.data.toList = x :: t → dig x = false := by
    intro x t e
    have hh : s.data.toList.head? = some x := by rw [e]; rfl
    rcases hd with ⟨h0, h1⟩ | ⟨h0, h1⟩ | h0
    · rw [head_data s h0] at hh; rw [← Option.some.inj hh]; simp [dig]; omega
    · rw [head_data s h0] at hh; rw [← Option.some.inj hh]; simp [dig]; omega
    · rw [Lib.size_eq, e] at h0; simp at h0
  have HR := hidden (read_back u k s.data.toList hb)
  have hlen := dec_len20 u (by omega)
  have hno : ¬ 9223372036854775807 < k + (Lib.decDigits u).length := by omega
  have hX : (List.replicate k (48 : UInt8) ++ Lib.decDigits u).length ≤ 40 := by simp; omega
  have HE := hidden he
  clear he hb
  rcases hd with ⟨h0, h1⟩ | ⟨h0, h1⟩ | h0
  all_goals
    go_enter Tryd.func4, Tryd.ntmps4
    go_wp2_with fail
    refine (alive_any _ HE.out).mono ?_
    rintro e w1 ⟨rfl, hb1⟩
    have hK : Kept w w1 := ⟨HE.out.on hb1, hb1⟩
    clear hb1
    go_wp2_with fail
    go_region_held3 (fun w' => Kept w w') (first | exact hK.drew | exact Kept.on (by assumption) (by assumption) | go_keep) ((go_at_call 14; refine (put_kept (w := w) (by first | assumption | exact hK.drew) u (by omega)).mono ?_; rintro e w2 ⟨rfl, hb2⟩))
    rename_i hHeld
    rw [zeros_text k hk, app_text]
    generalize List.replicate k 48 ++ Lib.decDigits u = X at *
    clear hb2 hK
    go_wp2_with fail
    refine (read_any _ _ _ (by rw [size_app]; show X.length + _ ≤ _; omega)).mono ?_
    rintro e w3 ⟨rfl, rfl⟩
    rw [app_data, HR.out]
    by_cases hbig : 2147483648 < u
    · rw [if_pos hbig]
      unfold R3
      go_wp2_with fail
      refine (num_any _ _).mono ?_
      rintro e w4 ⟨rfl, rfl⟩
      go_wp2_with fail
      go_ret
      exact ⟨rfl, hHeld.2⟩
    · rw [if_neg hbig]
      unfold R3
      go_wp2_with fail
      refine (num_any _ _).mono ?_
      rintro e w4 ⟨rfl, rfl⟩
      go_wp2_with fail
      go_ret
      exact ⟨rfl, hHeld.2⟩

theorem numsBack_any (n k : Int) (s : ByteArray) (w : World) (he : Env w) (hs : s.size ≤ 9223372036854775807) :
    Calls Tryd.prog 4 #[.int .i64 n, .int .i64 k, .string s] w fun e w' => e = .returned (.bool true) ∧ Below w.heap.size w w' := by
  by_cases hout : n < 0 ∨ 1099511627776 < n ∨ k < 0 ∨ 20 < k ∨ 20 < s.size ∨ (∃ h : 0 < s.size, 48 ≤ s[0].toNat ∧ s[0].toNat ≤ 57)
  · exact numsBack_out n k s w he hs hout
  · obtain ⟨u, rfl⟩ : ∃ u : Nat, n = u := ⟨n.toNat, by omega⟩
    obtain ⟨m, rfl⟩ : ∃ m : Nat, k = m := ⟨k.toNat, by omega⟩
    refine numsBack_in u m s w he (by omega) (by omega) (by omega) ?_
    by_cases h0 : 0 < s.size
    · by_cases h1 : s[0].toNat < 48
      · exact Or.inl ⟨h0, h1⟩
      · by_cases h2 : 57 < s[0].toNat
        · exact Or.inr (Or.inl ⟨h0, h2⟩)
        · exact absurd (Or.inr (Or.inr (Or.inr (Or.inr (Or.inr ⟨h0, by omega, by omega⟩))))) hout
    · exact Or.inr (Or.inr (by omega))

end Go.Proofs.YtdlmddeiopdioaaDoor
