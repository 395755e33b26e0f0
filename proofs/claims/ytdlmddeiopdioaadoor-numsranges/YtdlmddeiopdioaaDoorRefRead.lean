/-
  What the document's own ReadNum answers at any place of any text of at most 1048576 bytes: the number that stands there, where it ends, and the error's number; conditions: the text's length.
-/
import Derived.Test.YtdlmddeiopdioaaDoorRead
namespace Go.Proofs.YtdlmddeiopdioaaDoor
open Go.RowKit Go.Proofs.YtdlmddeiopdioaaDoor.Nm

theorem st_small' {m : Nat} {b : UInt8} (h1 : 48 ≤ b.toNat) (h : 10 * (m : Int) + ((b.toNat : Int) - 48) ≤ 2147483648) : ((st m b : Nat) : Int) = 10 * (m : Int) + ((b.toNat : Int) - 48) := by unfold st; omega
theorem st_great' {m : Nat} {b : UInt8} (h1 : 48 ≤ b.toNat) (h : 2147483648 < 10 * (m : Int) + ((b.toNat : Int) - 48)) : ((st m b : Nat) : Int) = 2147483649 := by unfold st; omega

set_option maxHeartbeats 1000000 in
theorem readNum_any (s : ByteArray) (a : Int) (w : World) (hs : s.size ≤ 1048576) :
    Calls Tryd.prog 10 #[.string s, .int .i64 a] w fun e w' => e = .returned (R3 (read s.data.toList a)) ∧ w' = w := by
  by_cases hout : a < 0 ∨ (s.size : Int) ≤ a
  · have hR : read s.data.toList a = (0, 0, 2) := by
      by_cases h : a < 0 ∨ (s.size : Int) < a
      · exact read_out (by rw [← Lib.size_eq]; exact h)
      · obtain ⟨k, rfl⟩ : ∃ k : Nat, a = k := ⟨a.toNat, by omega⟩
        exact read_none (by rw [← Lib.size_eq]; omega) (ds_end (by rw [← Lib.size_eq]; omega))
    have HR := hidden hR
    clear hR
    rcases hout with h | h
    all_goals
      go_enter Tryd.func10, Tryd.ntmps10
      go_wp2
      go_ret3
      exact ⟨by rw [HR.out]; rfl, rfl⟩
  · obtain ⟨k, rfl⟩ : ∃ k : Nat, a = k := ⟨a.toNat, by omega⟩
    have hk : k < s.size := by omega
    have hk' : k ≤ s.data.toList.length := by rw [← Lib.size_eq]; omega
    have HK := hidden hk'
    clear hout hk'
    cases hd0 : dig s[k]
    · have HR := hidden (read_none HK.out (ds_stop (get_data s k hk) hd0))
      go_enter Tryd.func10, Tryd.ntmps10
      go_wp2_with (go_at_call 20; refine (refDigit_any _ _).mono ?_; rintro e w' ⟨rfl, rfl⟩)
      go_ret3
      exact ⟨by rw [HR.out]; rfl, rfl⟩
    · have hne : ds (s.data.toList.drop k) ≠ [] := by rw [ds_step (get_data s k hk) hd0]; simp
      have HN := hidden hne
      have hkb : decide (s.size ≤ k) = false := by simp; omega
      have hkc : decide ((k : Int) < 0) = false := by simp
      clear hne
      go_enter Tryd.func10, Tryd.ntmps10
      go_wp2_with (go_at_call 20; refine (refDigit_any _ _).mono ?_; rintro e w' ⟨rfl, rfl⟩)
      clear hd0
      go_loop [7, 8] (fun n i => ∃ m j : Nat, n = .int .i64 m ∧ i = .int .i64 j ∧ m ≤ 2147483649 ∧ k ≤ j ∧ j ≤ s.size ∧ Hid ((ds (s.data.toList.drop j)).foldl st m = rd (ds (s.data.toList.drop k))) ∧ Hid (j + (ds (s.data.toList.drop j)).length = k + (ds (s.data.toList.drop k)).length)) (fun _ i => s.size - (intOf i).toNat)
      case atStart => exact ⟨0, k, rfl, rfl, by omega, Nat.le_refl _, by omega, rfl, rfl⟩
      case round =>
        obtain ⟨m, j, rfl, rfl, hm, hkj, hjs, hf, hl⟩ := hrel
        by_cases hgo : ∃ hlt : j < s.size, dig s[j] = true
        · obtain ⟨hlt, hd⟩ := hgo
          have HE := hidden (loop_step (ds_step (get_data s j hlt) hd) hf.out hl.out)
          have h1 := dig_lo hd
          have h2 := dig_hi hd
          have HS := hidden (@st_small' m s[j] h1)
          have HG := hidden (@st_great' m s[j] h1)
          have HL := hidden (st_le m s[j])
          clear hf hl
          go_wp2_with (go_at_call 20; refine (refDigit_any _ _).mono ?_; rintro e w' ⟨rfl, rfl⟩)
          · rename_i h
            have HE' := hidden (HG.out h)
            go_round
            case rel => exact ⟨st m s[j], j + 1, by rw [HE'.out], by go_num, HL.out, by omega, by omega, HE.out.1, HE.out.2⟩
            case measure => simp [intOf]; omega
          · rename_i h
            have HE' := hidden (HS.out h)
            go_round
            case rel => exact ⟨st m s[j], j + 1, by rw [HE'.out], by go_num, HL.out, by omega, by omega, HE.out.1, HE.out.2⟩
            case measure => simp [intOf]; omega
        · have hds : ds (s.data.toList.drop j) = [] := by
            by_cases hlt : j < s.size
            · exact ds_stop (get_data s j hlt) (by cases h : dig s[j]; · rfl
                                                   · exact absurd ⟨hlt, h⟩ hgo)
            · exact ds_end (by rw [← Lib.size_eq]; omega)
          have hf' : m = rd (ds (s.data.toList.drop k)) := by have := hf.out; rw [hds] at this; exact this
          have hl' : j = k + (ds (s.data.toList.drop k)).length := by have := hl.out; rw [hds] at this; exact this
          have HF := hidden hf'
          have HL := hidden hl'
          have hgo' : ∀ hlt : j < s.size, dig s[j] = false := fun hlt => by
            cases h : dig s[j]
            · rfl
            · exact absurd ⟨hlt, h⟩ hgo
          clear hf hl hf' hl' hds hgo
          have hfin2 : 2147483648 < m → read s.data.toList k = (0, 0, 4) := fun hb => read_big HK.out HN.out (by rw [← HF.out]; exact hb)
          have hfin3 : ¬ 2147483648 < m → read s.data.toList k = ((m : Int), (j : Int), 0) := fun hb => by
            rw [read_good HK.out HN.out (by rw [← HF.out]; exact hb), ← HF.out]
            have := HL.out
            rw [this]; simp
          have H2 := hidden hfin2
          have H3 := hidden hfin3
          clear hfin2 hfin3
          by_cases hlt : j < s.size
          · have hd := hgo' hlt
            clear hgo'
            by_cases hb : 2147483648 < m
            · have HR := hidden (H2.out hb)
              clear H2 H3
              go_wp2_with (go_at_call 20; refine (refDigit_any _ _).mono ?_; rintro e w' ⟨rfl, rfl⟩)
              go_ret3
              exact ⟨by rw [HR.out]; rfl, rfl⟩
            · have HR := hidden (H3.out hb)
              clear H2 H3
              go_wp2_with (go_at_call 20; refine (refDigit_any _ _).mono ?_; rintro e w' ⟨rfl, rfl⟩)
              go_ret3
              exact ⟨by rw [HR.out]; rfl, rfl⟩
          · clear hgo'
            by_cases hb : 2147483648 < m
            · have HR := hidden (H2.out hb)
              clear H2 H3
              go_wp2
              go_ret3
              exact ⟨by rw [HR.out]; rfl, rfl⟩
            · have HR := hidden (H3.out hb)
              clear H2 H3
              go_wp2
              go_ret3
              exact ⟨by rw [HR.out]; rfl, rfl⟩

end Go.Proofs.YtdlmddeiopdioaaDoor
