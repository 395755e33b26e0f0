/-
  What nums.Read and the document's own ReadNum answer at any place of any text of at most 1048576 bytes: the number that stands there, where it ends, and the error's number; conditions: the text's length, and that the place is an int.
-/
import Derived.WalkKit
import Derived.WalkSpells
import Derived.WalkLawsBesides
import Derived.OwnWalk
import Derived.Test.YtdlmddeiopdioaaDoorProg
import Derived.Test.YtdlmddeiopdioaaDoorPlain
namespace Go.Proofs.YtdlmddeiopdioaaDoor
open Go.RowKit Go.Proofs.YtdlmddeiopdioaaDoor.Nm

theorem hidden {p : Prop} (h : p) : Hid p := h
theorem ret_int {k : IntKind} {a b : Int} (h : a = b) : Ending.returned (.int k a) = .returned (.int k b) := by rw [h]
theorem ret_bool {a b : Bool} (h : a = b) : Ending.returned (.bool a) = .returned (.bool b) := by rw [h]

/-- the three answers of a reading -/
def R3 (r : Int × Int × Int) : Value := .tuple #[.int .i64 r.1, .int .i64 r.2.1, .int .i64 r.2.2]

theorem get_data (s : ByteArray) (k : Nat) (h : k < s.size) : s.data.toList[k]? = some s[k] := by
  rw [List.getElem?_eq_getElem (by rw [← Lib.size_eq]; exact h)]; rfl

set_option maxHeartbeats 400000 in
theorem digit_any (b : UInt8) (w : World) : Calls Tryd.prog 19 #[.int .u8 b.toNat] w fun e w' => e = .returned (.bool (dig b)) ∧ w' = w := by
  go_enter Tryd.func19, Tryd.ntmps19
  go_wp2
  all_goals
    go_ret
    refine ⟨ret_bool ?_, rfl⟩
    rw [Bool.eq_iff_iff]
    simp [dig]
    omega

set_option maxHeartbeats 400000 in
theorem refDigit_any (b : UInt8) (w : World) : Calls Tryd.prog 20 #[.int .u8 b.toNat] w fun e w' => e = .returned (.bool (dig b)) ∧ w' = w := by
  go_enter Tryd.func20, Tryd.ntmps20
  go_wp2
  all_goals
    go_ret
    refine ⟨ret_bool ?_, rfl⟩
    rw [Bool.eq_iff_iff]
    simp [dig]
    omega

set_option maxHeartbeats 400000 in
theorem num_any (n : Int) (w : World) : Calls Tryd.prog 13 #[.int .i64 n] w fun e w' => e = .returned (.int .i64 n) ∧ w' = w := by
  go_enter Tryd.func13, Tryd.ntmps13
  go_wp2
  go_ret
  exact ⟨rfl, rfl⟩

theorem read_out {l : List UInt8} {a : Int} (h : a < 0 ∨ (l.length : Int) < a) : read l a = (0, 0, 2) := by rw [Nm.read, if_pos h]
theorem read_none {l : List UInt8} {a : Nat} (h : a ≤ l.length) (hd : ds (l.drop a) = []) : read l a = (0, 0, 2) := by
  rw [Nm.read, if_neg (by omega), Int.toNat_natCast, if_pos hd]
theorem read_big {l : List UInt8} {a : Nat} (h : a ≤ l.length) (hd : ds (l.drop a) ≠ []) (hb : 2147483648 < rd (ds (l.drop a))) : read l a = (0, 0, 4) := by
  rw [Nm.read, if_neg (by omega), Int.toNat_natCast, if_neg hd, if_pos hb]
theorem read_good {l : List UInt8} {a : Nat} (h : a ≤ l.length) (hd : ds (l.drop a) ≠ []) (hb : ¬ 2147483648 < rd (ds (l.drop a))) : read l a = ((rd (ds (l.drop a)) : Int), (a : Int) + (ds (l.drop a)).length, 0) := by
  rw [Nm.read, if_neg (by omega), Int.toNat_natCast, if_neg hd, if_neg hb]

theorem loop_step {l : List UInt8} {m j k R L : Nat} {b : UInt8} (h : ds (l.drop j) = b :: ds (l.drop (j + 1))) (hf : (ds (l.drop j)).foldl st m = R) (hl : j + (ds (l.drop j)).length = k + L) :
    (ds (l.drop (j + 1))).foldl st (st m b) = R ∧ (j + 1) + (ds (l.drop (j + 1))).length = k + L := by
  rw [h] at hf hl
  refine ⟨hf, ?_⟩
  rw [List.length_cons] at hl; omega
theorem st_small {m : Nat} {b : UInt8} (h1 : 48 ≤ b.toNat) (h : (m : Int) * 10 + ((b.toNat : Int) - 48) ≤ 2147483649) : ((st m b : Nat) : Int) = (m : Int) * 10 + ((b.toNat : Int) - 48) := by unfold st; omega
theorem st_great {m : Nat} {b : UInt8} (h1 : 48 ≤ b.toNat) (h : 2147483649 < (m : Int) * 10 + ((b.toNat : Int) - 48)) : ((st m b : Nat) : Int) = 2147483649 := by unfold st; omega

set_option maxHeartbeats 1000000 in
theorem read_any (s : ByteArray) (a : Int) (w : World) (hs : s.size ≤ 1048576) :
    Calls Tryd.prog 9 #[.string s, .int .i64 a] w fun e w' => e = .returned (R3 (read s.data.toList a)) ∧ w' = w := by
  by_cases hout : a < 0 ∨ (s.size : Int) < a
  · have HR := hidden (read_out (l := s.data.toList) (by rw [← Lib.size_eq]; exact hout))
    rcases hout with h | h
    all_goals
      go_enter Tryd.func9, Tryd.ntmps9
      go_wp2
      go_ret3
      exact ⟨by rw [HR.out]; rfl, rfl⟩
  · obtain ⟨k, rfl⟩ : ∃ k : Nat, a = k := ⟨a.toNat, by omega⟩
    have hk : k ≤ s.size := by omega
    have hk' : k ≤ s.data.toList.length := by rw [← Lib.size_eq]; exact hk
    have HK := hidden hk'
    clear hout hk'
    go_enter Tryd.func9, Tryd.ntmps9
    go_wp2
    go_loop [7, 8] (fun n i => ∃ m j : Nat, n = .int .i64 m ∧ i = .int .i64 j ∧ m ≤ 2147483649 ∧ k ≤ j ∧ j ≤ s.size ∧ Hid ((ds (s.data.toList.drop j)).foldl st m = rd (ds (s.data.toList.drop k))) ∧ Hid (j + (ds (s.data.toList.drop j)).length = k + (ds (s.data.toList.drop k)).length)) (fun _ i => s.size - (intOf i).toNat)
    case atStart => exact ⟨0, k, rfl, rfl, by omega, Nat.le_refl _, hk, rfl, rfl⟩
    case round =>
      obtain ⟨m, j, rfl, rfl, hm, hkj, hjs, hf, hl⟩ := hrel
      by_cases hgo : ∃ hlt : j < s.size, dig s[j] = true
      · obtain ⟨hlt, hd⟩ := hgo
        have HE := hidden (loop_step (ds_step (get_data s j hlt) hd) hf.out hl.out)
        have h1 := dig_lo hd
        have h2 := dig_hi hd
        have HS := hidden (@st_small m s[j] h1)
        have HG := hidden (@st_great m s[j] h1)
        have HL := hidden (st_le m s[j])
        clear hf hl
        go_wp2_with (go_at_call 19; refine (digit_any _ _).mono ?_; rintro e w' ⟨rfl, rfl⟩)
        · rename_i h
          have HE' := hidden (HG.out h)
          go_round
          case rel => exact ⟨st m s[j], HE'.out.symm, j + 1, by omega, HL.out, by omega, by omega, HE.out.1, HE.out.2⟩
          case measure => simp [intOf]; omega
        · rename_i h
          have HE' := hidden (HS.out h)
          go_round
          case rel => exact ⟨st m s[j], HE'.out.symm, j + 1, by omega, HL.out, by omega, by omega, HE.out.1, HE.out.2⟩
          case measure => simp [intOf]; omega
      · have hds : ds (s.data.toList.drop j) = [] := by
          by_cases hlt : j < s.size
          · exact ds_stop (get_data s j hlt) (by cases h : dig s[j]; · rfl
                                                 · exact absurd ⟨hlt, h⟩ hgo)
          · exact ds_end (by rw [← Lib.size_eq]; omega)
        have hf' : m = rd (ds (s.data.toList.drop k)) := by have := hf.out; rw [hds] at this; exact this
        have hl' : j = k + (ds (s.data.toList.drop k)).length := by have := hl.out; rw [hds] at this; exact this
        have HF := hidden hf'
        have HL := hidden hl'
        have hgo' : ∀ hlt : j < s.size, dig s[j] = false := fun hlt => by
          cases h : dig s[j]
          · rfl
          · exact absurd ⟨hlt, h⟩ hgo
        clear hf hl hf' hl' hds hgo
        have hfin : (j : Int) = k → read s.data.toList k = (0, 0, 2) := fun h => read_none HK.out (List.eq_nil_of_length_eq_zero (by have := HL.out; omega))
        have hfin2 : ¬ (j : Int) = k → 2147483648 < m → read s.data.toList k = (0, 0, 4) := fun h hb => read_big HK.out (fun e => h (by have := HL.out; rw [e] at this; simp at this; omega)) (by rw [← HF.out]; exact hb)
        have hfin3 : ¬ (j : Int) = k → ¬ 2147483648 < m → read s.data.toList k = ((m : Int), (j : Int), 0) := fun h hb => by
          rw [read_good HK.out (fun e => h (by have := HL.out; rw [e] at this; simp at this; omega)) (by rw [← HF.out]; exact hb), ← HF.out]
          have := HL.out
          rw [this]; simp
        have H1 := hidden hfin
        have H2 := hidden hfin2
        have H3 := hidden hfin3
        clear hfin hfin2 hfin3
        by_cases hlt : j < s.size
        · have hd := hgo' hlt
          clear hgo'
          by_cases hjk : (j : Int) = k
          · have hjb : ((j : Int) == (k : Int)) = true := by rw [beq_iff_eq]; exact hjk
            have HR := hidden (H1.out hjk)
            clear H1 H2 H3 hjk
            go_wp2_with (go_at_call 19; refine (digit_any _ _).mono ?_; rintro e w' ⟨rfl, rfl⟩)
            go_ret3
            exact ⟨by rw [HR.out]; rfl, rfl⟩
          · have hjb : ((j : Int) == (k : Int)) = false := by rw [beq_eq_false_iff_ne]; exact hjk
            by_cases hb : 2147483648 < m
            · have HR := hidden (H2.out hjk hb)
              clear H1 H2 H3 hjk
              go_wp2_with (go_at_call 19; refine (digit_any _ _).mono ?_; rintro e w' ⟨rfl, rfl⟩)
              go_ret3
              exact ⟨by rw [HR.out]; rfl, rfl⟩
            · have HR := hidden (H3.out hjk hb)
              clear H1 H2 H3 hjk
              go_wp2_with (go_at_call 19; refine (digit_any _ _).mono ?_; rintro e w' ⟨rfl, rfl⟩)
              go_ret3
              exact ⟨by rw [HR.out]; rfl, rfl⟩
        · clear hgo'
          by_cases hjk : (j : Int) = k
          · have hjb : ((j : Int) == (k : Int)) = true := by rw [beq_iff_eq]; exact hjk
            have HR := hidden (H1.out hjk)
            clear H1 H2 H3 hjk
            go_wp2
            go_ret3
            exact ⟨by rw [HR.out]; rfl, rfl⟩
          · have hjb : ((j : Int) == (k : Int)) = false := by rw [beq_eq_false_iff_ne]; exact hjk
            by_cases hb : 2147483648 < m
            · have HR := hidden (H2.out hjk hb)
              clear H1 H2 H3 hjk
              go_wp2
              go_ret3
              exact ⟨by rw [HR.out]; rfl, rfl⟩
            · have HR := hidden (H3.out hjk hb)
              clear H1 H2 H3 hjk
              go_wp2
              go_ret3
              exact ⟨by rw [HR.out]; rfl, rfl⟩

end Go.Proofs.YtdlmddeiopdioaaDoor
