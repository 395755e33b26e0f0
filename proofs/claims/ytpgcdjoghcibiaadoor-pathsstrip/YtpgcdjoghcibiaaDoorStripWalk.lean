/-
  The law PathsStrip, called with any name and any two ints, returns true, and nothing of what was in memory has turned; conditions: the numbers are ints, the name is shorter than any memory, and a cell of the library's holds an int.
-/
import Derived.Test.YtpgcdjoghcibiaaDoorAlive
namespace Go.Proofs.YtpgcdjoghcibiaaDoor
open Go.RowKit Go.Proofs.YtpgcdjoghcibiaaDoor.Nm

set_option maxHeartbeats 2000000 in
theorem pathsStrip_out (s : ByteArray) (a b : Int) (w : World) (he : Env w) (hs : s.size ≤ 9223372036854775807) (hout : 200 < s.size ∨ a < 0 ∨ 50 < a ∨ b < 0 ∨ 50 < b) :
    Calls Tryd.prog 4 #[.string s, .int .i64 a, .int .i64 b] w fun e w' => e = .returned (.bool true) ∧ Below w.heap.size w w' := by
  have key : (200 < s.size ∨ (¬ 200 < s.size ∧ a < 0)) ∨ (¬ 200 < s.size ∧ ¬ a < 0 ∧ (50 < a ∨ (¬ 50 < a ∧ b < 0) ∨ (¬ 50 < a ∧ ¬ b < 0 ∧ 50 < b))) := by omega
  clear hout
  rcases key with (h | ⟨h1, h2⟩) | ⟨h1, h2, h | ⟨h3, h4⟩ | ⟨h3, h4, h5⟩⟩
  all_goals
    go_enter Tryd.func4, Tryd.ntmps4
    go_wp2_with fail
    refine (alive_any _ he).mono ?_
    rintro e w1 ⟨rfl, hb1⟩
    have HB1 := hidden hb1
    clear hb1 he
    go_wp2
    go_ret
    exact ⟨rfl, HB1.out⟩

theorem suffix_text (s : ByteArray) (k : Nat) (hk : k ≤ s.size) : s.extract (s.size - (s.data.toList.drop k).length) s.size = ⟨(s.data.toList.drop k).toArray⟩ := by
  rw [List.length_drop, ← Lib.size_eq, show s.size - (s.size - k) = k by omega]
  rw [← drop_text, Lib.mk_data]

set_option maxHeartbeats 4000000 in
theorem pathsStrip_in (s : ByteArray) (a b : Nat) (w : World) (he : Env w) (hs : s.size ≤ 200) (ha : a ≤ 50) (hb : b ≤ 50) :
    Calls Tryd.prog 4 #[.string s, .int .i64 a, .int .i64 b] w fun e w' => e = .returned (.bool true) ∧ Below w.heap.size w w' := by
  obtain ⟨k, hk, hX⟩ := strip_suffix a s.data.toList
  rw [← Lib.size_eq] at hk
  have HSS := hidden (strip_strip a b s.data.toList)
  have HBS := hidden (base_strip a s.data.toList)
  have HSF := hidden (suffix_text s k hk)
  have HXK := hidden hX
  have hxl : (strip a s.data.toList).length ≤ s.size := by rw [hX, List.length_drop, ← Lib.size_eq]; omega
  go_enter Tryd.func4, Tryd.ntmps4
  go_wp2_with fail
  refine (alive_any _ he).mono ?_
  rintro e w1 ⟨rfl, hb1⟩
  have HB1 := hidden hb1
  clear hb1 he hX
  go_wp2_with fail
  refine (strip_any s a _ (by omega) (by omega)).mono ?_
  rintro e w2 ⟨rfl, hb2⟩
  have HB2 := hidden (HB1.out.trans (hb2.mono HB1.out.size))
  clear hb2 HB1
  rw [Int.toNat_natCast]
  unfold S
  rw [← HXK.out] at HSF
  generalize hXX : strip a s.data.toList = X at *
  have HXX := hidden hXX
  clear hXX
  go_wp2_with fail
  refine (strip_any ⟨X.toArray⟩ b _ (by show X.length ≤ _; omega) (by omega)).mono ?_
  rintro e w3 ⟨rfl, hb3⟩
  have HB3 := hidden (HB2.out.trans (hb3.mono HB2.out.size))
  clear hb3 HB2
  rw [Int.toNat_natCast, show (⟨X.toArray⟩ : ByteArray).data.toList = X from rfl]
  unfold S
  go_wp2_with fail
  refine (strip_any s _ _ (by omega) (by omega)).mono ?_
  rintro e w4 ⟨rfl, hb4⟩
  have HB4 := hidden (HB3.out.trans (hb4.mono HB3.out.size))
  clear hb4 HB3
  rw [show ((a : Int) + (b : Int)).toNat = a + b by omega, ← HSS.out]
  unfold S
  generalize strip b X = Y at *
  have hsz : (⟨X.toArray⟩ : ByteArray).size ≤ s.size := hxl
  have hext := HSF.out
  by_cases h0 : s.size = 0
  · have HE := hidden (HBS.out (by rw [List.getLast?_eq_getElem?, List.getElem?_eq_none (by rw [← Lib.size_eq]; omega)]; simp))
    clear HBS HSS HXK HXX
    obtain rfl : X = [] := List.eq_nil_of_length_eq_zero (by omega)
    go_wp2_with fail
    refine (base_any _ _ (by decide)).mono ?_
    rintro e w5 ⟨rfl, hb5⟩
    have HB5 := hidden (HB4.out.trans (hb5.mono HB4.out.size))
    clear hb5 HB4
    rw [show (⟨#[]⟩ : ByteArray).data.toList = [] from rfl, HE.out]
    unfold S
    go_wp2_with fail
    refine (base_any _ _ (by omega)).mono ?_
    rintro e w6 ⟨rfl, hb6⟩
    have HB6 := hidden (HB5.out.trans (hb6.mono HB5.out.size))
    generalize base s.data.toList = Z at *
    clear hb6 HB5
    unfold S
    go_wp2
    go_ret
    exact ⟨rfl, HB6.out⟩
  · have hlast : s.data.toList.getLast? = some (s[s.size - 1]'(by omega)) := by
      rw [List.getLast?_eq_getElem?, ← Lib.size_eq]; exact get_data s (s.size - 1) (by omega)
    cases hc : (((s[s.size - 1]'(by omega)).toNat : Int) == 47)
    · have HE := hidden (HBS.out (by rw [hlast]; intro e; exact byte47n hc (Option.some.inj e)))
      clear HBS HSS HXK HXX hlast
      go_wp2_with fail
      refine (base_any _ _ (by show X.length ≤ _; omega)).mono ?_
      rintro e w5 ⟨rfl, hb5⟩
      have HB5 := hidden (HB4.out.trans (hb5.mono HB4.out.size))
      clear hb5 HB4
      rw [show (⟨X.toArray⟩ : ByteArray).data.toList = X from rfl, HE.out]
      unfold S
      go_wp2_with fail
      refine (base_any _ _ (by omega)).mono ?_
      rintro e w6 ⟨rfl, hb6⟩
      have HB6 := hidden (HB5.out.trans (hb6.mono HB5.out.size))
      generalize base s.data.toList = Z at *
      clear hb6 HB5
      unfold S
      go_wp2
      go_ret
      exact ⟨rfl, HB6.out⟩
    · clear HBS HSS HXK HXX hlast
      go_wp2_with fail
      go_ret
      exact ⟨rfl, HB4.out⟩

theorem pathsStrip_any (s : ByteArray) (a b : Int) (w : World) (he : Env w) (hs : s.size ≤ 9223372036854775807) :
    Calls Tryd.prog 4 #[.string s, .int .i64 a, .int .i64 b] w fun e w' => e = .returned (.bool true) ∧ Below w.heap.size w w' := by
  by_cases hout : 200 < s.size ∨ a < 0 ∨ 50 < a ∨ b < 0 ∨ 50 < b
  · exact pathsStrip_out s a b w he hs hout
  · obtain ⟨x, rfl⟩ := Int.eq_ofNat_of_zero_le (show 0 ≤ a by omega)
    obtain ⟨y, rfl⟩ := Int.eq_ofNat_of_zero_le (show 0 ≤ b by omega)
    exact pathsStrip_in s x y w he (by omega) (by omega) (by omega)

end Go.Proofs.YtpgcdjoghcibiaaDoor
