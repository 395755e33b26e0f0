/-
  The law NumsTell, called with any text, any two ints and any list of ranges that lies in memory, returns true, and nothing of what was in memory has turned; condition: the library's own variables hold what their text lays.
-/
import Derived.Test.YtdlmddeiopdioaaDoorAlive
namespace Go.Proofs.YtdlmddeiopdioaaDoor
open Go.RowKit Go.Proofs.YtdlmddeiopdioaaDoor.Nm

set_option maxHeartbeats 1000000 in
theorem numsTell_out (s : ByteArray) (a n : Int) (v : Value) (xs : List (Int × Int)) (w : World) (he : Env w) (hr : RngAt w v xs) (hs : s.size ≤ 9223372036854775807) (hl : xs.length ≤ 9223372036854775807) (hout : 200 < s.size ∨ 40 < xs.length) :
    Calls Tryd.prog 3 #[.string s, .int .i64 a, .int .i64 n, v] w fun e w' => e = .returned (.bool true) ∧ Below w.heap.size w w' := by
  have HE := hidden he
  clear he
  obtain ⟨ao, cap, rfl⟩ := hr.shape
  clear hr
  by_cases c1 : 200 < s.size
  · clear hout
    go_enter Tryd.func3, Tryd.ntmps3
    go_wp2_with fail
    refine (alive_any _ HE.out).mono ?_
    rintro e w1 ⟨rfl, hb1⟩
    have Hb1 := hidden hb1
    clear hb1
    go_wp2_with fail
    go_ret
    exact ⟨rfl, Hb1.out⟩
  · have c2 : 40 < xs.length := by omega
    clear hout
    go_enter Tryd.func3, Tryd.ntmps3
    go_wp2_with fail
    refine (alive_any _ HE.out).mono ?_
    rintro e w1 ⟨rfl, hb1⟩
    have Hb1 := hidden hb1
    clear hb1
    go_wp2_with fail
    go_ret
    exact ⟨rfl, Hb1.out⟩

theorem rngs_len (ps : List (List UInt8)) (l : List (Int × Int)) (h : rngs ps = some l) : l.length ≤ ps.length := by
  induction ps generalizing l with
  | nil => simp [rngs] at h; simp [← h]
  | cons p ps ih =>
    rw [rngs] at h
    cases hp : Nm.part p with
    | none => rw [hp] at h; cases h
    | some r =>
      rw [hp] at h
      cases hq : rngs ps with
      | none => rw [hq] at h; cases h
      | some t =>
        rw [hq] at h
        cases h
        have := ih t hq
        simp; omega
theorem ranges_len (l : List UInt8) : ((ranges l).getD []).length ≤ l.length + 1 := by
  cases h : ranges l with
  | none => simp
  | some t => exact Nat.le_trans (rngs_len _ _ h) (cuts_len 44 l)

set_option maxHeartbeats 2000000 in
theorem numsTell_in (s : ByteArray) (a n : Int) (v : Value) (xs : List (Int × Int)) (w : World) (he : Env w) (hr : RngAt w v xs) (hs : s.size ≤ 200) (hl : xs.length ≤ 40) (hn0 : -9223372036854775808 ≤ n) (hn1 : n ≤ 9223372036854775807) :
    Calls Tryd.prog 3 #[.string s, .int .i64 a, .int .i64 n, v] w fun e w' => e = .returned (.bool true) ∧ Below w.heap.size w w' := by
  have HE := hidden he
  have HR := hidden hr
  clear he
  obtain ⟨ao, cap, rfl⟩ := hr.shape
  clear hr
  have HL := hidden (ranges_len s.data.toList)
  have HZ := hidden (Lib.size_eq s)
  generalize hD : read s.data.toList a = D at *
  obtain ⟨r1, r2, r3⟩ := D
  have HD := hidden hD
  clear hD
  go_enter Tryd.func3, Tryd.ntmps3
  go_wp2_with fail
  refine (alive_any _ HE.out).mono ?_
  rintro e w1 ⟨rfl, hb1⟩
  have HB1 := hidden hb1
  have HE1 := hidden (HE.out.on hb1)
  have HR1 := hidden (HR.out.later hb1)
  clear hb1 HE HR
  go_wp2_with fail
  refine (read_any _ _ _ (by omega)).mono ?_
  rintro e w1' ⟨rfl, rfl⟩
  rw [HD.out]
  unfold R3
  go_wp2_with fail
  refine (readNum_any _ _ _ (by omega)).mono ?_
  rintro e w1'' ⟨rfl, rfl⟩
  rw [HD.out]
  unfold R3
  go_wp2_with fail
  refine (ranges_any _ _ HE1.out (by omega)).mono ?_
  rintro e w2 ⟨u, rfl, hx, hb2⟩
  have HX := hidden hx
  have HB2 := hidden (HB1.out.trans (hb2.mono HB1.out.size))
  have HE2 := hidden (HE1.out.on hb2)
  have HR2 := hidden (HR1.out.later hb2)
  clear hb2 hx HE1 HR1 HB1
  go_wp2_with fail
  refine (refRanges_any _ _ (by omega)).mono ?_
  rintro e w3 ⟨u', rfl, hy, hb3⟩
  have HX3 := hidden (HX.out.later hb3)
  have HY3 := hidden hy
  have HB3 := hidden (HB2.out.trans (hb3.mono HB2.out.size))
  have HE3 := hidden (HE2.out.on hb3)
  have HR3 := hidden (HR2.out.later hb3)
  clear hb3 hy HX HE2 HR2 HB2
  generalize (ranges s.data.toList).isSome = ok at *
  go_wp2_with fail
  refine (num_any _ _).mono ?_
  rintro e w3' ⟨rfl, rfl⟩
  go_wp2_with fail
  refine (put_any n _ HE3.out hn0 hn1).mono ?_
  rintro e w4 ⟨rfl, hb4⟩
  have HX4 := hidden (HX3.out.later hb4)
  have HY4 := hidden (HY3.out.later hb4)
  have HB4 := hidden (HB3.out.trans (hb4.mono HB3.out.size))
  have HR4 := hidden (HR3.out.later hb4)
  clear hb4 HX3 HY3 HE3 HR3 HB3
  unfold S
  go_wp2_with fail
  refine (putNum_any n _ hn0 hn1).mono ?_
  rintro e w4' ⟨rfl, rfl⟩
  unfold S
  go_wp2_with fail
  refine (same_any _ _ _ _ _ HX4.out HY4.out (by have := HL.out; have := HZ.out; omega) (by have := HL.out; have := HZ.out; omega)).mono ?_
  rintro e w5 ⟨rfl, hb5⟩
  rw [decide_eq_true rfl]
  have HB5 := hidden (HB4.out.trans (hb5.mono HB4.out.size))
  have HR5 := hidden (HR4.out.later hb5)
  clear hb5 HX4 HY4 HR4 HB4
  go_wp2_with fail
  refine (has_any _ _ _ _ HR5.out (by omega)).mono ?_
  rintro e w6 ⟨rfl, hb6⟩
  have HB6 := hidden (HB5.out.trans (hb6.mono HB5.out.size))
  have HR6 := hidden (HR5.out.later hb6)
  clear hb6 HR5 HB5
  go_wp2_with fail
  refine (hasNum_any _ _ _ _ HR6.out (by omega)).mono ?_
  rintro e w7 ⟨rfl, hb7⟩
  have HB7 := hidden (HB6.out.trans (hb7.mono HB6.out.size))
  clear hb7 HR6 HB6
  go_wp2_with fail
  go_ret
  exact ⟨by simp, HB7.out⟩

theorem numsTell_any (s : ByteArray) (a n : Int) (v : Value) (xs : List (Int × Int)) (w : World) (he : Env w) (hr : RngAt w v xs) (hs : s.size ≤ 9223372036854775807) (hl : xs.length ≤ 9223372036854775807) (hn : -9223372036854775808 ≤ n ∧ n ≤ 9223372036854775807) :
    Calls Tryd.prog 3 #[.string s, .int .i64 a, .int .i64 n, v] w fun e w' => e = .returned (.bool true) ∧ Below w.heap.size w w' := by
  by_cases hout : 200 < s.size ∨ 40 < xs.length
  · exact numsTell_out s a n v xs w he hr hs hl hout
  · exact numsTell_in s a n v xs w he hr (by omega) (by omega) hn.1 hn.2

end Go.Proofs.YtdlmddeiopdioaaDoor
