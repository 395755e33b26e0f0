/-
  The law PathsTell, called with any name and any int, returns true, and nothing of what was in memory has turned; conditions: the number is an int, the name is shorter than any memory, and a cell of the library's holds an int.
-/
import Derived.Test.YtpgcdjoghcibiaaDoorAlive
namespace Go.Proofs.YtpgcdjoghcibiaaDoor
open Go.RowKit Go.Proofs.YtpgcdjoghcibiaaDoor.Nm

set_option maxHeartbeats 2000000 in
theorem pathsTell_any (s : ByteArray) (n : Int) (w : World) (he : Env w) (hs : s.size ≤ 9223372036854775807) (hn : n ≤ 9223372036854775807) :
    Calls Tryd.prog 3 #[.string s, .int .i64 n] w fun e w' => e = .returned (.bool true) ∧ Below w.heap.size w w' := by
  have HE := hidden he
  clear he
  by_cases hlong : 200 < s.size
  · go_enter Tryd.func3, Tryd.ntmps3
    go_wp2_with fail
    refine (alive_any _ HE.out).mono ?_
    rintro e w1 ⟨rfl, hb1⟩
    have HB1 := hidden hb1
    clear hb1
    go_wp2
    go_ret
    exact ⟨rfl, HB1.out⟩
  · have hpl := parts_len s.data.toList
    rw [← Lib.size_eq] at hpl
    go_enter Tryd.func3, Tryd.ntmps3
    go_wp2_with fail
    refine (alive_any _ HE.out).mono ?_
    rintro e w1 ⟨rfl, hb1⟩
    have HB1 := hidden hb1
    have HE1 := hidden (HE.out.on hb1)
    clear hb1 HE
    go_wp2_with fail
    refine (strip_any s n _ (by omega) hn).mono ?_
    rintro e w2 ⟨rfl, hb2⟩
    have HB2 := hidden (HB1.out.trans (hb2.mono HB1.out.size))
    have HE2 := hidden (HE1.out.on hb2)
    clear hb2 HE1 HB1
    unfold S
    go_wp2_with fail
    refine (refStrip_any s n _ (by omega) hn).mono ?_
    rintro e w3 ⟨rfl, rfl⟩
    generalize strip n.toNat s.data.toList = X at *
    unfold S
    go_wp2_with fail
    refine (parts_any s _ HE2.out (by omega)).mono ?_
    rintro e w4 ⟨v, rfl, hr, hb4⟩
    have HB4 := hidden (HB2.out.trans (hb4.mono HB2.out.size))
    have HR := hidden hr
    clear hb4 hr HB2 HE2
    go_wp2_with fail
    refine (refParts_any s _ (by omega)).mono ?_
    rintro e w5 ⟨u, rfl, hr, hb5⟩
    have HB5 := hidden (HB4.out.trans (hb5.mono HB4.out.size))
    have HR5 := hidden (HR.out.later hb5)
    have HQ := hidden hr
    clear hb5 hr HB4 HR
    go_wp2_with fail
    refine (same_any _ _ _ _ _ HR5.out HQ.out (by omega) (by omega)).mono ?_
    rintro e w6 ⟨rfl, hb6⟩
    have HB6 := hidden (HB5.out.trans (hb6.mono HB5.out.size))
    rw [decide_eq_true rfl]
    clear hb6 HB5 HR5 HQ
    go_wp2_with fail
    refine (base_any s _ (by omega)).mono ?_
    rintro e w7 ⟨rfl, hb7⟩
    have HB7 := hidden (HB6.out.trans (hb7.mono HB6.out.size))
    clear hb7 HB6
    unfold S
    go_wp2_with fail
    refine (refBase_any s _ (by omega)).mono ?_
    rintro e w8 ⟨rfl, hb8⟩
    have HB8 := hidden (HB7.out.trans (hb8.mono HB7.out.size))
    generalize base s.data.toList = Y at *
    clear hb8 HB7
    unfold S
    go_wp2_with fail
    go_ret
    exact ⟨rfl, HB8.out⟩

end Go.Proofs.YtpgcdjoghcibiaaDoor
