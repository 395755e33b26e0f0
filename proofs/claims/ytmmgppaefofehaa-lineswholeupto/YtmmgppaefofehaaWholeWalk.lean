/-
  The law LinesWhole, called with any list of at most 1048576 texts and bytes, returns true, and nothing of what was in memory has turned; condition: those lengths.
-/
import Derived.Test.YtmmgppaefofehaaAlive
namespace Go.Proofs.Ytmmgppaefofehaa
open Go.RowKit Go.Proofs.Ytmmgppaefofehaa.Ln

theorem hidden {p : Prop} (h : p) : Hid p := h
theorem S_size (x : List UInt8) : (⟨x.toArray⟩ : ByteArray).size = x.length := rfl
theorem S_toList (x : List UInt8) : (⟨x.toArray⟩ : ByteArray).data.toList = x := rfl

set_option maxHeartbeats 1000000 in
theorem linesWhole_any (v : Value) (xs : List (List UInt8)) (w : World) (hr : RowAt w v xs) (hl : xs.length ≤ 1048576) (hn : xs.flatten.length ≤ 1048576) :
    Calls Try.prog 5 #[v] w fun e w' => e = .returned (.bool true) ∧ Below w.heap.size w w' := by
  obtain ⟨ao, cap, rfl⟩ := hr.shape
  have HR := hidden hr
  have HN := hidden hn
  have HWE := hidden (wh_eq xs)
  obtain ⟨s, hs⟩ : ∃ s : ByteArray, s = ⟨xs.flatten.toArray⟩ := ⟨_, rfl⟩
  have HS := hidden hs
  have hsz : s.size ≤ 1048576 := by rw [hs, S_size]; exact hn
  clear hr hn hs
  by_cases hbig : 60 < xs.length
  · go_enter Try.func5, Try.ntmps5
    go_wp2_with fail
    refine (alive_any _).mono ?_
    rintro e w1 ⟨rfl, hb1⟩
    have Hb1 := hidden hb1
    have HR1 := hidden (HR.out.later hb1)
    clear hb1
    go_wp2_with fail
    refine (refJoin_any _ _ _ HR1.out hl HN.out).mono ?_
    rintro e w2 ⟨rfl, hb2⟩
    have Hb2 := hidden (Hb1.out.trans (hb2.mono Hb1.out.size))
    clear hb2
    rw [show S xs.flatten = .string s from by rw [HS.out]; rfl]
    go_wp2_with fail
    go_ret
    exact ⟨rfl, Hb2.out⟩
  · by_cases hbig2 : 1000 < s.size
    · go_enter Try.func5, Try.ntmps5
      go_wp2_with fail
      refine (alive_any _).mono ?_
      rintro e w1 ⟨rfl, hb1⟩
      have Hb1 := hidden hb1
      have HR1 := hidden (HR.out.later hb1)
      clear hb1
      go_wp2_with fail
      refine (refJoin_any _ _ _ HR1.out hl HN.out).mono ?_
      rintro e w2 ⟨rfl, hb2⟩
      have Hb2 := hidden (Hb1.out.trans (hb2.mono Hb1.out.size))
      clear hb2
      rw [show S xs.flatten = .string s from by rw [HS.out]; rfl]
      go_wp2_with fail
      go_ret
      exact ⟨rfl, Hb2.out⟩
    · go_enter Try.func5, Try.ntmps5
      go_wp2_with fail
      refine (alive_any _).mono ?_
      rintro e w1 ⟨rfl, hb1⟩
      have Hb1 := hidden hb1
      have HR1 := hidden (HR.out.later hb1)
      clear hb1
      go_wp2_with fail
      refine (refJoin_any _ _ _ HR1.out hl HN.out).mono ?_
      rintro e w2 ⟨rfl, hb2⟩
      have Hb2 := hidden (Hb1.out.trans (hb2.mono Hb1.out.size))
      have HR2 := hidden (HR1.out.later hb2)
      clear hb2
      rw [show S xs.flatten = .string s from by rw [HS.out]; rfl]
      go_wp2_with fail
      refine (whole_any _ _ _ HR2.out hl HN.out).mono ?_
      rintro e w3 ⟨rfl, hb3⟩
      have Hb3 := hidden (Hb2.out.trans (hb3.mono Hb2.out.size))
      have HR3 := hidden (HR2.out.later hb3)
      clear hb3
      go_wp2_with fail
      refine (split_any s _ hsz).mono ?_
      rintro e w4 ⟨u, rfl, hown, hb4⟩
      have Hb4 := hidden (Hb3.out.trans (hb4.mono Hb3.out.size))
      have HR4 := hidden (HR3.out.later hb4)
      have HU := hidden (RowAt.of_owns hown)
      have hul : (spl s.data.toList).length ≤ 1048576 := by have := spl_length_le s.data.toList; rw [← Lib.size_eq] at this; omega
      have HUL := hidden hul
      clear hb4 hown hul
      go_wp2_with fail
      refine (same_any _ _ _ _ _ HU.out HR4.out HUL.out hl).mono ?_
      rintro e w5 ⟨rfl, hb5⟩
      have Hb5 := hidden (Hb4.out.trans (hb5.mono Hb4.out.size))
      clear hb5
      rw [show decide (spl s.data.toList = xs) = wh xs from by rw [HWE.out, HS.out]]
      go_wp2_with fail
      go_ret
      exact ⟨ret_bool (by simp), Hb5.out⟩

end Go.Proofs.Ytmmgppaefofehaa
