/-
  What the laws' own 'parts' and 'Few' answer of any node that lies in memory; conditions: none but how deep the call is.
-/
import Derived.Test.YtjlihidmohokhaaKBase
namespace Go.Proofs.Ytjlihidmohokhaa
open Go.RowKit Go.Proofs.Ytjlihidmohokhaa.Gl

theorem cnts_take1 {l : List Nd} {j : Nat} {d : Nd} (h : l[j]? = some d) : cnts (l.take (j + 1)) = cnts (l.take j) + cntN d := by
  obtain ⟨hj, rfl⟩ := List.getElem?_eq_some_iff.1 h
  rw [List.take_succ_eq_append_getElem hj]
  generalize l.take j = a
  generalize l[j] = b
  induction a with
  | nil => simp [cnts]
  | cons c a ih => rw [List.cons_append, cnts, cnts, ih]; omega

set_option maxHeartbeats 8000000 in
theorem parts_any : ∀ (N : Nat) (x : Nd), cntN x ≤ N → ∀ (dp : Nat) (v : Value) (w : World) (A : Nat → Prop), dp ≤ 301 → NodeAt w A v x →
    Calls Try.prog 19 #[v, .int .i64 dp] w fun e w' => ∃ r : Nat, e = .returned (.int .i64 r) ∧ Below w.heap.size w w' ∧ 1 ≤ r ∧ r ≤ 1000 * (302 - dp) ∧ (r < 1000 → r = cntN x) := by
  intro N
  induction N with
  | zero => intro x hx; have := cntN_pos x; omega
  | succ N ih =>
    intro x hx dp v w A hdp hnode
    obtain ⟨k, f, kids, lo, hi⟩ := x
    obtain ⟨kv, rfl, hkids0⟩ := hnode.open
    obtain ⟨a, cap, vs, rfl, hvl, hcap, hcells, hkids⟩ := hkids0
    have HCT := hidden (show cntN (.mk k f kids lo hi) = 1 + cnts kids by rw [cntN])
    rw [cntN] at hx
    have HIH := hidden ih
    have HKI := hidden hkids
    have HCE := hidden hcells
    have HCN := hidden (cnts_at kids)
    have hcn : cnts kids ≤ N := by omega
    have HB0 := hidden (Below.refl w.heap.size w)
    have HC0 := hidden (Blk.new w (.int .i64 k) (.int .u64 (word f 0)) (.int .u64 (word f 1)) (.int .u64 (word f 2)) (.int .u64 (word f 3)) (.slice a kids.length cap) (.int .i64 lo) (.int .i64 hi))
    clear ih hkids hcells hnode hx
    unfold nodeV
    by_cases hdd : dp = 301
    · subst hdd
      go_enter Try.func19, Try.ntmps19
      go_wp2_with fail
      go_ret
      exact ⟨1000, rfl, by (with_reducible (repeat (first | exact HB0.out | apply bel_alloc | apply bel_put | apply bel_set | apply Below.drew | apply below_drewN | omega))), by omega, by omega, fun h => absurd h (by omega)⟩
    · have hdi : ¬ (300 : Int) < dp := by omega
      go_enter Try.func19, Try.ntmps19
      go_wp2_with fail
      go_loopw [5, 6] (fun ka i wr => ∃ c j : Nat, ka = .int .i64 c ∧ i = .int .i64 j ∧ j ≤ kids.length ∧ j + 1 ≤ c ∧ c ≤ 999 + 1000 * (301 - dp) ∧ Hid (Below w.heap.size w wr ∧ Blk wr w.heap.size (.int .i64 k) (.int .u64 (word f 0)) (.int .u64 (word f 1)) (.int .u64 (word f 2)) (.int .u64 (word f 3)) (.slice a kids.length cap) (.int .i64 lo) (.int .i64 hi) ∧ (c < 1000 → c = 1 + cnts (kids.take j))))
        (fun _ i _ => kids.length - (intOf i).toNat)
      case atStart => exact ⟨1, 0, rfl, rfl, Nat.zero_le _, Nat.le_refl _, by omega, by (with_reducible (repeat (first | exact HB0.out | apply bel_alloc | apply bel_put | apply bel_set | apply Below.drew | apply below_drewN | omega))), by (with_reducible (repeat (first | exact HC0.out | exact Blk.newAt (by simp) | apply Blk.alloc | apply Blk.put | apply Blk.putOther | apply Blk.other | apply Blk.drewN | apply Blk.drew | omega))), fun _ => by simp [cnts]⟩
      case round =>
        obtain ⟨c, j, rfl, rfl, hj, hjc, hcb, hrow⟩ := hrel
        obtain ⟨e0, e1, e2, e3, e4, e5, e6, e7⟩ := hrow.out.2.1.cells
        have hel := hrow.out.2.1.lt
        by_cases hlt : j < kids.length
        · have hji : (j : Int) < kids.length := by omega
          by_cases hck : c < 1000
          · have hci : (c : Int) < 1000 := by omega
            obtain ⟨d, hd⟩ : ∃ d, kids[j]? = some d := ⟨_, List.getElem?_eq_getElem hlt⟩
            obtain ⟨u, hu⟩ : ∃ u, vs[j]? = some u := ⟨_, List.getElem?_eq_getElem (by omega)⟩
            have hne : kids ≠ [] := fun e => by rw [e] at hlt; simp at hlt
            obtain ⟨b, o, rfl, hA, hce⟩ := HCE.out hne
            have hnc := hce j u hu
            have hbl := hnc.lt
            have hnc2 := hnc.keep (hrow.out.1.block b hbl)
            obtain ⟨c0, c1, c2, c3, c4, c5, c6, c7, rfl, q0, q1, q2, q3, q4, q5, q6, q7⟩ := hnc2
            have hN1 := HKI.out j _ d hu hd
            have hN2 := hN1.later hrow.out.1
            obtain ⟨z, y0, y1, y2, y3, sa, sn, sc, lo2, hi2, hsh⟩ := hN1.shapeI
            injection hsh with hsh
            simp at hsh
            obtain ⟨rfl, rfl, rfl, rfl, rfl, rfl, rfl, rfl⟩ := hsh
            have HN2 := hidden hN2
            have hcd := HCN.out j d hd
            have hcd2 : cntN d ≤ N := by omega
            have HCD := hidden hcd2
            have HTK := hidden (cnts_take1 hd)
            have hblr : b < wr.heap.size := Nat.lt_of_lt_of_le hbl hrow.out.1.size
            clear hN1 hN2 hce hnc hu hd hA hcd hcd2 hne
            go_wp2_with fail
            refine (HIH.out d HCD.out (dp + 1) _ _ A (by omega) (by (with_reducible (repeat (first | exact HN2.out | apply NodeAt.alloc | apply NodeAt.putN | apply NodeAt.other | apply NodeAt.putO | apply NodeAt.otherO | apply NodeAt.drewN | apply NodeAt.drew | omega))))).mono ?_
            rintro e w2 ⟨r, rfl, hb2, hr1, hr2, hr3⟩
            have HB2 := hidden (show Below w.heap.size w w2 from (by (with_reducible (repeat (first | exact hrow.out.1 | apply bel_alloc | apply bel_put | apply bel_set | apply Below.drew | apply below_drewN | omega))) : Below w.heap.size w _).trans (hb2.mono (by have := hrow.out.1.size; simp; omega)))
            have HC2 := hidden (Blk.later hrow.out.2.1 hb2)
            have HR3 := hidden (show c + r < 1000 → c + r = 1 + cnts (kids.take (j + 1)) from fun h => by
              rw [HTK.out, hrow.out.2.2 hck, hr3 (by omega)]
              omega)
            clear hb2 hr3
            go_wp2_with fail
            go_roundw
            case rel => exact ⟨c + r, j + 1, by go_num, by go_num, by omega, by omega, by omega, HB2.out, HC2.out, HR3.out⟩
            case measure => simp [intOf]; omega
          · have hci : ¬ (c : Int) < 1000 := by omega
            go_wp2_with fail
            go_ret
            exact ⟨c, rfl, hrow.out.1, by omega, by omega, fun h => absurd h hck⟩
        · have hji : ¬ (j : Int) < kids.length := by omega
          have HF := hidden (show c < 1000 → c = cntN (.mk k f kids lo hi) from fun h => by
            have := hrow.out.2.2 h
            rw [List.take_of_length_le (by omega)] at this
            rw [HCT.out, this])
          go_wp2_with fail
          go_ret
          exact ⟨c, rfl, hrow.out.1, by omega, by omega, HF.out⟩

set_option maxHeartbeats 2000000 in
theorem few_any (x : Nd) (v : Value) (w : World) (A : Nat → Prop) (hx : NodeAt w A v x) :
    Calls Try.prog 10 #[v] w fun e w' => ∃ b : Bool, e = .returned (.bool b) ∧ Below w.heap.size w w' ∧ (b = true → cntN x ≤ 400) := by
  have HX := hidden hx
  obtain ⟨z, y0, y1, y2, y3, sa, sn, sc, lo, hi, rfl⟩ := hx.shapeI
  have HB0 := hidden (Below.refl w.heap.size w)
  clear hx
  go_enter Try.func10, Try.ntmps10
  go_wp2_with fail
  refine (parts_any (cntN x) x (Nat.le_refl _) 0 _ _ A (by omega) (by (with_reducible (repeat (first | exact HX.out | apply NodeAt.alloc | apply NodeAt.putN | apply NodeAt.other | apply NodeAt.putO | apply NodeAt.otherO | apply NodeAt.drewN | apply NodeAt.drew | omega))))).mono ?_
  rintro e w1 ⟨r, rfl, hb1, hr1, hr2, hr3⟩
  have HB1 := hidden (show Below w.heap.size w w1 from (by (with_reducible (repeat (first | exact HB0.out | apply bel_alloc | apply bel_put | apply bel_set | apply Below.drew | apply below_drewN | omega))) : Below w.heap.size w _).trans (hb1.mono (by simp)))
  have HR3 := hidden hr3
  clear hb1 hr3
  by_cases hr : r ≤ 400
  · have hri : (r : Int) ≤ 400 := by omega
    go_wp2_with fail
    go_ret
    exact ⟨true, by simp, HB1.out, fun _ => by have := HR3.out (by omega); omega⟩
  · have hri : ¬ (r : Int) ≤ 400 := by omega
    go_wp2_with fail
    go_ret
    exact ⟨false, by simp [hri], HB1.out, fun h => by cases h⟩

end Go.Proofs.Ytjlihidmohokhaa
