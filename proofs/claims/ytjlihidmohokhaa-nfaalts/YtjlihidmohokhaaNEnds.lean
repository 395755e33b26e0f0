/-
  What the laws' own 'ends' answers of a node that lies in memory; conditions: how many parts it has.
-/
import Derived.Test.YtjlihidmohokhaaKBase
import Derived.Test.YtjlihidmohokhaaNFact2
namespace Go.Proofs.Ytjlihidmohokhaa
open Go.RowKit Go.Proofs.Ytjlihidmohokhaa.Gl

theorem endsL_any : ∀ (l : List Nd), endsL l = l.any endsN := by
  intro l
  induction l with
  | nil => rfl
  | cons d t ih => rw [endsL, ih, List.any_cons]
theorem any_hit {l : List Nd} {j : Nat} {d : Nd} (h : l[j]? = some d) (hd : endsN d = true) : l.any endsN = true :=
  List.any_eq_true.2 ⟨d, List.mem_of_getElem? h, hd⟩
theorem any_more {l : List Nd} {j : Nat} {d : Nd} (h : l[j]? = some d) (hd : endsN d = false) (ht : (l.take j).any endsN = false) : (l.take (j + 1)).any endsN = false := by
  rw [List.take_add_one, h, List.any_append, ht]
  simp [hd]

set_option maxHeartbeats 8000000 in
theorem ends_any : ∀ (N : Nat) (x : Nd), cntN x ≤ N → N ≤ 1048576 → ∀ (v : Value) (w : World) (A : Nat → Prop), NodeAt w A v x →
    Calls Try.prog 18 #[v] w fun e w' => e = .returned (.bool (endsN x)) ∧ Below w.heap.size w w' := by
  intro N
  induction N with
  | zero => intro x hx; have := cntN_pos x; omega
  | succ N ih =>
    intro x hx hN v w A hnode
    obtain ⟨k, f, kids, lo, hi⟩ := x
    obtain ⟨kv, rfl, hkids0⟩ := hnode.open
    obtain ⟨a, cap, vs, rfl, hvl, hcap, hcells, hkids⟩ := hkids0
    rw [cntN] at hx
    have hlen := cnts_len kids
    have HW := hidden (show endsN (.mk k f kids lo hi) = (k == 6 || k == 7 || kids.any endsN) by rw [endsN, endsL_any])
    have HIH := hidden ih
    have HKI := hidden hkids
    have HCE := hidden hcells
    have HCN := hidden (cnts_at kids)
    have hxb : kids.length ≤ 1048576 := by omega
    have hcn : cnts kids ≤ N := by omega
    have HB0 := hidden (Below.refl w.heap.size w)
    have HC0 := hidden (Blk.new w (.int .i64 k) (.int .u64 (word f 0)) (.int .u64 (word f 1)) (.int .u64 (word f 2)) (.int .u64 (word f 3)) (.slice a kids.length cap) (.int .i64 lo) (.int .i64 hi))
    clear ih hkids hcells hnode hx hlen
    unfold nodeV
    by_cases hk6 : k = 6
    · subst hk6
      have HF := hidden (show endsN (.mk 6 f kids lo hi) = true by rw [HW.out]; rfl)
      go_enter Try.func18, Try.ntmps18
      go_wp2_with fail
      go_ret
      exact ⟨by rw [HF.out]; rfl, by (with_reducible (repeat (first | exact HB0.out | apply bel_alloc | apply bel_put | apply bel_set | apply Below.drew | apply below_drewN | omega)))⟩
    · have hkb6 : (k == 6) = false := by rw [beq_eq_false_iff_ne]; exact hk6
      by_cases hk7 : k = 7
      · subst hk7
        have HF := hidden (show endsN (.mk 7 f kids lo hi) = true by rw [HW.out]; rfl)
        clear hk6 hkb6
        go_enter Try.func18, Try.ntmps18
        go_wp2_with fail
        go_ret
        exact ⟨by rw [HF.out]; rfl, by (with_reducible (repeat (first | exact HB0.out | apply bel_alloc | apply bel_put | apply bel_set | apply Below.drew | apply below_drewN | omega)))⟩
      · have hkb7 : (k == 7) = false := by rw [beq_eq_false_iff_ne]; exact hk7
        have HW3 := hidden (show endsN (.mk k f kids lo hi) = kids.any endsN by rw [HW.out, hkb6, hkb7]; rfl)
        clear HW
        go_enter Try.func18, Try.ntmps18
        go_wp2_with fail
        go_loopw [2, 3] (fun _ i wr => ∃ j : Nat, i = .int .i64 j ∧ j ≤ kids.length ∧ Hid (Below w.heap.size w wr ∧ Blk wr w.heap.size (.int .i64 k) (.int .u64 (word f 0)) (.int .u64 (word f 1)) (.int .u64 (word f 2)) (.int .u64 (word f 3)) (.slice a kids.length cap) (.int .i64 lo) (.int .i64 hi) ∧ (kids.take j).any endsN = false))
          (fun _ i _ => kids.length - (intOf i).toNat)
        case atStart => exact ⟨0, rfl, Nat.zero_le _, by (with_reducible (repeat (first | exact HB0.out | apply bel_alloc | apply bel_put | apply bel_set | apply Below.drew | apply below_drewN | omega))), by (with_reducible (repeat (first | exact HC0.out | exact Blk.newAt (by simp) | apply Blk.alloc | apply Blk.put | apply Blk.putOther | apply Blk.other | apply Blk.drewN | apply Blk.drew | omega))), rfl⟩
        case round =>
          obtain ⟨j, rfl, hj, hrow⟩ := hrel
          obtain ⟨e0, e1, e2, e3, e4, e5, e6, e7⟩ := hrow.out.2.1.cells
          have hel := hrow.out.2.1.lt
          by_cases hlt : j < kids.length
          · have hji : (j : Int) < kids.length := by omega
            obtain ⟨d, hd⟩ : ∃ d, kids[j]? = some d := ⟨_, List.getElem?_eq_getElem hlt⟩
            obtain ⟨u, hu⟩ : ∃ u, vs[j]? = some u := ⟨_, List.getElem?_eq_getElem (by omega)⟩
            have hne : kids ≠ [] := fun e => by rw [e] at hlt; simp at hlt
            obtain ⟨b, o, rfl, hA, hce⟩ := HCE.out hne
            have hnc := hce j u hu
            have hbl := hnc.lt
            have hnc2 := hnc.keep (hrow.out.1.block b hbl)
            obtain ⟨c0, c1, c2, c3, c4, c5, c6, c7, rfl, q0, q1, q2, q3, q4, q5, q6, q7⟩ := hnc2
            have hN1 := HKI.out j _ d hu hd
            have hN2 := hN1.later hrow.out.1
            obtain ⟨z, y0, y1, y2, y3, sa, sn, sc, lo2, hi2, hsh⟩ := hN1.shapeI
            injection hsh with hsh
            simp at hsh
            obtain ⟨rfl, rfl, rfl, rfl, rfl, rfl, rfl, rfl⟩ := hsh
            have HN2 := hidden hN2
            have hcd := HCN.out j d hd
            have hcd2 : cntN d ≤ N := by omega
            have HCD := hidden hcd2
            have HD := hidden hd
            have hblr : b < wr.heap.size := Nat.lt_of_lt_of_le hbl hrow.out.1.size
            clear hN1 hN2 hce hnc hu hd hA hcd hcd2 hne
            go_wp2_with fail
            refine (HIH.out d HCD.out (by omega) _ _ A (by (with_reducible (repeat (first | exact HN2.out | apply NodeAt.alloc | apply NodeAt.putN | apply NodeAt.other | apply NodeAt.putO | apply NodeAt.otherO | apply NodeAt.drewN | apply NodeAt.drew | omega))))).mono ?_
            rintro e w2 ⟨rfl, hb2⟩
            have HB2 := hidden (show Below w.heap.size w w2 from (by (with_reducible (repeat (first | exact hrow.out.1 | apply bel_alloc | apply bel_put | apply bel_set | apply Below.drew | apply below_drewN | omega))) : Below w.heap.size w _).trans (hb2.mono (by have := hrow.out.1.size; simp; omega)))
            have HC2 := hidden (Blk.later hrow.out.2.1 hb2)
            clear hb2
            cases hr : endsN d with
            | true =>
              have HF := hidden (show endsN (.mk k f kids lo hi) = true from HW3.out.trans (any_hit HD.out hr))
              clear hr
              go_wp2_with fail
              go_ret
              exact ⟨by rw [HF.out]; rfl, HB2.out⟩
            | false =>
              have HF := hidden (any_more HD.out hr hrow.out.2.2)
              clear hr
              go_wp2_with fail
              go_roundw
              case rel => exact ⟨j + 1, by go_num, by omega, HB2.out, HC2.out, HF.out⟩
              case measure => simp [intOf]; omega
          · have hji : ¬ (j : Int) < kids.length := by omega
            have HF := hidden (show endsN (.mk k f kids lo hi) = false by
              rw [HW3.out]
              have := hrow.out.2.2
              rw [List.take_of_length_le (by omega)] at this
              exact this)
            go_wp2_with fail
            go_ret
            exact ⟨by rw [HF.out]; rfl, hrow.out.1⟩

end Go.Proofs.Ytjlihidmohokhaa
