/-
  What the document's own Parts, Base and Strip answer at any name of at most 1048576 bytes: the parts, the last of them, the name without what stands ahead of its first rows of slashes; conditions: that length, and that the number is an int.
-/
import Derived.Test.YtpgcdjoghcibiaaDoorRef
namespace Go.Proofs.YtpgcdjoghcibiaaDoor
open Go.RowKit Go.Proofs.YtpgcdjoghcibiaaDoor.Nm

theorem filt_step (cs : List (List UInt8)) (k : Nat) (x : List UInt8) (h : cs[k]? = some x) : (cs.take (k + 1)).filter some' = (cs.take k).filter some' ++ (if x = [] then [] else [x]) := by
  obtain ⟨hk, hx⟩ := List.getElem?_eq_some_iff.1 h
  rw [List.take_succ_eq_append_getElem hk, hx, List.filter_append]
  cases x <;> simp [some']

theorem parts_len (l : List UInt8) : (parts l).length ≤ l.length + 1 := Nat.le_trans (List.length_filter_le _ _) (cuts_len 47 l)

theorem bne_empty {x : List UInt8} (h : x ≠ []) : x.isEmpty = false := by cases x <;> simp_all

set_option maxHeartbeats 2000000 in
theorem refParts_any (s : ByteArray) (w : World) (hs : s.size ≤ 1048576) :
    Calls Tryd.prog 12 #[.string s] w fun e w' => ∃ v, e = .returned v ∧ RowAt w' v (parts s.data.toList) ∧ Below w.heap.size w w' := by
  obtain ⟨i0, hi, hz0, hz1, hz2⟩ := info_parts Tryd.info9
  have hcl := cuts_len 47 s.data.toList
  have hcn := cuts_ne 47 s.data.toList
  rw [← Lib.size_eq] at hcl
  go_enter Tryd.func12, Tryd.ntmps12
  go_wp2_with fail
  refine (cuts_any s 47 _ hs).mono ?_
  rintro e w1 ⟨v, rfl, hr, hb1⟩
  have HP := hidden (show parts s.data.toList = (cuts 47 s.data.toList).filter some' from rfl)
  generalize cuts 47 s.data.toList = cs at *
  obtain ⟨b, o, cap, rfl, hcap, hb, hc⟩ := hr.cells hcn
  have HC := hidden hc
  have HB1 := hidden hb1
  clear hr hc hcn hb1
  go_wp2
  go_loopw [4, 5] (fun v i wr => ∃ (k : Nat) (xs : List (List UInt8)), k ≤ cs.length ∧ i = .int .i64 k ∧ xs.length ≤ k ∧ Hid (xs = (cs.take k).filter some') ∧ wr.ownsRow w1.heap.size 9 1 v xs.length (xs.map S) ∧ Hid (Below w1.heap.size w1 wr))
    (fun _ i _ => cs.length - (intOf i).toNat)
  case atStart => exact ⟨0, [], Nat.zero_le _, rfl, by simp, rfl, World.ownsRow_nil _ _ _ _, Below.refl _ _⟩
  case round =>
    obtain ⟨k, xs, hk, rfl, hxl, hxs, hown, hbl⟩ := hrel
    by_cases hlt : k < cs.length
    · obtain ⟨x, hx⟩ : ∃ x, cs[k]? = some x := ⟨cs[k], List.getElem?_eq_getElem hlt⟩
      have hcell : wr.cell? ⟨b, o + k, none⟩ = some (.string ⟨x.toArray⟩) := (hbl.out.cell (p := ⟨b, o + k, none⟩) hb).trans (HC.out k x hx)
      have HF := hidden (filt_step cs k x hx)
      clear hx
      by_cases hxe : x = []
      · have HX := hidden (show xs = (cs.take (k + 1)).filter some' by rw [HF.out, if_pos hxe, List.append_nil]; exact hxs.out)
        subst hxe
        clear HF
        go_wp2
        go_roundw
        case rel => exact ⟨k + 1, xs, by omega, by go_num, by omega, HX, hown, hbl⟩
        case measure => simp [intOf]; omega
      · have HX := hidden (show xs ++ [x] = (cs.take (k + 1)).filter some' by rw [HF.out, if_neg hxe, ← hxs.out])
        have hbn := bne_empty hxe
        clear HF hxe
        go_wp2_with (at_builtin; go_must (refine wpList_append_own _ rfl (.tmp 19) (.tmp 24) 25 rfl w1.heap.size 9 i0 (.string ⟨#[]⟩) 1 16 Tryd.underlying25 hi hz0 hz1 hz2 rfl (by decide) _ _ _ rfl (hown.alloc _) ⟨_, 0, none⟩ 1 1 [.string ⟨x.toArray⟩] rfl rfl (cell_one_new _ _ _) (by intro u hu; simp at hu; subst hu; rfl) (by unfold maxLen; omega) (by omega) (by have := hbl.out.size; simp; omega) ?_; intro v' w2 hown2 hgrow2 _))
        have HXX := hown.alloc (.cells #[.string ⟨x.toArray⟩] 9)
        have hb2 : Below w1.heap.size w1 w2 := (hbl.out.alloc hbl.out.size _).grown hgrow2 (by have := hbl.out.size; simp; omega) (fun j hj => (HXX.lt j hj).1)
        have hown3 : w2.ownsRow w1.heap.size 9 1 v' (xs ++ [x]).length ((xs ++ [x]).map S) := by
          rw [List.length_append, List.map_append, List.map_singleton]; exact hown2
        clear hown2 hgrow2 HXX
        go_roundw
        case rel => exact ⟨k + 1, _, by omega, by go_num, by simp; omega, HX, hown3, hb2⟩
        case measure => simp [intOf]; omega
    · have HX := hidden (show parts s.data.toList = xs by rw [HP.out, hxs.out, List.take_of_length_le (by omega)])
      go_wp2
      go_ret
      exact ⟨_, rfl, by rw [HX.out]; exact RowAt.of_owns hown, HB1.out.trans (hbl.out.mono HB1.out.size)⟩

set_option maxHeartbeats 1000000 in
theorem refBase_any (s : ByteArray) (w : World) (hs : s.size ≤ 1048576) :
    Calls Tryd.prog 14 #[.string s] w fun e w' => e = .returned (S (base s.data.toList)) ∧ Below w.heap.size w w' := by
  have hpl := parts_len s.data.toList
  rw [← Lib.size_eq] at hpl
  go_enter Tryd.func14, Tryd.ntmps14
  go_wp2_with fail
  refine (refParts_any s _ hs).mono ?_
  rintro e w1 ⟨v, rfl, hr, hb1⟩
  have HP := hidden (show base s.data.toList = (parts s.data.toList).getLast?.getD [] from rfl)
  generalize parts s.data.toList = cs at *
  have HB1 := hidden hb1
  clear hb1
  by_cases hne : cs = []
  · subst hne
    obtain ⟨ao, cap, rfl⟩ := hr.shape
    clear hr
    go_wp2
    go_ret
    exact ⟨by rw [HP.out]; rfl, HB1.out⟩
  · obtain ⟨b, o, cap, rfl, hcap, hb, hc⟩ := hr.cells hne
    have hpos : 0 < cs.length := List.length_pos_iff.2 hne
    obtain ⟨x, hx⟩ : ∃ x, cs[cs.length - 1]? = some x := ⟨cs[cs.length - 1], List.getElem?_eq_getElem (by omega)⟩
    have hcell := hc _ x hx
    have HX := hidden (show (cs.getLast?).getD [] = x by rw [List.getLast?_eq_getElem?, hx]; rfl)
    have hbn : ((cs.length : Int) == 0) = false := by rw [beq_eq_false_iff_ne]; omega
    clear hr hc hx hne
    obtain ⟨m, hm⟩ : ∃ m, cs.length = m + 1 := ⟨cs.length - 1, by omega⟩
    have hcell2 : w1.cell? ⟨b, o + m, none⟩ = some (.string ⟨x.toArray⟩) := by rw [hm] at hcell; exact hcell
    clear hcell
    go_wp2
    go_ret
    exact ⟨by rw [HP.out, HX.out]; rfl, HB1.out⟩

theorem byte47 {b : UInt8} (h : ((b.toNat : Int) == 47) = true) : b = 47 := byte_is (c := 47) h
theorem byte47n {b : UInt8} (h : ((b.toNat : Int) == 47) = false) : b ≠ 47 := byte_not (c := 47) h
theorem at47 (l : ByteArray) (j : Nat) (h : j < l.size) (hc : ((l[j].toNat : Int) == 47) = true) : l.data.toList[j]? = some 47 := by
  rw [get_data l j h, byte47 hc]
theorem at47n (l : ByteArray) (j : Nat) (h : j < l.size) (hc : ((l[j].toNat : Int) == 47) = false) : l.data.toList[j]? ≠ some 47 := by
  rw [get_data l j h]; intro e; exact byte47n hc (Option.some.inj e)

/-- what the search from behind knows -/
def Seen (l : ByteArray) (j : Nat) (a : Int) : Prop :=
  (a = -1 ∧ ∀ x, j ≤ x → l.data.toList[x]? ≠ some 47) ∨ ∃ p : Nat, a = p ∧ j ≤ p ∧ p < l.size ∧ l.data.toList[p]? = some 47 ∧ ∀ x, j ≤ x → x < p → l.data.toList[x]? ≠ some 47
theorem seen_end (l : ByteArray) : Seen l l.size (-1) := by
  refine Or.inl ⟨rfl, fun x hx => ?_⟩
  rw [List.getElem?_eq_none (by rw [← Lib.size_eq]; exact hx)]
  simp
theorem seen_hit (l : ByteArray) (j : Nat) (hj : j < l.size) (h : l.data.toList[j]? = some 47) : Seen l j j :=
  Or.inr ⟨j, rfl, Nat.le_refl _, hj, h, fun x h1 h2 => by omega⟩
theorem seen_miss (l : ByteArray) (j : Nat) (a : Int) (h : l.data.toList[j]? ≠ some 47) (hs : Seen l (j + 1) a) : Seen l j a := by
  rcases hs with ⟨h1, h2⟩ | ⟨p, h1, h2, h3, h4, h5⟩
  · refine Or.inl ⟨h1, fun x hx => ?_⟩
    by_cases e : x = j
    · rw [e]; exact h
    · exact h2 x (by omega)
  · refine Or.inr ⟨p, h1, by omega, h3, h4, fun x hx hp => ?_⟩
    by_cases e : x = j
    · rw [e]; exact h
    · exact h5 x (by omega) hp

theorem drop_text (l : ByteArray) (e : Nat) : (l.extract e l.size).data.toList = l.data.toList.drop e := by
  rw [Lib.extract_data, List.take_of_length_le (by rw [List.length_drop, ← Lib.size_eq]; exact Nat.le_refl _)]

set_option maxHeartbeats 2000000 in
theorem refStrip_any (s : ByteArray) (n : Int) (w : World) (hs : s.size ≤ 1048576) (hn : n ≤ 9223372036854775807) :
    Calls Tryd.prog 9 #[.string s, .int .i64 n] w fun e w' => e = .returned (S (strip n.toNat s.data.toList)) ∧ w' = w := by
  by_cases hneg : n ≤ 0
  · have HZ := hidden (show n.toNat = 0 by omega)
    have h0 : ¬ 0 < n := by omega
    go_enter Tryd.func9, Tryd.ntmps9
    go_wp2
    refine wp_loop_rounds 1 ?_
    rw [rounds_succ]
    go_wp2
    go_ret
    exact ⟨by rw [HZ.out]; exact congrArg _ (S_data s).symm, rfl⟩
  · obtain ⟨N, rfl⟩ := Int.eq_ofNat_of_zero_le (show 0 ≤ n by omega)
    rw [Int.toNat_natCast]
    clear hneg
    go_enter Tryd.func9, Tryd.ntmps9
    go_wp2
    go_loop [0, 5] (fun nm k => ∃ (l : ByteArray) (nk : Nat), nm = .string l ∧ k = .int .i64 nk ∧ nk ≤ N ∧ l.size ≤ s.size ∧ Hid (strip N s.data.toList = strip (N - nk) l.data.toList)) (fun _ k => N - (intOf k).toNat)
    case atStart => exact ⟨s, 0, rfl, rfl, Nat.zero_le _, Nat.le_refl _, rfl⟩
    case round =>
      obtain ⟨l, nk, rfl, rfl, hnk, hls, hst⟩ := hrel
      by_cases hlt : nk < N
      · go_wp2
        go_loop [6, 7] (fun a i => ∃ (za : Int) (j : Nat), a = .int .i64 za ∧ j ≤ l.size ∧ ((i = .int .i64 (-1) ∧ j = 0) ∨ ∃ j' : Nat, j = j' + 1 ∧ i = .int .i64 j') ∧ Hid (Seen l j za)) (fun _ i => (intOf i + 1).toNat)
        case atStart =>
          refine ⟨-1, l.size, rfl, Nat.le_refl _, ?_, seen_end l⟩
          by_cases h0 : l.size = 0
          · exact Or.inl ⟨by rw [h0]; rfl, h0⟩
          · exact Or.inr ⟨l.size - 1, by omega, by rw [show ((l.size - 1 : Nat) : Int) = (l.size : Int) - 1 by omega]⟩
        case round =>
          obtain ⟨za, j, rfl, hj, hij, hseen⟩ := hrel
          rcases hij with ⟨rfl, rfl⟩ | ⟨j', rfl, rfl⟩
          · rcases hseen.out with ⟨rfl, hno⟩ | ⟨p, rfl, _, hp, h47, hno⟩
            · have HM := hidden (strip_miss (N - nk) (miss_at (l := l.data.toList) (fun x _ => hno x (Nat.zero_le _))))
              clear hno hseen
              go_wp2
              go_ret
              exact ⟨by rw [hst.out, HM.out]; exact congrArg _ (S_data l).symm, rfl⟩
            · have HNO := hidden hno
              have H47 := hidden h47
              clear hno h47 hseen
              go_wp2
              go_loop [6] (fun a => ∃ e : Nat, a = .int .i64 e ∧ p ≤ e ∧ e ≤ l.size ∧ Hid (∀ x, p ≤ x → x < e → l.data.toList[x]? = some 47)) (fun a => l.size - (intOf a).toNat)
              case atStart => exact ⟨p, rfl, Nat.le_refl _, by omega, fun x h1 h2 => by omega⟩
              case round =>
                obtain ⟨e, rfl, hpe, hel, hall⟩ := hrel
                have fin : l.data.toList[e]? ≠ some 47 → strip (N - nk) l.data.toList = strip (N - (nk + 1)) (l.extract e l.size).data.toList := fun h => by
                  have hpast := past_is l.data.toList p e hpe (by rw [← Lib.size_eq]; exact hel) (fun x hx => HNO.out x (Nat.zero_le _) hx) hall.out H47.out h
                  rw [show N - nk = (N - (nk + 1)) + 1 by omega, strip_hit _ (has_at H47.out), hpast, drop_text]
                have FIN := hidden fin
                clear fin
                by_cases hend : e < l.size
                · cases hc : ((l[e].toNat : Int) == 47)
                  · have HF := hidden (FIN.out (at47n l e hend hc))
                    go_wp2
                    go_round
                    case rel => exact ⟨l.extract e l.size, nk + 1, rfl, by go_num, by omega, by rw [ByteArray.size_extract]; omega, hst.out.trans HF.out⟩
                    case measure => simp [intOf]; omega
                  · have HA := hidden (show ∀ x, p ≤ x → x < e + 1 → l.data.toList[x]? = some 47 from fun x h1 h2 => by
                      by_cases hx : x = e
                      · rw [hx]; exact at47 l e hend hc
                      · exact hall.out x h1 (by omega))
                    go_wp2
                    go_round
                    case rel => exact ⟨e + 1, by go_num, by omega, by omega, HA⟩
                    case measure => simp [intOf]; omega
                · have HF := hidden (FIN.out (by rw [List.getElem?_eq_none (by rw [← Lib.size_eq]; omega)]; simp))
                  go_wp2
                  go_round
                  case rel => exact ⟨l.extract e l.size, nk + 1, rfl, by go_num, by omega, by rw [ByteArray.size_extract]; omega, hst.out.trans HF.out⟩
                  case measure => simp [intOf]; omega
          · have hj' : j' < l.size := by omega
            cases hc : ((l[j'].toNat : Int) == 47)
            · have HS := hidden (seen_miss l j' za (at47n l j' hj' hc) hseen.out)
              go_wp2
              go_round
              case rel =>
                refine ⟨za, j', rfl, by omega, ?_, HS⟩
                by_cases h0 : j' = 0
                · exact Or.inl ⟨by rw [h0]; rfl, h0⟩
                · exact Or.inr ⟨j' - 1, by omega, by rw [show ((j' - 1 : Nat) : Int) = (j' : Int) - 1 by omega]⟩
              case measure => simp [intOf]
            · have HS := hidden (seen_hit l j' hj' (at47 l j' hj' hc))
              go_wp2
              go_round
              case rel =>
                refine ⟨j', j', rfl, by omega, ?_, HS⟩
                by_cases h0 : j' = 0
                · exact Or.inl ⟨by rw [h0]; rfl, h0⟩
                · exact Or.inr ⟨j' - 1, by omega, by rw [show ((j' - 1 : Nat) : Int) = (j' : Int) - 1 by omega]⟩
              case measure => simp [intOf]
      · have HX := hidden (show strip N s.data.toList = l.data.toList by rw [hst.out, show N - nk = 0 by omega]; rfl)
        go_wp2
        go_ret
        exact ⟨by rw [HX.out]; exact congrArg _ (S_data l).symm, rfl⟩

end Go.Proofs.YtpgcdjoghcibiaaDoor
