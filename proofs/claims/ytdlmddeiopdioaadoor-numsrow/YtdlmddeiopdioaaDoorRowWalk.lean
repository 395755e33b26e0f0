/-
  The law NumsRow, called with any list of ints that lies in memory and any byte, returns true, and nothing of what was in memory has turned; condition: the library's own variables hold what their text lays.
-/
import Derived.Test.YtdlmddeiopdioaaDoorBackWalk
import Derived.Test.YtdlmddeiopdioaaDoorArg
namespace Go.Proofs.YtdlmddeiopdioaaDoor
open Go.RowKit Go.Proofs.YtdlmddeiopdioaaDoor.Nm

/-- the text that the law writes: each number's digits, the sign behind each -/
def rowText (c : UInt8) (l : List Nat) : List UInt8 := l.flatMap fun u => Lib.decDigits u ++ [c]
theorem rowText_app (c : UInt8) (l : List Nat) (u : Nat) : rowText c (l ++ [u]) = rowText c l ++ (Lib.decDigits u ++ [c]) := by simp [rowText]
theorem rowText_len (c : UInt8) (l : List Nat) (h : ∀ u, u ∈ l → u ≤ 2147483648) : (rowText c l).length ≤ 21 * l.length := by
  induction l with
  | nil => simp [rowText]
  | cons u l ih =>
    have h1 := dec_len20 u (by have := h u (by simp); omega)
    have h2 := ih (fun x hx => h x (by simp [hx]))
    have e : rowText c (u :: l) = (Lib.decDigits u ++ [c]) ++ rowText c l := rfl
    rw [e, List.length_append, List.length_append]; simp; omega

theorem row_start1 : ∀ u, u ∈ ([] : List Nat) → u ≤ 2147483648 := fun u hu => by cases hu
theorem row_start2 (zs : List Int) : zs.take 0 = ([] : List Nat).map fun (u : Nat) => (u : Int) := by simp

theorem new_lt (X : World) (v : Value) (t : TypeId) : X.heap.size < (X.alloc (.cells #[v] t)).heap.size := by simp
theorem new_cell (X : World) (v : Value) (t : TypeId) : (X.alloc (.cells #[v] t)).cell? ⟨X.heap.size, 0, none⟩ = some v := by rw [World.cell?_alloc_new]; rfl
theorem conv_one (c : UInt8) (W : World) (g : Nat) (h : W.cell? ⟨g, 0, none⟩ = some (.int .u8 c.toNat)) : (convert 45 9 (.slice (some ⟨g, 0, none⟩) 1 1)).run Tryd.prog W = .ok (.string ⟨#[c]⟩) W :=
  run_convert_bytes_back W 45 9 5 ⟨g, 0, none⟩ 1 [c] Tryd.underlying45 Tryd.underlying5 Tryd.underlying9 (fun j hj => by
    have : j = 0 := by simpa using hj
    subst this
    exact h)

theorem Kept.alloc {w w1 : World} (h : Kept w w1) (o : Obj) : Kept w (w1.alloc o) := h.on ((Below.refl _ _).alloc (Nat.le_refl _) _)

theorem row_step (c : UInt8) (us : List Nat) (u : Nat) : (⟨(rowText c us).toArray⟩ : ByteArray) ++ ⟨(Lib.decDigits u).toArray⟩ ++ ⟨#[c]⟩ = ⟨(rowText c (us ++ [u])).toArray⟩ := by
  rw [app_text, rowText_app, ← List.append_assoc]
  exact app_text (rowText c us ++ Lib.decDigits u) [c]
theorem take_step {zs : List Int} {k u : Nat} {us : List Nat} (hx : zs[k]? = some (u : Int)) (h : zs.take k = us.map fun (u : Nat) => (u : Int)) : zs.take (k + 1) = (us ++ [u]).map fun (u : Nat) => (u : Int) := by
  obtain ⟨hk, e⟩ := List.getElem?_eq_some_iff.1 hx
  rw [List.take_succ_eq_append_getElem hk, e, h]; simp
theorem small_step {us : List Nat} {u : Nat} (h : ∀ x, x ∈ us → x ≤ 2147483648) (hu : u ≤ 2147483648) : ∀ x, x ∈ us ++ [u] → x ≤ 2147483648 := by
  intro x hx
  rcases List.mem_append.1 hx with hx | hx
  · exact h x hx
  · simp at hx; omega

/-- where the i-th number begins -/
def rowAt (c : UInt8) (us : List Nat) (i : Nat) : Nat := (rowText c (us.take i)).length
theorem rowAt_zero (c : UInt8) (us : List Nat) : rowAt c us 0 = 0 := by simp [rowAt, rowText]
theorem rowAt_end (c : UInt8) (us : List Nat) : rowAt c us us.length = (rowText c us).length := by rw [rowAt, List.take_length]
theorem row_split {c : UInt8} {us : List Nat} {i u : Nat} (hu : us[i]? = some u) : rowText c us = rowText c (us.take i) ++ (Lib.decDigits u ++ c :: rowText c (us.drop (i + 1))) := by
  obtain ⟨hi, e⟩ := List.getElem?_eq_some_iff.1 hu
  have h1 : us = us.take i ++ (u :: us.drop (i + 1)) := by rw [← e, ← List.drop_eq_getElem_cons hi, List.take_append_drop]
  have h2 : rowText c us = rowText c (us.take i ++ (u :: us.drop (i + 1))) := by rw [← h1]
  rw [h2]
  simp [rowText]
theorem rowAt_step {c : UInt8} {us : List Nat} {i u : Nat} (hu : us[i]? = some u) : rowAt c us (i + 1) = rowAt c us i + (Lib.decDigits u).length + 1 := by
  obtain ⟨hi, e⟩ := List.getElem?_eq_some_iff.1 hu
  rw [rowAt, rowAt, List.take_succ_eq_append_getElem hi, e, rowText_app]; simp; omega
theorem row_read {c : UInt8} {us : List Nat} {i u : Nat} (hu : us[i]? = some u) (hs : u ≤ 2147483648) (hc : dig c = false) :
    read (rowText c us) (rowAt c us i : Nat) = ((u : Int), ((rowAt c us i + (Lib.decDigits u).length : Nat) : Int), 0) := by
  have hsp := row_split (c := c) hu
  have h := read_at (rowText c us) (rowAt c us i) (Lib.decDigits u) (c :: rowText c (us.drop (i + 1))) (by rw [hsp, rowAt, List.length_append]; omega)
    (by rw [hsp, rowAt, List.drop_append_of_le_length (Nat.le_refl _), List.drop_length, List.nil_append]) (dec_dig u) (dec_ne u) (fun b t e => by cases e; exact hc)
  have hv : rd (Lib.decDigits u) = u := by rw [rd_val, dec_val]; omega
  rw [h, hv, if_neg (by omega)]
  simp
theorem row_sign {c : UInt8} {us : List Nat} {i u : Nat} (hu : us[i]? = some u) : (rowText c us)[rowAt c us i + (Lib.decDigits u).length]? = some c := by
  rw [row_split (c := c) hu, rowAt, List.getElem?_append_right (by omega), List.getElem?_append_right (by omega)]
  simp

set_option maxHeartbeats 4000000 in
theorem numsRow_in (v : Value) (zs : List Int) (c : UInt8) (w : World) (he : Env w) (hr : IntsAt w v zs) (h1 : 1 ≤ zs.length) (h2 : zs.length ≤ 20) (hc : c.toNat < 48 ∨ 57 < c.toNat) :
    Calls Tryd.prog 7 #[v, .int .u8 c.toNat] w fun e w' => e = .returned (.bool true) ∧ Below w.heap.size w w' := by
  have hcd : dig c = false := by rcases hc with h | h <;> simp [dig] <;> omega
  have HCD := hidden hcd
  clear hcd
  have HE := hidden he
  clear he
  obtain ⟨b, o, cap, rfl, hcap, hb, hcell⟩ := hr.cells (by intro h; simp [h] at h1)
  have HC := hidden hcell
  clear hr hcell
  rcases hc with hc | hc
  all_goals
    go_enter Tryd.func7, Tryd.ntmps7
    go_wp2_with fail
    refine (alive_any _ HE.out).mono ?_
    rintro e w1 ⟨rfl, hb1⟩
    have hK : Kept w w1 := ⟨HE.out.on hb1, hb1⟩
    clear hb1
    go_wp2_with fail
    go_loopw [6, 7] (fun s i wr => ∃ (k : Nat) (us : List Nat), i = .int .i64 k ∧ k ≤ zs.length ∧ us.length = k ∧ s = .string ⟨(rowText c us).toArray⟩ ∧ Hid (∀ u, u ∈ us → u ≤ 2147483648) ∧ Hid (zs.take k = us.map fun (u : Nat) => (u : Int)) ∧ Kept w wr)
      (fun _ i _ => zs.length - (intOf i).toNat)
    case atStart => exact ⟨0, [], rfl, by omega, rfl, rfl, row_start1, row_start2 zs, hK⟩
    case round =>
      obtain ⟨k, us, rfl, hk, hul, rfl, hsm, htk, hKr⟩ := hrel
      have HUL := hidden hul
      clear hul
      by_cases hlt : k < zs.length
      · obtain ⟨x, hx⟩ : ∃ x, zs[k]? = some x := ⟨zs[k], List.getElem?_eq_getElem hlt⟩
        have hcx : wr.cell? ⟨b, o + k, none⟩ = some (.int .i64 x) := (hKr.2.cell (p := ⟨b, o + k, none⟩) hb).trans (HC.out k x hx)
        have HX := hidden hx
        clear hx
        by_cases hx0 : x < 0
        · go_wp2_with fail
          go_ret
          exact ⟨rfl, hKr.2⟩
        · by_cases hx1 : 2147483648 < x
          · go_wp2_with fail
            go_ret
            exact ⟨rfl, hKr.2⟩
          · obtain ⟨u, rfl⟩ : ∃ u : Nat, x = u := ⟨x.toNat, by omega⟩
            have hlenT := rowText_len c us hsm.out
            have hlenU := dec_len20 u (by omega)
            have hno1 : ¬ 9223372036854775807 < (rowText c us).length + (Lib.decDigits u).length := by have := HUL.out; omega
            have hno2 : ¬ 9223372036854775807 < (rowText c us).length + (Lib.decDigits u).length + 1 := by have := HUL.out; omega
            have hbr : b < wr.heap.size := Nat.lt_of_lt_of_le hb hKr.2.size
            have hbn : ¬ b = wr.heap.size := by omega
            have hbn2 : ¬ wr.heap.size = b := by omega
            have hcv := conv_one c
            go_wp2_with fail
            go_region_with ((go_at_call 14; refine (put_kept (w := w) (by repeat (first | exact hKr | apply Kept.drew | apply Kept.alloc)) u (by omega)).mono ?_; rintro e w2 ⟨rfl, hb2⟩; try have hc2 : w2.cell? ⟨wr.heap.size, 0, none⟩ = some (.int .u8 c.toNat) := (hb2.cell (p := ⟨wr.heap.size, 0, none⟩) (new_lt wr (.int .u8 c.toNat) 5)).trans (new_cell wr (.int .u8 c.toNat) 5)))
            all_goals
              have hKw : Kept w w2 := by first | exact hKr.drew.on hb2 | exact (hKr.alloc _).drew.on hb2 | exact (hKr.drew.alloc _).on hb2
              have HN := hidden (And.intro (small_step hsm.out (show u ≤ 2147483648 by omega)) (take_step HX.out htk.out))
              clear hb2 hcx hno1 hno2 hlenT hlenU
              go_wp2_with fail
              go_roundw
              case rel => exact ⟨k + 1, us ++ [u], by go_num, by omega, by rw [List.length_append, HUL.out]; rfl, by rw [row_step], HN.out.1, HN.out.2, by repeat (first | exact hKw | apply Kept.drew | apply Kept.alloc)⟩
              case measure => simp [intOf]; omega
      · have hkz : k = zs.length := by omega
        have hz : zs = us.map fun (u : Nat) => (u : Int) := by have := htk.out; rw [List.take_of_length_le (by omega)] at this; exact this
        have HZ := hidden hz
        have hlenT := rowText_len c us hsm.out
        have hT2 : (rowText c us).length ≤ 420 := by have := HUL.out; omega
        have HUZ := hidden (show us.length = zs.length by rw [HUL.out, hkz])
        have hall : ∀ T : ByteArray, T.data.toList = rowText c us → T.size = (rowText c us).length := fun T h => by rw [Lib.size_eq, h]
        obtain ⟨T, hT⟩ : ∃ T : ByteArray, T = ⟨(rowText c us).toArray⟩ := ⟨_, rfl⟩
        have hTd : T.data.toList = rowText c us := by rw [hT]
        have hTs := hall T hTd
        rw [← hT]
        have HTD := hidden hTd
        have HTS := hidden hTs
        have hTb : T.size ≤ 420 := by omega
        clear hT hTd hTs hall hz hkz htk hlenT hT2
        go_wp2_with fail
        have hat : ∀ j, rowAt c us j ≤ 420 := fun j => Nat.le_trans (by rw [rowAt]; exact Nat.le_trans (rowText_len c _ (fun u hu => hsm.out u (List.mem_of_mem_take hu))) (Nat.mul_le_mul_left 21 (by rw [List.length_take]; exact Nat.min_le_right _ _))) (show 21 * us.length ≤ 420 by have := HUZ.out; omega)
        have HAT := hidden hat
        clear hat
        go_loopw [8, 9] (fun a i ws => ∃ j : Nat, j ≤ zs.length ∧ i = .int .i64 j ∧ a = .int .i64 (rowAt c us j) ∧ Kept w ws)
          (fun _ i _ => zs.length - (intOf i).toNat)
        case atStart => exact ⟨0, by omega, rfl, by rw [rowAt_zero]; rfl, hKr⟩
        case round =>
          obtain ⟨j, hj, rfl, rfl, hKs⟩ := hrel
          by_cases hlt2 : j < zs.length
          · obtain ⟨u, hu⟩ : ∃ u, us[j]? = some u := ⟨us[j]'(by have := HUZ.out; omega), List.getElem?_eq_getElem _⟩
            have hzj : zs[j]? = some (u : Int) := by rw [HZ.out, List.getElem?_map, hu]; rfl
            have hcj : wr.cell? ⟨b, o + j, none⟩ = some (.int .i64 u) := (hKs.2.cell (p := ⟨b, o + j, none⟩) hb).trans (HC.out j _ hzj)
            have husm := hsm.out u (List.mem_of_getElem? hu)
            have hrd := row_read (c := c) hu husm HCD.out
            have hsg := row_sign (c := c) hu
            have hst := rowAt_step (c := c) hu
            rw [← HTD.out] at hrd hsg
            have haj := HAT.out j
            have HST := hidden hst
            clear hst
            generalize rowAt c us j = aj at *
            generalize (Lib.decDigits u).length = dl at *
            have hel : aj + dl < T.size := by
              rw [Lib.size_eq]
              exact (List.getElem?_eq_some_iff.1 hsg).1
            have hbt : T[aj + dl] = c := Option.some.inj ((get_data T (aj + dl) hel).symm.trans hsg)
            have hbeq : ((T[aj + dl].toNat : Int) != (c.toNat : Int)) = false := by rw [hbt]; simp
            have hRead := read_any T aj wr (by omega)
            rw [hrd] at hRead
            have HRead := hidden hRead
            have HBT := hidden hbt
            clear hRead hrd hsg hbt hzj hu
            go_wp2_with fail
            refine HRead.out.mono ?_
            rintro e wr1 ⟨rfl, rfl⟩
            unfold R3
            go_wp2_with fail
            refine (num_any _ _).mono ?_
            rintro e wr2 ⟨rfl, rfl⟩
            go_wp2_with fail
            go_roundw
            case rel => exact ⟨j + 1, by omega, by go_num, by rw [HST.out]; go_num, hKs⟩
            case measure => simp [intOf]; omega
          · have hjz : j = zs.length := by omega
            have hfin : rowAt c us j = T.size := by rw [hjz, ← HUZ.out, rowAt_end, HTS.out]
            have hfb : ((rowAt c us j : Int) == (T.size : Int)) = true := by rw [hfin]; simp
            clear hfin hjz
            go_wp2_with fail
            go_ret
            exact ⟨rfl, hKs.2⟩

set_option maxHeartbeats 1000000 in
theorem numsRow_out (v : Value) (zs : List Int) (c : UInt8) (w : World) (he : Env w) (hr : IntsAt w v zs) (hl : zs.length ≤ 9223372036854775807) (hout : zs.length < 1 ∨ 20 < zs.length ∨ (48 ≤ c.toNat ∧ c.toNat ≤ 57)) :
    Calls Tryd.prog 7 #[v, .int .u8 c.toNat] w fun e w' => e = .returned (.bool true) ∧ Below w.heap.size w w' := by
  have HE := hidden he
  clear he
  obtain ⟨ao, cap, rfl⟩ := hr.shape
  clear hr
  by_cases c1 : zs.length < 1
  · clear hout
    go_enter Tryd.func7, Tryd.ntmps7
    go_wp2_with fail
    refine (alive_any _ HE.out).mono ?_
    rintro e w1 ⟨rfl, hb1⟩
    have Hb1 := hidden hb1
    clear hb1
    go_wp2_with fail
    go_ret
    exact ⟨rfl, Hb1.out⟩
  · by_cases c2 : 20 < zs.length
    · clear hout
      go_enter Tryd.func7, Tryd.ntmps7
      go_wp2_with fail
      refine (alive_any _ HE.out).mono ?_
      rintro e w1 ⟨rfl, hb1⟩
      have Hb1 := hidden hb1
      clear hb1
      go_wp2_with fail
      go_ret
      exact ⟨rfl, Hb1.out⟩
    · obtain ⟨d1, d2⟩ : 48 ≤ c.toNat ∧ c.toNat ≤ 57 := by
        rcases hout with h | h | h
        · exact absurd h c1
        · exact absurd h c2
        · exact h
      clear hout
      go_enter Tryd.func7, Tryd.ntmps7
      go_wp2_with fail
      refine (alive_any _ HE.out).mono ?_
      rintro e w1 ⟨rfl, hb1⟩
      have Hb1 := hidden hb1
      clear hb1
      go_wp2_with fail
      go_ret
      exact ⟨rfl, Hb1.out⟩

theorem byte_of {n : Int} (h : (Lit.int .u8 n).wf = true) : ∃ c : UInt8, n = (c.toNat : Int) := by
  have h' : 0 ≤ n ∧ n ≤ 255 := by
    simp [Lit.wf, IntKind.min, IntKind.max, IntKind.signed, IntKind.bits] at h
    omega
  refine ⟨UInt8.ofNat n.toNat, ?_⟩
  rw [UInt8.toNat_ofNat']
  omega

theorem numsRow_any (v : Value) (zs : List Int) (n : Int) (w : World) (he : Env w) (hr : IntsAt w v zs) (hl : zs.length ≤ 9223372036854775807) (hn : (Lit.int .u8 n).wf = true) :
    Calls Tryd.prog 7 #[v, .int .u8 n] w fun e w' => e = .returned (.bool true) ∧ Below w.heap.size w w' := by
  obtain ⟨c, rfl⟩ := byte_of hn
  by_cases hout : zs.length < 1 ∨ 20 < zs.length ∨ (48 ≤ c.toNat ∧ c.toNat ≤ 57)
  · exact numsRow_out v zs c w he hr hl hout
  · exact numsRow_in v zs c w he hr (by omega) (by omega) (by omega)

end Go.Proofs.YtdlmddeiopdioaaDoor
