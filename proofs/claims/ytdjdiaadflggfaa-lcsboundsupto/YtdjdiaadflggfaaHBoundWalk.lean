
/-
  The law LcsBounds answers true at whatever lines of at most 1048576 lines and bytes, and leaves what lay in memory as it was.
-/
import Derived.Test.YtdjdiaadflggfaaAArg
import Derived.Test.YtdjdiaadflggfaaIBase
import Derived.Test.YtdjdiaadflggfaaBDiff
namespace Go.Proofs.Ytdjdiaadflggfaa
open Go.ChangeShapes Go.WideShapes Go.ChangeAt Go.RowKit Go.Deep Go.Proofs.Ytdjdiaadflggfaa.Ln Go.Proofs.Ytdjdiaadflggfaa.Ol

theorem open_intsU {H : Type} {enc : TypeId × Value → H} {W : World} {a0 : Option Addr} {len0 cap0 : Nat} {d : DataW H} {p : List MemPlace}
    (h0 : DataW.Trod enc Try.prog W 0 (fun _ => true) true 32 (.slice a0 len0 cap0) d p) :
    ∃ xs : List Int, IntsAt W (.slice a0 len0 cap0) xs ∧ xs.length ≤ Rows.uptoBulk d := by
  obtain ⟨fuel, hf⟩ := h0
  rcases open_ints Try.underlying32 Try.underlying3 (by kernel_rfl) hf with ⟨hcs, _⟩ | ⟨x, l, c, zs, hcs, _, hl, hm, hz, hd, hcell, hws⟩
  · simp [Value.cells] at hcs
    obtain ⟨rfl, rfl, rfl⟩ := hcs
    exact ⟨[], Or.inl ⟨rfl, _, _, rfl⟩, Nat.zero_le _⟩
  · simp [Value.cells] at hcs
    obtain ⟨rfl, rfl, rfl⟩ := hcs
    simp only [if_true] at hz
    have hlen : (zs.take len0).length = len0 := by rw [List.length_take]; omega
    have hb : (zs.take len0).length ≤ Rows.uptoBulk d := by
      have e : d = .slice (lits .i64 (zs.take len0)) (lits .i64 (zs.drop len0)) := congrArg Prod.fst hd
      have e2 : Rows.uptoBulk (DataW.slice (lits (H := H) .i64 (zs.take len0)) (lits .i64 (zs.drop len0))) = Rows.uptoBulkAll (lits (H := H) .i64 (zs.take len0)) + Rows.uptoBulkAll (lits (H := H) .i64 (zs.drop len0)) + 1 := rfl
      have e3 := bulk_len (lits (H := H) .i64 (zs.take len0))
      have e4 : (lits (H := H) .i64 (zs.take len0)).length = (zs.take len0).length := by simp [lits]
      rw [e4] at e3
      rw [e, e2]
      omega
    refine ⟨zs.take len0, ?_, hb⟩
    by_cases hpos : len0 = 0
    · subst hpos
      exact Or.inl ⟨by simp, _, _, rfl⟩
    · obtain ⟨b, off, spot⟩ := x
      have hc := hcell 0 (by omega)
      have hspot : spot = none := by simpa [Addr.add] using World.cell?_spot hc
      subst hspot
      refine Or.inr ⟨b, off, cap0, by rw [hlen], by omega, ?_, ?_⟩
      · have := World.block_lt_of_cell? W _ hc
        simpa [addr_add] using this
      · intro j x hx
        obtain ⟨hj, hx2⟩ := List.getElem?_eq_some_iff.1 hx
        rw [hlen] at hj
        have hcj := hcell j (by omega)
        rw [addr_add] at hcj
        rw [hcj]
        have hjs : j < zs.length := by omega
        rw [← hx2]
        simp [List.getD, List.getElem?_eq_getElem hjs]

end Go.Proofs.Ytdjdiaadflggfaa

namespace Go.Proofs.Ytdjdiaadflggfaa
open Go.RowKit Go.Proofs.Ytdjdiaadflggfaa.Ln Go.Proofs.Ytdjdiaadflggfaa.Ol

theorem two_bel {W w8 w9 : World} {v8 v9 : Value} (h1 : Adds W w8 (.slice none 0 0) v8) (h2 : Adds w8 w9 v8 v9) : Below W.heap.size W w9 := by
  have hb := adds_nil h1
  refine hb.trans ⟨h2.1.os, h2.1.tape, h2.1.output, h2.1.size, fun k hk => h2.1.block k (Nat.lt_of_lt_of_le hk hb.size) (fun e => ?_)⟩
  rcases h1.2 with e2 | ⟨k2, e2, hk2⟩
  · rw [e2] at e; cases e
  · rw [e2] at e; cases e; omega

set_option maxRecDepth 3000 in
set_option maxHeartbeats 8000000 in
theorem lcsBounds_any (vX : Value) (a : List Tx) (vY : Value) (b : List Tx) (vZ : Value) (c : List Tx) (vI : Value) (zs : List Int) (w : World) (hX : RowAt w vX a) (hlX : a.length ≤ 1048576) (hnX : a.flatten.length ≤ 1048576) (hY : RowAt w vY b) (hlY : b.length ≤ 1048576) (hnY : b.flatten.length ≤ 1048576) (hZ : RowAt w vZ c) (hlZ : c.length ≤ 1048576) (hnZ : c.flatten.length ≤ 1048576) (hI : IntsAt w vI zs) (hlI : zs.length ≤ 1048576) :
    Calls Try.prog 5 #[vX, vY, vZ, vI] w fun e w' => e = .returned (.bool true) ∧ Below w.heap.size w w' := by
  have HX0 := hidden hX
  have HY0 := hidden hY
  have HZ0 := hidden hZ
  have HB0 := hidden (Below.refl w.heap.size w)
  have HNX := hidden hnX
  have HFX := hidden (fitT_flat hnX)
  obtain ⟨aX, cX, rfl⟩ := hX.shape
  clear hX hnX
  have HNY := hidden hnY
  have HFY := hidden (fitT_flat hnY)
  obtain ⟨aY, cY, rfl⟩ := hY.shape
  clear hY hnY
  have HNZ := hidden hnZ
  have HFZ := hidden (fitT_flat hnZ)
  obtain ⟨aZ, cZ, rfl⟩ := hZ.shape
  clear hZ hnZ
  have HI0 := hidden hI
  obtain ⟨aI, cI, rfl⟩ := hI.shape
  clear hI
  go_enter Try.func5, Try.ntmps5
  go_wp2_with fail
  refine (alive12_any _).mono ?_
  rintro e w1 ⟨rfl, hb⟩
  have HX1 := hidden (HX0.out.later hb)
  have HY1 := hidden (HY0.out.later hb)
  have HZ1 := hidden (HZ0.out.later hb)
  have HI1 := hidden (HI0.out.later hb)
  have HB1 := hidden (HB0.out.trans (hb.mono HB0.out.size))
  clear hb
  go_wp2_with fail
  refine (short_any _ a w1 HX1.out (by omega) (by have := HNX.out; omega)).mono ?_
  rintro e w2 ⟨⟨c, rfl⟩, hb⟩
  have HX2 := hidden (HX1.out.later hb)
  have HY2 := hidden (HY1.out.later hb)
  have HZ2 := hidden (HZ1.out.later hb)
  have HI2 := hidden (HI1.out.later hb)
  have HB2 := hidden (HB1.out.trans (hb.mono HB1.out.size))
  clear hb
  clear HX1 HY1 HZ1 HI1 HB1
  cases c with
  | false =>
    go_wp2_with fail
    go_ret
    exact ⟨rfl, HB2.out⟩
  | true =>
    go_wp2_with fail
    refine (short_any _ b w2 HY2.out (by omega) (by have := HNY.out; omega)).mono ?_
    rintro e w3 ⟨⟨c, rfl⟩, hb⟩
    have HX3 := hidden (HX2.out.later hb)
    have HY3 := hidden (HY2.out.later hb)
    have HZ3 := hidden (HZ2.out.later hb)
    have HI3 := hidden (HI2.out.later hb)
    have HB3 := hidden (HB2.out.trans (hb.mono HB2.out.size))
    clear hb
    clear HX2 HY2 HZ2 HI2 HB2
    cases c with
    | false =>
      go_wp2_with fail
      go_ret
      exact ⟨rfl, HB3.out⟩
    | true =>
      go_wp2_with fail
      refine (short_any _ c w3 HZ3.out (by omega) (by have := HNZ.out; omega)).mono ?_
      rintro e w4 ⟨⟨c, rfl⟩, hb⟩
      have HX4 := hidden (HX3.out.later hb)
      have HY4 := hidden (HY3.out.later hb)
      have HZ4 := hidden (HZ3.out.later hb)
      have HI4 := hidden (HI3.out.later hb)
      have HB4 := hidden (HB3.out.trans (hb.mono HB3.out.size))
      clear hb
      clear HX3 HY3 HZ3 HI3 HB3
      cases c with
      | false =>
        go_wp2_with fail
        go_ret
        exact ⟨rfl, HB4.out⟩
      | true =>
        by_cases hsX : a.length ≤ 40
        case neg =>
          have hd1 : decide ((a.length : Int) > 40) = true := by simp; omega
          have hd2 : decide (40 < (a.length : Int)) = true := by simp; omega
          have hd3 : decide (40 < a.length) = true := by simp; omega
          clear hsX
          go_wp2_with fail
          go_ret
          exact ⟨by first | rfl | simp, HB4.out⟩
        case pos =>
        have hdX1 : decide ((a.length : Int) > 40) = false := by simp; omega
        have hdX2 : decide (40 < (a.length : Int)) = false := by simp; omega
        have hdX3 : decide (40 < a.length) = false := by simp; omega
        by_cases hsY : b.length ≤ 40
        case neg =>
          have hd1 : decide ((b.length : Int) > 40) = true := by simp; omega
          have hd2 : decide (40 < (b.length : Int)) = true := by simp; omega
          have hd3 : decide (40 < b.length) = true := by simp; omega
          clear hsY
          go_wp2_with fail
          go_ret
          exact ⟨by first | rfl | simp, HB4.out⟩
        case pos =>
        have hdY1 : decide ((b.length : Int) > 40) = false := by simp; omega
        have hdY2 : decide (40 < (b.length : Int)) = false := by simp; omega
        have hdY3 : decide (40 < b.length) = false := by simp; omega
        by_cases hsZ : c.length ≤ 40
        case neg =>
          have hd1 : decide ((c.length : Int) > 40) = true := by simp; omega
          have hd2 : decide (40 < (c.length : Int)) = true := by simp; omega
          have hd3 : decide (40 < c.length) = true := by simp; omega
          clear hsZ
          go_wp2_with fail
          go_ret
          exact ⟨by first | rfl | simp, HB4.out⟩
        case pos =>
        have hdZ1 : decide ((c.length : Int) > 40) = false := by simp; omega
        have hdZ2 : decide (40 < (c.length : Int)) = false := by simp; omega
        have hdZ3 : decide (40 < c.length) = false := by simp; omega
        by_cases hza : a.length ≤ zs.length
        case neg =>
          have hd1 : decide ((zs.length : Int) < a.length) = true := by simp; omega
          have hd3 : decide (zs.length < a.length) = true := by simp; omega
          clear hza
          go_wp2_with fail
          go_ret
          exact ⟨rfl, HB4.out⟩
        case pos =>
        have hzd1 : decide ((zs.length : Int) < a.length) = false := by simp; omega
        have hzd3 : decide (zs.length < a.length) = false := by simp; omega
        go_wp2_with fail
        clear hdX1 hdX2 hdX3 hdY1 hdY2 hdY3 hdZ1 hdZ2 hdZ3 hzd1 hzd3
        obtain ⟨_, _, hsh, hcX⟩ := HX4.out.open_
        cases hsh
        have HCX := hidden hcX
        obtain ⟨_, _, hsh, hcI⟩ := HI4.out.open_
        cases hsh
        have HCI := hidden hcI
        clear hcX hcI
        go_loopw [10, 11] (fun v10 v11 wr => ∃ (k : Nat) (so : List Tx), k ≤ a.length ∧ so.length ≤ k ∧ v11 = .int .i64 k ∧ Hid (so.Sublist (a.take k) ∧ wr.ownsRow w4.heap.size 9 1 v10 so.length (so.map S) ∧ Below w4.heap.size w4 wr)) (fun _ v11 _ => a.length - (intOf v11).toNat)
        case atStart => exact ⟨0, [], Nat.zero_le _, Nat.zero_le _, rfl, by simp, ⟨rfl, Or.inl ⟨rfl, rfl⟩⟩, Below.refl _ _⟩
        case round =>
        obtain ⟨k, so, hk, hso, rfl, hst⟩ := hrel
        have hbs := hst.out.2.2.size
        by_cases hlt : k < a.length
        · obtain ⟨x, hx⟩ : ∃ x, a[k]? = some x := ⟨a[k], List.getElem?_eq_getElem hlt⟩
          obtain ⟨z, hz⟩ : ∃ z, zs[k]? = some z := ⟨zs[k]'(by omega), List.getElem?_eq_getElem _⟩
          obtain ⟨b1, o1, hao, hcp1, hb1, cx⟩ := HCX.out k x hx
          obtain ⟨b2, o2, hbo, hcp2, hb2, cz⟩ := HCI.out k z hz
          subst hao hbo
          have cx2 := (hst.out.2.2.cell (p := ⟨b1, o1 + k, none⟩) hb1).trans cx
          have cz2 := (hst.out.2.2.cell (p := ⟨b2, o2 + k, none⟩) hb2).trans cz
          have hkz : k < zs.length := by omega
          have HT := hidden (show a.take (k + 1) = a.take k ++ [x] from take_snoc hx)
          clear hx hz cx cz
          obtain ⟨bt, hbt⟩ : ∃ bt, bits BinOp.and IntKind.i64 z 1 = bt := ⟨_, rfl⟩
          by_cases hone : bt = 1
          · subst hone
            go_wp2_with (at_builtin; go_must (refine wpList_append_txt _ (by go_simp) (.tmp 70) (.tmp 75) rfl w4.heap.size _ (.slice (some ⟨wr.heap.size, 0, none⟩) 1 1) so [x] rfl rfl (hst.out.2.1.alloc _) (row_one _ _ _ rfl) (by simp; omega) (by simp; omega) ?_; intro v9 w9 hown9 hadd9))
            have HN := hidden (show (so ++ [x]).Sublist (a.take (k + 1)) ∧ w9.ownsRow w4.heap.size 9 1 v9 (so ++ [x]).length ((so ++ [x]).map S) ∧ Below w4.heap.size w4 w9 from ⟨by rw [HT.out]; exact hst.out.1.append (List.Sublist.refl _), hown9, adds_bel (bel_alloc hst.out.2.2 _) (by simp; omega) (hst.out.2.1.alloc (.cells #[.string ⟨x.toArray⟩] 9)) hadd9⟩)
            clear hown9 hadd9
            go_roundw
            case rel => exact ⟨k + 1, so ++ [x], by omega, by simp; omega, by go_num, HN.out⟩
            case measure => simp [intOf]; omega
          · have hone2 : (bt == 1) = false := by simpa using hone
            have HN := hidden (show so.Sublist (a.take (k + 1)) from by rw [HT.out]; exact hst.out.1.trans (List.sublist_append_left _ _))
            go_wp2_with fail
            go_roundw
            case rel => exact ⟨k + 1, so, by omega, by omega, by go_num, HN.out, hst.out.2⟩
            case measure => simp [intOf]; omega
        · have HSB := hidden (show so.Sublist a by have := hst.out.1; rwa [List.take_of_length_le (by omega)] at this)
          have HS4 := hidden (RowAt.of_owns hst.out.2.1)
          have hb := hst.out.2.2
          obtain ⟨sa, sc, hsv⟩ : ∃ sa sc, u10 = .slice sa so.length sc := (RowAt.of_owns hst.out.2.1).shape
          subst hsv
          have HFS := hidden (fun x (hx : x ∈ so) => HFX.out x (HSB.out.subset hx))
          clear hst hbs
          obtain ⟨w5, hwr⟩ : ∃ W, W = wr := ⟨_, rfl⟩
          subst hwr
          have HX5 := hidden (HX4.out.later hb)
          have HY5 := hidden (HY4.out.later hb)
          have HZ5 := hidden (HZ4.out.later hb)
          have HB5 := hidden (HB4.out.trans (hb.mono HB4.out.size))
          have HS5 := hidden HS4.out
          clear hb HX4 HY4 HZ4 HB4 HS4 HI4 HCX HCI
          have hsz := HB5.out.size
          go_upto_region 11 with (at_builtin; first
            | (refine wpList_append_txt _ (by go_simp) _ _ rfl w.heap.size (.slice none 0 0) _ [] c rfl rfl ⟨rfl, Or.inl ⟨rfl, rfl⟩⟩ HZ5.out (by simp; omega) hsz ?_; intro v8 w8 hown8 hadd8; rw [List.nil_append] at hown8)
            | (refine wpList_append_txt _ (by go_simp) _ _ rfl w.heap.size v8 _ c a rfl rfl hown8 (HX5.out.later (adds_nil hadd8)) (by omega) (Nat.le_trans hsz (adds_nil hadd8).size) ?_; intro r1 w6 hown9 hadd9; have hb := two_bel hadd8 hadd9))
          have HO9 := hidden (RowAt.of_owns hown9)
          clear hown8 hown9 hadd8 hadd9 hsz
          have HX6 := hidden (HX5.out.later hb)
          have HY6 := hidden (HY5.out.later hb)
          have HZ6 := hidden (HZ5.out.later hb)
          have HS6 := hidden (HS5.out.later hb)
          have HB6 := hidden (HB5.out.trans (hb.mono HB5.out.size))
          clear hb
          clear HX5 HY5 HZ5 HS5 HB5
          have HP6 := hidden HO9.out
          clear HO9
          obtain ⟨r1a, r1n, r1c, rfl⟩ : ∃ a n c, r1 = .slice a n c := by obtain ⟨a, c, e⟩ := HP6.out.shape; exact ⟨_, _, _, e⟩
          have hsz := HB6.out.size
          go_upto_region 12 with (at_builtin; first
            | (refine wpList_append_txt _ (by go_simp) _ _ rfl w.heap.size (.slice none 0 0) _ [] c rfl rfl ⟨rfl, Or.inl ⟨rfl, rfl⟩⟩ HZ6.out (by simp; omega) hsz ?_; intro v8 w8 hown8 hadd8; rw [List.nil_append] at hown8)
            | (refine wpList_append_txt _ (by go_simp) _ _ rfl w.heap.size v8 _ c b rfl rfl hown8 (HY6.out.later (adds_nil hadd8)) (by omega) (Nat.le_trans hsz (adds_nil hadd8).size) ?_; intro r2 w7 hown9 hadd9; have hb := two_bel hadd8 hadd9))
          have HO9 := hidden (RowAt.of_owns hown9)
          clear hown8 hown9 hadd8 hadd9 hsz
          have HX7 := hidden (HX6.out.later hb)
          have HY7 := hidden (HY6.out.later hb)
          have HZ7 := hidden (HZ6.out.later hb)
          have HS7 := hidden (HS6.out.later hb)
          have HP7 := hidden (HP6.out.later hb)
          have HB7 := hidden (HB6.out.trans (hb.mono HB6.out.size))
          clear hb
          clear HX6 HY6 HZ6 HS6 HP6 HB6
          have HQ7 := hidden HO9.out
          clear HO9
          obtain ⟨r2a, r2n, r2c, rfl⟩ : ∃ a n c, r2 = .slice a n c := by obtain ⟨a, c, e⟩ := HQ7.out.shape; exact ⟨_, _, _, e⟩
          have hsz := HB7.out.size
          go_upto_region 13 with (at_builtin; first
            | (refine wpList_append_txt _ (by go_simp) _ _ rfl w.heap.size (.slice none 0 0) _ [] a rfl rfl ⟨rfl, Or.inl ⟨rfl, rfl⟩⟩ HX7.out (by simp; omega) hsz ?_; intro v8 w8 hown8 hadd8; rw [List.nil_append] at hown8)
            | (refine wpList_append_txt _ (by go_simp) _ _ rfl w.heap.size v8 _ a c rfl rfl hown8 (HZ7.out.later (adds_nil hadd8)) (by omega) (Nat.le_trans hsz (adds_nil hadd8).size) ?_; intro r3 w8 hown9 hadd9; have hb := two_bel hadd8 hadd9))
          have HO9 := hidden (RowAt.of_owns hown9)
          clear hown8 hown9 hadd8 hadd9 hsz
          have HX8 := hidden (HX7.out.later hb)
          have HY8 := hidden (HY7.out.later hb)
          have HZ8 := hidden (HZ7.out.later hb)
          have HS8 := hidden (HS7.out.later hb)
          have HP8 := hidden (HP7.out.later hb)
          have HQ8 := hidden (HQ7.out.later hb)
          have HB8 := hidden (HB7.out.trans (hb.mono HB7.out.size))
          clear hb
          clear HX7 HY7 HZ7 HS7 HP7 HQ7 HB7
          have HR8 := hidden HO9.out
          clear HO9
          obtain ⟨r3a, r3n, r3c, rfl⟩ : ∃ a n c, r3 = .slice a n c := by obtain ⟨a, c, e⟩ := HR8.out.shape; exact ⟨_, _, _, e⟩
          have hsz := HB8.out.size
          go_upto_region 14 with (at_builtin; first
            | (refine wpList_append_txt _ (by go_simp) _ _ rfl w.heap.size (.slice none 0 0) _ [] b rfl rfl ⟨rfl, Or.inl ⟨rfl, rfl⟩⟩ HY8.out (by simp; omega) hsz ?_; intro v8 w8 hown8 hadd8; rw [List.nil_append] at hown8)
            | (refine wpList_append_txt _ (by go_simp) _ _ rfl w.heap.size v8 _ b c rfl rfl hown8 (HZ8.out.later (adds_nil hadd8)) (by omega) (Nat.le_trans hsz (adds_nil hadd8).size) ?_; intro r4 w9 hown9 hadd9; have hb := two_bel hadd8 hadd9))
          have HO9 := hidden (RowAt.of_owns hown9)
          clear hown8 hown9 hadd8 hadd9 hsz
          have HX9 := hidden (HX8.out.later hb)
          have HY9 := hidden (HY8.out.later hb)
          have HZ9 := hidden (HZ8.out.later hb)
          have HS9 := hidden (HS8.out.later hb)
          have HP9 := hidden (HP8.out.later hb)
          have HQ9 := hidden (HQ8.out.later hb)
          have HR9 := hidden (HR8.out.later hb)
          have HB9 := hidden (HB8.out.trans (hb.mono HB8.out.size))
          clear hb
          clear HX8 HY8 HZ8 HS8 HP8 HQ8 HR8 HB8
          have HT9 := hidden HO9.out
          clear HO9
          obtain ⟨r4a, r4n, r4c, rfl⟩ : ∃ a n c, r4 = .slice a n c := by obtain ⟨a, c, e⟩ := HT9.out.shape; exact ⟨_, _, _, e⟩
          obtain ⟨z, hz⟩ : ∃ z, lc a b = z := ⟨_, rfl⟩
          have HZ1 := hidden hz
          have HL1 := hidden (show lc a so = so.length from lc_sub HSB.out)
          have HL2 := hidden (show lc (c ++ a) (c ++ b) = z + c.length by rw [lc_front, hz])
          have HL3 := hidden (show lc (a ++ c) (b ++ c) = z + c.length by rw [lc_back, hz])
          have hz1 : z ≤ a.length := by rw [← hz]; exact (lc_le a b).1
          have hz2 : z ≤ b.length := by rw [← hz]; exact (lc_le a b).2
          obtain ⟨y, hy⟩ : ∃ y, lc so b = y := ⟨_, rfl⟩
          have HY1 := hidden hy
          have hz3 : y ≤ z := by rw [← hz, ← hy]; exact lc_mono b HSB.out
          have HFP := hidden (show FitT (c ++ a) from fun x hx => by rcases List.mem_append.1 hx with h | h; exact HFZ.out x h; exact HFX.out x h)
          have HFQ := hidden (show FitT (c ++ b) from fun x hx => by rcases List.mem_append.1 hx with h | h; exact HFZ.out x h; exact HFY.out x h)
          have HFR := hidden (show FitT (a ++ c) from fun x hx => by rcases List.mem_append.1 hx with h | h; exact HFX.out x h; exact HFZ.out x h)
          have HFU := hidden (show FitT (b ++ c) from fun x hx => by rcases List.mem_append.1 hx with h | h; exact HFY.out x h; exact HFZ.out x h)
          have e1 : ((so.length : Int) == so.length) = true := by simp
          have e2 : ((z : Int) + c.length == (z : Int) + c.length) = true := by simp
          have e3 : decide ((z : Int) ≤ a.length) = true := by simp; omega
          have e4 : decide ((z : Int) ≤ b.length) = true := by simp; omega
          have e5 : decide ((z : Int) ≥ y) = true := by simp; omega
          have e6 : decide (z ≤ a.length) = true := by simp; omega
          have e7 : decide (z ≤ b.length) = true := by simp; omega
          have e8 : decide (y ≤ z) = true := by simp; omega
          clear hz hy
          go_wp2_with fail
          refine (lcslen_any _ _ a b w9 HX9.out HY9.out (by omega) (by omega) HFX.out HFY.out).mono ?_
          rw [HZ1.out]
          rintro e w10 ⟨rfl, hb⟩
          have HX10 := hidden (HX9.out.later hb)
          have HY10 := hidden (HY9.out.later hb)
          have HZ10 := hidden (HZ9.out.later hb)
          have HS10 := hidden (HS9.out.later hb)
          have HP10 := hidden (HP9.out.later hb)
          have HQ10 := hidden (HQ9.out.later hb)
          have HR10 := hidden (HR9.out.later hb)
          have HT10 := hidden (HT9.out.later hb)
          have HB10 := hidden (HB9.out.trans (hb.mono HB9.out.size))
          clear hb
          clear HX9 HY9 HZ9 HS9 HP9 HQ9 HR9 HT9 HB9
          go_wp2_with fail
          refine (lcslen_any _ _ a so w10 HX10.out HS10.out (by omega) (by omega) HFX.out HFS.out).mono ?_
          rw [HL1.out]
          rintro e w11 ⟨rfl, hb⟩
          have HX11 := hidden (HX10.out.later hb)
          have HY11 := hidden (HY10.out.later hb)
          have HZ11 := hidden (HZ10.out.later hb)
          have HS11 := hidden (HS10.out.later hb)
          have HP11 := hidden (HP10.out.later hb)
          have HQ11 := hidden (HQ10.out.later hb)
          have HR11 := hidden (HR10.out.later hb)
          have HT11 := hidden (HT10.out.later hb)
          have HB11 := hidden (HB10.out.trans (hb.mono HB10.out.size))
          clear hb
          clear HX10 HY10 HZ10 HS10 HP10 HQ10 HR10 HT10 HB10
          go_wp2_with fail
          refine (lcslen_any _ _ (c ++ a) (c ++ b) w11 HP11.out HQ11.out (by rw [List.length_append]; omega) (by rw [List.length_append]; omega) HFP.out HFQ.out).mono ?_
          rw [HL2.out, Int.natCast_add]
          rintro e w12 ⟨rfl, hb⟩
          have HX12 := hidden (HX11.out.later hb)
          have HY12 := hidden (HY11.out.later hb)
          have HZ12 := hidden (HZ11.out.later hb)
          have HS12 := hidden (HS11.out.later hb)
          have HP12 := hidden (HP11.out.later hb)
          have HQ12 := hidden (HQ11.out.later hb)
          have HR12 := hidden (HR11.out.later hb)
          have HT12 := hidden (HT11.out.later hb)
          have HB12 := hidden (HB11.out.trans (hb.mono HB11.out.size))
          clear hb
          clear HX11 HY11 HZ11 HS11 HP11 HQ11 HR11 HT11 HB11
          go_wp2_with fail
          refine (lcslen_any _ _ (a ++ c) (b ++ c) w12 HR12.out HT12.out (by rw [List.length_append]; omega) (by rw [List.length_append]; omega) HFR.out HFU.out).mono ?_
          rw [HL3.out, Int.natCast_add]
          rintro e w13 ⟨rfl, hb⟩
          have HX13 := hidden (HX12.out.later hb)
          have HY13 := hidden (HY12.out.later hb)
          have HZ13 := hidden (HZ12.out.later hb)
          have HS13 := hidden (HS12.out.later hb)
          have HP13 := hidden (HP12.out.later hb)
          have HQ13 := hidden (HQ12.out.later hb)
          have HR13 := hidden (HR12.out.later hb)
          have HT13 := hidden (HT12.out.later hb)
          have HB13 := hidden (HB12.out.trans (hb.mono HB12.out.size))
          clear hb
          clear HX12 HY12 HZ12 HS12 HP12 HQ12 HR12 HT12 HB12
          go_wp2_with fail
          refine (lcslen_any _ _ so b w13 HS13.out HY13.out (by omega) (by omega) HFS.out HFY.out).mono ?_
          rw [HY1.out]
          rintro e w14 ⟨rfl, hb⟩
          have HX14 := hidden (HX13.out.later hb)
          have HY14 := hidden (HY13.out.later hb)
          have HZ14 := hidden (HZ13.out.later hb)
          have HS14 := hidden (HS13.out.later hb)
          have HP14 := hidden (HP13.out.later hb)
          have HQ14 := hidden (HQ13.out.later hb)
          have HR14 := hidden (HR13.out.later hb)
          have HT14 := hidden (HT13.out.later hb)
          have HB14 := hidden (HB13.out.trans (hb.mono HB13.out.size))
          clear hb
          clear HX13 HY13 HZ13 HS13 HP13 HQ13 HR13 HT13 HB13
          go_wp2_with fail
          go_ret
          exact ⟨by first | rfl | simp, HB14.out⟩

end Go.Proofs.Ytdjdiaadflggfaa
