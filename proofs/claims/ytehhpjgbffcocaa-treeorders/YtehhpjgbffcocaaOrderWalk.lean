/-
  The law TreeOrders, called with any tree and any list of ints that lie in memory, returns true, and nothing of what was in memory has turned; condition: no text of the tree is longer than the library's Clone takes.
-/
import Derived.Test.YtehhpjgbffcocaaLists
namespace Go.Proofs.Ytehhpjgbffcocaa
open Go.RowKit Go.Proofs.Ytehhpjgbffcocaa.Tr

theorem Try.info4 : (Try.prog.info? 4).map (fun i => (i.zero, i.size, i.bytes)) = some (some (.bool false), 1, 1) := by kernel_rfl

theorem had_start (n : Nat) : (madeCells #[Value.bool false] (n * 1)).toList = (List.replicate n false).map Value.bool := by
  rw [toList_madeCells_one, Nat.mul_one]; simp
theorem count_start (n : Nat) : (List.replicate n false).count true = 0 := by
  rw [List.count_eq_zero]; intro h; have := List.eq_of_mem_replicate h; cases this

theorem sel_len (hs : List Bool) (ts : List En) : (sel hs ts).length ≤ ts.length := by
  induction ts generalizing hs with
  | nil => cases hs with
    | nil => exact Nat.le_refl _
    | cons b hs => cases b <;> exact Nat.le_refl _
  | cons e ts ih =>
    cases hs with
    | nil => exact Nat.zero_le _
    | cons b hs =>
      have := ih hs
      cases b
      · show (sel hs ts).length ≤ ts.length + 1; omega
      · show (sel hs ts).length + 1 ≤ ts.length + 1; omega

set_option maxHeartbeats 4000000 in
theorem treeOrders_in (v u : Value) (xs : List En) (zs : List Int) (w : World) (hr : TreeAt w v xs) (hz : IntsAt w u zs) (hne : xs ≠ []) (hl : xs.length ≤ 20) (hlz : xs.length ≤ zs.length) (hf : Fit xs) (hok : Ok xs) :
    Calls Try.prog 5 #[v, u] w fun e w' => e = .returned (.bool true) ∧ Below w.heap.size w w' := by
  obtain ⟨i0, hi, hz0, hz1, hz2⟩ := info_parts Try.info4
  obtain ⟨b, o, cap, rfl, hcap, hbb, hc⟩ := hr.cells hne
  have hpos : 0 < xs.length := List.length_pos_iff.2 hne
  obtain ⟨b', o', cap', rfl, hcap', hbb', hc'⟩ := hz.cells (by intro h; rw [h] at hlz; simp at hlz; exact hne hlz)
  have hb20 : ¬ (20 : Int) < (xs.length : Int) := by omega
  have hbl : ¬ (zs.length : Int) < (xs.length : Int) := by omega
  have hd20 : decide ((20 : Int) < (xs.length : Int)) = false := decide_eq_false hb20
  have hdl : decide ((zs.length : Int) < (xs.length : Int)) = false := decide_eq_false hbl
  have HR := hidden ((right_ok xs).2 hok)
  have HS := hidden hok.2
  have HF := hidden hf
  have HT0 := hidden hr
  have HC := hidden hc
  have HC' := hidden hc'
  clear hr hf hok hc hc' hz hne
  go_enter Try.func5, Try.ntmps5
  go_wp2_with fail
  refine (alive_any _).mono ?_
  rintro e w1 ⟨rfl, hb1⟩
  have H1 := hidden hb1
  clear hb1
  go_wp2_with fail
  refine (refRight_any _ xs w1 (HT0.out.later H1.out) (by omega)).mono ?_
  rintro e w2 ⟨rfl, hb2⟩
  have H2 := hidden (H1.out.trans (hb2.mono H1.out.size))
  clear hb2 H1
  rw [HR.out]
  go_wp2_with (at_make; refine wpList_make_full _ rfl _ _ 33 rfl w.heap.size 4 i0 (.bool false) 1 Try.underlying33 hi hz0 hz1 .i64 .i64 _ _ xs.length rfl rfl rfl rfl (by rw [hz2]; omega) (by unfold maxLen; omega) H2.out.size ?_; intro w3 hown3 hgrow3)
  have H3 := hidden (H2.out.grown hgrow3 H2.out.size (fun k hk => by cases hk))
  have A3 := hidden (show HadAt w3 w.heap.size w2.heap.size xs.length (List.replicate xs.length false) from by unfold HadAt; rw [← had_start]; exact hown3)
  have hg0 : w.heap.size ≤ w2.heap.size := H2.out.size
  clear hown3 hgrow3 H2
  generalize w2.heap.size = g at *
  go_loopw [6, 8] (fun x i wr => ∃ (k : Nat) (hs : List Bool), k ≤ xs.length ∧ i = .int .i64 k ∧ Hid (hs.count true = k) ∧ Hid (HadAt wr w.heap.size g xs.length hs) ∧ Hid (TreeAt wr x (sel hs xs)) ∧ Hid (Below w.heap.size w wr))
    (fun _ i _ => xs.length - (intOf i).toNat)
  case atStart => exact ⟨0, List.replicate xs.length false, Nat.zero_le _, rfl, count_start _, A3.out, by rw [Hid, sel_none]; exact TreeAt.nil _ _ _, H3.out⟩
  case round =>
    obtain ⟨k, hs, hk, rfl, hcnt, hhad, htree, hbw⟩ := hrel
    by_cases hlt : k < xs.length
    · obtain ⟨z, hz⟩ : ∃ z, zs[k]? = some z := ⟨zs[k]'(by omega), List.getElem?_eq_getElem _⟩
      have hcz : wr.cell? ⟨b', o' + k, none⟩ = some (.int .i64 z) := (hbw.out.cell (p := ⟨b', o' + k, none⟩) hbb').trans (HC'.out k z hz)
      have hkz : k < zs.length := by omega
      obtain ⟨q, hq, hbits⟩ := and_is z
      obtain ⟨f, hf⟩ := free_one hs (by rw [hcnt.out, hhad.out.len]; exact hlt)
      have hfn : f < xs.length := by rw [← hhad.out.len]; exact (List.getElem?_eq_some_iff.1 hf).1
      have HFF := hidden hf
      have hn0 : ¬ (xs.length : Int) = 0 := by omega
      have hI1 : IntKind.i64.wrap ((q : Int).tmod (xs.length : Int)) = ((q % xs.length : Nat) : Int) := by
        rw [Int.tmod_eq_emod_of_nonneg (by omega), IntKind.wrap_i64]
        have h1 : (q : Int) % (xs.length : Int) = ((q % xs.length : Nat) : Int) := by simp
        rw [h1]
        have := Nat.mod_lt q hpos
        omega
      clear hz hf
      go_wp2_with fail
      go_loop [9] (fun kk => ∃ j : Nat, j < xs.length ∧ kk = .int .i64 j) (fun kk => dist f xs.length (intOf kk).toNat)
      case atStart => exact ⟨q % xs.length, Nat.mod_lt _ hpos, by simp⟩
      case round =>
        obtain ⟨j, hj, rfl⟩ := hrel
        obtain ⟨bj, hbj⟩ : ∃ bj, hs[j]? = some bj := ⟨hs[j]'(by rw [hhad.out.len]; exact hj), List.getElem?_eq_getElem _⟩
        have hcj := hhad.out.cell hbj
        cases bj
        · obtain ⟨x1, x2, hx⟩ := at_some hj
          have hfz : wr.frozen? ⟨g, j, none⟩ = false := hhad.out.frozenAt j
          obtain ⟨hset, hgrow⟩ := hhad.out.set j
          have htr := hhad.out.far htree.out hgrow
          have hbW : Below w.heap.size w (wr.setCell ⟨g, j, none⟩ (.bool true)) := hbw.out.grown hgrow hbw.out.size (fun k hk => by have e : g = k := Option.some.inj hk; omega)
          have hc1 : (wr.setCell ⟨g, j, none⟩ (.bool true)).cell? ⟨b, o + j * 2, none⟩ = some (.string ⟨x1.toArray⟩) := (hbW.cell (p := ⟨b, o + j * 2, none⟩) hbb).trans (HC.out j _ hx).1
          have hc2 : (wr.setCell ⟨g, j, none⟩ (.bool true)).cell? ⟨b, o + j * 2 + 1, none⟩ = some (.string ⟨x2.toArray⟩) := (hbW.cell (p := ⟨b, o + j * 2 + 1, none⟩) hbb).trans (HC.out j _ hx).2
          have hfx := HF.out _ (List.mem_of_getElem? hx)
          have HSE := hidden (sel_step HS.out hhad.out.len hbj hx)
          have HCN := hidden (show (hs.set j true).count true = k + 1 from by rw [count_set hs j hbj, hcnt.out])
          have hlt2 : b < (wr.setCell ⟨g, j, none⟩ (.bool true)).heap.size := Nat.lt_of_lt_of_le hbb hbW.size
          have HSET := hidden hset
          have HTR := hidden htr
          have HBW := hidden hbW
          have HC1 := hidden hc1
          have HC2 := hidden hc2
          have HLT := hidden hlt2
          clear hset hgrow htr hbW hc1 hc2 hlt2 hbj hx
          go_wp2_with fail
          generalize wr.setCell ⟨g, j, none⟩ (.bool true) = W2 at HSET HTR HBW HC1 HC2 HLT ⊢
          have hc1 := HC1.out
          have hc2 := HC2.out
          have hI0 : (0 : Int) ≤ (j : Int) := by omega
          have hI2 : (j : Int) < (xs.length : Int) := by omega
          have hfs : Fit (sel hs xs) := HF.out.sub (fun e he => sel_mem he)
          have hls : (sel hs xs).length ≤ 1000000 := by have := sel_len hs xs; omega
          have HFS := hidden hfs
          clear hfs
          go_region_held3 (fun X => X.cell? ⟨b, o + j * 2, none⟩ = some (.string ⟨x1.toArray⟩) ∧ X.cell? ⟨b, o + j * 2 + 1, none⟩ = some (.string ⟨x2.toArray⟩))
            (first | exact keepS HLT.out hc1 hc2 (by assumption) | exact keepS HLT.out hc1 hc2 (Below.refl _ _).drew)
            (first | (go_at_call 13; refine (put_kept (W := W2) x1 x2 (Below.refl _ _).drew HTR.out hls HFS.out hfx.1 hfx.2).mono ?_; rintro e w4 ⟨⟨v4, rfl, ht4⟩, hb4⟩))
          all_goals
            rw [HSE.out] at ht4
            have HT4 := hidden ht4
            have HA4 := hidden (HSET.out.later hb4)
            have HB4 := hidden (HBW.out.trans (hb4.mono HBW.out.size))
            clear ht4 hb4 HSET HTR HBW HC1 HC2 hc1 hc2
            go_wp2_with fail
            go_roundw
            case rel => exact ⟨k + 1, hs.set j true, by omega, by go_num, HCN.out, HA4.out, HT4.out, HB4.out⟩
            case measure => simp [intOf]; omega
        · have hjf : j ≠ f := fun e => by rw [e, HFF.out] at hbj; cases hbj
          have HM := hidden (dist_step hfn hj hjf)
          clear hbj hjf
          go_wp2_with fail
          go_round
          case rel => exact ⟨(j + 1) % xs.length, Nat.mod_lt _ hpos, by simp⟩
          case measure =>
            show dist f xs.length ((((j : Int) + 1) % (xs.length : Int)).toNat) < dist f xs.length ((j : Int).toNat)
            rw [show ((j : Int) + 1) % (xs.length : Int) = (((j + 1) % xs.length : Nat) : Int) by simp, Int.toNat_natCast, Int.toNat_natCast]
            exact HM.out
    · have hall : sel hs xs = xs := sel_all hs xs hhad.out.len (all_set hs (by rw [hcnt.out, hhad.out.len]; omega))
      rw [hall] at htree
      clear hall
      go_wp2_with fail
      refine (same_any _ _ xs xs wr htree.out (HT0.out.later hbw.out) (by omega) (by omega)).mono ?_
      rintro e w4 ⟨rfl, hb4⟩
      have HB4 := hidden (hbw.out.trans (hb4.mono hbw.out.size))
      clear hb4
      rw [decide_eq_true (Eq.refl xs)]
      go_wp2_with fail
      go_ret
      exact ⟨rfl, HB4.out⟩


set_option maxHeartbeats 1000000 in
theorem treeOrders_nil (v u : Value) (zs : List Int) (w : World) (hr : TreeAt w v []) (hz : IntsAt w u zs) :
    Calls Try.prog 5 #[v, u] w fun e w' => e = .returned (.bool true) ∧ Below w.heap.size w w' := by
  obtain ⟨i0, hi, hz0, hz1, hz2⟩ := info_parts Try.info4
  obtain ⟨ao, cap, rfl⟩ := hr.shape
  obtain ⟨ao', cap', rfl⟩ := hz.shape
  have HT0 := hidden hr
  have hbl : ¬ (zs.length : Int) < 0 := by omega
  have hdl : decide ((zs.length : Int) < 0) = false := decide_eq_false hbl
  clear hr hz
  go_enter Try.func5, Try.ntmps5
  go_wp2_with fail
  refine (alive_any _).mono ?_
  rintro e w1 ⟨rfl, hb1⟩
  have H1 := hidden hb1
  clear hb1
  go_wp2_with fail
  refine (refRight_any _ [] w1 (HT0.out.later H1.out) (by simp)).mono ?_
  rintro e w2 ⟨rfl, hb2⟩
  have H2 := hidden (H1.out.trans (hb2.mono H1.out.size))
  clear hb2 H1
  rw [show right [] [] = true from rfl]
  go_wp2_with (at_make; refine wpList_make_full _ rfl _ _ 33 rfl w.heap.size 4 i0 (.bool false) 1 Try.underlying33 hi hz0 hz1 .i64 .i64 _ _ 0 rfl rfl rfl rfl (by omega) (by unfold maxLen; omega) H2.out.size ?_; intro w3 hown3 hgrow3)
  have H3 := hidden (H2.out.grown hgrow3 H2.out.size (fun k hk => by cases hk))
  clear hown3 hgrow3 H2
  refine wp_loop_rounds 1 ?_
  rw [rounds_succ]
  go_wp2_with fail
  refine (same_any _ _ [] [] w3 (TreeAt.nil _ _ _) (HT0.out.later H3.out) (by simp) (by simp)).mono ?_
  rintro e w4 ⟨rfl, hb4⟩
  have HB4 := hidden (H3.out.trans (hb4.mono H3.out.size))
  clear hb4
  go_wp2_with fail
  go_ret
  exact ⟨rfl, HB4.out⟩

set_option maxHeartbeats 1000000 in
theorem treeOrders_out (v u : Value) (xs : List En) (zs : List Int) (w : World) (hr : TreeAt w v xs) (hz : IntsAt w u zs) (hl : 20 < xs.length ∨ (xs.length ≤ 20 ∧ right [] xs = false) ∨ (xs.length ≤ 20 ∧ right [] xs = true ∧ zs.length < xs.length)) :
    Calls Try.prog 5 #[v, u] w fun e w' => e = .returned (.bool true) ∧ Below w.heap.size w w' := by
  obtain ⟨ao, cap, rfl⟩ := hr.shape
  obtain ⟨ao', cap', rfl⟩ := hz.shape
  have HT0 := hidden hr
  clear hr hz
  rcases hl with h20 | ⟨h20, hR⟩ | ⟨h20, hR, hz⟩
  · have hb20 : (20 : Int) < (xs.length : Int) := by omega
    go_enter Try.func5, Try.ntmps5
    go_wp2_with fail
    refine (alive_any _).mono ?_
    rintro e w1 ⟨rfl, hb1⟩
    have H1 := hidden hb1
    clear hb1
    go_wp2_with fail
    go_ret
    exact ⟨rfl, H1.out⟩
  · have hb20 : ¬ (20 : Int) < (xs.length : Int) := by omega
    have HR := hidden hR
    clear hR
    go_enter Try.func5, Try.ntmps5
    go_wp2_with fail
    refine (alive_any _).mono ?_
    rintro e w1 ⟨rfl, hb1⟩
    have H1 := hidden hb1
    clear hb1
    go_wp2_with fail
    refine (refRight_any _ xs w1 (HT0.out.later H1.out) (by omega)).mono ?_
    rintro e w2 ⟨rfl, hb2⟩
    have H2 := hidden (H1.out.trans (hb2.mono H1.out.size))
    clear hb2 H1
    rw [HR.out]
    go_wp2_with fail
    go_ret
    exact ⟨rfl, H2.out⟩
  · have hb20 : ¬ (20 : Int) < (xs.length : Int) := by omega
    have hbl : (zs.length : Int) < (xs.length : Int) := by omega
    have HR := hidden hR
    clear hR
    go_enter Try.func5, Try.ntmps5
    go_wp2_with fail
    refine (alive_any _).mono ?_
    rintro e w1 ⟨rfl, hb1⟩
    have H1 := hidden hb1
    clear hb1
    go_wp2_with fail
    refine (refRight_any _ xs w1 (HT0.out.later H1.out) (by omega)).mono ?_
    rintro e w2 ⟨rfl, hb2⟩
    have H2 := hidden (H1.out.trans (hb2.mono H1.out.size))
    clear hb2 H1
    rw [HR.out]
    go_wp2_with fail
    go_ret
    exact ⟨rfl, H2.out⟩

theorem treeOrders_any (v : Value) (xs : List En) (u : Value) (zs : List Int) (w : World) (hr : TreeAt w v xs) (hf : Fit xs) (hz : IntsAt w u zs) :
    Calls Try.prog 5 #[v, u] w fun e w' => e = .returned (.bool true) ∧ Below w.heap.size w w' := by
  by_cases hl : xs.length ≤ 20
  · cases hR : right [] xs with
    | false => exact treeOrders_out v u xs zs w hr hz (Or.inr (Or.inl ⟨hl, hR⟩))
    | true =>
      by_cases hlz : xs.length ≤ zs.length
      · by_cases hne : xs = []
        · subst hne
          exact treeOrders_nil v u zs w hr hz
        · exact treeOrders_in v u xs zs w hr hz hne hl hlz hf ((right_ok xs).1 hR)
      · exact treeOrders_out v u xs zs w hr hz (Or.inr (Or.inr ⟨hl, hR, by omega⟩))
  · exact treeOrders_out v u xs zs w hr hz (Or.inl (by omega))

end Go.Proofs.Ytehhpjgbffcocaa
