/-
  The law TreeMany, called with any list of texts and any list of ints that lie in memory, returns true, and nothing of what was in memory has turned; no condition.
-/
import Derived.Test.YtehhpjgbffcocaaLists
import Derived.Test.YtehhpjgbffcocaaTellWalk
namespace Go.Proofs.Ytehhpjgbffcocaa
open Go.RowKit Go.Proofs.Ytehhpjgbffcocaa.Tr

theorem conv_one (c : UInt8) (W : World) (g : Nat) (h : W.cell? ⟨g, 0, none⟩ = some (.int .u8 c.toNat)) : (convert 38 9 (.slice (some ⟨g, 0, none⟩) 1 1)).run Try.prog W = .ok (.string ⟨#[c]⟩) W :=
  run_convert_bytes_back W 38 9 5 ⟨g, 0, none⟩ 1 [c] Try.underlying38 Try.underlying5 Try.underlying9 (fun j hj => by
    have : j = 0 := by simpa using hj
    subst this
    exact h)
theorem conv_num (k : Nat) (hk : k < 256) (W : World) (g : Nat) (h : W.cell? ⟨g, 0, none⟩ = some (.int .u8 (k : Int))) : (convert 38 9 (.slice (some ⟨g, 0, none⟩) 1 1)).run Try.prog W = .ok (.string ⟨#[UInt8.ofNat k]⟩) W :=
  conv_one (UInt8.ofNat k) W g (by rw [h, UInt8.toNat_ofNat_of_lt' (by exact hk)])

theorem text_some {xs : List Tx} {k : Nat} (h : k < xs.length) : ∃ n, xs[k]? = some n := ⟨xs[k], List.getElem?_eq_getElem h⟩

theorem put_grown {W X : World} {v : Value} {xs : List En} (n d : Tx) (hX : Below W.heap.size W X) (hr : TreeAt W v xs) (hl : xs.length ≤ 1000000) (hf : Fit xs) (hn : n.length ≤ 281474976710656) (hd : d.length ≤ 281474976710656) :
    Calls Try.prog 13 #[v, .string ⟨n.toArray⟩, .string ⟨d.toArray⟩] X fun e w' => (∃ v', e = .returned v' ∧ TreeAt w' v' (putL n d xs)) ∧ Below W.heap.size W w' := put_kept n d hX hr hl hf hn hd

set_option maxHeartbeats 4000000 in
set_option maxRecDepth 3000 in
theorem treeMany_in (v u : Value) (ns : List Tx) (zs : List Int) (w : World) (hr : TextsAt w v ns) (hz : IntsAt w u zs) (hne : ns ≠ []) (hl : ns.length ≤ 20) (hlz : ns.length ≤ zs.length) :
    Calls Try.prog 6 #[v, u] w fun e w' => e = .returned (.bool true) ∧ Below w.heap.size w w' := by
  obtain ⟨b, o, cap, rfl, hcap, hbb, hc⟩ := hr.cells hne
  have hpos : 0 < ns.length := List.length_pos_iff.2 hne
  obtain ⟨b', o', cap', rfl, hcap', hbb', hc'⟩ := hz.cells (by intro h; rw [h] at hlz; simp at hlz; exact hne hlz)
  obtain ⟨z0, hz0⟩ : ∃ z, zs[0]? = some z := ⟨zs[0]'(by omega), List.getElem?_eq_getElem _⟩
  obtain ⟨q, hq, hbits⟩ := and_is z0
  have hz1 : w.cell? ⟨b', o', none⟩ = some (.int .i64 z0) := by have := hc' 0 z0 hz0; rw [Nat.add_zero] at this; exact this
  have hb20 : ¬ (20 : Int) < (ns.length : Int) := by omega
  have hbl : ¬ (zs.length : Int) < (ns.length : Int) := by omega
  have hd20 : decide ((20 : Int) < (ns.length : Int)) = false := decide_eq_false hb20
  have hdl : decide ((zs.length : Int) < (ns.length : Int)) = false := decide_eq_false hbl
  have hd20N : decide (20 < ns.length) = false := decide_eq_false (by omega)
  have hdlN : decide (zs.length < ns.length) = false := decide_eq_false (by omega)
  have hblN : ¬ zs.length < ns.length := by omega
  have hb20N : ¬ 20 < ns.length := by omega
  have hzp : 0 < zs.length := by omega
  have HC := hidden hc
  have HZ := hidden hz1
  have HB := hidden hbits
  clear hr hc hc' hz hne hz0 hz1 hbits
  go_enter Try.func6, Try.ntmps6
  go_wp2_with fail
  refine (alive_any _).mono ?_
  rintro e w1 ⟨rfl, hb1⟩
  have H1 := hidden hb1
  clear hb1
  go_wp2_with fail
  go_loopw [6, 7] (fun t i wr => ∃ (k : Nat) (ts : List En), k ≤ ns.length ∧ i = .int .i64 k ∧ Hid (TreeAt wr t ts) ∧ Hid (Puts ns k ts) ∧ Hid (Fit ts) ∧ Hid (Below w.heap.size w wr))
    (fun _ i _ => ns.length - (intOf i).toNat)
  case atStart => exact ⟨0, [], Nat.zero_le _, rfl, TreeAt.nil _ _ _, puts_zero ns, fit_nil, H1.out⟩
  case round =>
    obtain ⟨k, ts, hk, rfl, htree, hputs, hfit, hbw⟩ := hrel
    by_cases hlt : k < ns.length
    · obtain ⟨n, hn⟩ := text_some hlt
      have hcn : wr.cell? ⟨b, o + k, none⟩ = some (.string ⟨n.toArray⟩) := (hbw.out.cell (p := ⟨b, o + k, none⟩) hbb).trans (HC.out k n hn)
      by_cases h0 : n = []
      · subst h0
        clear hn
        go_wp2_with fail
        go_ret
        exact ⟨rfl, hbw.out⟩
      · have h0b : (n == []) = false := by simpa using h0
        by_cases h30 : 30 < n.length
        · have h30b : (30 : Int) < (n.length : Int) := by omega
          clear hn
          go_wp2_with fail
          go_ret
          exact ⟨rfl, hbw.out⟩
        · have h30b : ¬ (30 : Int) < (n.length : Int) := by omega
          have HN := hidden (puts_step hputs.out hn h0)
          have HF2 := hidden (hfit.out.put (n := n) (d := [UInt8.ofNat k]) (by omega) (by simp))
          have hls : ts.length ≤ 1000000 := by have := hputs.out.2.2.1; omega
          have hbr : b < wr.heap.size := Nat.lt_of_lt_of_le hbb hbw.out.size
          have hcv := conv_num k (by omega)
          have hn30 : n.length ≤ 281474976710656 := by omega
          have HD1 := hidden (show ([UInt8.ofNat k] : Tx).length ≤ 281474976710656 by simp)
          clear hn h0
          go_wp2_with fail
          have hbn : ¬ b = wr.heap.size := by omega
          have hbn2 : ¬ wr.heap.size = b := by omega
          have hw8 : IntKind.u8.wrap (k : Int) = (k : Int) := by rw [IntKind.wrap_u8]; omega
          go_region_with ((go_at_call 13; refine (put_grown (W := wr) n [UInt8.ofNat k] ?_ htree.out hls hfit.out hn30 HD1.out).mono ?_; (· first | exact (Below.refl _ wr).drew.alloc (Nat.le_refl _) _ | exact ((Below.refl _ wr).alloc (Nat.le_refl _) _).drew); rintro e w4 ⟨⟨v4, rfl, ht4⟩, hb4⟩))
          all_goals
            have HT4 := hidden ht4
            have HB4 := hidden (hbw.out.trans (hb4.mono hbw.out.size))
            clear ht4 hb4 hcn hcv
            go_wp2_with fail
            go_roundw
            case rel => exact ⟨k + 1, _, by omega, by go_num, HT4.out, HN.out, HF2.out, HB4.out⟩
            case measure => simp [intOf]; omega
    · obtain rfl : k = ns.length := by omega
      have hts : ts.length ≤ 20 := by have := hputs.out.2.2.1; omega
      have HRT := hidden ((right_ok ts).2 hputs.out.1)
      go_wp2_with fail
      refine (right_any u6 ts wr htree.out (by omega)).mono ?_
      rintro e w2 ⟨rfl, hb2⟩
      have H2 := hidden (hbw.out.trans (hb2.mono hbw.out.size))
      have T2 := hidden (htree.out.later hb2)
      clear hb2 htree hbw
      rw [HRT.out]
      go_wp2_with fail
      go_loopw [8] (fun i ws => ∃ j : Nat, j ≤ ns.length ∧ i = .int .i64 j ∧ Hid (TreeAt ws u6 ts) ∧ Hid (Below w.heap.size w ws))
        (fun i _ => ns.length - (intOf i).toNat)
      case atStart => exact ⟨0, Nat.zero_le _, rfl, T2.out, H2.out⟩
      case round =>
        obtain ⟨j, hj, rfl, htj, hbj⟩ := hrel
        by_cases hjl : j < ns.length
        · obtain ⟨n, hn⟩ := text_some hjl
          have HNJ := hidden hn
          clear hn
          go_wp2_with fail
          go_loopw [9, 10] (fun l kk ws => ∃ m : Nat, m ≤ ns.length ∧ kk = .int .i64 m ∧ l = .int .i64 (lastOf ns n m : Nat) ∧ Hid (TreeAt ws u6 ts) ∧ Hid (Below w.heap.size w ws))
            (fun _ kk _ => ns.length - (intOf kk).toNat)
          case atStart => exact ⟨0, Nat.zero_le _, rfl, rfl, htj.out, hbj.out⟩
          case round =>
            obtain ⟨m, hm, rfl, rfl, htm, hbm⟩ := hrel
            by_cases hml : m < ns.length
            · obtain ⟨x, hx⟩ := text_some hml
              have hc1 : wr.cell? ⟨b, o + m, none⟩ = some (.string ⟨x.toArray⟩) := (hbm.out.cell (p := ⟨b, o + m, none⟩) hbb).trans (HC.out m x hx)
              have hc2 : wr.cell? ⟨b, o + j, none⟩ = some (.string ⟨n.toArray⟩) := (hbm.out.cell (p := ⟨b, o + j, none⟩) hbb).trans (HC.out j n HNJ.out)
              by_cases hxn : x = n
              · subst hxn
                have HLO := hidden (show lastOf ns x (m + 1) = m by rw [lastOf, if_pos hx])
                clear hx
                go_wp2_with fail
                go_quiet (fail)
                go_wp2
                have hT := htm.out.later (below_drewN (Below.refl _ wr) nq)
                have hB := below_drewN hbm.out nq
                go_roundw
                case rel => exact ⟨m + 1, by omega, by go_num, by rw [HLO.out], hT, hB⟩
                case measure => simp [intOf]; omega
              · have hxb : (x == n) = false := by simpa using hxn
                have HLO := hidden (show lastOf ns n (m + 1) = lastOf ns n m by rw [lastOf, if_neg (by rw [hx]; intro e; exact hxn (Option.some.inj e))])
                clear hx hxn
                go_wp2_with fail
                go_quiet (fail)
                go_wp2
                have hT := htm.out.later (below_drewN (Below.refl _ wr) nq)
                have hB := below_drewN hbm.out nq
                go_roundw
                case rel => exact ⟨m + 1, by omega, by go_num, by rw [HLO.out], hT, hB⟩
                case measure => simp [intOf]; omega
            · obtain rfl : m = ns.length := by omega
              have hget := hputs.out.2.2.2 n ⟨j, hjl, HNJ.out⟩
              obtain ⟨c, hcc⟩ : ∃ c, lastOf ns n ns.length = c := ⟨_, rfl⟩
              have hc20 : c ≤ 20 := by have := last_le ns n ns.length; omega
              rw [hcc] at hget ⊢
              have HG := hidden hget
              have hc2 : wr.cell? ⟨b, o + j, none⟩ = some (.string ⟨n.toArray⟩) := (hbm.out.cell (p := ⟨b, o + j, none⟩) hbb).trans (HC.out j n HNJ.out)
              have hcv := conv_num c (by omega)
              have hw8 : IntKind.u8.wrap (c : Int) = (c : Int) := by rw [IntKind.wrap_u8]; omega
              clear hget hcc
              go_wp2_with fail
              refine (get_parts u6 ts n wr htm.out (by omega) hfit.out [UInt8.ofNat c] true (by rw [HG.out]; rfl) (by rw [HG.out]; rfl)).mono ?_
              rintro e w3 ⟨rfl, hb3⟩
              have H3 := hidden (hbm.out.trans (hb3.mono hbm.out.size))
              have T3 := hidden (htm.out.later hb3)
              clear hb3 hc2 htm hbm
              go_wp2_with fail
              have hT := T3.out.later ((Below.refl _ w3).alloc (Nat.le_refl _) (.cells #[.int .u8 (c : Int)] 5))
              have hB := H3.out.alloc H3.out.size (.cells #[.int .u8 (c : Int)] 5)
              go_roundw
              case rel => exact ⟨j + 1, by omega, by go_num, hT, hB⟩
              case measure => simp [intOf]; omega
        · have HCU := hidden (show Cuts ns q 0 ts from ⟨hputs.out.1.2, hputs.out.2.1, hputs.out.2.2.1, fun e he j hj => by omega⟩)
          go_wp2_with fail
          go_loopw [6, 13] (fun t i ws => ∃ (m : Nat) (rs : List En), m ≤ ns.length ∧ i = .int .i64 m ∧ Hid (TreeAt ws t rs) ∧ Hid (Cuts ns q m rs) ∧ Hid (Fit rs) ∧ Hid (Below w.heap.size w ws))
            (fun _ i _ => ns.length - (intOf i).toNat)
          case atStart => exact ⟨0, ts, Nat.zero_le _, rfl, htj.out, HCU.out, hfit.out, hbj.out⟩
          case round =>
            obtain ⟨m, rs, hm, rfl, htm, hcu, hfr, hbm⟩ := hrel
            have hrl : rs.length ≤ 20 := by have := hcu.out.2.2.1; omega
            by_cases hml : m < ns.length
            · obtain ⟨p, hp⟩ : ∃ p, p = (m + q) % ns.length := ⟨_, rfl⟩
              have hpl : p < ns.length := by rw [hp]; exact Nat.mod_lt _ hpos
              obtain ⟨x, hx⟩ := text_some hpl
              have hcx : wr.cell? ⟨b, o + p, none⟩ = some (.string ⟨x.toArray⟩) := (hbm.out.cell (p := ⟨b, o + p, none⟩) hbb).trans (HC.out p x hx)
              have hcz : wr.cell? ⟨b', o', none⟩ = some (.int .i64 z0) := (hbm.out.cell (p := ⟨b', o', none⟩) hbb').trans HZ.out
              have hbits := HB.out
              have hmm : ((m : Int) + (q : Int)) % (ns.length : Int) = (p : Int) := by rw [hp]; simp
              have HN := hidden (cuts_step hcu.out (by rw [← hp]; exact hx))
              clear hx hp
              go_wp2_with fail
              refine (cut_any u6 rs x wr htm.out (by omega) hfr.out).mono ?_
              rintro e w3 ⟨⟨v3, rfl, ht3⟩, hb3⟩
              have H3 := hidden (hbm.out.trans (hb3.mono hbm.out.size))
              have T3 := hidden ht3
              have F3 := hidden (hfr.out.cut (n := x))
              clear hb3 ht3 hcx hcz htm hbm
              go_wp2_with fail
              go_roundw
              case rel => exact ⟨m + 1, _, by omega, by go_num, T3.out, HN.out, F3.out, H3.out⟩
              case measure => simp [intOf]; omega
            · obtain rfl : m = ns.length := by omega
              have hnil := cuts_end hcu.out
              subst hnil
              obtain ⟨ao, cp, hsh⟩ := htm.out.shape
              subst hsh
              go_wp2_with fail
              go_ret
              exact ⟨rfl, hbm.out⟩

set_option maxHeartbeats 1000000 in
theorem treeMany_nil (v u : Value) (zs : List Int) (w : World) (hr : TextsAt w v []) (hz : IntsAt w u zs) :
    Calls Try.prog 6 #[v, u] w fun e w' => e = .returned (.bool true) ∧ Below w.heap.size w w' := by
  obtain ⟨ao, cap, rfl⟩ := hr.shape
  obtain ⟨ao', cap', rfl⟩ := hz.shape
  have hbl : ¬ (zs.length : Int) < 0 := by omega
  have hdl : decide ((zs.length : Int) < 0) = false := decide_eq_false hbl
  clear hr hz
  go_enter Try.func6, Try.ntmps6
  go_wp2_with fail
  refine (alive_any _).mono ?_
  rintro e w1 ⟨rfl, hb1⟩
  have H1 := hidden hb1
  clear hb1
  go_wp2_with fail
  refine wp_loop_rounds 1 ?_
  rw [rounds_succ]
  go_wp2_with fail
  refine (right_any _ [] w1 (TreeAt.nil _ _ _) (by simp)).mono ?_
  rintro e w2 ⟨rfl, hb2⟩
  have H2 := hidden (H1.out.trans (hb2.mono H1.out.size))
  clear hb2 H1
  rw [show right [] [] = true from rfl]
  go_wp2_with fail
  refine wp_loop_rounds 1 ?_
  rw [rounds_succ]
  go_wp2_with fail
  refine wp_loop_rounds 1 ?_
  rw [rounds_succ]
  go_wp2_with fail
  go_ret
  exact ⟨rfl, H2.out⟩

set_option maxHeartbeats 1000000 in
theorem treeMany_out (v u : Value) (ns : List Tx) (zs : List Int) (w : World) (hr : TextsAt w v ns) (hz : IntsAt w u zs) (hl : 20 < ns.length ∨ (ns.length ≤ 20 ∧ zs.length < ns.length)) :
    Calls Try.prog 6 #[v, u] w fun e w' => e = .returned (.bool true) ∧ Below w.heap.size w w' := by
  obtain ⟨ao, cap, rfl⟩ := hr.shape
  obtain ⟨ao', cap', rfl⟩ := hz.shape
  clear hr hz
  rcases hl with h20 | ⟨h20, hzl⟩
  · have hb20 : (20 : Int) < (ns.length : Int) := by omega
    go_enter Try.func6, Try.ntmps6
    go_wp2_with fail
    refine (alive_any _).mono ?_
    rintro e w1 ⟨rfl, hb1⟩
    have H1 := hidden hb1
    clear hb1
    go_wp2_with fail
    go_ret
    exact ⟨rfl, H1.out⟩
  · have hb20 : ¬ (20 : Int) < (ns.length : Int) := by omega
    have hbl : (zs.length : Int) < (ns.length : Int) := by omega
    go_enter Try.func6, Try.ntmps6
    go_wp2_with fail
    refine (alive_any _).mono ?_
    rintro e w1 ⟨rfl, hb1⟩
    have H1 := hidden hb1
    clear hb1
    go_wp2_with fail
    go_ret
    exact ⟨rfl, H1.out⟩

theorem treeMany_any (v : Value) (ns : List Tx) (u : Value) (zs : List Int) (w : World) (hr : TextsAt w v ns) (hz : IntsAt w u zs) :
    Calls Try.prog 6 #[v, u] w fun e w' => e = .returned (.bool true) ∧ Below w.heap.size w w' := by
  by_cases hl : ns.length ≤ 20
  · by_cases hlz : ns.length ≤ zs.length
    · by_cases hne : ns = []
      · subst hne
        exact treeMany_nil v u zs w hr hz
      · exact treeMany_in v u ns zs w hr hz hne hl hlz
    · exact treeMany_out v u ns zs w hr hz (Or.inr ⟨hl, by omega⟩)
  · exact treeMany_out v u ns zs w hr hz (Or.inl (by omega))

end Go.Proofs.Ytehhpjgbffcocaa
