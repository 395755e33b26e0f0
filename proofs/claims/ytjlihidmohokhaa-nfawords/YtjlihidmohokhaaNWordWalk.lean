/-
  The law NfaWords, called with any two texts, returns true, and nothing of what was in memory has turned; conditions: the lengths of both.
-/
import Derived.Test.YtjlihidmohokhaaNAlive
import Derived.Test.YtjlihidmohokhaaNWordFact
import Derived.Deep.RegionHeld3
import Derived.Deep.CutRange
namespace Go.Proofs.Ytjlihidmohokhaa
open Go.RowKit Go.Proofs.Ytjlihidmohokhaa.Gl

theorem low_byte {c : UInt8} (h1 : ¬ (c.toNat : Int) < 97) (h2 : ¬ (122 : Int) < c.toNat) : isLow c = true := by
  simp only [isLow, Bool.and_eq_true, decide_eq_true_eq]
  omega
theorem part_same (s l : Tx) (k : Nat) : (((⟨s.toArray⟩ : ByteArray).extract k (k + l.length)).toList == l) = ((s.drop k).take l.length == l) := by
  rw [ext_text, Nat.add_sub_cancel_left]
  simp

set_option maxHeartbeats 4000000 in
theorem nfaWords_any (l s : Tx) (w : World) (hl : l.length ≤ 281474976710656) (hs : s.length ≤ 281474976710656) :
    Calls Try.prog 8 #[S l, S s] w fun e w' => e = .returned (.bool true) ∧ Below w.heap.size w w' := by
  have HEA := hidden (ere_any l)
  unfold S at HEA ⊢
  go_enter Try.func8, Try.ntmps8
  go_wp2_with fail
  refine (alive_any _).mono ?_
  rintro e w1 ⟨rfl, hb1⟩
  have HB1 := hidden hb1
  clear hb1
  by_cases h1 : l.length ≤ 20
  · have h1' : ¬ (20 : Int) < l.length := by omega
    have h1d : decide ((20 : Int) < l.length) = false := decide_eq_false h1'
    by_cases h2 : s.length ≤ 40
    · have h2' : ¬ (40 : Int) < s.length := by omega
      have h2d : decide ((40 : Int) < s.length) = false := decide_eq_false h2'
      go_wp2_with fail
      go_loop [4, 6] (fun _ i => ∃ k : Nat, i = .int .i64 k ∧ k ≤ l.length ∧ Hid ((l.take k).all isLow = true))
        (fun _ i => l.length - (intOf i).toNat)
      case atStart => exact ⟨0, rfl, Nat.zero_le _, rfl⟩
      case round =>
        obtain ⟨k, rfl, hk, H⟩ := hrel
        by_cases hlt : k < l.length
        · obtain ⟨c, hc⟩ : ∃ c, l[k]? = some c := ⟨l[k], List.getElem?_eq_getElem hlt⟩
          have hbc : ∀ h, (⟨l.toArray⟩ : ByteArray)[k]'h = c := fun h => by rw [byte_at, List.getD_eq_getElem?_getD, hc]; rfl
          have HN := hidden (show isLow c = true → (l.take (k + 1)).all isLow = true by
            intro e
            rw [List.take_add_one, hc, List.all_append, H.out]
            simp [e])
          clear hc H
          by_cases e1 : (c.toNat : Int) < 97
          · go_wp2_with fail
            go_ret
            exact ⟨rfl, HB1.out⟩
          · by_cases e2 : (122 : Int) < c.toNat
            · go_wp2_with fail
              go_ret
              exact ⟨rfl, HB1.out⟩
            · have HN2 := hidden (HN.out (low_byte e1 e2))
              go_wp2_with fail
              first | (go_round; case rel => exact ⟨k + 1, by go_num, by omega, HN2.out⟩; case measure => simp [intOf]; omega) | exact ⟨⟨k + 1, by go_num, by omega, HN2.out⟩, by simp [intOf]; omega⟩
        · obtain rfl : k = l.length := by omega
          have HL := hidden (show topE l = .ok (wordN l) l.length from word_top (by have := H.out; rw [List.take_length] at this; exact this) (by omega))
          have HR := hidden (show rightN (wordN l) = true from word_right (by omega))
          clear hk hlt H
          go_wp2_with fail
          refine (HEA.out _).mono ?_
          rintro e w2 ⟨hb2, ha2⟩
          rw [HL.out] at ha2
          obtain ⟨vx, rfl, hnx, hcx⟩ := ha2
          obtain ⟨z, y0, y1, y2, y3, sa, sn, sc, lo, hi, rfl⟩ := hnx.shapeI
          have HB2 := hidden (HB1.out.trans (hb2.mono HB1.out.size))
          have HN2 := hidden hnx
          have hc2 : cntN (wordN l) ≤ 1048576 := by omega
          have HZ2 := hidden (Blk.new w2 (.int .i64 z) (.int .u64 y0) (.int .u64 y1) (.int .u64 y2) (.int .u64 y3) (.slice sa sn sc) (.int .i64 lo) (.int .i64 hi))
          clear hb2 hnx hcx
          go_upto_region 10 with fail
          generalize hW3 : World.alloc _ _ = W3
          have HB3 := hidden (show Below w.heap.size w W3 by rw [← hW3]; (with_reducible (repeat (first | exact HB2.out | apply bel_alloc | apply bel_put | apply bel_set | apply Below.drew | apply below_drewN | omega))))
          have HN3 := hidden (show NodeAt W3 (w1.heap.size ≤ ·) (.agg #[.int .i64 z, .int .u64 y0, .int .u64 y1, .int .u64 y2, .int .u64 y3, .slice sa sn sc, .int .i64 lo, .int .i64 hi]) (wordN l) by rw [← hW3]; (with_reducible (repeat (first | exact HN2.out | apply NodeAt.alloc | apply NodeAt.putN | apply NodeAt.other | apply NodeAt.putO | apply NodeAt.otherO | apply NodeAt.drewN | apply NodeAt.drew | omega))))
          have HZ3 := hidden (show Blk W3 w2.heap.size (.int .i64 z) (.int .u64 y0) (.int .u64 y1) (.int .u64 y2) (.int .u64 y3) (.slice sa sn sc) (.int .i64 lo) (.int .i64 hi) by rw [← hW3]; (with_reducible (repeat (first | exact HZ2.out | exact Blk.newAt (by simp) | apply Blk.alloc | apply Blk.put | apply Blk.putOther | apply Blk.other | apply Blk.drewN | apply Blk.drew | omega))))
          clear hW3
          go_wp2_with fail
          go_loop [10, 11] (fun q i => ∃ (k : Nat), i = .int .i64 k ∧ k ≤ s.length + 1 - l.length ∧ q = .bool (seenTo s l k))
            (fun _ i => s.length + 1 - (intOf i).toNat)
          case atStart => exact ⟨0, rfl, Nat.zero_le _, rfl⟩
          case round =>
            obtain ⟨k, rfl, hk, rfl⟩ := hrel
            by_cases hlt : k + l.length ≤ s.length
            · have hltI : (k : Int) + (l.length : Int) ≤ s.length := by omega
              have HSU := hidden (seenTo_succ s l k)
              cases hb : seenTo s l k with
              | true =>
                have HS2 := hidden (show seenTo s l (k + 1) = true by rw [HSU.out, hb]; rfl)
                go_wp2_with fail
                exact ⟨⟨k + 1, by go_num, by omega, by rw [HS2.out]⟩, by simp [intOf]; omega⟩
              | false =>
                have HS2 := hidden (show seenTo s l (k + 1) = ((s.drop k).take l.length == l) by rw [HSU.out, hb]; rfl)
                go_wp2_with fail
                exact ⟨⟨k + 1, by go_num, by omega, by rw [HS2.out, part_same]⟩, by simp [intOf]; omega⟩
            · have hltI : ¬ (k : Int) + (l.length : Int) ≤ s.length := by omega
              obtain rfl : k = s.length + 1 - l.length := by omega
              obtain ⟨z0, z1, z2, z3, z4, z5, z6, z7⟩ := HZ3.out.cells
              have hzl := HZ3.out.lt
              have HF := hidden (show someB s (wordN l) = seenTo s l (s.length + 1 - l.length) by
                rw [Bool.eq_iff_iff, someB_is, word_some]
                simp [HR.out])
              have HM := hidden (show wholeB s (wordN l) = (s == l) by
                rw [Bool.eq_iff_iff, wholeB_is, word_whole]
                simp [HR.out])
              generalize seenTo s l (s.length + 1 - l.length) = sn9 at HF ⊢
              go_wp2_with fail
              refine (nFinds_any (wordN l) _ s _ _ HN3.out hc2 (by omega)).mono ?_
              rintro e w5 ⟨rfl, hb5⟩
              rw [HF.out]
              have HB5 := hidden (HB3.out.trans (hb5.mono HB3.out.size))
              have HN5 := hidden (HN3.out.later hb5)
              have HZ5 := hidden (Blk.later HZ3.out hb5)
              clear z0 z1 z2 z3 z4 z5 z6 z7 hb5
              obtain ⟨z0, z1, z2, z3, z4, z5, z6, z7⟩ := HZ5.out.cells
              go_wp2_with fail
              refine (nMatches_any (wordN l) _ s _ _ HN5.out hc2 (by omega)).mono ?_
              rintro e w6 ⟨rfl, hb6⟩
              rw [HM.out]
              have HB6 := hidden (HB5.out.trans (hb6.mono HB5.out.size))
              clear hb6
              go_wp2_with fail
              go_ret
              exact ⟨by simp, HB6.out⟩
    · have h2' : (40 : Int) < s.length := by omega
      go_wp2_with fail
      go_ret
      exact ⟨rfl, HB1.out⟩
  · have h1' : (20 : Int) < l.length := by omega
    go_wp2_with fail
    go_ret
    exact ⟨rfl, HB1.out⟩

end Go.Proofs.Ytjlihidmohokhaa
