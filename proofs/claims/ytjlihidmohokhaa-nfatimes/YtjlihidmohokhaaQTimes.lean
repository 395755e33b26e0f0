/-
  What the document's own times and only answer; conditions: the text's length, and that the reader's block holds it.
-/
import Derived.Test.YtjlihidmohokhaaQNum
namespace Go.Proofs.Ytjlihidmohokhaa
open Go.RowKit Go.Proofs.Ytjlihidmohokhaa.Gl

/-- what times answers -/
def TimesAns (w w' : World) (e : Ending) (R : Nat) (p : Tx) (k : Nat) (d : Int) : Option (Nat × Int × Nat) → Prop
  | none => e = .returned (.tuple #[.int .i64 0, .int .i64 0]) ∧ BadAt w' R p ∧ Gr R w w'
  | some (lo, hi, m) => e = .returned (.tuple #[.int .i64 lo, .int .i64 hi]) ∧ RqAt w' R p (k + 1 + m : Nat) d (-1) 0 ∧ Gr R w w'
theorem head_of (p : Tx) (q : Nat) : (p.drop q).getD 0 0 = p.getD q 0 := by rw [drop_getD]; rfl
theorem getD_far {p : Tx} {q : Nat} (h : p.length ≤ q) : p.getD q 0 = 0 := by rw [List.getD_eq_getElem?_getD, List.getElem?_eq_none h]; rfl

set_option maxHeartbeats 8000000 in
theorem qtimes_any (p : Tx) (k R : Nat) (d : Int) (w : World) (hp : p.length ≤ 1000) (hk : k < p.length) (hr : RqAt w R p k d (-1) 0) :
    Calls Try.prog 48 #[.pointer (some ⟨R, 0, none⟩)] w fun e w' => TimesAns w w' e R p k d (timesR (p.drop (k + 1))) := by
  have hR := hr.lt
  obtain ⟨r0, r1, r2, r3, r4⟩ := hr.cells
  obtain ⟨t0, t1, t2, t3, t4⟩ := hr.thawed
  have HR := hidden hr
  have HN1 := hidden (show Calls Try.prog 56 #[.pointer (some ⟨R, 0, none⟩), .int .i64 ((k : Int) + 1)] w fun e w' => NumAns (k + 1) e (countR (p.drop (k + 1))) ∧ w' = w from number_any p k d (-1) 0 R (k + 1) w hp (by omega) hr)
  have HFL := hidden (show ∀ W, RqAt W R p k d (-1) 0 → Calls Try.prog 22 #[.pointer (some ⟨R, 0, none⟩), .int .i64 k, .int .i64 2] W fun e w' => e = .returned (.tuple #[]) ∧ RqAt w' R p k d k 2 ∧ Gr R W w' from fun W h => fail_good p k d R k 2 W h)
  clear hr
  cases hc1 : countR (p.drop (k + 1)) with
  | none =>
    have HT := hidden (show timesR (p.drop (k + 1)) = none by unfold timesR; rw [hc1])
    go_enter Try.func48, Try.ntmps48
    go_wp2_with fail
    refine HN1.out.mono ?_
    rintro e w1 ⟨hn1, rfl⟩
    rw [hc1] at hn1
    obtain ⟨a, b, rfl⟩ := hn1
    go_wp2_with fail
    refine (HFL.out _ HR.out).mono ?_
    rintro e w3 ⟨rfl, hr3, hg3⟩
    go_wp2_with fail
    go_ret2
    rw [HT.out]
    exact ⟨rfl, ⟨_, _, _, _, hr3, by omega, by decide⟩, hg3⟩
  | some r =>
    obtain ⟨lo, m⟩ := r
    have hm := (countR_le hc1).2
    rw [List.length_drop] at hm
    have hm2 : m ≤ p.length - (k + 1) := hm
    clear hm
    obtain ⟨q, hq⟩ : ∃ q, q = k + 1 + m := ⟨_, rfl⟩
    have HQ := hidden hq
    have hqp : q ≤ p.length := by omega
    have hT1 : timesR (p.drop (k + 1)) = (if p.getD q 0 = 44 then (if p.getD (q + 1) 0 = 125 then some (lo, -1, m + 2) else match countR (p.drop (q + 1)) with | none => none | some (hi, m2) => if lo ≤ hi ∧ p.getD (q + 1 + m2) 0 = 125 then some (lo, (hi : Int), m + 1 + m2 + 1) else none) else if p.getD q 0 = 125 then some (lo, (lo : Int), m + 1) else none) := by
      unfold timesR
      rw [hc1]
      simp only []
      rw [List.drop_drop, List.drop_drop, head_of, head_of, ← hq, show k + 1 + (m + 1) = q + 1 by omega]
      cases countR (p.drop (q + 1)) with
      | none => rfl
      | some r2 =>
        obtain ⟨hi, m2⟩ := r2
        simp only []
        rw [List.drop_drop, head_of, show k + 1 + (m + 1 + m2) = q + 1 + m2 by omega]
    clear hq hm2
    by_cases hlt : q < p.length
    · have hli : (q : Int) < p.length := by omega
      obtain ⟨x, hx⟩ : ∃ x, x = p.getD q 0 := ⟨_, rfl⟩
      have hb : ∀ h, (⟨p.toArray⟩ : ByteArray)[q]'h = x := fun h => by rw [byte_at, hx]
      rw [← hx] at hT1
      clear hx
      by_cases e44 : x = 44
      · subst e44
        rw [if_pos rfl] at hT1
        by_cases hlt2 : q + 1 < p.length
        · have hli2 : (q : Int) + 1 < p.length := by omega
          obtain ⟨y, hy⟩ : ∃ y, y = p.getD (q + 1) 0 := ⟨_, rfl⟩
          have hb2 : ∀ h, (⟨p.toArray⟩ : ByteArray)[q + 1]'h = y := fun h => by rw [byte_at, hy]
          rw [← hy] at hT1
          clear hy
          by_cases e125 : y = 125
          · subst e125
            rw [if_pos rfl] at hT1
            have hge2 : ¬ (p.length : Int) ≤ (q : Int) + 1 := by omega
            have hge2d : decide ((p.length : Int) ≤ (q : Int) + 1) = false := decide_eq_false hge2
            have HT := hidden hT1
            have HQ2 := hidden (show ((k + 1 + (m + 2) : Nat) : Int) = (q : Int) + 1 + 1 by have := HQ.out; omega)
            clear hT1
            go_enter Try.func48, Try.ntmps48
            go_wp2_with fail
            refine HN1.out.mono ?_
            rintro e w1 ⟨hn1, rfl⟩
            rw [hc1] at hn1
            have hn2 : e = .returned (.tuple #[.int .i64 lo, .int .i64 q, .bool true]) := hn1.trans (by rw [HQ.out])
            subst hn2
            clear hn1
            go_wp2_with fail
            go_ret2
            rw [HT.out]
            exact ⟨rfl, by rw [HQ2.out]; (with_reducible (repeat (first | exact HR.out | apply RqAt.alloc | apply RqAt.put | apply RqAt.set1 | apply RqAt.set1i | apply RqAt.set2 | apply RqAt.set2i | apply RqAt.set3 | apply RqAt.set4 | apply RqAt.other | apply RqAt.drewN | apply RqAt.drew | exact (Int.natCast_succ _).symm | omega))), by (with_reducible (repeat (first | exact Gr.refl _ _ | apply Gr.alloc | apply Gr.put | apply Gr.own | apply Gr.new | apply Gr.drewN | apply Gr.drew | omega)))⟩
          · rw [if_neg e125] at hT1
            have n125 := byte_ne (n := 125) e125
            have b125 : ((y.toNat : Int) != 125) = true := by rw [bne_iff_ne]; exact n125
            have HN2 := hidden (show Calls Try.prog 56 #[.pointer (some ⟨R, 0, none⟩), .int .i64 ((q : Int) + 1)] w fun e w' => NumAns (q + 1) e (countR (p.drop (q + 1))) ∧ w' = w from number_any p k d (-1) 0 R (q + 1) w hp (by omega) HR.out)
            clear e125
            cases hc2 : countR (p.drop (q + 1)) with
            | none =>
              rw [hc2] at hT1
              have HT := hidden hT1
              clear hT1
              go_enter Try.func48, Try.ntmps48
              go_wp2_with fail
              refine HN1.out.mono ?_
              rintro e w1 ⟨hn1, rfl⟩
              rw [hc1] at hn1
              have hn2 : e = .returned (.tuple #[.int .i64 lo, .int .i64 q, .bool true]) := hn1.trans (by rw [HQ.out])
              subst hn2
              clear hn1
              go_wp2_with fail
              refine HN2.out.mono ?_
              rintro e w2 ⟨hn2, rfl⟩
              rw [hc2] at hn2
              obtain ⟨a, b, rfl⟩ := hn2
              go_wp2_with fail
              refine (HFL.out _ HR.out).mono ?_
              rintro e w3 ⟨rfl, hr3, hg3⟩
              go_wp2_with fail
              go_ret2
              rw [HT.out]
              exact ⟨rfl, ⟨_, _, _, _, hr3, by omega, by decide⟩, hg3⟩
            | some r2 =>
              obtain ⟨hi, m2⟩ := r2
              rw [hc2] at hT1
              simp only [] at hT1
              have hm3 := (countR_le hc2).2
              rw [List.length_drop] at hm3
              have hm4 : m2 ≤ p.length - (q + 1) := hm3
              clear hm3
              obtain ⟨q2, hq2⟩ : ∃ q2, q2 = q + 1 + m2 := ⟨_, rfl⟩
              rw [← hq2] at hT1
              have HN3 := hidden (show ∀ e, NumAns (q + 1) e (some (hi, m2)) → e = .returned (.tuple #[.int .i64 hi, .int .i64 q2, .bool true]) from fun e h => by rw [hq2]; exact h)
              have hq2p : q2 ≤ p.length := by omega
              by_cases hle : lo ≤ hi
              · have hleI : (lo : Int) ≤ hi := by omega
                by_cases hlt3 : q2 < p.length
                · have hli3 : (q2 : Int) < p.length := by omega
                  have hge3 : ¬ (p.length : Int) ≤ q2 := by omega
                  have hge3d : decide ((p.length : Int) ≤ q2) = false := decide_eq_false hge3
                  obtain ⟨z, hz⟩ : ∃ z, z = p.getD q2 0 := ⟨_, rfl⟩
                  have hb3 : ∀ h, (⟨p.toArray⟩ : ByteArray)[q2]'h = z := fun h => by rw [byte_at, hz]
                  rw [← hz] at hT1
                  clear hz
                  by_cases e3 : z = 125
                  · subst e3
                    rw [if_pos ⟨hle, rfl⟩] at hT1
                    have HT := hidden hT1
                    have HQ2 := hidden (show ((k + 1 + (m + 1 + m2 + 1) : Nat) : Int) = (q2 : Int) + 1 by have := HQ.out; omega)
                    clear hT1 hq2 hm4
                    go_enter Try.func48, Try.ntmps48
                    go_wp2_with fail
                    refine HN1.out.mono ?_
                    rintro e w1 ⟨hn1, rfl⟩
                    rw [hc1] at hn1
                    have hn2 : e = .returned (.tuple #[.int .i64 lo, .int .i64 q, .bool true]) := hn1.trans (by rw [HQ.out])
                    subst hn2
                    clear hn1
                    go_wp2_with fail
                    refine HN2.out.mono ?_
                    rintro e w2 ⟨hn2, rfl⟩
                    rw [hc2] at hn2
                    obtain rfl := HN3.out _ hn2
                    clear hn2
                    go_wp2_with fail
                    go_ret2
                    rw [HT.out]
                    exact ⟨rfl, by rw [HQ2.out]; (with_reducible (repeat (first | exact HR.out | apply RqAt.alloc | apply RqAt.put | apply RqAt.set1 | apply RqAt.set1i | apply RqAt.set2 | apply RqAt.set2i | apply RqAt.set3 | apply RqAt.set4 | apply RqAt.other | apply RqAt.drewN | apply RqAt.drew | exact (Int.natCast_succ _).symm | omega))), by (with_reducible (repeat (first | exact Gr.refl _ _ | apply Gr.alloc | apply Gr.put | apply Gr.own | apply Gr.new | apply Gr.drewN | apply Gr.drew | omega)))⟩
                  · rw [if_neg (fun h => e3 h.2)] at hT1
                    have HT := hidden hT1
                    have n3 := byte_ne (n := 125) e3
                    have b3 : ((z.toNat : Int) != 125) = true := by rw [bne_iff_ne]; exact n3
                    clear hT1 hq2 hm4 e3
                    go_enter Try.func48, Try.ntmps48
                    go_wp2_with fail
                    refine HN1.out.mono ?_
                    rintro e w1 ⟨hn1, rfl⟩
                    rw [hc1] at hn1
                    have hn2 : e = .returned (.tuple #[.int .i64 lo, .int .i64 q, .bool true]) := hn1.trans (by rw [HQ.out])
                    subst hn2
                    clear hn1
                    go_wp2_with fail
                    refine HN2.out.mono ?_
                    rintro e w2 ⟨hn2, rfl⟩
                    rw [hc2] at hn2
                    obtain rfl := HN3.out _ hn2
                    clear hn2
                    go_wp2_with fail
                    refine (HFL.out _ HR.out).mono ?_
                    rintro e w3 ⟨rfl, hr3, hg3⟩
                    go_wp2_with fail
                    go_ret2
                    rw [HT.out]
                    exact ⟨rfl, ⟨_, _, _, _, hr3, by omega, by decide⟩, hg3⟩
                · have hge3 : (p.length : Int) ≤ q2 := by omega
                  have hge3d : decide ((p.length : Int) ≤ q2) = true := decide_eq_true hge3
                  rw [getD_far (by omega), if_neg (fun h => absurd h.2 (by decide))] at hT1
                  have HT := hidden hT1
                  clear hT1 hq2 hm4
                  go_enter Try.func48, Try.ntmps48
                  go_wp2_with fail
                  refine HN1.out.mono ?_
                  rintro e w1 ⟨hn1, rfl⟩
                  rw [hc1] at hn1
                  have hn2 : e = .returned (.tuple #[.int .i64 lo, .int .i64 q, .bool true]) := hn1.trans (by rw [HQ.out])
                  subst hn2
                  clear hn1
                  go_wp2_with fail
                  refine HN2.out.mono ?_
                  rintro e w2 ⟨hn2, rfl⟩
                  rw [hc2] at hn2
                  obtain rfl := HN3.out _ hn2
                  clear hn2
                  go_wp2_with fail
                  refine (HFL.out _ HR.out).mono ?_
                  rintro e w3 ⟨rfl, hr3, hg3⟩
                  go_wp2_with fail
                  go_ret2
                  rw [HT.out]
                  exact ⟨rfl, ⟨_, _, _, _, hr3, by omega, by decide⟩, hg3⟩
              · have hleI : ¬ (lo : Int) ≤ hi := by omega
                have hleD : decide ((lo : Int) ≤ hi) = false := decide_eq_false hleI
                rw [if_neg (fun h => hle h.1)] at hT1
                have HT := hidden hT1
                clear hT1 hq2 hm4
                go_enter Try.func48, Try.ntmps48
                go_wp2_with fail
                refine HN1.out.mono ?_
                rintro e w1 ⟨hn1, rfl⟩
                rw [hc1] at hn1
                have hn2 : e = .returned (.tuple #[.int .i64 lo, .int .i64 q, .bool true]) := hn1.trans (by rw [HQ.out])
                subst hn2
                clear hn1
                go_wp2_with fail
                refine HN2.out.mono ?_
                rintro e w2 ⟨hn2, rfl⟩
                rw [hc2] at hn2
                obtain rfl := HN3.out _ hn2
                clear hn2
                go_wp2_with fail
                refine (HFL.out _ HR.out).mono ?_
                rintro e w3 ⟨rfl, hr3, hg3⟩
                go_wp2_with fail
                go_ret2
                rw [HT.out]
                exact ⟨rfl, ⟨_, _, _, _, hr3, by omega, by decide⟩, hg3⟩
        · have hli2 : ¬ (q : Int) + 1 < p.length := by omega
          have hld2 : decide ((q : Int) + 1 < p.length) = false := decide_eq_false hli2
          have hge2 : (p.length : Int) ≤ (q : Int) + 1 := by omega
          have hge2d : decide ((p.length : Int) ≤ (q : Int) + 1) = true := decide_eq_true hge2
          rw [getD_far (by omega), if_neg (by decide), show p.drop (q + 1) = [] from List.drop_eq_nil_of_le (by omega), show countR [] = none from rfl] at hT1
          have HT := hidden hT1
          clear hT1
          go_enter Try.func48, Try.ntmps48
          go_wp2_with fail
          refine HN1.out.mono ?_
          rintro e w1 ⟨hn1, rfl⟩
          rw [hc1] at hn1
          have hn2 : e = .returned (.tuple #[.int .i64 lo, .int .i64 q, .bool true]) := hn1.trans (by rw [HQ.out])
          subst hn2
          clear hn1
          go_wp2_with fail
          refine (HFL.out _ HR.out).mono ?_
          rintro e w3 ⟨rfl, hr3, hg3⟩
          go_wp2_with fail
          go_ret2
          rw [HT.out]
          exact ⟨rfl, ⟨_, _, _, _, hr3, by omega, by decide⟩, hg3⟩
      · rw [if_neg e44] at hT1
        have n44 := byte_ne (n := 44) e44
        have b44 : ((x.toNat : Int) == 44) = false := by rw [beq_eq_false_iff_ne]; exact n44
        have hge1 : ¬ (p.length : Int) ≤ q := by omega
        have hge1d : decide ((p.length : Int) ≤ q) = false := decide_eq_false hge1
        clear e44
        by_cases e125 : x = 125
        · subst e125
          rw [if_pos rfl] at hT1
          have HT := hidden hT1
          have HQ2 := hidden (show ((k + 1 + (m + 1) : Nat) : Int) = (q : Int) + 1 by have := HQ.out; omega)
          clear hT1
          go_enter Try.func48, Try.ntmps48
          go_wp2_with fail
          refine HN1.out.mono ?_
          rintro e w1 ⟨hn1, rfl⟩
          rw [hc1] at hn1
          have hn2 : e = .returned (.tuple #[.int .i64 lo, .int .i64 q, .bool true]) := hn1.trans (by rw [HQ.out])
          subst hn2
          clear hn1
          go_wp2_with fail
          go_ret2
          rw [HT.out]
          exact ⟨rfl, by rw [HQ2.out]; (with_reducible (repeat (first | exact HR.out | apply RqAt.alloc | apply RqAt.put | apply RqAt.set1 | apply RqAt.set1i | apply RqAt.set2 | apply RqAt.set2i | apply RqAt.set3 | apply RqAt.set4 | apply RqAt.other | apply RqAt.drewN | apply RqAt.drew | exact (Int.natCast_succ _).symm | omega))), by (with_reducible (repeat (first | exact Gr.refl _ _ | apply Gr.alloc | apply Gr.put | apply Gr.own | apply Gr.new | apply Gr.drewN | apply Gr.drew | omega)))⟩
        · rw [if_neg e125] at hT1
          have HT := hidden hT1
          have n125 := byte_ne (n := 125) e125
          have b125 : ((x.toNat : Int) != 125) = true := by rw [bne_iff_ne]; exact n125
          clear hT1 e125
          go_enter Try.func48, Try.ntmps48
          go_wp2_with fail
          refine HN1.out.mono ?_
          rintro e w1 ⟨hn1, rfl⟩
          rw [hc1] at hn1
          have hn2 : e = .returned (.tuple #[.int .i64 lo, .int .i64 q, .bool true]) := hn1.trans (by rw [HQ.out])
          subst hn2
          clear hn1
          go_wp2_with fail
          refine (HFL.out _ HR.out).mono ?_
          rintro e w3 ⟨rfl, hr3, hg3⟩
          go_wp2_with fail
          go_ret2
          rw [HT.out]
          exact ⟨rfl, ⟨_, _, _, _, hr3, by omega, by decide⟩, hg3⟩
    · have hli : ¬ (q : Int) < p.length := by omega
      have hld : decide ((q : Int) < p.length) = false := decide_eq_false hli
      have hge1 : (p.length : Int) ≤ q := by omega
      have hge1d : decide ((p.length : Int) ≤ q) = true := decide_eq_true hge1
      rw [getD_far (by omega), if_neg (by decide), if_neg (by decide)] at hT1
      have HT := hidden hT1
      clear hT1
      go_enter Try.func48, Try.ntmps48
      go_wp2_with fail
      refine HN1.out.mono ?_
      rintro e w1 ⟨hn1, rfl⟩
      rw [hc1] at hn1
      have hn2 : e = .returned (.tuple #[.int .i64 lo, .int .i64 q, .bool true]) := hn1.trans (by rw [HQ.out])
      subst hn2
      clear hn1
      go_wp2_with fail
      refine (HFL.out _ HR.out).mono ?_
      rintro e w3 ⟨rfl, hr3, hg3⟩
      go_wp2_with fail
      go_ret2
      rw [HT.out]
      exact ⟨rfl, ⟨_, _, _, _, hr3, by omega, by decide⟩, hg3⟩

/-- a member that is one byte -/
def oneM (c : Nat) : Mem := ⟨0, c, c, []⟩
theorem oneM_set (c : Nat) : ofB [oneM c] false = spn c c := by
  funext d
  rw [ofB_false]
  simp [oneM, Mem.has, spn]
set_option maxHeartbeats 4000000 in
theorem only_any (c : UInt8) (w : World) :
    Calls Try.prog 54 #[.int .u8 c.toNat] w fun e w' => e = .returned (nodeV 2 (spn c.toNat c.toNat) (.slice none 0 0) 0 0) ∧ Below w.heap.size w w' := by
  have hc : c.toNat < 256 := c.toNat_lt
  obtain ⟨n, hn⟩ : ∃ n, n = c.toNat := ⟨_, rfl⟩
  rw [← hn] at hc ⊢
  clear hn
  have HZ0 := hidden (Blk.new w (.int .i64 0) (.int .u64 0) (.int .u64 0) (.int .u64 0) (.int .u64 0) (.slice none 0 0) (.int .i64 0) (.int .i64 0))
  have HB0 := hidden (Below.refl w.heap.size w)
  go_enter Try.func54, Try.ntmps54
  go_wp2_with fail
  refine (of_any _ [oneM n] false _ ?_ (by simp) (fun m hm => by rw [List.mem_singleton.1 hm]; exact ⟨hc, hc⟩)).mono ?_
  · refine Or.inr ⟨w.heap.size + 1, 1, rfl, Nat.le_refl _, by simp, fun j m hj => ?_⟩
    match j, hj with
    | 0, hj =>
      simp at hj
      subst hj
      simp [oneM, S]
  rintro e w1 ⟨rfl, hb1⟩
  rw [oneM_set]
  have HB1 := hidden (show Below w.heap.size w w1 from (by (with_reducible (repeat (first | exact HB0.out | apply bel_alloc | apply bel_put | apply bel_set | apply Below.drew | apply below_drewN | omega))) : Below w.heap.size w _).trans (hb1.mono (by simp; omega)))
  have HZ1 := hidden (ZeroAt.later (b := w.heap.size) (by (with_reducible (repeat (first | exact HZ0.out | exact Blk.newAt (by simp) | apply Blk.alloc | apply Blk.put | apply Blk.putOther | apply Blk.other | apply Blk.drewN | apply Blk.drew | omega)))) hb1)
  obtain ⟨z0, z1, z2, z3, z4, z5, z6, z7⟩ := HZ1.out.cells
  obtain ⟨f0, f1, f2, f3, f4, f5, f6, f7⟩ := HZ1.out.thawed
  have hzl := HZ1.out.lt
  clear hb1
  unfold setV
  go_wp2_with fail
  refine bodyPost_ret (results_node1 rfl _ _ w.heap.size (.int .i64 2) (.int .u64 (word (spn n n) 0)) (.int .u64 (word (spn n n) 1)) (.int .u64 (word (spn n n) 2)) (.int .u64 (word (spn n n) 3)) (.slice none 0 0) (.int .i64 0) (.int .i64 0) rfl (by (with_reducible (repeat (first | exact HZ1.out | exact Blk.newAt (by simp) | apply Blk.alloc | apply Blk.put | apply Blk.putOther | apply Blk.other | apply Blk.drewN | apply Blk.drew | omega))))) rfl ?_
  exact ⟨rfl, by (with_reducible (repeat (first | exact HB1.out | apply bel_alloc | apply bel_put | apply bel_set | apply Below.drew | apply below_drewN | omega)))⟩

end Go.Proofs.Ytjlihidmohokhaa
