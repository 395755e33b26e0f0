/-
  What the document's own of answers: the set of some members' bytes, or of all others but 10; conditions: how many members there are, and that they are bytes.
-/
import Derived.Test.YtjlihidmohokhaaRSetE
namespace Go.Proofs.Ytjlihidmohokhaa
open Go.RowKit Go.Proofs.Ytjlihidmohokhaa.Gl

/-- a set's bytes below one -/
def pre (F : Bs) (k : Nat) : Bs := fun d => decide (d < k) && F d
theorem pre_none (F : Bs) (i : Nat) : word (pre F 0) i = 0 := by
  refine Eq.trans (word_ext i fun c => ?_) (word_none i)
  unfold pre
  rw [decide_eq_false (by omega)]
  rfl
theorem pre_skip {F : Bs} {k : Nat} (h : F k = false) (i : Nat) : word (pre F (k + 1)) i = word (pre F k) i := by
  apply word_ext
  intro c
  unfold pre
  by_cases hc : c = k
  · subst hc; simp [h]
  · rw [show decide (c < k + 1) = decide (c < k) by rw [decide_eq_decide]; omega]
theorem pre_put {F : Bs} {k : Nat} (h : F k = true) (i : Nat) : word (pre F (k + 1)) i = if i = k / 64 then word (pre F k) i ||| 2 ^ (k % 64) else word (pre F k) i := by
  have e : pre F (k + 1) = fun d => pre F k d || d == k := by
    funext d
    unfold pre
    by_cases hd : d = k
    · subst hd; simp [h]
    · rw [show decide (d < k + 1) = decide (d < k) by rw [decide_eq_decide]; omega]
      simp [hd]
  rw [e]
  split
  · rename_i h; subst h; exact (word_put _ _).symm
  · rename_i h; exact word_far _ _ _ h
theorem pre_all (F : Bs) {i : Nat} (hi : i < 4) : word (pre F 256) i = word F i := by
  apply Nat.eq_of_testBit_eq
  intro j
  rw [word_bit, word_bit]
  by_cases hj : j < 64
  · simp [hj, pre, show 64 * i + j < 256 by omega]
  · simp [hj]
/-- what is asked of a byte -/
def ofB (ms : List Mem) (o : Bool) : Bs := if o = true then othersB (fun c => ms.any fun m => m.has c) else fun c => ms.any fun m => m.has c
theorem ofB_ten (ms : List Mem) : ofB ms true 10 = false := by unfold ofB othersB butB; simp
theorem ofB_true {ms : List Mem} {k : Nat} (h : k ≠ 10) : ofB ms true k = !(ms.any fun m => m.has k) := by unfold ofB othersB butB notB; simp [h]
theorem ofB_false (ms : List Mem) (k : Nat) : ofB ms false k = (ms.any fun m => m.has k) := rfl

set_option maxHeartbeats 8000000 in
theorem of_any (v : Value) (ms : List Mem) (o : Bool) (w : World) (hr : MemsAt w v ms) (hl : ms.length ≤ 1048576) (hsm : ∀ m ∈ ms, m.lo < 256 ∧ m.hi < 256) :
    Calls Try.prog 53 #[v, .bool o] w fun e w' => e = .returned (setV (ofB ms o)) ∧ Below w.heap.size w w' := by
  have HM := hidden hr
  have HL := hidden (And.intro hl hsm)
  clear hr hl hsm
  go_enter Try.func53, Try.ntmps53
  go_wp2_with fail
  go_loopw [6] (fun i wr => ∃ (k x0 x1 x2 x3 : Nat) (w0 : World), i = .int .i64 k ∧ k ≤ 256 ∧ wr = (w0.alloc (.cells #[Value.int IntKind.u64 0, Value.int IntKind.u64 0, Value.int IntKind.u64 0, Value.int IntKind.u64 0] 23)).alloc (.cells #[.int .u64 x0, .int .u64 x1, .int .u64 x2, .int .u64 x3] 23) ∧ w0.heap.size = w.heap.size ∧ Hid (x0 = word (pre (ofB ms o) k) 0 ∧ x1 = word (pre (ofB ms o) k) 1 ∧ x2 = word (pre (ofB ms o) k) 2 ∧ x3 = word (pre (ofB ms o) k) 3 ∧ Below w.heap.size w w0))
    (fun i _ => 256 - (intOf i).toNat)
  case atStart =>
    exact ⟨0, 0, 0, 0, 0, w, rfl, by omega, rfl, rfl, (pre_none _ 0).symm, (pre_none _ 1).symm, (pre_none _ 2).symm, (pre_none _ 3).symm, Below.refl _ _⟩
  case round =>
    obtain ⟨k, x0, x1, x2, x3, w0, rfl, hk, rfl, hsz, H⟩ := hrel
    have HMW := hidden (show MemsAt ((w0.alloc (.cells #[Value.int IntKind.u64 0, Value.int IntKind.u64 0, Value.int IntKind.u64 0, Value.int IntKind.u64 0] 23)).alloc (.cells #[.int .u64 x0, .int .u64 x1, .int .u64 x2, .int .u64 x3] 23)) v ms from HM.out.later (bel_alloc (bel_alloc H.out.2.2.2.2 _) _))
    by_cases hlt : k < 256
    · have hkI : (k : Int) < 256 := by omega
      have hkd : decide ((k : Int) < 256) = true := decide_eq_true hkI
      have hkd2 : decide (k < 256) = true := decide_eq_true hlt
      have hwr : IntKind.u8.wrap (k : Int) = k := by rw [IntKind.wrap_u8]; omega
      have hx0 : x0 < 18446744073709551616 := by rw [H.out.1]; exact word_lt _ _
      have hx1 : x1 < 18446744073709551616 := by rw [H.out.2.1]; exact word_lt _ _
      have hx2 : x2 < 18446744073709551616 := by rw [H.out.2.2.1]; exact word_lt _ _
      have hx3 : x3 < 18446744073709551616 := by rw [H.out.2.2.2.1]; exact word_lt _ _
      have HIN := hidden (inside_any v ms k _ hlt HMW.out HL.out.1 HL.out.2)
      obtain ⟨r, hr⟩ : ∃ r, (ms.any fun m => m.has k) = r := ⟨_, rfl⟩
      rw [hr] at HIN
      cases o with
      | true =>
        by_cases h10 : k = 10
        · subst h10
          rw [show ((10 : Nat) : Int) = 10 from rfl]
          have HS := hidden (show ofB ms true 10 = false by exact ofB_ten ms)
          go_wp2_with fail
          go_roundw
          case rel =>
            obtain ⟨h0, h1, h2, h3, hbl⟩ := H.out
            exact ⟨11, x0, x1, x2, x3, w0, by go_num, by omega, rfl, hsz, by rw [pre_skip HS.out, h0], by rw [pre_skip HS.out, h1], by rw [pre_skip HS.out, h2], by rw [pre_skip HS.out, h3], hbl⟩
          case measure => simp [intOf]; try omega
        · have h10i : ¬ (k : Int) = 10 := by omega
          have h10b : ((k : Int) != 10) = true := by rw [bne_iff_ne]; exact h10i
          have h10c : ((k : Int) == 10) = false := by rw [beq_eq_false_iff_ne]; exact h10i
          have h10d : decide (k = 10) = false := decide_eq_false h10
          have h10e : decide ((k : Int) = 10) = false := decide_eq_false h10i
          cases r with
          | true =>
            have HS := hidden (show ofB ms true k = false by rw [ofB_true h10, hr]; rfl)
            go_wp2_with fail
            refine HIN.out.mono ?_
            rintro e w2 ⟨rfl, rfl⟩
            go_wp2_with fail
            go_roundw
            case rel =>
              obtain ⟨h0, h1, h2, h3, hbl⟩ := H.out
              exact ⟨k + 1, x0, x1, x2, x3, w0, by go_num, by omega, rfl, hsz, by rw [pre_skip HS.out, h0], by rw [pre_skip HS.out, h1], by rw [pre_skip HS.out, h2], by rw [pre_skip HS.out, h3], hbl⟩
            case measure => simp [intOf]; try omega
          | false =>
            have HS := hidden (show ofB ms true k = true by rw [ofB_true h10, hr]; rfl)
            rcases (by omega : k / 64 = 0 ∨ k / 64 = 1 ∨ k / 64 = 2 ∨ k / 64 = 3) with hq | hq | hq | hq
            · have hor := or_put x0 k hx0
              go_wp2_with fail
              refine HIN.out.mono ?_
              rintro e w2 ⟨rfl, rfl⟩
              go_wp2_with fail
              go_roundw
              case rel =>
                obtain ⟨h0, h1, h2, h3, hbl⟩ := H.out
                exact ⟨k + 1, x0 ||| 2 ^ (k % 64), x1, x2, x3, w0, by go_num, by omega, rfl, hsz, by rw [pre_put HS.out, if_pos hq.symm, h0], by rw [pre_put HS.out, if_neg (by omega), h1], by rw [pre_put HS.out, if_neg (by omega), h2], by rw [pre_put HS.out, if_neg (by omega), h3], hbl⟩
              case measure => simp [intOf]; omega
            · have hor := or_put x1 k hx1
              go_wp2_with fail
              refine HIN.out.mono ?_
              rintro e w2 ⟨rfl, rfl⟩
              go_wp2_with fail
              go_roundw
              case rel =>
                obtain ⟨h0, h1, h2, h3, hbl⟩ := H.out
                exact ⟨k + 1, x0, x1 ||| 2 ^ (k % 64), x2, x3, w0, by go_num, by omega, rfl, hsz, by rw [pre_put HS.out, if_neg (by omega), h0], by rw [pre_put HS.out, if_pos hq.symm, h1], by rw [pre_put HS.out, if_neg (by omega), h2], by rw [pre_put HS.out, if_neg (by omega), h3], hbl⟩
              case measure => simp [intOf]; omega
            · have hor := or_put x2 k hx2
              go_wp2_with fail
              refine HIN.out.mono ?_
              rintro e w2 ⟨rfl, rfl⟩
              go_wp2_with fail
              go_roundw
              case rel =>
                obtain ⟨h0, h1, h2, h3, hbl⟩ := H.out
                exact ⟨k + 1, x0, x1, x2 ||| 2 ^ (k % 64), x3, w0, by go_num, by omega, rfl, hsz, by rw [pre_put HS.out, if_neg (by omega), h0], by rw [pre_put HS.out, if_neg (by omega), h1], by rw [pre_put HS.out, if_pos hq.symm, h2], by rw [pre_put HS.out, if_neg (by omega), h3], hbl⟩
              case measure => simp [intOf]; omega
            · have hor := or_put x3 k hx3
              go_wp2_with fail
              refine HIN.out.mono ?_
              rintro e w2 ⟨rfl, rfl⟩
              go_wp2_with fail
              go_roundw
              case rel =>
                obtain ⟨h0, h1, h2, h3, hbl⟩ := H.out
                exact ⟨k + 1, x0, x1, x2, x3 ||| 2 ^ (k % 64), w0, by go_num, by omega, rfl, hsz, by rw [pre_put HS.out, if_neg (by omega), h0], by rw [pre_put HS.out, if_neg (by omega), h1], by rw [pre_put HS.out, if_neg (by omega), h2], by rw [pre_put HS.out, if_pos hq.symm, h3], hbl⟩
              case measure => simp [intOf]; omega
      | false =>
        cases r with
        | true =>
          have HS := hidden (show ofB ms false k = true by rw [ofB_false, hr])
          rcases (by omega : k / 64 = 0 ∨ k / 64 = 1 ∨ k / 64 = 2 ∨ k / 64 = 3) with hq | hq | hq | hq
          · have hor := or_put x0 k hx0
            go_wp2_with fail
            refine HIN.out.mono ?_
            rintro e w2 ⟨rfl, rfl⟩
            go_wp2_with fail
            go_roundw
            case rel =>
              obtain ⟨h0, h1, h2, h3, hbl⟩ := H.out
              exact ⟨k + 1, x0 ||| 2 ^ (k % 64), x1, x2, x3, w0, by go_num, by omega, rfl, hsz, by rw [pre_put HS.out, if_pos hq.symm, h0], by rw [pre_put HS.out, if_neg (by omega), h1], by rw [pre_put HS.out, if_neg (by omega), h2], by rw [pre_put HS.out, if_neg (by omega), h3], hbl⟩
            case measure => simp [intOf]; omega
          · have hor := or_put x1 k hx1
            go_wp2_with fail
            refine HIN.out.mono ?_
            rintro e w2 ⟨rfl, rfl⟩
            go_wp2_with fail
            go_roundw
            case rel =>
              obtain ⟨h0, h1, h2, h3, hbl⟩ := H.out
              exact ⟨k + 1, x0, x1 ||| 2 ^ (k % 64), x2, x3, w0, by go_num, by omega, rfl, hsz, by rw [pre_put HS.out, if_neg (by omega), h0], by rw [pre_put HS.out, if_pos hq.symm, h1], by rw [pre_put HS.out, if_neg (by omega), h2], by rw [pre_put HS.out, if_neg (by omega), h3], hbl⟩
            case measure => simp [intOf]; omega
          · have hor := or_put x2 k hx2
            go_wp2_with fail
            refine HIN.out.mono ?_
            rintro e w2 ⟨rfl, rfl⟩
            go_wp2_with fail
            go_roundw
            case rel =>
              obtain ⟨h0, h1, h2, h3, hbl⟩ := H.out
              exact ⟨k + 1, x0, x1, x2 ||| 2 ^ (k % 64), x3, w0, by go_num, by omega, rfl, hsz, by rw [pre_put HS.out, if_neg (by omega), h0], by rw [pre_put HS.out, if_neg (by omega), h1], by rw [pre_put HS.out, if_pos hq.symm, h2], by rw [pre_put HS.out, if_neg (by omega), h3], hbl⟩
            case measure => simp [intOf]; omega
          · have hor := or_put x3 k hx3
            go_wp2_with fail
            refine HIN.out.mono ?_
            rintro e w2 ⟨rfl, rfl⟩
            go_wp2_with fail
            go_roundw
            case rel =>
              obtain ⟨h0, h1, h2, h3, hbl⟩ := H.out
              exact ⟨k + 1, x0, x1, x2, x3 ||| 2 ^ (k % 64), w0, by go_num, by omega, rfl, hsz, by rw [pre_put HS.out, if_neg (by omega), h0], by rw [pre_put HS.out, if_neg (by omega), h1], by rw [pre_put HS.out, if_neg (by omega), h2], by rw [pre_put HS.out, if_pos hq.symm, h3], hbl⟩
            case measure => simp [intOf]; omega
        | false =>
          have HS := hidden (show ofB ms false k = false by rw [ofB_false, hr])
          go_wp2_with fail
          refine HIN.out.mono ?_
          rintro e w2 ⟨rfl, rfl⟩
          go_wp2_with fail
          go_roundw
          case rel =>
            obtain ⟨h0, h1, h2, h3, hbl⟩ := H.out
            exact ⟨k + 1, x0, x1, x2, x3, w0, by go_num, by omega, rfl, hsz, by rw [pre_skip HS.out, h0], by rw [pre_skip HS.out, h1], by rw [pre_skip HS.out, h2], by rw [pre_skip HS.out, h3], hbl⟩
          case measure => simp [intOf]; try omega
    · obtain rfl : k = 256 := by omega
      rw [show ((256 : Nat) : Int) = 256 from rfl]
      go_wp2_with fail
      refine bodyPost_ret (v := setV (ofB ms o)) ?_ rfl ?_
      · obtain ⟨h0, h1, h2, h3, hbl⟩ := H.out
        rw [pre_all _ (by decide)] at h0 h1 h2 h3
        subst h0 h1 h2 h3
        simp [results, Try.results53, go_sem, setV, ← hsz]
      · obtain ⟨h0, h1, h2, h3, hbl⟩ := H.out
        exact ⟨rfl, by (with_reducible (repeat (first | exact hbl | apply bel_alloc | apply bel_put | apply bel_set | apply Below.drew | apply below_drewN | omega)))⟩

end Go.Proofs.Ytjlihidmohokhaa
