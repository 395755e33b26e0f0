/-
  The law EreSets, called with any three bytes and any number, returns true, and nothing of what was in memory has turned; no condition.
-/
import Derived.Test.YtjeloflfhofdlaaEAlive
import Derived.Test.YtjeloflfhofdlaaESetsPlain
import Derived.Deep.Cut
import Derived.Deep.CutRange
namespace Go.Proofs.Ytjeloflfhofdlaa
open Go.RowKit Go.Proofs.Ytjeloflfhofdlaa.Gl

theorem cat_text (a b : Tx) : (⟨a.toArray⟩ : ByteArray) ++ (⟨b.toArray⟩ : ByteArray) = ⟨(a ++ b).toArray⟩ := by
  apply ByteArray.ext
  simp
theorem conv_one (c : UInt8) (W : World) (g : Nat) (h : W.cell? ⟨g, 0, none⟩ = some (.int .u8 c.toNat)) : (convert 44 9 (.slice (some ⟨g, 0, none⟩) 1 1)).run Try.prog W = .ok (.string ⟨#[c]⟩) W :=
  run_convert_bytes_back W 44 9 5 ⟨g, 0, none⟩ 1 [c] Try.underlying44 Try.underlying5 Try.underlying9 (fun j hj => by
    have : j = 0 := by simpa using hj
    subst this
    exact h)
/-- a letter or a digit; a blank -/
def lettB (c : Nat) : Bool := (decide (97 ≤ c) && decide (c ≤ 122) || decide (65 ≤ c) && decide (c ≤ 90) || decide (48 ≤ c) && decide (c ≤ 57))
def blankB (c : Nat) : Bool := (decide (9 ≤ c) && decide (c ≤ 13) || c == 32)
/-- what is no case of the law -/
def badB (a b i : Int) : Bool := decide (i < 0) || decide (6 < i) || decide (a ≤ 32) || decide (127 ≤ a) || decide (b ≤ 32) || decide (127 ≤ b) || a == 91 || a == 93 || a == 94 || a == 45 || b == 93 || b == 91
theorem parse_set (p : Tx) (F : Bs) (m : Nat) (w : World) (h : topE p = .ok (setN F) m) (hp : p.length ≤ 1048576) :
    Calls Try.prog 9 #[S p] w fun e w' => (∃ a cap, e = .returned (.tuple #[nodeV 2 F (.slice a 0 cap) 0 0, .int .i64 (-1), .int .i64 0]) ∧ NodeAt w' (w.heap.size ≤ ·) (nodeV 2 F (.slice a 0 cap) 0 0) (setN F)) ∧ Below w.heap.size w w' := by
  refine (parse_any p w hp).mono ?_
  rintro e w' ⟨hb, ha⟩
  rw [h] at ha
  obtain ⟨v, rfl, hn, _⟩ := ha
  obtain ⟨a, cap, rfl⟩ := NodeAt.leaf (show NodeAt w' _ v (.mk 2 F [] 0 0) from hn)
  exact ⟨⟨a, cap, rfl, hn⟩, hb⟩

/-- the text of a case, and its set -/
def textOf (k : Nat) (a b : UInt8) : Tx := if k = 0 then [46] else if k = 1 then [92, a] else if k = 2 then [91, a, 93] else if k = 3 then [91, 94, a, 93] else if k = 4 then [91, a, 45, b, 93] else if k = 5 then [91, 91, 58, 97, 108, 110, 117, 109, 58, 93, a, 93] else [91, 94, 91, 58, 115, 112, 97, 99, 101, 58, 93, 93]
def setOfK (k : Nat) (a b : UInt8) : Bs := if k = 0 then othersB none_ else if k = 1 then spn a.toNat a.toNat else if k = 2 then both none_ (spn a.toNat a.toNat) else if k = 3 then othersB (both none_ (spn a.toNat a.toNat)) else if k = 4 then both none_ (spn a.toNat b.toNat) else if k = 5 then both (both none_ alnum) (spn a.toNat a.toNat) else othersB (both none_ space)
theorem top_of {k : Nat} {a b : UInt8} (hk : k ≤ 6) (ha : a ≠ 94) (ha2 : a ≠ 93) (hb : b ≠ 93) : topE (textOf k a b) = .ok (setN (setOfK k a b)) (textOf k a b).length := by
  have h : k = 0 ∨ k = 1 ∨ k = 2 ∨ k = 3 ∨ k = 4 ∨ k = 5 ∨ k = 6 := by omega
  rcases h with rfl | rfl | rfl | rfl | rfl | rfl | rfl
  · exact top_point
  · exact top_esc a
  · exact top_set (setE_one ha) (by simp)
  · exact top_set setE_not (by simp)
  · exact top_set (setE_dash ha hb) (by simp)
  · exact top_set (setE_alnum ha2) (by simp)
  · exact top_set setE_space (by simp)
/-- one of seven -/
def pick7 (k : Nat) (b0 b1 b2 b3 b4 b5 b6 : Value) : Value := if k = 0 then b0 else if k = 1 then b1 else if k = 2 then b2 else if k = 3 then b3 else if k = 4 then b4 else if k = 5 then b5 else b6
theorem idx7 (k : Nat) (hk : k ≤ 6) : ∀ b0 b1 b2 b3 b4 b5 b6 : Value, [b0, b1, b2, b3, b4, b5, b6][k]? = some (pick7 k b0 b1 b2 b3 b4 b5 b6) := by
  intro b0 b1 b2 b3 b4 b5 b6
  have h : k = 0 ∨ k = 1 ∨ k = 2 ∨ k = 3 ∨ k = 4 ∨ k = 5 ∨ k = 6 := by omega
  rcases h with rfl | rfl | rfl | rfl | rfl | rfl | rfl <;> rfl
theorem idx7g (k : Nat) (hk : k ≤ 6) : ∀ (b0 b1 b2 b3 b4 b5 b6 : Value) (h : k < [b0, b1, b2, b3, b4, b5, b6].length), [b0, b1, b2, b3, b4, b5, b6][k]'h = pick7 k b0 b1 b2 b3 b4 b5 b6 := fun b0 b1 b2 b3 b4 b5 b6 _ => (List.getElem?_eq_some_iff.1 (idx7 k hk b0 b1 b2 b3 b4 b5 b6)).2
theorem textOf_len (k : Nat) (a b : UInt8) : (textOf k a b).length ≤ 12 := by
  unfold textOf
  repeat (first | (split; (· simp; done)) | simp)

set_option maxHeartbeats 8000000 in
set_option maxRecDepth 3000 in
theorem ereSets_any (a b c : UInt8) (i : Int) (w : World) :
    Calls Try.prog 7 #[.int .u8 a.toNat, .int .u8 b.toNat, .int .u8 c.toNat, .int .i64 i] w fun e w' => e = .returned (.bool true) ∧ Below w.heap.size w w' := by
  have hca := a.toNat_lt
  have hcb := b.toNat_lt
  have hcc := c.toNat_lt
  go_enter Try.func7, Try.ntmps7
  go_wp2_with fail
  refine (alive_any _).mono ?_
  rintro e w1 ⟨rfl, hb1⟩
  have HB1 := hidden hb1
  clear hb1
  have hcv := conv_one a
  have hcv2 := conv_one b
  have HA := hidden (And.intro hca hcb)
  go_upto_region 2 with fail
  go_cut [0, 1, 68] from 19 to 68 (fun s0 s1 s wx => s0 = .int .u8 a.toNat ∧ s1 = .int .u8 b.toNat ∧ s = .bool (badB a.toNat b.toNat i) ∧ wx = w1)
  case first =>
    go_wp2_with fail
    all_goals
      go_meet
      case rel => exact ⟨by first | rfl | simp [*], by first | rfl | simp [*], by first | rfl | (congr 1; unfold badB; simp [*]; done), rfl⟩
  obtain ⟨rfl, rfl, rfl, hwc⟩ := hcut
  rw [hwc]
  clear hwc
  cases hbad : badB a.toNat b.toNat i with
  | true =>
    clear hbad
    go_wp2_with fail
    go_ret
    exact ⟨rfl, HB1.out⟩
  | false => ?_
  have hgood : (0 ≤ i ∧ i ≤ 6) ∧ (32 < (a.toNat : Int) ∧ (a.toNat : Int) < 127 ∧ 32 < (b.toNat : Int) ∧ (b.toNat : Int) < 127) ∧ (¬ (a.toNat : Int) = 93 ∧ ¬ (a.toNat : Int) = 94 ∧ ¬ (b.toNat : Int) = 93) := by
    unfold badB at hbad
    simp at hbad
    omega
  have HE := hidden (show a ≠ 94 ∧ a ≠ 93 ∧ b ≠ 93 from ⟨fun e => hgood.2.2.2.1 (by rw [e]; rfl), fun e => hgood.2.2.1 (by rw [e]; rfl), fun e => hgood.2.2.2.2 (by rw [e]; rfl)⟩)
  clear hbad
  obtain ⟨k, rfl⟩ := Int.eq_ofNat_of_zero_le (show 0 ≤ i by omega)
  have hk : k = 0 ∨ k = 1 ∨ k = 2 ∨ k = 3 ∨ k = 4 ∨ k = 5 ∨ k = 6 := by omega
  clear hgood
  have HK6 := hidden hk
  have hk6 : k ≤ 6 := by omega
  have HTOP := hidden (top_of hk6 HE.out.1 HE.out.2.1 HE.out.2.2)
  have HTL := hidden (textOf_len k a b)
  clear hk
  go_upto_region 5 with fail
  generalize hW4 : World.alloc _ _ = W4
  have HB4 := hidden (show Below w.heap.size w W4 by rw [← hW4]; (with_reducible (repeat (first | exact HB1.out | apply bel_alloc | apply bel_put | apply bel_set | apply Below.drew | apply below_drewN | omega))))
  clear hW4
  go_cut [3, 11] from 73 to 95 (fun s3 s wx => s3 = .int .i64 k ∧ s = S (textOf k a b) ∧ Below w.heap.size w wx)
  case first =>
    rcases HK6.out with rfl | rfl | rfl | rfl | rfl | rfl | rfl
    · go_wp2_with fail
      go_meet
      case rel => exact ⟨rfl, rfl, by (with_reducible (repeat (first | exact HB4.out | apply bel_alloc | apply bel_put | apply bel_set | apply Below.drew | apply below_drewN | omega)))⟩
    · go_wp2_with fail
      go_meet
      case rel => exact ⟨rfl, by unfold S; congr 1, by (with_reducible (repeat (first | exact HB4.out | apply bel_alloc | apply bel_put | apply bel_set | apply Below.drew | apply below_drewN | omega)))⟩
    · go_wp2_with fail
      go_meet
      case rel => exact ⟨rfl, by unfold S; congr 1, by (with_reducible (repeat (first | exact HB4.out | apply bel_alloc | apply bel_put | apply bel_set | apply Below.drew | apply below_drewN | omega)))⟩
    · go_wp2_with fail
      go_meet
      case rel => exact ⟨rfl, by unfold S; congr 1, by (with_reducible (repeat (first | exact HB4.out | apply bel_alloc | apply bel_put | apply bel_set | apply Below.drew | apply below_drewN | omega)))⟩
    · go_wp2_with fail
      go_meet
      case rel => exact ⟨rfl, by unfold S; congr 1, by (with_reducible (repeat (first | exact HB4.out | apply bel_alloc | apply bel_put | apply bel_set | apply Below.drew | apply below_drewN | omega)))⟩
    · go_wp2_with fail
      go_meet
      case rel => exact ⟨rfl, by unfold S; congr 1, by (with_reducible (repeat (first | exact HB4.out | apply bel_alloc | apply bel_put | apply bel_set | apply Below.drew | apply below_drewN | omega)))⟩
    · go_wp2_with fail
      go_meet
      case rel => exact ⟨rfl, rfl, by (with_reducible (repeat (first | exact HB4.out | apply bel_alloc | apply bel_put | apply bel_set | apply Below.drew | apply below_drewN | omega)))⟩
  obtain ⟨rfl, rfl, hb5⟩ := hcut
  have HB5 := hidden hb5
  clear hb5
  generalize hTX : S (textOf k a b) = tx
  have HTX := hidden hTX
  clear hTX HB4
  go_upto_region 6 with fail
  rename World => W5
  go_cut [2, 12] from 96 to 117 (fun s2 s wx => s2 = .int .u8 c.toNat ∧ s = .bool (lettB c.toNat) ∧ wx = W5)
  case first =>
    go_wp2_with fail
    all_goals
      go_meet
      case rel => exact ⟨by first | rfl | simp [*], by congr 1; unfold lettB; rw [Bool.eq_iff_iff]; simp; omega, rfl⟩
  obtain ⟨rfl, rfl, hwc⟩ := hcut
  rw [hwc]
  clear hwc
  go_upto_region 7 with fail
  go_cut [2, 13] from 118 to 127 (fun s2 s wx => s2 = .int .u8 c.toNat ∧ s = .bool (blankB c.toNat) ∧ wx = W5)
  case first =>
    go_wp2_with fail
    all_goals
      go_meet
      case rel => exact ⟨by first | rfl | simp [*], by congr 1; unfold blankB; rw [Bool.eq_iff_iff]; simp; omega, rfl⟩
  obtain ⟨rfl, rfl, hwc⟩ := hcut
  rw [hwc]
  clear hwc
  go_upto_region 8 with fail
  go_cut [0, 1, 2, 3, 12, 13, 14] from 128 to 162 (fun s0 s1 s2 s3 _ _ s wx => s0 = .int .u8 a.toNat ∧ s1 = .int .u8 b.toNat ∧ s2 = .int .u8 c.toNat ∧ s3 = .int .i64 k ∧ s = .bool (setOfK k a b c.toNat) ∧ Below w.heap.size w wx)
  case first =>
    have hi1 := idx7 k hk6
    have hi2 := idx7g k hk6
    have hki : (k : Int) < 7 := by omega
    go_wp2_with fail
    all_goals
      go_meet
      case rel =>
        refine ⟨by first | rfl | simp [*], by first | rfl | simp [*], by first | rfl | simp [*], by first | rfl | simp [*], ?_, by (with_reducible (repeat (first | exact HB5.out | apply bel_alloc | apply bel_put | apply bel_set | apply Below.drew | apply below_drewN | omega)))⟩
        clear hi1 hi2
        rcases HK6.out with rfl | rfl | rfl | rfl | rfl | rfl | rfl
        · show Value.bool _ = _; congr 1; rw [show setOfK 0 a b c.toNat = _ from want0 c.toNat]; first | rfl | (rw [Bool.eq_iff_iff]; simp [*]; done) | (rw [Bool.eq_iff_iff]; simp; omega) | (rw [Bool.eq_iff_iff]; simp [lettB, blankB] at *; omega)
        · show Value.bool _ = _; congr 1; rw [show setOfK 1 a b c.toNat = _ from want1 a.toNat c.toNat]; first | rfl | (rw [Bool.eq_iff_iff]; simp [*]; done) | (rw [Bool.eq_iff_iff]; simp; omega) | (rw [Bool.eq_iff_iff]; simp [lettB, blankB] at *; omega)
        · show Value.bool _ = _; congr 1; rw [show setOfK 2 a b c.toNat = _ from want2 a.toNat c.toNat]; first | rfl | (rw [Bool.eq_iff_iff]; simp [*]; done) | (rw [Bool.eq_iff_iff]; simp; omega) | (rw [Bool.eq_iff_iff]; simp [lettB, blankB] at *; omega)
        · show Value.bool _ = _; congr 1; rw [show setOfK 3 a b c.toNat = _ from want3 a.toNat c.toNat]; first | rfl | (rw [Bool.eq_iff_iff]; simp [*]; done) | (rw [Bool.eq_iff_iff]; simp; omega) | (rw [Bool.eq_iff_iff]; simp [lettB, blankB] at *; omega)
        · show Value.bool _ = _; congr 1; rw [show setOfK 4 a b c.toNat = _ from want4 a.toNat b.toNat c.toNat]; first | rfl | (rw [Bool.eq_iff_iff]; simp [*]; done) | (rw [Bool.eq_iff_iff]; simp; omega) | (rw [Bool.eq_iff_iff]; simp [lettB, blankB] at *; omega)
        · show Value.bool _ = _; congr 1; rw [show setOfK 5 a b c.toNat = _ from want5 a.toNat c.toNat]; first | rfl | (rw [Bool.eq_iff_iff]; simp [*]; done) | (rw [Bool.eq_iff_iff]; simp; omega) | (rw [Bool.eq_iff_iff]; simp [lettB] at *; omega)
        · show Value.bool _ = _; congr 1; rw [show setOfK 6 a b c.toNat = _ from want6 c.toNat]; first | rfl | (rw [Bool.eq_iff_iff]; simp [*]; done) | (rw [Bool.eq_iff_iff]; simp; omega) | (rw [Bool.eq_iff_iff]; simp [blankB] at *; omega)
  obtain ⟨rfl, rfl, rfl, rfl, rfl, hb8⟩ := hcut
  have HB8 := hidden hb8
  have HWN := hidden (show hasN (setN (setOfK k a b)) c.toNat = setOfK k a b c.toNat from rfl)
  clear hb8 HB5
  go_wp2_with fail
  rw [← HTX.out]
  refine (parse_set (textOf k a b) (setOfK k a b) _ _ HTOP.out (by have := HTL.out; omega)).mono ?_
  rintro e w2 ⟨⟨sa, sc, rfl, hn⟩, hb2⟩
  have HB2 := hidden (HB8.out.trans (hb2.mono HB8.out.size))
  have HN := hidden hn
  unfold nodeV at HN ⊢
  clear hb2 hn
  go_wp2_with (go_at_call 10; refine (num_any _ _).mono ?_; rintro e w' ⟨rfl, rfl⟩)
  refine (hasE_any (setN (setOfK k a b)) _ c _ _ (by (with_reducible (repeat (first | exact HN.out | apply NodeAt.alloc | apply NodeAt.putN | apply NodeAt.other | apply NodeAt.putO | apply NodeAt.otherO | apply NodeAt.drewN | apply NodeAt.drew | omega))))).mono ?_
  rintro e w3 ⟨rfl, hb3⟩
  have HB3 := hidden (show Below w.heap.size w w3 from (by (with_reducible (repeat (first | exact HB2.out | apply bel_alloc | apply bel_put | apply bel_set | apply Below.drew | apply below_drewN | omega))) : Below w.heap.size w _).trans (hb3.mono (by have := HB2.out.size; simp; omega)))
  rw [HWN.out]
  clear hb3
  generalize setOfK k a b c.toNat = bb
  go_wp2
  all_goals
    go_ret
    exact ⟨by simp, HB3.out⟩

end Go.Proofs.Ytjeloflfhofdlaa
