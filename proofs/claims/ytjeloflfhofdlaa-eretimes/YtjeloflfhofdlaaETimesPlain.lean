/-
  How often what stands ahead of a sign, or of numbers, comes: numerals up to 220 read again, and texts of a letter and what stands behind it; conditions: which numbers.
-/
import Derived.Test.YtjeloflfhofdlaaESetsPlain
namespace Go.Proofs.Ytjeloflfhofdlaa.Gl

/-- a number's digits, up to three -/
def dec3 (n : Nat) : Tx := if n < 10 then [UInt8.ofNat (48 + n)] else if n < 100 then [UInt8.ofNat (48 + n / 10), UInt8.ofNat (48 + n % 10)] else [UInt8.ofNat (48 + n / 100), UInt8.ofNat (48 + n / 10 % 10), UInt8.ofNat (48 + n % 10)]
theorem dec3_all : ∀ n : Fin 221, (rd (dec3 n.val) == n.val && (dec3 n.val).all dig && decide ((dec3 n.val).length ≤ 3) && decide (1 ≤ (dec3 n.val).length)) = true := by decide +kernel
theorem dec3_is {n : Nat} (h : n ≤ 220) : rd (dec3 n) = n ∧ (dec3 n).all dig = true ∧ (dec3 n).length ≤ 3 ∧ 1 ≤ (dec3 n).length := by
  have := dec3_all ⟨n, by omega⟩
  simp only [Bool.and_eq_true, beq_iff_eq, decide_eq_true_eq] at this
  exact ⟨this.1.1.1, this.1.1.2, this.1.2, this.2⟩
theorem ds_app (d r : Tx) (h : d.all dig = true) (hr : ∀ b t, r = b :: t → dig b = false) : ds (d ++ r) = d := by
  induction d with
  | nil =>
    cases r with
    | nil => rfl
    | cons b t => exact ds_cons_no (hr b t rfl)
  | cons b l ih => simp at h; rw [List.cons_append, ds_cons_dig h.1, ih (by simpa using h.2)]
theorem count_dec {n : Nat} (h : n ≤ 220) (b : UInt8) (r : Tx) (hb : dig b = false) : countR (dec3 n ++ b :: r) = if n ≤ 200 then some (n, (dec3 n).length) else none := by
  obtain ⟨h1, h2, h3, h4⟩ := dec3_is h
  have hd : ds (dec3 n ++ b :: r) = dec3 n := ds_app _ _ h2 (fun x t e => by cases e; exact hb)
  unfold countR
  rw [hd, h1]
  by_cases hn : n ≤ 200
  · rw [if_pos hn, if_neg]
    rintro (e | e | e)
    · rw [e] at h4; simp at h4
    · omega
    · omega
  · rw [if_neg hn, if_pos (Or.inr (Or.inr (by omega)))]
theorem drop_app (d r : Tx) : (d ++ r).drop d.length = r := by simp
theorem times_one {n : Nat} (h : n ≤ 220) : timesR (dec3 n ++ [125]) = if n ≤ 200 then some (n, (n : Int), (dec3 n).length + 1) else none := by
  unfold timesR
  rw [count_dec h 125 [] rfl]
  by_cases hn : n ≤ 200
  · rw [if_pos hn, if_pos hn]
    simp only []
    rw [drop_app]
    rfl
  · rw [if_neg hn, if_neg hn]
theorem times_on {n : Nat} (h : n ≤ 220) : timesR (dec3 n ++ [44, 125]) = if n ≤ 200 then some (n, -1, (dec3 n).length + 2) else none := by
  unfold timesR
  rw [count_dec h 44 [125] rfl]
  by_cases hn : n ≤ 200
  · rw [if_pos hn, if_pos hn]
    simp only []
    rw [drop_app, ← List.drop_drop, drop_app]
    rfl
  · rw [if_neg hn, if_neg hn]
theorem times_two {n m : Nat} (h : n ≤ 220) (hm : m ≤ 220) : timesR (dec3 n ++ 44 :: (dec3 m ++ [125])) = if n ≤ 200 ∧ m ≤ 200 ∧ n ≤ m then some (n, (m : Int), (dec3 n).length + 1 + (dec3 m).length + 1) else none := by
  unfold timesR
  rw [count_dec h 44 _ rfl]
  by_cases hn : n ≤ 200
  · rw [if_pos hn]
    simp only []
    have hd : (dec3 n ++ 44 :: (dec3 m ++ [125])).drop ((dec3 n).length + 1) = dec3 m ++ [125] := by rw [← List.drop_drop, drop_app]; rfl
    have h125 : ¬ (dec3 m ++ [125]).getD 0 0 = 125 := by
      obtain ⟨_, h2, _, h4⟩ := dec3_is hm
      cases hdm : dec3 m with
      | nil => rw [hdm] at h4; simp at h4
      | cons x t =>
        rw [hdm] at h2
        simp at h2
        intro e
        have : x = 125 := e
        rw [this] at h2
        exact absurd h2.1 (by decide)
    rw [drop_app, if_pos (show (44 :: (dec3 m ++ [125]) : Tx).getD 0 0 = 44 from rfl), hd, if_neg h125, count_dec hm 125 [] rfl]
    by_cases hm2 : m ≤ 200
    · rw [if_pos hm2]
      simp only []
      rw [← List.drop_drop, hd, drop_app]
      by_cases hle : n ≤ m
      · rw [if_pos ⟨hle, rfl⟩, if_pos ⟨hn, hm2, hle⟩]
      · rw [if_neg (fun e => hle e.1), if_neg (fun e => hle e.2.2)]
    · rw [if_neg hm2, if_neg (fun e => hm2 e.2.1)]
  · rw [if_neg hn, if_neg (fun e => hn e.1)]

/-- a text that is one piece -/
theorem top_piece {l : Tx} {x : Nd} (hp : pieceE (grpE 30) l = .ok x l.length) (he : ends l = false) (hl : l.length ≤ 1000) (hr : rightN x = true) : topE l = .ok x l.length := by
  have hb : branchE (grpE 30) l = .ok x l.length := by
    unfold branchE
    rw [piecesE, if_neg (by rw [he]; decide), hp]
    simp only []
    rw [List.drop_length]
    have : piecesE (grpE 30) l.length [] = .ok [] 0 := by
      cases l.length with
      | zero => rfl
      | succ n => rw [piecesE, if_pos ends_nil]
    rw [this]
    simp [Rs.map, Rs.far, catOf, together]
  have hx : exprE (grpE 30) l = .ok x l.length := by
    unfold exprE
    rw [branchesE, hb]
    simp only []
    rw [List.drop_length, if_neg (by decide)]
    rfl
  unfold topE
  rw [if_neg (by omega), hx]
  simp only []
  rw [if_neg (by omega), if_pos hr]
theorem top_wrong {l : Tx} {m c : Nat} (hp : pieceE (grpE 30) l = .er m c) (he : ends l = false) (hl : l.length ≤ 1000) : topE l = .er m c := by
  have hb : branchE (grpE 30) l = .er m c := by
    unfold branchE
    rw [piecesE, if_neg (by rw [he]; decide), hp]
    rfl
  have hx : exprE (grpE 30) l = .er m c := by
    unfold exprE
    rw [branchesE, hb]
    rfl
  unfold topE
  rw [if_neg (by omega), hx]
def exN : Nd := setN (spn 120 120)
theorem piece_x (s : Tx) : pieceE (grpE 30) (120 :: s) = (postE (s.length + 1 + 1) exN s).far 1 := rfl
theorem ends_x (s : Tx) : ends (120 :: s) = false := rfl
theorem right_times {lo hi : Int} (h : okTimes lo hi = true) : rightN (timesN exN lo hi) = true := by
  unfold rightN timesN exN setN
  rw [sizeN, sizes, sizes, sizeN, sizes, withinN, withins, withins, withinN, withins]
  have h2 : reps 5 lo hi ≤ 200 := by
    unfold okTimes at h
    unfold reps
    simp at h
    rw [if_pos rfl]
    omega
  have h3 : noSet none_ = true := by decide +kernel
  simp [aloneN, noTimes, h, h3, reps] at h2 ⊢
  omega
theorem top_brace {r : Tx} {lo : Nat} {hi : Int} (h : timesR r = some (lo, hi, r.length)) (hl : r.length ≤ 900) (ho : okTimes lo hi = true) : topE (120 :: 123 :: r) = .ok (timesN exN lo hi) (r.length + 2) := by
  refine top_piece (l := 120 :: 123 :: r) ?_ rfl (by simp; omega) (right_times ho)
  rw [piece_x, postE, show (123 :: r : Tx).getD 0 0 = 123 from rfl, if_neg (by decide), if_neg (by decide), if_neg (by decide), if_pos rfl, show (123 :: r : Tx).drop 1 = r from rfl, h]
  simp only []
  rw [show (123 :: r : Tx).drop (1 + r.length) = [] from by rw [← List.drop_drop]; simp, post_nil]
  simp [Rs.far]
  omega
theorem top_brace_no {r : Tx} (h : timesR r = none) (hl : r.length ≤ 900) : topE (120 :: 123 :: r) = .er 1 2 := by
  refine top_wrong (l := 120 :: 123 :: r) ?_ rfl (by simp; omega)
  rw [piece_x, postE, show (123 :: r : Tx).getD 0 0 = 123 from rfl, if_neg (by decide), if_neg (by decide), if_neg (by decide), if_pos rfl, show (123 :: r : Tx).drop 1 = r from rfl, h]
  rfl
theorem top_star : topE [120, 42] = .ok (timesN exN 0 (-1)) 2 := top_piece (l := [120, 42]) rfl rfl (by decide) (right_times (by decide))
theorem top_plus : topE [120, 43] = .ok (timesN exN 1 (-1)) 2 := top_piece (l := [120, 43]) rfl rfl (by decide) (right_times (by decide))
theorem top_quest : topE [120, 63] = .ok (timesN exN 0 1) 2 := top_piece (l := [120, 63]) rfl rfl (by decide) (right_times (by decide))

end Go.Proofs.Ytjeloflfhofdlaa.Gl
