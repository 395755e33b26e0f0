/-
  Which nodes texts of one set are: a point, an escaped byte, a byte, all but a byte, a stretch, a class and a byte, all but a class; conditions: which bytes.
-/
import Derived.Test.YtjeloflfhofdlaaEPlain
namespace Go.Proofs.Ytjeloflfhofdlaa.Gl

theorem right_setN (F : Bs) : rightN (setN F) = true := by
  unfold rightN setN
  rw [sizeN, withinN, sizes, withins]
  simp [aloneN, noTimes, reps]
theorem ends_nil : ends [] = true := rfl
theorem post_nil (n : Nat) (d : Nd) : postE n d [] = .ok d 0 := by
  cases n with
  | zero => rfl
  | succ n => rw [postE]; rfl
/-- a text that is one atom -/
theorem top_atom {l : Tx} {x : Nd} (ha : atomE (grpE 30) l = .ok x l.length) (he : ends l = false) (hl : l.length ≤ 1000) (hr : rightN x = true) : topE l = .ok x l.length := by
  have hp : pieceE (grpE 30) l = .ok x l.length := by
    unfold pieceE
    rw [ha]
    simp only []
    rw [List.drop_length, post_nil]
    simp [Rs.far]
  have hb : branchE (grpE 30) l = .ok x l.length := by
    unfold branchE
    rw [piecesE, if_neg (by rw [he]; decide), hp]
    simp only []
    rw [List.drop_length]
    have : piecesE (grpE 30) l.length [] = .ok [] 0 := by
      cases l.length with
      | zero => rfl
      | succ n => rw [piecesE, if_pos ends_nil]
    rw [this]
    simp [Rs.map, Rs.far, catOf, together]
  have hx : exprE (grpE 30) l = .ok x l.length := by
    unfold exprE
    rw [branchesE, hb]
    simp only []
    rw [List.drop_length, if_neg (by decide)]
    rfl
  unfold topE
  rw [if_neg (by omega), hx]
  simp only []
  rw [if_neg (by omega), if_pos hr]
theorem top_set {t : Tx} {F : Bs} (h : setE t = some (F, t.length)) (hl : t.length ≤ 900) : topE (91 :: t) = .ok (setN F) (t.length + 1) := by
  refine top_atom (l := 91 :: t) ?_ rfl (by simp; omega) (right_setN F)
  unfold atomE
  simp only []
  rw [show (91 :: t).getD 0 0 = 91 from rfl, if_neg (by decide), if_pos rfl, show (91 :: t).drop 1 = t from rfl, h]
  simp only [List.length_cons]
  congr 1
  omega
theorem isCls_short {l : Tx} (h : l.length < 9) : isCls l = false := by
  cases hc : isCls l with
  | false => rfl
  | true => have := isCls_len hc; omega
theorem item_last (a : UInt8) : itemLen false [a, 93] = 1 ∧ itemSet false [a, 93] = spn a.toNat a.toNat := by
  unfold itemLen itemSet
  rw [isCls_short (by simp)]
  exact ⟨rfl, rfl⟩
theorem setE_one {a : UInt8} (h : a ≠ 94) : setE [a, 93] = some (both none_ (spn a.toNat a.toNat), 2) := by
  unfold setE
  have hn : negE [a, 93] = false := by unfold negE; simpa using h
  have hn2 : negN [a, 93] = 0 := by unfold negN; rw [hn]; rfl
  rw [hn, hn2]
  obtain ⟨hi, hs⟩ := item_last a
  rw [List.drop_zero, show ([a, 93] : Tx).length + 1 = 2 + 1 from rfl, setGo, if_neg (by simp), if_neg (by simp), hi, hs]
  rfl
theorem setE_not {a : UInt8} : setE [94, a, 93] = some (othersB (both none_ (spn a.toNat a.toNat)), 3) := by
  obtain ⟨hi, hs⟩ := item_last a
  unfold setE
  rw [show negE [94, a, 93] = true from rfl, show negN [94, a, 93] = 1 from rfl, show ([94, a, 93] : Tx).drop 1 = [a, 93] from rfl, show ([94, a, 93] : Tx).length + 1 = 3 + 1 from rfl, setGo, if_neg (by simp), if_neg (by simp), hi, hs]
  rfl
theorem setE_dash {a b : UInt8} (h : a ≠ 94) (hb : b ≠ 93) : setE [a, 45, b, 93] = some (both none_ (spn a.toNat b.toNat), 4) := by
  have hd : isDash [45, b, 93] = true := by
    unfold isDash
    rw [show isCls (([45, b, 93] : Tx).drop 1) = false from isCls_short (by simp)]
    simp [hb]
  have hc : isCls [a, 45, b, 93] = false := isCls_short (by simp)
  have hi : itemLen false [a, 45, b, 93] = 3 := by
    unfold itemLen
    rw [hc, show byteLen false [a, 45, b, 93] = 1 from rfl, show ([a, 45, b, 93] : Tx).drop 1 = [45, b, 93] from rfl, hd]
    rfl
  have hs : itemSet false [a, 45, b, 93] = spn a.toNat b.toNat := by
    unfold itemSet
    rw [hc, show byteLen false [a, 45, b, 93] = 1 from rfl, show ([a, 45, b, 93] : Tx).drop 1 = [45, b, 93] from rfl, hd]
    rfl
  unfold setE
  have hn : negE [a, 45, b, 93] = false := by unfold negE; simpa using h
  have hn2 : negN [a, 45, b, 93] = 0 := by unfold negN; rw [hn]; rfl
  rw [hn, hn2, List.drop_zero, show ([a, 45, b, 93] : Tx).length + 1 = 4 + 1 from rfl, setGo, if_neg (by simp), if_neg (by simp), hi, hs]
  rfl
theorem setE_alnum {a : UInt8} (h93 : a ≠ 93) : setE [91, 58, 97, 108, 110, 117, 109, 58, 93, a, 93] = some (both (both none_ alnum) (spn a.toNat a.toNat), 11) := by
  have hi : itemLen false [91, 58, 97, 108, 110, 117, 109, 58, 93, a, 93] = 9 := rfl
  have hs : itemSet false [91, 58, 97, 108, 110, 117, 109, 58, 93, a, 93] = alnum := rfl
  obtain ⟨hi2, hs2⟩ := item_last a
  unfold setE
  rw [show negE [91, 58, 97, 108, 110, 117, 109, 58, 93, a, 93] = false from rfl, show negN [91, 58, 97, 108, 110, 117, 109, 58, 93, a, 93] = 0 from rfl, List.drop_zero, show ([91, 58, 97, 108, 110, 117, 109, 58, 93, a, 93] : Tx).length + 1 = 11 + 1 from rfl, setGo, if_neg (by simp), if_neg (by simp), hi, hs, show ([91, 58, 97, 108, 110, 117, 109, 58, 93, a, 93] : Tx).drop 9 = [a, 93] from rfl, setGo, if_neg (by simp), if_neg (by simp [h93]), hi2, hs2]
  rfl
theorem setE_space : setE [94, 91, 58, 115, 112, 97, 99, 101, 58, 93, 93] = some (othersB (both none_ space), 11) := by rfl
theorem top_point : topE [46] = .ok (setN (othersB none_)) 1 := top_atom (l := [46]) rfl rfl (by decide) (right_setN _)
theorem top_esc (a : UInt8) : topE [92, a] = .ok (setN (spn a.toNat a.toNat)) 2 := top_atom (l := [92, a]) rfl rfl (by simp) (right_setN _)

/-- what a law wants of a byte -/
def wantS (which : Nat) (a b c : Nat) : Bool :=
  if which = 0 then c != 10 else if which = 1 then c == a else if which = 2 then c == a else if which = 3 then c != a && c != 10 else if which = 4 then decide (a ≤ c) && decide (c ≤ b)
  else if which = 5 then (decide (97 ≤ c) && decide (c ≤ 122) || decide (65 ≤ c) && decide (c ≤ 90) || decide (48 ≤ c) && decide (c ≤ 57)) || c == a else !(decide (9 ≤ c) && decide (c ≤ 13) || c == 32)
theorem want0 (c : Nat) : othersB none_ c = (c != 10) := by simp [othersB, butB, notB, none_]
theorem want1 (a c : Nat) : spn a a c = (c == a) := by unfold spn; rw [Bool.eq_iff_iff]; simp; omega
theorem want2 (a c : Nat) : both none_ (spn a a) c = (c == a) := by simp only [both, none_, Bool.false_or]; exact want1 a c
theorem want3 (a c : Nat) : othersB (both none_ (spn a a)) c = (c != a && c != 10) := by simp only [othersB, butB, notB]; rw [want2]; rfl
theorem want4 (a b c : Nat) : both none_ (spn a b) c = (decide (a ≤ c) && decide (c ≤ b)) := by simp only [both, none_, Bool.false_or]; rfl
theorem want5 (a c : Nat) : both (both none_ alnum) (spn a a) c = ((decide (97 ≤ c) && decide (c ≤ 122) || decide (65 ≤ c) && decide (c ≤ 90) || decide (48 ≤ c) && decide (c ≤ 57)) || c == a) := by
  simp only [both, none_, Bool.false_or, alnum]
  rw [want1]
  simp only [spn]
  rw [Bool.eq_iff_iff]
  simp
  omega
theorem want6 (c : Nat) : othersB (both none_ space) c = !(decide (9 ≤ c) && decide (c ≤ 13) || c == 32) := by
  simp only [othersB, butB, notB, both, none_, Bool.false_or, space, spn]
  rw [Bool.eq_iff_iff]
  simp
  omega

end Go.Proofs.Ytjeloflfhofdlaa.Gl
