/-
  Plain: what a list of ranges is, written, and that it is read again; what a bitwise and of an int and a small number can be; no condition but those that each states.
-/
import Derived.Test.YtdlmddeiopdioaaDoorBackWalk
namespace Go.Proofs.YtdlmddeiopdioaaDoor
open Go.RowKit Go.Proofs.YtdlmddeiopdioaaDoor.Nm

theorem and_bound (x : Int) (m : Nat) (hm : m < 4611686018427387904) : ∃ r : Nat, bits .and .i64 x (m : Int) = (r : Int) ∧ r ≤ m := by
  have e : (BitVec.ofInt 64 (m : Int)).toNat = m := by rw [BitVec.toNat_ofInt]; omega
  have h : (BitVec.ofInt 64 x &&& BitVec.ofInt 64 (m : Int)).toNat ≤ m := by
    rw [BitVec.toNat_and, e]; exact Nat.and_le_right
  refine ⟨(BitVec.ofInt 64 x &&& BitVec.ofInt 64 (m : Int)).toNat, ?_, h⟩
  show IntKind.i64.wrap (((BitVec.ofInt 64 x &&& BitVec.ofInt 64 (m : Int)).toNat : Nat) : Int) = _
  generalize (BitVec.ofInt 64 x &&& BitVec.ofInt 64 (m : Int)).toNat = r at *
  rw [IntKind.wrap_i64]
  omega

/-- a range that the law makes -/
def Good (r : Int × Int) : Prop := 1 ≤ r.1 ∧ r.1 ≤ 64 ∧ (r.2 = -1 ∨ (r.1 ≤ r.2 ∧ r.2 ≤ 79))
/-- how it writes it -/
def partText (r : Int × Int) : List UInt8 := if r.2 = r.1 then Lib.decDigits r.1.toNat else if r.2 < 0 then Lib.decDigits r.1.toNat ++ [45] else Lib.decDigits r.1.toNat ++ [45] ++ Lib.decDigits r.2.toNat

theorem num_dec (u : Nat) (h1 : 1 ≤ u) (h2 : u ≤ 2147483648) : num (Lib.decDigits u) = some (u : Int) := by
  have hv : rd (Lib.decDigits u) = u := by rw [rd_val, dec_val]; omega
  rw [num_some_of ⟨dec_ne u, dec_dig u, by omega, by omega⟩, hv]
theorem dec_no (c : UInt8) (hc : dig c = false) (u : Nat) : ∀ x, x ∈ Lib.decDigits u → x ≠ c := dig_no c hc _ (dec_dig u)

theorem part_text (r : Int × Int) (h : Good r) : Nm.part (partText r) = some r := by
  obtain ⟨f, t⟩ := r
  obtain ⟨h1, h2, h3⟩ := h
  simp only at h1 h2 h3
  obtain ⟨u, rfl⟩ : ∃ u : Nat, f = u := ⟨f.toNat, by omega⟩
  have hd := dec_no 45 (by decide) u
  have hn := num_dec u (by omega) (by omega)
  by_cases e : t = (u : Int)
  · subst e
    rw [partText, if_pos rfl, Int.toNat_natCast, part_plain _ hd, hn]; rfl
  · rcases h3 with rfl | ⟨h3, h4⟩
    · rw [partText, if_neg e, if_pos (show ((-1 : Int) < 0) by decide), Int.toNat_natCast, part_dash _ [] hd, if_neg (by simp [dec_ne])]
      simp only [side, if_neg (dec_ne u), hn]
      simp
    · obtain ⟨m, rfl⟩ : ∃ m : Nat, t = m := ⟨t.toNat, by omega⟩
      have hm := num_dec m (by omega) (by omega)
      rw [partText, if_neg e, if_neg (show ¬ ((m : Int) < 0) by omega), Int.toNat_natCast, Int.toNat_natCast, List.append_assoc, List.singleton_append, part_dash _ _ hd, if_neg (by simp [dec_ne])]
      simp only [side, if_neg (dec_ne u), if_neg (dec_ne m), hn, hm]
      rw [if_neg (fun h => absurd h.2 (by omega))]

theorem partText_no (r : Int × Int) : ∀ x, x ∈ partText r → x ≠ 44 := by
  intro x hx
  unfold partText at hx
  split at hx
  · exact dec_no 44 (by decide) _ x hx
  · split at hx
    · rcases List.mem_append.1 hx with h | h
      · exact dec_no 44 (by decide) _ x h
      · simp at h; subst h; decide
    · rcases List.mem_append.1 hx with h | h
      · rcases List.mem_append.1 h with h | h
        · exact dec_no 44 (by decide) _ x h
        · simp at h; subst h; decide
      · exact dec_no 44 (by decide) _ x h

theorem partText_len (r : Int × Int) (h : Good r) : (partText r).length ≤ 41 := by
  obtain ⟨f, t⟩ := r
  obtain ⟨h1, h2, h3⟩ := h
  simp only at h1 h2 h3
  have e1 := dec_len20 f.toNat (by omega)
  have e2 := dec_len20 t.toNat (by omega)
  unfold partText
  split
  · simp only; omega
  · split
    · simp; omega
    · simp; omega

/-- texts with a comma between -/
def join : List (List UInt8) → List UInt8
  | [] => []
  | x :: t => if t = [] then x else x ++ 44 :: join t
theorem join_snoc (ps : List (List UInt8)) (x : List UInt8) : join (ps ++ [x]) = if ps = [] then x else join ps ++ [44] ++ x := by
  induction ps with
  | nil => simp [join]
  | cons p ps ih =>
    have e1 : join (p :: ps ++ [x]) = p ++ 44 :: join (ps ++ [x]) := by rw [List.cons_append, join, if_neg (show ¬ (ps ++ [x] = []) by simp)]
    rw [e1, ih, if_neg (show ¬ (p :: ps = []) by simp)]
    by_cases h : ps = []
    · subst h; simp [join]
    · rw [if_neg h, join, if_neg h]; simp
theorem cuts_join (ps : List (List UInt8)) (hne : ps ≠ []) (h : ∀ p, p ∈ ps → ∀ x, x ∈ p → x ≠ 44) : cuts 44 (join ps) = ps := by
  induction ps with
  | nil => exact absurd rfl hne
  | cons p ps ih =>
    by_cases hp : ps = []
    · subst hp
      rw [join, if_pos rfl]
      exact cuts_miss 44 p (h p (by simp))
    · rw [join, if_neg hp, cuts_hit 44 _ _ (h p (by simp)), ih hp (fun q hq => h q (by simp [hq]))]
theorem join_len (ps : List (List UInt8)) (h : ∀ p, p ∈ ps → p.length ≤ 41) : (join ps).length ≤ 42 * ps.length := by
  induction ps with
  | nil => simp [join]
  | cons p ps ih =>
    have h1 := h p (by simp)
    have h2 := ih (fun q hq => h q (by simp [hq]))
    rw [join]
    split
    · simp; omega
    · simp; omega

/-- what the law writes -/
def textOf (rs : List (Int × Int)) : List UInt8 := join (rs.map partText)
theorem textOf_snoc (rs : List (Int × Int)) (r : Int × Int) : textOf (rs ++ [r]) = if rs = [] then partText r else textOf rs ++ [44] ++ partText r := by
  rw [textOf, List.map_append, List.map_singleton, join_snoc]
  simp [textOf]
theorem textOf_len (rs : List (Int × Int)) (h : ∀ r, r ∈ rs → Good r) : (textOf rs).length ≤ 42 * rs.length := by
  have := join_len (rs.map partText) (fun p hp => by
    obtain ⟨r, hr, rfl⟩ := List.mem_map.1 hp
    exact partText_len r (h r hr))
  rw [List.length_map] at this
  exact this
theorem rngs_text (rs : List (Int × Int)) (h : ∀ r, r ∈ rs → Good r) : rngs (rs.map partText) = some rs := by
  induction rs with
  | nil => rfl
  | cons r rs ih => rw [List.map_cons, rngs, part_text r (h r (by simp)), ih (fun q hq => h q (by simp [hq]))]
theorem ranges_text (rs : List (Int × Int)) (hne : rs ≠ []) (h : ∀ r, r ∈ rs → Good r) : ranges (textOf rs) = some rs := by
  rw [ranges, textOf, cuts_join _ (by simp [hne]) (fun p hp => by
    obtain ⟨r, _, rfl⟩ := List.mem_map.1 hp
    exact partText_no r), rngs_text rs h]
theorem has_text (rs : List (Int × Int)) (n : Int) (hne : rs ≠ []) (h : ∀ r, r ∈ rs → Good r) : has rs n = rs.any fun r => inOne r n := by
  by_cases hn : 1 ≤ n
  · rw [has, decide_eq_true hn]; simp [hne]
  · rw [has, decide_eq_false hn, Bool.false_and]
    symm
    rw [List.any_eq_false]
    intro r hr
    have := (h r hr).1
    simp [inOne]
    intro h'
    omega
theorem has_nil (n : Int) : has [] n = decide (1 ≤ n) := by simp [has]
theorem any_snoc (rs : List (Int × Int)) (r : Int × Int) (n : Int) : ((rs ++ [r]).any fun r => inOne r n) = ((rs.any fun r => inOne r n) || inOne r n) := by simp

end Go.Proofs.YtdlmddeiopdioaaDoor
