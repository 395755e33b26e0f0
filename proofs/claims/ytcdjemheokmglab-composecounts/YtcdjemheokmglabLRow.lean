
/-
  What lines.Whole and the document's own Whole, Join and Split answer at lists of texts that lie in memory, and at texts: whether texts are lines and, but the last, closed; the texts together; the lines of a text; conditions: the lists' and texts' lengths.
-/
import Derived.Test.YtcdjemheokmglabORow
import Derived.Lib.BufferRead
import Derived.Lib.AppendStr
namespace Go.Proofs.Ytcdjemheokmglab
open Go.RowKit Go.Proofs.Ytcdjemheokmglab.Ln Go.Proofs.Ytcdjemheokmglab.Ol

section
variable {W n m : Bool} {r c : Bool} {a k : Nat}
theorem wh_go1 (H : W = (r && (decide (a ≤ k + 1) || c) && n)) (h1 : (!r) = false) (h3 : (!c) = false) : W = n := by
  simp at h1 h3; simp [H, h1, h3]
theorem wh_go2 (H : W = (r && (decide (a ≤ k + 1) || c) && n)) (h1 : (!r) = false) (h2 : ¬ (k : Int) < (a : Int) - 1) : W = n := by
  have : a ≤ k + 1 := by omega
  simp at h1; simp [H, h1, this]
theorem wh_no1 (H : W = (r && (decide (a ≤ k + 1) || c) && n)) (h1 : (!r) = true) : false = W := by
  simp at h1; simp [H, h1]
theorem wh_no2 (H : W = (r && (decide (a ≤ k + 1) || c) && n)) (h2 : (k : Int) < (a : Int) - 1) (h3 : (!c) = true) : false = W := by
  have : ¬ a ≤ k + 1 := by omega
  simp at h3; simp [H, h3, this]
theorem whr_go (H : W = (r && (decide (a ≤ k + 1) || c) && n)) (h1 : r = true) (h2 : a ≤ k + 1 ∨ c = true) : W = n := by
  rcases h2 with h2 | h2 <;> simp [H, h1, h2]
theorem whr_no (H : W = (r && (decide (a ≤ k + 1) || c) && n)) (h : r = false ∨ (¬ a ≤ k + 1 ∧ c = false)) : false = W := by
  rcases h with h | ⟨h, h2⟩
  · simp [H, h]
  · simp [H, h, h2]
end

theorem Try.infoByte : (Try.prog.info? 5).map (fun i => (i.zero, i.size, i.bytes)) = some (some (.int .u8 0), 1, 1) := by kernel_rfl

theorem conv_own (w : World) (B : Nat) (v : Value) (l : List UInt8) (h : w.ownsRow B 5 1 v l.length (Lib.byteCells l)) : (convert 55 9 v).run Try.prog w = .ok (S l) w := by
  rcases h.2 with ⟨rfl, h0⟩ | ⟨g, cap, cur, rfl, hB, hg, hc, hm, hs, ht⟩
  · have hl : l = [] := List.eq_nil_of_length_eq_zero h0
    subst hl
    exact Lib.run_convert_nil_bytes w 55 9 5 0 Try.underlying55 Try.underlying5 Try.underlying9
  · exact run_convert_bytes_back w 55 9 5 ⟨g, 0, none⟩ cap l Try.underlying55 Try.underlying5 Try.underlying9 (Lib.bytes_of_row hg (by simpa using ht))
theorem flatten_take (xs : List Tx) (k : Nat) (x : Tx) (h : xs[k]? = some x) : (xs.take (k + 1)).flatten = (xs.take k).flatten ++ x := by
  obtain ⟨hk, hx⟩ := List.getElem?_eq_some_iff.1 h
  rw [List.take_succ_eq_append_getElem hk, hx]; simp
theorem flatten_take_le (xs : List Tx) (k : Nat) : (xs.take k).flatten.length ≤ xs.flatten.length := by
  have h : xs.flatten = (xs.take k).flatten ++ (xs.drop k).flatten := by rw [← List.flatten_append, List.take_append_drop]
  rw [h]; simp

theorem extract_take (s : ByteArray) (f k : Nat) : (s.extract f k).data.toList = (s.data.toList.drop f).take (k - f) := Lib.extract_data s f k

/-- what a cut at i, the first since f, does to what was made -/
theorem refSplit_step (s : ByteArray) (xs : List Tx) (f i : Nat) (hf : f ≤ i) (hi : i < s.size) (hx : spl s.data.toList = xs ++ spl (s.data.toList.drop f))
    (hno : ∀ j, f ≤ j → j < i → s.data.toList[j]? ≠ some 10) (h : s.data.toList[i]? = some 10 ∨ i + 1 = s.size) :
    spl s.data.toList = (xs ++ [(s.extract f (i + 1)).data.toList]) ++ spl (s.data.toList.drop (i + 1)) := by
  have hlen : s.data.toList.length = s.size := (Lib.size_eq s).symm
  have hfe : fe (s.data.toList.drop f) = i - f + 1 := by
    apply fe_at
    · rw [List.length_drop]; omega
    · intro j hj
      rw [List.getElem?_drop]
      exact hno (f + j) (by omega) (by omega)
    · rcases h with h | h
      · left; rw [List.getElem?_drop, show f + (i - f) = i from by omega]; exact h
      · right; rw [List.length_drop]; omega
  have hne : s.data.toList.drop f ≠ [] := by
    intro e
    have := congrArg List.length e
    rw [List.length_drop] at this
    simp at this
    omega
  rw [hx, spl_ne _ hne, hfe, extract_take, List.drop_drop, show i + 1 - f = i - f + 1 from by omega, show f + (i - f + 1) = i + 1 from by omega]
  simp

end Go.Proofs.Ytcdjemheokmglab
