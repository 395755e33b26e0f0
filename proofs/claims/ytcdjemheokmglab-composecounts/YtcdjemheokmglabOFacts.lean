
/-
  Plain facts that the laws of steps lean on: how long steps that are right may be, whose texts stand in order, which lists of one or two steps are right; no condition but those that each states.
-/
import Derived.Test.YtcdjemheokmglabOPlain
namespace Go.Proofs.Ytcdjemheokmglab.Ol
open Go.Proofs.Ytcdjemheokmglab.Ln

theorem nfo_text (l : List Oq) : ∀ y ∈ (nfo l).1 ++ (nfo l).2, ∃ x ∈ l, y.2.2 = x.2.2 := by
  refine snoc_ind (P := fun l => ∀ y ∈ (nfo l).1 ++ (nfo l).2, ∃ x ∈ l, y.2.2 = x.2.2) (by simp [nfo]) ?_ l
  intro l x ih y hy
  rw [nfo_snoc] at hy
  have old : ∀ y ∈ (nfo l).1 ++ (nfo l).2, ∃ z ∈ l ++ [x], y.2.2 = z.2.2 := fun y hy => by
    obtain ⟨z, hz, e⟩ := ih y hy
    exact ⟨z, by simp [hz], e⟩
  unfold nst at hy
  split at hy
  · simp only [List.append_assoc, List.mem_append, List.mem_cons, List.not_mem_nil, or_false] at hy
    rcases hy with hy | rfl | hy
    · exact old y (by simp [hy])
    · exact ⟨y, by simp, rfl⟩
    · exact old y (by simp [hy])
  · split at hy
    · simp only [List.mem_append, List.mem_cons, List.not_mem_nil, or_false] at hy
      rcases hy with hy | hy | rfl
      · exact old y (by simp [hy])
      · exact old y (by simp [hy])
      · exact ⟨y, by simp, rfl⟩
    · simp only [List.append_nil] at hy
      rcases stay_cases ((nfo l).1 ++ (nfo l).2) x with ⟨e, _⟩ | ⟨o, z, e1, _, _, e⟩
      · rw [e] at hy
        rcases List.mem_append.1 hy with hy | hy
        · exact old y hy
        · simp at hy; subst hy; exact ⟨y, by simp, rfl⟩
      · rw [e] at hy
        rcases List.mem_append.1 hy with hy | hy
        · exact old y (by rw [e1]; simp [hy])
        · simp at hy; subst hy
          exact old z (by rw [e1]; simp)
theorem nrm_text (l : List Oq) : ∀ y ∈ nrm l, ∃ x ∈ l, y.2.2 = x.2.2 := nfo_text l
theorem len_tot {l : List Oq} (h : ∀ x ∈ l, al0 x) : (l.length : Int) ≤ tot 3 l + tot 4 l := by
  induction l with
  | nil => simp [tot]
  | cons x l ih =>
    have h1 := ih (fun y hy => h y (by simp [hy]))
    have h2 : 1 ≤ ln 3 x + ln 4 x := by
      rcases h x (by simp) with ⟨e, e2, _⟩ | ⟨e, _⟩
      · simp only [ln, if_pos e]; omega
      · rcases e with e | e | e <;> simp [ln, e]
    simp only [tot, List.length_cons]; omega
theorem len_right {l : List Oq} (h : right l = true) : l.length ≤ 4294967296 := by
  have h1 := len_tot (right_al0 h)
  have h2 := right_parts h
  omega
theorem cnt_parts {a b : List Oq} (ha : right a = true) (hb : right b = true) : cnt 3 (a ++ b) = cnt 3 a + cnt 3 b ∧ cnt 4 (a ++ b) = cnt 4 a + cnt 4 b ∧ cnt 3 a ≤ 2147483648 ∧ cnt 3 b ≤ 2147483648 ∧ cnt 4 a ≤ 2147483648 ∧ cnt 4 b ≤ 2147483648 := by
  have h1 := right_parts ha
  have h2 := right_parts hb
  unfold cnt
  rw [tot_app, tot_app]
  omega
theorem cnt_right {l : List Oq} (h : right l = true) : cnt 3 l ≤ 2147483648 := by
  have := right_parts h
  unfold cnt
  omega
theorem kept_nrm {l : List Oq} (h : right l = true) : cnt 3 (nrm l) = cnt 3 l ∧ cnt 4 (nrm l) = cnt 4 l ∧ chs (nrm l) = chs l ∧ kn 3 (nrm l) = kn 3 l ∧ kn 4 (nrm l) = kn 4 l ∧ (nrm l).length ≤ l.length := by
  have k := kept l (right_al0 h)
  unfold nrm cnt
  exact ⟨by rw [k.t3], by rw [k.t4], k.ch, k.k3, k.k4, k.len⟩
theorem right_one (a : Int) : right [(1, a, [])] = (decide (1 ≤ a) && decide (a ≤ 2147483648)) := by
  by_cases h1 : 1 ≤ a
  · by_cases h2 : a ≤ 2147483648
    · have : max a 0 = a := by omega
      simp [right, alone, rsl, rs, on, opn, tot, ln, h1, h2, this]
    · simp [right, alone, h1, h2]
  · simp [right, alone, h1]
theorem right_two {a b : Int} (ha : 1 ≤ a) (ha2 : a ≤ 2147483648) (hb : 1 ≤ b) (hb2 : b ≤ 2147483648) : right [(1, a, []), (1, b, [])] = decide (a + b ≤ 2147483648) := by
  have e1 : max a 0 = a := by omega
  have e2 : max b 0 = b := by omega
  simp [right, alone, rsl, rs, on, opn, tot, ln, ha, ha2, hb, hb2, e1, e2]
theorem cnt_two {a b : Int} (own : Int) (ha : 1 ≤ a) (ha2 : a ≤ 2147483648) (hb : 1 ≤ b) (hb2 : b ≤ 2147483648) : cnt own [(1, a, []), (1, b, [])] = a + b := by
  have e1 : max a 0 = a := by omega
  have e2 : max b 0 = b := by omega
  simp only [cnt, tot, ln, if_true, e1, e2]; omega
theorem open_two (k nx n : Int) (x : Tx) (hk : k = 2 ∨ k = 3 ∨ k = 4) (hn : nx = 1 ∨ nx = 2 ∨ nx = 3 ∨ nx = 4) (hx : rt x = true) (h1 : 1 ≤ n) (h2 : n ≤ 1000) :
    right [(k, 0, x), if nx = 1 then (1, n, []) else (nx, 0, [122, 10])] = (cl x || ((k == 3 && nx == 4) || (k == 4 && nx == 3))) := by
  have e1 : max n 0 = n := by omega
  have e2 : n ≤ 2147483648 := by omega
  have e3 : rt [122, 10] = true := by decide
  have e4 : cl [122, 10] = true := by decide
  have e5 : 1 + n ≤ 2147483648 := by omega
  have e6 : n + 0 ≤ 2147483648 := by omega
  rcases hk with rfl | rfl | rfl <;> rcases hn with rfl | rfl | rfl | rfl <;> cases hc : cl x <;> simp [right, alone, rsl, rs, on, opn, tot, ln, hx, hc, h1, e1, e2, e3, e4] <;> omega

end Go.Proofs.Ytcdjemheokmglab.Ol
