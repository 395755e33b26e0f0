/-
  What a node takes, reckoned; no conditions.
-/
import Derived.Test.YtjlihidmohokhaaNPlain
namespace Go.Proofs.Ytjlihidmohokhaa.Gl

/-- so often; at most so often -/
def repL (g : List Nat → List Nat) : Nat → List Nat → List Nat
  | 0, F => F
  | n + 1, F => repL g n (g F)
def optL (g : List Nat → List Nat) : Nat → List Nat → List Nat
  | 0, F => F
  | n + 1, F => (F ++ optL g n (g F)).eraseDups
mutual
/-- where a node leads from some places -/
def runN (s : Tx) : Nd → List Nat → List Nat
  | .mk k f kids lo hi, F =>
    if k = 1 then F
    else if k = 2 then (F.filter fun i => decide (i < s.length) && f (s.getD i 0).toNat).map (· + 1)
    else if k = 3 then runCat s kids F
    else if k = 4 then runAlt s kids F
    else if k = 5 then (if hi < 0 then optL (fun G => runAlt s kids G) s.length (repL (fun G => runAlt s kids G) lo.toNat F) else if lo ≤ hi then optL (fun G => runAlt s kids G) (hi.toNat - lo.toNat) (repL (fun G => runAlt s kids G) lo.toNat F) else [])
    else if k = 6 then (if F.contains 0 then [0] else [])
    else if k = 7 then (if F.contains s.length then [s.length] else [])
    else []
def runCat (s : Tx) : List Nd → List Nat → List Nat
  | [], F => F
  | d :: l, F => runCat s l (runN s d F)
def runAlt (s : Tx) : List Nd → List Nat → List Nat
  | [], _ => []
  | d :: l, F => (runN s d F ++ runAlt s l F).eraseDups
end
/-- a set of places as a relation leads on -/
def Leads (s : Tx) (g : List Nat → List Nat) (R : Nat → Nat → Prop) : Prop := ∀ F : List Nat, (∀ i ∈ F, i ≤ s.length) → (∀ j, j ∈ g F ↔ ∃ i, i ∈ F ∧ R i j) ∧ ∀ j ∈ g F, j ≤ s.length
theorem mem_dups {a : Nat} {l : List Nat} : a ∈ l.eraseDups ↔ a ∈ l := List.mem_eraseDups
theorem leads_rep {s : Tx} {g : List Nat → List Nat} {R : Nat → Nat → Prop} (h : Leads s g R) : ∀ n, Leads s (repL g n) (iterR R n) := by
  intro n
  induction n with
  | zero => intro F hF; exact ⟨fun j => ⟨fun h => ⟨j, h, rfl⟩, fun ⟨i, h1, h2⟩ => by rw [← show i = j from h2]; exact h1⟩, hF⟩
  | succ n ih =>
    intro F hF
    have h1 := h F hF
    have h2 := ih (g F) h1.2
    refine ⟨fun j => ?_, h2.2⟩
    rw [repL, h2.1 j]
    constructor
    · rintro ⟨m, hm, hi⟩
      obtain ⟨i, h3, h4⟩ := (h1.1 m).1 hm
      exact ⟨i, h3, m, h4, hi⟩
    · rintro ⟨i, h3, m, h4, h5⟩
      exact ⟨m, (h1.1 m).2 ⟨i, h3, h4⟩, h5⟩
theorem leads_opt {s : Tx} {g : List Nat → List Nat} {R : Nat → Nat → Prop} (h : Leads s g R) : ∀ n, Leads s (optL g n) (fun i j => ∃ k, k ≤ n ∧ iterR R k i j) := by
  intro n
  induction n with
  | zero => intro F hF; exact ⟨fun j => ⟨fun h => ⟨j, h, 0, Nat.le_refl _, rfl⟩, fun ⟨i, h1, k, hk, h2⟩ => by
      obtain rfl : k = 0 := by omega
      rw [← show i = j from h2]; exact h1⟩, hF⟩
  | succ n ih =>
    intro F hF
    have h1 := h F hF
    have h2 := ih (g F) h1.2
    refine ⟨fun j => ?_, fun j hj => ?_⟩
    · rw [optL, mem_dups, List.mem_append, h2.1 j]
      constructor
      · rintro (h3 | ⟨m, hm, k, hk, hi⟩)
        · exact ⟨j, h3, 0, by omega, rfl⟩
        · obtain ⟨i, h4, h5⟩ := (h1.1 m).1 hm
          exact ⟨i, h4, k + 1, by omega, m, h5, hi⟩
      · rintro ⟨i, h3, k, hk, h4⟩
        cases k with
        | zero => rw [← show i = j from h4]; exact Or.inl h3
        | succ k =>
          obtain ⟨m, h5, h6⟩ := h4
          exact Or.inr ⟨m, (h1.1 m).2 ⟨i, h3, h5⟩, k, by omega, h6⟩
    · rw [optL, mem_dups, List.mem_append] at hj
      rcases hj with hj | hj
      · exact hF j hj
      · exact h2.2 j hj
/-- no more often than there are places -/
theorem iter_short {R : Nat → Nat → Prop} {L : Nat} (h : ∀ i j, R i j → i ≤ L → i ≤ j ∧ j ≤ L) : ∀ n i j, iterR R n i j → i ≤ L → ∃ k, k ≤ j - i ∧ iterR R k i j := by
  intro n
  induction n with
  | zero => intro i j e _; exact ⟨0, Nat.zero_le _, e⟩
  | succ n ih =>
    rintro i j ⟨m, h1, h2⟩ hi
    have h3 := h i m h1 hi
    obtain ⟨k, hk, h4⟩ := ih m j h2 h3.2
    have h5 := iterR_between h k m j h4 h3.2
    by_cases e : i = m
    · subst e; exact ⟨k, hk, h4⟩
    · exact ⟨k + 1, by omega, m, h1, h4⟩
mutual
theorem runN_leads (s : Tx) : ∀ x : Nd, Leads s (runN s x) (tk s x)
  | .mk k f kids lo hi => by
    have hc := runCat_leads s kids
    have ha := runAlt_leads s kids
    intro F hF
    simp only [tk, runN]
    by_cases h1 : k = 1
    · subst h1
      simp only [if_pos]
      exact ⟨fun j => ⟨fun h => ⟨j, h, by simp⟩, fun ⟨i, h2, h3⟩ => by simp at h3; rw [← h3]; exact h2⟩, hF⟩
    rw [if_neg h1]
    by_cases h2 : k = 2
    · subst h2
      rw [if_pos rfl]
      refine ⟨fun j => ?_, fun j hj => ?_⟩
      · rw [List.mem_map]
        constructor
        · rintro ⟨i, hi2, rfl⟩
          rw [List.mem_filter] at hi2
          simp at hi2
          exact ⟨i, hi2.1, by simp; exact hi2.2⟩
        · rintro ⟨i, hi2, h3⟩
          simp at h3
          exact ⟨i, List.mem_filter.2 ⟨hi2, by simp; exact ⟨h3.1, h3.2.1⟩⟩, h3.2.2.symm⟩
      · rw [List.mem_map] at hj
        obtain ⟨i, hi2, rfl⟩ := hj
        rw [List.mem_filter] at hi2
        simp at hi2
        omega
    rw [if_neg h2]
    by_cases h3 : k = 3
    · subst h3
      rw [if_pos rfl]
      refine ⟨fun j => ?_, (hc F hF).2⟩
      rw [(hc F hF).1 j]
      simp
    rw [if_neg h3]
    by_cases h4 : k = 4
    · subst h4
      rw [if_pos rfl]
      refine ⟨fun j => ?_, (ha F hF).2⟩
      rw [(ha F hF).1 j]
      simp
    rw [if_neg h4]
    by_cases h5 : k = 5
    · subst h5
      rw [if_pos rfl]
      have hr := leads_rep ha lo.toNat F hF
      by_cases hn : hi < 0
      · rw [if_pos hn]
        have ho := leads_opt ha s.length _ hr.2
        refine ⟨fun j => ?_, ho.2⟩
        rw [ho.1 j]
        constructor
        · rintro ⟨m, hm, n, _, h6⟩
          obtain ⟨i, h7, h8⟩ := (hr.1 m).1 hm
          exact ⟨i, h7, by simp; exact ⟨lo.toNat + n, by omega, Or.inl hn, (iterR_add _ _ _ _ _).2 ⟨m, h8, h6⟩⟩⟩
        · rintro ⟨i, h7, h8⟩
          simp at h8
          obtain ⟨n, h9, _, h10⟩ := h8
          obtain ⟨d, rfl⟩ : ∃ d, n = lo.toNat + d := ⟨n - lo.toNat, by omega⟩
          obtain ⟨m, h11, h12⟩ := (iterR_add _ _ _ _ _).1 h10
          have hm := (hr.1 m).2 ⟨i, h7, h11⟩
          obtain ⟨k, hk, h13⟩ := iter_short (fun a b => altK_between s kids a b) d m j h12 (hr.2 m hm)
          have hb := iterR_between (fun a b => altK_between s kids a b) d m j h12 (hr.2 m hm)
          exact ⟨m, hm, k, by omega, h13⟩
      · rw [if_neg hn]
        by_cases hl : lo ≤ hi
        · rw [if_pos hl]
          have ho := leads_opt ha (hi.toNat - lo.toNat) _ hr.2
          refine ⟨fun j => ?_, ho.2⟩
          rw [ho.1 j]
          constructor
          · rintro ⟨m, hm, n, hn2, h6⟩
            obtain ⟨i, h7, h8⟩ := (hr.1 m).1 hm
            exact ⟨i, h7, by simp; exact ⟨lo.toNat + n, by omega, Or.inr (by omega), (iterR_add _ _ _ _ _).2 ⟨m, h8, h6⟩⟩⟩
          · rintro ⟨i, h7, h8⟩
            simp at h8
            obtain ⟨n, h9, h10, h11⟩ := h8
            obtain ⟨d, rfl⟩ : ∃ d, n = lo.toNat + d := ⟨n - lo.toNat, by omega⟩
            obtain ⟨m, h12, h13⟩ := (iterR_add _ _ _ _ _).1 h11
            exact ⟨m, (hr.1 m).2 ⟨i, h7, h12⟩, d, by omega, h13⟩
        · rw [if_neg hl]
          refine ⟨fun j => ⟨fun h => by simp at h, ?_⟩, fun j h => by simp at h⟩
          rintro ⟨i, _, h8⟩
          simp at h8
          obtain ⟨n, h9, h10, _⟩ := h8
          omega
    rw [if_neg h5]
    by_cases h6 : k = 6
    · subst h6
      rw [if_pos rfl]
      by_cases h0 : F.contains 0 = true
      · rw [if_pos h0]
        have h0' : 0 ∈ F := by simpa using h0
        exact ⟨fun j => by simp; exact ⟨fun e => ⟨_, h0', rfl, e⟩, fun ⟨_, _, _, e⟩ => e⟩, fun j hj => by simp at hj; omega⟩
      · rw [if_neg h0]
        have h0' : ¬ 0 ∈ F := by simpa using h0
        exact ⟨fun j => by simp; intro i hi e; rw [e] at hi; exact absurd hi h0', fun j hj => by simp at hj⟩
    rw [if_neg h6]
    by_cases h7 : k = 7
    · subst h7
      rw [if_pos rfl]
      by_cases h0 : F.contains s.length = true
      · rw [if_pos h0]
        have h0' : s.length ∈ F := by simpa using h0
        exact ⟨fun j => by simp; exact ⟨fun e => ⟨_, h0', rfl, e⟩, fun ⟨_, _, _, e⟩ => e⟩, fun j hj => by simp at hj; omega⟩
      · rw [if_neg h0]
        have h0' : ¬ s.length ∈ F := by simpa using h0
        exact ⟨fun j => by simp; intro i hi e; rw [e] at hi; exact absurd hi h0', fun j hj => by simp at hj⟩
    rw [if_neg h7]
    exact ⟨fun j => by simp [h1, h2, h3, h4, h5, h6, h7], fun j hj => by simp at hj⟩
theorem runCat_leads (s : Tx) : ∀ l : List Nd, Leads s (runCat s l) (catK s l)
  | [] => fun F hF => ⟨fun j => by rw [runCat]; exact ⟨fun h => ⟨j, h, by rw [catK]⟩, fun ⟨i, h1, h2⟩ => by rw [catK] at h2; rw [← h2]; exact h1⟩, by rw [runCat]; exact hF⟩
  | d :: l => fun F hF => by
    have h1 := runN_leads s d F hF
    have h2 := runCat_leads s l _ h1.2
    rw [runCat]
    refine ⟨fun j => ?_, h2.2⟩
    rw [h2.1 j]
    constructor
    · rintro ⟨m, hm, h3⟩
      obtain ⟨i, h4, h5⟩ := (h1.1 m).1 hm
      exact ⟨i, h4, by rw [catK]; exact ⟨m, h5, h3⟩⟩
    · rintro ⟨i, h4, h5⟩
      rw [catK] at h5
      obtain ⟨m, h6, h7⟩ := h5
      exact ⟨m, (h1.1 m).2 ⟨i, h4, h6⟩, h7⟩
theorem runAlt_leads (s : Tx) : ∀ l : List Nd, Leads s (runAlt s l) (altK s l)
  | [] => fun F hF => ⟨fun j => by rw [runAlt]; exact ⟨fun h => by simp at h, fun ⟨i, _, h2⟩ => by rw [altK] at h2; exact h2.elim⟩, by rw [runAlt]; intro j h; simp at h⟩
  | d :: l => fun F hF => by
    have h1 := runN_leads s d F hF
    have h2 := runAlt_leads s l F hF
    rw [runAlt]
    refine ⟨fun j => ?_, fun j hj => ?_⟩
    · rw [mem_dups, List.mem_append, h1.1 j, h2.1 j]
      constructor
      · rintro (⟨i, h3, h4⟩ | ⟨i, h3, h4⟩)
        · exact ⟨i, h3, by rw [altK]; exact Or.inl h4⟩
        · exact ⟨i, h3, by rw [altK]; exact Or.inr h4⟩
      · rintro ⟨i, h3, h4⟩
        rw [altK] at h4
        rcases h4 with h4 | h4
        · exact Or.inl ⟨i, h3, h4⟩
        · exact Or.inr ⟨i, h3, h4⟩
    · rw [mem_dups, List.mem_append] at hj
      rcases hj with hj | hj
      · exact h1.2 j hj
      · exact h2.2 j hj
end
theorem wholeK_run (s : Tx) (x : Nd) : wholeK s x ↔ s.length ∈ runN s x [0] := by
  rw [(runN_leads s x [0] (by simp)).1]
  unfold wholeK
  simp
theorem someK_run (s : Tx) (x : Nd) : someK s x ↔ runN s x (List.range (s.length + 1)) ≠ [] := by
  have h := runN_leads s x (List.range (s.length + 1)) (fun i hi => by have := List.mem_range.1 hi; omega)
  unfold someK
  constructor
  · rintro ⟨i, j, hi, h2⟩ e
    have := (h.1 j).2 ⟨i, List.mem_range.2 (by omega), h2⟩
    rw [e] at this
    simp at this
  · intro hne
    cases hl : runN s x (List.range (s.length + 1)) with
    | nil => exact absurd hl hne
    | cons j l =>
      obtain ⟨i, h1, h2⟩ := (h.1 j).1 (by rw [hl]; simp)
      exact ⟨i, j, by have := List.mem_range.1 h1; omega, h2⟩

end Go.Proofs.Ytjlihidmohokhaa.Gl
