/-
  Machines of states: where they go, and that one that is made so takes what a node takes; no conditions.
-/
import Derived.Test.YtjlihidmohokhaaNPlain
namespace Go.Proofs.Ytjlihidmohokhaa.Gl

/-- a state: its kind, its bytes, where it goes on -/
structure Sta where
  kind : Nat
  set : Bs
  next : Nat
  other : Nat

/-- a step -/
def Stp (M : List Sta) (s : Tx) (q i q' i' : Nat) : Prop :=
  ∃ t, M[q]? = some t ∧ ((t.kind = 1 ∧ i' = i ∧ (q' = t.next ∨ q' = t.other)) ∨ (t.kind = 2 ∧ i < s.length ∧ t.set (s.getD i 0).toNat = true ∧ i' = i + 1 ∧ q' = t.next) ∨ (t.kind = 3 ∧ i = 0 ∧ i' = i ∧ q' = t.next) ∨ (t.kind = 4 ∧ i = s.length ∧ i' = i ∧ q' = t.next))
/-- from a state and a place to the first state, in so many steps -/
def AccN (M : List Sta) (s : Tx) : Nat → Nat → Nat → Nat → Prop
  | 0, q, i, j => q = 0 ∧ i = j
  | n + 1, q, i, j => ∃ q' i', Stp M s q i q' i' ∧ AccN M s n q' i' j
/-- from a state on what a relation says is taken, and then it goes on at another one -/
def Gd (M : List Sta) (s : Tx) (R : Nat → Nat → Prop) (next q : Nat) : Prop :=
  (∀ i m, R i m → ∀ n j, AccN M s n next m j → ∃ n', AccN M s n' q i j) ∧ (∀ n i j, AccN M s n q i j → ∃ m n', n' ≤ n ∧ R i m ∧ AccN M s n' next m j)

theorem Gd.iff {M : List Sta} {s : Tx} {R R' : Nat → Nat → Prop} {next q : Nat} (h : Gd M s R next q) (e : ∀ i j, R i j ↔ R' i j) : Gd M s R' next q := by
  rw [show R' = R from funext fun i => funext fun j => propext (e i j).symm]; exact h
theorem Gd.id (M : List Sta) (s : Tx) (q : Nat) : Gd M s (fun i j => i = j) q q :=
  ⟨fun i m e n j h => ⟨n, by rw [e]; exact h⟩, fun n i j h => ⟨i, n, Nat.le_refl _, rfl, h⟩⟩
theorem Gd.comp {M : List Sta} {s : Tx} {R R' : Nat → Nat → Prop} {next mid q : Nat} (h : Gd M s R mid q) (h' : Gd M s R' next mid) : Gd M s (fun i j => ∃ m, R i m ∧ R' m j) next q := by
  constructor
  · rintro i m ⟨p, h1, h2⟩ n j ha
    obtain ⟨n1, a1⟩ := h'.1 p m h2 n j ha
    exact h.1 i p h1 n1 j a1
  · intro n i j ha
    obtain ⟨p, n1, hn1, h1, a1⟩ := h.2 n i j ha
    obtain ⟨m, n2, hn2, h2, a2⟩ := h'.2 n1 p j a1
    exact ⟨m, n2, Nat.le_trans hn2 hn1, ⟨p, h1, h2⟩, a2⟩
theorem Gd.fork {M : List Sta} {s : Tx} {R R' : Nat → Nat → Prop} {next q : Nat} {t : Sta} (ht : M[q]? = some t) (hk : t.kind = 1) (hq : q ≠ 0) (h : Gd M s R next t.next) (h' : Gd M s R' next t.other) : Gd M s (fun i j => R i j ∨ R' i j) next q := by
  constructor
  · rintro i m (h1 | h1) n j ha
    · obtain ⟨n1, a1⟩ := h.1 i m h1 n j ha
      exact ⟨n1 + 1, _, _, ⟨t, ht, Or.inl ⟨hk, rfl, Or.inl rfl⟩⟩, a1⟩
    · obtain ⟨n1, a1⟩ := h'.1 i m h1 n j ha
      exact ⟨n1 + 1, _, _, ⟨t, ht, Or.inl ⟨hk, rfl, Or.inr rfl⟩⟩, a1⟩
  · intro n i j ha
    cases n with
    | zero => exact absurd ha.1 hq
    | succ n =>
      obtain ⟨q', i', ⟨t', ht', hs⟩, ha⟩ := ha
      rw [ht] at ht'
      cases ht'
      rcases hs with ⟨_, rfl, rfl | rfl⟩ | ⟨e, _⟩ | ⟨e, _⟩ | ⟨e, _⟩
      · obtain ⟨m, n1, hn, h1, a1⟩ := h.2 n i' j ha
        exact ⟨m, n1, by omega, Or.inl h1, a1⟩
      · obtain ⟨m, n1, hn, h1, a1⟩ := h'.2 n i' j ha
        exact ⟨m, n1, by omega, Or.inr h1, a1⟩
      all_goals omega
theorem Gd.byte {M : List Sta} {s : Tx} {next q : Nat} {t : Sta} (ht : M[q]? = some t) (hk : t.kind = 2) (hq : q ≠ 0) (hn : t.next = next) : Gd M s (fun i j => i < s.length ∧ t.set (s.getD i 0).toNat = true ∧ j = i + 1) next q := by
  constructor
  · rintro i m ⟨h1, h2, rfl⟩ n j ha
    exact ⟨n + 1, _, _, ⟨t, ht, Or.inr (Or.inl ⟨hk, h1, h2, rfl, rfl⟩)⟩, by rw [hn]; exact ha⟩
  · intro n i j ha
    cases n with
    | zero => exact absurd ha.1 hq
    | succ n =>
      obtain ⟨q', i', ⟨t', ht', hs⟩, ha⟩ := ha
      rw [ht] at ht'
      cases ht'
      rcases hs with ⟨e, _⟩ | ⟨_, h1, h2, rfl, rfl⟩ | ⟨e, _⟩ | ⟨e, _⟩
      · omega
      · exact ⟨i + 1, n, by omega, ⟨h1, h2, rfl⟩, by rw [← hn]; exact ha⟩
      all_goals omega
theorem Gd.begin {M : List Sta} {s : Tx} {next q : Nat} {t : Sta} (ht : M[q]? = some t) (hk : t.kind = 3) (hq : q ≠ 0) (hn : t.next = next) : Gd M s (fun i j => i = 0 ∧ j = 0) next q := by
  constructor
  · rintro i m ⟨rfl, rfl⟩ n j ha
    exact ⟨n + 1, _, _, ⟨t, ht, Or.inr (Or.inr (Or.inl ⟨hk, rfl, rfl, rfl⟩))⟩, by rw [hn]; exact ha⟩
  · intro n i j ha
    cases n with
    | zero => exact absurd ha.1 hq
    | succ n =>
      obtain ⟨q', i', ⟨t', ht', hs⟩, ha⟩ := ha
      rw [ht] at ht'
      cases ht'
      rcases hs with ⟨e, _⟩ | ⟨e, _⟩ | ⟨_, h1, rfl, rfl⟩ | ⟨e, _⟩
      · omega
      · omega
      · exact ⟨i', n, by omega, ⟨h1, h1⟩, by rw [← hn]; exact ha⟩
      · omega
theorem Gd.fin {M : List Sta} {s : Tx} {next q : Nat} {t : Sta} (ht : M[q]? = some t) (hk : t.kind = 4) (hq : q ≠ 0) (hn : t.next = next) : Gd M s (fun i j => i = s.length ∧ j = s.length) next q := by
  constructor
  · rintro i m ⟨rfl, rfl⟩ n j ha
    exact ⟨n + 1, _, _, ⟨t, ht, Or.inr (Or.inr (Or.inr ⟨hk, rfl, rfl, rfl⟩))⟩, by rw [hn]; exact ha⟩
  · intro n i j ha
    cases n with
    | zero => exact absurd ha.1 hq
    | succ n =>
      obtain ⟨q', i', ⟨t', ht', hs⟩, ha⟩ := ha
      rw [ht] at ht'
      cases ht'
      rcases hs with ⟨e, _⟩ | ⟨e, _⟩ | ⟨e, _⟩ | ⟨_, h1, rfl, rfl⟩
      · omega
      · omega
      · omega
      · exact ⟨i', n, by omega, ⟨h1, h1⟩, by rw [← hn]; exact ha⟩
theorem Gd.star {M : List Sta} {s : Tx} {R : Nat → Nat → Prop} {next q : Nat} {t : Sta} (ht : M[q]? = some t) (hk : t.kind = 1) (hq : q ≠ 0) (hn : t.other = next) (h : Gd M s R q t.next) : Gd M s (fun i j => ∃ k, iterR R k i j) next q := by
  constructor
  · rintro i m ⟨k, hi⟩ n j ha
    induction k generalizing i with
    | zero =>
      rw [show i = m from hi]
      exact ⟨n + 1, _, _, ⟨t, ht, Or.inl ⟨hk, rfl, Or.inr rfl⟩⟩, by rw [hn]; exact ha⟩
    | succ k ih =>
      obtain ⟨p, h1, h2⟩ := hi
      obtain ⟨n1, a1⟩ := ih p h2
      obtain ⟨n2, a2⟩ := h.1 i p h1 n1 j a1
      exact ⟨n2 + 1, _, _, ⟨t, ht, Or.inl ⟨hk, rfl, Or.inl rfl⟩⟩, a2⟩
  · intro n
    induction n using Nat.strongRecOn with
    | ind n ih =>
      intro i j ha
      cases n with
      | zero => exact absurd ha.1 hq
      | succ n =>
        obtain ⟨q', i', ⟨t', ht', hs⟩, ha⟩ := ha
        rw [ht] at ht'
        cases ht'
        rcases hs with ⟨_, rfl, rfl | rfl⟩ | ⟨e, _⟩ | ⟨e, _⟩ | ⟨e, _⟩
        · obtain ⟨m, n1, hn1, h1, a1⟩ := h.2 n i' j ha
          obtain ⟨m2, n2, hn2, ⟨k, h2⟩, a2⟩ := ih n1 (by omega) m j a1
          exact ⟨m2, n2, by omega, ⟨k + 1, m, h1, h2⟩, a2⟩
        · exact ⟨i', n, by omega, ⟨0, rfl⟩, by rw [← hn]; exact ha⟩
        all_goals omega

/-- a machine agrees with another one from a state on -/
def Agr (a : Nat) (ss M : List Sta) : Prop := ∀ i, a ≤ i → i < ss.length → M[i]? = ss[i]?
/-- whatever lies around -/
def GIn (ss : List Sta) (a : Nat) (R : Tx → Nat → Nat → Prop) (next q : Nat) : Prop := ∀ M, Agr a ss M → ∀ s, Gd M s (R s) next q
theorem GIn.more {ss ss' : List Sta} {a a' : Nat} {R : Tx → Nat → Nat → Prop} {next q : Nat} (h : GIn ss a R next q) (hl : ss.length ≤ ss'.length) (ha : a' ≤ a) (hs : Agr a ss ss') : GIn ss' a' R next q :=
  fun M hM s => h M (fun i h1 h2 => (hM i (by omega) (by omega)).trans (hs i h1 h2)) s
theorem GIn.iff {ss : List Sta} {a : Nat} {R R' : Tx → Nat → Nat → Prop} {next q : Nat} (h : GIn ss a R next q) (e : ∀ s i j, R s i j ↔ R' s i j) : GIn ss a R' next q :=
  fun M hM s => (h M hM s).iff (e s)
/-- states that are added, and what they take -/
structure Laid (ss ss' : List Sta) (R : Tx → Nat → Nat → Prop) (next q : Nat) : Prop where
  len : ss.length ≤ ss'.length
  old : ∀ i, i < ss.length → ss'[i]? = ss[i]?
  wf : ∀ i t, ss.length ≤ i → ss'[i]? = some t → 1 ≤ t.kind ∧ t.kind ≤ 4 ∧ t.next < ss'.length ∧ t.other < ss'.length
  at_ : q < ss'.length
  good : GIn ss' ss.length R next q
theorem Laid.iff {ss ss' : List Sta} {R R' : Tx → Nat → Nat → Prop} {next q : Nat} (h : Laid ss ss' R next q) (e : ∀ s i j, R s i j ↔ R' s i j) : Laid ss ss' R' next q :=
  ⟨h.len, h.old, h.wf, h.at_, h.good.iff e⟩
theorem Laid.id {ss : List Sta} {q : Nat} (hq : q < ss.length) : Laid ss ss (fun _ i j => i = j) q q :=
  ⟨Nat.le_refl _, fun _ _ => rfl, fun i t h1 h2 => by have := (List.getElem?_eq_some_iff.1 h2).1; omega, hq, fun M _ s => Gd.id M s q⟩
/-- ahead of what was laid -/
theorem Laid.comp {ss s1 s2 : List Sta} {R R' : Tx → Nat → Nat → Prop} {next mid q : Nat} (h : Laid ss s1 R' next mid) (h' : Laid s1 s2 R mid q) : Laid ss s2 (fun s i j => ∃ m, R s i m ∧ R' s m j) next q := by
  refine ⟨Nat.le_trans h.len h'.len, fun i hi => (h'.old i (by have := h.len; omega)).trans (h.old i hi), fun i t h1 h2 => ?_, h'.at_, fun M hM s => ?_⟩
  · by_cases hi : i < s1.length
    · have := h.wf i t h1 ((h'.old i hi).symm.trans h2)
      have := h'.len
      omega
    · exact h'.wf i t (by omega) h2
  · have hl := h.len
    refine Gd.comp (h'.good M (fun i h1 h2 => hM i (by omega) h2) s) (h.good M (fun i h1 h2 => ?_) s)
    have := h'.len
    exact (hM i h1 (by omega)).trans (h'.old i h2)
theorem getElem?_snoc_last {α : Type} (l : List α) (a : α) : (l ++ [a])[l.length]? = some a := by simp
theorem getElem?_snoc_old {α : Type} (l : List α) (a : α) {i : Nat} (h : i < l.length) : (l ++ [a])[i]? = l[i]? := by rw [List.getElem?_append_left h]
theorem getElem?_snoc_cases {α : Type} {l : List α} {a t : α} {i : Nat} (h : (l ++ [a])[i]? = some t) : (i < l.length ∧ l[i]? = some t) ∨ (i = l.length ∧ t = a) := by
  by_cases hi : i < l.length
  · rw [List.getElem?_append_left hi] at h; exact Or.inl ⟨hi, h⟩
  · have := (List.getElem?_eq_some_iff.1 h).1
    simp at this
    obtain rfl : i = l.length := by omega
    rw [getElem?_snoc_last] at h
    cases h
    exact Or.inr ⟨rfl, rfl⟩
/-- one state alone -/
theorem Laid.one {ss : List Sta} {t : Sta} {R : Tx → Nat → Nat → Prop} {next : Nat} (hk : 1 ≤ t.kind ∧ t.kind ≤ 4) (h1 : t.next < ss.length) (h2 : t.other < ss.length) (hg : ∀ M s, M[ss.length]? = some t → Gd M s (R s) next ss.length) : Laid ss (ss ++ [t]) R next ss.length := by
  refine ⟨by simp, fun i hi => getElem?_snoc_old ss t hi, fun i u h3 h4 => ?_, by simp, fun M hM s => hg M s ?_⟩
  · rcases getElem?_snoc_cases h4 with ⟨h5, _⟩ | ⟨_, rfl⟩
    · omega
    · simp; omega
  · rw [hM ss.length (Nat.le_refl _) (by simp), getElem?_snoc_last]
theorem Laid.set {ss : List Sta} (f : Bs) {next : Nat} (hn : next < ss.length) : Laid ss (ss ++ [⟨2, f, next, 0⟩]) (fun s i j => i < s.length ∧ f (s.getD i 0).toNat = true ∧ j = i + 1) next ss.length :=
  Laid.one ⟨by simp, by simp⟩ hn (by show 0 < _; omega) fun _ _ h => Gd.byte (t := ⟨2, f, next, 0⟩) h rfl (by omega) rfl
theorem Laid.begin {ss : List Sta} (f : Bs) {next : Nat} (hn : next < ss.length) : Laid ss (ss ++ [⟨3, f, next, 0⟩]) (fun _ i j => i = 0 ∧ j = 0) next ss.length :=
  Laid.one ⟨by simp, by simp⟩ hn (by show 0 < _; omega) fun _ _ h => Gd.begin (t := ⟨3, f, next, 0⟩) h rfl (by omega) rfl
theorem Laid.fin {ss : List Sta} (f : Bs) {next : Nat} (hn : next < ss.length) : Laid ss (ss ++ [⟨4, f, next, 0⟩]) (fun s i j => i = s.length ∧ j = s.length) next ss.length :=
  Laid.one ⟨by simp, by simp⟩ hn (by show 0 < _; omega) fun _ _ h => Gd.fin (t := ⟨4, f, next, 0⟩) h rfl (by omega) rfl
/-- one more to choose from: 'rest' was laid, then one, then a fork -/
theorem Laid.alt {ss s1 s2 : List Sta} {R R' : Tx → Nat → Nat → Prop} {next b a : Nat} (f : Bs) (_hn : next < ss.length) (h : Laid ss s1 R' next b) (h' : Laid s1 s2 R next a) : Laid ss (s2 ++ [⟨1, f, a, b⟩]) (fun s i j => R s i j ∨ R' s i j) next s2.length := by
  have l1 := h.len
  have l2 := h'.len
  have hb := h.at_
  have ha := h'.at_
  refine ⟨by simp; omega, fun i hi => ?_, fun i t h3 h4 => ?_, by simp, fun M hM s => ?_⟩
  · rw [getElem?_snoc_old _ _ (by omega), h'.old i (by omega), h.old i hi]
  · rcases getElem?_snoc_cases h4 with ⟨h5, h6⟩ | ⟨_, rfl⟩
    · by_cases hi : i < s1.length
      · have := h.wf i t h3 ((h'.old i hi).symm.trans h6)
        simp; omega
      · have := h'.wf i t (by omega) h6
        simp; omega
    · simp; omega
  · have e : M[s2.length]? = some ⟨1, f, a, b⟩ := by rw [hM _ (by omega) (by simp), getElem?_snoc_last]
    refine Gd.fork (t := ⟨1, f, a, b⟩) e rfl (by omega) (h'.good M (fun i h1 h2 => ?_) s) (h.good M (fun i h1 h2 => ?_) s)
    · rw [hM i (by omega) (by simp; omega), getElem?_snoc_old _ _ h2]
    · rw [hM i h1 (by simp; omega), getElem?_snoc_old _ _ (by omega), h'.old i h2]
/-- any number of times: a fork was laid, then what comes again, then the fork was told of it -/
theorem Laid.star {ss s2 : List Sta} {R : Tx → Nat → Nat → Prop} {next a : Nat} (f : Bs) (hn : next < ss.length) (h' : Laid (ss ++ [⟨1, f, 0, next⟩]) s2 R ss.length a) :
    Laid ss (s2.set ss.length ⟨1, f, a, next⟩) (fun s i j => ∃ k, iterR (R s) k i j) next ss.length ∧ Laid ss (s2.set ss.length ⟨1, f, a, next⟩) (fun s i j => ∃ k, iterR (R s) (k + 1) i j) next a := by
  have l2 := h'.len
  simp at l2
  have ha := h'.at_
  have hlen : (s2.set ss.length ⟨1, f, a, next⟩).length = s2.length := by simp
  have old : ∀ i, i < ss.length → (s2.set ss.length ⟨1, f, a, next⟩)[i]? = ss[i]? := fun i hi => by
    rw [List.getElem?_set_ne (by omega), h'.old i (by simp; omega), getElem?_snoc_old _ _ hi]
  have wf : ∀ i t, ss.length ≤ i → (s2.set ss.length ⟨1, f, a, next⟩)[i]? = some t → 1 ≤ t.kind ∧ t.kind ≤ 4 ∧ t.next < (s2.set ss.length ⟨1, f, a, next⟩).length ∧ t.other < (s2.set ss.length ⟨1, f, a, next⟩).length := fun i t h3 h4 => by
    rw [hlen]
    by_cases e : ss.length = i
    · subst e
      rw [List.getElem?_set_self (by omega)] at h4
      cases h4
      exact ⟨Nat.le_refl 1, by show 1 ≤ 4; omega, ha, by show next < _; omega⟩
    · rw [List.getElem?_set_ne e] at h4
      exact h'.wf i t (by simp; omega) h4
  have key : ∀ M, Agr ss.length (s2.set ss.length ⟨1, f, a, next⟩) M → ∀ s, Gd M s (fun i j => ∃ k, iterR (R s) k i j) next ss.length ∧ Gd M s (R s) ss.length a := fun M hM s => by
    have e : M[ss.length]? = some ⟨1, f, a, next⟩ := by rw [hM _ (Nat.le_refl _) (by omega), List.getElem?_set_self (by omega)]
    have g : Gd M s (R s) ss.length a := h'.good M (fun i h1 h2 => by simp at h1; rw [hM i (by omega) (by omega), List.getElem?_set_ne (by omega)]) s
    exact ⟨Gd.star (t := ⟨1, f, a, next⟩) e rfl (by omega) rfl g, g⟩
  refine ⟨⟨by omega, old, wf, by omega, fun M hM s => (key M hM s).1⟩, ⟨by omega, old, wf, by omega, fun M hM s => ?_⟩⟩
  refine ((key M hM s).2.comp (key M hM s).1).iff fun i j => ?_
  constructor
  · rintro ⟨m, h1, k, h2⟩; exact ⟨k, m, h1, h2⟩
  · rintro ⟨k, m, h1, h2⟩; exact ⟨m, h1, k, h2⟩

/-! where a search is -/
inductive RR (M : List Sta) (s : Tx) (first : Nat) (whole : Bool) : Nat → Nat → Prop
  | zero : RR M s first whole 0 first
  | any (i : Nat) (hw : whole = false) (hi : i ≤ s.length) : RR M s first whole i first
  | step {i q i' q' : Nat} (h : RR M s first whole i q) (hs : Stp M s q i q' i') : RR M s first whole i' q'
theorem Stp.le {M : List Sta} {s : Tx} {q i q' i' : Nat} (h : Stp M s q i q' i') (hi : i ≤ s.length) : i' ≤ s.length := by
  obtain ⟨t, _, ⟨_, rfl, _⟩ | ⟨_, h1, _, rfl, _⟩ | ⟨_, _, rfl, _⟩ | ⟨_, _, rfl, _⟩⟩ := h <;> omega
theorem RR.le {M : List Sta} {s : Tx} {first : Nat} {whole : Bool} {i q : Nat} (h : RR M s first whole i q) : i ≤ s.length := by
  induction h with
  | zero => omega
  | any i _ hi => exact hi
  | step _ hs ih => exact hs.le ih
theorem RR.acc {M : List Sta} {s : Tx} {first : Nat} {whole : Bool} : ∀ (n : Nat) {i q j : Nat}, RR M s first whole i q → AccN M s n q i j → RR M s first whole j 0 := by
  intro n
  induction n with
  | zero => rintro i q j h ⟨rfl, rfl⟩; exact h
  | succ n ih => rintro i q j h ⟨q', i', hs, ha⟩; exact ih (h.step hs) ha
theorem RR.back {M : List Sta} {s : Tx} {first : Nat} {whole : Bool} {i q : Nat} (h : RR M s first whole i q) : ∀ n j, AccN M s n q i j → ∃ i0 n0, (i0 = 0 ∨ (whole = false ∧ i0 ≤ s.length)) ∧ AccN M s n0 first i0 j := by
  induction h with
  | zero => intro n j h; exact ⟨0, n, Or.inl rfl, h⟩
  | any i hw hi => intro n j h; exact ⟨i, n, Or.inr ⟨hw, hi⟩, h⟩
  | step _ hs ih => intro n j h; exact ih (n + 1) j ⟨_, _, hs, h⟩
theorem acc_zero {M : List Sta} {s : Tx} {t : Sta} (h0 : M[0]? = some t) (hk : t.kind = 0) {n m j : Nat} (h : AccN M s n 0 m j) : m = j := by
  cases n with
  | zero => exact h.2
  | succ n =>
    obtain ⟨q', i', ⟨t', ht', hs⟩, _⟩ := h
    rw [h0] at ht'
    cases ht'
    rcases hs with ⟨e, _⟩ | ⟨e, _⟩ | ⟨e, _⟩ | ⟨e, _⟩ <;> omega
/-- what a search tells -/
theorem found_whole {M : List Sta} {s : Tx} {x : Nd} {first : Nat} {t : Sta} (h0 : M[0]? = some t) (hk : t.kind = 0) (h : Gd M s (tk s x) 0 first) : RR M s first true s.length 0 ↔ wholeK s x := by
  constructor
  · intro hr
    obtain ⟨i0, n0, hi, ha⟩ := hr.back 0 s.length ⟨rfl, rfl⟩
    obtain ⟨m, n1, _, h1, h2⟩ := h.2 n0 i0 _ ha
    rcases hi with rfl | ⟨e, _⟩
    · rw [acc_zero h0 hk h2] at h1; exact h1
    · cases e
  · intro hw
    obtain ⟨n, ha⟩ := h.1 0 s.length hw 0 s.length ⟨rfl, rfl⟩
    exact RR.zero.acc n ha
theorem found_some {M : List Sta} {s : Tx} {x : Nd} {first : Nat} (h : Gd M s (tk s x) 0 first) : (∃ j, RR M s first false j 0) ↔ someK s x := by
  constructor
  · rintro ⟨j, hr⟩
    obtain ⟨i0, n0, hi, ha⟩ := hr.back 0 j ⟨rfl, rfl⟩
    obtain ⟨m, n1, _, h1, h2⟩ := h.2 n0 i0 _ ha
    refine ⟨i0, m, ?_, h1⟩
    rcases hi with rfl | ⟨_, e⟩ <;> omega
  · rintro ⟨i, j, hi, hw⟩
    obtain ⟨n, ha⟩ := h.1 i j hw 0 j ⟨rfl, rfl⟩
    exact ⟨j, (RR.any i rfl hi).acc n ha⟩

end Go.Proofs.Ytjlihidmohokhaa.Gl
