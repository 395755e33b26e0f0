/-
  How a search goes on from states to states, and what it has found at its end; no conditions.
-/
import Derived.Test.YtjlihidmohokhaaNWalk
import Derived.Test.YtjlihidmohokhaaNReach
namespace Go.Proofs.Ytjlihidmohokhaa
open Go.RowKit Go.Proofs.Ytjlihidmohokhaa.Gl

/-- how many states are not yet reached at a place -/
def unseen (at_ : Nat) (H : Nat → Nat) (n : Nat) : Nat := cntB (fun q => decide (H q ≤ at_)) n
/-- what is known while the states at a place are told: T are told, of Tc all that follows is reached -/
structure Sk (ss : List Sta) (s : Tx) (at_ : Nat) (Rr : Nat → Prop) (T Tc : Nat → Prop) (K : Nat) (L : List Nat) (H : Nat → Nat) : Prop where
  seen : ∀ q, q < ss.length → (H q = at_ + 1 ↔ T q ∨ q ∈ L)
  most : ∀ q, q < ss.length → H q ≤ at_ + 1
  told : ∀ q, T q → Rr q ∧ q < ss.length
  left : ∀ q, q ∈ L → Rr q ∧ q < ss.length
  shut : ∀ q q', Tc q → Stp ss s q at_ q' at_ → T q' ∨ q' ∈ L
  cnt : K + L.length + unseen at_ H ss.length ≤ ss.length
theorem Sk.start {ss : List Sta} {s : Tx} {at_ : Nat} {Rr : Nat → Prop} {H : Nat → Nat} (h : ∀ q, q < ss.length → H q ≤ at_) : Sk ss s at_ Rr (fun _ => False) (fun _ => False) 0 [] H :=
  ⟨fun q hq => ⟨fun e => by have := h q hq; omega, fun e => by rcases e with e | e; (· exact e.elim); simp at e⟩, fun q hq => by have := h q hq; omega, fun q e => e.elim, fun q e => by simp at e, fun q q' e => e.elim, by
    have := cntB_le (fun q => decide (H q ≤ at_)) ss.length
    show 0 + 0 + unseen at_ H ss.length ≤ _
    unfold unseen; omega⟩
theorem Sk.rch {ss : List Sta} {s : Tx} {at_ : Nat} {Rr T Tc : Nat → Prop} {K : Nat} {L : List Nat} {H : Nat → Nat} (h : Sk ss s at_ Rr T Tc K L H) {i : Nat} (hi : i < ss.length) (hr : Rr i) :
    Sk ss s at_ Rr T Tc K (rchL at_ H L i) (rchH at_ H i) ∧ (T i ∨ i ∈ rchL at_ H L i) ∧ (∀ q, T q ∨ q ∈ L → T q ∨ q ∈ rchL at_ H L i) ∧ 2 * unseen at_ (rchH at_ H i) ss.length + (rchL at_ H L i).length ≤ 2 * unseen at_ H ss.length + L.length := by
  unfold rchL rchH
  by_cases hc : H i ≤ at_
  · rw [if_pos hc, if_pos hc]
    have hm : ∀ q, T q ∨ q ∈ L → T q ∨ q ∈ L ++ [i] := fun q e => by
      rcases e with e | e
      · exact Or.inl e
      · exact Or.inr (by simp [e])
    have hu : unseen at_ (upd H i (at_ + 1)) ss.length + 1 ≤ unseen at_ H ss.length := by
      refine cntB_more ss.length (fun j _ hj => ?_) i hi ?_ ?_
      · simp only [decide_eq_true_eq] at hj ⊢
        unfold upd at hj
        split at hj
        · omega
        · exact hj
      · simp [upd]
      · simpa using hc
    refine ⟨⟨fun q hq => ?_, fun q hq => ?_, h.told, fun q e => ?_, fun q q' e hs => hm _ (h.shut q q' e hs), ?_⟩, Or.inr (by simp), hm, ?_⟩
    · unfold upd
      by_cases e : q = i
      · subst e; rw [if_pos rfl]; exact ⟨fun _ => Or.inr (by simp), fun _ => rfl⟩
      · rw [if_neg e, h.seen q hq]
        simp [e]
    · unfold upd
      split
      · omega
      · exact h.most q hq
    · rcases List.mem_append.1 e with e | e
      · exact h.left q e
      · simp at e; subst e; exact ⟨hr, hi⟩
    · have := h.cnt
      rw [List.length_append]
      show K + (L.length + 1) + _ ≤ _
      omega
    · rw [List.length_append]
      show _ + (L.length + 1) ≤ _
      omega
  · rw [if_neg hc, if_neg hc]
    have := h.most i hi
    exact ⟨h, (h.seen i hi).1 (by omega), fun q e => e, Nat.le_refl _⟩
/-- a state goes on -/
theorem Sk.go {ss : List Sta} {s : Tx} {at_ : Nat} {Rr T Tc : Nat → Prop} {K : Nat} {L : List Nat} {H : Nat → Nat} {q : Nat} {t : Sta} (h : Sk ss s at_ Rr T Tc K L H) (ht : ss[q]? = some t) (hq : ∀ p, T p → Tc p ∨ p = q) (hTq : T q) (hn : t.next < ss.length) (ho : t.other < ss.length) (hst : ∀ p p', Rr p → Stp ss s p at_ p' at_ → Rr p') :
    Sk ss s at_ Rr T T K (goL at_ s.length t H L) (goH at_ s.length t H) ∧ 2 * unseen at_ (goH at_ s.length t H) ss.length + (goL at_ s.length t H L).length ≤ 2 * unseen at_ H ss.length + L.length := by
  have hRq := (h.told q hTq).1
  unfold goL goH
  by_cases h1 : t.kind = 1
  · rw [if_pos h1, if_pos h1]
    have r1 : Rr t.next := hst q _ hRq ⟨t, ht, Or.inl ⟨h1, rfl, Or.inl rfl⟩⟩
    have r2 : Rr t.other := hst q _ hRq ⟨t, ht, Or.inl ⟨h1, rfl, Or.inr rfl⟩⟩
    obtain ⟨a1, a2, a3, a4⟩ := h.rch hn r1
    obtain ⟨b1, b2, b3, b4⟩ := a1.rch ho r2
    refine ⟨⟨b1.seen, b1.most, b1.told, b1.left, fun p p' hp hs => ?_, b1.cnt⟩, by omega⟩
    rcases hq p hp with hp | rfl
    · exact b3 _ (a3 _ (h.shut p p' hp hs))
    · obtain ⟨t', ht', hs⟩ := hs
      rw [ht] at ht'
      cases ht'
      rcases hs with ⟨_, _, rfl | rfl⟩ | ⟨e, _⟩ | ⟨e, _⟩ | ⟨e, _⟩
      · exact b3 _ a2
      · exact b2
      all_goals omega
  · rw [if_neg h1, if_neg h1]
    by_cases h2 : (t.kind = 3 ∧ at_ = 0) ∨ (t.kind = 4 ∧ at_ = s.length)
    · rw [if_pos h2, if_pos h2]
      have r1 : Rr t.next := by
        rcases h2 with ⟨e1, e2⟩ | ⟨e1, e2⟩
        · exact hst q _ hRq ⟨t, ht, Or.inr (Or.inr (Or.inl ⟨e1, e2, rfl, rfl⟩))⟩
        · exact hst q _ hRq ⟨t, ht, Or.inr (Or.inr (Or.inr ⟨e1, e2, rfl, rfl⟩))⟩
      obtain ⟨a1, a2, a3, a4⟩ := h.rch hn r1
      refine ⟨⟨a1.seen, a1.most, a1.told, a1.left, fun p p' hp hs => ?_, a1.cnt⟩, a4⟩
      rcases hq p hp with hp | rfl
      · exact a3 _ (h.shut p p' hp hs)
      · obtain ⟨t', ht', hs⟩ := hs
        rw [ht] at ht'
        cases ht'
        rcases hs with ⟨e, _⟩ | ⟨_, _, _, e, _⟩ | ⟨_, _, _, rfl⟩ | ⟨_, _, _, rfl⟩
        · omega
        · omega
        · exact a2
        · exact a2
    · rw [if_neg h2, if_neg h2]
      refine ⟨⟨h.seen, h.most, h.told, h.left, fun p p' hp hs => ?_, h.cnt⟩, Nat.le_refl _⟩
      rcases hq p hp with hp | rfl
      · exact h.shut p p' hp hs
      · obtain ⟨t', ht', hs⟩ := hs
        rw [ht] at ht'
        cases ht'
        rcases hs with ⟨e, _⟩ | ⟨_, _, _, e, _⟩ | ⟨e, e2, _, _⟩ | ⟨e, e2, _, _⟩
        · omega
        · omega
        · exact absurd (Or.inl ⟨e, e2⟩) h2
        · exact absurd (Or.inr ⟨e, e2⟩) h2
/-- one more is told -/
theorem Sk.pop {ss : List Sta} {s : Tx} {at_ : Nat} {Rr T : Nat → Prop} {K : Nat} {L : List Nat} {H : Nat → Nat} {q : Nat} (h : Sk ss s at_ Rr T T K (L ++ [q]) H) : Sk ss s at_ Rr (fun p => T p ∨ p = q) T (K + 1) L H := by
  have hq := h.left q (by simp)
  refine ⟨fun p hp => ?_, h.most, fun p e => ?_, fun p e => h.left p (by simp [e]), fun p p' e hs => ?_, ?_⟩
  · rw [h.seen p hp]
    simp
    constructor
    · rintro (e | e | e)
      · exact Or.inl (Or.inl e)
      · exact Or.inr e
      · exact Or.inl (Or.inr e)
    · rintro ((e | e) | e)
      · exact Or.inl e
      · exact Or.inr (Or.inr e)
      · exact Or.inr (Or.inl e)
  · rcases e with e | rfl
    · exact h.told p e
    · exact hq
  · rcases h.shut p p' e hs with e | e
    · exact Or.inl (Or.inl e)
    · rcases List.mem_append.1 e with e | e
      · exact Or.inr e
      · simp at e; exact Or.inl (Or.inr e)
  · have := h.cnt
    rw [List.length_append] at this
    replace this : K + (L.length + 1) + unseen at_ H ss.length ≤ ss.length := this
    omega
/-- all is told -/
theorem Sk.all {ss : List Sta} {s : Tx} {at_ : Nat} {Rr T : Nat → Prop} {K : Nat} {H : Nat → Nat} {N : List Nat} (h : Sk ss s at_ Rr T T K [] H) (hN : ∀ p ∈ N, T p) (hf : ∀ (P : Nat → Prop), (∀ p ∈ N, P p) → (∀ q q', P q → Stp ss s q at_ q' at_ → P q') → ∀ q, Rr q → P q) : ∀ q, Rr q → T q :=
  hf T hN fun q q' e hs => by
    rcases h.shut q q' e hs with e | e
    · exact e
    · simp at e

/-- from these states on all that is reached at a place is reached there -/
def From (ss : List Sta) (s : Tx) (at_ : Nat) (Rr : Nat → Prop) (N : List Nat) : Prop :=
  (∀ p ∈ N, Rr p ∧ p < ss.length) ∧ ∀ (P : Nat → Prop), (∀ p ∈ N, P p) → (∀ q q', P q → Stp ss s q at_ q' at_ → P q') → ∀ q, Rr q → P q
theorem stp_same {ss : List Sta} {s : Tx} {q i q' i' : Nat} (h : Stp ss s q i q' i') : i' = i ∨ i' = i + 1 := by
  obtain ⟨t, _, ⟨_, rfl, _⟩ | ⟨_, _, _, rfl, _⟩ | ⟨_, _, rfl, _⟩ | ⟨_, _, rfl, _⟩⟩ := h <;> omega
theorem from_zero {ss : List Sta} {s : Tx} {first : Nat} {whole : Bool} (hf : first < ss.length) : From ss s 0 (RR ss s first whole 0) [first] := by
  refine ⟨fun p hp => by simp at hp; subst hp; exact ⟨RR.zero, hf⟩, fun P h1 h2 => ?_⟩
  have key : ∀ i q, RR ss s first whole i q → i = 0 → P q := fun i q h => by
    induction h with
    | zero => intro _; exact h1 first (by simp)
    | any i _ _ => intro _; exact h1 first (by simp)
    | step h hs ih =>
      intro e
      subst e
      rcases stp_same hs with e | e
      · subst e; exact h2 _ _ (ih rfl) hs
      · omega
  exact fun q h => key 0 q h rfl
theorem from_next {ss : List Sta} {s : Tx} {first at_ : Nat} {whole : Bool} {T : Nat → Prop} {X N : List Nat} (hf : first < ss.length) (hle : at_ + 1 ≤ s.length ∨ whole = true) (hT : ∀ q, RR ss s first whole at_ q → T q) (hX1 : ∀ p ∈ X, RR ss s first whole (at_ + 1) p ∧ p < ss.length) (hX2 : ∀ q0 q, T q0 → Stp ss s q0 at_ q (at_ + 1) → q ∈ X) (hN : N = if whole = true then X else X ++ [first]) : From ss s (at_ + 1) (RR ss s first whole (at_ + 1)) N := by
  constructor
  · intro p hp
    subst hN
    cases whole with
    | true => exact hX1 p hp
    | false =>
      rcases List.mem_append.1 hp with hp | hp
      · exact hX1 p hp
      · simp at hp
        subst hp
        exact ⟨RR.any _ rfl (by rcases hle with h | h; (· exact h); cases h), hf⟩
  · intro P h1 h2
    have hin : ∀ p, p ∈ X → p ∈ N := fun p hp => by
      subst hN
      cases whole with
      | true => exact hp
      | false => exact List.mem_append.2 (Or.inl hp)
    have key : ∀ i q, RR ss s first whole i q → i = at_ + 1 → P q := fun i q h => by
      induction h with
      | zero => intro e; omega
      | any i hw _ => intro _; exact h1 first (by subst hN; subst hw; simp)
      | @step i q i' q' h hs ih =>
        intro e
        subst e
        rcases stp_same hs with e | e
        · subst e; exact h2 _ _ (ih rfl) hs
        · obtain rfl : i = at_ := by omega
          exact h1 _ (hin _ (hX2 _ _ (hT _ h) hs))
    exact fun q h => key _ q h rfl
/-- is it found -/
def Fnd (ss : List Sta) (s : Tx) (first : Nat) (whole : Bool) : Prop := ∃ j, RR ss s first whole j 0 ∧ (whole = false ∨ j = s.length)
theorem not_found_end {ss : List Sta} {s : Tx} {first at_ : Nat} {whole : Bool} (h : ∀ j, j < at_ → ¬ (RR ss s first whole j 0 ∧ (whole = false ∨ j = s.length))) (hat : s.length < at_) : ¬ Fnd ss s first whole := by
  rintro ⟨j, hj, h2⟩
  exact h j (by have := hj.le; omega) ⟨hj, h2⟩
theorem not_found_none {ss : List Sta} {s : Tx} {first at_ : Nat} {whole : Bool} (h : ∀ j, j < at_ → ¬ (RR ss s first whole j 0 ∧ (whole = false ∨ j = s.length))) (hat : at_ ≤ s.length) (hn : From ss s at_ (RR ss s first whole at_) []) : ¬ Fnd ss s first whole := by
  have hno : ∀ q, ¬ RR ss s first whole at_ q := fun q hq => hn.2 (fun _ => False) (fun p hp => by simp at hp) (fun _ _ e _ => e) q hq
  have key : ∀ i q, RR ss s first whole i q → i < at_ := fun i q hr => by
    induction hr with
    | zero =>
      by_cases e : at_ = 0
      · subst e; exact absurd RR.zero (hno _)
      · omega
    | any i hw hi => exact absurd (RR.any at_ hw hat) (hno _)
    | @step i q i' q' hr hs ih =>
      rcases stp_same hs with e | e
      · omega
      · by_cases e2 : i' = at_
        · subst e2; exact absurd (hr.step hs) (hno _)
        · omega
  rintro ⟨j, hj, h2⟩
  exact h j (key j 0 hj) ⟨hj, h2⟩
theorem found_is {x : Nd} {ss : List Sta} {s : Tx} {first : Nat} {whole : Bool} (h : Mach x ss first) : Fnd ss s first whole ↔ if whole = true then wholeK s x else someK s x := by
  obtain ⟨t, h0, hk⟩ := h.zero
  cases whole with
  | true =>
    simp only [if_true]
    rw [← found_whole h0 hk (h.good s)]
    constructor
    · rintro ⟨j, hj, e | rfl⟩
      · cases e
      · exact hj
    · intro hj; exact ⟨_, hj, Or.inr rfl⟩
  | false =>
    rw [if_neg (by decide), ← found_some (h.good s)]
    constructor
    · rintro ⟨j, hj, _⟩; exact ⟨j, hj⟩
    · rintro ⟨j, hj⟩; exact ⟨j, hj, Or.inl rfl⟩

end Go.Proofs.Ytjlihidmohokhaa
