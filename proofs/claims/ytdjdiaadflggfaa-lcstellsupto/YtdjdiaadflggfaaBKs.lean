
/-
  The sorts of a row's lines and their marks, while the row is gone through: in memory, and what each step of it turns; conditions: where they lie.
-/
import Derived.Test.YtdjdiaadflggfaaBWith
import Derived.Test.YtdjdiaadflggfaaBBackw
import Derived.Maps.OwnIn
import Derived.Maps.OwnSet
import Derived.Maps.Views
namespace Go.Proofs.Ytdjdiaadflggfaa
open Go.RowKit Go.Proofs.Ytdjdiaadflggfaa.Ln Go.Proofs.Ytdjdiaadflggfaa.Ol
open Go.Maps (Keyed)

/-- which sort a text is of -/
def sidx (d : List Tx) (x : Tx) : Nat := if x ∈ d then d.idxOf x + 1 else 0
theorem sidx_le (d : List Tx) (x : Tx) : sidx d x ≤ d.length := by
  unfold sidx
  split
  · have := List.idxOf_lt_length_iff.2 (by assumption); omega
  · omega
theorem sidx_at {d : List Tx} {x : Tx} (h : x ∈ d) : ∃ s, sidx d x = s + 1 ∧ d[s]? = some x := by
  refine ⟨d.idxOf x, if_pos h, ?_⟩
  rw [List.getElem?_eq_getElem (List.idxOf_lt_length_iff.2 h), List.getElem_idxOf]
theorem sidx_snoc (d : List Tx) (x y : Tx) (h : x ∉ d) : sidx (d ++ [x]) y = if y = x then d.length + 1 else sidx d y := by
  by_cases e : y = x
  · subst e
    rw [if_pos rfl]
    unfold sidx
    rw [if_pos (by simp), List.idxOf_append, if_neg h]
    simp
  · rw [if_neg e]
    unfold sidx
    by_cases hy : y ∈ d
    · rw [if_pos hy, if_pos (by simp [hy]), List.idxOf_append, if_pos hy]
    · rw [if_neg hy, if_neg (by simp [hy, e])]
theorem lawStr : Keyed Try.prog 9 := Maps.string_keyed Try.underlying9
theorem zeroInt (w : World) : (zeroValue 3).run Try.prog w = .ok (.int .i64 0) w := by kernel_rfl
/-- the map tells the sorts -/
structure KM {H : Type} (mb n : Nat) (d : List Tx) (D : DataW H) (W : World) : Prop where
  own : W.ownsMap Try.prog 9 (plainElem Try.prog 3) mb n D
  isM : Maps.IsMap D
  has : ∀ x : Tx, Maps.has D (.string x) = decide (x ∈ d)
  at_ : ∀ x : Tx, D.atKey (.string x) (.lit (.int .i64 0)) = .lit (.int .i64 (sidx d x))
theorem KM.put {H : Type} {mb n : Nat} {d : List Tx} {D : DataW H} {W W' : World} (h : KM mb n d D W) {x : Tx} (hx : x ∉ d) (ho : W'.ownsMap Try.prog 9 (plainElem Try.prog 3) mb (n + 1) (D.put (.string x) (.lit (.int .i64 (((d.length + 1 : Nat)) : Int))))) : KM mb (n + 1) (d ++ [x]) (D.put (.string x) (.lit (.int .i64 ((d.length + 1 : Nat) : Int)))) W' := by
  refine ⟨ho, h.isM.put _ _, fun y => ?_, fun y => ?_⟩
  · by_cases e : y = x
    · subst e
      rw [Maps.has_put_same h.isM (show WideAt.IsKeyLit (.string y) from trivial)]; simp
    · rw [Maps.has_put_other (by intro h2; injection h2 with h3; exact e h3), h.has y]
      simp [e]
  · rw [sidx_snoc d x y hx]
    by_cases e : y = x
    · subst e
      rw [if_pos rfl, Maps.atKey_put_same h.isM (show WideAt.IsKeyLit (.string y) from trivial)]
    · rw [if_neg e, Maps.atKey_put_other (by intro h2; injection h2 with h3; exact e h3), h.at_ y]
/-- all cells stay -/
def CellsStay (W W' : World) : Prop := ∀ (k : Nat) cs e fr, W.heap[k]? = some (.cells cs e fr) → W'.heap[k]? = some (.cells cs e fr)
theorem cellsStay_map {H : Type} {W W' : World} {k : TypeId} {R : Value → Option (DataW H × List MemPlace)} {mb n : Nat} {D : DataW H} (h : W.ownsMap Try.prog k R mb n D) (hg : W.grownBy W' (some mb)) : CellsStay W W' := fun i cs e fr hi => by
  obtain ⟨es, cl, hb, _⟩ := h
  rw [hg.block i (Array.getElem?_eq_some_iff.1 hi).1 (fun e => by cases e; rw [hi] at hb; cases hb)]
  exact hi
theorem cellsStay_below {W W' : World} (hb : Below W.heap.size W W') : CellsStay W W' := fun i cs e fr hi => by
  rw [hb.block i (Array.getElem?_eq_some_iff.1 hi).1]; exact hi
theorem own_stay {W W' : World} (hs : CellsStay W W') {B size n : Nat} {e : TypeId} {v : Value} {xs : List Value} (h : W.ownsRow B e size v n xs) : W'.ownsRow B e size v n xs := by
  refine ⟨h.1, ?_⟩
  rcases h.2 with h | ⟨g, cap, cur, hv, hb, hg, r⟩
  · exact Or.inl h
  · exact Or.inr ⟨g, cap, cur, hv, hb, hs _ _ _ _ hg, r⟩
/-- the table's first cell, and the rows of marks -/
structure KR (B1 T K : Nat) (v0 c1 c2 c3 c4 c5 c6 c7 c8 : Value) (vm : Nat → Value) (wsf : Nat → List Nat) (gf : Nat → Bs) (W : World) : Prop where
  tc : TbC W T v0 c1 c2 c3 c4 c5 c6 c7 c8
  tlt : T < B1
  top : W.ownsRow B1 63 1 v0 K ((List.range K).map vm)
  own : ∀ s, s < K → W.ownsRow B1 71 2 (vm s) (wsf s).length (mcells (wsf s) (gf s))
  apart : ∀ s t, s < K → t < K → s ≠ t → (vm s).ownBlock = none ∨ (vm s).ownBlock ≠ (vm t).ownBlock
section
variable {B1 T K : Nat} {v0 c1 c2 c3 c4 c5 c6 c7 c8 : Value} {vm : Nat → Value} {wsf : Nat → List Nat} {gf : Nat → Bs} {W W' : World}
theorem KR.stay (h : KR B1 T K v0 c1 c2 c3 c4 c5 c6 c7 c8 vm wsf gf W) (hs : CellsStay W W') : KR B1 T K v0 c1 c2 c3 c4 c5 c6 c7 c8 vm wsf gf W' :=
  ⟨hs _ _ _ _ h.tc, h.tlt, own_stay hs h.top, fun s hk => own_stay hs (h.own s hk), h.apart⟩
theorem KR.later (h : KR B1 T K v0 c1 c2 c3 c4 c5 c6 c7 c8 vm wsf gf W) (hb : Below W.heap.size W W') : KR B1 T K v0 c1 c2 c3 c4 c5 c6 c7 c8 vm wsf gf W' := h.stay (cellsStay_below hb)
theorem KR.vshape (h : KR B1 T K v0 c1 c2 c3 c4 c5 c6 c7 c8 vm wsf gf W) {s : Nat} (hs : s < K) : ∃ a cp, vm s = .slice a (wsf s).length cp := by
  obtain ⟨a, cp, e, _⟩ := own_shape (h.own s hs)
  exact ⟨a, cp, e⟩
/-- one sort more, without marks -/
theorem KR.more (h : KR B1 T K v0 c1 c2 c3 c4 c5 c6 c7 c8 vm wsf gf W) {g9 q9 : Nat} {W9 : World} (ho : W9.ownsRow B1 63 1 (.slice (some ⟨g9, 0, none⟩) (K + 1) q9) (K + 1) ((List.range K).map vm ++ [.slice none 0 0])) (hg : W.grownBy W9 v0.ownBlock) (u : Value) (hu : u = .slice (some ⟨g9, 0, none⟩) (K + 1) q9) :
    KR B1 T (K + 1) u c1 c2 c3 c4 c5 c6 c7 c8 (fun s => if s = K then .slice none 0 0 else vm s) (fun s => if s = K then [] else wsf s) (fun s => if s = K then fun _ => false else gf s) (W9.setCell ⟨T, 0, none⟩ u) := by
  subst hu
  have hc := h.tc.grown h.top (by decide) hg
  refine ⟨hc.set0 _, h.tlt, rowT_keep hc ?_ (by decide) 0 _, fun s hs => ?_, fun s t hs ht hne => ?_⟩
  · have e : (List.range (K + 1)).map (fun s => if s = K then Value.slice none 0 0 else vm s) = (List.range K).map vm ++ [.slice none 0 0] := by
      rw [List.range_succ, List.map_append]
      congr 1
      · refine List.map_congr_left fun s hs => ?_
        rw [if_neg (by have := List.mem_range.1 hs; omega)]
      · simp
    rw [e]; exact ho
  · by_cases e : s = K
    · rw [if_pos e, if_pos e, if_pos e]
      exact World.ownsRow_nil _ _ _ _
    · rw [if_neg e, if_neg e, if_neg e]
      exact rowT_keep hc ((h.own s (by omega)).kept hg (own_ne (h.own s (by omega)) h.top (by decide))) (by decide) 0 _
  · by_cases e : s = K
    · rw [if_pos e]; exact Or.inl rfl
    · rw [if_neg e]
      by_cases e2 : t = K
      · rw [if_pos e2]
        cases hv : (vm s).ownBlock with
        | none => exact Or.inl rfl
        | some q => exact Or.inr (fun h => by cases h)
      · rw [if_neg e2]; exact h.apart s t (by omega) (by omega) hne
/-- a sort's marks are others -/
theorem KR.with_ (h : KR B1 T K v0 c1 c2 c3 c4 c5 c6 c7 c8 vm wsf gf W) {s : Nat} (hs : s < K) {v' : Value} {ws' : List Nat} {g' : Bs} (ho : W'.ownsRow B1 71 2 v' ws'.length (mcells ws' g')) (hg : W.grownBy W' (vm s).ownBlock) (hn : v'.ownBlock = (vm s).ownBlock ∨ ∃ q, v'.ownBlock = some q ∧ W.heap.size ≤ q) {gM cM : Nat} (hv0 : v0 = .slice (some ⟨gM, 0, none⟩) K cM) :
    KR B1 T K v0 c1 c2 c3 c4 c5 c6 c7 c8 (fun t => if t = s then v' else vm t) (fun t => if t = s then ws' else wsf t) (fun t => if t = s then g' else gf t) (W'.setCell ⟨gM, s, none⟩ v') := by
  have hc := h.tc.grown (h.own s hs) (by decide) hg
  have ht := h.top.kept hg (own_ne h.top (h.own s hs) (by decide))
  subst hv0
  obtain ⟨s1, s2⟩ := ht.stored s v'
  have hT : T ≠ gM := fun e => own_notT hc ht (by decide) (by rw [e]; rfl)
  have keepM : ∀ {v : Value} {n : Nat} {xs : List Value}, W'.ownsRow B1 71 2 v n xs → (W'.setCell ⟨gM, s, none⟩ v').ownsRow B1 71 2 v n xs := fun hh => hh.kept s2 (own_ne hh ht (by decide))
  refine ⟨hc.other hT, h.tlt, ?_, fun t ht2 => ?_, fun t u ht2 hu hne => ?_⟩
  · have e : ((List.range K).map vm).set s v' = (List.range K).map (fun t => if t = s then v' else vm t) := by
      apply List.ext_getElem?
      intro i
      rw [List.getElem?_set]
      by_cases hi : s = i
      · subst hi; simp [hs]
      · rw [if_neg hi]
        by_cases hi2 : i < K
        · simp [hi2, show ¬ i = s by omega]
        · simp [hi2]
    rw [← e]; exact s1
  · by_cases e : t = s
    · rw [if_pos e, if_pos e, if_pos e]; exact keepM ho
    · rw [if_neg e, if_neg e, if_neg e]
      exact keepM ((h.own t ht2).kept hg (h.apart t s ht2 hs e))
  · by_cases e : t = s
    · rw [if_pos e, if_neg (fun e2 => hne (e.trans e2.symm))]
      rcases hn with hn | ⟨q, hq, hlt⟩
      · rw [hn]; exact h.apart s u hs hu (fun e2 => hne (e.trans e2))
      · rw [hq]
        refine Or.inr fun e2 => ?_
        have := (own_kind (h.own u hu) e2.symm).2.1
        omega
    · rw [if_neg e]
      by_cases e2 : u = s
      · rw [if_pos e2]
        rcases hn with hn | ⟨q, hq, hlt⟩
        · rw [hn]; exact h.apart t s ht2 hs e
        · cases hv : (vm t).ownBlock with
          | none => exact Or.inl rfl
          | some r =>
            refine Or.inr fun e3 => ?_
            rw [hq] at e3
            cases e3
            have := (own_kind (h.own t ht2) hv).2.1
            omega
      · rw [if_neg e2]; exact h.apart t u ht2 hu hne
end
/-- what the sorts and their marks are, when so many lines are gone through -/
structure KP (xs : List Tx) (n p : Nat) (d : List Tx) (wsf : Nat → List Nat) (gf : Nat → Bs) : Prop where
  mks : ∀ s, s < d.length + 1 → Mks (wsf s) (gf s) p
  g0 : ∀ i, gf 0 i = false
  gs : ∀ s, s < d.length → ∀ i, gf (s + 1) i = decide (i < p ∧ xs[n - 1 - i]? = d[s]?)
  nodup : d.Nodup
  len : d.length ≤ p
  cover : ∀ i x, i < p → xs[n - 1 - i]? = some x → x ∈ d
theorem KP.more {xs : List Tx} {n p : Nat} {d : List Tx} {wsf : Nat → List Nat} {gf : Nat → Bs} (h : KP xs n p d wsf gf) {x : Tx} (hx : x ∉ d) (_hl : d.length < p + 1) :
    (∀ s, s < d.length + 2 → Mks ((fun s => if s = d.length + 1 then [] else wsf s) s) ((fun s => if s = d.length + 1 then (fun _ => false : Bs) else gf s) s) p) ∧ (∀ i, (fun s => if s = d.length + 1 then (fun _ => false : Bs) else gf s) 0 i = false) ∧ (∀ s, s < d.length + 1 → ∀ i, (fun s => if s = d.length + 1 then (fun _ => false : Bs) else gf s) (s + 1) i = decide (i < p ∧ xs[n - 1 - i]? = (d ++ [x])[s]?)) ∧ (d ++ [x]).Nodup ∧ ∀ i y, i < p → xs[n - 1 - i]? = some y → y ∈ d ++ [x] := by
  refine ⟨fun s hs => ?_, fun i => ?_, fun s hs i => ?_, ?_, fun i y hi hy => by simp [h.cover i y hi hy]⟩
  · by_cases e : s = d.length + 1
    · simp only [if_pos e]
      exact ⟨List.Pairwise.nil, by simp, fun d hd => by cases hd⟩
    · simp only [if_neg e]; exact h.mks s (by omega)
  · simp only [if_neg (show ¬ 0 = d.length + 1 by omega)]; exact h.g0 i
  · by_cases e : s = d.length
    · subst e
      simp only [if_true]
      rw [List.getElem?_append_right (Nat.le_refl _), Nat.sub_self, List.getElem?_cons_zero]
      symm
      rw [decide_eq_false_iff_not]
      rintro ⟨h1, h2⟩
      exact hx (h.cover i x h1 h2)
    · simp only [if_neg (show ¬ s + 1 = d.length + 1 by omega)]
      rw [h.gs s (by omega) i, List.getElem?_append_left (by omega)]
  · rw [List.nodup_append]
    refine ⟨h.nodup, by simp, fun a ha b hb => ?_⟩
    rw [List.mem_singleton.1 hb]
    exact fun e => hx (e ▸ ha)
theorem KP.next {xs : List Tx} {n p : Nat} {d : List Tx} {wsf : Nat → List Nat} {gf : Nat → Bs} {s : Nat} {x : Tx} (m1 : ∀ t, t < d.length + 1 → Mks (wsf t) (gf t) p) (m2 : ∀ i, gf 0 i = false) (m3 : ∀ t, t < d.length → ∀ i, gf (t + 1) i = decide (i < p ∧ xs[n - 1 - i]? = d[t]?)) (m4 : d.Nodup) (m5 : d.length ≤ p + 1) (m6 : ∀ i y, i < p → xs[n - 1 - i]? = some y → y ∈ d) (hx : xs[n - 1 - p]? = some x) (hs : d[s]? = some x) :
    KP xs n (p + 1) d (fun t => if t = s + 1 then nextW (wsf (s + 1)) (p / 64) else wsf t) (fun t => if t = s + 1 then put1 (gf (s + 1)) p else gf t) := by
  have hsl := (List.getElem?_eq_some_iff.1 hs).1
  refine ⟨fun t ht => ?_, fun i => ?_, fun t ht i => ?_, m4, m5, fun i y hi hy => ?_⟩
  · by_cases e : t = s + 1
    · simp only [if_pos e]; exact (m1 (s + 1) (by omega)).next
    · simp only [if_neg e]
      have := m1 t ht
      exact ⟨this.up, fun x hx => by have := this.low x hx; omega, fun d hd => ⟨by have := (this.all d hd).1; omega, (this.all d hd).2⟩⟩
  · simp only [if_neg (show ¬ 0 = s + 1 by omega)]; exact m2 i
  · by_cases e : t = s
    · subst e
      simp only [if_true]
      unfold put1
      rw [m3 t ht i, Bool.eq_iff_iff]
      simp only [Bool.or_eq_true, decide_eq_true_eq, beq_iff_eq]
      constructor
      · rintro (⟨h1, h2⟩ | rfl)
        · exact ⟨by omega, h2⟩
        · exact ⟨by omega, hx.trans hs.symm⟩
      · rintro ⟨h1, h2⟩
        by_cases e : i = p
        · exact Or.inr e
        · exact Or.inl ⟨by omega, h2⟩
    · simp only [if_neg (show ¬ t + 1 = s + 1 by omega)]
      rw [m3 t ht i, Bool.eq_iff_iff]
      simp only [decide_eq_true_eq]
      constructor
      · rintro ⟨h1, h2⟩; exact ⟨by omega, h2⟩
      · rintro ⟨h1, h2⟩
        refine ⟨?_, h2⟩
        by_cases e2 : i = p
        · exfalso
          subst e2
          rw [hx] at h2
          obtain ⟨q1, e3⟩ := List.getElem?_eq_some_iff.1 hs
          obtain ⟨q2, e4⟩ := List.getElem?_eq_some_iff.1 h2.symm
          have := (List.pairwise_iff_getElem.1 m4)
          rcases Nat.lt_or_gt_of_ne e with h | h
          · exact this t s q2 q1 h (e4.trans e3.symm)
          · exact this s t q1 q2 h (e3.trans e4.symm)
        · omega
  · by_cases e : i = p
    · subst e
      rw [hx] at hy
      cases hy
      exact List.mem_of_getElem? hs
    · exact m6 i y (by omega) hy

end Go.Proofs.Ytdjdiaadflggfaa
