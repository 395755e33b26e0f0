/-
  What the program's add answers: behind a list of entries that the call owns, copies of those of a tree that lies elsewhere in memory; conditions: the lengths of both and of the texts.
-/
import Derived.Test.YtehhpjgbffcocaaAround
import Derived.Deep.RegionHeld3
import Derived.Deep.AppendLies
import Derived.WalkSmall
namespace Go.Proofs.Ytehhpjgbffcocaa
open Go.RowKit Go.Proofs.Ytehhpjgbffcocaa.Tr

/-- from v in w to o in W nothing but v's own row has turned -/
def Adds (w W : World) (v o : Value) : Prop := w.grownBy W v.ownBlock ∧ (o.ownBlock = v.ownBlock ∨ ∃ k, o.ownBlock = some k ∧ w.heap.size ≤ k)
theorem Adds.refl (w : World) (v : Value) : Adds w w v v := ⟨⟨rfl, rfl, rfl, Nat.le_refl _, fun _ _ _ => rfl⟩, Or.inl rfl⟩
theorem Adds.later {w W W' : World} {v o : Value} (h : Adds w W v o) (hb : Below W.heap.size W W') : Adds w W' v o :=
  ⟨⟨hb.os.trans h.1.os, hb.tape.trans h.1.tape, hb.output.trans h.1.output, Nat.le_trans h.1.size hb.size, fun k hk hne => (hb.block k (Nat.lt_of_lt_of_le hk h.1.size)).trans (h.1.block k hk hne)⟩, h.2⟩
theorem Adds.step {w W W' : World} {v o o' : Value} (h : Adds w W v o) (hg : W.grownBy W' o.ownBlock) (ho : o'.ownBlock = o.ownBlock ∨ ∃ k, o'.ownBlock = some k ∧ W.heap.size ≤ k) : Adds w W' v o' := by
  refine ⟨⟨hg.os.trans h.1.os, hg.tape.trans h.1.tape, hg.output.trans h.1.output, Nat.le_trans h.1.size hg.size, fun k hk hne => ?_⟩, ?_⟩
  · rw [hg.block k (Nat.lt_of_lt_of_le hk h.1.size) ?_]
    · exact h.1.block k hk hne
    · intro e
      rcases h.2 with h2 | ⟨j, h2, h3⟩
      · exact hne (e.trans h2)
      · rw [h2] at e; cases e; omega
  · rcases ho with ho | ⟨k, ho, hk⟩
    · rw [ho]; exact h.2
    · exact Or.inr ⟨k, ho, Nat.le_trans h.1.size hk⟩
theorem Adds.below {w W : World} {v o : Value} (B : Nat) (h : Adds w W v o) (hB : B ≤ w.heap.size) (hv : ∀ k, v.ownBlock = some k → B ≤ k) : Below B w W :=
  (Below.refl B w).grown h.1 hB hv

/-- what is kept while one entry is copied -/
structure KO (w : World) (v o : Value) (B n : Nat) (cs : List Value) (p : Nat) (x1 x2 : Tx) (W : World) : Prop where
  own : W.ownsRow B 35 2 o n cs
  add : Adds w W v o
  lt : p < W.heap.size
  c1 : W.cell? ⟨p, 0, none⟩ = some (.string ⟨x1.toArray⟩)
  c2 : W.cell? ⟨p, 1, none⟩ = some (.string ⟨x2.toArray⟩)
  ne : some p ≠ o.ownBlock
  low : B ≤ W.heap.size
theorem KO.on {w W W' : World} {v o : Value} {B n : Nat} {cs : List Value} {p : Nat} {x1 x2 : Tx} (h : KO w v o B n cs p x1 x2 W) (hb : Below W.heap.size W W') : KO w v o B n cs p x1 x2 W' :=
  ⟨owns_later h.own hb, h.add.later hb, Nat.lt_of_lt_of_le h.lt hb.size, (hb.cell (p := ⟨p, 0, none⟩) h.lt).trans h.c1, (hb.cell (p := ⟨p, 1, none⟩) h.lt).trans h.c2, h.ne, Nat.le_trans h.low hb.size⟩
theorem KO.alloc {w W : World} {v o : Value} {B n : Nat} {cs : List Value} {p : Nat} {x1 x2 : Tx} (h : KO w v o B n cs p x1 x2 W) (ob : Obj) : KO w v o B n cs p x1 x2 (W.alloc ob) := h.on ((Below.refl _ W).alloc (Nat.le_refl _) ob)
theorem KO.drew {w W : World} {v o : Value} {B n : Nat} {cs : List Value} {p : Nat} {x1 x2 : Tx} (h : KO w v o B n cs p x1 x2 W) : KO w v o B n cs p x1 x2 W.drew := h.on (Below.refl _ W).drew
theorem clone_kept {w W : World} {v o : Value} {B n : Nat} {cs : List Value} {p : Nat} {x1 x2 : Tx} (x : Tx) (hs : x.length ≤ 281474976710656) (h : KO w v o B n cs p x1 x2 W) :
    Calls Try.prog 18 #[.string ⟨x.toArray⟩] W fun e W' => e = .returned (.string ⟨x.toArray⟩) ∧ KO w v o B n cs p x1 x2 W' :=
  (clone_any x W hs).mono fun _ _ ⟨he, hb⟩ => ⟨he, h.on hb⟩

theorem KO.after {w W W' : World} {v o : Value} {B n : Nat} {cs : List Value} {p : Nat} {x1 x2 : Tx} {g m cp : Nat} (hg : W.grownBy W' o.ownBlock) (hat : o.ownBlock = some g ∨ g = W.heap.size) (h : KO w v o B n cs p x1 x2 W) :
    (W'.cell? ⟨p, 0, none⟩ = some (.string ⟨x1.toArray⟩) ∧ W'.cell? ⟨p, 1, none⟩ = some (.string ⟨x2.toArray⟩)) ∧ Adds w W' v (.slice (some ⟨g, 0, none⟩) m cp) := by
  refine ⟨⟨(hg.cell_far ⟨p, 0, none⟩ h.lt h.ne).trans h.c1, (hg.cell_far ⟨p, 1, none⟩ h.lt h.ne).trans h.c2⟩, h.add.step hg ?_⟩
  rcases hat with h | h
  · exact Or.inl h.symm
  · exact Or.inr ⟨g, rfl, by omega⟩

theorem two_one (x1 x2 : Tx) : ∀ u ∈ [Value.string ⟨x1.toArray⟩, Value.string ⟨x2.toArray⟩], u.oneCell' = true := by
  intro u hu
  simp at hu
  rcases hu with rfl | rfl <;> rfl

set_option maxHeartbeats 4000000 in
theorem add_any (B : Nat) (v u : Value) (xs ys : List En) (w : World) (hB : B ≤ w.heap.size) (hown : w.ownsRow B 35 2 v xs.length (cellsE xs)) (hu : TreeAt w u ys)
    (hap : ys ≠ [] → ∀ b o l c, u = .slice (some ⟨b, o, none⟩) l c → some b ≠ v.ownBlock) (hl : xs.length + ys.length ≤ 1048576) (hf : Fit ys) :
    Calls Try.prog 21 #[v, u] w fun e w' => ∃ v', e = .returned v' ∧ w'.ownsRow B 35 2 v' (xs ++ ys).length (cellsE (xs ++ ys)) ∧ Adds w w' v v' := by
  obtain ⟨i0, hi, hz0, hz1, hz2⟩ := info_parts Try.info35
  by_cases hne : ys = []
  · subst hne
    obtain ⟨ao, cap, rfl⟩ := hu.shape
    have HO := hidden hown
    clear hu hap hown
    go_enter Try.func21, Try.ntmps21
    go_wp2
    refine wp_loop_rounds 1 ?_
    rw [rounds_succ]
    go_wp2
    go_ret
    exact ⟨_, rfl, by rw [List.append_nil]; exact HO.out, Adds.refl _ _⟩
  · obtain ⟨b, o, cap, rfl, hcap, hb, hc⟩ := hu.cells hne
    have HC := hidden hc
    have HAP := hidden (hap hne b o _ _ rfl)
    have HF := hidden hf
    have HO := hidden hown
    clear hu hc hne hap hf hown
    go_enter Try.func21, Try.ntmps21
    go_wp2
    go_loopw [0, 9] (fun q i wr => ∃ (k : Nat) (r : Value), k ≤ ys.length ∧ i = .int .i64 k ∧ q = r ∧ Hid (wr.ownsRow B 35 2 r (xs.length + k) (cellsE (xs ++ ys.take k)) ∧ Adds w wr v r))
      (fun _ i _ => ys.length - (intOf i).toNat)
    case atStart => exact ⟨0, v, Nat.zero_le _, rfl, rfl, by rw [List.take_zero, List.append_nil]; exact HO.out, Adds.refl _ _⟩
    case round =>
      obtain ⟨k, r, hk, rfl, rfl, hrow⟩ := hrel
      by_cases hlt : k < ys.length
      · obtain ⟨x1, x2, hx⟩ := at_some hlt
        have hbr : b < wr.heap.size := Nat.lt_of_lt_of_le hb hrow.out.2.1.size
        have hc1 : wr.cell? ⟨b, o + k * 2, none⟩ = some (.string ⟨x1.toArray⟩) := (hrow.out.2.1.cell_far ⟨b, o + k * 2, none⟩ hb HAP.out).trans (HC.out k _ hx).1
        have hc2 : wr.cell? ⟨b, o + k * 2 + 1, none⟩ = some (.string ⟨x2.toArray⟩) := (hrow.out.2.1.cell_far ⟨b, o + k * 2 + 1, none⟩ hb HAP.out).trans (HC.out k _ hx).2
        have hfit := HF.out _ (List.mem_of_getElem? hx)
        have HSN := hidden (take_snoc hx)
        have hBr : B ≤ wr.heap.size := Nat.le_trans hB hrow.out.2.1.size
        have hK : KO w v u0 B (xs.length + k) (cellsE (xs ++ ys.take k)) wr.heap.size x1 x2 (wr.alloc (.cells #[.string ⟨x1.toArray⟩, .string ⟨x2.toArray⟩] 35)) :=
          ⟨hrow.out.1.alloc _, hrow.out.2.later ((Below.refl _ _).alloc (Nat.le_refl _) _), by simp, by simp, by simp, fun e => by have := (hrow.out.1.lt _ e.symm).2; omega, by simp; omega⟩
        clear hx
        go_wp2_with fail
        go_region_held3 (fun X => X.cell? ⟨wr.heap.size, 0, none⟩ = some (.string ⟨x1.toArray⟩) ∧ X.cell? ⟨wr.heap.size, 1, none⟩ = some (.string ⟨x2.toArray⟩))
          (first | exact ⟨KO.c1 (by assumption), KO.c2 (by assumption)⟩ | exact ⟨KO.c1 (KO.drew (by assumption)), KO.c2 (KO.drew (by assumption))⟩ | exact ⟨KO.c1 (KO.alloc (by assumption) _), KO.c2 (KO.alloc (by assumption) _)⟩ | assumption)
          (first
            | (go_at_call 18; refine (clone_kept (w := w) (v := v) (o := u0) (B := B) (n := xs.length + k) (cs := cellsE (xs ++ ys.take k)) (p := wr.heap.size) (x1 := x1) (x2 := x2) _ ?_ ?_).mono ?_; (· first | exact hfit.1 | exact hfit.2); (· repeat (first | assumption | apply KO.drew | apply KO.alloc)); rintro e w2 ⟨rfl, hK2⟩)
            | (refine step_append_lies _ rfl (.tmp 13) (.tmp 21) 22 rfl B 35 i0 (.agg #[.string ⟨#[]⟩, .string ⟨#[]⟩]) 2 32 Try.underlying22 hi hz0 hz1 hz2 rfl (by decide) u0 (xs.length + k) (cellsE (xs ++ ys.take k)) rfl (KO.own (w := w) (v := v) (p := wr.heap.size) (x1 := x1) (x2 := x2) (by repeat (first | assumption | apply KO.drew | apply KO.alloc))) ⟨_, 0, none⟩ 1 1 [.string ⟨x1.toArray⟩, .string ⟨x2.toArray⟩] rfl rfl (cell_two_new _ _ _ _) (two_one x1 x2) (by decide) (by unfold maxLen; omega) (by omega) (KO.low (w := w) (v := v) (o := u0) (n := xs.length + k) (cs := cellsE (xs ++ ys.take k)) (p := wr.heap.size) (x1 := x1) (x2 := x2) (by repeat (first | assumption | apply KO.drew | apply KO.alloc))) _ rfl ?_; intro g cp w4 hown4 hgrow4 hat4 hlt4; obtain ⟨hS4, hA4⟩ := KO.after (m := xs.length + k + 1) (cp := cp) hgrow4 hat4 (show KO w v u0 B (xs.length + k) (cellsE (xs ++ ys.take k)) wr.heap.size x1 x2 _ from by repeat (first | assumption | apply KO.drew | apply KO.alloc))))
        all_goals
          have HN := hidden (show w4.ownsRow B 35 2 (.slice (some ⟨g, 0, none⟩) (xs.length + k + 1) cp) (xs.length + (k + 1)) (cellsE (xs ++ ys.take (k + 1))) ∧ Adds w w4 v (.slice (some ⟨g, 0, none⟩) (xs.length + k + 1) cp) from by
            refine ⟨?_, hA4⟩
            rw [HSN.out, ← List.append_assoc, cellsE_app, ← Nat.add_assoc]
            exact hown4)
          clear hown4 hgrow4 hat4 hA4 hK hS4
          go_wp2_with fail
          go_roundw
          case rel => exact ⟨k + 1, _, by omega, by go_num, rfl, HN.out⟩
          case measure => simp [intOf]; omega
      · have HN := hidden (show wr.ownsRow B 35 2 u0 (xs ++ ys).length (cellsE (xs ++ ys)) from by
          have := hrow.out.1
          rw [List.take_of_length_le (by omega)] at this
          rw [List.length_append, show ys.length = k by omega]
          exact this)
        go_wp2
        go_ret
        exact ⟨_, rfl, HN.out, hrow.out.2⟩

end Go.Proofs.Ytehhpjgbffcocaa
