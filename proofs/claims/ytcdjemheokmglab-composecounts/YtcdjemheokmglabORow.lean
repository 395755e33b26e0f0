
/-
  Lists of texts in memory, whether two are one (the document's SameTexts), and what an append to a list of one's own does; conditions: the lists' lengths.
-/
import Derived.Test.YtcdjemheokmglabOTop
namespace Go.Proofs.Ytcdjemheokmglab
open Go.RowKit Go.Proofs.Ytcdjemheokmglab.Ln Go.Proofs.Ytcdjemheokmglab.Ol

/-- what is added to a row -/
def Adds (w W : World) (v o : Value) : Prop := w.grownBy W v.ownBlock ∧ (o.ownBlock = v.ownBlock ∨ ∃ k, o.ownBlock = some k ∧ w.heap.size ≤ k)
theorem Adds.refl (w : World) (v : Value) : Adds w w v v := ⟨⟨rfl, rfl, rfl, Nat.le_refl _, fun _ _ _ => rfl⟩, Or.inl rfl⟩
theorem grown_of_below {w W : World} (h : Below w.heap.size w W) (row : Option Nat) : w.grownBy W row := ⟨h.os, h.tape, h.output, h.size, fun k hk _ => h.block k hk⟩
theorem Adds.step {w W W' : World} {v o o' : Value} (h : Adds w W v o) (hg : W.grownBy W' o.ownBlock) (ho : o'.ownBlock = o.ownBlock ∨ ∃ k, o'.ownBlock = some k ∧ W.heap.size ≤ k) : Adds w W' v o' := by
  refine ⟨h.1.andThen hg (fun j hj => ?_), ?_⟩
  · rcases h.2 with e | ⟨k, e, hk⟩
    · exact Or.inr (by rw [← e]; exact hj)
    · rw [e] at hj; cases hj; exact Or.inl hk
  · rcases ho with e | ⟨k, e, hk⟩
    · rcases h.2 with e2 | ⟨k, e2, hk⟩
      · exact Or.inl (e.trans e2)
      · exact Or.inr ⟨k, e.trans e2, hk⟩
    · exact Or.inr ⟨k, e, Nat.le_trans h.1.size hk⟩
theorem Adds.later {w W W' : World} {v o : Value} (h : Adds w W v o) (hb : Below W.heap.size W W') : Adds w W' v o := h.step (grown_of_below hb _) (Or.inl rfl)
/-- what 'append' of steps to a row of one's own does -/
theorem run_append_ops (w : World) (ty : TypeId) (B : Nat) (v u : Value) (xs ys : List Oq) (hown : w.ownsRow B 30 3 v xs.length (cellsO xs)) (hu : OpsAt w u ys) (hl : xs.length + ys.length ≤ 4398046511104) (hB : B ≤ w.heap.size) :
    ∃ v' w', (Builtin.append_ #[22, 22] ty #[v, u]).run Try.prog w = .ok v' w' ∧ w'.ownsRow B 30 3 v' (xs ++ ys).length (cellsO (xs ++ ys)) ∧ Adds w w' v v' := by
  obtain ⟨i0, hi, hz0, hz1, hz2⟩ := info_parts Try.infoOp
  have key : ∀ ad c, u = .slice (some ad) ys.length c → (∀ j z, (cellsO ys)[j]? = some z → w.cell? (ad.add j) = some z) → ∃ v' w', (Builtin.append_ #[22, 22] ty #[v, u]).run Try.prog w = .ok v' w' ∧ w'.ownsRow B 30 3 v' (xs ++ ys).length (cellsO (xs ++ ys)) ∧ Adds w w' v v' := by
    rintro ad c rfl hcell
    obtain ⟨v', w', hr, h2, h3, _, h5⟩ := run_append_own_at (P := Try.prog) w B 22 ty 30 i0 (.agg #[.int .i64 0, .int .i64 0, .string ⟨#[]⟩]) 3 32 Try.underlying22 hi hz0 hz1 hz2 rfl (by decide) v xs.length (cellsO xs) hown ad ys.length c (cellsO ys) (cellsO_len ys) hcell (cellsO_one ys) (by unfold maxLen; omega) (by omega) hB
    refine ⟨v', w', hr, by rw [List.length_append, cellsO_app]; exact h2, (Adds.refl w v).step h3 ?_⟩
    rcases h5 with h5 | h5
    · exact Or.inl h5
    · exact Or.inr ⟨_, h5, Nat.le_refl _⟩
  rcases hu with ⟨rfl, ao, cap, rfl, h0⟩ | ⟨b, o, cap, rfl, hcap, hb, hc⟩
  · cases ao with
    | none =>
      obtain rfl := h0 rfl
      exact ⟨v, w, run_append_owned_none (P := Try.prog) (w := w) B 22 ty 30 i0 3 Try.underlying22 hi v _ _ hown, by rw [List.append_nil]; exact hown, Adds.refl w v⟩
    | some ad => exact key ad cap rfl (fun j z hj => by simp [cellsO] at hj)
  · refine key ⟨b, o, none⟩ cap rfl (cellsO_of ys (fun j z => w.cell? ((⟨b, o, none⟩ : Addr).add j) = some z) fun j e he => ?_)
    rw [addr_add, addr_add, addr_add, ← Nat.add_assoc, ← Nat.add_assoc]
    exact hc j e he
theorem wp_append_ops (w : World) {o : Oper} {a : Act} {K : Act → World → Prop} {Q : Exit → Act → World → Prop} (s x : Operand)
    (ho : o.op = .call { callee := .builtin .append, args := #[s, x], argTypes := #[22, 22] }) (B : Nat) (v u : Value) (xs ys : List Oq) (hs : a.eval s = v) (hx : a.eval x = u)
    (hown : w.ownsRow B 30 3 v xs.length (cellsO xs)) (hu : OpsAt w u ys) (hl : xs.length + ys.length ≤ 4398046511104) (hB : B ≤ w.heap.size)
    (h : ∀ v' w', w'.ownsRow B 30 3 v' (xs ++ ys).length (cellsO (xs ++ ys)) → Adds w w' v v' → K (a.put o.dst v') w') : o.wp Try.prog a w K Q := by
  obtain ⟨v', w', hr, h2, h3⟩ := run_append_ops w o.type B v u xs ys hown hu hl hB
  unfold Oper.wp execOp
  simp only [ho, resolve, invoke, builtin, Sem.run_bind, Sem.run_pure, Result.andThen_ok, List.map_toArray, List.map_cons, List.map_nil, hs, hx, hr]
  exact h v' w' h2 h3
theorem wpList_append_ops (w : World) {ops : Array Oper} {rest : List Oper} {o : Oper} {a : Act} {Q : Exit → Act → World → Prop} (hw : Region.wanted o (yielded ops a.tmps) = true) (s x : Operand)
    (ho : o.op = .call { callee := .builtin .append, args := #[s, x], argTypes := #[22, 22] }) (B : Nat) (v u : Value) (xs ys : List Oq) (hs : a.eval s = v) (hx : a.eval x = u)
    (hown : w.ownsRow B 30 3 v xs.length (cellsO xs)) (hu : OpsAt w u ys) (hl : xs.length + ys.length ≤ 4398046511104) (hB : B ≤ w.heap.size)
    (h : ∀ v' w', w'.ownsRow B 30 3 v' (xs ++ ys).length (cellsO (xs ++ ys)) → Adds w w' v v' → wpList Try.prog ops Q rest (a.put o.dst v') w') : wpList Try.prog ops Q (o :: rest) a w :=
  BigFrame.wpList_want hw fun _ hK => wp_append_ops w s x ho B v u xs ys hs hx hown hu hl hB fun v' w' h2 h3 => hK _ _ (h v' w' h2 h3)
theorem step_append_ops (w : World) {ops : Array Oper} {o : Oper} {a : Act} {K : Act → World → Prop} {Q : Exit → Act → World → Prop} {E : Prop} (hw : Region.wanted o (yielded ops a.tmps) = true) (s x : Operand)
    (ho : o.op = .call { callee := .builtin .append, args := #[s, x], argTypes := #[22, 22] }) (B : Nat) (v u : Value) (xs ys : List Oq) (hs : a.eval s = v) (hx : a.eval x = u)
    (hown : w.ownsRow B 30 3 v xs.length (cellsO xs)) (hu : OpsAt w u ys) (hl : xs.length + ys.length ≤ 4398046511104) (hB : B ≤ w.heap.size)
    (h : ∀ v' w', w'.ownsRow B 30 3 v' (xs ++ ys).length (cellsO (xs ++ ys)) → Adds w w' v v' → K (a.put o.dst v') w') : if Region.wanted o (yielded ops a.tmps) = true then Oper.wp Try.prog o a w K Q else E := by
  rw [if_pos hw]
  exact wp_append_ops w s x ho B v u xs ys hs hx hown hu hl hB h
theorem ops_one (w : World) (x1 x2 : Int) (x3 : Tx) : OpsAt (w.alloc (opO x1 x2 x3)) (.slice (some ⟨w.heap.size, 0, none⟩) 1 1) [(x1, x2, x3)] := by
  refine Or.inr ⟨w.heap.size, 0, 1, rfl, Nat.le_refl _, by simp, fun j e he => ?_⟩
  cases j with
  | zero => simp at he; subst he; refine ⟨?_, ?_, ?_⟩ <;> simp [S]
  | succ j => simp at he
theorem ops_oneAt (w : World) (x1 x2 : Int) (x3 : Tx) (n : Nat) (hn : w.heap.size = n) : OpsAt (w.alloc (opO x1 x2 x3)) (.slice (some ⟨n, 0, none⟩) 1 1) [(x1, x2, x3)] := hn ▸ ops_one w x1 x2 x3
theorem owns_form {W : World} {B : Nat} {v : Value} {l : List Oq} (h : W.ownsRow B 30 3 v l.length (cellsO l)) : (v = .slice none 0 0 ∧ l = []) ∨ ∃ g cp, v = .slice (some ⟨g, 0, none⟩) l.length cp ∧ l.length ≤ cp ∧ B ≤ g ∧ g < W.heap.size := by
  rcases h.2 with ⟨e, h0⟩ | ⟨g', cap, cur, hv, hB, hg, hc, _⟩
  · exact Or.inl ⟨e, List.eq_nil_of_length_eq_zero h0⟩
  · exact Or.inr ⟨g', cap, hv, hc, hB, (Array.getElem?_eq_some_iff.1 hg).1⟩
/-- an empty head of a row -/
theorem owns_zero {W : World} {B g n cap : Nat} {cs : List Value} (h : W.ownsRow B 30 3 (.slice (some ⟨g, 0, none⟩) n cap) n cs) : W.ownsRow B 30 3 (.slice (some ⟨g, 0, none⟩) 0 cap) ([] : List Oq).length (cellsO []) := by
  rcases h.2 with ⟨e, _⟩ | ⟨g', cap', cur, hv, hB, hg, hc, hm, hs, ht⟩
  · cases e
  · cases hv
    exact ⟨rfl, Or.inr ⟨g, cap, cur, rfl, hB, hg, Nat.zero_le _, hm, hs, by simp [cellsO]⟩⟩
theorem cellsO_set (xs : List Oq) (y : Oq) (z : Int) : (cellsO (xs ++ [y])).set (xs.length * 3 + 1) (Z z) = cellsO (xs ++ [(y.1, z, y.2.2)]) := by
  rw [cellsO_app, cellsO_app, ← cellsO_len]
  rw [List.set_append_right _ _ (by omega)]
  simp [cellsO]
/-- a number of the last step of a row is turned -/
theorem owns_set {W : World} {B g cap : Nat} {xs : List Oq} {y : Oq} (z : Int) (h : W.ownsRow B 30 3 (.slice (some ⟨g, 0, none⟩) (xs.length + 1) cap) (xs.length + 1) (cellsO (xs ++ [y]))) :
    (W.setCell ⟨g, xs.length * 3 + 1, none⟩ (.int .i64 z)).ownsRow B 30 3 (.slice (some ⟨g, 0, none⟩) (xs.length + 1) cap) (xs.length + 1) (cellsO (xs ++ [(y.1, z, y.2.2)])) := by
  rcases h.2 with ⟨e, _⟩ | ⟨g', cap', cur, hv, hB, hg, hc, hm, hs, ht⟩
  · cases e
  · cases hv
    refine ⟨by rw [cellsO_len]; simp, Or.inr ⟨g, cap, cur.setIfInBounds (xs.length * 3 + 1) (.int .i64 z), rfl, hB, ?_, hc, hm, by simpa using hs, ?_⟩⟩
    · simp [World.setCell, Array.getElem?_modify, hg]
    · rw [← cellsO_set, ← ht, Array.toList_setIfInBounds, List.take_set]

theorem grown_set (W : World) (g i : Nat) (u : Value) : W.grownBy (W.setCell ⟨g, i, none⟩ u) (some g) :=
  ⟨rfl, rfl, rfl, by simp [World.setCell], fun k _ hk => Below.heap_setCell W ⟨g, i, none⟩ u k (fun e => hk (by rw [e]))⟩
theorem stay_app {xs : List Oq} {x : Oq} (h : ∀ y, xs.getLast? = some y → ¬ (x.1 = 1 ∧ y.1 = 1)) : stay xs x = xs ++ [x] := by
  unfold stay
  cases hl : xs.getLast? with
  | none => rfl
  | some y => simp only [if_neg (h y hl)]
theorem stay_in (o : List Oq) {y x : Oq} (h1 : x.1 = 1) (h2 : y.1 = 1) : stay (o ++ [y]) x = o ++ [(y.1, y.2.1 + x.2.1, y.2.2)] := by
  unfold stay
  rw [List.getLast?_concat]
  simp [h1, h2]
theorem owns_op {W : World} {B g n cp : Nat} {l : List Oq} (h : W.ownsRow B 30 3 (.slice (some ⟨g, 0, none⟩) n cp) n (cellsO l)) {j : Nat} {e : Oq} (he : l[j]? = some e) :
    W.cell? ⟨g, j * 3, none⟩ = some (.int .i64 e.1) ∧ W.cell? ⟨g, j * 3 + 1, none⟩ = some (.int .i64 e.2.1) ∧ W.cell? ⟨g, j * 3 + 2, none⟩ = some (.string ⟨e.2.2.toArray⟩) := by
  obtain ⟨c1, c2, c3⟩ := cellsO_at l j e he
  have d1 := h.cells (g := g) rfl (j * 3) _ c1
  have d2 := h.cells (g := g) rfl (j * 3 + 1) _ c2
  have d3 := h.cells (g := g) rfl (j * 3 + 2) _ c3
  rw [addr_add, Nat.zero_add] at d1 d2 d3
  exact ⟨d1, d2, d3⟩
theorem owns_thaw {W : World} {B g n cp : Nat} {cs : List Value} (h : W.ownsRow B 30 3 (.slice (some ⟨g, 0, none⟩) n cp) n cs) (i : Nat) : W.frozen? ⟨g, i, none⟩ = false := by
  rcases h.2 with ⟨e, _⟩ | ⟨g', cap', cur, hv, hB, hg, _⟩
  · cases e
  · cases hv; simp [World.frozen?, hg]

set_option maxHeartbeats 4000000 in
theorem addStay_any (B : Nat) (v : Value) (xs : List Oq) (x1 x2 : Int) (x3 : Tx) (w : World) (hB : B ≤ w.heap.size) (hown : w.ownsRow B 30 3 v xs.length (cellsO xs)) (hl : xs.length < 4398046511104)
    (hfit : x1 = 1 → ∀ y, xs.getLast? = some y → y.1 = 1 → 0 ≤ y.2.1 ∧ 0 ≤ x2 ∧ y.2.1 + x2 ≤ 2147483648) :
    Calls Try.prog 29 #[v, .agg #[.int .i64 x1, .int .i64 x2, .string ⟨x3.toArray⟩]] w fun e w' => ∃ v', e = .returned v' ∧ w'.ownsRow B 30 3 v' (stay xs (x1, x2, x3)).length (cellsO (stay xs (x1, x2, x3))) ∧ Adds w w' v v' := by
  have HO := hidden hown
  have HFI := hidden hfit
  have HAL := hidden (Adds.refl w v)
  clear hown hfit
  -- how the append goes
  have key : ∀ (hs : stay xs (x1, x2, x3) = xs ++ [(x1, x2, x3)]) (v' : Value) (w' : World), w'.ownsRow B 30 3 v' (xs ++ [(x1, x2, x3)]).length (cellsO (xs ++ [(x1, x2, x3)])) → Adds ((w.alloc (opO x1 x2 x3)).alloc (opO x1 x2 x3)) w' v v' → w'.ownsRow B 30 3 v' (stay xs (x1, x2, x3)).length (cellsO (stay xs (x1, x2, x3))) ∧ Adds w w' v v' := fun hs v' w' h1 h2 => by
    rw [hs]
    refine ⟨h1, ?_⟩
    have h3 : Adds w ((w.alloc (opO x1 x2 x3)).alloc (opO x1 x2 x3)) v v := HAL.out.later (((Below.refl _ w).alloc (Nat.le_refl _) _).alloc (by simp) _)
    refine h3.step h2.1 ?_
    exact h2.2
  have KEY := hidden key
  clear key
  by_cases h1 : x1 = 1
  · subst h1
    rcases List.eq_nil_or_concat xs with rfl | ⟨o, y, rfl⟩
    · have HK := hidden (KEY.out (stay_app (by simp)))
      obtain ⟨ao, cp, rfl⟩ : ∃ ao cp, v = .slice ao 0 cp := by
        rcases owns_form HO.out with ⟨rfl, _⟩ | ⟨g, cp, rfl, _⟩
        · exact ⟨none, 0, rfl⟩
        · exact ⟨_, cp, rfl⟩
      go_enter Try.func29, Try.ntmps29
      go_wp2_with (at_builtin; go_must (refine wpList_append_ops _ (by go_simp) (.tmp 35) (.tmp 37) rfl B (.slice ao 0 cp) (.slice (some ⟨w.heap.size + 1, 0, none⟩) 1 1) [] [(1, x2, x3)] rfl rfl ((HO.out.alloc _).alloc _) (ops_oneAt _ _ _ _ _ (by simp)) (by simp; try omega) (by simp; omega) ?_; intro v9 w9 hown9 hadd9))
      go_ret
      exact ⟨_, rfl, HK.out _ _ hown9 hadd9⟩
    · rw [List.concat_eq_append] at *
      rcases owns_form HO.out with ⟨_, e⟩ | ⟨g, cp, rfl, hcp, hgB, hgl⟩
      · simp at e
      · obtain ⟨y1, y2, y3⟩ := y
        have hlen : (o ++ [(y1, y2, y3)]).length = o.length + 1 := by simp
        rw [hlen] at HO hcp hl ⊢
        obtain ⟨q1, q2, q3⟩ := owns_op HO.out (show (o ++ [(y1, y2, y3)])[o.length]? = some (y1, y2, y3) by simp)
        simp only at q1 q2 q3
        have qf := owns_thaw HO.out (o.length * 3 + 1)
        have hn1 : wrap64 ((o.length : Int) + 1 - 1) = o.length := by unfold wrap64; omega
        have hn2 : (o.length : Int) < (o.length : Int) + 1 := by omega
        have hn3 : (0 : Int) ≤ o.length := by omega
        have hn4 : wrap64 (o.length : Int) = o.length := by unfold wrap64; omega
        by_cases h2 : y1 = 1
        · subst h2
          obtain ⟨f1, f2, f3⟩ := HFI.out rfl (1, y2, y3) (by simp) rfl
          simp only at f1 f2 f3
          have hwr : wrap64 (y2 + x2) = y2 + x2 := by unfold wrap64; omega
          have HS := hidden (stay_in o (y := (1, y2, y3)) (x := (1, x2, x3)) rfl rfl)
          have hgn : g ≠ w.heap.size := by omega
          go_enter Try.func29, Try.ntmps29
          go_wp2_with fail
          go_region
          go_wp2_with fail
          go_ret
          refine ⟨_, rfl, ?_, ?_⟩
          · rw [HS.out]
            have h9 := owns_later ((owns_set (y2 + x2) HO.out).alloc (opO 1 x2 x3)) (Below.refl _ _).drew
            rw [List.length_append]
            exact h9
          · exact ((HAL.out.step (grown_set w g _ _) (Or.inl rfl)).later ((Below.refl _ _).alloc (Nat.le_refl _) _)).later (Below.refl _ _).drew
        · have h2b : (y1 == 1) = false := by simpa using h2
          have HK := hidden (KEY.out (stay_app (fun z hz => by simp at hz; subst hz; exact fun e => h2 e.2)))
          go_enter Try.func29, Try.ntmps29
          go_wp2_with (at_builtin; go_must (refine wpList_append_ops _ (by go_simp) (.tmp 35) (.tmp 37) rfl B (.slice (some ⟨g, 0, none⟩) (o.length + 1) cp) (.slice (some ⟨w.heap.size + 1, 0, none⟩) 1 1) (o ++ [(y1, y2, y3)]) [(1, x2, x3)] rfl rfl (by rw [List.length_append]; exact ((HO.out.alloc _).alloc _)) (ops_oneAt _ _ _ _ _ (by simp)) (by simp; try omega) (by simp; omega) ?_; intro v9 w9 hown9 hadd9))
          go_ret
          exact ⟨_, rfl, HK.out _ _ hown9 hadd9⟩
  · have h1b : (x1 == 1) = false := by simpa using h1
    have HK := hidden (KEY.out (stay_app (fun z hz e => h1 e.1)))
    obtain ⟨ao, n, cp, rfl, hn⟩ : ∃ ao n cp, v = .slice ao n cp ∧ n = xs.length := by
      rcases owns_form HO.out with ⟨rfl, rfl⟩ | ⟨g, cp, rfl, _⟩
      · exact ⟨none, 0, 0, rfl, rfl⟩
      · exact ⟨_, _, cp, rfl, rfl⟩
    have hnl : n < 4398046511104 := by omega
    clear hn
    go_enter Try.func29, Try.ntmps29
    go_wp2_with (at_builtin; go_must (refine wpList_append_ops _ (by go_simp) (.tmp 35) (.tmp 37) rfl B (.slice ao n cp) (.slice (some ⟨w.heap.size + 1, 0, none⟩) 1 1) xs [(x1, x2, x3)] rfl rfl ((HO.out.alloc _).alloc _) (ops_oneAt _ _ _ _ _ (by simp)) (by simp; try omega) (by simp; omega) ?_; intro v9 w9 hown9 hadd9))
    go_ret
    exact ⟨_, rfl, HK.out _ _ hown9 hadd9⟩

end Go.Proofs.Ytcdjemheokmglab

namespace Go.Proofs.Ytcdjemheokmglab
open Go.RowKit Go.Proofs.Ytcdjemheokmglab.Ln Go.Proofs.Ytcdjemheokmglab.Ol

/-- a list of texts lies in memory -/
def RowAt (w : World) (v : Value) (xs : List Tx) : Prop :=
  (xs = [] ∧ ∃ ao cap, v = .slice ao 0 cap ∧ (ao = none → cap = 0)) ∨ ∃ b o cap, v = .slice (some ⟨b, o, none⟩) xs.length cap ∧ xs.length ≤ cap ∧ b < w.heap.size ∧ ∀ (j : Nat) x, xs[j]? = some x → w.cell? ⟨b, o + j, none⟩ = some (S x)
theorem RowAt.nil (w : World) (ao : Option Addr) (cap : Nat) (h : ao = none → cap = 0 := by (intro h; first | rfl | cases h)) : RowAt w (.slice ao 0 cap) [] := Or.inl ⟨rfl, ao, cap, rfl, h⟩
theorem RowAt.later {w w' : World} {v : Value} {xs : List Tx} (h : RowAt w v xs) (hb : Below w.heap.size w w') : RowAt w' v xs := by
  rcases h with h | ⟨b, o, cap, h1, h2, h3, h4⟩
  · exact Or.inl h
  · refine Or.inr ⟨b, o, cap, h1, h2, Nat.lt_of_lt_of_le h3 hb.size, fun j x hx => ?_⟩
    rw [hb.cell (p := ⟨b, o + j, none⟩) h3]
    exact h4 j x hx
theorem RowAt.of_owns {w : World} {B n : Nat} {v : Value} {xs : List Tx} (h : w.ownsRow B 9 1 v n (xs.map S)) : RowAt w v xs := by
  have hn : xs.length = n := by simpa using h.1
  rcases h.2 with ⟨rfl, h0⟩ | ⟨g, cap, cur, hv, hB, hg, hc, hm, hs, ht⟩
  · exact Or.inl ⟨List.eq_nil_of_length_eq_zero (by omega), none, 0, rfl, fun _ => rfl⟩
  · refine Or.inr ⟨g, 0, cap, by rw [hn]; exact hv, by omega, (Array.getElem?_eq_some_iff.1 hg).1, fun j x hx => ?_⟩
    have := h.cells (g := g) (by rw [hv]; rfl) j (S x) (by simp [hx])
    rw [addr_add] at this
    exact this
theorem RowAt.shape {w : World} {v : Value} {xs : List Tx} (h : RowAt w v xs) : ∃ ao cap, v = .slice ao xs.length cap := by
  rcases h with ⟨rfl, ao, cap, rfl, _⟩ | ⟨b, o, cap, rfl, _⟩
  · exact ⟨ao, cap, rfl⟩
  · exact ⟨_, cap, rfl⟩
theorem RowAt.cells {w : World} {v : Value} {xs : List Tx} (h : RowAt w v xs) (hne : xs ≠ []) : ∃ b o cap, v = .slice (some ⟨b, o, none⟩) xs.length cap ∧ xs.length ≤ cap ∧ b < w.heap.size ∧ ∀ (j : Nat) x, xs[j]? = some x → w.cell? ⟨b, o + j, none⟩ = some (S x) := by
  rcases h with ⟨rfl, _⟩ | h
  · exact absurd rfl hne
  · exact h
/-- texts are not too long -/
def FitT (xs : List Tx) : Prop := ∀ x ∈ xs, x.length ≤ 140737488355328
/-- the head of a list, and the rest -/
theorem RowAt.head {w : World} {b o n cap k : Nat} {xs : List Tx} (h : RowAt w (.slice (some ⟨b, o, none⟩) n cap) xs) (hn : n = xs.length) (hk : k ≤ n) : RowAt w (.slice (some ⟨b, o, none⟩) k cap) (xs.take k) := by
  subst hn
  rcases h with ⟨rfl, ao, c, e, _⟩ | ⟨b', o', cap', e, h2, h3, h4⟩
  · cases e
    obtain rfl : k = 0 := by simpa using hk
    exact RowAt.nil _ _ _
  · cases e
    by_cases h0 : k = 0
    · subst h0; exact RowAt.nil _ _ _
    · refine Or.inr ⟨b, o, cap, by rw [List.length_take, Nat.min_eq_left hk], by rw [List.length_take]; omega, h3, fun j x hx => ?_⟩
      rw [List.getElem?_take] at hx
      split at hx
      · exact h4 j x hx
      · cases hx
theorem RowAt.rest {w : World} {b o n cap k : Nat} {xs : List Tx} (h : RowAt w (.slice (some ⟨b, o, none⟩) n cap) xs) (hn : n = xs.length) (hk : k ≤ n) : RowAt w (.slice (some ⟨b, o + k, none⟩) (n - k) (cap - k)) (xs.drop k) := by
  subst hn
  by_cases h0 : xs.length - k = 0
  · rw [h0, List.drop_of_length_le (by omega)]; exact RowAt.nil _ _ _
  · rcases h with ⟨rfl, _⟩ | ⟨b', o', cap', e, h2, h3, h4⟩
    · simp at h0
    · cases e
      refine Or.inr ⟨b, o + k, cap - k, by rw [List.length_drop], by rw [List.length_drop]; omega, h3, fun j x hx => ?_⟩
      rw [List.getElem?_drop] at hx
      have := h4 (k + j) x hx
      rw [← Nat.add_assoc] at this
      exact this
theorem one_new (w : World) (u : Value) (t : TypeId) (n : Nat) (hn : w.heap.size = n) : ∀ j z, [u][j]? = some z → (w.alloc (.cells #[u] t)).cell? ((⟨n, 0, none⟩ : Addr).add j) = some z := by
  intro j z hj
  subst hn
  match j, hj with
  | 0, hj => simp at hj; subst hj; simp [Addr.add]
  | (j + 1), hj => simp at hj
theorem row_one (w : World) (x : Tx) (n : Nat) (hn : w.heap.size = n) : RowAt (w.alloc (.cells #[.string ⟨x.toArray⟩] 9)) (.slice (some ⟨n, 0, none⟩) 1 1) [x] := by
  subst hn
  refine Or.inr ⟨w.heap.size, 0, 1, rfl, Nat.le_refl _, by simp, fun j e he => ?_⟩
  cases j with
  | zero => simp at he; subst he; simp [S]
  | succ j => simp at he

/-- what stays below stays, where a row of one's own is added to -/
theorem adds_bel {w W W' : World} {B : Nat} {v v' : Value} {e : TypeId} {size n : Nat} {cs : List Value} (hbl : Below B w W) (hs : B ≤ W.heap.size) (ho : W.ownsRow B e size v n cs) (h : Adds W W' v v') : Below B w W' :=
  hbl.trans ⟨h.1.os, h.1.tape, h.1.output, h.1.size, fun k hk => h.1.block k (by omega) (fun e => by have := (ho.lt k e.symm).1; omega)⟩

end Go.Proofs.Ytcdjemheokmglab
