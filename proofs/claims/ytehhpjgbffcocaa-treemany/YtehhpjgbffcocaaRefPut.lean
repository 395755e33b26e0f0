/-
  What the document's own PutEntry and Cut answer at any tree that lies in memory: the tree with one put in, and without the first of a name, in new memory; condition: the tree's length.
-/
import Derived.Test.YtehhpjgbffcocaaPut
import Derived.Laws.AppendOwnNone
namespace Go.Proofs.Ytehhpjgbffcocaa
open Go.RowKit Go.Proofs.Ytehhpjgbffcocaa.Tr

/-- what 'append' of a tree to a list of the call's own does -/
theorem run_append_tree (w : World) (ty : TypeId) (B : Nat) (v u : Value) (xs ys : List En) (hown : w.ownsRow B 35 2 v xs.length (cellsE xs)) (hu : TreeAt w u ys) (hl : xs.length + ys.length ≤ 1048576) (hB : B ≤ w.heap.size) :
    ∃ v' w', (Builtin.append_ #[22, 22] ty #[v, u]).run Try.prog w = .ok v' w' ∧ w'.ownsRow B 35 2 v' (xs ++ ys).length (cellsE (xs ++ ys)) ∧ Adds w w' v v' := by
  obtain ⟨i0, hi, hz0, hz1, hz2⟩ := info_parts Try.info35
  have key : ∀ ad c, u = .slice (some ad) ys.length c → (∀ j z, (cellsE ys)[j]? = some z → w.cell? (ad.add j) = some z) → ∃ v' w', (Builtin.append_ #[22, 22] ty #[v, u]).run Try.prog w = .ok v' w' ∧ w'.ownsRow B 35 2 v' (xs ++ ys).length (cellsE (xs ++ ys)) ∧ Adds w w' v v' := by
    rintro ad c rfl hcell
    obtain ⟨v', w', hr, h2, h3, _, h5⟩ := run_append_own_at (P := Try.prog) w B 22 ty 35 i0 (.agg #[.string ⟨#[]⟩, .string ⟨#[]⟩]) 2 32 Try.underlying22 hi hz0 hz1 hz2 rfl (by decide) v xs.length (cellsE xs) hown ad ys.length c (cellsE ys) (cellsE_len ys) hcell (cellsE_one ys) (by unfold maxLen; omega) (by omega) hB
    refine ⟨v', w', hr, by rw [List.length_append, cellsE_app]; exact h2, (Adds.refl w v).step h3 ?_⟩
    rcases h5 with h5 | h5
    · exact Or.inl h5
    · exact Or.inr ⟨_, h5, Nat.le_refl _⟩
  rcases hu with ⟨rfl, ao, cap, rfl, h0⟩ | ⟨b, o, cap, rfl, hcap, hb, hc⟩
  · cases ao with
    | none =>
      obtain rfl := h0 rfl
      exact ⟨v, w, run_append_owned_none (P := Try.prog) (w := w) B 22 ty 35 i0 2 Try.underlying22 hi v _ _ hown, by rw [List.append_nil]; exact hown, Adds.refl w v⟩
    | some ad => exact key ad cap rfl (fun j z hj => by simp [cellsE] at hj)
  · refine key ⟨b, o, none⟩ cap rfl (cellsE_of ys (fun j z => w.cell? ((⟨b, o, none⟩ : Addr).add j) = some z) fun j e he => ?_)
    rw [addr_add, addr_add, ← Nat.add_assoc]
    exact hc j e he

theorem wp_append_tree (w : World) {o : Oper} {a : Act} {K : Act → World → Prop} {Q : Exit → Act → World → Prop} (s x : Operand)
    (ho : o.op = .call { callee := .builtin .append, args := #[s, x], argTypes := #[22, 22] }) (B : Nat) (v u : Value) (xs ys : List En) (hs : a.eval s = v) (hx : a.eval x = u)
    (hown : w.ownsRow B 35 2 v xs.length (cellsE xs)) (hu : TreeAt w u ys) (hl : xs.length + ys.length ≤ 1048576) (hB : B ≤ w.heap.size)
    (h : ∀ v' w', w'.ownsRow B 35 2 v' (xs ++ ys).length (cellsE (xs ++ ys)) → Adds w w' v v' → K (a.put o.dst v') w') : o.wp Try.prog a w K Q := by
  obtain ⟨v', w', hr, h2, h3⟩ := run_append_tree w o.type B v u xs ys hown hu hl hB
  unfold Oper.wp execOp
  simp only [ho, resolve, invoke, builtin, Sem.run_bind, Sem.run_pure, Result.andThen_ok, List.map_toArray, List.map_cons, List.map_nil, hs, hx, hr]
  exact h v' w' h2 h3
theorem wpList_append_tree (w : World) {ops : Array Oper} {rest : List Oper} {o : Oper} {a : Act} {Q : Exit → Act → World → Prop} (hw : Region.wanted o (yielded ops a.tmps) = true) (s x : Operand)
    (ho : o.op = .call { callee := .builtin .append, args := #[s, x], argTypes := #[22, 22] }) (B : Nat) (v u : Value) (xs ys : List En) (hs : a.eval s = v) (hx : a.eval x = u)
    (hown : w.ownsRow B 35 2 v xs.length (cellsE xs)) (hu : TreeAt w u ys) (hl : xs.length + ys.length ≤ 1048576) (hB : B ≤ w.heap.size)
    (h : ∀ v' w', w'.ownsRow B 35 2 v' (xs ++ ys).length (cellsE (xs ++ ys)) → Adds w w' v v' → wpList Try.prog ops Q rest (a.put o.dst v') w') : wpList Try.prog ops Q (o :: rest) a w :=
  BigFrame.wpList_want hw fun _ hK => wp_append_tree w s x ho B v u xs ys hs hx hown hu hl hB fun v' w' h2 h3 => hK _ _ (h v' w' h2 h3)
theorem step_append_tree (w : World) {ops : Array Oper} {o : Oper} {a : Act} {K : Act → World → Prop} {Q : Exit → Act → World → Prop} {E : Prop} (hw : Region.wanted o (yielded ops a.tmps) = true) (s x : Operand)
    (ho : o.op = .call { callee := .builtin .append, args := #[s, x], argTypes := #[22, 22] }) (B : Nat) (v u : Value) (xs ys : List En) (hs : a.eval s = v) (hx : a.eval x = u)
    (hown : w.ownsRow B 35 2 v xs.length (cellsE xs)) (hu : TreeAt w u ys) (hl : xs.length + ys.length ≤ 1048576) (hB : B ≤ w.heap.size)
    (h : ∀ v' w', w'.ownsRow B 35 2 v' (xs ++ ys).length (cellsE (xs ++ ys)) → Adds w w' v v' → K (a.put o.dst v') w') : if Region.wanted o (yielded ops a.tmps) = true then Oper.wp Try.prog o a w K Q else E := by
  rw [if_pos hw]
  exact wp_append_tree w s x ho B v u xs ys hs hx hown hu hl hB h

set_option maxHeartbeats 2000000 in
theorem refCut_any (v : Value) (xs : List En) (n : Tx) (w : World) (hr : TreeAt w v xs) (hl : xs.length ≤ 1048576) :
    Calls Try.prog 16 #[v, S n] w fun e w' => (∃ v', e = .returned v' ∧ TreeAt w' v' (cutL n xs)) ∧ Below w.heap.size w w' := by
  have HR := hidden hr
  clear hr
  go_enter Try.func16, Try.ntmps16
  go_wp2_with fail
  refine (find_any v xs n w HR.out hl).mono ?_
  rintro e w1 ⟨⟨z, rfl, hz⟩, rfl⟩
  rcases hz with ⟨k, ⟨e1, e2⟩, rfl, hk, he, hno⟩ | ⟨rfl, hno⟩
  · have hlt : k < xs.length := (List.getElem?_eq_some_iff.1 hk).1
    have HP := hidden (show cutL n xs = xs.take k ++ xs.drop (k + 1) by
      conv => lhs; rw [cut_at hk]
      exact cut_hit _ _ _ (take_all (p := fun x => ¬ x.1 = n) hno) he)
    obtain ⟨b, o, cap, rfl, hcap, hbb, hc⟩ := HR.out.cells (fun h => by simp [h] at hk)
    have HT := hidden (show ∀ c, xs.length ≤ c → TreeAt w1 (.slice (some ⟨b, o, none⟩) k c) (xs.take k) from fun c h => tree_take k (by omega) h hbb hc)
    have HD := hidden (tree_drop (k + 1) hcap rfl hbb hc)
    have HLN := hidden (show (xs.take k).length + (xs.drop (k + 1)).length ≤ xs.length by rw [List.length_take, List.length_drop]; omega)
    clear hk hno he HR hc
    have hI0 : (0 : Int) ≤ (k : Int) := by omega
    have hI1 : (k : Int) ≤ (xs.length : Int) := by omega
    have hI2 : (k : Int) + 1 ≤ (xs.length : Int) := by omega
    have hI3 : (k : Int) ≤ (cap : Int) := by omega
    have hI4 : (0 : Int) ≤ (k : Int) + 1 := by omega
    have hI5 : IntKind.i64.wrap ((k : Int) + 1) = (k : Int) + 1 := by rw [IntKind.wrap_i64]; omega
    have hI6 : (xs.length : Int) ≤ (cap : Int) := by omega
    by_cases hcp : k + 1 < cap
    · have hcn1 : ¬ cap = k + 1 := by omega
      have hcn2 : ¬ k + 1 = cap := by omega
      have hcn3 : ¬ cap - (k + 1) = 0 := by omega
      have hcn4 : ¬ cap ≤ k + 1 := by omega
      go_wp2_with fail
      go_region_held3 (fun _ => True) (trivial) (first
        | (refine step_append_tree _ rfl (.const (.slice none 0 0)) (.tmp 15) rfl w1.heap.size _ _ [] (xs.take k) rfl rfl (World.ownsRow_nil _ _ _ _) (((HT.out _ (by omega))).later (Below.refl _ w1).drew) (by have := HLN.out; simp only [List.length_nil]; omega) (Nat.le_refl _) ?_; intro v2 w2 hown2 hadd2; rw [List.nil_append] at hown2; have hb2 : Below w1.heap.size w1 w2 := (Below.refl _ w1).drew.trans (hadd2.below w1.heap.size (Nat.le_refl _) (fun k hk => by cases hk)); have hs2 : w1.heap.size ≤ w2.heap.size := hadd2.1.size; clear hadd2)
        | (refine step_append_tree _ rfl (.tmp 16) (.tmp 20) rfl w1.heap.size _ _ (xs.take k) (xs.drop (k + 1)) rfl rfl hown2 (HD.out.later hb2) (by have := HLN.out; omega) hs2 ?_; intro v3 w3 hown3 hadd3))
      all_goals
        have HB3 := hidden (hb2.trans (hadd3.below w1.heap.size hs2 (fun k hk => (hown2.lt k hk).1)))
        have HT3 := hidden (TreeAt.of_owns hown3)
        clear hown3 hadd3 hown2 hb2
        go_wp2_with fail
        go_ret
        exact ⟨⟨_, rfl, by rw [HP.out]; exact HT3.out⟩, HB3.out⟩
    · have HN := hidden (show xs.drop (k + 1) = [] from List.drop_eq_nil_of_le (by omega))
      obtain rfl : cap = k + 1 := by omega
      have hxl : xs.length = k + 1 := by omega
      rw [hxl]
      have hI7 : (k : Int) ≤ (k : Int) + 1 := by omega
      have hI8 : (k : Int) ≤ ((k + 1 : Nat) : Int) := by omega
      have hI9 : k ≤ k + 1 := by omega
      go_wp2_with fail
      go_region_held3 (fun _ => True) (trivial) (first
        | (refine step_append_tree _ rfl (.const (.slice none 0 0)) (.tmp 15) rfl w1.heap.size _ _ [] (xs.take k) rfl rfl (World.ownsRow_nil _ _ _ _) (((HT.out _ (by omega))).later (Below.refl _ w1).drew) (by have := HLN.out; simp only [List.length_nil]; omega) (Nat.le_refl _) ?_; intro v2 w2 hown2 hadd2; rw [List.nil_append] at hown2; have hb2 : Below w1.heap.size w1 w2 := (Below.refl _ w1).drew.trans (hadd2.below w1.heap.size (Nat.le_refl _) (fun k hk => by cases hk)); have hs2 : w1.heap.size ≤ w2.heap.size := hadd2.1.size; clear hadd2)
        | (refine step_append_tree _ rfl (.tmp 16) (.tmp 20) rfl w1.heap.size _ _ (xs.take k) (xs.drop (k + 1)) rfl rfl hown2 (by rw [HN.out]; exact TreeAt.nil _ _ _) (by have := HLN.out; omega) hs2 ?_; intro v3 w3 hown3 hadd3))
      all_goals
        have HB3 := hidden (hb2.trans (hadd3.below w1.heap.size hs2 (fun k hk => (hown2.lt k hk).1)))
        have HT3 := hidden (TreeAt.of_owns hown3)
        clear hown3 hadd3 hown2 hb2
        go_wp2_with fail
        go_ret
        exact ⟨⟨_, rfl, by rw [HP.out]; exact HT3.out⟩, HB3.out⟩
  · have HP := hidden (cut_miss xs (mem_all (p := fun x => x.1 ≠ n) hno))
    clear hno
    go_wp2_with (at_builtin; go_must (refine wpList_append_tree _ (by go_simp) (.const (.slice none 0 0)) (.tmp 11) rfl w1.heap.size _ v [] xs rfl rfl (World.ownsRow_nil _ _ _ _) HR.out (by simpa using hl) (Nat.le_refl _) ?_; intro v2 w2 hown2 hadd2))
    have HB2 := hidden (hadd2.below w1.heap.size (Nat.le_refl _) (fun k hk => by cases hk))
    have HT2 := hidden (TreeAt.of_owns hown2)
    clear hown2 hadd2
    go_ret
    exact ⟨⟨_, rfl, by rw [HP.out]; exact HT2.out⟩, HB2.out⟩


theorem cellsE_set (xs : List En) : ∀ (k : Nat) (n d x2 : Tx), xs[k]? = some (n, x2) → (cellsE xs).set (k * 2 + 1) (S d) = cellsE (xs.set k (n, d)) := by
  induction xs with
  | nil => intro k n d x2 h; simp at h
  | cons e xs ih =>
    intro k n d x2 h
    cases k with
    | zero => simp at h; subst h; rfl
    | succ k =>
      have := ih k n d x2 (by simpa using h)
      rw [show (k + 1) * 2 + 1 = k * 2 + 1 + 1 + 1 by omega]
      simp only [cellsE, List.set_cons_succ, this]
theorem set_parts {xs : List En} {k : Nat} {e y : En} (hk : xs[k]? = some e) : xs.set k y = xs.take k ++ y :: xs.drop (k + 1) := by
  obtain ⟨hh, _⟩ := List.getElem?_eq_some_iff.1 hk
  rw [List.set_eq_take_append_cons_drop, if_pos hh]

set_option maxHeartbeats 2000000 in
theorem refPut_hit (v : Value) (xs : List En) (n d : Tx) (k : Nat) (e2 : Tx) (w : World) (hr : TreeAt w v xs) (hl : xs.length ≤ 1000000) (hk : xs[k]? = some (n, e2)) (hno : ∀ (j : Nat) x, j < k → xs[j]? = some x → ¬ x.1 = n) :
    Calls Try.prog 14 #[v, S n, S d] w fun e w' => (∃ v', e = .returned v' ∧ TreeAt w' v' (putL n d xs)) ∧ Below w.heap.size w w' := by
  have hlt : k < xs.length := (List.getElem?_eq_some_iff.1 hk).1
  have hput : putL n d xs = xs.set k (n, d) := by
    rw [set_parts hk]
    conv => lhs; rw [cut_at hk]
    exact put_hit _ _ _ (take_all (p := fun x => ¬ x.1 = n) hno) rfl
  have HP := hidden hput
  have HK := hidden hk
  have HNO := hidden hno
  have HR := hidden hr
  clear hput hk hno hr
  unfold S
  go_enter Try.func14, Try.ntmps14
  go_wp2_with (at_builtin; go_must (refine wpList_append_tree _ (by go_simp) (.const (.slice none 0 0)) (.tmp 11) rfl w.heap.size _ v [] xs rfl rfl (World.ownsRow_nil _ _ _ _) HR.out (by simp; omega) (Nat.le_refl _) ?_; intro v1 w1 hown1 hadd1))
  have hb1 : Below w.heap.size w w1 := hadd1.below w.heap.size (Nat.le_refl _) (fun k hk => by cases hk)
  rw [List.nil_append] at hown1
  obtain ⟨g, cp, rfl, hg1, hg2⟩ := hown1.form (by omega)
  refine (find_any v xs n w1 (HR.out.later hb1) (by omega)).mono ?_
  rintro e w2 ⟨⟨z, rfl, hz⟩, rfl⟩
  obtain rfl : z = (k : Int) := by
    rcases hz with ⟨k', e', rfl, hk', he', hno'⟩ | ⟨_, hno'⟩
    · have h1 : ¬ k' < k := fun h => HNO.out k' e' h hk' he'
      have h2 : ¬ k < k' := fun h => hno' k _ h HK.out rfl
      omega
    · exact absurd rfl (hno' k _ hlt HK.out)
  have hcl : w2.cell? ⟨g, k * 2 + 1, none⟩ = some (.string ⟨e2.toArray⟩) := by
    have := (hown1.cells (g := g) rfl (k * 2 + 1) _ (cellsE_at xs k _ HK.out).2)
    rw [addr_add, Nat.zero_add] at this
    exact this
  have hfz : w2.frozen? ⟨g, k * 2 + 1, none⟩ = false := hown1.frozenAt _
  have HST := hidden (hown1.stored (k * 2 + 1) (.string ⟨d.toArray⟩))
  have HB1 := hidden hb1
  clear hz hadd1 hb1 hown1 HR HNO
  go_wp2_with fail
  go_ret
  have ho : (w2.setCell ⟨g, k * 2 + 1, none⟩ (.string ⟨d.toArray⟩)).ownsRow w.heap.size 35 2 (.slice (some ⟨g, 0, none⟩) xs.length cp) xs.length (cellsE (xs.set k (n, d))) := by
    rw [← cellsE_set xs k n d e2 HK.out]; exact HST.out.1
  exact ⟨⟨_, rfl, by rw [HP.out]; exact TreeAt.of_owns ho⟩, HB1.out.grown HST.out.2 HB1.out.size (fun j hj => by have e : g = j := Option.some.inj hj; omega)⟩


/-- from m on the first that is greater stands at a -/
def Above (n : Tx) (xs : List En) (m a : Nat) : Prop :=
  m ≤ a ∧ a ≤ xs.length ∧ (∀ (j : Nat) x, m ≤ j → j < a → xs[j]? = some x → Op.bytesLess n x.1 = false) ∧ (∀ x, xs[a]? = some x → Op.bytesLess n x.1 = true)
theorem Above.put {n d : Tx} {xs : List En} {a : Nat} (h : Above n xs 0 a) (hm : ∀ x, x ∈ xs → x.1 ≠ n) : putL n d xs = (xs.take a ++ [(n, d)]) ++ xs.drop a := by
  obtain ⟨_, h2, h3, h4⟩ := h
  have ht : ∀ x, x ∈ xs.take a → Op.bytesLess n x.1 = false := take_all (p := fun x => Op.bytesLess n x.1 = false) (fun j x h1 h2 => h3 j x (Nat.zero_le _) h1 h2)
  rw [put_miss xs hm]
  by_cases ha : a < xs.length
  · obtain ⟨x1, x2, hx⟩ := at_some ha
    obtain ⟨hh, e⟩ := List.getElem?_eq_some_iff.1 hx
    conv => lhs; rw [cut_at hx]
    rw [ins_hit _ _ _ ht (h4 _ hx), List.drop_eq_getElem_cons hh, e]
    simp
  · rw [List.take_of_length_le (by omega)] at ht ⊢
    rw [List.drop_eq_nil_of_le (by omega), ins_miss xs ht]
    simp

set_option maxHeartbeats 4000000 in
theorem refPut_miss (v : Value) (xs : List En) (n d : Tx) (w : World) (hr : TreeAt w v xs) (hl : xs.length ≤ 1000000) (hne : xs ≠ []) (hm : ∀ x, x ∈ xs → x.1 ≠ n) :
    Calls Try.prog 14 #[v, S n, S d] w fun e w' => (∃ v', e = .returned v' ∧ TreeAt w' v' (putL n d xs)) ∧ Below w.heap.size w w' := by
  obtain ⟨b, o, cap, rfl, hcap, hbb, hc⟩ := hr.cells hne
  have hpos : 0 < xs.length := List.length_pos_iff.2 hne
  have HM := hidden hm
  have HR := hidden hr
  have HC := hidden hc
  clear hm hr hc hne
  unfold S
  go_enter Try.func14, Try.ntmps14
  go_wp2_with (at_builtin; go_must (refine wpList_append_tree _ (by go_simp) (.const (.slice none 0 0)) (.tmp 11) rfl w.heap.size _ _ [] xs rfl rfl (World.ownsRow_nil _ _ _ _) HR.out (by simp; omega) (Nat.le_refl _) ?_; intro v1 w1 hown1 hadd1))
  have HB1 := hidden (hadd1.below w.heap.size (Nat.le_refl _) (fun k hk => by cases hk))
  clear hown1 hadd1
  refine (find_any _ xs n w1 (HR.out.later HB1.out) (by omega)).mono ?_
  rintro e w2 ⟨⟨z, rfl, hz⟩, rfl⟩
  obtain rfl : z = -1 := by
    rcases hz with ⟨k', e', rfl, hk', he', hno'⟩ | ⟨h, _⟩
    · exact absurd he' (HM.out e' (List.mem_of_getElem? hk'))
    · exact h
  clear hz
  obtain ⟨L, hL⟩ : ∃ L, xs.length = L + 1 := ⟨xs.length - 1, by omega⟩
  have hI1 : IntKind.i64.wrap ((L : Int) + 1 - 1) = (L : Int) := by rw [IntKind.wrap_i64]; omega
  have hI2 : IntKind.i64.wrap (((L + 1 : Nat) : Int) - 1) = (L : Int) := by rw [IntKind.wrap_i64]; omega
  have HL := hidden hL
  go_wp2_with fail
  go_loop [9, 10] (fun at' i => ∃ a m : Nat, at' = .int .i64 a ∧ m ≤ xs.length ∧ ((i = .int .i64 (-1) ∧ m = 0) ∨ ∃ m' : Nat, m = m' + 1 ∧ i = .int .i64 m') ∧ Hid (Above n xs m a) ∧ a ≤ xs.length)
    (fun _ i => (intOf i + 1).toNat)
  case atStart => exact ⟨xs.length, xs.length, by rw [hL]; rfl, Nat.le_refl _, Or.inr ⟨L, hL, by first | rfl | (rw [hL]; go_num) | go_num⟩, ⟨Nat.le_refl _, Nat.le_refl _, (fun j x h1 h2 => by omega), (fun x hx => by rw [List.getElem?_eq_none (Nat.le_refl _)] at hx; cases hx)⟩, Nat.le_refl _⟩
  case round =>
    obtain ⟨a, m, rfl, hmle, hi, habv, hale⟩ := hrel
    rcases hi with ⟨rfl, rfl⟩ | ⟨k, rfl, rfl⟩
    · have HP := hidden (habv.out.put (d := d) HM.out)
      have hcl : ∀ (j : Nat) e, xs[j]? = some e → w2.cell? ⟨b, o + j * 2, none⟩ = some (S e.1) ∧ w2.cell? ⟨b, o + j * 2 + 1, none⟩ = some (S e.2) := fun j e he => by
        rw [HB1.out.cell (p := ⟨b, o + j * 2, none⟩) hbb, HB1.out.cell (p := ⟨b, o + j * 2 + 1, none⟩) hbb]
        exact HC.out j e he
      have hbb2 : b < w2.heap.size := Nat.lt_of_lt_of_le hbb HB1.out.size
      have HT := hidden (show ∀ c, xs.length ≤ c → TreeAt w2 (.slice (some ⟨b, o, none⟩) a c) (xs.take a) from fun c h => tree_take a hale h hbb2 hcl)
      have hd := tree_drop a hcap rfl hbb2 hcl
      rw [hL] at hd
      have HD := hidden hd
      have HLN := hidden (show (xs.take a).length + (xs.drop a).length ≤ xs.length by rw [List.length_take, List.length_drop]; omega)
      have hcap' : L + 1 ≤ cap := by omega
      have hale' : a ≤ L + 1 := by omega
      clear hd hcl habv
      by_cases hend : a < L + 1
      · have hcp : a < cap := by omega
        have hcn1 : ¬ cap = a := by omega
        have hcn3 : ¬ cap - a = 0 := by omega
        go_wp2_with (first
          | (at_builtin; refine wpList_append_tree _ (by go_simp) (.const (.slice none 0 0)) (.tmp 43) rfl w2.heap.size _ _ [] (xs.take a) rfl rfl (World.ownsRow_nil _ _ _ _) (HT.out _ (by omega)) (by have := HLN.out; simp only [List.length_nil]; omega) (Nat.le_refl _) ?_; intro v3 w3 hown3 hadd3; rw [List.nil_append] at hown3; have hb3 : Below w2.heap.size w2 w3 := hadd3.below w2.heap.size (Nat.le_refl _) (fun k hk => by cases hk); have HO3 := hidden hown3; have HB3 := hidden hb3; clear hown3 hadd3 hb3)
          | (at_builtin; refine wpList_append_tree _ (by go_simp) (.tmp 44) (.tmp 48) rfl w2.heap.size _ _ (xs.take a) [(n, d)] rfl rfl (HO3.out.alloc _) (tree_one w3 n d) (by have := HLN.out; simp only [List.length_cons, List.length_nil]; omega) (by have := HB3.out.size; simp; omega) ?_; intro v4 w4 hown4 hadd4; have hb4 : Below w2.heap.size w2 w4 := (HB3.out.alloc HB3.out.size _).trans (hadd4.below w2.heap.size (by have := HB3.out.size; simp; omega) (fun k hk => (HO3.out.lt k hk).1)); have HO4 := hidden hown4; have HB4 := hidden hb4; clear hown4 hadd4 hb4)
          | (at_builtin; refine wpList_append_tree _ (by go_simp) (.tmp 50) (.tmp 53) rfl w2.heap.size _ _ (xs.take a ++ [(n, d)]) (xs.drop a) rfl rfl HO4.out (HD.out.later HB4.out) (by have := HLN.out; simp only [List.length_append, List.length_cons, List.length_nil]; omega) HB4.out.size ?_; intro v5 w5 hown5 hadd5; have HB5 := hidden (HB4.out.trans (hadd5.below w2.heap.size HB4.out.size (fun k hk => (HO4.out.lt k hk).1))); have HT5 := hidden (TreeAt.of_owns hown5); clear hown5 hadd5))
        go_ret
        exact ⟨⟨_, rfl, by rw [HP.out]; exact HT5.out⟩, HB1.out.trans (HB5.out.mono HB1.out.size)⟩
      · have HN := hidden (show xs.drop a = [] from List.drop_eq_nil_of_le (by omega))
        obtain rfl : a = L + 1 := by omega
        by_cases hce : cap = L + 1
        · subst hce
          go_wp2_with (first
            | (at_builtin; refine wpList_append_tree _ (by go_simp) (.const (.slice none 0 0)) (.tmp 43) rfl w2.heap.size _ _ [] (xs.take (L + 1)) rfl rfl (World.ownsRow_nil _ _ _ _) (HT.out _ (by omega)) (by have := HLN.out; simp only [List.length_nil]; omega) (Nat.le_refl _) ?_; intro v3 w3 hown3 hadd3; rw [List.nil_append] at hown3; have hb3 : Below w2.heap.size w2 w3 := hadd3.below w2.heap.size (Nat.le_refl _) (fun k hk => by cases hk); have HO3 := hidden hown3; have HB3 := hidden hb3; clear hown3 hadd3 hb3)
            | (at_builtin; refine wpList_append_tree _ (by go_simp) (.tmp 44) (.tmp 48) rfl w2.heap.size _ _ (xs.take (L + 1)) [(n, d)] rfl rfl (HO3.out.alloc _) (tree_one w3 n d) (by have := HLN.out; simp only [List.length_cons, List.length_nil]; omega) (by have := HB3.out.size; simp; omega) ?_; intro v4 w4 hown4 hadd4; have hb4 : Below w2.heap.size w2 w4 := (HB3.out.alloc HB3.out.size _).trans (hadd4.below w2.heap.size (by have := HB3.out.size; simp; omega) (fun k hk => (HO3.out.lt k hk).1)); have HO4 := hidden hown4; have HB4 := hidden hb4; clear hown4 hadd4 hb4)
            | (at_builtin; refine wpList_append_tree _ (by go_simp) (.tmp 50) (.tmp 53) rfl w2.heap.size _ _ (xs.take (L + 1) ++ [(n, d)]) (xs.drop (L + 1)) rfl rfl HO4.out (by rw [HN.out]; exact TreeAt.nil _ _ _) (by have := HLN.out; simp only [List.length_append, List.length_cons, List.length_nil]; omega) HB4.out.size ?_; intro v5 w5 hown5 hadd5; have HB5 := hidden (HB4.out.trans (hadd5.below w2.heap.size HB4.out.size (fun k hk => (HO4.out.lt k hk).1))); have HT5 := hidden (TreeAt.of_owns hown5); clear hown5 hadd5))
          go_ret
          exact ⟨⟨_, rfl, by rw [HP.out]; exact HT5.out⟩, HB1.out.trans (HB5.out.mono HB1.out.size)⟩
        · have hcn1 : ¬ cap = L + 1 := hce
          have hcn3 : ¬ cap - (L + 1) = 0 := by omega
          go_wp2_with (first
            | (at_builtin; refine wpList_append_tree _ (by go_simp) (.const (.slice none 0 0)) (.tmp 43) rfl w2.heap.size _ _ [] (xs.take (L + 1)) rfl rfl (World.ownsRow_nil _ _ _ _) (HT.out _ (by omega)) (by have := HLN.out; simp only [List.length_nil]; omega) (Nat.le_refl _) ?_; intro v3 w3 hown3 hadd3; rw [List.nil_append] at hown3; have hb3 : Below w2.heap.size w2 w3 := hadd3.below w2.heap.size (Nat.le_refl _) (fun k hk => by cases hk); have HO3 := hidden hown3; have HB3 := hidden hb3; clear hown3 hadd3 hb3)
            | (at_builtin; refine wpList_append_tree _ (by go_simp) (.tmp 44) (.tmp 48) rfl w2.heap.size _ _ (xs.take (L + 1)) [(n, d)] rfl rfl (HO3.out.alloc _) (tree_one w3 n d) (by have := HLN.out; simp only [List.length_cons, List.length_nil]; omega) (by have := HB3.out.size; simp; omega) ?_; intro v4 w4 hown4 hadd4; have hb4 : Below w2.heap.size w2 w4 := (HB3.out.alloc HB3.out.size _).trans (hadd4.below w2.heap.size (by have := HB3.out.size; simp; omega) (fun k hk => (HO3.out.lt k hk).1)); have HO4 := hidden hown4; have HB4 := hidden hb4; clear hown4 hadd4 hb4)
            | (at_builtin; refine wpList_append_tree _ (by go_simp) (.tmp 50) (.tmp 53) rfl w2.heap.size _ _ (xs.take (L + 1) ++ [(n, d)]) (xs.drop (L + 1)) rfl rfl HO4.out (by rw [HN.out]; exact TreeAt.nil _ _ _) (by have := HLN.out; simp only [List.length_append, List.length_cons, List.length_nil]; omega) HB4.out.size ?_; intro v5 w5 hown5 hadd5; have HB5 := hidden (HB4.out.trans (hadd5.below w2.heap.size HB4.out.size (fun k hk => (HO4.out.lt k hk).1))); have HT5 := hidden (TreeAt.of_owns hown5); clear hown5 hadd5))
          go_ret
          exact ⟨⟨_, rfl, by rw [HP.out]; exact HT5.out⟩, HB1.out.trans (HB5.out.mono HB1.out.size)⟩
    · obtain ⟨x1, x2, hx⟩ := at_some (show k < xs.length by omega)
      have hc1 : w2.cell? ⟨b, o + k * 2, none⟩ = some (.string ⟨x1.toArray⟩) := (HB1.out.cell (p := ⟨b, o + k * 2, none⟩) hbb).trans (HC.out k _ hx).1
      have hle := le_iff x1 n
      have hlt : k < xs.length := by omega
      cases hq : Op.bytesLess n x1
      · have HA := hidden (show Above n xs k a from by
          obtain ⟨h1, h2, h3, h4⟩ := habv.out
          refine ⟨by omega, h2, fun j y hj1 hj2 hy => ?_, h4⟩
          by_cases hjk : j = k
          · subst hjk; rw [hx] at hy; cases hy; exact hq
          · exact h3 j y (by omega) hj2 hy)
        rw [hq] at hle
        have h1 : Op.bytesLess x1 n = true ∨ x1 = n := by simpa using hle
        have h1 : Op.bytesLess x1 n = true := by
          rcases h1 with h | h
          · exact h
          · exact absurd h (HM.out _ (List.mem_of_getElem? hx))
        clear hx hle hq
        go_wp2_with fail
        go_round
        case rel =>
          cases k with
          | zero => exact ⟨a, 0, rfl, by omega, Or.inl ⟨by first | rfl | go_num, rfl⟩, HA.out, hale⟩
          | succ m => exact ⟨a, m + 1, rfl, by omega, Or.inr ⟨m, rfl, by go_num⟩, HA.out, hale⟩
        case measure => simp [intOf]
      · have HA := hidden (show Above n xs k k from by
          refine ⟨Nat.le_refl _, by omega, fun j y hj1 hj2 hy => by omega, fun y hy => ?_⟩
          rw [hx] at hy; cases hy; exact hq)
        rw [hq] at hle
        have h1 : Op.bytesLess x1 n = false ∧ (x1 == n) = false := by simpa using hle
        obtain ⟨h1, h2⟩ := h1
        clear hx hle hq
        go_wp2_with fail
        go_round
        case rel =>
          cases k with
          | zero => exact ⟨0, 0, rfl, by omega, Or.inl ⟨by first | rfl | go_num, rfl⟩, HA.out, by omega⟩
          | succ m => exact ⟨m + 1, m + 1, rfl, by omega, Or.inr ⟨m, rfl, by go_num⟩, HA.out, by omega⟩
        case measure => simp [intOf]


set_option maxHeartbeats 2000000 in
theorem refPut_nil (ao : Option Addr) (cap : Nat) (n d : Tx) (w : World) (h0 : ao = none → cap = 0) :
    Calls Try.prog 14 #[.slice ao 0 cap, S n, S d] w fun e w' => (∃ v', e = .returned v' ∧ TreeAt w' v' [(n, d)]) ∧ Below w.heap.size w w' := by
  have HR := hidden (TreeAt.nil w ao cap h0)
  have HH := hidden h0
  clear h0
  unfold S
  cases ao with
  | none =>
    obtain rfl := HH.out rfl
    go_enter Try.func14, Try.ntmps14
    go_wp2_with (at_builtin; go_must (refine wpList_append_tree _ (by go_simp) (.const (.slice none 0 0)) (.tmp 11) rfl w.heap.size _ _ [] [] rfl rfl (World.ownsRow_nil _ _ _ _) HR.out (by simp) (Nat.le_refl _) ?_; intro v1 w1 hown1 hadd1))
    have HB1 := hidden (hadd1.below w.heap.size (Nat.le_refl _) (fun k hk => by cases hk))
    clear hown1 hadd1
    refine (find_any _ [] n w1 (TreeAt.nil _ _ _) (by simp)).mono ?_
    rintro e w2 ⟨⟨z, rfl, hz⟩, rfl⟩
    obtain rfl : z = -1 := by
      rcases hz with ⟨k', e', rfl, hk', _⟩ | ⟨h, _⟩
      · simp at hk'
      · exact h
    clear hz
    go_wp2_with fail
    refine wp_loop_rounds 1 ?_
    rw [rounds_succ]
    go_wp2_with (first
      | (at_builtin; refine wpList_append_tree _ (by go_simp) (.const (.slice none 0 0)) (.tmp 43) rfl w2.heap.size _ _ [] [] rfl rfl (World.ownsRow_nil _ _ _ _) (TreeAt.nil _ _ _) (by simp) (Nat.le_refl _) ?_; intro v3 w3 hown3 hadd3; rw [List.nil_append] at hown3; have hb3 : Below w2.heap.size w2 w3 := hadd3.below w2.heap.size (Nat.le_refl _) (fun k hk => by cases hk); have HO3 := hidden hown3; have HB3 := hidden hb3; clear hown3 hadd3 hb3)
      | (at_builtin; refine wpList_append_tree _ (by go_simp) (.tmp 44) (.tmp 48) rfl w2.heap.size _ _ [] [(n, d)] rfl rfl (HO3.out.alloc _) (tree_one w3 n d) (by simp) (by have := HB3.out.size; simp; omega) ?_; intro v4 w4 hown4 hadd4; have hb4 : Below w2.heap.size w2 w4 := (HB3.out.alloc HB3.out.size _).trans (hadd4.below w2.heap.size (by have := HB3.out.size; simp; omega) (fun k hk => (HO3.out.lt k hk).1)); have HO4 := hidden hown4; have HB4 := hidden hb4; clear hown4 hadd4 hb4)
      | (at_builtin; refine wpList_append_tree _ (by go_simp) (.tmp 50) (.tmp 53) rfl w2.heap.size _ _ ([] ++ [(n, d)]) [] rfl rfl HO4.out (TreeAt.nil _ _ _) (by simp) HB4.out.size ?_; intro v5 w5 hown5 hadd5; have HB5 := hidden (HB4.out.trans (hadd5.below w2.heap.size HB4.out.size (fun k hk => (HO4.out.lt k hk).1))); have HT5 := hidden (TreeAt.of_owns hown5); clear hown5 hadd5))
    go_ret
    exact ⟨⟨_, rfl, HT5.out⟩, HB1.out.trans (HB5.out.mono HB1.out.size)⟩
  | some ad =>
    go_enter Try.func14, Try.ntmps14
    go_wp2_with (at_builtin; go_must (refine wpList_append_tree _ (by go_simp) (.const (.slice none 0 0)) (.tmp 11) rfl w.heap.size _ _ [] [] rfl rfl (World.ownsRow_nil _ _ _ _) HR.out (by simp) (Nat.le_refl _) ?_; intro v1 w1 hown1 hadd1))
    have HB1 := hidden (hadd1.below w.heap.size (Nat.le_refl _) (fun k hk => by cases hk))
    clear hown1 hadd1
    refine (find_any _ [] n w1 (TreeAt.nil _ _ _) (by simp)).mono ?_
    rintro e w2 ⟨⟨z, rfl, hz⟩, rfl⟩
    obtain rfl : z = -1 := by
      rcases hz with ⟨k', e', rfl, hk', _⟩ | ⟨h, _⟩
      · simp at hk'
      · exact h
    clear hz
    go_wp2_with fail
    refine wp_loop_rounds 1 ?_
    rw [rounds_succ]
    go_wp2_with (first
      | (at_builtin; refine wpList_append_tree _ (by go_simp) (.const (.slice none 0 0)) (.tmp 43) rfl w2.heap.size _ _ [] [] rfl rfl (World.ownsRow_nil _ _ _ _) (TreeAt.nil _ _ _) (by simp) (Nat.le_refl _) ?_; intro v3 w3 hown3 hadd3; rw [List.nil_append] at hown3; have hb3 : Below w2.heap.size w2 w3 := hadd3.below w2.heap.size (Nat.le_refl _) (fun k hk => by cases hk); have HO3 := hidden hown3; have HB3 := hidden hb3; clear hown3 hadd3 hb3)
      | (at_builtin; refine wpList_append_tree _ (by go_simp) (.tmp 44) (.tmp 48) rfl w2.heap.size _ _ [] [(n, d)] rfl rfl (HO3.out.alloc _) (tree_one w3 n d) (by simp) (by have := HB3.out.size; simp; omega) ?_; intro v4 w4 hown4 hadd4; have hb4 : Below w2.heap.size w2 w4 := (HB3.out.alloc HB3.out.size _).trans (hadd4.below w2.heap.size (by have := HB3.out.size; simp; omega) (fun k hk => (HO3.out.lt k hk).1)); have HO4 := hidden hown4; have HB4 := hidden hb4; clear hown4 hadd4 hb4)
      | (at_builtin; refine wpList_append_tree _ (by go_simp) (.tmp 50) (.tmp 53) rfl w2.heap.size _ _ ([] ++ [(n, d)]) [] rfl rfl HO4.out (TreeAt.nil _ _ _) (by simp) HB4.out.size ?_; intro v5 w5 hown5 hadd5; have HB5 := hidden (HB4.out.trans (hadd5.below w2.heap.size HB4.out.size (fun k hk => (HO4.out.lt k hk).1))); have HT5 := hidden (TreeAt.of_owns hown5); clear hown5 hadd5))
    all_goals
      go_ret
      exact ⟨⟨_, rfl, HT5.out⟩, HB1.out.trans (HB5.out.mono HB1.out.size)⟩

theorem refPut_any (v : Value) (xs : List En) (n d : Tx) (w : World) (hr : TreeAt w v xs) (hl : xs.length ≤ 1000000) :
    Calls Try.prog 14 #[v, S n, S d] w fun e w' => (∃ v', e = .returned v' ∧ TreeAt w' v' (putL n d xs)) ∧ Below w.heap.size w w' := by
  by_cases hne : xs = []
  · subst hne
    rcases hr with ⟨_, ao, cap, rfl, h0⟩ | ⟨b, o, cap, rfl, _⟩
    · exact refPut_nil ao cap n d w h0
    · exact refPut_nil _ cap n d w (fun h => by cases h)
  · rcases name_parts n xs with ⟨A, ⟨x1, x2⟩, C, h, hA, hx⟩ | hm
    · have hx' : x1 = n := hx
      subst hx'
      refine refPut_hit v xs x1 d A.length x2 w hr hl (by rw [h]; simp) (fun j x hj hxj => ?_)
      rw [h, List.getElem?_append_left hj] at hxj
      exact hA x (List.mem_of_getElem? hxj)
    · exact refPut_miss v xs n d w hr hl hne hm

end Go.Proofs.Ytehhpjgbffcocaa
