
/-
  Lists of texts in memory, whether two are one (the document's SameTexts), and what an append to a list of one's own does; conditions: the lists' lengths.
-/
import Derived.Test.YtbbbphlojefgjaaOStay
namespace Go.Proofs.Ytbbbphlojefgjaa
open Go.RowKit Go.Proofs.Ytbbbphlojefgjaa.Ln Go.Proofs.Ytbbbphlojefgjaa.Ol

/-- a list of texts lies in memory -/
def RowAt (w : World) (v : Value) (xs : List Tx) : Prop :=
  (xs = [] ∧ ∃ ao cap, v = .slice ao 0 cap ∧ (ao = none → cap = 0)) ∨ ∃ b o cap, v = .slice (some ⟨b, o, none⟩) xs.length cap ∧ xs.length ≤ cap ∧ b < w.heap.size ∧ ∀ (j : Nat) x, xs[j]? = some x → w.cell? ⟨b, o + j, none⟩ = some (S x)
theorem RowAt.nil (w : World) (ao : Option Addr) (cap : Nat) (h : ao = none → cap = 0 := by (intro h; first | rfl | cases h)) : RowAt w (.slice ao 0 cap) [] := Or.inl ⟨rfl, ao, cap, rfl, h⟩
theorem RowAt.later {w w' : World} {v : Value} {xs : List Tx} (h : RowAt w v xs) (hb : Below w.heap.size w w') : RowAt w' v xs := by
  rcases h with h | ⟨b, o, cap, h1, h2, h3, h4⟩
  · exact Or.inl h
  · refine Or.inr ⟨b, o, cap, h1, h2, Nat.lt_of_lt_of_le h3 hb.size, fun j x hx => ?_⟩
    rw [hb.cell (p := ⟨b, o + j, none⟩) h3]
    exact h4 j x hx
theorem RowAt.of_owns {w : World} {B n : Nat} {v : Value} {xs : List Tx} (h : w.ownsRow B 9 1 v n (xs.map S)) : RowAt w v xs := by
  have hn : xs.length = n := by simpa using h.1
  rcases h.2 with ⟨rfl, h0⟩ | ⟨g, cap, cur, hv, hB, hg, hc, hm, hs, ht⟩
  · exact Or.inl ⟨List.eq_nil_of_length_eq_zero (by omega), none, 0, rfl, fun _ => rfl⟩
  · refine Or.inr ⟨g, 0, cap, by rw [hn]; exact hv, by omega, (Array.getElem?_eq_some_iff.1 hg).1, fun j x hx => ?_⟩
    have := h.cells (g := g) (by rw [hv]; rfl) j (S x) (by simp [hx])
    rw [addr_add] at this
    exact this
theorem RowAt.shape {w : World} {v : Value} {xs : List Tx} (h : RowAt w v xs) : ∃ ao cap, v = .slice ao xs.length cap := by
  rcases h with ⟨rfl, ao, cap, rfl, _⟩ | ⟨b, o, cap, rfl, _⟩
  · exact ⟨ao, cap, rfl⟩
  · exact ⟨_, cap, rfl⟩
theorem RowAt.cells {w : World} {v : Value} {xs : List Tx} (h : RowAt w v xs) (hne : xs ≠ []) : ∃ b o cap, v = .slice (some ⟨b, o, none⟩) xs.length cap ∧ xs.length ≤ cap ∧ b < w.heap.size ∧ ∀ (j : Nat) x, xs[j]? = some x → w.cell? ⟨b, o + j, none⟩ = some (S x) := by
  rcases h with ⟨rfl, _⟩ | h
  · exact absurd rfl hne
  · exact h
/-- texts are not too long -/
def FitT (xs : List Tx) : Prop := ∀ x ∈ xs, x.length ≤ 140737488355328
/-- the head of a list, and the rest -/
theorem RowAt.head {w : World} {b o n cap k : Nat} {xs : List Tx} (h : RowAt w (.slice (some ⟨b, o, none⟩) n cap) xs) (hn : n = xs.length) (hk : k ≤ n) : RowAt w (.slice (some ⟨b, o, none⟩) k cap) (xs.take k) := by
  subst hn
  rcases h with ⟨rfl, ao, c, e, _⟩ | ⟨b', o', cap', e, h2, h3, h4⟩
  · cases e
    obtain rfl : k = 0 := by simpa using hk
    exact RowAt.nil _ _ _
  · cases e
    by_cases h0 : k = 0
    · subst h0; exact RowAt.nil _ _ _
    · refine Or.inr ⟨b, o, cap, by rw [List.length_take, Nat.min_eq_left hk], by rw [List.length_take]; omega, h3, fun j x hx => ?_⟩
      rw [List.getElem?_take] at hx
      split at hx
      · exact h4 j x hx
      · cases hx
theorem RowAt.rest {w : World} {b o n cap k : Nat} {xs : List Tx} (h : RowAt w (.slice (some ⟨b, o, none⟩) n cap) xs) (hn : n = xs.length) (hk : k ≤ n) : RowAt w (.slice (some ⟨b, o + k, none⟩) (n - k) (cap - k)) (xs.drop k) := by
  subst hn
  by_cases h0 : xs.length - k = 0
  · rw [h0, List.drop_of_length_le (by omega)]; exact RowAt.nil _ _ _
  · rcases h with ⟨rfl, _⟩ | ⟨b', o', cap', e, h2, h3, h4⟩
    · simp at h0
    · cases e
      refine Or.inr ⟨b, o + k, cap - k, by rw [List.length_drop], by rw [List.length_drop]; omega, h3, fun j x hx => ?_⟩
      rw [List.getElem?_drop] at hx
      have := h4 (k + j) x hx
      rw [← Nat.add_assoc] at this
      exact this
theorem one_new (w : World) (u : Value) (t : TypeId) (n : Nat) (hn : w.heap.size = n) : ∀ j z, [u][j]? = some z → (w.alloc (.cells #[u] t)).cell? ((⟨n, 0, none⟩ : Addr).add j) = some z := by
  intro j z hj
  subst hn
  match j, hj with
  | 0, hj => simp at hj; subst hj; simp [Addr.add]
  | (j + 1), hj => simp at hj
theorem row_one (w : World) (x : Tx) (n : Nat) (hn : w.heap.size = n) : RowAt (w.alloc (.cells #[.string ⟨x.toArray⟩] 9)) (.slice (some ⟨n, 0, none⟩) 1 1) [x] := by
  subst hn
  refine Or.inr ⟨w.heap.size, 0, 1, rfl, Nat.le_refl _, by simp, fun j e he => ?_⟩
  cases j with
  | zero => simp at he; subst he; simp [S]
  | succ j => simp at he

/-- what 'append' of texts to a list of one's own does -/
theorem run_append_txt (w : World) (ty : TypeId) (B : Nat) (v u : Value) (xs ys : List Tx) (hown : w.ownsRow B 9 1 v xs.length (xs.map S)) (hu : RowAt w u ys) (hl : xs.length + ys.length ≤ 4398046511104) (hB : B ≤ w.heap.size) :
    ∃ v' w', (Builtin.append_ #[27, 27] ty #[v, u]).run Try.prog w = .ok v' w' ∧ w'.ownsRow B 9 1 v' (xs ++ ys).length ((xs ++ ys).map S) ∧ Adds w w' v v' := by
  obtain ⟨i0, hi, hz0, hz1, hz2⟩ := info_parts Try.infoStr
  have key : ∀ ad c, u = .slice (some ad) ys.length c → (∀ j z, (ys.map S)[j]? = some z → w.cell? (ad.add j) = some z) → ∃ v' w', (Builtin.append_ #[27, 27] ty #[v, u]).run Try.prog w = .ok v' w' ∧ w'.ownsRow B 9 1 v' (xs ++ ys).length ((xs ++ ys).map S) ∧ Adds w w' v v' := by
    rintro ad c rfl hcell
    obtain ⟨v', w', hr, h2, h3, _, h5⟩ := run_append_own_at (P := Try.prog) w B 27 ty 9 i0 (.string ⟨#[]⟩) 1 16 Try.underlying27 hi hz0 hz1 hz2 rfl (by decide) v xs.length (xs.map S) hown ad ys.length c (ys.map S) (by simp) hcell (fun u hu => by obtain ⟨y, _, rfl⟩ := List.mem_map.1 hu; rfl) (by unfold maxLen; omega) (by omega) hB
    refine ⟨v', w', hr, by rw [List.length_append, List.map_append]; exact h2, (Adds.refl w v).step h3 ?_⟩
    rcases h5 with h5 | h5
    · exact Or.inl h5
    · exact Or.inr ⟨_, h5, Nat.le_refl _⟩
  rcases hu with ⟨rfl, ao, cap, rfl, h0⟩ | ⟨b, o, cap, rfl, hcap, hb, hc⟩
  · cases ao with
    | none =>
      obtain rfl := h0 rfl
      exact ⟨v, w, run_append_owned_none (P := Try.prog) (w := w) B 27 ty 9 i0 1 Try.underlying27 hi v _ _ hown, by rw [List.append_nil]; exact hown, Adds.refl w v⟩
    | some ad => exact key ad cap rfl (fun j z hj => by simp at hj)
  · refine key ⟨b, o, none⟩ cap rfl (fun j z hj => ?_)
    rw [List.getElem?_map, Option.map_eq_some_iff] at hj
    obtain ⟨y, hy, rfl⟩ := hj
    rw [addr_add]
    exact hc j y hy
theorem wp_append_txt (w : World) {o : Oper} {a : Act} {K : Act → World → Prop} {Q : Exit → Act → World → Prop} (s x : Operand)
    (ho : o.op = .call { callee := .builtin .append, args := #[s, x], argTypes := #[27, 27] }) (B : Nat) (v u : Value) (xs ys : List Tx) (hs : a.eval s = v) (hx : a.eval x = u)
    (hown : w.ownsRow B 9 1 v xs.length (xs.map S)) (hu : RowAt w u ys) (hl : xs.length + ys.length ≤ 4398046511104) (hB : B ≤ w.heap.size)
    (h : ∀ v' w', w'.ownsRow B 9 1 v' (xs ++ ys).length ((xs ++ ys).map S) → Adds w w' v v' → K (a.put o.dst v') w') : o.wp Try.prog a w K Q := by
  obtain ⟨v', w', hr, h2, h3⟩ := run_append_txt w o.type B v u xs ys hown hu hl hB
  unfold Oper.wp execOp
  simp only [ho, resolve, invoke, builtin, Sem.run_bind, Sem.run_pure, Result.andThen_ok, List.map_toArray, List.map_cons, List.map_nil, hs, hx, hr]
  exact h v' w' h2 h3
theorem wpList_append_txt (w : World) {ops : Array Oper} {rest : List Oper} {o : Oper} {a : Act} {Q : Exit → Act → World → Prop} (hw : Region.wanted o (yielded ops a.tmps) = true) (s x : Operand)
    (ho : o.op = .call { callee := .builtin .append, args := #[s, x], argTypes := #[27, 27] }) (B : Nat) (v u : Value) (xs ys : List Tx) (hs : a.eval s = v) (hx : a.eval x = u)
    (hown : w.ownsRow B 9 1 v xs.length (xs.map S)) (hu : RowAt w u ys) (hl : xs.length + ys.length ≤ 4398046511104) (hB : B ≤ w.heap.size)
    (h : ∀ v' w', w'.ownsRow B 9 1 v' (xs ++ ys).length ((xs ++ ys).map S) → Adds w w' v v' → wpList Try.prog ops Q rest (a.put o.dst v') w') : wpList Try.prog ops Q (o :: rest) a w :=
  BigFrame.wpList_want hw fun _ hK => wp_append_txt w s x ho B v u xs ys hs hx hown hu hl hB fun v' w' h2 h3 => hK _ _ (h v' w' h2 h3)
theorem step_append_txt (w : World) {ops : Array Oper} {o : Oper} {a : Act} {K : Act → World → Prop} {Q : Exit → Act → World → Prop} {E : Prop} (hw : Region.wanted o (yielded ops a.tmps) = true) (s x : Operand)
    (ho : o.op = .call { callee := .builtin .append, args := #[s, x], argTypes := #[27, 27] }) (B : Nat) (v u : Value) (xs ys : List Tx) (hs : a.eval s = v) (hx : a.eval x = u)
    (hown : w.ownsRow B 9 1 v xs.length (xs.map S)) (hu : RowAt w u ys) (hl : xs.length + ys.length ≤ 4398046511104) (hB : B ≤ w.heap.size)
    (h : ∀ v' w', w'.ownsRow B 9 1 v' (xs ++ ys).length ((xs ++ ys).map S) → Adds w w' v v' → K (a.put o.dst v') w') : if Region.wanted o (yielded ops a.tmps) = true then Oper.wp Try.prog o a w K Q else E := by
  rw [if_pos hw]
  exact wp_append_txt w s x ho B v u xs ys hs hx hown hu hl hB h
/-- what stays below stays, where a row of one's own is added to -/
theorem adds_bel {w W W' : World} {B : Nat} {v v' : Value} {e : TypeId} {size n : Nat} {cs : List Value} (hbl : Below B w W) (hs : B ≤ W.heap.size) (ho : W.ownsRow B e size v n cs) (h : Adds W W' v v') : Below B w W' :=
  hbl.trans ⟨h.1.os, h.1.tape, h.1.output, h.1.size, fun k hk => h.1.block k (by omega) (fun e => by have := (ho.lt k e.symm).1; omega)⟩

set_option maxHeartbeats 1000000 in
theorem sameTexts_any (v u : Value) (xs ys : List Tx) (w : World) (hr : RowAt w v xs) (hq : RowAt w u ys) (hl : xs.length ≤ 4398046511104) (hm : ys.length ≤ 4398046511104) :
    Calls Try.prog 17 #[v, u] w fun e w' => e = .returned (.bool (decide (xs = ys))) ∧ Below w.heap.size w w' := by
  by_cases hlen : xs.length = ys.length
  · by_cases hne : xs.length = 0
    · have hx : xs = [] := List.eq_nil_of_length_eq_zero hne
      have hy : ys = [] := List.eq_nil_of_length_eq_zero (by omega)
      subst hx hy
      obtain ⟨ao, cap, rfl⟩ := hr.shape
      obtain ⟨bo, cap', rfl⟩ := hq.shape
      clear hr hq
      go_enter Try.func17, Try.ntmps17
      go_wp2
      refine wp_loop_rounds 1 ?_
      rw [rounds_succ]
      go_wp2
      go_ret
      exact ⟨rfl, Below.refl _ _⟩
    · obtain ⟨b, o, cap, rfl, hcap, hb, hc⟩ := hr.cells (by intro h; simp [h] at hne)
      obtain ⟨b', o', cap', rfl, hcap', hb', hc'⟩ := hq.cells (by intro h; simp [h] at hlen; simp [hlen] at hne)
      clear hr hq
      have HC : Hid (∀ (j : Nat) x, xs[j]? = some x → w.cell? ⟨b, o + j, none⟩ = some (S x)) := hc
      have HC' : Hid (∀ (j : Nat) x, ys[j]? = some x → w.cell? ⟨b', o' + j, none⟩ = some (S x)) := hc'
      have hbn : ((xs.length : Int) != (ys.length : Int)) = false := by simp [hlen]
      have HL : Hid (xs.length = ys.length) := hlen
      have h1 : xs.length ≤ ys.length := by omega
      have h2 : ys.length ≤ xs.length := by omega
      clear hc hc' hlen
      go_enter Try.func17, Try.ntmps17
      go_wp2
      go_loopw [5] (fun i wr => ∃ k : Nat, k ≤ xs.length ∧ i = .int .i64 k ∧ Hid (∀ j, j < k → xs[j]? = ys[j]?) ∧ Hid (Below w.heap.size w wr))
        (fun i _ => xs.length - (intOf i).toNat)
      case atStart => exact ⟨0, Nat.zero_le _, rfl, (fun j hj => absurd hj (Nat.not_lt_zero _)), Below.refl _ _⟩
      case round =>
        obtain ⟨k, hk, rfl, hsame, hbl⟩ := hrel
        by_cases hlt : k < xs.length
        · obtain ⟨x, hx⟩ : ∃ x, xs[k]? = some x := ⟨xs[k], List.getElem?_eq_getElem hlt⟩
          obtain ⟨y, hy⟩ : ∃ y, ys[k]? = some y := ⟨ys[k]'(by omega), List.getElem?_eq_getElem _⟩
          have hcell : wr.cell? ⟨b, o + k, none⟩ = some (.string ⟨x.toArray⟩) := (hbl.out.cell (p := ⟨b, o + k, none⟩) hb).trans (HC.out k x hx)
          have hcell' : wr.cell? ⟨b', o' + k, none⟩ = some (.string ⟨y.toArray⟩) := (hbl.out.cell (p := ⟨b', o' + k, none⟩) hb').trans (HC'.out k y hy)
          have HX : Hid (xs[k]? = some x) := hx
          have HY : Hid (ys[k]? = some y) := hy
          clear hx hy
          go_wp2
          go_quiet (fail)
          go_wp2
          · go_ret
            have hne2 : ¬ x = y := by have h : (!x == y) = true := by assumption
                                      simpa using h
            exact ⟨ret_bool (by have : xs ≠ ys := fun h => hne2 (by have a := HX.out; have b := HY.out; rw [h] at a; rw [a] at b; simpa using b)
                                simp [this]), below_drewN hbl.out nq⟩
          · have hxy : x = y := by have h : (!x == y) = false := by assumption
                                   simpa using h
            have H : ∀ j, j < k + 1 → xs[j]? = ys[j]? := fun j hj => by
              by_cases hjk : j = k
              · rw [hjk, HX.out, HY.out, hxy]
              · exact hsame.out j (by omega)
            have hb2 := below_drewN hbl.out nq
            clear hxy
            go_roundw
            case rel => exact ⟨k + 1, by omega, by go_num, H, hb2⟩
            case measure => simp [intOf]; omega
        · go_wp2
          go_ret
          exact ⟨ret_bool (by rw [same_of xs ys HL.out (fun j hj => hsame.out j (by omega))]; simp), hbl.out⟩
  · obtain ⟨ao, cap, rfl⟩ := hr.shape
    obtain ⟨bo, cap', rfl⟩ := hq.shape
    clear hr hq
    have hbn : ((xs.length : Int) != (ys.length : Int)) = true := by simp; omega
    go_enter Try.func17, Try.ntmps17
    go_wp2
    go_ret
    exact ⟨ret_bool (by have : xs ≠ ys := fun h => hlen (by rw [h])
                        simp [this]), Below.refl _ _⟩

end Go.Proofs.Ytbbbphlojefgjaa
