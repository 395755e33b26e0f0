/-
  Marks in memory: a list of bools, one for each place; what the document's own more, both and InSet answer; conditions: how many marks there are.
-/
import Derived.Test.YtjlihidmohokhaaKBase
import Derived.Test.YtjlihidmohokhaaNPlain
import Derived.Deep.RegionHeld3
import Derived.Laws.CopyOwn
namespace Go.Proofs.Ytjlihidmohokhaa
open Go.RowKit Go.Proofs.Ytjlihidmohokhaa.Gl

theorem Try.info4 : (Try.prog.info? 4).map (fun i => (i.zero, i.size, i.bytes)) = some (some (.bool false), 1, 1) := by kernel_rfl

/-- marks in a block -/
def Bools (W : World) (g N : Nat) (H : Bs) : Prop := ∃ cs : Array Value, W.heap[g]? = some (.cells cs 4 (0, 0)) ∧ N ≤ cs.size ∧ ∀ j, j < N → cs[j]? = some (.bool (H j))
theorem Bools.lt {W : World} {g N : Nat} {H : Bs} (h : Bools W g N H) : g < W.heap.size := by
  obtain ⟨cs, h1, _⟩ := h
  exact (Array.getElem?_eq_some_iff.1 h1).1
theorem Bools.cell {W : World} {g N : Nat} {H : Bs} (h : Bools W g N H) {j : Nat} (hj : j < N) : W.cell? ⟨g, j, none⟩ = some (.bool (H j)) := by
  obtain ⟨cs, h1, h2, h3⟩ := h
  rw [cell_of_row W g j cs 4 (0, 0) h1]
  exact h3 j hj
theorem Bools.thawed {W : World} {g N : Nat} {H : Bs} (h : Bools W g N H) (j : Nat) : W.frozen? ⟨g, j, none⟩ = false := by
  obtain ⟨cs, h1, h2, h3⟩ := h
  simp [World.frozen?, h1]
theorem Bools.keep {W W' : World} {g N : Nat} {H : Bs} (h : Bools W g N H) (hb : W'.heap[g]? = W.heap[g]?) : Bools W' g N H := by
  obtain ⟨cs, h1, h2, h3⟩ := h
  exact ⟨cs, by rw [hb]; exact h1, h2, h3⟩
theorem Bools.later {W W' : World} {g N : Nat} {H : Bs} (h : Bools W g N H) (hb : Below W.heap.size W W') : Bools W' g N H := h.keep (hb.block g h.lt)
theorem Bools.alloc {W : World} {g N : Nat} {H : Bs} (h : Bools W g N H) (o : Obj) : Bools (W.alloc o) g N H := h.keep (Below.heap_alloc W o g h.lt)
theorem Bools.drew {W : World} {g N : Nat} {H : Bs} (h : Bools W g N H) : Bools W.drew g N H := h
theorem Bools.drewN {W : World} {g N : Nat} {H : Bs} (h : Bools W g N H) (n : Nat) : Bools (W.drewN n) g N H := h
theorem Bools.other {W : World} {g N : Nat} {H : Bs} (h : Bools W g N H) {g' j : Nat} {v : Value} (hn : g ≠ g') : Bools (W.setCell ⟨g', j, none⟩ v) g N H := h.keep (heap_setCell_other W ⟨g', j, none⟩ g v hn)
theorem Bools.ext {W : World} {g N : Nat} {H H' : Bs} (h : Bools W g N H) (he : ∀ j, j < N → H' j = H j) : Bools W g N H' := by
  obtain ⟨cs, h1, h2, h3⟩ := h
  exact ⟨cs, h1, h2, fun j hj => by rw [he j hj]; exact h3 j hj⟩
theorem Bools.set {W : World} {g N : Nat} {H : Bs} (h : Bools W g N H) (j : Nat) (b : Bool) (H' : Bs) (he : ∀ x, x < N → H' x = if x = j then b else H x) : Bools (W.setCell ⟨g, j, none⟩ (.bool b)) g N H' := by
  obtain ⟨cs, h1, h2, h3⟩ := h
  refine ⟨_, heap_setCell_same W g j cs 4 (.bool b) h1, by simpa using h2, fun x hx => ?_⟩
  rw [Array.getElem?_setIfInBounds, he x hx]
  by_cases hjx : j = x
  · subst hjx; rw [if_pos rfl, if_pos (by omega), if_pos rfl]
  · rw [if_neg hjx, if_neg (fun e => hjx e.symm)]; exact h3 x hx
theorem Bools.of_made {W : World} {B g N : Nat} (h : W.ownsRow B 4 1 (.slice (some ⟨g, 0, none⟩) N N) N (madeCells #[Value.bool false] (N * 1)).toList) : Bools W g N none_ := by
  rcases h.2 with ⟨h1, _⟩ | ⟨g', cap, cur, hv, hB, hg, hcap, hm, hs', ht⟩
  · cases h1
  · cases hv
    refine ⟨cur, hg, by omega, fun j hj => ?_⟩
    rw [Nat.mul_one, List.take_of_length_le (by rw [Array.length_toList]; omega), toList_madeCells_one] at ht
    rw [← Array.getElem?_toList, ht, List.getElem?_replicate, if_pos hj]
    rfl
/-- marks as a value -/
abbrev bs (g N c : Nat) : Value := .slice (some ⟨g, 0, none⟩) N c

/-- marks of places -/
noncomputable def dec (F : Pl) : Bs := fun j => @decide (F j) (Classical.propDecidable _)
theorem dec_true {F : Pl} {j : Nat} : dec F j = true ↔ F j := by unfold dec; simp
theorem dec_false {F : Pl} {j : Nat} : dec F j = false ↔ ¬ F j := by unfold dec; simp
theorem dec_is {F : Pl} {j : Nat} {b : Bool} (h : F j ↔ b = true) : dec F j = b := by
  cases b with
  | true => exact dec_true.2 (h.2 rfl)
  | false => exact dec_false.2 (fun e => by have := h.1 e; cases this)
theorem toList_bools {cs : List Value} {N : Nat} {H : Bs} (h : cs = (List.range N).map fun j => Value.bool (H j)) : cs.length = N ∧ ∀ j v, cs[j]? = some v → j < N ∧ v = .bool (H j) := by
  subst h
  refine ⟨by simp, fun j v hv => ?_⟩
  rw [List.getElem?_map, Option.map_eq_some_iff] at hv
  obtain ⟨a, ha, rfl⟩ := hv
  obtain ⟨hl, rfl⟩ := List.getElem?_eq_some_iff.1 ha
  simp at hl ⊢
  exact hl
/-- what 'copy' of marks over marks does -/
theorem wpList_copy_bools {w : World} {ops : Array Oper} {rest : List Oper} {o : Oper} {a : Act} {Q : Exit → Act → World → Prop} (hgd : o.guard = none) (d s : Operand)
    (ho : o.op = .call { callee := .builtin .copy, args := #[d, s], argTypes := #[40, 40] }) (q g N c1 c2 : Nat) (H K : Bs) (hd : a.eval d = bs q N c1) (hs : a.eval s = bs g N c2)
    (hq : Bools w q N K) (hg : Bools w g N H) (B : Nat) (w0 : World) (hb : Below B w0 w) (hBq : B ≤ q) (_hgB : g < B)
    (h : ∀ w', Bools w' q N H → Below B w0 w' → Below B w w' → wpList Try.prog ops Q rest (a.put o.dst (goInt N)) w') : wpList Try.prog ops Q (o :: rest) a w := by
  obtain ⟨cur, hc1, hc2, hc3⟩ := hq
  obtain ⟨cs, hcs⟩ : ∃ cs : List Value, cs = (List.range N).map fun j => Value.bool (H j) := ⟨_, rfl⟩
  obtain ⟨hl, hv⟩ := toList_bools hcs
  obtain ⟨i0, hi, hz0, hz1, hz2⟩ := info_parts Try.info4
  refine wpList_copy_own hgd d s 40 40 ho 4 Try.underlying40 (by rw [hi]; simp [hz1]) q 0 N c1 ⟨g, 0, none⟩ N c2 hd hs cur 4 hc1 cs (by rw [hl]; exact (Nat.min_self N).symm) (fun j v hj => ?_) (by omega) (fun v hm => ?_) ?_
  · obtain ⟨h1, rfl⟩ := hv j v hj
    have := hg.cell h1
    rwa [show (⟨g, 0, none⟩ : Addr).add j = ⟨g, j, none⟩ by cases j <;> simp [Addr.add]]
  · obtain ⟨j, hj, rfl⟩ := List.getElem_of_mem hm
    rw [(hv j _ (List.getElem?_eq_getElem hj)).2]
    rfl
  · rw [hl]
    refine h _ ⟨_, setRow_heap w q _ _ 4 _ hc1, ?_, fun j hj => ?_⟩ (below_setRow hb hBq _) (below_setRow (Below.refl _ _) hBq _)
    · simp [hl]
    · simp only [List.take_zero, List.nil_append, List.getElem?_toArray]
      rw [List.getElem?_append_left (by omega), List.getElem?_eq_getElem (by omega)]
      have h5 := hv j cs[j] (List.getElem?_eq_getElem (by omega))
      rw [h5.2]
/-- what 'append' of marks to nothing does -/
theorem wpList_append_bools {w : World} {ops : Array Oper} {rest : List Oper} {o : Oper} {a : Act} {Q : Exit → Act → World → Prop} (hw : Region.wanted o (yielded ops a.tmps) = true) (s x : Operand)
    (ho : o.op = .call { callee := .builtin .append, args := #[s, x], argTypes := #[40, 40] }) (g N c : Nat) (H : Bs) (hs : a.eval s = .slice none 0 0) (hx : a.eval x = bs g N c) (hg : Bools w g N H) (hN : N ≤ 1048576) (hN0 : 0 < N)
    (h : ∀ q c' w', w.heap.size ≤ q → Bools w' q N H → Below w.heap.size w w' → wpList Try.prog ops Q rest (a.put o.dst (bs q N c')) w') : wpList Try.prog ops Q (o :: rest) a w := by
  obtain ⟨i0, hi, hz0, hz1, hz2⟩ := info_parts Try.info4
  refine BigFrame.wpList_want hw fun K hK => ?_
  obtain ⟨cs, hcs⟩ : ∃ cs : List Value, cs = (List.range N).map fun j => Value.bool (H j) := ⟨_, rfl⟩
  obtain ⟨hl, hv⟩ := toList_bools hcs
  refine wp_append_own w s x 40 ho w.heap.size 4 i0 (.bool false) 1 1 Try.underlying40 hi hz0 hz1 hz2 rfl (by decide) (.slice none 0 0) 0 [] hs (World.ownsRow_nil _ _ _ _) ⟨g, 0, none⟩ N c cs hx (by rw [hl]; omega) (fun j v hj => ?_) (fun v hm => ?_) (by unfold maxLen; omega) (by omega) (Nat.le_refl _) ?_
  · obtain ⟨h1, rfl⟩ := hv j v hj
    have := hg.cell h1
    rwa [show (⟨g, 0, none⟩ : Addr).add j = ⟨g, j, none⟩ by cases j <;> simp [Addr.add]]
  · obtain ⟨j, hj, rfl⟩ := List.getElem_of_mem hm
    rw [(hv j _ (List.getElem?_eq_getElem hj)).2]
    rfl
  · intro v' w' hown hgrow _
    rw [List.nil_append, Nat.zero_add] at hown
    have hB : Below w.heap.size w w' := (Below.refl _ _).grown hgrow (Nat.le_refl _) (fun j hj => by simp [Value.ownBlock] at hj)
    rcases hown.2 with ⟨_, h0⟩ | ⟨q, cap, cur, rfl, hq, hh, hcap, hm, hcs2, ht⟩
    · omega
    · refine hK _ _ (h q cap w' hq ⟨cur, hh, by omega, fun j hj => ?_⟩ hB)
      have h6 : cs[j]? = some (.bool (H j)) := by rw [hcs, List.getElem?_map, List.getElem?_eq_getElem (by simpa using hj)]; simp
      rw [← ht, Nat.mul_one, List.getElem?_take_of_lt hj] at h6
      simpa using h6

/-- is there a mark in one that is not in the other -/
def moreB (H K : Bs) (n : Nat) : Bool := (List.range n).any fun j => H j && !K j
theorem moreB_next (H K : Bs) (n : Nat) : moreB H K (n + 1) = (moreB H K n || (H n && !K n)) := by
  unfold moreB
  rw [List.range_succ, List.any_append]
  simp
theorem moreB_some {H K : Bs} {n j : Nat} (hj : j < n) (h : (H j && !K j) = true) : moreB H K n = true := List.any_eq_true.2 ⟨j, List.mem_range.2 hj, h⟩
theorem moreB_none {H K : Bs} {n : Nat} (h : moreB H K n = false) : ∀ j, j < n → H j = true → K j = true := by
  intro j hj hH
  have := List.any_eq_false.1 h j (List.mem_range.2 hj)
  rw [hH] at this
  simpa using this

set_option maxHeartbeats 4000000 in
theorem more_any (g k N c1 c2 : Nat) (H K : Bs) (w : World) (hN : N ≤ 1048576) (hg : Bools w g N H) (hk : Bools w k N K) :
    Calls Try.prog 38 #[bs g N c1, bs k N c2] w fun e w' => e = .returned (.bool (moreB H K N)) ∧ w' = w := by
  have HG := hidden hg
  have HK := hidden hk
  have hgl := hg.lt
  have hkl := hk.lt
  clear hg hk
  go_enter Try.func38, Try.ntmps38
  go_wp2_with fail
  go_loop [5] (fun i => ∃ j : Nat, i = .int .i64 j ∧ j ≤ N ∧ Hid (moreB H K j = false)) (fun i => N - (intOf i).toNat)
  case atStart => exact ⟨0, rfl, Nat.zero_le _, rfl⟩
  case round =>
    obtain ⟨j, rfl, hj, HI⟩ := hrel
    by_cases hlt : j < N
    · have hji : (j : Int) < N := by omega
      have c1 := HG.out.cell hlt
      have c2 := HK.out.cell hlt
      have HNX := hidden (show moreB H K (j + 1) = (H j && !K j) by rw [moreB_next, HI.out]; rfl)
      have HSM := hidden (fun h => moreB_some (H := H) (K := K) hlt h)
      generalize H j = a at c1 HNX HSM
      generalize K j = b at c2 HNX HSM
      cases a
      · go_wp2_with fail
        first | (go_round; case rel => exact ⟨j + 1, by go_num, by omega, HNX.out⟩; case measure => simp [intOf]; omega) | exact ⟨⟨j + 1, by go_num, by omega, HNX.out⟩, by simp [intOf]; omega⟩
      · cases b
        · have HR := hidden (HSM.out rfl)
          go_wp2_with fail
          go_ret
          exact ⟨by rw [HR.out]; rfl, rfl⟩
        · go_wp2_with fail
          first | (go_round; case rel => exact ⟨j + 1, by go_num, by omega, HNX.out⟩; case measure => simp [intOf]; omega) | exact ⟨⟨j + 1, by go_num, by omega, HNX.out⟩, by simp [intOf]; omega⟩
    · obtain rfl : j = N := by omega
      have hji : ¬ (j : Int) < j := by omega
      have HR := hidden HI.out
      go_wp2_with fail
      go_ret
      exact ⟨by rw [HR.out]; rfl, rfl⟩

/-- marks of either, up to a place -/
def bothTo (H K : Bs) (n : Nat) : Bs := fun j => decide (j < n) && (H j || K j)
set_option maxHeartbeats 4000000 in
theorem both_any (g k N c1 c2 : Nat) (H K : Bs) (w : World) (hN : N ≤ 1048576) (hN0 : 0 < N) (hg : Bools w g N H) (hk : Bools w k N K) :
    Calls Try.prog 37 #[bs g N c1, bs k N c2] w fun e w' => (∃ q, e = .returned (bs q N N) ∧ w.heap.size ≤ q ∧ Bools w' q N (fun j => H j || K j)) ∧ Below w.heap.size w w' := by
  obtain ⟨i0, hi, hz0, hz1, hz2⟩ := info_parts Try.info4
  have HG := hidden hg
  have HK := hidden hk
  have hgl := hg.lt
  have hkl := hk.lt
  clear hg hk
  go_enter Try.func37, Try.ntmps37
  go_wp2_with (at_make; refine wpList_make_full _ rfl _ _ 40 rfl w.heap.size 4 i0 (.bool false) 1 Try.underlying40 hi hz0 hz1 .i64 .i64 _ _ N rfl rfl (by omega) (by omega) (by rw [hz2]; omega) (by unfold maxLen; omega) (Nat.le_refl _) ?_; intro w1 hown1 hgrow1)
  have HT1 := hidden (Bools.of_made hown1)
  have HB1 := hidden ((Below.refl w.heap.size w).grown hgrow1 (Nat.le_refl _) (fun k hk => by cases hk))
  have HG1 := hidden (HG.out.later HB1.out)
  have HK1 := hidden (HK.out.later HB1.out)
  clear hown1 hgrow1
  go_loopw [6] (fun i wr => ∃ j : Nat, i = .int .i64 j ∧ j ≤ N ∧ Hid (Bools wr w.heap.size N (bothTo H K j) ∧ Bools wr g N H ∧ Bools wr k N K ∧ Below w.heap.size w wr)) (fun i _ => N - (intOf i).toNat)
  case atStart => exact ⟨0, rfl, Nat.zero_le _, HT1.out.ext (fun j _ => by simp [bothTo, none_]), HG1.out, HK1.out, HB1.out⟩
  case round =>
    obtain ⟨j, rfl, hj, hT, hG, hK, hB⟩ := hrel
    by_cases hlt : j < N
    · have hji : (j : Int) < N := by omega
      have c1 := hG.cell hlt
      have c2 := hK.cell hlt
      have c3 := hT.cell hlt
      have f3 := hT.thawed j
      have l1 := hG.lt
      have l2 := hK.lt
      have l3 := hT.lt
      have HT := hidden hT
      have HG2 := hidden hG
      have HK2 := hidden hK
      have HB := hidden hB
      have HST := hidden (show ∀ b, b = (H j || K j) → ∀ x, x < N → bothTo H K (j + 1) x = if x = j then b else bothTo H K j x from fun b hb x _ => by
        unfold bothTo
        by_cases e : x = j
        · subst e; rw [if_pos rfl, hb]; simp
        · rw [if_neg e, show decide (x < j + 1) = decide (x < j) by rw [decide_eq_decide]; omega])
      generalize H j = a at c1 HST
      generalize K j = b at c2 HST
      clear hT hG hK hB
      cases a
      · go_wp2_with fail
        go_roundw
        case rel => exact ⟨j + 1, by go_num, by omega, HT.out.set j b _ (HST.out b rfl), HG2.out.other (by omega), HK2.out.other (by omega), HB.out.setCell (p := ⟨w.heap.size, j, none⟩) (Nat.le_refl _) _⟩
        case measure => simp [intOf]; omega
      · go_wp2_with fail
        go_roundw
        case rel => exact ⟨j + 1, by go_num, by omega, HT.out.set j true _ (HST.out true rfl), HG2.out.other (by omega), HK2.out.other (by omega), HB.out.setCell (p := ⟨w.heap.size, j, none⟩) (Nat.le_refl _) _⟩
        case measure => simp [intOf]; omega
    · obtain rfl : j = N := by omega
      have hji : ¬ (j : Int) < j := by omega
      have HT := hidden hT
      have HB := hidden hB
      clear hT hG hK hB
      go_wp2_with fail
      go_ret
      exact ⟨⟨w.heap.size, rfl, Nat.le_refl _, HT.out.ext (fun x hx => by simp [bothTo, hx])⟩, HB.out⟩

theorem bit_has (f : Bs) (n q : Nat) (hq : q = n / 64) : (bits BinOp.and IntKind.u64 (((word f q : Nat) : Int) / 2 ^ (n % 64)) 1 == 1) = f n := by
  subst hq
  have hwl := word_lt f (n / 64)
  have h4 := word_has f n
  have e1 : ((word f (n / 64) : Int) / 2 ^ (n % 64)) = ((word f (n / 64) / 2 ^ (n % 64) : Nat) : Int) := by
    rw [Int.natCast_ediv, Int.natCast_pow]; rfl
  have e2 : word f (n / 64) / 2 ^ (n % 64) < 18446744073709551616 := Nat.lt_of_le_of_lt (Nat.div_le_self _ _) hwl
  have e3 := u64_and_nat (word f (n / 64) / 2 ^ (n % 64)) 1 e2 (by decide)
  rw [e1, show (1 : Int) = ((1 : Nat) : Int) from rfl, e3]
  by_cases h : f n = true
  · rw [h, h4.mpr h]; rfl
  · have h5 : ¬ (word f (n / 64) / 2 ^ (n % 64) &&& 1 = 1) := fun e => h (h4.mp e)
    rw [Bool.not_eq_true] at h
    rw [h, beq_eq_false_iff_ne]
    intro e
    exact h5 (by exact_mod_cast e)
/-- is a byte one of a node's -/
def hasQ (x : Nd) (c : Nat) : Bool := match x with | .mk k f _ _ _ => k == 2 && f c
set_option maxHeartbeats 4000000 in
theorem inSet_any (x : Nd) (v : Value) (c : UInt8) (w : World) (A : Nat → Prop) (hx : NodeAt w A v x) :
    Calls Try.prog 36 #[v, .int .u8 c.toNat] w fun e w' => e = .returned (.bool (hasQ x c.toNat)) ∧ Below w.heap.size w w' := by
  obtain ⟨k, f, kids, lo, hi⟩ := x
  obtain ⟨kv, rfl, ka, kc, vs, rfl, _⟩ := hx.open
  have HB0 := hidden (Below.refl w.heap.size w)
  have hc : c.toNat < 256 := c.toNat_lt
  obtain ⟨n, hn⟩ : ∃ n, n = c.toNat := ⟨_, rfl⟩
  rw [← hn] at hc ⊢
  clear hx hn
  unfold nodeV
  by_cases hk : k = 2
  · subst hk
    have HH := hidden (show hasQ (.mk 2 f kids lo hi) n = f n by unfold hasQ; simp)
    have hq : n / 64 < 4 := by omega
    have hw := words_at f (n / 64) hq
    have hw2 : ∀ h, [Value.int .u64 (word f 0), Value.int .u64 (word f 1), Value.int .u64 (word f 2), Value.int .u64 (word f 3)][n / 64]'h = .int .u64 (word f (n / 64)) := fun h => (List.getElem?_eq_some_iff.1 hw).2
    have hwl := word_lt f (n / 64)
    have HW := hidden (word_has f n)
    go_enter Try.func36, Try.ntmps36
    rcases (by omega : n / 64 = 0 ∨ n / 64 = 1 ∨ n / 64 = 2 ∨ n / 64 = 3) with hqq | hqq | hqq | hqq
    all_goals
      rw [hqq] at hw hw2 hwl
      go_wp2_with fail
      go_ret
      refine ⟨ret_bool ?_, by (with_reducible (repeat (first | exact HB0.out | apply bel_alloc | apply bel_put | apply bel_set | apply Below.drew | apply below_drewN | omega)))⟩
      rw [HH.out]
      exact bit_has f n _ (by rw [hqq])
  · have hkb : (k == 2) = false := by rw [beq_eq_false_iff_ne]; exact hk
    have HH := hidden (show hasQ (.mk k f kids lo hi) n = false by show (k == 2 && f n) = false; rw [hkb]; rfl)
    clear hk
    go_enter Try.func36, Try.ntmps36
    go_wp2_with fail
    go_ret
    exact ⟨by rw [HH.out]; rfl, by (with_reducible (repeat (first | exact HB0.out | apply bel_alloc | apply bel_put | apply bel_set | apply Below.drew | apply below_drewN | omega)))⟩

end Go.Proofs.Ytjlihidmohokhaa
