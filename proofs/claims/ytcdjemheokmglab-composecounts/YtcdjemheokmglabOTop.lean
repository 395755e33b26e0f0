
/-
  What the program's rightAlone, Right, Olds, News and Changes answer at any steps that lie in memory; conditions: the lists' and texts' lengths.
-/
import Derived.Test.YtcdjemheokmglabORange
namespace Go.Proofs.Ytcdjemheokmglab
open Go.RowKit Go.Proofs.Ytcdjemheokmglab.Ln Go.Proofs.Ytcdjemheokmglab.Ol

/-- a step as a value -/
def opV (x : Oq) : Value := .agg #[.int .i64 x.1, .int .i64 x.2.1, .string ⟨x.2.2.toArray⟩]
/-- a side's steps -/
def sd (own : Int) (xs : List Oq) : List Oq := xs.filter (on own)
theorem sd_snoc_on {own : Int} {xs : List Oq} {k : Nat} {x : Oq} (h : xs[k]? = some x) (ho : on own x = true) : sd own (xs.take (k + 1)) = sd own (xs.take k) ++ [x] := by
  rw [take_snoc h]; simp [sd, List.filter_append, ho]
theorem sd_snoc_off {own : Int} {xs : List Oq} {k : Nat} {x : Oq} (h : xs[k]? = some x) (ho : on own x = false) : sd own (xs.take (k + 1)) = sd own (xs.take k) := by
  rw [take_snoc h]; simp [sd, List.filter_append, ho]
theorem sd_at {own : Int} {xs : List Oq} {k : Nat} {x : Oq} (h : xs[k]? = some x) (ho : on own x = true) : (sd own xs)[(sd own (xs.take k)).length]? = some x := by
  have e := cut_at h
  have : sd own xs = sd own (xs.take k) ++ (x :: sd own (xs.drop (k + 1))) := by
    conv => lhs; rw [e]
    simp [sd, List.filter_append, ho]
  rw [this, List.getElem?_append_right (Nat.le_refl _), Nat.sub_self]; rfl

set_option maxHeartbeats 4000000 in
theorem side1_any (own : Int) (v : Value) (xs : List Oq) (c l : Nat) (J : Nat → World → Prop) (Jx : World → Prop)
    (hE : ∀ k W, J k W → OpsAt W v xs ∧ Boxed W c 22 v ∧ Boxed W (c + 1) 3 (.int .i64 own))
    (hst : ∀ k W W', J k W → Below W.heap.size W W' → J k W')
    (hY : ∀ k x W, (sd own xs)[k]? = some x → J k W → ∀ m, YieldAt Fence.wide m Try.prog l #[opV x] W fun e W' => (e = .returned (.bool true) ∧ J (k + 1) W') ∨ (e = .returned (.bool false) ∧ Jx W'))
    (hl : xs.length ≤ 4398046511104) (W : World) (h0 : J 0 W) :
    Calls Try.prog 39 #[.func (.yield l) #[] #[], .pointer (some ⟨c, 0, none⟩), .pointer (some ⟨c + 1, 0, none⟩)] W fun e W' => (∃ v, e = .returned v) ∧ (J (sd own xs).length W' ∨ Jx W') := by
  have HE := hidden hE
  have HST := hidden hst
  have HY := hidden hY
  have H0 := hidden h0
  obtain ⟨q1, q2, q3⟩ := hE _ _ h0
  have z1 := q2.cell
  clear hE hst hY h0 q2 q3
  by_cases hne : xs = []
  · subst hne
    obtain ⟨ao, cap, rfl⟩ := q1.shape
    clear q1
    replace z1 : W.cell? ⟨c, 0, none⟩ = some (.slice ao 0 cap) := z1
    go_enter Try.func39, Try.ntmps39
    go_wp2_with fail
    refine wp_loop_rounds 1 ?_
    rw [rounds_succ]
    go_wp2_with fail
    go_end0
    exact ⟨⟨_, rfl⟩, Or.inl H0.out⟩
  · obtain ⟨b, o, cap, rfl, hcap, hb, hc⟩ := q1.cells hne
    clear q1 hc hb
    go_enter Try.func39, Try.ntmps39
    go_wp2_with fail
    go_loopw [8] (fun i wr => ∃ k : Nat, k ≤ xs.length ∧ i = .int .i64 k ∧ Hid (J (sd own (xs.take k)).length wr)) (fun i _ => xs.length - (intOf i).toNat)
    case atStart => exact ⟨0, Nat.zero_le _, rfl, H0.out⟩
    case round =>
      obtain ⟨k, hk, rfl, hJ⟩ := hrel
      by_cases hlt : k < xs.length
      · obtain ⟨x1, x2, x3, hx⟩ := op_some hlt
        obtain ⟨q1, q2, q3⟩ := HE.out _ _ hJ.out
        obtain ⟨b', o', cap', hv, _, hb, hc⟩ := q1.cells hne
        cases hv
        obtain ⟨c1, c2, c3⟩ := three_later hb (Below.refl _ _) (hc k _ hx)
        simp only at c1 c2 c3
        have z2 := q3.cell
        have z2l := q3.lt
        have HX := hidden hx
        clear q1 q2 q3 hc hx
        by_cases h : x1 = 1
        · subst h
          have HON := hidden (show on own (1, x2, x3) = true by simp [on])
          go_upto_region 4 with fail
          generalize hW2 : World.alloc _ _ = W2
          have HJ2 := hidden (show J (sd own (xs.take k)).length W2 by rw [← hW2]; exact HST.out _ _ _ hJ.out ((Below.refl _ _).alloc (Nat.le_refl _) _))
          have d1 : W2.cell? ⟨wr.heap.size, 0, none⟩ = some (.int .i64 1) := by rw [← hW2]; simp
          have d2 : W2.cell? ⟨wr.heap.size, 1, none⟩ = some (.int .i64 x2) := by rw [← hW2]; simp
          have d3 : W2.cell? ⟨wr.heap.size, 2, none⟩ = some (.string ⟨x3.toArray⟩) := by rw [← hW2]; simp
          have dl : wr.heap.size < W2.heap.size := by rw [← hW2]; simp
          clear hW2 c1 c2 c3 z2
          obtain ⟨fn, tmps, assign, body, hy, hR⟩ := HY.out _ (1, x2, x3) W2 (sd_at HX.out HON.out) HJ2.out (3 - 1)
          unfold opV at hy
          refine (wpIn_wide (n := 3)).1 ?_
          gi_wp2
          refine hR.mono ?_
          clear hy hR HJ2
          rintro e w4 (⟨rfl, hJ4⟩ | ⟨rfl, hx4⟩)
          · have HJ4 := hidden (show J (sd own (xs.take (k + 1))).length w4 by rw [sd_snoc_on HX.out HON.out, List.length_append]; exact hJ4)
            clear hJ4
            gi_wp2
            go_wp2_with fail
            go_roundw
            case rel => exact ⟨k + 1, by omega, by go_num, HJ4.out⟩
            case measure => simp [intOf]; omega
          · have HX4 := hidden hx4
            clear hx4
            gi_wp2
            go_wp2_with fail
            refine bodyPost_ret (results_none rfl _ _ _) rfl ?_
            exact ⟨⟨_, rfl⟩, Or.inr HX4.out⟩
        have h1 := h
        have n1 : (x1 == 1) = false := by simpa using h
        have m1 : (x1 != 1) = true := by simpa using h
        clear h
        by_cases h : x1 = 2
        · subst h
          have HON := hidden (show on own (2, x2, x3) = true by simp [on])
          go_upto_region 4 with fail
          generalize hW2 : World.alloc _ _ = W2
          have HJ2 := hidden (show J (sd own (xs.take k)).length W2 by rw [← hW2]; exact HST.out _ _ _ hJ.out ((Below.refl _ _).alloc (Nat.le_refl _) _))
          have d1 : W2.cell? ⟨wr.heap.size, 0, none⟩ = some (.int .i64 2) := by rw [← hW2]; simp
          have d2 : W2.cell? ⟨wr.heap.size, 1, none⟩ = some (.int .i64 x2) := by rw [← hW2]; simp
          have d3 : W2.cell? ⟨wr.heap.size, 2, none⟩ = some (.string ⟨x3.toArray⟩) := by rw [← hW2]; simp
          have dl : wr.heap.size < W2.heap.size := by rw [← hW2]; simp
          clear hW2 c1 c2 c3 z2
          obtain ⟨fn, tmps, assign, body, hy, hR⟩ := HY.out _ (2, x2, x3) W2 (sd_at HX.out HON.out) HJ2.out (3 - 1)
          unfold opV at hy
          refine (wpIn_wide (n := 3)).1 ?_
          gi_wp2
          refine hR.mono ?_
          clear hy hR HJ2
          rintro e w4 (⟨rfl, hJ4⟩ | ⟨rfl, hx4⟩)
          · have HJ4 := hidden (show J (sd own (xs.take (k + 1))).length w4 by rw [sd_snoc_on HX.out HON.out, List.length_append]; exact hJ4)
            clear hJ4
            gi_wp2
            go_wp2_with fail
            go_roundw
            case rel => exact ⟨k + 1, by omega, by go_num, HJ4.out⟩
            case measure => simp [intOf]; omega
          · have HX4 := hidden hx4
            clear hx4
            gi_wp2
            go_wp2_with fail
            refine bodyPost_ret (results_none rfl _ _ _) rfl ?_
            exact ⟨⟨_, rfl⟩, Or.inr HX4.out⟩
        have h2 := h
        have n2 : (x1 == 2) = false := by simpa using h
        have m2 : (x1 != 2) = true := by simpa using h
        clear h
        by_cases h : x1 = own
        · subst h
          have HON := hidden (show on x1 (x1, x2, x3) = true by simp [on])
          go_upto_region 4 with fail
          generalize hW2 : World.alloc _ _ = W2
          have HJ2 := hidden (show J (sd x1 (xs.take k)).length W2 by rw [← hW2]; exact HST.out _ _ _ hJ.out ((Below.refl _ _).alloc (Nat.le_refl _) _))
          have d1 : W2.cell? ⟨wr.heap.size, 0, none⟩ = some (.int .i64 x1) := by rw [← hW2]; simp
          have d2 : W2.cell? ⟨wr.heap.size, 1, none⟩ = some (.int .i64 x2) := by rw [← hW2]; simp
          have d3 : W2.cell? ⟨wr.heap.size, 2, none⟩ = some (.string ⟨x3.toArray⟩) := by rw [← hW2]; simp
          have dl : wr.heap.size < W2.heap.size := by rw [← hW2]; simp
          clear hW2 c1 c2 c3 z2
          obtain ⟨fn, tmps, assign, body, hy, hR⟩ := HY.out _ (x1, x2, x3) W2 (sd_at HX.out HON.out) HJ2.out (3 - 1)
          unfold opV at hy
          refine (wpIn_wide (n := 3)).1 ?_
          gi_wp2
          refine hR.mono ?_
          clear hy hR HJ2
          rintro e w4 (⟨rfl, hJ4⟩ | ⟨rfl, hx4⟩)
          · have HJ4 := hidden (show J (sd x1 (xs.take (k + 1))).length w4 by rw [sd_snoc_on HX.out HON.out, List.length_append]; exact hJ4)
            clear hJ4
            gi_wp2
            go_wp2_with fail
            go_roundw
            case rel => exact ⟨k + 1, by omega, by go_num, HJ4.out⟩
            case measure => simp [intOf]; omega
          · have HX4 := hidden hx4
            clear hx4
            gi_wp2
            go_wp2_with fail
            refine bodyPost_ret (results_none rfl _ _ _) rfl ?_
            exact ⟨⟨_, rfl⟩, Or.inr HX4.out⟩
        have h3 := h
        have n3 : (x1 == own) = false := by simpa using h
        have m3 : (x1 != own) = true := by simpa using h
        clear h
        have HON := hidden (show on own (x1, x2, x3) = false by simp [on, h1, h2, h3])
        have HJ2 := hidden (show J (sd own (xs.take (k + 1))).length (wr.alloc (.cells #[.int .i64 x1, .int .i64 x2, .string ⟨x3.toArray⟩] 30)) by rw [sd_snoc_off HX.out HON.out]; exact HST.out _ _ _ hJ.out ((Below.refl _ _).alloc (Nat.le_refl _) _))
        go_wp2_with fail
        go_roundw
        case rel => exact ⟨k + 1, by omega, by go_num, HJ2.out⟩
        case measure => simp [intOf]; omega
      · have hke : k = xs.length := by omega
        go_wp2_with fail
        go_end0
        exact ⟨⟨_, rfl⟩, Or.inl (by have := hJ.out; rw [hke, List.take_length] at this; exact this)⟩

theorem tot_sd (own : Int) (xs : List Oq) : tot own (sd own xs) = tot own xs := by
  induction xs with
  | nil => rfl
  | cons x l ih =>
    unfold sd at ih ⊢
    rw [List.filter_cons]
    by_cases h : on own x = true
    · rw [if_pos h]; simp only [tot, ih]
    · rw [if_neg h]
      have : ln own x = 0 := by
        simp only [on, Bool.or_eq_true, beq_iff_eq, not_or] at h
        unfold ln
        rw [if_neg h.1.1, if_neg (by intro e; rcases e with e | e; (· exact h.1.2 e); exact h.2 e)]
      simp only [tot, this, ih]; omega
theorem rsl_sd (own : Int) (xs : List Oq) : ∀ s, (sd own xs).foldl (rs own) s = xs.foldl (rs own) s := by
  induction xs with
  | nil => intro s; rfl
  | cons x l ih =>
    intro s
    unfold sd at ih ⊢
    rw [List.filter_cons]
    by_cases h : on own x = true
    · rw [if_pos h]; simp only [List.foldl_cons, ih]
    · rw [if_neg h, List.foldl_cons, ih]
      have h2 : on own x = false := by simpa using h
      simp only [rs, h2]; rfl
theorem sd_on {own : Int} {xs : List Oq} {k : Nat} {x : Oq} (h : (sd own xs)[k]? = some x) : on own x = true := (List.mem_filter.1 (List.mem_of_getElem? h)).2
theorem rs_none (own : Int) (l : List Oq) : l.foldl (rs own) none = none := by
  induction l with
  | nil => rfl
  | cons x l ih =>
    rw [List.foldl_cons]
    have : rs own none x = none := by unfold rs; split <;> simp
    rw [this]; exact ih
/-- an end ahead of the end breaks a side -/
theorem rsl_broken {own : Int} {xs : List Oq} {k : Nat} {x : Oq} (h : (sd own xs)[k]? = some x) (he : ((sd own xs).take k).foldl (rs own) (some false) = some true) : rsl own xs = none := by
  have e := cut_at h
  unfold rsl
  rw [← rsl_sd]
  rw [e, List.foldl_append, he, List.foldl_cons]
  have : rs own (some true) x = none := by simp [rs, sd_on h]
  rw [this, rs_none]

theorem side_any (own : Int) (ao : Option Addr) (n cap : Nat) (W : World) :
    Calls Try.prog 32 #[.slice ao n cap, .int .i64 own] W fun e w' => e = .returned (.func (.func 39) #[] #[.pointer (some ⟨W.heap.size, 0, none⟩), .pointer (some ⟨W.heap.size + 1, 0, none⟩)]) ∧ w' = (W.alloc (.cells #[.slice ao n cap] 22)).alloc (.cells #[.int .i64 own] 3) := by
  go_enter Try.func32, Try.ntmps32
  go_wp2
  go_ret
  exact ⟨rfl, rfl⟩

/-- what count keeps -/
structure CI (w : World) (own : Int) (v : Value) (xs : List Oq) (k : Nat) (W : World) : Prop where
  bel : Below w.heap.size w W
  sum : Boxed W w.heap.size 3 (.int .i64 (cnt own ((sd own xs).take k)))
  k1 : Boxed W (w.heap.size + 1) 22 v
  k2 : Boxed W (w.heap.size + 1 + 1) 3 (.int .i64 own)
theorem CI.later {w : World} {own : Int} {v : Value} {xs : List Oq} {k : Nat} {W W' : World} (h : CI w own v xs k W) (hb : Below W.heap.size W W') : CI w own v xs k W' :=
  ⟨h.bel.trans (hb.mono h.bel.size), box_later h.sum hb, box_later h.k1 hb, box_later h.k2 hb⟩
theorem CI.putObj {w : World} {own : Int} {v : Value} {xs : List Oq} {k : Nat} {W : World} (h : CI w own v xs k W) {l : Nat} (o' : Obj) (hl : w.heap.size + 1 + 1 + 1 ≤ l) : CI w own v xs k (W.putObj l o') :=
  ⟨bel_put h.bel _ (by omega), box_keep h.sum (World.putObj_heap_other (by omega)), box_keep h.k1 (World.putObj_heap_other (by omega)), box_keep h.k2 (World.putObj_heap_other (by omega))⟩
theorem heap_setCell_ne (W : World) (b i k : Nat) (u : Value) (h : k ≠ b) : (W.setCell ⟨b, i, none⟩ u).heap[k]? = W.heap[k]? := by
  exact Below.heap_setCell W ⟨b, i, none⟩ u k h
theorem CI.step {w : World} {own : Int} {v : Value} {xs : List Oq} {k : Nat} {W : World} (h : CI w own v xs k W) (x : Oq) (hx : (sd own xs)[k]? = some x) (z : Int) (hz : z = min (cnt own ((sd own xs).take k) + min (ln own x) 1099511627776) 1099511627776) :
    CI w own v xs (k + 1) (W.setCell ⟨w.heap.size, 0, none⟩ (.int .i64 z)) := by
  have h2 := h
  refine ⟨bel_set h2.bel (Nat.le_refl _), ?_, box_keep h2.k1 (heap_setCell_ne _ _ _ _ _ (by omega)), box_keep h2.k2 (heap_setCell_ne _ _ _ _ _ (by omega))⟩
  rw [take_snoc hx, cnt_snoc, ← hz]
  exact Boxed.set _ h2.sum
/-- a step's own variable, in a round's world -/
theorem op_new (W : World) (x1 x2 : Int) (x3 : Tx) (l : Nat) (o' : Obj) (hl : l < W.heap.size) :
    ((W.alloc (.cells #[.int .i64 x1, .int .i64 x2, .string ⟨x3.toArray⟩] 30)).putObj l o').cell? ⟨W.heap.size, 0, none⟩ = some (.int .i64 x1) ∧ ((W.alloc (.cells #[.int .i64 x1, .int .i64 x2, .string ⟨x3.toArray⟩] 30)).putObj l o').cell? ⟨W.heap.size, 1, none⟩ = some (.int .i64 x2) ∧ ((W.alloc (.cells #[.int .i64 x1, .int .i64 x2, .string ⟨x3.toArray⟩] 30)).putObj l o').cell? ⟨W.heap.size, 2, none⟩ = some (.string ⟨x3.toArray⟩) := by
  have h : ((W.alloc (.cells #[.int .i64 x1, .int .i64 x2, .string ⟨x3.toArray⟩] 30)).putObj l o').heap[W.heap.size]? = some (.cells #[.int .i64 x1, .int .i64 x2, .string ⟨x3.toArray⟩] 30 (0, 0)) := by
    rw [World.putObj_heap_other (by omega)]; exact World.alloc_heap_new W _
  refine ⟨?_, ?_, ?_⟩ <;> (unfold World.cell?; rw [h]; rfl)
theorem on_ln {own : Int} {x : Oq} (h : on own x = true) (h1 : ¬ x.1 = 1) : ln own x = 1 := by
  simp only [on, Bool.or_eq_true, beq_iff_eq] at h
  unfold ln
  rw [if_neg h1, if_pos (by rcases h with (h | h) | h; (· exact absurd h h1); (· exact Or.inl h); exact Or.inr h)]

set_option maxRecDepth 4000 in
set_option maxHeartbeats 8000000 in
theorem count_any (own : Int) (v : Value) (xs : List Oq) (w : World) (hr : OpsAt w v xs) (hl : xs.length ≤ 4398046511104) :
    Calls Try.prog 34 #[v, .int .i64 own] w fun e w' => e = .returned (.int .i64 (cnt own xs)) ∧ Below w.heap.size w w' := by
  have HR := hidden hr
  obtain ⟨ao, cap, rfl⟩ := hr.shape
  clear hr
  refine (callsIn_wide (n := 5)).1 (callsIn_of_wp_marks Try.func34 rfl trivial (wpIn_wide.2 (wp_mono (Q := lookPost _ _) ?_ (fun e a w h => lookPost_is e a w h))) rfl)
  simp only [Try.ntmps34, List.size_toArray, List.length_cons, List.length_nil, Nat.reduceAdd, Nat.reduceSub, Array.replicate_succ, Array.replicate_zero, List.push_toArray, List.append_toArray, List.nil_append, List.cons_append]
  go_wp2_with fail
  refine (side_any own ao xs.length cap _).mono ?_
  rintro e w2 ⟨rfl, hw2⟩
  have HI0 := hidden (show CI w own (.slice ao xs.length cap) xs 0 w2 by
    rw [hw2]
    refine ⟨bel_alloc (bel_alloc (bel_alloc (Below.refl _ _) _) _) _, ?_, ?_, ?_⟩
    · exact ((Boxed.new w 3 (.int .i64 0)).alloc _).alloc _
    · have := (Boxed.new (w.alloc (.cells #[.int .i64 0] 3)) 22 (.slice ao xs.length cap)).alloc (.cells #[.int .i64 own] 3)
      rw [World.size_alloc] at this; exact this
    · have := Boxed.new ((w.alloc (.cells #[.int .i64 0] 3)).alloc (.cells #[.slice ao xs.length cap] 22)) 3 (.int .i64 own)
      rw [World.size_alloc, World.size_alloc] at this; exact this)
  have hw2s : w2.heap.size = w.heap.size + 1 + 1 + 1 := by rw [hw2]; simp
  clear hw2
  simp only [World.size_alloc]
  go_wp2_with fail
  refine wp_range_cells (gf := 39) (lb := #[.pointer (some ⟨w.heap.size + 1, 0, none⟩), .pointer (some ⟨w.heap.size + 1 + 1, 0, none⟩)]) rfl (enters_of Try.func39 (by kernel_rfl) rfl) rfl (CI w own (.slice ao xs.length cap) xs) (fun _ _ => False) (fun k v y => ∃ x, (sd own xs)[k]? = some x ∧ v = opV x ∧ y = k + 1) (fun k => k = (sd own xs).length) (fun x W o h => h.later ((Below.refl _ W).alloc (Nat.le_refl _) o)) (fun x W l o o' h hl ho hc => h.putObj o' (by omega)) (fun c W l o o' h hl ho hc => h) 0 HI0.out ?hround ?hiter ?hdone ?hstop
  case hround =>
    rintro l k y0 v W hI ⟨⟨x1, x2, x3⟩, hx, rfl, rfl⟩ hl0 hlW hlo
    have hsem : ∀ (ρ : Operand → Value) (o : Oper), (∀ c, o.op ≠ .defer c) → Oper.semAt (some l) ρ o = execOp ρ o := fun ρ o h => Oper.semAt_some l ρ o h
    have hmx : Try.prog.follows .mixedOrders = true := by kernel_rfl
    have hcp := cnt_pos own ((sd own xs).take k)
    have HI2 := hidden (fun (o o' : Obj) => (hI.later ((Below.refl _ W).alloc (Nat.le_refl _) o)).putObj (l := l) o' (by omega))
    have HO := hidden (sd_on hx)
    have HX := hidden hx
    have hws := hI.bel.size
    clear hI hx
    unfold opV
    simp only [List.zip_toArray, List.zip_cons_cons, List.zip_nil_right]
    gi_wp2
    refine ⟨KeepsOthers.alloc _ _, fun o' => ?_⟩
    have hI2 := HI2.out (.cells #[.int .i64 x1, .int .i64 x2, .string ⟨x3.toArray⟩] 30) o'
    have d1 := op_new W x1 x2 x3 l o' hlW
    clear HI2
    generalize World.putObj _ l o' = W2 at hI2 d1 ⊢
    obtain ⟨d1, d2, d3⟩ := d1
    have z1 := hI2.sum.cell
    have z1f := hI2.sum.frozen
    have z1l := hI2.sum.lt
    generalize hC : cnt own ((sd own xs).take k) = C at z1 hcp
    have HS := hidden (show ∀ z, z = min (C + min (ln own (x1, x2, x3)) 1099511627776) 1099511627776 → CI w own (.slice ao xs.length cap) xs (k + 1) (W2.setCell ⟨w.heap.size, 0, none⟩ (.int .i64 z)) from fun z hz => hI2.step _ HX.out z (by rw [hC]; exact hz))
    clear hI2 hC
    have hne : W.heap.size ≠ w.heap.size := by omega
    by_cases h1 : x1 = 1
    · subst h1
      have HLN := hidden (show ln own (1, x2, x3) = max x2 0 by simp [ln])
      gi_wp2
      exact ⟨KeepsOthers.setCell _ _ _, k + 1, ⟨_, HX.out, rfl, rfl⟩, HS.out _ (by rw [HLN.out])⟩
    · have h1b : (x1 == 1) = false := by simpa using h1
      have HLN := hidden (on_ln HO.out h1)
      gi_wp2
      exact ⟨KeepsOthers.setCell _ _ _, k + 1, ⟨_, HX.out, rfl, rfl⟩, HS.out _ (by rw [HLN.out]; rfl)⟩
  case hiter =>
    intro l J Jx W hJ hst h0 hY
    refine (side1_any own (.slice ao xs.length cap) xs (w.heap.size + 1) l J Jx (fun k W h => ⟨HR.out.later (hJ _ _ h).bel, (hJ _ _ h).k1, (hJ _ _ h).k2⟩) (fun k W W' h hb => hst _ _ _ _ h ((hJ _ _ h).later hb) (keeps_below hb)) ?_ hl W h0).mono ?_
    · intro k x W hx hj m
      obtain ⟨fn, tmps, assign, body, hy, hR⟩ := hY k (opV x) (k + 1) W ⟨x, hx, rfl, rfl⟩ hj m
      refine ⟨fn, tmps, assign, body, hy, hR.mono ?_⟩
      rintro e W' (⟨rfl, y, ⟨x', hx', _, rfl⟩, hj'⟩ | h)
      · exact Or.inl ⟨rfl, hj'⟩
      · exact Or.inr h
    · rintro e W' ⟨hv, hj | hj⟩
      · exact ⟨hv, Or.inl ⟨_, hj, rfl⟩⟩
      · exact ⟨hv, Or.inr hj⟩
  case hdone =>
    rintro D x W hD rfl hI hK hold
    have z1 := hI.sum.cell
    rw [List.take_length, show cnt own (sd own xs) = cnt own xs by unfold cnt; rw [tot_sd]] at z1
    have HB := hidden hI.bel
    have HK := hidden hK
    clear hI hold hK
    go_wp2_with fail
    exact leaves_tmp rfl rfl (fun W hB => ⟨rfl, hB⟩) D _ (by omega) HK.out HB.out
  case hstop =>
    rintro D c W hD h
    exact h.elim

/-- what rightSide keeps -/
structure DI (w : World) (own : Int) (v : Value) (xs : List Oq) (k : Nat) (W : World) : Prop where
  bel : Below w.heap.size w W
  res : Boxed W w.heap.size 4 (.bool false)
  st : ∃ e, ((sd own xs).take k).foldl (rs own) (some false) = some e ∧ Boxed W (w.heap.size + 1) 4 (.bool e)
  k1 : Boxed W (w.heap.size + 1 + 1) 22 v
  k2 : Boxed W (w.heap.size + 1 + 1 + 1) 3 (.int .i64 own)
theorem DI.later {w : World} {own : Int} {v : Value} {xs : List Oq} {k : Nat} {W W' : World} (h : DI w own v xs k W) (hb : Below W.heap.size W W') : DI w own v xs k W' :=
  ⟨h.bel.trans (hb.mono h.bel.size), box_later h.res hb, by obtain ⟨e, h1, h2⟩ := h.st; exact ⟨e, h1, box_later h2 hb⟩, box_later h.k1 hb, box_later h.k2 hb⟩
theorem DI.putObj {w : World} {own : Int} {v : Value} {xs : List Oq} {k : Nat} {W : World} (h : DI w own v xs k W) {l : Nat} (o' : Obj) (hl : w.heap.size + 1 + 1 + 1 + 1 ≤ l) : DI w own v xs k (W.putObj l o') :=
  ⟨bel_put h.bel _ (by omega), box_keep h.res (World.putObj_heap_other (by omega)), by obtain ⟨e, h1, h2⟩ := h.st; exact ⟨e, h1, box_keep h2 (World.putObj_heap_other (by omega))⟩, box_keep h.k1 (World.putObj_heap_other (by omega)), box_keep h.k2 (World.putObj_heap_other (by omega))⟩
theorem DI.step {w : World} {own : Int} {v : Value} {xs : List Oq} {k : Nat} {W : World} (h : DI w own v xs k W) (x : Oq) (hx : (sd own xs)[k]? = some x) (he : ((sd own xs).take k).foldl (rs own) (some false) = some false) :
    DI w own v xs (k + 1) (W.setCell ⟨w.heap.size + 1, 0, none⟩ (.bool (opn x))) := by
  obtain ⟨e, _, h2⟩ := h.st
  refine ⟨bel_set h.bel (by omega), box_keep h.res (heap_setCell_ne _ _ _ _ _ (by omega)), ⟨opn x, ?_, Boxed.set _ h2⟩, box_keep h.k1 (heap_setCell_ne _ _ _ _ _ (by omega)), box_keep h.k2 (heap_setCell_ne _ _ _ _ _ (by omega))⟩
  rw [take_snoc hx, List.foldl_append, he]
  simp [rs, sd_on hx]
/-- how rightSide is left ahead of its end -/
def DX (w : World) (own : Int) (xs : List Oq) (c : Code) (W : World) : Prop := c = .ret ∧ Below w.heap.size w W ∧ Boxed W w.heap.size 4 (.bool false) ∧ rsl own xs = none
/-- are the texts short? -/
def Fit (xs : List Oq) : Prop := ∀ x ∈ xs, x.2.2.length ≤ 140737488355328
def sideB (own : Int) (xs : List Oq) : Bool := (rsl own xs).isSome && decide (tot own xs ≤ 2147483648)

set_option maxRecDepth 4000 in
set_option maxHeartbeats 8000000 in
theorem rightSide_any (own : Int) (v : Value) (xs : List Oq) (w : World) (hr : OpsAt w v xs) (hl : xs.length ≤ 4398046511104) (hf : Fit xs) :
    Calls Try.prog 23 #[v, .int .i64 own] w fun e w' => e = .returned (.bool (sideB own xs)) ∧ Below w.heap.size w w' := by
  have HR := hidden hr
  have HF := hidden hf
  obtain ⟨ao, cap, rfl⟩ := hr.shape
  clear hr hf
  refine (callsIn_wide (n := 5)).1 (callsIn_of_wp_marks Try.func23 rfl trivial (wpIn_wide.2 (wp_mono (Q := lookPost _ _) ?_ (fun e a w h => lookPost_is e a w h))) rfl)
  simp only [Try.ntmps23, List.size_toArray, List.length_cons, List.length_nil, Nat.reduceAdd, Nat.reduceSub, Array.replicate_succ, Array.replicate_zero, List.push_toArray, List.append_toArray, List.nil_append, List.cons_append]
  go_wp2_with fail
  refine (side_any own ao xs.length cap _).mono ?_
  rintro e w2 ⟨rfl, hw2⟩
  have HI0 := hidden (show DI w own (.slice ao xs.length cap) xs 0 w2 by
    rw [hw2]
    refine ⟨bel_alloc (bel_alloc (bel_alloc (bel_alloc (Below.refl _ _) _) _) _) _, ?_, ⟨false, rfl, ?_⟩, ?_, ?_⟩
    · exact (((Boxed.new w 4 (.bool false)).alloc _).alloc _).alloc _
    · have := ((Boxed.new (w.alloc (.cells #[.bool false] 4)) 4 (.bool false)).alloc (.cells #[.slice ao xs.length cap] 22)).alloc (.cells #[.int .i64 own] 3)
      rw [World.size_alloc] at this; exact this
    · have := (Boxed.new ((w.alloc (.cells #[.bool false] 4)).alloc (.cells #[.bool false] 4)) 22 (.slice ao xs.length cap)).alloc (.cells #[.int .i64 own] 3)
      rw [World.size_alloc, World.size_alloc] at this; exact this
    · have := Boxed.new (((w.alloc (.cells #[.bool false] 4)).alloc (.cells #[.bool false] 4)).alloc (.cells #[.slice ao xs.length cap] 22)) 3 (.int .i64 own)
      rw [World.size_alloc, World.size_alloc, World.size_alloc] at this; exact this)
  have hw2s : w2.heap.size = w.heap.size + 1 + 1 + 1 + 1 := by rw [hw2]; simp
  clear hw2
  simp only [World.size_alloc]
  go_wp2_with fail
  refine wp_range_cells (gf := 39) (lb := #[.pointer (some ⟨w.heap.size + 1 + 1, 0, none⟩), .pointer (some ⟨w.heap.size + 1 + 1 + 1, 0, none⟩)]) rfl (enters_of Try.func39 (by kernel_rfl) rfl) rfl (DI w own (.slice ao xs.length cap) xs) (DX w own xs) (fun k v y => ∃ x, (sd own xs)[k]? = some x ∧ v = opV x ∧ y = k + 1) (fun k => k = (sd own xs).length) (fun x W o h => h.later ((Below.refl _ W).alloc (Nat.le_refl _) o)) (fun x W l o o' h hl ho hc => h.putObj o' (by omega)) (fun c W l o o' h hl ho hc => ⟨h.1, bel_put h.2.1 _ (by omega), box_keep h.2.2.1 (World.putObj_heap_other (by omega)), h.2.2.2⟩) 0 HI0.out ?hround ?hiter ?hdone ?hstop
  case hround =>
    rintro l k y0 v W hI ⟨⟨x1, x2, x3⟩, hx, rfl, rfl⟩ hl0 hlW hlo
    have hsem : ∀ (ρ : Operand → Value) (o : Oper), (∀ c, o.op ≠ .defer c) → Oper.semAt (some l) ρ o = execOp ρ o := fun ρ o h => Oper.semAt_some l ρ o h
    have hmx : Try.prog.follows .mixedOrders = true := by kernel_rfl
    have HI2 := hidden (fun (o o' : Obj) => (hI.later ((Below.refl _ W).alloc (Nat.le_refl _) o)).putObj (l := l) o' (by omega))
    have HX := hidden hx
    have HF3 := hidden (show x3.length ≤ 140737488355328 from HF.out _ (List.mem_filter.1 (List.mem_of_getElem? hx)).1)
    have hws := hI.bel.size
    clear hI hx
    unfold opV
    simp only [List.zip_toArray, List.zip_cons_cons, List.zip_nil_right]
    gi_wp2
    refine ⟨KeepsOthers.alloc _ _, fun o' => ?_⟩
    have hI2 := HI2.out (.cells #[.int .i64 x1, .int .i64 x2, .string ⟨x3.toArray⟩] 30) o'
    have d1 := op_new W x1 x2 x3 l o' hlW
    clear HI2
    generalize World.putObj _ l o' = W2 at hI2 d1 ⊢
    obtain ⟨d1, d2, d3⟩ := d1
    obtain ⟨e0, he, hbe⟩ := hI2.st
    have z1 := hbe.cell
    have z1f := hbe.frozen
    have z1l := hbe.lt
    have z0 := hI2.res.cell
    have z0f := hI2.res.frozen
    have z0l := hI2.res.lt
    have HD := hidden hI2
    have HEE := hidden he
    clear hI2 he hbe
    have hne : W.heap.size ≠ w.heap.size := by omega
    have hne1 : W.heap.size ≠ w.heap.size + 1 := fun e => by rw [e] at d1; rw [d1] at z1; cases z1
    cases e0 with
    | true =>
      gi_wp2
      exact ⟨KeepsOthers.setCell _ _ _, rfl, bel_set HD.out.bel (Nat.le_refl _), Boxed.set _ HD.out.res, rsl_broken HX.out HEE.out⟩
    | false =>
      have HS := hidden (fun b (hb : b = opn (x1, x2, x3)) => hb ▸ HD.out.step _ HX.out HEE.out)
      by_cases h1 : x1 = 1
      · subst h1
        gi_wp2
        refine ⟨trivial, ?_⟩
        gi_wp2
        exact ⟨KeepsOthers.setCell _ _ _, k + 1, ⟨_, HX.out, rfl, rfl⟩, HS.out _ (by simp [opn])⟩
      · have h1b : (x1 == 1) = false := by simpa using h1
        have h1c : (x1 != 1) = true := by simpa using h1
        gi_wp2
        refine ⟨trivial, ?_⟩
        refine (CallsIn.inRound l (callsIn_wide.2 (suffix_any x3 _ HF3.out))).mono ?_
        rintro e w' ⟨rfl, rfl⟩
        gi_wp2
        exact ⟨KeepsOthers.setCell _ _ _, k + 1, ⟨_, HX.out, rfl, rfl⟩, HS.out _ (by simp [opn, h1])⟩
  case hiter =>
    intro l J Jx W hJ hst h0 hY
    refine (side1_any own (.slice ao xs.length cap) xs (w.heap.size + 1 + 1) l J Jx (fun k W h => ⟨HR.out.later (hJ _ _ h).bel, (hJ _ _ h).k1, (hJ _ _ h).k2⟩) (fun k W W' h hb => hst _ _ _ _ h ((hJ _ _ h).later hb) (keeps_below hb)) ?_ hl W h0).mono ?_
    · intro k x W hx hj m
      obtain ⟨fn, tmps, assign, body, hy, hR⟩ := hY k (opV x) (k + 1) W ⟨x, hx, rfl, rfl⟩ hj m
      refine ⟨fn, tmps, assign, body, hy, hR.mono ?_⟩
      rintro e W' (⟨rfl, y, ⟨x', hx', _, rfl⟩, hj'⟩ | h)
      · exact Or.inl ⟨rfl, hj'⟩
      · exact Or.inr h
    · rintro e W' ⟨hv, hj | hj⟩
      · exact ⟨hv, Or.inl ⟨_, hj, rfl⟩⟩
      · exact ⟨hv, Or.inr hj⟩
  case hdone =>
    rintro D x W hD rfl hI hK hold
    have HI := hidden hI
    have HK := hidden hK
    obtain ⟨e0, he, _⟩ := hI.st
    rw [List.take_length, rsl_sd] at he
    have HRS := hidden (show (rsl own xs).isSome = true by unfold rsl; rw [he]; rfl)
    clear hI hold hK he
    go_wp2_with fail
    refine (count_any own (.slice ao xs.length cap) xs W (HR.out.later HI.out.bel) hl).mono ?_
    rintro e w4 ⟨rfl, hb4⟩
    have hres := box_later HI.out.res hb4
    have z0 := hres.cell
    have z0f := hres.frozen
    have z0l := hres.lt
    have HB4 := hidden (HI.out.bel.trans (hb4.mono HI.out.bel.size))
    have HRES := hidden hres
    have HK4 := hidden ((keeps_below hb4).same _ _ HK.out rfl)
    clear hb4 hres HI HK
    go_wp2_with fail
    exact leaves_cell rfl rfl (fun W hB => ⟨ret_bool (by unfold sideB; rw [HRS.out, Bool.true_and, ← cnt_le]), hB⟩) D _ (by omega) ((KeepsOthers.setCell _ _ _).same _ _ HK4.out rfl) (Boxed.set _ HRES.out) (bel_set HB4.out (Nat.le_refl _))
  case hstop =>
    rintro D c W hD ⟨rfl, hB, hb, hn⟩ hK _
    have HB := hidden hB
    have HBX := hidden hb
    have HN := hidden hn
    have HK := hidden hK
    clear hB hb hn hK
    go_wp2_with fail
    exact leaves_cell rfl rfl (fun W hB => ⟨ret_bool (by unfold sideB; rw [HN.out]; rfl), hB⟩) D _ (by omega) HK.out HBX.out HB.out

end Go.Proofs.Ytcdjemheokmglab

namespace Go.Proofs.Ytcdjemheokmglab
open Go.RowKit Go.Proofs.Ytcdjemheokmglab.Ln Go.Proofs.Ytcdjemheokmglab.Ol

/-- a step's own block -/
abbrev opO (x1 x2 : Int) (x3 : Tx) : Obj := .cells #[.int .i64 x1, .int .i64 x2, .string ⟨x3.toArray⟩] 30

set_option maxHeartbeats 1000000 in
theorem rightAlone_any (x1 x2 : Int) (x3 : Tx) (w : World) (hf : x3.length ≤ 140737488355328) :
    Calls Try.prog 22 #[.agg #[.int .i64 x1, .int .i64 x2, .string ⟨x3.toArray⟩]] w fun e w' => e = .returned (.bool (alone (x1, x2, x3))) ∧ w' = w.alloc (opO x1 x2 x3) := by
  by_cases h1 : x1 = 1
  · subst h1
    have HA := hidden (show alone (1, x2, x3) = (decide (1 ≤ x2) && decide (x2 ≤ 2147483648) && decide (x3 = [])) by simp [alone])
    by_cases h2 : 1 ≤ x2
    · by_cases h3 : x2 ≤ 2147483648
      · by_cases h4 : x3 = []
        · subst h4
          go_enter Try.func22, Try.ntmps22
          go_wp2_with fail
          go_ret
          exact ⟨ret_bool (by rw [HA.out]; simp [h2, h3]), rfl⟩
        · have h4b : x3.isEmpty = false := by simpa using h4
          have h4c : (x3 == []) = false := by simpa using h4
          go_enter Try.func22, Try.ntmps22
          go_wp2_with fail
          go_ret
          exact ⟨ret_bool (by rw [HA.out]; simp [h4]), rfl⟩
      · have h3b : decide (x2 ≤ 2147483648) = false := by simpa using h3
        have H3 := hidden h3b
        go_enter Try.func22, Try.ntmps22
        go_wp2_with fail
        go_ret
        exact ⟨ret_bool (by rw [HA.out, H3.out]; simp), rfl⟩
    · have h2b : decide (1 ≤ x2) = false := by simpa using h2
      have h2c : decide (x2 ≥ 1) = false := by simpa using h2
      have H2 := hidden h2b
      go_enter Try.func22, Try.ntmps22
      go_wp2_with fail
      go_ret
      exact ⟨ret_bool (by rw [HA.out, H2.out]; simp), rfl⟩
  · have h1b : (x1 == 1) = false := by simpa using h1
    by_cases hk : x1 = 2 ∨ x1 = 3 ∨ x1 = 4
    · have HA := hidden (show alone (x1, x2, x3) = (x2 == 0 && rt x3) by
        have h9 : (x1 == 2 || x1 == 3 || x1 == 4) = true := by simp only [Bool.or_eq_true, beq_iff_eq]; omega
        simp only [alone, h1, if_false, h9, Bool.true_and])
      by_cases h2 : x2 = 0
      · subst h2
        rcases hk with rfl | rfl | rfl
        all_goals
          go_enter Try.func22, Try.ntmps22
          go_wp2_with (go_at_call 31; refine (lrightX x3 _ hf).mono ?_; rintro e w' ⟨rfl, rfl⟩)
          go_ret
          exact ⟨ret_bool (by rw [HA.out]; simp), rfl⟩
      · have h2b : (x2 == 0) = false := by simpa using h2
        rcases hk with rfl | rfl | rfl
        all_goals
          go_enter Try.func22, Try.ntmps22
          go_wp2_with fail
          go_ret
          exact ⟨ret_bool (by rw [HA.out]; simp [h2]), rfl⟩
    · have h2 : ¬ x1 = 2 := by omega
      have h3 : ¬ x1 = 3 := by omega
      have h4 : ¬ x1 = 4 := by omega
      have HA := hidden (show alone (x1, x2, x3) = false by simp [alone, h1, h2, h3, h4])
      have h2b : (x1 == 2) = false := by simpa using h2
      have h3b : (x1 == 3) = false := by simpa using h3
      have h4b : (x1 == 4) = false := by simpa using h4
      clear hk
      go_enter Try.func22, Try.ntmps22
      go_wp2_with fail
      go_ret
      exact ⟨ret_bool (by rw [HA.out]), rfl⟩

theorem right_eq (xs : List Oq) : right xs = (xs.all alone && (sideB 3 xs && sideB 4 xs)) := by
  unfold right sideB
  cases xs.all alone <;> cases (rsl 3 xs).isSome <;> cases (rsl 4 xs).isSome <;> simp
theorem not_alone {xs : List Oq} {k : Nat} {x : Oq} (h : xs[k]? = some x) (ha : alone x = false) : right xs = false := by
  rw [right_eq]
  have : xs.all alone = false := by
    rw [Bool.eq_false_iff]
    intro e
    rw [List.all_eq_true] at e
    have := e x (List.mem_of_getElem? h)
    rw [ha] at this; cases this
  rw [this]; rfl
theorem all_snoc {xs : List Oq} {k : Nat} {x : Oq} (h : xs[k]? = some x) (h1 : (xs.take k).all alone = true) (h2 : alone x = true) : (xs.take (k + 1)).all alone = true := by
  rw [take_snoc h, List.all_append, h1]; simp [h2]

set_option maxHeartbeats 2000000 in
theorem oright_any (v : Value) (xs : List Oq) (w : World) (hr : OpsAt w v xs) (hl : xs.length ≤ 4398046511104) (hf : Fit xs) :
    Calls Try.prog 16 #[v] w fun e w' => e = .returned (.bool (right xs)) ∧ Below w.heap.size w w' := by
  have HR := hidden hr
  have HF := hidden hf
  by_cases hne : xs = []
  · subst hne
    obtain ⟨ao, cap, rfl⟩ := hr.shape
    clear hr hf
    go_enter Try.func16, Try.ntmps16
    go_wp2_with fail
    refine wp_loop_rounds 1 ?_
    rw [rounds_succ]
    go_wp2_with fail
    refine (rightSide_any 3 _ [] w HR.out hl HF.out).mono ?_
    rintro e w2 ⟨rfl, hb2⟩
    have HB2 := hidden hb2
    clear hb2
    rw [show sideB 3 [] = true from rfl]
    go_wp2_with fail
    refine (rightSide_any 4 _ [] w2 (HR.out.later HB2.out) hl HF.out).mono ?_
    rintro e w3 ⟨rfl, hb3⟩
    have HB3 := hidden (HB2.out.trans (hb3.mono HB2.out.size))
    clear hb3
    go_wp2_with fail
    go_ret
    exact ⟨ret_bool rfl, HB3.out⟩
  · obtain ⟨b, o, cap, rfl, hcap, hb, hc⟩ := hr.cells hne
    have HC := hidden hc
    clear hr hf hc hne
    go_enter Try.func16, Try.ntmps16
    go_wp2_with fail
    go_loopw [7] (fun i wr => ∃ k : Nat, k ≤ xs.length ∧ i = .int .i64 k ∧ Hid ((xs.take k).all alone = true) ∧ Hid (Below w.heap.size w wr)) (fun i _ => xs.length - (intOf i).toNat)
    case atStart => exact ⟨0, Nat.zero_le _, rfl, rfl, Below.refl _ _⟩
    case round =>
      obtain ⟨k, hk, rfl, hall, hbl⟩ := hrel
      by_cases hlt : k < xs.length
      · obtain ⟨x1, x2, x3, hx⟩ := op_some hlt
        obtain ⟨c1, c2, c3⟩ := three_later hb hbl.out (HC.out k _ hx)
        simp only at c1 c2 c3
        have HX := hidden hx
        have HF3 := hidden (HF.out _ (List.mem_of_getElem? hx))
        have hbr := Nat.lt_of_lt_of_le hb hbl.out.size
        clear hx
        cases ha : alone (x1, x2, x3) with
        | true =>
          have HAS := hidden (all_snoc HX.out hall.out ha)
          have HA := hidden ha
          clear ha
          go_wp2_with (go_at_call 22; refine (rightAlone_any x1 x2 x3 _ HF3.out).mono ?_; rw [HA.out]; rintro e w' ⟨rfl, rfl⟩)
          go_roundw
          case rel => exact ⟨k + 1, by omega, by go_num, HAS.out, bel_alloc (bel_alloc hbl.out _) _⟩
          case measure => simp [intOf]; omega
        | false =>
          have HN := hidden (not_alone HX.out ha)
          have HA := hidden ha
          clear ha
          go_wp2_with (go_at_call 22; refine (rightAlone_any x1 x2 x3 _ HF3.out).mono ?_; rw [HA.out]; rintro e w' ⟨rfl, rfl⟩)
          go_ret
          exact ⟨ret_bool HN.out.symm, bel_alloc (bel_alloc hbl.out _) _⟩
      · have HAL := hidden (show xs.all alone = true by have := hall.out; rw [List.take_of_length_le (by omega)] at this; exact this)
        go_wp2_with fail
        refine (rightSide_any 3 _ xs wr (HR.out.later hbl.out) hl HF.out).mono ?_
        rintro e w2 ⟨rfl, hb2⟩
        have HB2 := hidden (hbl.out.trans (hb2.mono hbl.out.size))
        clear hb2
        cases hs : sideB 3 xs with
        | true =>
          have HS := hidden hs
          clear hs
          go_wp2_with fail
          refine (rightSide_any 4 _ xs w2 (HR.out.later HB2.out) hl HF.out).mono ?_
          rintro e w3 ⟨rfl, hb3⟩
          have HB3 := hidden (HB2.out.trans (hb3.mono HB2.out.size))
          clear hb3
          go_wp2_with fail
          go_ret
          exact ⟨ret_bool (by rw [right_eq, HAL.out, HS.out]; rfl), HB3.out⟩
        | false =>
          have HS := hidden hs
          clear hs
          go_wp2_with fail
          go_ret
          exact ⟨ret_bool (by rw [right_eq, HAL.out, HS.out]; rfl), HB2.out⟩

theorem chs_take (xs : List Oq) (k : Nat) : chs (xs.take k) ≤ k := by
  unfold chs
  have := List.length_filter_le chg (xs.take k)
  rw [List.length_take] at this
  omega
theorem chs_all (xs : List Oq) : chs xs ≤ xs.length := List.length_filter_le chg xs
theorem chs_on {xs : List Oq} {k : Nat} {x : Oq} (h : xs[k]? = some x) (hc : chg x = true) : chs (xs.take (k + 1)) = chs (xs.take k) + 1 := by
  rw [take_snoc h, chs_app]; simp [chs, hc]
theorem chs_off {xs : List Oq} {k : Nat} {x : Oq} (h : xs[k]? = some x) (hc : chg x = false) : chs (xs.take (k + 1)) = chs (xs.take k) := by
  rw [take_snoc h, chs_app]; simp [chs, hc]

end Go.Proofs.Ytcdjemheokmglab
