/-
  What the document's own Glob answers: whether the parts of the pattern take the name; conditions: the lengths of both.
-/
import Derived.Test.YthjhihpbilaifaaGRefSet2
import Derived.Deep.RegionHeld3
namespace Go.Proofs.Ythjhihpbilaifaa
open Go.RowKit Go.Proofs.Ythjhihpbilaifaa.Gl

theorem Try.info4 : (Try.prog.info? 4).map (fun i => (i.zero, i.size, i.bytes)) = some (some (.bool false), 1, 1) := by kernel_rfl

/-- marks in a block -/
def Bools (W : World) (g N : Nat) (H : Bs) : Prop := ∃ cs : Array Value, W.heap[g]? = some (.cells cs 4 (0, 0)) ∧ cs.size = N ∧ ∀ j, j < N → cs[j]? = some (.bool (H j))
theorem Bools.lt {W : World} {g N : Nat} {H : Bs} (h : Bools W g N H) : g < W.heap.size := by
  obtain ⟨cs, h1, _⟩ := h
  exact (Array.getElem?_eq_some_iff.1 h1).1
theorem Bools.cell {W : World} {g N : Nat} {H : Bs} (h : Bools W g N H) {j : Nat} (hj : j < N) : W.cell? ⟨g, j, none⟩ = some (.bool (H j)) := by
  obtain ⟨cs, h1, h2, h3⟩ := h
  rw [cell_of_row W g j cs 4 (0, 0) h1]
  exact h3 j hj
theorem Bools.thawed {W : World} {g N : Nat} {H : Bs} (h : Bools W g N H) (j : Nat) : W.frozen? ⟨g, j, none⟩ = false := by
  obtain ⟨cs, h1, h2, h3⟩ := h
  simp [World.frozen?, h1]
theorem Bools.later {W W' : World} {g N : Nat} {H : Bs} (h : Bools W g N H) (hb : Below W.heap.size W W') : Bools W' g N H := by
  have hl := h.lt
  obtain ⟨cs, h1, h2, h3⟩ := h
  exact ⟨cs, by rw [hb.block g hl]; exact h1, h2, h3⟩
theorem Bools.other {W : World} {g N : Nat} {H : Bs} (h : Bools W g N H) {g' j : Nat} {v : Value} (hn : g ≠ g') : Bools (W.setCell ⟨g', j, none⟩ v) g N H := by
  obtain ⟨cs, h1, h2, h3⟩ := h
  exact ⟨cs, by rw [heap_setCell_other W ⟨g', j, none⟩ g v hn]; exact h1, h2, h3⟩
theorem Bools.ext {W : World} {g N : Nat} {H H' : Bs} (h : Bools W g N H) (he : ∀ j, j < N → H' j = H j) : Bools W g N H' := by
  obtain ⟨cs, h1, h2, h3⟩ := h
  exact ⟨cs, h1, h2, fun j hj => by rw [he j hj]; exact h3 j hj⟩
theorem Bools.set {W : World} {g N : Nat} {H : Bs} (h : Bools W g N H) (j : Nat) (b : Bool) (H' : Bs) (he : ∀ x, x < N → H' x = if x = j then b else H x) : Bools (W.setCell ⟨g, j, none⟩ (.bool b)) g N H' := by
  obtain ⟨cs, h1, h2, h3⟩ := h
  refine ⟨_, heap_setCell_same W g j cs 4 (.bool b) h1, by simp [h2], fun x hx => ?_⟩
  rw [Array.getElem?_setIfInBounds, he x hx]
  by_cases hjx : j = x
  · subst hjx; rw [if_pos rfl, if_pos (by omega), if_pos rfl]
  · rw [if_neg hjx, if_neg (fun e => hjx e.symm)]; exact h3 x hx
theorem Bools.of_made {W : World} {B g N : Nat} (h : W.ownsRow B 4 1 (.slice (some ⟨g, 0, none⟩) N N) N (madeCells #[Value.bool false] (N * 1)).toList) : Bools W g N none_ := by
  rcases h.2 with ⟨h1, _⟩ | ⟨g', cap, cur, hv, hB, hg, hcap, hm, hs', ht⟩
  · cases h1
  · cases hv
    refine ⟨cur, hg, by omega, fun j hj => ?_⟩
    rw [Nat.mul_one, List.take_of_length_le (by rw [Array.length_toList]; omega), toList_madeCells_one] at ht
    rw [← Array.getElem?_toList, ht, List.getElem?_replicate, if_pos hj]
    rfl

theorem MemsAt.keep {W : World} {v u : Value} {ms : List Mem} {g N j : Nat} {H : Bs} (h : MemsAt W v ms) (hb : Bools W g (N + 1) H) : MemsAt (W.setCell ⟨g, j, none⟩ u) v ms := by
  rcases h with h | ⟨b, cap, h1, h2, h3, h4⟩
  · exact Or.inl h
  · refine Or.inr ⟨b, cap, h1, h2, by rw [World.size_setCell]; exact h3, fun i m hm => ?_⟩
    have hne : b ≠ g := fun e => by
      subst e
      cases ms with
      | nil => cases hm
      | cons y r =>
        have q1 := (h4 0 y rfl).1
        have q2 := hb.cell (j := 0) (by omega)
        rw [Nat.zero_mul, q2] at q1
        cases q1
    have hn2 : ∀ o, (⟨g, j, none⟩ : Addr) ≠ ⟨b, o, none⟩ := fun o e => hne (congrArg Addr.block e).symm
    rw [World.cell?_setCell_other (h := hn2 _), World.cell?_setCell_other (h := hn2 _), World.cell?_setCell_other (h := hn2 _), World.cell?_setCell_other (h := hn2 _)]
    exact h4 i m hm

/-- so far -/
def starTo (s : Tx) (H : Bs) (j : Nat) : Bs := fun x => decide (x < j) && sR s H x
def byteTo (s : Tx) (f H : Bs) (j : Nat) : Bs := fun x => decide (x ≤ j) && bR s f H x
theorem starTo_zero (s : Tx) (H : Bs) (x : Nat) : starTo s H 0 x = none_ x := by simp [starTo, none_]
theorem starTo_more (s : Tx) (H : Bs) (j : Nat) (b : Bool) (hb : b = sR s H j) (x : Nat) : starTo s H (j + 1) x = if x = j then b else starTo s H j x := by
  unfold starTo
  split
  · rename_i h; subst h; rw [hb]; simp
  · rename_i h
    congr 1
    rw [decide_eq_decide]
    omega
theorem byteTo_zero (s : Tx) (f H : Bs) (x : Nat) : byteTo s f H 0 x = none_ x := by
  unfold byteTo none_
  by_cases h : x = 0
  · subst h; rfl
  · simp [h]
theorem byteTo_more (s : Tx) (f H : Bs) (j : Nat) (b : Bool) (hb : b = bR s f H (j + 1)) (x : Nat) : byteTo s f H (j + 1) x = if x = j + 1 then b else byteTo s f H j x := by
  unfold byteTo
  split
  · rename_i h; subst h; rw [hb]; simp
  · rename_i h
    congr 1
    rw [decide_eq_decide]
    omega
theorem byteTo_same (s : Tx) (f H : Bs) (j : Nat) (hb : bR s f H (j + 1) = false) (x : Nat) : byteTo s f H (j + 1) x = byteTo s f H j x := by
  rw [byteTo_more s f H j false hb.symm]
  split
  · rename_i h; subst h; simp [byteTo, hb]
  · rfl
theorem byteTo_over (s : Tx) (f H : Bs) (x : Nat) (hx : x < s.length + 1) : byteTo s f H (s.length + 1) x = byteTo s f H s.length x := by
  unfold byteTo
  rw [decide_eq_true (show x ≤ s.length + 1 by omega), decide_eq_true (show x ≤ s.length by omega)]

set_option maxHeartbeats 16000000 in
set_option maxRecDepth 4000 in
theorem refGlob_any (p s : Tx) (w : World) (hp : p.length ≤ 1000) (hs : s.length ≤ 1000) :
    Calls Try.prog 11 #[S p, S s] w fun e w' => e = .returned (.bool (hits p s)) ∧ Below w.heap.size w w' := by
  obtain ⟨i0, hi, hz0, hz1, hz2⟩ := info_parts Try.info4
  unfold S
  go_enter Try.func11, Try.ntmps11
  go_wp2_with (at_make; refine wpList_make_full _ rfl _ _ 28 rfl w.heap.size 4 i0 (.bool false) 1 Try.underlying28 hi hz0 hz1 .i64 .i64 _ _ (s.length + 1) rfl rfl (by omega) (by omega) (by rw [hz2]; omega) (by unfold maxLen; omega) (Nat.le_refl _) ?_; intro w1 hown1 hgrow1; have hT1 := Bools.of_made hown1; have hc1 := hT1.cell (j := 0) (by omega); have hf1 := hT1.thawed 0; have HB1 := hidden ((Below.refl w.heap.size w).grown hgrow1 (Nat.le_refl _) (fun k hk => by cases hk)); have HT1 := hidden hT1; clear hown1 hgrow1 hT1)
  clear hc1 hf1
  go_loopw [5, 6] (fun qh qi wr => ∃ (g k n : Nat) (H : Bs), qh = .slice (some ⟨g, 0, none⟩) (s.length + 1) (s.length + 1) ∧ qi = .int .i64 k ∧ k ≤ p.length ∧ w.heap.size ≤ g ∧ Hid (Bools wr g (s.length + 1) H ∧ Below w.heap.size w wr ∧ (p.drop k).length ≤ n ∧ (pm (parts p) s = true ↔ From s H (parseR n (p.drop k)))))
    (fun _ qi _ => p.length - (intOf qi).toNat)
  case atStart => exact ⟨w.heap.size, 0, p.length, Gl.start, rfl, rfl, Nat.zero_le _, Nat.le_refl _, HT1.out.set 0 true Gl.start (fun x _ => by by_cases h : x = 0 <;> simp [Gl.start, none_, h]), HB1.out.setCell (Nat.le_refl _) _, Nat.le_refl _, by rw [from_start, parts_ref]; rfl⟩
  case round =>
    obtain ⟨g, k, n, H, rfl, rfl, hk, hg, hT0, hB0, hn, hiff⟩ := hrel
    have HH := hidden hT0
    have HB := hidden hB0
    have HP := hidden hiff
    have hgg := hT0.lt
    clear hB0 hiff
    by_cases hlt : k < p.length
    · have hltI : (k : Int) < p.length := by omega
      have hne : p.drop k ≠ [] := drop_ne hlt
      obtain ⟨n, rfl⟩ : ∃ m, n = m + 1 := ⟨n - 1, by rw [List.length_drop] at hn; omega⟩
      rw [List.length_drop] at hn
      obtain ⟨cp, hc⟩ : ∃ c, c = p.getD k 0 := ⟨_, rfl⟩
      have hb : ∀ h, (⟨p.toArray⟩ : ByteArray)[k]'h = cp := fun h => by rw [byte_at, hc]
      have HC := hidden (show (p.drop k).getD 0 0 = cp by rw [drop_getD, hc]; rfl)
      clear hc hT0
      by_cases e1 : cp = 42
      · have HP2 := hidden (show pm (parts p) s = true ↔ From s (sR s H) (parseR n (p.drop (k + 1))) by
          rw [HP.out, parseR, if_neg hne, if_pos (by rw [HC.out, e1]), List.drop_drop]
          exact from_star s H _ none_)
        subst e1
        clear hne
        as_aux_lemma =>
          go_wp2_with (at_make; refine wpList_make_full _ rfl _ _ 28 rfl w.heap.size 4 i0 (.bool false) 1 Try.underlying28 hi hz0 hz1 .i64 .i64 _ _ (s.length + 1) rfl rfl (by omega) (by omega) (by rw [hz2]; omega) (by unfold maxLen; omega) HB.out.size ?_; intro w2 hown2 hgrow2; have HT2 := hidden (Bools.of_made hown2); have hbw2 := (Below.refl wr.heap.size wr).grown hgrow2 (Nat.le_refl _) (fun k hk => by cases hk); have HB2 := hidden (HB.out.trans (hbw2.mono HB.out.size)); have HH2 := hidden (HH.out.later hbw2); clear hown2 hgrow2 hbw2)
          have hgn : g ≠ wr.heap.size := Nat.ne_of_lt hgg
          have hg2 : w.heap.size ≤ wr.heap.size := HB.out.size
          generalize wr.heap.size = g2 at *
          go_loopw [13] (fun qj wx => ∃ j : Nat, qj = .int .i64 j ∧ j ≤ s.length + 1 ∧ Hid (Bools wx g2 (s.length + 1) (starTo s H j) ∧ Bools wx g (s.length + 1) H ∧ Below w.heap.size w wx))
            (fun qj _ => s.length + 1 - (intOf qj).toNat)
          case atStart => exact ⟨0, rfl, Nat.zero_le _, HT2.out.ext (fun x _ => starTo_zero s H x), HH2.out, HB2.out⟩
          case round =>
            obtain ⟨j, rfl, hj, hT, hH, hW⟩ := hrel
            have HT := hidden hT
            have HH3 := hidden hH
            have HW := hidden hW
            by_cases hjl : j < s.length + 1
            · have hjI : (j : Int) ≤ s.length := by omega
              have t0 : wr.cell? ⟨g2, j, none⟩ = some (.bool false) := by
                have := hT.cell hjl
                rw [show starTo s H j j = false by simp [starTo]] at this
                exact this
              have f0 := hT.thawed j
              have q0 := hH.cell hjl
              have T1 := hidden (show ∀ m, j = m + 1 → wr.cell? ⟨g2, m, none⟩ = some (.bool (sR s H m)) from fun m hm => by
                have := hT.cell (j := m) (by omega)
                rw [show starTo s H j m = sR s H m by simp [starTo]; omega] at this
                exact this)
              clear hT hH hW
              cases hHj : H j with
              | true =>
                rw [hHj] at q0
                have HV := hidden (show true = sR s H j by cases j with
                  | zero => exact hHj.symm
                  | succ m => rw [sR, hHj]; rfl)
                clear hHj
                go_wp2_with fail
                go_roundw
                case rel => exact ⟨j + 1, by go_num, by omega, HT.out.set (j) true _ (fun x _ => starTo_more s H (j) true HV.out x), HH3.out.other hgn, HW.out.setCell hg2 _⟩
                case measure => simp [intOf] <;> omega
              | false =>
                rw [hHj] at q0
                cases j with
                | zero =>
                  have HV := hidden (show false = sR s H 0 from hHj.symm)
                  clear hHj
                  go_wp2_with fail
                  go_roundw
                  case rel => exact ⟨0 + 1, by go_num, by omega, HT.out.set (0) false _ (fun x _ => starTo_more s H (0) false HV.out x), HH3.out.other hgn, HW.out.setCell hg2 _⟩
                  case measure => simp [intOf] <;> omega
                | succ m =>
                  have t1 := T1.out m rfl
                  have hmI : (0 : Int) < (m : Int) + 1 := by omega
                  have hml : m < s.length := by omega
                  obtain ⟨c1, hc1⟩ : ∃ c1, c1 = s.getD m 0 := ⟨_, rfl⟩
                  have hbc1 : ∀ h, (⟨s.toArray⟩ : ByteArray)[m]'h = c1 := fun h => by rw [byte_at, hc1]
                  have HSR := hidden (show sR s H (m + 1) = (sR s H m && c1 != 47) by rw [sR, hHj, ← hc1]; rfl)
                  clear hHj hc1
                  cases hsm : sR s H m with
                  | false =>
                    rw [hsm] at t1
                    have HV := hidden (show false = sR s H (m + 1) by rw [HSR.out, hsm]; rfl)
                    clear hsm
                    go_wp2_with fail
                    go_roundw
                    case rel => exact ⟨m + 1 + 1, by go_num, by omega, HT.out.set (m + 1) false _ (fun x _ => starTo_more s H (m + 1) false HV.out x), HH3.out.other hgn, HW.out.setCell hg2 _⟩
                    case measure => simp [intOf] <;> omega
                  | true =>
                    rw [hsm] at t1
                    by_cases e47 : c1 = 47
                    · have HV := hidden (show false = sR s H (m + 1) by rw [HSR.out, hsm, e47]; rfl)
                      clear hsm
                      subst e47
                      go_wp2_with fail
                      go_roundw
                      case rel => exact ⟨m + 1 + 1, by go_num, by omega, HT.out.set (m + 1) false _ (fun x _ => starTo_more s H (m + 1) false HV.out x), HH3.out.other hgn, HW.out.setCell hg2 _⟩
                      case measure => simp [intOf] <;> omega
                    · have f47 := byte_ne (n := 47) e47
                      have g47 : ((c1.toNat : Int) != 47) = true := by rw [bne_iff_ne]; exact f47
                      have HV := hidden (show true = sR s H (m + 1) by rw [HSR.out, hsm]; simpa using e47)
                      clear hsm e47
                      go_wp2_with fail
                      go_roundw
                      case rel => exact ⟨m + 1 + 1, by go_num, by omega, HT.out.set (m + 1) true _ (fun x _ => starTo_more s H (m + 1) true HV.out x), HH3.out.other hgn, HW.out.setCell hg2 _⟩
                      case measure => simp [intOf] <;> omega
            · obtain rfl : j = s.length + 1 := by omega
              clear hT hH hW
              go_wp2_with fail
              go_roundw
              case rel => exact ⟨g2, k + 1, n, sR s H, rfl, by go_num, by omega, hg2, HT.out.ext (fun x hx => by rw [starTo, decide_eq_true hx]; rfl), HW.out, by rw [List.length_drop]; omega, HP2.out⟩
              case measure => simp [intOf] <;> omega
      · have f1 := byte_ne (n := 42) e1
        by_cases e2 : cp = 63
        · have HP2 := hidden (show pm (parts p) s = true ↔ From s (bR s anyB.2 H) (parseR n (p.drop (k + 1))) by
            rw [HP.out, parseR, if_neg hne, if_neg (by rw [HC.out]; exact e1), if_pos (by rw [HC.out, e2]), List.drop_drop]
            exact from_byte s H _ _)
          subst e2
          clear hne e1 f1
          as_aux_lemma =>
            go_wp2_with (at_make; refine wpList_make_full _ rfl _ _ 28 rfl w.heap.size 4 i0 (.bool false) 1 Try.underlying28 hi hz0 hz1 .i64 .i64 _ _ (s.length + 1) rfl rfl (by omega) (by omega) (by rw [hz2]; omega) (by unfold maxLen; omega) HB.out.size ?_; intro w2 hown2 hgrow2; have HT2 := hidden (Bools.of_made hown2); have hbw2 := (Below.refl wr.heap.size wr).grown hgrow2 (Nat.le_refl _) (fun k hk => by cases hk); have HB2 := hidden (HB.out.trans (hbw2.mono HB.out.size)); have HH2 := hidden (HH.out.later hbw2); clear hown2 hgrow2 hbw2)
            have hgn : g ≠ wr.heap.size := Nat.ne_of_lt hgg
            have hg2 : w.heap.size ≤ wr.heap.size := HB.out.size
            generalize wr.heap.size = g2 at *
            go_loopw [13] (fun qj wx => ∃ j : Nat, qj = .int .i64 j ∧ j ≤ s.length + 1 ∧ Hid (Bools wx g2 (s.length + 1) (byteTo s anyB.2 H j) ∧ Bools wx g (s.length + 1) H ∧ Below w.heap.size w wx))
              (fun qj _ => s.length + 1 - (intOf qj).toNat)
            case atStart => exact ⟨0, rfl, Nat.zero_le _, HT2.out.ext (fun x _ => byteTo_zero s anyB.2 H x), HH2.out, HB2.out⟩
            case round =>
              obtain ⟨j, rfl, hj, hT, hH, hW⟩ := hrel
              have HT := hidden hT
              have HH3 := hidden hH
              have HW := hidden hW
              by_cases hjl : j < s.length + 1
              · have hjI : (j : Int) ≤ s.length := by omega
                by_cases hjn : j = s.length
                · clear hT hH hW
                  subst hjn
                  go_wp2_with fail
                  go_roundw
                  case rel => exact ⟨s.length + 1, by go_num, by omega, HT.out.ext (fun x hx => byteTo_over s anyB.2 H x hx), HH3.out, HW.out⟩
                  case measure => simp [intOf] <;> omega
                · have hjs : j < s.length := by omega
                  have hjb : ((j : Int) == s.length) = false := by rw [beq_eq_false_iff_ne]; omega
                  have t0 : wr.cell? ⟨g2, j + 1, none⟩ = some (.bool false) := by
                    have := hT.cell (j := j + 1) (by omega)
                    rw [show byteTo s anyB.2 H j (j + 1) = false by unfold byteTo; rw [decide_eq_false (by omega)]; rfl] at this
                    exact this
                  have f0 := hT.thawed (j + 1)
                  have q0 := hH.cell hjl
                  obtain ⟨c, hc⟩ : ∃ c, c = s.getD j 0 := ⟨_, rfl⟩
                  have hbc : ∀ h, (⟨s.toArray⟩ : ByteArray)[j]'h = c := fun h => by rw [byte_at, hc]
                  cases hHj : H j with
                  | false =>
                    rw [hHj] at q0
                    have HV := hidden (show bR s anyB.2 H (j + 1) = false by rw [bR, hHj]; rfl)
                    clear hT hH hW hHj hc
                    go_wp2_with fail
                    go_roundw
                    case rel => exact ⟨j + 1, by go_num, by omega, HT.out.ext (fun x _ => byteTo_same s anyB.2 H j HV.out x), HH3.out, HW.out⟩
                    case measure => simp [intOf] <;> omega
                  | true =>
                    rw [hHj] at q0
                    have HBR := hidden (show bR s anyB.2 H (j + 1) = anyB.2 c.toNat by rw [bR, hHj, ← hc]; rfl)
                    clear hT hH hW hHj hc hjn
                    by_cases e47 : c = 47
                    · have HV := hidden (show false = bR s anyB.2 H (j + 1) by rw [HBR.out, e47]; rfl)
                      subst e47
                      go_wp2_with fail
                      go_roundw
                      case rel => exact ⟨j + 1, by go_num, by omega, HT.out.set (j + 1) false _ (fun x _ => byteTo_more s anyB.2 H j false HV.out x), HH3.out.other hgn, HW.out.setCell hg2 _⟩
                      case measure => simp [intOf] <;> omega
                    · have f47 := byte_ne (n := 47) e47
                      have g47 : ((c.toNat : Int) != 47) = true := by rw [bne_iff_ne]; exact f47
                      have HV := hidden (show true = bR s anyB.2 H (j + 1) by rw [HBR.out]; simp [anyB, clean, none_]; intro e; exact e47 (UInt8.toNat_inj.1 e))
                      clear e47
                      go_wp2_with fail
                      go_roundw
                      case rel => exact ⟨j + 1, by go_num, by omega, HT.out.set (j + 1) true _ (fun x _ => byteTo_more s anyB.2 H j true HV.out x), HH3.out.other hgn, HW.out.setCell hg2 _⟩
                      case measure => simp [intOf] <;> omega
              · obtain rfl : j = s.length + 1 := by omega
                clear hT hH hW
                go_wp2_with fail
                go_roundw
                case rel => exact ⟨g2, k + 1, n, bR s anyB.2 H, rfl, by go_num, by omega, hg2, HT.out.ext (fun x hx => by rw [byteTo, decide_eq_true (show x ≤ s.length + 1 by omega)]; rfl), HW.out, by rw [List.length_drop]; omega, HP2.out⟩
                case measure => simp [intOf] <;> omega
        · have f2 := byte_ne (n := 63) e2
          by_cases e3 : cp = 91
          · subst e3
            clear e1 e2 f1 f2
            have hbl : byteLen true (p.drop k) = 1 := byteLen_of (by rw [HC.out]; decide)
            have he : ¬ esc true (p.drop k) = true := by unfold esc; rw [HC.out]; simp
            have hbv : byteVal true (p.drop k) = 91 := by unfold byteVal; rw [if_neg he, HC.out]
            clear he
            go_wp2_with (at_make; refine wpList_make_full _ rfl _ _ 28 rfl w.heap.size 4 i0 (.bool false) 1 Try.underlying28 hi hz0 hz1 .i64 .i64 _ _ (s.length + 1) rfl rfl (by omega) (by omega) (by rw [hz2]; omega) (by unfold maxLen; omega) HB.out.size ?_; intro w2 hown2 hgrow2; have HT2 := hidden (Bools.of_made hown2); have hbw2 := (Below.refl wr.heap.size wr).grown hgrow2 (Nat.le_refl _) (fun k hk => by cases hk); have HB2 := hidden (HB.out.trans (hbw2.mono HB.out.size)); have HH2 := hidden (HH.out.later hbw2); clear hown2 hgrow2 hbw2)
            refine (refSet_any p (k + 1) _ (by omega) (by omega)).mono ?_
            rintro e w4 ⟨hans, hb4⟩
            have HT2 := hidden (HT2.out.later hb4)
            have HH2 := hidden (HH2.out.later hb4)
            have HB2 := hidden (HB2.out.trans (hb4.mono HB2.out.size))
            clear hb4
            have hgn : g ≠ wr.heap.size := Nat.ne_of_lt hgg
            have hg2 : w.heap.size ≤ wr.heap.size := HB.out.size
            generalize wr.heap.size = g2 at *
            unfold SetAns at hans
            cases hso : setOf (p.drop (k + 1)) with
            | none =>
              rw [hso] at hans
              have HP2 := hidden (show pm (parts p) s = true ↔ From s (bR s (lit 91).2 H) (parseR n (p.drop (k + 1))) by
                rw [HP.out, parseR, if_neg hne, if_neg (by rw [HC.out]; decide), if_neg (by rw [HC.out]; decide), if_pos HC.out, List.drop_drop, hso]
                simp only []
                rw [hbv, hbl, List.drop_drop]
                exact from_byte s H _ _)
              subst hans
              clear hso hne hbv hbl
              as_aux_lemma =>
                go_wp2_with fail
                go_loopw [13] (fun qj wx => ∃ j : Nat, qj = .int .i64 j ∧ j ≤ s.length + 1 ∧ Hid (Bools wx g2 (s.length + 1) (byteTo s (lit 91).2 H j) ∧ Bools wx g (s.length + 1) H ∧ Below w.heap.size w wx))
                  (fun qj _ => s.length + 1 - (intOf qj).toNat)
                case atStart => exact ⟨0, rfl, Nat.zero_le _, HT2.out.ext (fun x _ => byteTo_zero s (lit 91).2 H x), HH2.out, HB2.out⟩
                case round =>
                  obtain ⟨j, rfl, hj, hT, hH, hW⟩ := hrel
                  have HT := hidden hT
                  have HH3 := hidden hH
                  have HW := hidden hW
                  by_cases hjl : j < s.length + 1
                  · have hjI : (j : Int) ≤ s.length := by omega
                    by_cases hjn : j = s.length
                    · clear hT hH hW
                      subst hjn
                      go_wp2_with fail
                      go_roundw
                      case rel => exact ⟨s.length + 1, by go_num, by omega, HT.out.ext (fun x hx => byteTo_over s (lit 91).2 H x hx), HH3.out, HW.out⟩
                      case measure => simp [intOf] <;> omega
                    · have hjs : j < s.length := by omega
                      have hjb : ((j : Int) == s.length) = false := by rw [beq_eq_false_iff_ne]; omega
                      have t0 : wr.cell? ⟨g2, j + 1, none⟩ = some (.bool false) := by
                        have := hT.cell (j := j + 1) (by omega)
                        rw [show byteTo s (lit 91).2 H j (j + 1) = false by unfold byteTo; rw [decide_eq_false (by omega)]; rfl] at this
                        exact this
                      have f0 := hT.thawed (j + 1)
                      have q0 := hH.cell hjl
                      obtain ⟨c, hc⟩ : ∃ c, c = s.getD j 0 := ⟨_, rfl⟩
                      have hbc : ∀ h, (⟨s.toArray⟩ : ByteArray)[j]'h = c := fun h => by rw [byte_at, hc]
                      cases hHj : H j with
                      | false =>
                        rw [hHj] at q0
                        have HV := hidden (show bR s (lit 91).2 H (j + 1) = false by rw [bR, hHj]; rfl)
                        clear hT hH hW hHj hc
                        go_wp2_with fail
                        go_roundw
                        case rel => exact ⟨j + 1, by go_num, by omega, HT.out.ext (fun x _ => byteTo_same s (lit 91).2 H j HV.out x), HH3.out, HW.out⟩
                        case measure => simp [intOf] <;> omega
                      | true =>
                        rw [hHj] at q0
                        have HBR := hidden (show bR s (lit 91).2 H (j + 1) = (lit 91).2 c.toNat by rw [bR, hHj, ← hc]; rfl)
                        clear hT hH hW hHj hc hjn
                        by_cases ec : c = 91
                        · have HV := hidden (show true = bR s (lit 91).2 H (j + 1) by rw [HBR.out, ec]; simp [lit, spn])
                          have en : (c.toNat : Int) = 91 := by rw [ec] <;> rfl
                          have eb : ((c.toNat : Int) == 91) = true := by rw [beq_iff_eq]; exact en
                          clear ec
                          go_wp2_with fail
                          go_roundw
                          case rel => exact ⟨j + 1, by go_num, by omega, HT.out.set (j + 1) true _ (fun x _ => byteTo_more s (lit 91).2 H j true HV.out x), HH3.out.other hgn, HW.out.setCell hg2 _⟩
                          case measure => simp [intOf] <;> omega
                        · have en : ¬ (c.toNat : Int) = 91 := fun e => ec (UInt8.toNat_inj.1 (Int.ofNat.inj e))
                          have eb : ((c.toNat : Int) == 91) = false := by rw [beq_eq_false_iff_ne]; exact en
                          have HV := hidden (show false = bR s (lit 91).2 H (j + 1) by
                            rw [HBR.out]
                            have hn : ¬ c.toNat = (91 : UInt8).toNat := fun e => ec (UInt8.toNat_inj.1 e)
                            simp only [lit, spn]
                            symm
                            rw [Bool.and_eq_false_iff, decide_eq_false_iff_not, decide_eq_false_iff_not]
                            omega)
                          clear ec
                          go_wp2_with fail
                          go_roundw
                          case rel => exact ⟨j + 1, by go_num, by omega, HT.out.set (j + 1) false _ (fun x _ => byteTo_more s (lit 91).2 H j false HV.out x), HH3.out.other hgn, HW.out.setCell hg2 _⟩
                          case measure => simp [intOf] <;> omega
                  · obtain rfl : j = s.length + 1 := by omega
                    clear hT hH hW
                    go_wp2_with fail
                    go_roundw
                    case rel => exact ⟨g2, k + 1, n, bR s (lit 91).2 H, rfl, by go_num, by omega, hg2, HT.out.ext (fun x hx => by rw [byteTo, decide_eq_true (show x ≤ s.length + 1 by omega)]; rfl), HW.out, by rw [List.length_drop]; omega, HP2.out⟩
                    case measure => simp [intOf] <;> omega
            | some fk =>
              obtain ⟨fs, m⟩ := fk
              rw [hso] at hans
              have hml := setOf_len hso
              rw [List.length_drop] at hml
              have hm1 : 1 ≤ m := hml.1
              have hm2 : m ≤ p.length - (k + 1) := hml.2
              obtain ⟨vm, ms, gs, rfl, hms, hmsl, hsm, hfs, hgs⟩ := hans
              have HP2 := hidden (show pm (parts p) s = true ↔ From s (bR s fs H) (parseR n (p.drop (k + 1 + m))) by
                rw [HP.out, parseR, if_neg hne, if_neg (by rw [HC.out]; decide), if_neg (by rw [HC.out]; decide), if_pos HC.out, List.drop_drop, hso]
                simp only []
                rw [List.drop_drop, show k + (m + 1) = k + 1 + m by omega]
                exact from_byte s H _ _)
              obtain ⟨o, ho⟩ : ∃ o, o = neg (p.drop (k + 1)) := ⟨_, rfl⟩
              rw [← ho] at hfs ⊢
              obtain ⟨k2, hk2⟩ : ∃ k2, k2 = k + 1 + m := ⟨_, rfl⟩
              rw [← hk2] at HP2 ⊢
              have hkk : k + 2 ≤ k2 := by omega
              have hkp : k2 ≤ p.length := by omega
              have HMS := hidden hms
              have HSM := hidden hsm
              have HFS := hidden (show ∀ c, fs c = clean gs o c from fun c => by rw [hfs])
              have HGS := hidden hgs
              clear hso hne hbv hbl hms hsm hfs hgs ho hk2 hml hm1 hm2
              as_aux_lemma =>
                go_wp2_with fail
                go_loopw [13] (fun qj wx => ∃ j : Nat, qj = .int .i64 j ∧ j ≤ s.length + 1 ∧ Hid (Bools wx g2 (s.length + 1) (byteTo s fs H j) ∧ Bools wx g (s.length + 1) H ∧ Below w.heap.size w wx ∧ MemsAt wx vm ms))
                  (fun qj _ => s.length + 1 - (intOf qj).toNat)
                case atStart => exact ⟨0, rfl, Nat.zero_le _, HT2.out.ext (fun x _ => byteTo_zero s fs H x), HH2.out, HB2.out, HMS.out⟩
                case round =>
                  obtain ⟨j, rfl, hj, hT, hH, hW, hM⟩ := hrel
                  have HT := hidden hT
                  have HH3 := hidden hH
                  have HW := hidden hW
                  have HM := hidden hM
                  by_cases hjl : j < s.length + 1
                  · have hjI : (j : Int) ≤ s.length := by omega
                    by_cases hjn : j = s.length
                    · clear hT hH hW hM
                      subst hjn
                      go_wp2_with fail
                      go_roundw
                      case rel => exact ⟨s.length + 1, by go_num, by omega, HT.out.ext (fun x hx => byteTo_over s fs H x hx), HH3.out, HW.out, HM.out⟩
                      case measure => simp [intOf] <;> omega
                    · have hjs : j < s.length := by omega
                      have hjb : ((j : Int) == s.length) = false := by rw [beq_eq_false_iff_ne]; omega
                      have t0 : wr.cell? ⟨g2, j + 1, none⟩ = some (.bool false) := by
                        have := hT.cell (j := j + 1) (by omega)
                        rw [show byteTo s fs H j (j + 1) = false by unfold byteTo; rw [decide_eq_false (by omega)]; rfl] at this
                        exact this
                      have f0 := hT.thawed (j + 1)
                      have q0 := hH.cell hjl
                      obtain ⟨c, hc⟩ : ∃ c, c = s.getD j 0 := ⟨_, rfl⟩
                      have hbc : ∀ h, (⟨s.toArray⟩ : ByteArray)[j]'h = c := fun h => by rw [byte_at, hc]
                      cases hHj : H j with
                      | false =>
                        rw [hHj] at q0
                        have HV := hidden (show bR s fs H (j + 1) = false by rw [bR, hHj]; rfl)
                        clear hT hH hW hM hHj hc
                        go_wp2_with fail
                        go_roundw
                        case rel => exact ⟨j + 1, by go_num, by omega, HT.out.ext (fun x _ => byteTo_same s fs H j HV.out x), HH3.out, HW.out, HM.out⟩
                        case measure => simp [intOf] <;> omega
                      | true =>
                        rw [hHj] at q0
                        have HBR := hidden (show bR s fs H (j + 1) = fs c.toNat by rw [bR, hHj, ← hc]; rfl)
                        clear hT hH hW hM hHj hc hjn
                        by_cases e47 : c = 47
                        · have HV := hidden (show false = bR s fs H (j + 1) by rw [HBR.out, HFS.out, e47]; simp [clean])
                          subst e47
                          go_wp2_with fail
                          go_roundw
                          case rel => exact ⟨j + 1, by go_num, by omega, HT.out.set (j + 1) false _ (fun x _ => byteTo_more s fs H j false HV.out x), HH3.out.other hgn, HW.out.setCell hg2 _, HM.out.keep HT.out⟩
                          case measure => simp [intOf] <;> omega
                        · have f47 := byte_ne (n := 47) e47
                          have g47 : ((c.toNat : Int) != 47) = true := by rw [bne_iff_ne]; exact f47
                          have HRW := hidden (show bR s fs H (j + 1) = (ms.any (fun m => m.has c.toNat) != o) by
                            rw [HBR.out, HFS.out, clean, HGS.out]
                            simp
                            intro _ e; exact e47 (UInt8.toNat_inj.1 e))
                          have hc256 : c.toNat < 256 := c.toNat_lt
                          clear e47
                          go_wp2_with fail
                          refine (inside_any vm ms c.toNat _ hc256 HM.out (by omega) HSM.out).mono ?_
                          rintro e w5 ⟨rfl, rfl⟩
                          obtain ⟨r, hr⟩ : ∃ r, r = ms.any (fun m => m.has c.toNat) := ⟨_, rfl⟩
                          rw [← hr]
                          rw [← hr] at HRW
                          clear hr
                          cases r
                          all_goals
                            cases o
                            all_goals
                              first
                                | (have HV := hidden (show true = bR s fs H (j + 1) from HRW.out.symm)
                                   go_wp2_with fail
                                   go_roundw
                                   case rel => exact ⟨j + 1, by go_num, by omega, HT.out.set (j + 1) true _ (fun x _ => byteTo_more s fs H j true HV.out x), HH3.out.other hgn, HW.out.setCell hg2 _, HM.out.keep HT.out⟩
                                   case measure => simp [intOf] <;> omega)
                                | (have HV := hidden (show false = bR s fs H (j + 1) from HRW.out.symm)
                                   go_wp2_with fail
                                   go_roundw
                                   case rel => exact ⟨j + 1, by go_num, by omega, HT.out.set (j + 1) false _ (fun x _ => byteTo_more s fs H j false HV.out x), HH3.out.other hgn, HW.out.setCell hg2 _, HM.out.keep HT.out⟩
                                   case measure => simp [intOf] <;> omega)
                  · obtain rfl : j = s.length + 1 := by omega
                    clear hT hH hW hM
                    go_wp2_with fail
                    go_roundw
                    case rel => exact ⟨g2, k2, n, bR s fs H, rfl, by go_num, by omega, hg2, HT.out.ext (fun x hx => by rw [byteTo, decide_eq_true (show x ≤ s.length + 1 by omega)]; rfl), HW.out, by rw [List.length_drop]; omega, HP2.out⟩
                    case measure => simp [intOf] <;> omega
          · by_cases e4 : cp = 92
            · subst e4
              by_cases h1 : k + 1 < p.length
              · have h1' : (k : Int) + 1 < p.length := by omega
                obtain ⟨cd, hcd⟩ : ∃ c, c = p.getD (k + 1) 0 := ⟨_, rfl⟩
                have hbd : ∀ h, (⟨p.toArray⟩ : ByteArray)[k + 1]'h = cd := fun h => by rw [byte_at, hcd]
                have he : esc true (p.drop k) = true := by unfold esc; rw [HC.out, List.length_drop]; simp; omega
                have hbv : byteVal true (p.drop k) = cd := by unfold byteVal; rw [if_pos he, drop_getD, hcd]
                have hbl : byteLen true (p.drop k) = 2 := by unfold byteLen; rw [if_pos he]
                have HP2 := hidden (show pm (parts p) s = true ↔ From s (bR s (lit cd).2 H) (parseR n (p.drop (k + 2))) by
                  rw [HP.out, parseR, if_neg hne, if_neg (by rw [HC.out]; exact e1), if_neg (by rw [HC.out]; exact e2), if_neg (by rw [HC.out]; decide), hbv, hbl, List.drop_drop]
                  exact from_byte s H _ _)
                clear hne he hbv hbl hcd e1 e2 e3
                as_aux_lemma =>
                  go_wp2_with (at_make; refine wpList_make_full _ rfl _ _ 28 rfl w.heap.size 4 i0 (.bool false) 1 Try.underlying28 hi hz0 hz1 .i64 .i64 _ _ (s.length + 1) rfl rfl (by omega) (by omega) (by rw [hz2]; omega) (by unfold maxLen; omega) HB.out.size ?_; intro w2 hown2 hgrow2; have HT2 := hidden (Bools.of_made hown2); have hbw2 := (Below.refl wr.heap.size wr).grown hgrow2 (Nat.le_refl _) (fun k hk => by cases hk); have HB2 := hidden (HB.out.trans (hbw2.mono HB.out.size)); have HH2 := hidden (HH.out.later hbw2); clear hown2 hgrow2 hbw2)
                  have hgn : g ≠ wr.heap.size := Nat.ne_of_lt hgg
                  have hg2 : w.heap.size ≤ wr.heap.size := HB.out.size
                  generalize wr.heap.size = g2 at *
                  go_loopw [13] (fun qj wx => ∃ j : Nat, qj = .int .i64 j ∧ j ≤ s.length + 1 ∧ Hid (Bools wx g2 (s.length + 1) (byteTo s (lit cd).2 H j) ∧ Bools wx g (s.length + 1) H ∧ Below w.heap.size w wx))
                    (fun qj _ => s.length + 1 - (intOf qj).toNat)
                  case atStart => exact ⟨0, rfl, Nat.zero_le _, HT2.out.ext (fun x _ => byteTo_zero s (lit cd).2 H x), HH2.out, HB2.out⟩
                  case round =>
                    obtain ⟨j, rfl, hj, hT, hH, hW⟩ := hrel
                    have HT := hidden hT
                    have HH3 := hidden hH
                    have HW := hidden hW
                    by_cases hjl : j < s.length + 1
                    · have hjI : (j : Int) ≤ s.length := by omega
                      by_cases hjn : j = s.length
                      · clear hT hH hW
                        subst hjn
                        go_wp2_with fail
                        go_roundw
                        case rel => exact ⟨s.length + 1, by go_num, by omega, HT.out.ext (fun x hx => byteTo_over s (lit cd).2 H x hx), HH3.out, HW.out⟩
                        case measure => simp [intOf] <;> omega
                      · have hjs : j < s.length := by omega
                        have hjb : ((j : Int) == s.length) = false := by rw [beq_eq_false_iff_ne]; omega
                        have t0 : wr.cell? ⟨g2, j + 1, none⟩ = some (.bool false) := by
                          have := hT.cell (j := j + 1) (by omega)
                          rw [show byteTo s (lit cd).2 H j (j + 1) = false by unfold byteTo; rw [decide_eq_false (by omega)]; rfl] at this
                          exact this
                        have f0 := hT.thawed (j + 1)
                        have q0 := hH.cell hjl
                        obtain ⟨c, hc⟩ : ∃ c, c = s.getD j 0 := ⟨_, rfl⟩
                        have hbc : ∀ h, (⟨s.toArray⟩ : ByteArray)[j]'h = c := fun h => by rw [byte_at, hc]
                        cases hHj : H j with
                        | false =>
                          rw [hHj] at q0
                          have HV := hidden (show bR s (lit cd).2 H (j + 1) = false by rw [bR, hHj]; rfl)
                          clear hT hH hW hHj hc
                          go_wp2_with fail
                          go_roundw
                          case rel => exact ⟨j + 1, by go_num, by omega, HT.out.ext (fun x _ => byteTo_same s (lit cd).2 H j HV.out x), HH3.out, HW.out⟩
                          case measure => simp [intOf] <;> omega
                        | true =>
                          rw [hHj] at q0
                          have HBR := hidden (show bR s (lit cd).2 H (j + 1) = (lit cd).2 c.toNat by rw [bR, hHj, ← hc]; rfl)
                          clear hT hH hW hHj hc hjn
                          by_cases ec : c = cd
                          · have HV := hidden (show true = bR s (lit cd).2 H (j + 1) by rw [HBR.out, ec]; simp [lit, spn])
                            have en : (c.toNat : Int) = cd.toNat := by rw [ec] <;> rfl
                            have eb : ((c.toNat : Int) == cd.toNat) = true := by rw [beq_iff_eq]; exact en
                            clear ec
                            go_wp2_with fail
                            go_roundw
                            case rel => exact ⟨j + 1, by go_num, by omega, HT.out.set (j + 1) true _ (fun x _ => byteTo_more s (lit cd).2 H j true HV.out x), HH3.out.other hgn, HW.out.setCell hg2 _⟩
                            case measure => simp [intOf] <;> omega
                          · have en : ¬ (c.toNat : Int) = cd.toNat := fun e => ec (UInt8.toNat_inj.1 (Int.ofNat.inj e))
                            have eb : ((c.toNat : Int) == cd.toNat) = false := by rw [beq_eq_false_iff_ne]; exact en
                            have HV := hidden (show false = bR s (lit cd).2 H (j + 1) by
                              rw [HBR.out]
                              have hn : ¬ c.toNat = (cd : UInt8).toNat := fun e => ec (UInt8.toNat_inj.1 e)
                              simp only [lit, spn]
                              symm
                              rw [Bool.and_eq_false_iff, decide_eq_false_iff_not, decide_eq_false_iff_not]
                              omega)
                            clear ec
                            go_wp2_with fail
                            go_roundw
                            case rel => exact ⟨j + 1, by go_num, by omega, HT.out.set (j + 1) false _ (fun x _ => byteTo_more s (lit cd).2 H j false HV.out x), HH3.out.other hgn, HW.out.setCell hg2 _⟩
                            case measure => simp [intOf] <;> omega
                    · obtain rfl : j = s.length + 1 := by omega
                      clear hT hH hW
                      go_wp2_with fail
                      go_roundw
                      case rel => exact ⟨g2, k + 2, n, bR s (lit cd).2 H, rfl, by go_num, by omega, hg2, HT.out.ext (fun x hx => by rw [byteTo, decide_eq_true (show x ≤ s.length + 1 by omega)]; rfl), HW.out, by rw [List.length_drop]; omega, HP2.out⟩
                      case measure => simp [intOf] <;> omega
              · have h1' : ¬ (k : Int) + 1 < p.length := by omega
                have h1d : decide ((k : Int) + 1 < p.length) = false := decide_eq_false h1'
                have he : ¬ esc true (p.drop k) = true := by unfold esc; rw [List.length_drop]; simp; omega
                have hbv : byteVal true (p.drop k) = 92 := by unfold byteVal; rw [if_neg he, HC.out]
                have hbl : byteLen true (p.drop k) = 1 := by unfold byteLen; rw [if_neg he]
                have HP2 := hidden (show pm (parts p) s = true ↔ From s (bR s (lit 92).2 H) (parseR n (p.drop (k + 1))) by
                  rw [HP.out, parseR, if_neg hne, if_neg (by rw [HC.out]; exact e1), if_neg (by rw [HC.out]; exact e2), if_neg (by rw [HC.out]; decide), hbv, hbl, List.drop_drop]
                  exact from_byte s H _ _)
                clear hne he hbv hbl e1 e2 e3
                as_aux_lemma =>
                  go_wp2_with (at_make; refine wpList_make_full _ rfl _ _ 28 rfl w.heap.size 4 i0 (.bool false) 1 Try.underlying28 hi hz0 hz1 .i64 .i64 _ _ (s.length + 1) rfl rfl (by omega) (by omega) (by rw [hz2]; omega) (by unfold maxLen; omega) HB.out.size ?_; intro w2 hown2 hgrow2; have HT2 := hidden (Bools.of_made hown2); have hbw2 := (Below.refl wr.heap.size wr).grown hgrow2 (Nat.le_refl _) (fun k hk => by cases hk); have HB2 := hidden (HB.out.trans (hbw2.mono HB.out.size)); have HH2 := hidden (HH.out.later hbw2); clear hown2 hgrow2 hbw2)
                  have hgn : g ≠ wr.heap.size := Nat.ne_of_lt hgg
                  have hg2 : w.heap.size ≤ wr.heap.size := HB.out.size
                  generalize wr.heap.size = g2 at *
                  go_loopw [13] (fun qj wx => ∃ j : Nat, qj = .int .i64 j ∧ j ≤ s.length + 1 ∧ Hid (Bools wx g2 (s.length + 1) (byteTo s (lit 92).2 H j) ∧ Bools wx g (s.length + 1) H ∧ Below w.heap.size w wx))
                    (fun qj _ => s.length + 1 - (intOf qj).toNat)
                  case atStart => exact ⟨0, rfl, Nat.zero_le _, HT2.out.ext (fun x _ => byteTo_zero s (lit 92).2 H x), HH2.out, HB2.out⟩
                  case round =>
                    obtain ⟨j, rfl, hj, hT, hH, hW⟩ := hrel
                    have HT := hidden hT
                    have HH3 := hidden hH
                    have HW := hidden hW
                    by_cases hjl : j < s.length + 1
                    · have hjI : (j : Int) ≤ s.length := by omega
                      by_cases hjn : j = s.length
                      · clear hT hH hW
                        subst hjn
                        go_wp2_with fail
                        go_roundw
                        case rel => exact ⟨s.length + 1, by go_num, by omega, HT.out.ext (fun x hx => byteTo_over s (lit 92).2 H x hx), HH3.out, HW.out⟩
                        case measure => simp [intOf] <;> omega
                      · have hjs : j < s.length := by omega
                        have hjb : ((j : Int) == s.length) = false := by rw [beq_eq_false_iff_ne]; omega
                        have t0 : wr.cell? ⟨g2, j + 1, none⟩ = some (.bool false) := by
                          have := hT.cell (j := j + 1) (by omega)
                          rw [show byteTo s (lit 92).2 H j (j + 1) = false by unfold byteTo; rw [decide_eq_false (by omega)]; rfl] at this
                          exact this
                        have f0 := hT.thawed (j + 1)
                        have q0 := hH.cell hjl
                        obtain ⟨c, hc⟩ : ∃ c, c = s.getD j 0 := ⟨_, rfl⟩
                        have hbc : ∀ h, (⟨s.toArray⟩ : ByteArray)[j]'h = c := fun h => by rw [byte_at, hc]
                        cases hHj : H j with
                        | false =>
                          rw [hHj] at q0
                          have HV := hidden (show bR s (lit 92).2 H (j + 1) = false by rw [bR, hHj]; rfl)
                          clear hT hH hW hHj hc
                          go_wp2_with fail
                          go_roundw
                          case rel => exact ⟨j + 1, by go_num, by omega, HT.out.ext (fun x _ => byteTo_same s (lit 92).2 H j HV.out x), HH3.out, HW.out⟩
                          case measure => simp [intOf] <;> omega
                        | true =>
                          rw [hHj] at q0
                          have HBR := hidden (show bR s (lit 92).2 H (j + 1) = (lit 92).2 c.toNat by rw [bR, hHj, ← hc]; rfl)
                          clear hT hH hW hHj hc hjn
                          by_cases ec : c = 92
                          · have HV := hidden (show true = bR s (lit 92).2 H (j + 1) by rw [HBR.out, ec]; simp [lit, spn])
                            have en : (c.toNat : Int) = 92 := by rw [ec] <;> rfl
                            have eb : ((c.toNat : Int) == 92) = true := by rw [beq_iff_eq]; exact en
                            clear ec
                            go_wp2_with fail
                            go_roundw
                            case rel => exact ⟨j + 1, by go_num, by omega, HT.out.set (j + 1) true _ (fun x _ => byteTo_more s (lit 92).2 H j true HV.out x), HH3.out.other hgn, HW.out.setCell hg2 _⟩
                            case measure => simp [intOf] <;> omega
                          · have en : ¬ (c.toNat : Int) = 92 := fun e => ec (UInt8.toNat_inj.1 (Int.ofNat.inj e))
                            have eb : ((c.toNat : Int) == 92) = false := by rw [beq_eq_false_iff_ne]; exact en
                            have HV := hidden (show false = bR s (lit 92).2 H (j + 1) by
                              rw [HBR.out]
                              have hn : ¬ c.toNat = (92 : UInt8).toNat := fun e => ec (UInt8.toNat_inj.1 e)
                              simp only [lit, spn]
                              symm
                              rw [Bool.and_eq_false_iff, decide_eq_false_iff_not, decide_eq_false_iff_not]
                              omega)
                            clear ec
                            go_wp2_with fail
                            go_roundw
                            case rel => exact ⟨j + 1, by go_num, by omega, HT.out.set (j + 1) false _ (fun x _ => byteTo_more s (lit 92).2 H j false HV.out x), HH3.out.other hgn, HW.out.setCell hg2 _⟩
                            case measure => simp [intOf] <;> omega
                    · obtain rfl : j = s.length + 1 := by omega
                      clear hT hH hW
                      go_wp2_with fail
                      go_roundw
                      case rel => exact ⟨g2, k + 1, n, bR s (lit 92).2 H, rfl, by go_num, by omega, hg2, HT.out.ext (fun x hx => by rw [byteTo, decide_eq_true (show x ≤ s.length + 1 by omega)]; rfl), HW.out, by rw [List.length_drop]; omega, HP2.out⟩
                      case measure => simp [intOf] <;> omega
            · skip
              have he : ¬ esc true (p.drop k) = true := by unfold esc; rw [HC.out]; simp [e4]
              have hbv : byteVal true (p.drop k) = cp := by unfold byteVal; rw [if_neg he, HC.out]
              have hbl : byteLen true (p.drop k) = 1 := by unfold byteLen; rw [if_neg he]
              have HP2 := hidden (show pm (parts p) s = true ↔ From s (bR s (lit cp).2 H) (parseR n (p.drop (k + 1))) by
                rw [HP.out, parseR, if_neg hne, if_neg (by rw [HC.out]; exact e1), if_neg (by rw [HC.out]; exact e2), if_neg (by rw [HC.out]; exact e3), hbv, hbl, List.drop_drop]
                exact from_byte s H _ _)
              have f3 := byte_ne (n := 91) e3
              have f4 := byte_ne (n := 92) e4
              have g1 : ((cp.toNat : Int) == 42) = false := by rw [beq_eq_false_iff_ne]; exact f1
              have g2' : ((cp.toNat : Int) == 63) = false := by rw [beq_eq_false_iff_ne]; exact f2
              have g3 : ((cp.toNat : Int) == 91) = false := by rw [beq_eq_false_iff_ne]; exact f3
              have g4 : ((cp.toNat : Int) == 92) = false := by rw [beq_eq_false_iff_ne]; exact f4
              clear hne he hbv hbl e1 e2 e3 e4
              as_aux_lemma =>
                go_wp2_with (at_make; refine wpList_make_full _ rfl _ _ 28 rfl w.heap.size 4 i0 (.bool false) 1 Try.underlying28 hi hz0 hz1 .i64 .i64 _ _ (s.length + 1) rfl rfl (by omega) (by omega) (by rw [hz2]; omega) (by unfold maxLen; omega) HB.out.size ?_; intro w2 hown2 hgrow2; have HT2 := hidden (Bools.of_made hown2); have hbw2 := (Below.refl wr.heap.size wr).grown hgrow2 (Nat.le_refl _) (fun k hk => by cases hk); have HB2 := hidden (HB.out.trans (hbw2.mono HB.out.size)); have HH2 := hidden (HH.out.later hbw2); clear hown2 hgrow2 hbw2)
                have hgn : g ≠ wr.heap.size := Nat.ne_of_lt hgg
                have hg2 : w.heap.size ≤ wr.heap.size := HB.out.size
                generalize wr.heap.size = g2 at *
                go_loopw [13] (fun qj wx => ∃ j : Nat, qj = .int .i64 j ∧ j ≤ s.length + 1 ∧ Hid (Bools wx g2 (s.length + 1) (byteTo s (lit cp).2 H j) ∧ Bools wx g (s.length + 1) H ∧ Below w.heap.size w wx))
                  (fun qj _ => s.length + 1 - (intOf qj).toNat)
                case atStart => exact ⟨0, rfl, Nat.zero_le _, HT2.out.ext (fun x _ => byteTo_zero s (lit cp).2 H x), HH2.out, HB2.out⟩
                case round =>
                  obtain ⟨j, rfl, hj, hT, hH, hW⟩ := hrel
                  have HT := hidden hT
                  have HH3 := hidden hH
                  have HW := hidden hW
                  by_cases hjl : j < s.length + 1
                  · have hjI : (j : Int) ≤ s.length := by omega
                    by_cases hjn : j = s.length
                    · clear hT hH hW
                      subst hjn
                      go_wp2_with fail
                      go_roundw
                      case rel => exact ⟨s.length + 1, by go_num, by omega, HT.out.ext (fun x hx => byteTo_over s (lit cp).2 H x hx), HH3.out, HW.out⟩
                      case measure => simp [intOf] <;> omega
                    · have hjs : j < s.length := by omega
                      have hjb : ((j : Int) == s.length) = false := by rw [beq_eq_false_iff_ne]; omega
                      have t0 : wr.cell? ⟨g2, j + 1, none⟩ = some (.bool false) := by
                        have := hT.cell (j := j + 1) (by omega)
                        rw [show byteTo s (lit cp).2 H j (j + 1) = false by unfold byteTo; rw [decide_eq_false (by omega)]; rfl] at this
                        exact this
                      have f0 := hT.thawed (j + 1)
                      have q0 := hH.cell hjl
                      obtain ⟨c, hc⟩ : ∃ c, c = s.getD j 0 := ⟨_, rfl⟩
                      have hbc : ∀ h, (⟨s.toArray⟩ : ByteArray)[j]'h = c := fun h => by rw [byte_at, hc]
                      cases hHj : H j with
                      | false =>
                        rw [hHj] at q0
                        have HV := hidden (show bR s (lit cp).2 H (j + 1) = false by rw [bR, hHj]; rfl)
                        clear hT hH hW hHj hc
                        go_wp2_with fail
                        go_roundw
                        case rel => exact ⟨j + 1, by go_num, by omega, HT.out.ext (fun x _ => byteTo_same s (lit cp).2 H j HV.out x), HH3.out, HW.out⟩
                        case measure => simp [intOf] <;> omega
                      | true =>
                        rw [hHj] at q0
                        have HBR := hidden (show bR s (lit cp).2 H (j + 1) = (lit cp).2 c.toNat by rw [bR, hHj, ← hc]; rfl)
                        clear hT hH hW hHj hc hjn
                        by_cases ec : c = cp
                        · have HV := hidden (show true = bR s (lit cp).2 H (j + 1) by rw [HBR.out, ec]; simp [lit, spn])
                          have en : (c.toNat : Int) = cp.toNat := by rw [ec] <;> rfl
                          have eb : ((c.toNat : Int) == cp.toNat) = true := by rw [beq_iff_eq]; exact en
                          clear ec
                          go_wp2_with fail
                          go_roundw
                          case rel => exact ⟨j + 1, by go_num, by omega, HT.out.set (j + 1) true _ (fun x _ => byteTo_more s (lit cp).2 H j true HV.out x), HH3.out.other hgn, HW.out.setCell hg2 _⟩
                          case measure => simp [intOf] <;> omega
                        · have en : ¬ (c.toNat : Int) = cp.toNat := fun e => ec (UInt8.toNat_inj.1 (Int.ofNat.inj e))
                          have eb : ((c.toNat : Int) == cp.toNat) = false := by rw [beq_eq_false_iff_ne]; exact en
                          have HV := hidden (show false = bR s (lit cp).2 H (j + 1) by
                            rw [HBR.out]
                            have hn : ¬ c.toNat = (cp : UInt8).toNat := fun e => ec (UInt8.toNat_inj.1 e)
                            simp only [lit, spn]
                            symm
                            rw [Bool.and_eq_false_iff, decide_eq_false_iff_not, decide_eq_false_iff_not]
                            omega)
                          clear ec
                          go_wp2_with fail
                          go_roundw
                          case rel => exact ⟨j + 1, by go_num, by omega, HT.out.set (j + 1) false _ (fun x _ => byteTo_more s (lit cp).2 H j false HV.out x), HH3.out.other hgn, HW.out.setCell hg2 _⟩
                          case measure => simp [intOf] <;> omega
                  · obtain rfl : j = s.length + 1 := by omega
                    clear hT hH hW
                    go_wp2_with fail
                    go_roundw
                    case rel => exact ⟨g2, k + 1, n, bR s (lit cp).2 H, rfl, by go_num, by omega, hg2, HT.out.ext (fun x hx => by rw [byteTo, decide_eq_true (show x ≤ s.length + 1 by omega)]; rfl), HW.out, by rw [List.length_drop]; omega, HP2.out⟩
                    case measure => simp [intOf] <;> omega
    · obtain rfl : k = p.length := by omega
      have HR := hidden (show hits p s = H s.length by
        unfold hits
        rw [Bool.eq_iff_iff, HP.out, List.drop_length]
        rw [show parseR n [] = [] by cases n <;> simp [parseR]]
        exact from_nil s H)
      have hcl := hT0.cell (j := s.length) (by omega)
      clear hT0
      go_wp2_with fail
      go_ret
      exact ⟨by rw [HR.out]; rfl, HB.out⟩

end Go.Proofs.Ythjhihpbilaifaa
