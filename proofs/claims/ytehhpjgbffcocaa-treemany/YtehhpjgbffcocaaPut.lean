/-
  What the program's Put and Cut answer at any tree that lies in memory: the tree with one put in, and without the first of a name, in new memory; conditions: the tree's length, and the lengths of the texts.
-/
import Derived.Test.YtehhpjgbffcocaaAdd
import Derived.Sort.AtCall
namespace Go.Proofs.Ytehhpjgbffcocaa
open Go.RowKit Go.Proofs.Ytehhpjgbffcocaa.Tr

theorem TreeAt.block {w : World} {v : Value} {xs : List En} (h : TreeAt w v xs) (hne : xs ≠ []) : ∀ b o l c, v = .slice (some ⟨b, o, none⟩) l c → b < w.heap.size := by
  obtain ⟨b, o, cap, rfl, _, hb, _⟩ := h.cells hne
  intro b' o' l' c' e
  cases e
  exact hb
/-- later than w, what lay there as it was -/
theorem TreeAt.from {w w' : World} {v : Value} {xs : List En} (h : TreeAt w v xs) (hb : Below w.heap.size w w') : TreeAt w' v xs := h.later hb
theorem tree_one (w : World) (n d : Tx) : TreeAt (w.alloc (.cells #[.string ⟨n.toArray⟩, .string ⟨d.toArray⟩] 35)) (.slice (some ⟨w.heap.size, 0, none⟩) 1 1) [(n, d)] := by
  refine Or.inr ⟨w.heap.size, 0, 1, rfl, Nat.le_refl _, by simp, fun j e he => ?_⟩
  match j, he with
  | 0, he => simp at he; subst he; exact ⟨by simp [S], by simp [S]⟩
  | j + 1, he => simp at he

set_option maxHeartbeats 2000000 in
theorem put_any (v : Value) (xs : List En) (n d : Tx) (w : World) (hr : TreeAt w v xs) (hl : xs.length ≤ 1000000) (hf : Fit xs) (hn : n.length ≤ 281474976710656) (hd : d.length ≤ 281474976710656) :
    Calls Try.prog 13 #[v, S n, S d] w fun e w' => (∃ v', e = .returned v' ∧ TreeAt w' v' (putL n d xs)) ∧ Below w.heap.size w w' := by
  obtain ⟨i0, hi, hz0, hz1, hz2⟩ := info_parts Try.info35
  have HR := hidden hr
  have HF := hidden (hf.put hn hd)
  clear hr hf
  go_enter Try.func13, Try.ntmps13
  go_wp2_with fail
  refine (around_any v xs n w HR.out (by omega)).mono ?_
  rintro e w1 ⟨⟨va, vb, A, C, rfl, hput, ha, hc, hlen⟩, hb1⟩
  have hput := hput d
  obtain ⟨ao, ca, rfl⟩ := ha.shape
  obtain ⟨co, cc, rfl⟩ := hc.shape
  rw [hput] at HF
  have HP := hidden hput
  have HA := hidden ha
  have HC := hidden hc
  have HB1 := hidden hb1
  clear hput ha hc hb1 HR
  unfold S
  go_wp2_with (at_make; refine wpList_make_own _ rfl _ _ 22 rfl w1.heap.size 35 i0 (.agg #[.string ⟨#[]⟩, .string ⟨#[]⟩]) 2 Try.underlying22 hi hz0 hz1 .i64 .i64 _ (A.length + 1 + C.length) rfl rfl (by omega) (by rw [hz2]; omega) (by unfold maxLen; omega) (Nat.le_refl _) ?_; intro w2 hown2 hgrow2)
  have hb2 : Below w.heap.size w w2 := HB1.out.grown hgrow2 HB1.out.size (fun k hk => by cases hk)
  refine (add_any w1.heap.size _ _ [] A w2 hgrow2.size hown2 (HA.out.later hb2) (fun hne b o l c e => by have h1 := HA.out.block hne b o l c e; have h2 := HB1.out.size; intro e2; have e3 : b = w1.heap.size := Option.some.inj e2; omega) (by simp; omega) (HF.out.sub (by intro e he; simp [he]))).mono ?_
  rintro e w3 ⟨v3, rfl, hown3, hadd3⟩
  have hb3 : Below w.heap.size w w3 := hb2.trans (hadd3.below w.heap.size hb2.size (fun k hk => by have := HB1.out.size; have e : w1.heap.size = k := Option.some.inj hk; omega))
  rw [List.nil_append] at hown3
  have hsz3 : w1.heap.size ≤ w3.heap.size := Nat.le_trans hgrow2.size hadd3.1.size
  have HO3 := hidden hown3
  have HB3 := hidden hb3
  clear hown2 hgrow2 hb2 hown3 hadd3 hb3
  go_wp2_with fail
  refine (add_any w1.heap.size v3 _ A [(n, d)] (w3.alloc (.cells #[.string ⟨n.toArray⟩, .string ⟨d.toArray⟩] 35)) (by simp; omega) (HO3.out.alloc _) (tree_one w3 n d) (fun _ b o l c e => by cases e; intro e2; have := (HO3.out.lt _ e2.symm).2; omega) (by simp; omega) (HF.out.sub (by intro e he; simp at he; simp [he]))).mono ?_
  rintro e w5 ⟨v5, rfl, hown5, hadd5⟩
  have hb5 : Below w.heap.size w w5 := (HB3.out.alloc HB3.out.size _).trans (hadd5.below w.heap.size (by have := HB3.out.size; simp; omega) (fun k hk => by have := (HO3.out.lt k hk).1; have := HB1.out.size; omega))
  have hsz5 : w1.heap.size ≤ w5.heap.size := by have := hadd5.1.size; simp at this; omega
  have HO5 := hidden hown5
  have HB5 := hidden hb5
  clear hown5 hadd5 hb5 HO3 HB3
  go_wp2_with fail
  refine (add_any w1.heap.size v5 _ (A ++ [(n, d)]) C w5 hsz5 HO5.out (HC.out.later HB5.out) (fun hne b o l c e => by have h1 := HC.out.block hne b o l c e; have h2 := HB1.out.size; intro e2; have := (HO5.out.lt _ e2.symm).1; omega) (by simp; omega) (HF.out.sub (by intro e he; simp [he]))).mono ?_
  rintro e w6 ⟨v6, rfl, hown6, hadd6⟩
  have HB6 := hidden (HB5.out.trans (hadd6.below w.heap.size HB5.out.size (fun k hk => by have := (HO5.out.lt k hk).1; have := HB1.out.size; omega)))
  have HT6 := hidden (TreeAt.of_owns hown6)
  clear hown6 hadd6 HO5 HB5
  go_wp2_with fail
  go_ret
  exact ⟨⟨_, rfl, by rw [HP.out]; have := HT6.out; rw [List.append_assoc] at this; exact this⟩, HB6.out⟩

set_option maxHeartbeats 2000000 in
theorem cut_any (v : Value) (xs : List En) (n : Tx) (w : World) (hr : TreeAt w v xs) (hl : xs.length ≤ 1048576) (hf : Fit xs) :
    Calls Try.prog 15 #[v, S n] w fun e w' => (∃ v', e = .returned v' ∧ TreeAt w' v' (cutL n xs)) ∧ Below w.heap.size w w' := by
  have HR := hidden hr
  have HF := hidden hf
  clear hr hf
  go_enter Try.func15, Try.ntmps15
  go_wp2_with fail
  refine (first_any v xs n w HR.out hl).mono ?_
  rintro e w1 ⟨⟨z, rfl, hz⟩, hb1⟩
  have HB1 := hidden hb1
  clear hb1
  rcases hz with ⟨k, ⟨e1, e2⟩, rfl, hk, he, hno⟩ | ⟨rfl, hno⟩
  · have hlt : k < xs.length := (List.getElem?_eq_some_iff.1 hk).1
    have HP := hidden (show cutL n xs = xs.take k ++ xs.drop (k + 1) by
      conv => lhs; rw [cut_at hk]
      exact cut_hit _ _ _ (take_all (p := fun x => ¬ x.1 = n) hno) he)
    obtain ⟨b, o, cap, rfl, hcap, hbb, hc⟩ := HR.out.cells (fun h => by simp [h] at hk)
    have HT := hidden (show ∀ c, xs.length ≤ c → TreeAt w (.slice (some ⟨b, o, none⟩) k c) (xs.take k) from fun c h => tree_take k (by omega) h hbb hc)
    have HD := hidden (tree_drop (k + 1) hcap rfl hbb hc)
    have HLN := hidden (show (xs.take k).length + (xs.drop (k + 1)).length ≤ xs.length by rw [List.length_take, List.length_drop]; omega)
    have HFT := hidden (HF.out.sub (fun e he => List.mem_of_mem_take he) : Fit (xs.take k))
    have HFD := hidden (HF.out.sub (fun e he => List.mem_of_mem_drop he) : Fit (xs.drop (k + 1)))
    clear hk hno he HR hc HF
    have hI0 : (0 : Int) ≤ (k : Int) := by omega
    have hI1 : (k : Int) ≤ (xs.length : Int) := by omega
    have hI2 : (k : Int) + 1 ≤ (xs.length : Int) := by omega
    have hI3 : (k : Int) ≤ (cap : Int) := by omega
    have hI4 : (0 : Int) ≤ (k : Int) + 1 := by omega
    have hI5 : IntKind.i64.wrap ((k : Int) + 1) = (k : Int) + 1 := by rw [IntKind.wrap_i64]; omega
    have hI6 : (xs.length : Int) ≤ (cap : Int) := by omega
    by_cases hcp : k + 1 < cap
    · have hcn1 : ¬ cap = k + 1 := by omega
      have hcn2 : ¬ k + 1 = cap := by omega
      have hcn3 : ¬ cap - (k + 1) = 0 := by omega
      have hcn4 : ¬ cap ≤ k + 1 := by omega
      go_wp2_with fail
      go_region_held3 (fun _ => True) (trivial) (first
        | (go_at_call_has 21 (Value.slice none 0 0); refine (add_any w1.heap.size (.slice none 0 0) _ [] (xs.take k) _ ?_ ?_ ?_ ?_ ?_ HFT.out).mono ?_; (· exact Nat.le_refl _); (· exact World.ownsRow_nil _ _ _ _); (· exact (HT.out _ (by omega)).later HB1.out.drew); (· intro _ b o l c e e2; cases e2); (· have := HLN.out; simp only [List.length_nil]; omega); rintro e w2 ⟨v2, rfl, hown2, hadd2⟩; rw [List.nil_append] at hown2; have hb2 : Below w.heap.size w w2 := HB1.out.drew.trans (hadd2.below w.heap.size HB1.out.size (fun k hk => by cases hk)); have hs2 : w1.heap.size ≤ w2.heap.size := hadd2.1.size; clear hadd2)
        | (go_at_call_has 21 v2; refine (add_any w1.heap.size v2 _ (xs.take k) (xs.drop (k + 1)) w2 hs2 hown2 ?_ ?_ ?_ HFD.out).mono ?_; (· exact HD.out.later hb2); (· intro hne b' o' l' c' e; have h1 := HD.out.block hne b' o' l' c' e; have h2 := HB1.out.size; intro e2; have := (hown2.lt _ e2.symm).1; omega); (· have := HLN.out; omega); rintro e w3 ⟨v3, rfl, hown3, hadd3⟩))
      all_goals
        have HB3 := hidden (hb2.trans (hadd3.below w.heap.size hb2.size (fun k hk => by have := (hown2.lt k hk).1; have := HB1.out.size; omega)))
        have HT3 := hidden (TreeAt.of_owns hown3)
        clear hown3 hadd3 hown2 hb2
        go_wp2_with fail
        go_ret
        exact ⟨⟨_, rfl, by rw [HP.out]; exact HT3.out⟩, HB3.out⟩
    · have HN := hidden (show xs.drop (k + 1) = [] from List.drop_eq_nil_of_le (by omega))
      obtain rfl : cap = k + 1 := by omega
      have hxl : xs.length = k + 1 := by omega
      rw [hxl]
      have hI7 : (k : Int) ≤ (k : Int) + 1 := by omega
      have hI8 : (k : Int) ≤ ((k + 1 : Nat) : Int) := by omega
      have hI9 : k ≤ k + 1 := by omega
      go_wp2_with fail

      go_region_held3 (fun _ => True) (trivial) (first
        | (go_at_call_has 21 (Value.slice none 0 0); refine (add_any w1.heap.size (.slice none 0 0) _ [] (xs.take k) _ ?_ ?_ ?_ ?_ ?_ HFT.out).mono ?_; (· exact Nat.le_refl _); (· exact World.ownsRow_nil _ _ _ _); (· exact (HT.out _ (by omega)).later HB1.out.drew); (· intro _ b o l c e e2; cases e2); (· have := HLN.out; simp only [List.length_nil]; omega); rintro e w2 ⟨v2, rfl, hown2, hadd2⟩; rw [List.nil_append] at hown2; have hb2 : Below w.heap.size w w2 := HB1.out.drew.trans (hadd2.below w.heap.size HB1.out.size (fun k hk => by cases hk)); have hs2 : w1.heap.size ≤ w2.heap.size := hadd2.1.size; clear hadd2)
        | (go_at_call_has 21 v2; refine (add_any w1.heap.size v2 _ (xs.take k) (xs.drop (k + 1)) w2 hs2 hown2 ?_ ?_ ?_ HFD.out).mono ?_; (· rw [HN.out]; exact TreeAt.nil _ _ _); (· intro hne; exact absurd HN.out hne); (· have := HLN.out; omega); rintro e w3 ⟨v3, rfl, hown3, hadd3⟩))
      all_goals
        have HB3 := hidden (hb2.trans (hadd3.below w.heap.size hb2.size (fun k hk => by have := (hown2.lt k hk).1; have := HB1.out.size; omega)))
        have HT3 := hidden (TreeAt.of_owns hown3)
        clear hown3 hadd3 hown2 hb2
        go_wp2_with fail
        go_ret
        exact ⟨⟨_, rfl, by rw [HP.out]; exact HT3.out⟩, HB3.out⟩
  · have HP := hidden (cut_miss xs (mem_all (p := fun x => x.1 ≠ n) hno))
    clear hno
    go_wp2_with fail
    refine (add_any w1.heap.size (.slice none 0 0) v [] xs w1 (Nat.le_refl _) (World.ownsRow_nil _ _ _ _) (HR.out.later HB1.out) (fun _ b o l c e e2 => by cases e2) (by simpa using hl) HF.out).mono ?_
    rintro e w2 ⟨v2, rfl, hown2, hadd2⟩
    have HB2 := hidden (HB1.out.trans (hadd2.below w.heap.size HB1.out.size (fun k hk => by cases hk)))
    have HT2 := hidden (TreeAt.of_owns hown2)
    clear hown2 hadd2
    go_wp2_with fail
    go_ret
    exact ⟨⟨_, rfl, by rw [HP.out]; exact HT2.out⟩, HB2.out⟩

end Go.Proofs.Ytehhpjgbffcocaa
