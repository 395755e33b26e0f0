/-
  The law TreeTells, called with any tree that lies in memory and any two texts, returns true, and nothing of what was in memory has turned; condition: no text is longer than the library's Clone takes.
-/
import Derived.Test.YtehhpjgbffcocaaAlive
namespace Go.Proofs.Ytehhpjgbffcocaa
open Go.RowKit Go.Proofs.Ytehhpjgbffcocaa.Tr

theorem get_parts (v : Value) (xs : List En) (n : Tx) (w : World) (hr : TreeAt w v xs) (hl : xs.length ≤ 1048576) (hf : Fit xs) (G : Tx) (b : Bool) (hG : (getL n xs).getD [] = G) (hb : (getL n xs).isSome = b) :
    Calls Try.prog 8 #[v, .string ⟨n.toArray⟩] w fun e w' => e = .returned (.tuple #[.string ⟨G.toArray⟩, .bool b]) ∧ Below w.heap.size w w' := by
  subst hG hb
  exact get_any v xs n w hr hl hf
theorem refGet_parts (v : Value) (xs : List En) (n : Tx) (w : World) (hr : TreeAt w v xs) (hl : xs.length ≤ 1048576) (G : Tx) (b : Bool) (hG : (getL n xs).getD [] = G) (hb : (getL n xs).isSome = b) :
    Calls Try.prog 9 #[v, .string ⟨n.toArray⟩] w fun e w' => e = .returned (.tuple #[.string ⟨G.toArray⟩, .bool b]) ∧ w' = w := by
  subst hG hb
  exact refGet_any v xs n w hr hl

set_option maxHeartbeats 4000000 in
theorem treeTells_in (v : Value) (xs : List En) (n d : Tx) (w : World) (hr : TreeAt w v xs) (hl : xs.length ≤ 60) (hf : Fit xs) (hn : n.length ≤ 281474976710656) (hd : d.length ≤ 281474976710656) :
    Calls Try.prog 3 #[v, .string ⟨n.toArray⟩, .string ⟨d.toArray⟩] w fun e w' => e = .returned (.bool true) ∧ Below w.heap.size w w' := by
  obtain ⟨G, hG⟩ : ∃ G, (getL n xs).getD [] = G := ⟨_, rfl⟩
  obtain ⟨bb, hbb⟩ : ∃ b, (getL n xs).isSome = b := ⟨_, rfl⟩
  obtain ⟨rr, hrr⟩ : ∃ b, right [] xs = b := ⟨_, rfl⟩
  obtain ⟨ao, cap, rfl⟩ := hr.shape
  have hb60 : ¬ (60 : Int) < (xs.length : Int) := by omega
  have HG := hidden hG
  have HBB := hidden hbb
  have HRR := hidden hrr
  have HF := hidden hf
  have HT0 := hidden hr
  clear hr hf hG hbb hrr
  go_enter Try.func3, Try.ntmps3
  go_wp2_with fail
  refine (alive_any _).mono ?_
  rintro e w1 ⟨rfl, hb1⟩
  have H1 := hidden hb1
  clear hb1
  go_wp2_with fail
  refine (get_parts _ xs n w1 (HT0.out.later H1.out) (by omega) HF.out G bb HG.out HBB.out).mono ?_
  rintro e w2 ⟨rfl, hb2⟩
  have H2 := hidden (H1.out.trans (hb2.mono H1.out.size))
  clear hb2 H1
  go_wp2_with fail
  refine (refGet_parts _ xs n w2 (HT0.out.later H2.out) (by omega) G bb HG.out HBB.out).mono ?_
  rintro e w3 ⟨rfl, rfl⟩
  go_wp2_with fail
  refine (right_any _ xs w3 (HT0.out.later H2.out) (by omega)).mono ?_
  rintro e w4 ⟨rfl, hb4⟩
  have H4 := hidden (H2.out.trans (hb4.mono H2.out.size))
  clear hb4 H2
  rw [HRR.out]
  go_wp2_with fail
  refine (refRight_any _ xs w4 (HT0.out.later H4.out) (by omega)).mono ?_
  rintro e w5 ⟨rfl, hb5⟩
  have H5 := hidden (H4.out.trans (hb5.mono H4.out.size))
  clear hb5 H4
  rw [HRR.out]
  go_wp2_with (at_builtin; go_must (refine wpList_append_tree _ (by go_simp) (.const (.slice none 0 0)) (.tmp 49) rfl w5.heap.size _ _ [] xs rfl rfl (World.ownsRow_nil _ _ _ _) (HT0.out.later H5.out) (by simp only [List.length_nil]; omega) (Nat.le_refl _) ?_; intro v6 w6 hown6 hadd6))
  have hb6 := hadd6.below w5.heap.size (Nat.le_refl _) (fun k hk => by cases hk)
  have H6 := hidden (H5.out.trans (hb6.mono H5.out.size))
  have T6 := hidden (TreeAt.of_owns hown6)
  clear hown6 hadd6 hb6 H5
  refine (put_any v6 xs n d w6 T6.out (by omega) HF.out hn hd).mono ?_
  rintro e w7 ⟨⟨v7, rfl, ht7⟩, hb7⟩
  have H7 := hidden (H6.out.trans (hb7.mono H6.out.size))
  have T7 := hidden ht7
  clear hb7 ht7 H6 T6
  go_wp2_with fail
  refine (refPut_any _ xs n d w7 (HT0.out.later H7.out) (by omega)).mono ?_
  rintro e w8 ⟨⟨v8, rfl, ht8⟩, hb8⟩
  have H8 := hidden (H7.out.trans (hb8.mono H7.out.size))
  have T7' := hidden (T7.out.later hb8)
  have T8 := hidden ht8
  clear hb8 ht8 H7 T7
  go_wp2_with fail
  refine (same_any v7 v8 _ _ w8 T7'.out T8.out (by have := put_len n d xs; omega) (by have := put_len n d xs; omega)).mono ?_
  rintro e w9 ⟨rfl, hb9⟩
  have H9 := hidden (H8.out.trans (hb9.mono H8.out.size))
  clear hb9 H8 T7' T8
  rw [decide_eq_true (Eq.refl (putL n d xs))]
  go_wp2_with (at_builtin; go_must (refine wpList_append_tree _ (by go_simp) (.const (.slice none 0 0)) (.tmp 61) rfl w9.heap.size _ _ [] xs rfl rfl (World.ownsRow_nil _ _ _ _) (HT0.out.later H9.out) (by simp only [List.length_nil]; omega) (Nat.le_refl _) ?_; intro v10 w10 hown10 hadd10))
  have hb10 := hadd10.below w9.heap.size (Nat.le_refl _) (fun k hk => by cases hk)
  have H10 := hidden (H9.out.trans (hb10.mono H9.out.size))
  have T10 := hidden (TreeAt.of_owns hown10)
  clear hown10 hadd10 hb10 H9
  refine (cut_any v10 xs n w10 T10.out (by omega) HF.out).mono ?_
  rintro e w11 ⟨⟨v11, rfl, ht11⟩, hb11⟩
  have H11 := hidden (H10.out.trans (hb11.mono H10.out.size))
  have T11 := hidden ht11
  clear hb11 ht11 H10 T10
  go_wp2_with fail
  refine (refCut_any _ xs n w11 (HT0.out.later H11.out) (by omega)).mono ?_
  rintro e w12 ⟨⟨v12, rfl, ht12⟩, hb12⟩
  have H12 := hidden (H11.out.trans (hb12.mono H11.out.size))
  have T11' := hidden (T11.out.later hb12)
  have T12 := hidden ht12
  clear hb12 ht12 H11 T11
  go_wp2_with fail
  refine (same_any v11 v12 _ _ w12 T11'.out T12.out (by have := cut_len n xs; omega) (by have := cut_len n xs; omega)).mono ?_
  rintro e w13 ⟨rfl, hb13⟩
  have H13 := hidden (H12.out.trans (hb13.mono H12.out.size))
  clear hb13 H12 T11' T12
  rw [decide_eq_true (Eq.refl (cutL n xs))]
  go_wp2_with fail
  go_ret
  exact ⟨ret_bool (by simp), H13.out⟩

set_option maxHeartbeats 1000000 in
theorem treeTells_out (v : Value) (xs : List En) (n d : Tx) (w : World) (hr : TreeAt w v xs) (hl : 60 < xs.length) :
    Calls Try.prog 3 #[v, .string ⟨n.toArray⟩, .string ⟨d.toArray⟩] w fun e w' => e = .returned (.bool true) ∧ Below w.heap.size w w' := by
  obtain ⟨ao, cap, rfl⟩ := hr.shape
  have hb60 : (60 : Int) < (xs.length : Int) := by omega
  clear hr
  go_enter Try.func3, Try.ntmps3
  go_wp2_with fail
  refine (alive_any _).mono ?_
  rintro e w1 ⟨rfl, hb1⟩
  have H1 := hidden hb1
  clear hb1
  go_wp2_with fail
  go_ret
  exact ⟨rfl, H1.out⟩

theorem treeTells_any (v : Value) (xs : List En) (n d : Tx) (w : World) (hr : TreeAt w v xs) (hf : Fit xs) (hn : n.length ≤ 281474976710656) (hd : d.length ≤ 281474976710656) :
    Calls Try.prog 3 #[v, .string ⟨n.toArray⟩, .string ⟨d.toArray⟩] w fun e w' => e = .returned (.bool true) ∧ Below w.heap.size w w' := by
  by_cases hl : xs.length ≤ 60
  · exact treeTells_in v xs n d w hr hl hf hn hd
  · exact treeTells_out v xs n d w hr (by omega)

end Go.Proofs.Ytehhpjgbffcocaa
