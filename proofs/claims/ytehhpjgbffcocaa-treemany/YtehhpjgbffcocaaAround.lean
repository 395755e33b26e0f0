/-
  What the program's around answers at any tree that lies in memory: what stands ahead of and behind the entry that Put makes; the same of its Get and Right; conditions: the tree's length, and of Get the length of the data.
-/
import Derived.Test.YtehhpjgbffcocaaIdx
namespace Go.Proofs.Ytehhpjgbffcocaa
open Go.RowKit Go.Proofs.Ytehhpjgbffcocaa.Tr

theorem tree_take {w : World} {b o cap : Nat} {xs : List En} (k : Nat) (hk : k ≤ xs.length) (hcap : xs.length ≤ cap) (hb : b < w.heap.size)
    (hc : ∀ (j : Nat) e, xs[j]? = some e → w.cell? ⟨b, o + j * 2, none⟩ = some (S e.1) ∧ w.cell? ⟨b, o + j * 2 + 1, none⟩ = some (S e.2)) : TreeAt w (.slice (some ⟨b, o, none⟩) k cap) (xs.take k) := by
  refine Or.inr ⟨b, o, cap, by rw [List.length_take, Nat.min_eq_left hk], by rw [List.length_take]; omega, hb, fun j e he => ?_⟩
  obtain ⟨h1, h2⟩ := List.getElem?_eq_some_iff.1 he
  rw [List.length_take] at h1
  exact hc j e (by rw [← h2, List.getElem_take]; exact List.getElem?_eq_getElem (by omega))
theorem tree_drop {w : World} {b o cap cap' : Nat} {xs : List En} (k : Nat) (hcap : xs.length ≤ cap) (hcp : cap' = cap - k) (hb : b < w.heap.size)
    (hc : ∀ (j : Nat) e, xs[j]? = some e → w.cell? ⟨b, o + j * 2, none⟩ = some (S e.1) ∧ w.cell? ⟨b, o + j * 2 + 1, none⟩ = some (S e.2)) : TreeAt w (.slice (some ⟨b, o + k * 2, none⟩) (xs.length - k) cap') (xs.drop k) := by
  refine Or.inr ⟨b, o + k * 2, cap', by rw [List.length_drop], by rw [List.length_drop]; omega, hb, fun j e he => ?_⟩
  rw [List.getElem?_drop] at he
  have := hc (k + j) e he
  rw [show o + (k + j) * 2 = o + k * 2 + j * 2 by omega] at this
  exact this

set_option maxHeartbeats 1000000 in
theorem around_any (v : Value) (xs : List En) (n : Tx) (w : World) (hr : TreeAt w v xs) (hl : xs.length ≤ 1048576) :
    Calls Try.prog 20 #[v, S n] w fun e w' => (∃ va vb A B, e = .returned (.tuple #[va, vb]) ∧ (∀ d, putL n d xs = A ++ (n, d) :: B) ∧ TreeAt w va A ∧ TreeAt w vb B ∧ A.length + B.length ≤ xs.length) ∧ Below w.heap.size w w' := by
  have hwa : Below w.heap.size w (w.alloc (.cells #[.string ⟨n.toArray⟩] 9)) := (Below.refl _ w).alloc (Nat.le_refl _) _
  have hcon := first_any v xs n (w.alloc (.cells #[.string ⟨n.toArray⟩] 9)) (hr.later hwa) hl
  have HCO := hidden hcon
  have HWA := hidden hwa
  have HR := hidden hr
  obtain ⟨ao, cap, hv⟩ := hr.shape
  have HV := hidden hv
  clear hr hv hcon hwa
  unfold S
  go_enter Try.func20, Try.ntmps20
  go_wp2_with fail
  refine HCO.out.mono ?_
  rintro e w1 ⟨⟨z, rfl, hz⟩, hb⟩
  have HB := hidden (HWA.out.trans (hb.mono (by simp)))
  have hcl : w1.cell? ⟨w.heap.size, 0, none⟩ = some (.string ⟨n.toArray⟩) := by
    rw [hb.cell (p := ⟨w.heap.size, 0, none⟩) (by simp)]; simp
  have hsz : w.heap.size < w1.heap.size := by have := hb.size; simp at this; omega
  clear hb HCO HWA
  rcases hz with ⟨k, ⟨e1, e2⟩, rfl, hk, he, hno⟩ | ⟨rfl, hno⟩
  · have hlt : k < xs.length := (List.getElem?_eq_some_iff.1 hk).1
    have HP := hidden (show ∀ d, putL n d xs = xs.take k ++ (n, d) :: xs.drop (k + 1) from fun d => by
      conv => lhs; rw [cut_at hk]
      exact put_hit _ _ _ (take_all (p := fun x => ¬ x.1 = n) hno) he)
    obtain ⟨b, o, cap, rfl, hcap, hbb, hc⟩ := HR.out.cells (fun h => by simp [h] at hk)
    have HT := hidden (show ∀ c, xs.length ≤ c → TreeAt w (.slice (some ⟨b, o, none⟩) k c) (xs.take k) from fun c h => tree_take k (by omega) h hbb hc)
    have HD := hidden (tree_drop (k + 1) hcap rfl hbb hc)
    clear hk hno he HR HV hc
    have hlen : (xs.take k).length + (xs.drop (k + 1)).length ≤ xs.length := by rw [List.length_take, List.length_drop]; omega
    have HLN := hidden hlen
    clear hlen
    by_cases hend : k + 1 = xs.length
    · have HN := hidden (show xs.drop (k + 1) = [] from List.drop_eq_nil_of_le (by omega))
      go_wp2_with fail
      go_quiet (fail)
      go_wp2
      all_goals
        go_ret2
        exact ⟨⟨_, _, rfl, _, _, HP.out, HT.out _ (by omega), by rw [HN.out]; exact TreeAt.nil _ _ _, HLN.out⟩, below_drewN HB.out nq⟩
    · have hcp : k + 1 < cap := by omega
      go_wp2_with fail
      go_quiet (fail)
      go_wp2
      go_ret2
      exact ⟨⟨_, _, _, _, rfl, HP.out, HT.out _ hcap, HD.out, HLN.out⟩, below_drewN HB.out nq⟩
  · have HM := hidden (mem_all (p := fun x => x.1 ≠ n) hno)
    clear hno
    have hcon2 := indexMore_any v xs n w.heap.size w1 (HR.out.later HB.out) hl hsz hcl
    have HC2 := hidden hcon2
    clear hcon2
    go_wp2_with fail
    refine HC2.out.mono ?_
    rintro e w2 ⟨⟨z, rfl, hz⟩, hb⟩
    have HB2 := hidden (HB.out.trans (hb.mono (Nat.le_of_lt hsz)))
    clear hb HC2 hcl hsz HB
    rcases hz with ⟨k, ⟨e1, e2⟩, rfl, hk, he, hno⟩ | ⟨rfl, hno⟩
    · have hlt : k < xs.length := (List.getElem?_eq_some_iff.1 hk).1
      have HP := hidden (show ∀ d, putL n d xs = xs.take k ++ (n, d) :: xs.drop k from fun d => by
        rw [put_miss xs HM.out]
        conv => lhs; rw [cut_at hk]
        rw [ins_hit _ _ _ (take_all (p := fun x => Op.bytesLess n x.1 = false) (fun j x h1 h2 => by simpa using hno j x h1 h2)) he]
        obtain ⟨hh, e⟩ := List.getElem?_eq_some_iff.1 hk
        rw [List.drop_eq_getElem_cons hh, e])
      obtain ⟨b, o, cap, rfl, hcap, hbb, hc⟩ := HR.out.cells (fun h => by simp [h] at hk)
      have HT := hidden (tree_take k (by omega) hcap hbb hc)
      have HD := hidden (tree_drop k hcap rfl hbb hc)
      have HLN := hidden (show (xs.take k).length + (xs.drop k).length ≤ xs.length by rw [List.length_take, List.length_drop]; omega)
      have hcp : k < cap := by omega
      clear hk hno he HR HV hc
      go_wp2_with fail
      go_quiet (fail)
      go_wp2
      go_ret2
      exact ⟨⟨_, _, _, _, rfl, HP.out, HT.out, HD.out, HLN.out⟩, below_drewN HB2.out nq⟩
    · have HP := hidden (show ∀ d, putL n d xs = xs ++ (n, d) :: [] from fun d => by
        rw [put_miss xs HM.out, ins_miss xs (mem_all (p := fun x => Op.bytesLess n x.1 = false) (fun j x h1 h2 => by simpa using hno j x h1 h2))])
      clear hno
      go_wp2_with fail
      go_ret2
      exact ⟨⟨_, _, _, _, rfl, HP.out, HR.out, TreeAt.nil _ _ _, by simp⟩, HB2.out⟩

theorem clone_any (x : Tx) (w : World) (hs : x.length ≤ 281474976710656) :
    Calls Try.prog 18 #[.string ⟨x.toArray⟩] w fun e w' => e = .returned (.string ⟨x.toArray⟩) ∧ Below w.heap.size w w' := by
  go_enter Try.func18, Try.ntmps18
  go_wp2_with fail
  refine (Try.stringslite_Clone ⟨x.toArray⟩ w (by show x.toArray.size ≤ _; simpa using hs)).mono ?_
  rintro e w1 ⟨rfl, hb⟩
  have HB := hidden hb
  clear hb
  go_wp2_with fail
  go_ret
  exact ⟨rfl, HB.out⟩

/-- no text of a tree is longer than the library's Clone takes -/
def Fit (xs : List En) : Prop := ∀ e, e ∈ xs → e.1.length ≤ 281474976710656 ∧ e.2.length ≤ 281474976710656
theorem Fit.put {xs : List En} {n d : Tx} (h : Fit xs) (hn : n.length ≤ 281474976710656) (hd : d.length ≤ 281474976710656) : Fit (putL n d xs) := fun e he => by
  rcases put_mem he with rfl | he
  · exact ⟨hn, hd⟩
  · exact h e he
theorem Fit.cut {xs : List En} {n : Tx} (h : Fit xs) : Fit (cutL n xs) := fun e he => h e ((cut_sub n xs).subset he)
theorem Fit.sub {xs ys : List En} (h : Fit xs) (hs : ∀ e, e ∈ ys → e ∈ xs) : Fit ys := fun e he => h e (hs e he)

set_option maxHeartbeats 1000000 in
theorem get_any (v : Value) (xs : List En) (n : Tx) (w : World) (hr : TreeAt w v xs) (hl : xs.length ≤ 1048576) (hf : Fit xs) :
    Calls Try.prog 8 #[v, S n] w fun e w' => e = .returned (.tuple #[S ((getL n xs).getD []), .bool (getL n xs).isSome]) ∧ Below w.heap.size w w' := by
  have HR := hidden hr
  have HF := hidden hf
  clear hr hf
  go_enter Try.func8, Try.ntmps8
  go_wp2_with fail
  refine (first_any v xs n w HR.out hl).mono ?_
  rintro e w1 ⟨⟨z, rfl, hz⟩, hb1⟩
  have HB := hidden hb1
  clear hb1
  rcases hz with ⟨k, ⟨e1, e2⟩, rfl, hk, he, hno⟩ | ⟨rfl, hno⟩
  · have hg : getL n xs = some e2 := by
      rw [cut_at hk]; exact get_hit _ _ _ (take_all (p := fun x => ¬ x.1 = n) hno) he
    obtain ⟨b, o, cap, rfl, hcap, hb, hc⟩ := HR.out.cells (fun h => by simp [h] at hk)
    have hlt : k < xs.length := (List.getElem?_eq_some_iff.1 hk).1
    have hc2 : w1.cell? ⟨b, o + k * 2 + 1, none⟩ = some (.string ⟨e2.toArray⟩) := (HB.out.cell (p := ⟨b, o + k * 2 + 1, none⟩) hb).trans (hc k _ hk).2
    have HG := hidden hg
    have HCL := hidden (clone_any e2 w1 (HF.out _ (List.mem_of_getElem? hk)).2)
    clear hk hno he HR hg hc
    go_wp2_with fail
    refine HCL.out.mono ?_
    rintro e w2 ⟨rfl, hb2⟩
    have HB2 := hidden (HB.out.trans (hb2.mono HB.out.size))
    clear hb2
    go_wp2_with fail
    go_ret2
    exact ⟨by rw [HG.out]; rfl, HB2.out⟩
  · have HG := hidden (get_miss xs (mem_all (p := fun x => x.1 ≠ n) hno))
    clear hno
    go_wp2_with fail
    go_ret2
    exact ⟨by rw [HG.out]; rfl, HB.out⟩

set_option maxHeartbeats 1000000 in
theorem right_any (v : Value) (xs : List En) (w : World) (hr : TreeAt w v xs) (hl : xs.length ≤ 1048576) :
    Calls Try.prog 10 #[v] w fun e w' => e = .returned (.bool (right [] xs)) ∧ Below w.heap.size w w' := by
  by_cases hne : xs = []
  · subst hne
    obtain ⟨ao, cap, rfl⟩ := hr.shape
    clear hr
    go_enter Try.func10, Try.ntmps10
    go_wp2
    refine wp_loop_rounds 1 ?_
    rw [rounds_succ]
    go_wp2
    go_ret
    exact ⟨rfl, Below.refl _ _⟩
  · obtain ⟨b, o, cap, rfl, hcap, hb, hc⟩ := hr.cells hne
    have HC := hidden hc
    clear hr hc hne
    go_enter Try.func10, Try.ntmps10
    go_wp2
    go_loopw [3, 8] (fun s i wr => ∃ (k : Nat) (l : Tx), k ≤ xs.length ∧ i = .int .i64 k ∧ s = .string ⟨l.toArray⟩ ∧ Hid (right [] (xs.take k) = true ∧ (((xs.take k).getLast?).map (·.1)).getD [] = l) ∧ Hid (Below w.heap.size w wr))
      (fun _ i _ => xs.length - (intOf i).toNat)
    case atStart => exact ⟨0, [], Nat.zero_le _, rfl, rfl, by simp [Hid, right], Below.refl _ _⟩
    case round =>
      obtain ⟨k, l, hk, rfl, rfl, hok, hbl⟩ := hrel
      by_cases hlt : k < xs.length
      · obtain ⟨x1, x2, hx⟩ := at_some hlt
        have hc1 : wr.cell? ⟨b, o + k * 2, none⟩ = some (.string ⟨x1.toArray⟩) := (hbl.out.cell (p := ⟨b, o + k * 2, none⟩) hb).trans (HC.out k _ hx).1
        have hc2 : wr.cell? ⟨b, o + k * 2 + 1, none⟩ = some (.string ⟨x2.toArray⟩) := (hbl.out.cell (p := ⟨b, o + k * 2 + 1, none⟩) hb).trans (HC.out k _ hx).2
        have HSN := hidden (take_snoc hx)
        have HLA := hidden (last_take hx)
        have HAP := hidden (List.take_append_drop (k + 1) xs).symm
        have hle := le_iff x1 l
        clear hx
        cases hq : Op.bytesLess l x1
        · have HF := hidden (show right [] xs = false by
            rw [HAP.out, HSN.out]
            refine right_not _ _ _ ?_
            rw [right_snoc, hok.out.2, hq]; simp)
          rw [hq] at hle
          have h1 : Op.bytesLess x1 l = true ∨ x1 = l := by simpa using hle
          clear hle hq
          rcases h1 with h1 | h1
          · go_wp2_with fail
            go_ret
            exact ⟨ret_bool HF.out.symm, hbl.out.alloc hbl.out.size _⟩
          · subst h1
            go_wp2_with fail
            go_ret
            exact ⟨ret_bool HF.out.symm, hbl.out.alloc hbl.out.size _⟩
        · have HO := hidden (show right [] (xs.take (k + 1)) = true ∧ (((xs.take (k + 1)).getLast?).map (·.1)).getD [] = x1 by
            refine ⟨?_, by rw [HLA.out]; rfl⟩
            rw [HSN.out, right_snoc, hok.out.1, hok.out.2, hq]; rfl)
          rw [hq] at hle
          have h1 : Op.bytesLess x1 l = false ∧ (x1 == l) = false := by simpa using hle
          obtain ⟨h1, h2⟩ := h1
          clear hle
          go_wp2_with fail
          go_roundw
          case rel => exact ⟨k + 1, x1, by omega, by go_num, rfl, HO.out, hbl.out.alloc hbl.out.size _⟩
          case measure => simp [intOf]; omega
      · have HF := hidden (show right [] xs = true by have := hok.out.1; rw [List.take_of_length_le (by omega)] at this; exact this)
        go_wp2
        go_ret
        exact ⟨ret_bool HF.out.symm, hbl.out⟩

end Go.Proofs.Ytehhpjgbffcocaa
