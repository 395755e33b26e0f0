
/-
  What lines.Whole and the document's own Whole, Join and Split answer at lists of texts that lie in memory, and at texts: whether texts are lines and, but the last, closed; the texts together; the lines of a text; conditions: the lists' and texts' lengths.
-/
import Derived.Test.YtmbalnjobcgpkaaORow
import Derived.Lib.BufferRead
import Derived.Lib.AppendStr
namespace Go.Proofs.Ytmbalnjobcgpkaa
open Go.RowKit Go.Proofs.Ytmbalnjobcgpkaa.Ln Go.Proofs.Ytmbalnjobcgpkaa.Ol

section
variable {W n m : Bool} {r c : Bool} {a k : Nat}
theorem wh_go1 (H : W = (r && (decide (a ≤ k + 1) || c) && n)) (h1 : (!r) = false) (h3 : (!c) = false) : W = n := by
  simp at h1 h3; simp [H, h1, h3]
theorem wh_go2 (H : W = (r && (decide (a ≤ k + 1) || c) && n)) (h1 : (!r) = false) (h2 : ¬ (k : Int) < (a : Int) - 1) : W = n := by
  have : a ≤ k + 1 := by omega
  simp at h1; simp [H, h1, this]
theorem wh_no1 (H : W = (r && (decide (a ≤ k + 1) || c) && n)) (h1 : (!r) = true) : false = W := by
  simp at h1; simp [H, h1]
theorem wh_no2 (H : W = (r && (decide (a ≤ k + 1) || c) && n)) (h2 : (k : Int) < (a : Int) - 1) (h3 : (!c) = true) : false = W := by
  have : ¬ a ≤ k + 1 := by omega
  simp at h3; simp [H, h3, this]
theorem whr_go (H : W = (r && (decide (a ≤ k + 1) || c) && n)) (h1 : r = true) (h2 : a ≤ k + 1 ∨ c = true) : W = n := by
  rcases h2 with h2 | h2 <;> simp [H, h1, h2]
theorem whr_no (H : W = (r && (decide (a ≤ k + 1) || c) && n)) (h : r = false ∨ (¬ a ≤ k + 1 ∧ c = false)) : false = W := by
  rcases h with h | ⟨h, h2⟩
  · simp [H, h]
  · simp [H, h, h2]
end

set_option maxHeartbeats 2000000 in
theorem refWhole_any (v : Value) (xs : List Tx) (w : World) (hr : RowAt w v xs) (hl : xs.length ≤ 8796093022208) (hn : FitT xs) :
    Calls Try.prog 26 #[v] w fun e w' => e = .returned (.bool (wh xs)) ∧ Below w.heap.size w w' := by
  rcases hr with ⟨rfl, ao, cap, rfl, _⟩ | ⟨b, o, cap, rfl, hcap, hb, hc⟩
  · go_enter Try.func26, Try.ntmps26
    go_wp2
    refine wp_loop_rounds 1 ?_
    rw [rounds_succ]
    go_wp2
    go_ret
    exact ⟨rfl, Below.refl _ _⟩
  · have HC : Hid (∀ (j : Nat) x, xs[j]? = some x → w.cell? ⟨b, o + j, none⟩ = some (S x)) := hc
    have HN := hidden hn
    clear hc hn
    go_enter Try.func26, Try.ntmps26
    go_wp2
    go_loopw [3] (fun i wr => ∃ k : Nat, k ≤ xs.length ∧ i = .int .i64 k ∧ Hid (wh xs = wh (xs.drop k)) ∧ Hid (Below w.heap.size w wr))
      (fun i _ => xs.length - (intOf i).toNat)
    case atStart => exact ⟨0, Nat.zero_le _, rfl, rfl, Below.refl _ _⟩
    case round =>
      obtain ⟨k, hk, rfl, hw, hbl⟩ := hrel
      by_cases hlt : k < xs.length
      · obtain ⟨x, hx⟩ : ∃ x, xs[k]? = some x := ⟨xs[k], List.getElem?_eq_getElem hlt⟩
        have hcell : wr.cell? ⟨b, o + k, none⟩ = some (.string ⟨x.toArray⟩) := (hbl.out.cell (p := ⟨b, o + k, none⟩) hb).trans (HC.out k x hx)
        have hml := HN.out x (List.mem_of_getElem? hx)
        have HD : Hid (wh xs = (rt x && (decide (xs.length ≤ k + 1) || cl x) && wh (xs.drop (k + 1)))) := hw.out.trans (wh_drop xs k x hx)
        clear hw hx
        cases hrt : rt x
        · go_wp2_with (first | (go_at_call 29; refine (rightLineX x _ (by omega)).mono ?_; rintro e w' ⟨rfl, rfl⟩) | (go_at_call 30; refine (openX x _ (by omega)).mono ?_; rintro e w' ⟨rfl, rfl⟩))
          go_ret
          exact ⟨ret_bool (whr_no HD.out (Or.inl hrt)), hbl.out⟩
        · cases hcl : cl x
          · by_cases hlast : k + 1 < xs.length
            · go_wp2_with (first | (go_at_call 29; refine (rightLineX x _ (by omega)).mono ?_; rintro e w' ⟨rfl, rfl⟩) | (go_at_call 30; refine (openX x _ (by omega)).mono ?_; rintro e w' ⟨rfl, rfl⟩))
              go_ret
              exact ⟨ret_bool (whr_no HD.out (Or.inr ⟨by omega, hcl⟩)), hbl.out⟩
            · go_wp2_with (first | (go_at_call 29; refine (rightLineX x _ (by omega)).mono ?_; rintro e w' ⟨rfl, rfl⟩) | (go_at_call 30; refine (openX x _ (by omega)).mono ?_; rintro e w' ⟨rfl, rfl⟩))
              have H := whr_go HD.out hrt (Or.inl (by omega))
              go_roundw
              case rel => exact ⟨k + 1, by omega, by go_num, H, hbl⟩
              case measure => simp [intOf]; omega
          · go_wp2_with (first | (go_at_call 29; refine (rightLineX x _ (by omega)).mono ?_; rintro e w' ⟨rfl, rfl⟩) | (go_at_call 30; refine (openX x _ (by omega)).mono ?_; rintro e w' ⟨rfl, rfl⟩))
            have H := whr_go HD.out hrt (Or.inr hcl)
            go_roundw
            case rel => exact ⟨k + 1, by omega, by go_num, H, hbl⟩
            case measure => simp [intOf]; omega
      · go_wp2
        go_ret
        exact ⟨ret_bool (by rw [hw.out, List.drop_of_length_le (by omega)]; rfl), hbl.out⟩

theorem Try.infoByte : (Try.prog.info? 5).map (fun i => (i.zero, i.size, i.bytes)) = some (some (.int .u8 0), 1, 1) := by kernel_rfl

theorem conv_own (w : World) (B : Nat) (v : Value) (l : List UInt8) (h : w.ownsRow B 5 1 v l.length (Lib.byteCells l)) : (convert 52 9 v).run Try.prog w = .ok (S l) w := by
  rcases h.2 with ⟨rfl, h0⟩ | ⟨g, cap, cur, rfl, hB, hg, hc, hm, hs, ht⟩
  · have hl : l = [] := List.eq_nil_of_length_eq_zero h0
    subst hl
    exact Lib.run_convert_nil_bytes w 52 9 5 0 Try.underlying52 Try.underlying5 Try.underlying9
  · exact run_convert_bytes_back w 52 9 5 ⟨g, 0, none⟩ cap l Try.underlying52 Try.underlying5 Try.underlying9 (Lib.bytes_of_row hg (by simpa using ht))
theorem flatten_take (xs : List Tx) (k : Nat) (x : Tx) (h : xs[k]? = some x) : (xs.take (k + 1)).flatten = (xs.take k).flatten ++ x := by
  obtain ⟨hk, hx⟩ := List.getElem?_eq_some_iff.1 h
  rw [List.take_succ_eq_append_getElem hk, hx]; simp
theorem flatten_take_le (xs : List Tx) (k : Nat) : (xs.take k).flatten.length ≤ xs.flatten.length := by
  have h : xs.flatten = (xs.take k).flatten ++ (xs.drop k).flatten := by rw [← List.flatten_append, List.take_append_drop]
  rw [h]; simp

set_option maxHeartbeats 1000000 in
theorem refJoin_any (v : Value) (xs : List Tx) (w : World) (hr : RowAt w v xs) (hl : xs.length ≤ 8796093022208) (hn : xs.flatten.length ≤ 70368744177664) :
    Calls Try.prog 25 #[v] w fun e w' => e = .returned (.string ⟨xs.flatten.toArray⟩) ∧ Below w.heap.size w w' := by
  obtain ⟨i0, hi, hz0, hz1, hz2⟩ := info_parts Try.infoByte
  rcases hr with ⟨rfl, ao, cap, rfl, _⟩ | ⟨b, o, cap, rfl, hcap, hb, hc⟩
  · have hcv := conv_own w w.heap.size (.slice none 0 0) [] (World.ownsRow_nil _ _ _ _)
    go_enter Try.func25, Try.ntmps25
    go_wp2
    refine wp_loop_rounds 1 ?_
    rw [rounds_succ]
    go_wp2
    go_ret
    exact ⟨rfl, Below.refl _ _⟩
  · have HC : Hid (∀ (j : Nat) x, xs[j]? = some x → w.cell? ⟨b, o + j, none⟩ = some (S x)) := hc
    clear hc
    go_enter Try.func25, Try.ntmps25
    go_wp2
    go_loopw [3, 4] (fun v i wr => ∃ k : Nat, k ≤ xs.length ∧ i = .int .i64 k ∧ wr.ownsRow w.heap.size 5 1 v (xs.take k).flatten.length (Lib.byteCells (xs.take k).flatten) ∧ Hid (Below w.heap.size w wr))
      (fun _ i _ => xs.length - (intOf i).toNat)
    case atStart => exact ⟨0, Nat.zero_le _, rfl, World.ownsRow_nil _ _ _ _, Below.refl _ _⟩
    case round =>
      obtain ⟨k, hk, rfl, hown, hbl⟩ := hrel
      by_cases hlt : k < xs.length
      · obtain ⟨x, hx⟩ : ∃ x, xs[k]? = some x := ⟨xs[k], List.getElem?_eq_getElem hlt⟩
        have hcell : wr.cell? ⟨b, o + k, none⟩ = some (.string ⟨x.toArray⟩) := (hbl.out.cell (p := ⟨b, o + k, none⟩) hb).trans (HC.out k x hx)
        have hfl := flatten_take_le xs (k + 1)
        have HFT : Hid ((xs.take (k + 1)).flatten = (xs.take k).flatten ++ x) := flatten_take xs k x hx
        rw [HFT.out, List.length_append] at hfl
        clear hx
        go_wp2_with (at_builtin; go_must (refine Lib.wpList_append_own_string _ rfl (.tmp 11) (.tmp 15) 52 9 rfl w.heap.size 5 i0 Try.underlying52 Try.underlying9 hi hz0 hz1 hz2 _ _ _ rfl hown ⟨x.toArray⟩ rfl (by show _ + x.length ≤ _; unfold maxLen; omega) (by show _ + x.length ≤ _; omega) hbl.out.size ?_; intro v' w2 hown2 hgrow2 _))
        have hb2 : Below w.heap.size w w2 := hbl.out.grown hgrow2 hbl.out.size (fun j hj => (hown.lt j hj).1)
        have hown3 : w2.ownsRow w.heap.size 5 1 v' (xs.take (k + 1)).flatten.length (Lib.byteCells (xs.take (k + 1)).flatten) := by
          rw [HFT.out]
          have e : Lib.byteCells ((xs.take k).flatten ++ x) = Lib.byteCells (xs.take k).flatten ++ Lib.strCells ⟨x.toArray⟩ := by simp [Lib.byteCells, Lib.strCells]
          rw [e, List.length_append]
          exact hown2
        clear hown2 hgrow2
        go_roundw
        case rel => exact ⟨k + 1, by omega, by go_num, hown3, hb2⟩
        case measure => simp [intOf]; omega
      · rw [List.take_of_length_le (by omega)] at hown
        have hcv := conv_own wr w.heap.size _ xs.flatten hown
        go_wp2
        go_ret
        exact ⟨rfl, hbl.out⟩

theorem extract_take (s : ByteArray) (f k : Nat) : (s.extract f k).data.toList = (s.data.toList.drop f).take (k - f) := Lib.extract_data s f k

/-- what a cut at i, the first since f, does to what was made -/
theorem refSplit_step (s : ByteArray) (xs : List Tx) (f i : Nat) (hf : f ≤ i) (hi : i < s.size) (hx : spl s.data.toList = xs ++ spl (s.data.toList.drop f))
    (hno : ∀ j, f ≤ j → j < i → s.data.toList[j]? ≠ some 10) (h : s.data.toList[i]? = some 10 ∨ i + 1 = s.size) :
    spl s.data.toList = (xs ++ [(s.extract f (i + 1)).data.toList]) ++ spl (s.data.toList.drop (i + 1)) := by
  have hlen : s.data.toList.length = s.size := (Lib.size_eq s).symm
  have hfe : fe (s.data.toList.drop f) = i - f + 1 := by
    apply fe_at
    · rw [List.length_drop]; omega
    · intro j hj
      rw [List.getElem?_drop]
      exact hno (f + j) (by omega) (by omega)
    · rcases h with h | h
      · left; rw [List.getElem?_drop, show f + (i - f) = i from by omega]; exact h
      · right; rw [List.length_drop]; omega
  have hne : s.data.toList.drop f ≠ [] := by
    intro e
    have := congrArg List.length e
    rw [List.length_drop] at this
    simp at this
    omega
  rw [hx, spl_ne _ hne, hfe, extract_take, List.drop_drop, show i + 1 - f = i - f + 1 from by omega, show f + (i - f + 1) = i + 1 from by omega]
  simp

end Go.Proofs.Ytmbalnjobcgpkaa
