/-
  What lines.Join and lines.Whole answer at any list of texts that lies in memory, of at most 1048576 texts and bytes: the texts together; whether they are lines and, but the last, closed; conditions: those lengths.
-/
import Derived.Test.YtmmgppaefofehaaBase
import Derived.BigQuiet
namespace Go.Proofs.Ytmmgppaefofehaa
open Go.RowKit Go.Proofs.Ytmmgppaefofehaa.Ln

/-- a list of texts lies in memory -/
def RowAt (w : World) (v : Value) (xs : List (List UInt8)) : Prop :=
  (xs = [] ∧ ∃ ao cap, v = .slice ao 0 cap) ∨ ∃ b o cap, v = .slice (some ⟨b, o, none⟩) xs.length cap ∧ xs.length ≤ cap ∧ b < w.heap.size ∧ ∀ (j : Nat) x, xs[j]? = some x → w.cell? ⟨b, o + j, none⟩ = some (S x)

theorem addr_add (b o j : Nat) : (⟨b, o, none⟩ : Addr).add j = ⟨b, o + j, none⟩ := by
  cases j <;> simp [Addr.add]

theorem RowAt.later {w w' : World} {v : Value} {xs : List (List UInt8)} (h : RowAt w v xs) (hb : Below w.heap.size w w') : RowAt w' v xs := by
  rcases h with h | ⟨b, o, cap, h1, h2, h3, h4⟩
  · exact Or.inl h
  · refine Or.inr ⟨b, o, cap, h1, h2, Nat.lt_of_lt_of_le h3 hb.size, fun j x hx => ?_⟩
    rw [hb.cell (p := ⟨b, o + j, none⟩) h3]
    exact h4 j x hx

theorem RowAt.of_owns {w : World} {B n : Nat} {v : Value} {xs : List (List UInt8)} (h : w.ownsRow B 9 1 v n (xs.map S)) : RowAt w v xs := by
  have hn : xs.length = n := by simpa using h.1
  rcases h.2 with ⟨rfl, h0⟩ | ⟨g, cap, cur, hv, hB, hg, hc, hm, hs, ht⟩
  · exact Or.inl ⟨List.eq_nil_of_length_eq_zero (by omega), none, 0, rfl⟩
  · refine Or.inr ⟨g, 0, cap, by rw [hn]; exact hv, by omega, (Array.getElem?_eq_some_iff.1 hg).1, fun j x hx => ?_⟩
    have := h.cells (g := g) (by rw [hv]; rfl) j (S x) (by simp [hx])
    rw [addr_add] at this
    exact this

theorem owns_later {w w' : World} {B n : Nat} {v : Value} {cs : List Value} {e : TypeId} (h : w.ownsRow B e 1 v n cs) (hb : Below w.heap.size w w') : w'.ownsRow B e 1 v n cs := by
  refine ⟨h.1, ?_⟩
  rcases h.2 with h | ⟨g, cap, cur, hv, hB, hg, hc⟩
  · exact Or.inl h
  · exact Or.inr ⟨g, cap, cur, hv, hB, by rw [hb.block g (Array.getElem?_eq_some_iff.1 hg).1]; exact hg, hc⟩

theorem flatten_take (xs : List (List UInt8)) (k : Nat) (x : List UInt8) (h : xs[k]? = some x) : (xs.take (k + 1)).flatten = (xs.take k).flatten ++ x := by
  obtain ⟨hk, hx⟩ := List.getElem?_eq_some_iff.1 h
  rw [List.take_succ_eq_append_getElem hk, hx]; simp

theorem flatten_take_le (xs : List (List UInt8)) (k : Nat) : (xs.take k).flatten.length ≤ xs.flatten.length := by
  have h : xs.flatten = (xs.take k).flatten ++ (xs.drop k).flatten := by rw [← List.flatten_append, List.take_append_drop]
  rw [h]; simp

theorem mem_le (xs : List (List UInt8)) (k : Nat) (x : List UInt8) (h : xs[k]? = some x) : x.length ≤ xs.flatten.length := by
  have h1 := flatten_take_le xs (k + 1)
  rw [flatten_take xs k x h] at h1; simp at h1; simp; omega

set_option maxHeartbeats 1000000 in
theorem join_any (v : Value) (xs : List (List UInt8)) (w : World) (hr : RowAt w v xs) (hl : xs.length ≤ 1048576) (hn : xs.flatten.length ≤ 1048576) :
    Calls Try.prog 15 #[v] w fun e w' => e = .returned (S xs.flatten) ∧ Below w.heap.size w w' := by
  rcases hr with ⟨rfl, ao, cap, rfl⟩ | ⟨b, o, cap, rfl, hcap, hb, hc⟩
  · go_enter Try.func15, Try.ntmps15
    go_wp2
    refine wp_loop_rounds 1 ?_
    rw [rounds_succ]
    go_wp2_with fail
    refine (Try.Builder_String_empty w.heap.size w.heap.size _ (Lib.fresh_isBuilder 39 5 w) (by simp)).mono ?_
    rintro e w1 ⟨rfl, hb⟩
    go_wp2
    go_ret
    exact ⟨rfl, ((Below.refl _ _).alloc (Nat.le_refl _) _).trans hb⟩
  · have HC : Hid (∀ (j : Nat) x, xs[j]? = some x → w.cell? ⟨b, o + j, none⟩ = some (S x)) := hc
    clear hc
    go_enter Try.func15, Try.ntmps15
    go_wp2
    go_loopw [8] (fun i wr => ∃ k : Nat, k ≤ xs.length ∧ i = .int .i64 k ∧ Hid (Lib.IsBuilder 39 5 w.heap.size w.heap.size (Lib.byteCells (xs.take k).flatten) wr) ∧ Hid (Below w.heap.size w wr))
      (fun i _ => xs.length - (intOf i).toNat)
    case atStart => exact ⟨0, Nat.zero_le _, rfl, Lib.fresh_isBuilder 39 5 w, (Below.refl _ _).alloc (Nat.le_refl _) _⟩
    case round =>
      obtain ⟨k, hk, rfl, hB, hbl⟩ := hrel
      by_cases hlt : k < xs.length
      · obtain ⟨x, hx⟩ : ∃ x, xs[k]? = some x := ⟨xs[k], List.getElem?_eq_getElem hlt⟩
        have hcell : wr.cell? ⟨b, o + k, none⟩ = some (S x) := (hbl.out.cell (p := ⟨b, o + k, none⟩) hb).trans (HC.out k x hx)
        have hft := flatten_take xs k x hx
        have hfl := flatten_take_le xs (k + 1)
        have HFT : Hid ((xs.take (k + 1)).flatten = (xs.take k).flatten ++ x) := hft
        rw [hft] at hfl
        clear hft
        rw [List.length_append] at hfl
        go_wp2_with fail
        refine (Try.Builder_WriteString w.heap.size w.heap.size _ ⟨x.toArray⟩ _ hB.out (by rw [Lib.byteCells_length]; show _ + x.length ≤ _; omega) hbl.out.size).mono ?_
        rintro e w1 ⟨rfl, hB1, hb1⟩
        have HB1 : Hid (Lib.IsBuilder 39 5 w.heap.size w.heap.size (Lib.byteCells (xs.take (k + 1)).flatten) w1) := by
          rw [HFT.out]
          refine Or.inr ?_
          have : Lib.byteCells ((xs.take k).flatten ++ x) = Lib.byteCells (xs.take k).flatten ++ Lib.strCells ⟨x.toArray⟩ := by simp [Lib.byteCells, Lib.strCells]
          rw [this]
          exact hB1
        have Hb1 : Hid (Below w.heap.size w w1) := hbl.out.trans hb1
        clear hB1 hb1
        go_wp2
        go_roundw
        case rel => exact ⟨k + 1, by omega, by go_num, HB1, Hb1⟩
        case measure => simp [intOf]; omega
      · have hB2 := hB.out
        rw [List.take_of_length_le (by omega)] at hB2
        go_wp2_with fail
        refine (Try.Builder_String_any w.heap.size w.heap.size _ _ hB2 hbl.out.size).mono ?_
        rintro e w1 ⟨rfl, hb1⟩
        have Hb1 : Hid (Below w.heap.size w w1) := hbl.out.trans hb1
        clear hB2 hb1
        go_wp2
        go_ret
        exact ⟨rfl, Hb1.out⟩

section
variable {W n m : Bool} {r c : Bool} {a k : Nat}
theorem wh_go1 (H : W = (r && (decide (a ≤ k + 1) || c) && n)) (h1 : (!r) = false) (h3 : (!c) = false) : W = n := by
  simp at h1 h3; simp [H, h1, h3]
theorem wh_go2 (H : W = (r && (decide (a ≤ k + 1) || c) && n)) (h1 : (!r) = false) (h2 : ¬ (k : Int) < (a : Int) - 1) : W = n := by
  have : a ≤ k + 1 := by omega
  simp at h1; simp [H, h1, this]
theorem wh_no1 (H : W = (r && (decide (a ≤ k + 1) || c) && n)) (h1 : (!r) = true) : false = W := by
  simp at h1; simp [H, h1]
theorem wh_no2 (H : W = (r && (decide (a ≤ k + 1) || c) && n)) (h2 : (k : Int) < (a : Int) - 1) (h3 : (!c) = true) : false = W := by
  have : ¬ a ≤ k + 1 := by omega
  simp at h3; simp [H, h3, this]
end

set_option maxHeartbeats 1000000 in
theorem whole_any (v : Value) (xs : List (List UInt8)) (w : World) (hr : RowAt w v xs) (hl : xs.length ≤ 1048576) (hn : xs.flatten.length ≤ 1048576) :
    Calls Try.prog 16 #[v] w fun e w' => e = .returned (.bool (wh xs)) ∧ Below w.heap.size w w' := by
  rcases hr with ⟨rfl, ao, cap, rfl⟩ | ⟨b, o, cap, rfl, hcap, hb, hc⟩
  · go_enter Try.func16, Try.ntmps16
    go_wp2
    refine wp_loop_rounds 1 ?_
    rw [rounds_succ]
    go_wp2
    go_ret
    exact ⟨rfl, Below.refl _ _⟩
  · have HC : Hid (∀ (j : Nat) x, xs[j]? = some x → w.cell? ⟨b, o + j, none⟩ = some (S x)) := hc
    clear hc
    go_enter Try.func16, Try.ntmps16
    go_wp2
    go_loopw [7] (fun i wr => ∃ k : Nat, k ≤ xs.length ∧ i = .int .i64 k ∧ Hid (wh xs = wh (xs.drop k)) ∧ Hid (Below w.heap.size w wr))
      (fun i _ => xs.length - (intOf i).toNat)
    case atStart => exact ⟨0, Nat.zero_le _, rfl, rfl, Below.refl _ _⟩
    case round =>
      obtain ⟨k, hk, rfl, hw, hbl⟩ := hrel
      by_cases hlt : k < xs.length
      · obtain ⟨x, hx⟩ : ∃ x, xs[k]? = some x := ⟨xs[k], List.getElem?_eq_getElem hlt⟩
        have hcell : wr.cell? ⟨b, o + k, none⟩ = some (S x) := (hbl.out.cell (p := ⟨b, o + k, none⟩) hb).trans (HC.out k x hx)
        have hml := mem_le xs k x hx
        have HD : Hid (wh xs = (rt x && (decide (xs.length ≤ k + 1) || cl x) && wh (xs.drop (k + 1)))) := hw.out.trans (wh_drop xs k x hx)
        clear hw
        go_wp2_with (first | (go_at_call 10; refine (right_any ⟨x.toArray⟩ _ (by show x.length ≤ _; omega)).mono ?_; rintro e w' ⟨rfl, rfl⟩) | (go_at_call 22; refine (closed_any ⟨x.toArray⟩ _ (by show x.length ≤ _; omega)).mono ?_; rintro e w' ⟨rfl, rfl⟩))
        · go_ret
          exact ⟨ret_bool (wh_no1 HD.out (by assumption)), hbl.out⟩
        · go_ret
          exact ⟨ret_bool (wh_no2 HD.out (by assumption) (by assumption)), hbl.out⟩
        · have H := wh_go1 HD.out (by assumption) (by assumption)
          go_roundw
          case rel => exact ⟨k + 1, by omega, by go_num, H, hbl⟩
          case measure => simp [intOf]; omega
        · have H := wh_go2 HD.out (by assumption) (by assumption)
          go_roundw
          case rel => exact ⟨k + 1, by omega, by go_num, H, hbl⟩
          case measure => simp [intOf]; omega
      · go_wp2
        go_ret
        exact ⟨ret_bool (by rw [hw.out, List.drop_of_length_le (by omega)]; rfl), hbl.out⟩

end Go.Proofs.Ytmmgppaefofehaa
