/-
  What the document's own SameTexts, RightLine, Open, Whole, Split and Join answer at any texts, of at most 1048576 texts and bytes: whether two lists are one; whether a text is a line; whether it is open; whether texts are lines and, but the last, closed; the lines of a text; the texts together; conditions: those lengths.
-/
import Derived.Test.YtmmgppaefofehaaRowAt
import Derived.Deep.QuietTactic
namespace Go.Proofs.Ytmmgppaefofehaa
open Go.RowKit Go.Proofs.Ytmmgppaefofehaa.Ln

theorem RowAt.shape {w : World} {v : Value} {xs : List (List UInt8)} (h : RowAt w v xs) : ∃ ao cap, v = .slice ao xs.length cap := by
  rcases h with ⟨rfl, ao, cap, rfl⟩ | ⟨b, o, cap, rfl, _⟩
  · exact ⟨ao, cap, rfl⟩
  · exact ⟨_, cap, rfl⟩

theorem RowAt.cells {w : World} {v : Value} {xs : List (List UInt8)} (h : RowAt w v xs) (hne : xs ≠ []) : ∃ b o cap, v = .slice (some ⟨b, o, none⟩) xs.length cap ∧ xs.length ≤ cap ∧ b < w.heap.size ∧ ∀ (j : Nat) x, xs[j]? = some x → w.cell? ⟨b, o + j, none⟩ = some (S x) := by
  rcases h with ⟨rfl, _⟩ | h
  · exact absurd rfl hne
  · exact h

theorem same_of (xs ys : List (List UInt8)) (hl : xs.length = ys.length) (h : ∀ j, j < xs.length → xs[j]? = ys[j]?) : xs = ys := by
  apply List.ext_getElem? 
  intro j
  by_cases hj : j < xs.length
  · exact h j hj
  · rw [List.getElem?_eq_none (by omega), List.getElem?_eq_none (by omega)]

theorem beq_texts (x y : List UInt8) : ((⟨x.toArray⟩ : ByteArray).toList == (⟨y.toArray⟩ : ByteArray).toList) = decide (x = y) := by
  rw [Lib.toList_data, Lib.toList_data]
  by_cases h : x = y <;> simp [h]

set_option maxHeartbeats 1000000 in
theorem same_any (v u : Value) (xs ys : List (List UInt8)) (w : World) (hr : RowAt w v xs) (hq : RowAt w u ys) (hl : xs.length ≤ 1048576) (hm : ys.length ≤ 1048576) :
    Calls Try.prog 12 #[v, u] w fun e w' => e = .returned (.bool (decide (xs = ys))) ∧ Below w.heap.size w w' := by
  by_cases hlen : xs.length = ys.length
  · by_cases hne : xs.length = 0
    · have hx : xs = [] := List.eq_nil_of_length_eq_zero hne
      have hy : ys = [] := List.eq_nil_of_length_eq_zero (by omega)
      subst hx hy
      obtain ⟨ao, cap, rfl⟩ := hr.shape
      obtain ⟨bo, cap', rfl⟩ := hq.shape
      clear hr hq
      go_enter Try.func12, Try.ntmps12
      go_wp2
      refine wp_loop_rounds 1 ?_
      rw [rounds_succ]
      go_wp2
      go_ret
      exact ⟨rfl, Below.refl _ _⟩
    · obtain ⟨b, o, cap, rfl, hcap, hb, hc⟩ := hr.cells (by intro h; simp [h] at hne)
      obtain ⟨b', o', cap', rfl, hcap', hb', hc'⟩ := hq.cells (by intro h; simp [h] at hlen; simp [hlen] at hne)
      clear hr hq
      have HC : Hid (∀ (j : Nat) x, xs[j]? = some x → w.cell? ⟨b, o + j, none⟩ = some (S x)) := hc
      have HC' : Hid (∀ (j : Nat) x, ys[j]? = some x → w.cell? ⟨b', o' + j, none⟩ = some (S x)) := hc'
      have hbn : ((xs.length : Int) != (ys.length : Int)) = false := by simp [hlen]
      have HL : Hid (xs.length = ys.length) := hlen
      have h1 : xs.length ≤ ys.length := by omega
      have h2 : ys.length ≤ xs.length := by omega
      clear hc hc' hlen
      go_enter Try.func12, Try.ntmps12
      go_wp2
      go_loopw [5] (fun i wr => ∃ k : Nat, k ≤ xs.length ∧ i = .int .i64 k ∧ Hid (∀ j, j < k → xs[j]? = ys[j]?) ∧ Hid (Below w.heap.size w wr))
        (fun i _ => xs.length - (intOf i).toNat)
      case atStart => exact ⟨0, Nat.zero_le _, rfl, (fun j hj => absurd hj (Nat.not_lt_zero _)), Below.refl _ _⟩
      case round =>
        obtain ⟨k, hk, rfl, hsame, hbl⟩ := hrel
        by_cases hlt : k < xs.length
        · obtain ⟨x, hx⟩ : ∃ x, xs[k]? = some x := ⟨xs[k], List.getElem?_eq_getElem hlt⟩
          obtain ⟨y, hy⟩ : ∃ y, ys[k]? = some y := ⟨ys[k]'(by omega), List.getElem?_eq_getElem _⟩
          have hcell : wr.cell? ⟨b, o + k, none⟩ = some (.string ⟨x.toArray⟩) := (hbl.out.cell (p := ⟨b, o + k, none⟩) hb).trans (HC.out k x hx)
          have hcell' : wr.cell? ⟨b', o' + k, none⟩ = some (.string ⟨y.toArray⟩) := (hbl.out.cell (p := ⟨b', o' + k, none⟩) hb').trans (HC'.out k y hy)
          have HX : Hid (xs[k]? = some x) := hx
          have HY : Hid (ys[k]? = some y) := hy
          clear hx hy
          go_wp2
          go_quiet (fail)
          go_wp2
          · go_ret
            have hne2 : ¬ x = y := by have h : (!x == y) = true := by assumption
                                      simpa using h
            exact ⟨ret_bool (by have : xs ≠ ys := fun h => hne2 (by have a := HX.out; have b := HY.out; rw [h] at a; rw [a] at b; simpa using b)
                                simp [this]), below_drewN hbl.out nq⟩
          · have hxy : x = y := by have h : (!x == y) = false := by assumption
                                   simpa using h
            have H : ∀ j, j < k + 1 → xs[j]? = ys[j]? := fun j hj => by
              by_cases hjk : j = k
              · rw [hjk, HX.out, HY.out, hxy]
              · exact hsame.out j (by omega)
            have hb2 := below_drewN hbl.out nq
            clear hxy
            go_roundw
            case rel => exact ⟨k + 1, by omega, by go_num, H, hb2⟩
            case measure => simp [intOf]; omega
        · go_wp2
          go_ret
          exact ⟨ret_bool (by rw [same_of xs ys HL.out (fun j hj => hsame.out j (by omega))]; simp), hbl.out⟩
  · obtain ⟨ao, cap, rfl⟩ := hr.shape
    obtain ⟨bo, cap', rfl⟩ := hq.shape
    clear hr hq
    have hbn : ((xs.length : Int) != (ys.length : Int)) = true := by simp; omega
    go_enter Try.func12, Try.ntmps12
    go_wp2
    go_ret
    exact ⟨ret_bool (by have : xs ≠ ys := fun h => hlen (by rw [h]); simp [this]), Below.refl _ _⟩

theorem get_data (s : ByteArray) (k : Nat) (h : k < s.size) : s.data.toList[k]? = some s[k] := by
  rw [List.getElem?_eq_getElem (by rw [← Lib.size_eq]; exact h)]; rfl

theorem get_ne (s : ByteArray) (k : Nat) (h : k < s.size) (hc : ((s[k].toNat : Int) == 10) = false) : s.data.toList[k]? ≠ some 10 := by
  rw [get_data s k h]
  intro e
  simp only [Option.some.injEq] at e
  rw [e] at hc
  simp at hc

theorem get_ten (s : ByteArray) (k : Nat) (h : k < s.size) (hc : ((s[k].toNat : Int) == 10) = true) : s.data.toList[k]? = some 10 := by
  rw [get_data s k h]
  have : s[k].toNat = 10 := by have h := beq_iff_eq.1 hc; omega
  congr 1
  exact UInt8.toNat_inj.1 this

set_option maxHeartbeats 1000000 in
theorem rightLine_any (s : ByteArray) (w : World) (hs : s.size ≤ 1048576) :
    Calls Try.prog 11 #[.string s] w fun e w' => e = .returned (.bool (rt s.data.toList)) ∧ w' = w := by
  go_enter Try.func11, Try.ntmps11
  go_wp2
  go_loop [3] (fun i => ∃ k : Nat, k ≤ s.size ∧ i = .int .i64 k ∧ Hid (∀ j, j < k → s.data.toList[j]? ≠ some 10)) (fun i => s.size - (intOf i).toNat)
  case atStart => exact ⟨0, Nat.zero_le _, rfl, fun j hj => absurd hj (Nat.not_lt_zero _)⟩
  case round =>
    obtain ⟨k, hk, rfl, hno⟩ := hrel
    by_cases hlt : k + 1 < s.size
    · go_wp2
      · go_ret
        have h10 := get_ten s k (by omega) (by assumption)
        have : rt s.data.toList = false := by
          rw [Bool.eq_false_iff]
          intro h
          exact (fe_full _).1 ((rt_iff _).1 h).2 k (by rw [← Lib.size_eq]; omega) h10
        exact ⟨ret_bool this.symm, rfl⟩
      · have h10 := get_ne s k (by omega) (by assumption)
        have H : ∀ j, j < k + 1 → s.data.toList[j]? ≠ some 10 := fun j hj => by
          by_cases hjk : j = k
          · rw [hjk]; exact h10
          · exact hno.out j (by omega)
        clear h10
        go_round
        case rel => exact ⟨k + 1, by omega, by go_num, H⟩
        case measure => simp [intOf]; omega
    · go_wp2
      go_ret
      have hfe : fe s.data.toList = s.data.toList.length := (fe_full _).2 fun i hi => hno.out i (by rw [← Lib.size_eq] at hi; omega)
      exact ⟨ret_bool (by rw [rt, hfe, ← Lib.toList_data]; simp), rfl⟩

theorem cl_last (s : ByteArray) (h : 0 < s.size) : cl s.data.toList = ((s[s.size - 1].toNat : Int) == 10) := by
  have h1 := get_data s (s.size - 1) (by omega)
  have h2 : s.data.toList.getLast? = some s[s.size - 1] := by
    rw [List.getLast?_eq_getElem?, ← Lib.size_eq]; exact h1
  rw [cl, h2, Bool.eq_iff_iff]
  simp only [beq_iff_eq, Option.some.injEq]
  constructor
  · intro e; rw [e]; rfl
  · intro e; exact UInt8.toNat_inj.1 (by show _ = 10; omega)

set_option maxHeartbeats 1000000 in
theorem open_any (s : ByteArray) (w : World) (hs : s.size ≤ 1048576) :
    Calls Try.prog 23 #[.string s] w fun e w' => e = .returned (.bool (!cl s.data.toList)) ∧ w' = w := by
  by_cases h0 : s.toList.isEmpty = true
  · go_enter Try.func23, Try.ntmps23
    go_wp2
    go_ret
    exact ⟨ret_bool (by simp [cl, empty_data h0]), rfl⟩
  · have h1 : s.toList.isEmpty = false := by simpa using h0
    have hpos : 0 < s.size := by
      have := nonempty_data h1
      rw [Lib.size_eq]
      exact List.length_pos_iff.2 this
    go_enter Try.func23, Try.ntmps23
    go_wp2
    go_ret
    refine ⟨ret_bool ?_, rfl⟩
    rw [cl_last s hpos]
    simp only [bne]

section
variable {W n : Bool} {r c : Bool} {a k : Nat}
theorem whr_go (H : W = (r && (decide (a ≤ k + 1) || c) && n)) (h1 : r = true) (h2 : a ≤ k + 1 ∨ c = true) : W = n := by
  rcases h2 with h2 | h2 <;> simp [H, h1, h2]
theorem whr_no (H : W = (r && (decide (a ≤ k + 1) || c) && n)) (h : r = false ∨ (¬ a ≤ k + 1 ∧ c = false)) : false = W := by
  rcases h with h | ⟨h, h2⟩
  · simp [H, h]
  · simp [H, h, h2]
end

set_option maxHeartbeats 2000000 in
theorem refWhole_any (v : Value) (xs : List (List UInt8)) (w : World) (hr : RowAt w v xs) (hl : xs.length ≤ 1048576) (hn : xs.flatten.length ≤ 1048576) :
    Calls Try.prog 17 #[v] w fun e w' => e = .returned (.bool (wh xs)) ∧ Below w.heap.size w w' := by
  rcases hr with ⟨rfl, ao, cap, rfl⟩ | ⟨b, o, cap, rfl, hcap, hb, hc⟩
  · go_enter Try.func17, Try.ntmps17
    go_wp2
    refine wp_loop_rounds 1 ?_
    rw [rounds_succ]
    go_wp2
    go_ret
    exact ⟨rfl, Below.refl _ _⟩
  · have HC : Hid (∀ (j : Nat) x, xs[j]? = some x → w.cell? ⟨b, o + j, none⟩ = some (S x)) := hc
    clear hc
    go_enter Try.func17, Try.ntmps17
    go_wp2
    go_loopw [3] (fun i wr => ∃ k : Nat, k ≤ xs.length ∧ i = .int .i64 k ∧ Hid (wh xs = wh (xs.drop k)) ∧ Hid (Below w.heap.size w wr))
      (fun i _ => xs.length - (intOf i).toNat)
    case atStart => exact ⟨0, Nat.zero_le _, rfl, rfl, Below.refl _ _⟩
    case round =>
      obtain ⟨k, hk, rfl, hw, hbl⟩ := hrel
      by_cases hlt : k < xs.length
      · obtain ⟨x, hx⟩ : ∃ x, xs[k]? = some x := ⟨xs[k], List.getElem?_eq_getElem hlt⟩
        have hcell : wr.cell? ⟨b, o + k, none⟩ = some (S x) := (hbl.out.cell (p := ⟨b, o + k, none⟩) hb).trans (HC.out k x hx)
        have hml := mem_le xs k x hx
        have HD : Hid (wh xs = (rt x && (decide (xs.length ≤ k + 1) || cl x) && wh (xs.drop (k + 1)))) := hw.out.trans (wh_drop xs k x hx)
        clear hw
        cases hrt : rt x
        · go_wp2_with (first | (go_at_call 11; refine (rightLine_any ⟨x.toArray⟩ _ (by show x.length ≤ _; omega)).mono ?_; rintro e w' ⟨rfl, rfl⟩) | (go_at_call 23; refine (open_any ⟨x.toArray⟩ _ (by show x.length ≤ _; omega)).mono ?_; rintro e w' ⟨rfl, rfl⟩))
          go_ret
          exact ⟨ret_bool (whr_no HD.out (Or.inl hrt)), hbl.out⟩
        · cases hcl : cl x
          · by_cases hlast : k + 1 < xs.length
            · go_wp2_with (first | (go_at_call 11; refine (rightLine_any ⟨x.toArray⟩ _ (by show x.length ≤ _; omega)).mono ?_; rintro e w' ⟨rfl, rfl⟩) | (go_at_call 23; refine (open_any ⟨x.toArray⟩ _ (by show x.length ≤ _; omega)).mono ?_; rintro e w' ⟨rfl, rfl⟩))
              go_ret
              exact ⟨ret_bool (whr_no HD.out (Or.inr ⟨by omega, hcl⟩)), hbl.out⟩
            · go_wp2_with (first | (go_at_call 11; refine (rightLine_any ⟨x.toArray⟩ _ (by show x.length ≤ _; omega)).mono ?_; rintro e w' ⟨rfl, rfl⟩) | (go_at_call 23; refine (open_any ⟨x.toArray⟩ _ (by show x.length ≤ _; omega)).mono ?_; rintro e w' ⟨rfl, rfl⟩))
              have H := whr_go HD.out hrt (Or.inl (by omega))
              go_roundw
              case rel => exact ⟨k + 1, by omega, by go_num, H, hbl⟩
              case measure => simp [intOf]; omega
          · go_wp2_with (first | (go_at_call 11; refine (rightLine_any ⟨x.toArray⟩ _ (by show x.length ≤ _; omega)).mono ?_; rintro e w' ⟨rfl, rfl⟩) | (go_at_call 23; refine (open_any ⟨x.toArray⟩ _ (by show x.length ≤ _; omega)).mono ?_; rintro e w' ⟨rfl, rfl⟩))
            have H := whr_go HD.out hrt (Or.inr hcl)
            go_roundw
            case rel => exact ⟨k + 1, by omega, by go_num, H, hbl⟩
            case measure => simp [intOf]; omega
      · go_wp2
        go_ret
        exact ⟨ret_bool (by rw [hw.out, List.drop_of_length_le (by omega)]; rfl), hbl.out⟩

end Go.Proofs.Ytmmgppaefofehaa
