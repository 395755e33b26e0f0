/-
  Lists of texts and of ranges in memory, and what strings.Split and the document's own Cuts answer at any text of at most 1048576 bytes: what stands between a byte; conditions: the text's length and, of Split, that a cell of the library's holds an int.
-/
import Derived.Test.YtdlmddeiopdioaaDoorRefPart
import Derived.BigQuiet
namespace Go.Proofs.YtdlmddeiopdioaaDoor
open Go.RowKit Go.Proofs.YtdlmddeiopdioaaDoor.Nm

/-- a list of texts lies in memory -/
def RowAt (w : World) (v : Value) (xs : List (List UInt8)) : Prop :=
  (xs = [] ∧ ∃ ao cap, v = .slice ao 0 cap) ∨ ∃ b o cap, v = .slice (some ⟨b, o, none⟩) xs.length cap ∧ xs.length ≤ cap ∧ b < w.heap.size ∧ ∀ (j : Nat) x, xs[j]? = some x → w.cell? ⟨b, o + j, none⟩ = some (S x)

/-- a list of ranges lies in memory -/
def RngAt (w : World) (v : Value) (xs : List (Int × Int)) : Prop :=
  (xs = [] ∧ ∃ ao cap, v = .slice ao 0 cap) ∨ ∃ b o cap, v = .slice (some ⟨b, o, none⟩) xs.length cap ∧ xs.length ≤ cap ∧ b < w.heap.size ∧ ∀ (j : Nat) r, xs[j]? = some r → w.cell? ⟨b, o + j * 2, none⟩ = some (.int .i64 r.1) ∧ w.cell? ⟨b, o + j * 2 + 1, none⟩ = some (.int .i64 r.2)

theorem addr_add (b o j : Nat) : (⟨b, o, none⟩ : Addr).add j = ⟨b, o + j, none⟩ := by
  cases j <;> simp [Addr.add]

theorem RowAt.later {w w' : World} {v : Value} {xs : List (List UInt8)} (h : RowAt w v xs) (hb : Below w.heap.size w w') : RowAt w' v xs := by
  rcases h with h | ⟨b, o, cap, h1, h2, h3, h4⟩
  · exact Or.inl h
  · refine Or.inr ⟨b, o, cap, h1, h2, Nat.lt_of_lt_of_le h3 hb.size, fun j x hx => ?_⟩
    rw [hb.cell (p := ⟨b, o + j, none⟩) h3]
    exact h4 j x hx

theorem RngAt.later {w w' : World} {v : Value} {xs : List (Int × Int)} (h : RngAt w v xs) (hb : Below w.heap.size w w') : RngAt w' v xs := by
  rcases h with h | ⟨b, o, cap, h1, h2, h3, h4⟩
  · exact Or.inl h
  · refine Or.inr ⟨b, o, cap, h1, h2, Nat.lt_of_lt_of_le h3 hb.size, fun j x hx => ?_⟩
    rw [hb.cell (p := ⟨b, o + j * 2, none⟩) h3, hb.cell (p := ⟨b, o + j * 2 + 1, none⟩) h3]
    exact h4 j x hx

theorem RowAt.of_owns {w : World} {B n : Nat} {v : Value} {xs : List (List UInt8)} (h : w.ownsRow B 9 1 v n (xs.map S)) : RowAt w v xs := by
  have hn : xs.length = n := by simpa using h.1
  rcases h.2 with ⟨rfl, h0⟩ | ⟨g, cap, cur, hv, hB, hg, hc, hm, hs, ht⟩
  · exact Or.inl ⟨List.eq_nil_of_length_eq_zero (by omega), none, 0, rfl⟩
  · refine Or.inr ⟨g, 0, cap, by rw [hn]; exact hv, by omega, (Array.getElem?_eq_some_iff.1 hg).1, fun j x hx => ?_⟩
    have := h.cells (g := g) (by rw [hv]; rfl) j (S x) (by simp [hx])
    rw [addr_add] at this
    exact this

/-- the cells of a list of ranges -/
def cellsR : List (Int × Int) → List Value
  | [] => []
  | r :: l => .int .i64 r.1 :: .int .i64 r.2 :: cellsR l
theorem cellsR_len (l : List (Int × Int)) : (cellsR l).length = l.length * 2 := by
  induction l with
  | nil => rfl
  | cons r l ih => simp [cellsR, ih]; omega
theorem cellsR_app (a b : List (Int × Int)) : cellsR (a ++ b) = cellsR a ++ cellsR b := by
  induction a with
  | nil => rfl
  | cons r l ih => simp [cellsR, ih]
theorem cellsR_at (l : List (Int × Int)) : ∀ (j : Nat) r, l[j]? = some r → (cellsR l)[j * 2]? = some (.int .i64 r.1) ∧ (cellsR l)[j * 2 + 1]? = some (.int .i64 r.2) := by
  induction l with
  | nil => intro j r h; simp at h
  | cons x l ih =>
    intro j r h
    cases j with
    | zero => simp at h; subst h; exact ⟨rfl, rfl⟩
    | succ j =>
      have := ih j r (by simpa using h)
      rw [show (j + 1) * 2 = j * 2 + 1 + 1 by omega, show j * 2 + 1 + 1 + 1 = (j * 2 + 1) + 1 + 1 by omega]
      simp only [cellsR, List.getElem?_cons_succ]
      exact this

theorem RngAt.of_owns {w : World} {B n : Nat} {v : Value} {xs : List (Int × Int)} (h : w.ownsRow B 39 2 v n (cellsR xs)) : RngAt w v xs := by
  have hn : xs.length = n := by have := h.1; rw [cellsR_len] at this; omega
  rcases h.2 with ⟨rfl, h0⟩ | ⟨g, cap, cur, hv, hB, hg, hc, hm, hs, ht⟩
  · exact Or.inl ⟨List.eq_nil_of_length_eq_zero (by omega), none, 0, rfl⟩
  · refine Or.inr ⟨g, 0, cap, by rw [hn]; exact hv, by omega, (Array.getElem?_eq_some_iff.1 hg).1, fun j r hr => ?_⟩
    have ⟨c1, c2⟩ := cellsR_at xs j r hr
    have d1 := h.cells (g := g) (by rw [hv]; rfl) (j * 2) _ c1
    have d2 := h.cells (g := g) (by rw [hv]; rfl) (j * 2 + 1) _ c2
    rw [addr_add] at d1 d2
    exact ⟨d1, by rw [Nat.add_assoc]; exact d2⟩

theorem owns_later {w w' : World} {B n size : Nat} {v : Value} {cs : List Value} {e : TypeId} (h : w.ownsRow B e size v n cs) (hb : Below w.heap.size w w') : w'.ownsRow B e size v n cs := by
  refine ⟨h.1, ?_⟩
  rcases h.2 with h | ⟨g, cap, cur, hv, hB, hg, hc⟩
  · exact Or.inl h
  · exact Or.inr ⟨g, cap, cur, hv, hB, by rw [hb.block g (Array.getElem?_eq_some_iff.1 hg).1]; exact hg, hc⟩

theorem RowAt.shape {w : World} {v : Value} {xs : List (List UInt8)} (h : RowAt w v xs) : ∃ ao cap, v = .slice ao xs.length cap := by
  rcases h with ⟨rfl, ao, cap, rfl⟩ | ⟨b, o, cap, rfl, _⟩
  · exact ⟨ao, cap, rfl⟩
  · exact ⟨_, cap, rfl⟩
theorem RowAt.cells {w : World} {v : Value} {xs : List (List UInt8)} (h : RowAt w v xs) (hne : xs ≠ []) : ∃ b o cap, v = .slice (some ⟨b, o, none⟩) xs.length cap ∧ xs.length ≤ cap ∧ b < w.heap.size ∧ ∀ (j : Nat) x, xs[j]? = some x → w.cell? ⟨b, o + j, none⟩ = some (S x) := by
  rcases h with ⟨rfl, _⟩ | h
  · exact absurd rfl hne
  · exact h
theorem RngAt.shape {w : World} {v : Value} {xs : List (Int × Int)} (h : RngAt w v xs) : ∃ ao cap, v = .slice ao xs.length cap := by
  rcases h with ⟨rfl, ao, cap, rfl⟩ | ⟨b, o, cap, rfl, _⟩
  · exact ⟨ao, cap, rfl⟩
  · exact ⟨_, cap, rfl⟩
theorem RngAt.cells {w : World} {v : Value} {xs : List (Int × Int)} (h : RngAt w v xs) (hne : xs ≠ []) : ∃ b o cap, v = .slice (some ⟨b, o, none⟩) xs.length cap ∧ xs.length ≤ cap ∧ b < w.heap.size ∧ ∀ (j : Nat) r, xs[j]? = some r → w.cell? ⟨b, o + j * 2, none⟩ = some (.int .i64 r.1) ∧ w.cell? ⟨b, o + j * 2 + 1, none⟩ = some (.int .i64 r.2) := by
  rcases h with ⟨rfl, _⟩ | h
  · exact absurd rfl hne
  · exact h

theorem Tryd.info9 : (Tryd.prog.info? 9).map (fun i => (i.zero, i.size, i.bytes)) = some (some (.string ⟨#[]⟩), 1, 16) := by kernel_rfl
theorem Tryd.info39 : (Tryd.prog.info? 39).map (fun i => (i.zero, i.size, i.bytes)) = some (some (.agg #[.int .i64 0, .int .i64 0]), 2, 16) := by kernel_rfl

theorem cuts_ne (c : UInt8) (l : List UInt8) : cuts c l ≠ [] := by
  cases l with
  | nil => simp [cuts]
  | cons b l => rw [cuts]; split
                · simp
                · split <;> simp

theorem split_any (s : ByteArray) (w : World) (he : Env w) (hs : s.size ≤ 1048576) :
    Calls Tryd.prog 21 #[.string s, .string ⟨#[44]⟩] w fun e w' => ∃ v, e = .returned v ∧ RowAt w' v (cuts 44 s.data.toList) ∧ Below w.heap.size w w' := by
  obtain ⟨m, hm⟩ := he.m
  refine (Tryd.strings_Split s ⟨#[44]⟩ m w (by omega) hm (by decide)).mono ?_
  rintro e w' ⟨rfl, rfl⟩
  have hc : (Lib.splitB ⟨#[44]⟩ 0 (Lib.countB s ⟨#[44]⟩) s).map (·.data.toList) = cuts 44 s.data.toList := by
    rw [Lib.splitB_data]
    exact split_cuts 44 s.size s.data.toList (by rw [← Lib.size_eq]; exact Nat.le_refl _)
  have hlen : (cuts 44 s.data.toList).length = Lib.countB s ⟨#[44]⟩ + 1 := by
    rw [← hc, List.length_map]
    exact Lib.splitB_all ⟨#[44]⟩ (by decide) 0 _ s rfl
  have hcells : (Lib.splitB ⟨#[44]⟩ 0 (Lib.countB s ⟨#[44]⟩) s).map Value.string = (cuts 44 s.data.toList).map S := by
    rw [← hc, List.map_map]
    apply List.map_congr_left
    intro a _
    exact (S_data a).symm
  refine ⟨_, rfl, Or.inr ⟨w.heap.size, 0, _, by rw [hlen], by omega, by simp, fun j x hx => ?_⟩, (Below.refl _ w).alloc (Nat.le_refl _) _⟩
  rw [hcells]
  rw [World.cell?_alloc_new]
  simp [hx]

theorem byte_is {b c : UInt8} (h : ((b.toNat : Int) == (c.toNat : Int)) = true) : b = c := by
  apply UInt8.toNat_inj.1
  have := beq_iff_eq.1 h
  omega
theorem byte_not {b c : UInt8} (h : ((b.toNat : Int) == (c.toNat : Int)) = false) : b ≠ c := by
  intro e
  rw [e] at h
  simp at h

/-- what a cut at i, the first since f, does to what was made -/
theorem cuts_step (c : UInt8) (s : ByteArray) (xs : List (List UInt8)) (f i : Nat) (hf : f ≤ i) (hi : i < s.size) (hx : cuts c s.data.toList = xs ++ cuts c (s.data.toList.drop f))
    (hno : ∀ j, f ≤ j → j < i → s.data.toList[j]? ≠ some c) (h : s.data.toList[i]? = some c) :
    cuts c s.data.toList = (xs ++ [(s.extract f i).data.toList]) ++ cuts c (s.data.toList.drop (i + 1)) := by
  have hlen : s.data.toList.length = s.size := (Lib.size_eq s).symm
  have hsp : s.data.toList.drop f = (s.data.toList.drop f).take (i - f) ++ c :: s.data.toList.drop (i + 1) := by
    have h2 : (s.data.toList.drop f).drop (i - f) = c :: s.data.toList.drop (i + 1) := by
      rw [List.drop_drop, show f + (i - f) = i by omega]
      obtain ⟨hh, e⟩ := List.getElem?_eq_some_iff.1 h
      rw [List.drop_eq_getElem_cons hh, e]
    rw [← h2, List.take_append_drop]
  have hmem : ∀ x, x ∈ (s.data.toList.drop f).take (i - f) → x ≠ c := by
    intro x hx' e
    obtain ⟨j, hj, hxj⟩ := List.mem_iff_getElem.1 hx'
    have hj2 : j < i - f := by rw [List.length_take] at hj; omega
    refine hno (f + j) (by omega) (by omega) ?_
    rw [List.getElem_take, List.getElem_drop] at hxj
    rw [List.getElem?_eq_getElem (by omega), hxj, e]
  rw [hx, Lib.extract_data]
  conv => lhs; rw [hsp]
  rw [cuts_hit c _ _ hmem]
  simp

theorem cuts_last (c : UInt8) (s : ByteArray) (xs : List (List UInt8)) (f : Nat) (hf : f ≤ s.size) (hx : cuts c s.data.toList = xs ++ cuts c (s.data.toList.drop f))
    (hno : ∀ j, f ≤ j → j < s.size → s.data.toList[j]? ≠ some c) : cuts c s.data.toList = xs ++ [(s.extract f s.size).data.toList] := by
  have hmem : ∀ x, x ∈ s.data.toList.drop f → x ≠ c := by
    intro x hx' e
    obtain ⟨j, hj, hxj⟩ := List.mem_iff_getElem.1 hx'
    rw [List.length_drop, ← Lib.size_eq] at hj
    refine hno (f + j) (by omega) (by omega) ?_
    rw [List.getElem_drop] at hxj
    rw [List.getElem?_eq_getElem (by rw [← Lib.size_eq]; omega), hxj, e]
  rw [hx, cuts_miss c _ hmem, Lib.extract_data, List.take_of_length_le (by rw [List.length_drop, ← Lib.size_eq]; exact Nat.le_refl _)]

set_option maxHeartbeats 2000000 in
theorem cuts_any (s : ByteArray) (c : UInt8) (w : World) (hs : s.size ≤ 1048576) :
    Calls Tryd.prog 23 #[.string s, .int .u8 c.toNat] w fun e w' => ∃ v, e = .returned v ∧ RowAt w' v (cuts c s.data.toList) ∧ Below w.heap.size w w' := by
  obtain ⟨i0, hi, hz0, hz1, hz2⟩ := info_parts Tryd.info9
  go_enter Tryd.func23, Tryd.ntmps23
  go_wp2
  go_loopw [5, 6, 7] (fun v f i wr => ∃ (nf ni : Nat) (xs : List (List UInt8)), f = .int .i64 nf ∧ i = .int .i64 ni ∧ nf ≤ s.size + 1 ∧ ni ≤ s.size + 1 ∧ xs.length ≤ ni ∧ wr.ownsRow w.heap.size 9 1 v xs.length (xs.map S) ∧ Hid (Below w.heap.size w wr) ∧ Hid ((ni ≤ s.size ∧ nf ≤ ni ∧ cuts c s.data.toList = xs ++ cuts c (s.data.toList.drop nf) ∧ ∀ j, nf ≤ j → j < ni → s.data.toList[j]? ≠ some c) ∨ (ni = s.size + 1 ∧ cuts c s.data.toList = xs)))
    (fun _ _ i _ => s.size + 1 - (intOf i).toNat)
  case atStart => exact ⟨0, 0, [], rfl, rfl, by omega, by omega, by simp, World.ownsRow_nil _ _ _ _, Below.refl _ _, Or.inl ⟨by omega, by omega, rfl, fun j h1 h2 => by omega⟩⟩
  case round =>
    obtain ⟨nf, ni, xs, rfl, rfl, hnf, hni, hxl, hown, hbl, hx⟩ := hrel
    by_cases hlt : ni ≤ s.size
    · obtain ⟨_, hfi, hc, hno⟩ : ni ≤ s.size ∧ nf ≤ ni ∧ cuts c s.data.toList = xs ++ cuts c (s.data.toList.drop nf) ∧ ∀ j, nf ≤ j → j < ni → s.data.toList[j]? ≠ some c := by
        rcases hx.out with h | h
        · exact h
        · omega
      have HC := hidden hc
      have HNO := hidden hno
      clear hx hc hno
      by_cases hend : ni = s.size
      · have HS := hidden (cuts_last c s xs nf (by omega) HC.out (fun j h1 h2 => HNO.out j h1 (by omega)))
        have heb : ((ni : Int) == (s.size : Int)) = true := by rw [beq_iff_eq]; omega
        have he1 : s.size ≤ ni := by omega
        have HE := hidden hend
        clear hend
        go_wp2_with (at_builtin; go_must (refine wpList_append_own _ rfl (.tmp 25) (.tmp 30) 42 rfl w.heap.size 9 i0 (.string ⟨#[]⟩) 1 16 Tryd.underlying42 hi hz0 hz1 hz2 rfl (by decide) _ _ _ rfl (hown.alloc _) ⟨_, 0, none⟩ 1 1 [.string (s.extract nf ni)] rfl rfl (cell_one_new _ _ _) (by intro u hu; simp at hu; subst hu; rfl) (by unfold maxLen; omega) (by omega) (by have := hbl.out.size; simp; omega) ?_; intro v' w2 hown2 hgrow2 _))
        have HX := hown.alloc (.cells #[.string (s.extract nf ni)] 9)
        have hb2 : Below w.heap.size w w2 := (hbl.out.alloc hbl.out.size _).grown hgrow2 (by have := hbl.out.size; simp; omega) (fun j hj => (HX.lt j hj).1)
        have hown3 : w2.ownsRow w.heap.size 9 1 v' (xs ++ [(s.extract nf ni).data.toList]).length ((xs ++ [(s.extract nf ni).data.toList]).map S) := by
          rw [List.length_append, List.map_append, List.map_singleton, S_data]; exact hown2
        clear hown2 hgrow2 HX
        go_roundw
        case rel => exact ⟨ni + 1, ni + 1, _, by go_num, by go_num, by omega, by omega, by simp; omega, hown3, hb2, Or.inr ⟨by rw [HE.out], by rw [HE.out]; exact HS.out⟩⟩
        case measure => simp [intOf]; omega
      · have hlt2 : ni < s.size := by omega
        have heb : ((ni : Int) == (s.size : Int)) = false := by rw [beq_eq_false_iff_ne]; omega
        clear hend
        cases hc0 : ((s[ni].toNat : Int) == (c.toNat : Int))
        · have hnc : s.data.toList[ni]? ≠ some c := by
            rw [get_data s ni hlt2]; intro e; exact byte_not hc0 (Option.some.inj e)
          have HN := hidden (show ∀ j, nf ≤ j → j < ni + 1 → s.data.toList[j]? ≠ some c from fun j h1 h2 => by
            by_cases hj : j = ni
            · rw [hj]; exact hnc
            · exact HNO.out j h1 (by omega))
          clear hnc HNO
          go_wp2
          go_roundw
          case rel => exact ⟨nf, ni + 1, xs, rfl, by go_num, by omega, by omega, by omega, hown, hbl, Or.inl ⟨by omega, by omega, HC.out, HN.out⟩⟩
          case measure => simp [intOf]; omega
        · have HS := hidden (cuts_step c s xs nf ni hfi hlt2 HC.out HNO.out (by rw [get_data s ni hlt2, byte_is hc0]))
          go_wp2_with (at_builtin; go_must (refine wpList_append_own _ rfl (.tmp 25) (.tmp 30) 42 rfl w.heap.size 9 i0 (.string ⟨#[]⟩) 1 16 Tryd.underlying42 hi hz0 hz1 hz2 rfl (by decide) _ _ _ rfl (hown.alloc _) ⟨_, 0, none⟩ 1 1 [.string (s.extract nf ni)] rfl rfl (cell_one_new _ _ _) (by intro u hu; simp at hu; subst hu; rfl) (by unfold maxLen; omega) (by omega) (by have := hbl.out.size; simp; omega) ?_; intro v' w2 hown2 hgrow2 _))
          have HX := hown.alloc (.cells #[.string (s.extract nf ni)] 9)
          have hb2 : Below w.heap.size w w2 := (hbl.out.alloc hbl.out.size _).grown hgrow2 (by have := hbl.out.size; simp; omega) (fun j hj => (HX.lt j hj).1)
          have hown3 : w2.ownsRow w.heap.size 9 1 v' (xs ++ [(s.extract nf ni).data.toList]).length ((xs ++ [(s.extract nf ni).data.toList]).map S) := by
            rw [List.length_append, List.map_append, List.map_singleton, S_data]; exact hown2
          clear hown2 hgrow2 HX
          go_roundw
          case rel => exact ⟨ni + 1, ni + 1, _, by go_num, by go_num, by omega, by omega, by simp; omega, hown3, hb2, Or.inl ⟨by omega, by omega, HS.out, fun j h1 h2 => by omega⟩⟩
          case measure => simp [intOf]; omega
    · have HXX := hidden (show cuts c s.data.toList = xs by
        rcases hx.out with h | h
        · omega
        · exact h.2)
      clear hx
      go_wp2
      go_ret
      exact ⟨_, rfl, by rw [HXX.out]; exact RowAt.of_owns hown, hbl.out⟩

end Go.Proofs.YtdlmddeiopdioaaDoor
