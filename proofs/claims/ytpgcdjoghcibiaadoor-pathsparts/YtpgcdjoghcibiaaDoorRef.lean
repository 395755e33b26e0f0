/-
  What the document's own Cuts, SameTexts, Parts, Strip and Base answer at any name of at most 1048576 bytes: what stands between a byte, whether two lists are one, the parts, the name without what stands ahead of its first rows of slashes, the last part; conditions: those lengths.
-/
import Derived.WalkKit
import Derived.WalkSpells
import Derived.WalkLawsBesides
import Derived.OwnWalk
import Derived.BigQuiet
import Derived.Deep.QuietTactic
import Derived.Test.YtpgcdjoghcibiaaDoorProg
import Derived.Test.YtpgcdjoghcibiaaDoorPlain
namespace Go.Proofs.YtpgcdjoghcibiaaDoor
open Go.RowKit Go.Proofs.YtpgcdjoghcibiaaDoor.Nm

theorem hidden {p : Prop} (h : p) : Hid p := h
theorem ret_int {k : IntKind} {a b : Int} (h : a = b) : Ending.returned (.int k a) = .returned (.int k b) := by rw [h]
theorem ret_bool {a b : Bool} (h : a = b) : Ending.returned (.bool a) = .returned (.bool b) := by rw [h]
theorem ret_text {a b : ByteArray} (h : a = b) : Ending.returned (.string a) = .returned (.string b) := by rw [h]

theorem get_data (s : ByteArray) (k : Nat) (h : k < s.size) : s.data.toList[k]? = some s[k] := by
  rw [List.getElem?_eq_getElem (by rw [← Lib.size_eq]; exact h)]; rfl

/-- a text as a value -/
def S (x : List UInt8) : Value := .string ⟨x.toArray⟩
theorem S_data (s : ByteArray) : S s.data.toList = .string s := by rw [S, Lib.mk_data]
theorem app_text (a b : List UInt8) : (⟨a.toArray⟩ : ByteArray) ++ (⟨b.toArray⟩ : ByteArray) = ⟨(a ++ b).toArray⟩ := by
  rw [← Lib.mk_data ((⟨a.toArray⟩ : ByteArray) ++ ⟨b.toArray⟩)]
  congr 1

/-- a list of texts lies in memory -/
def RowAt (w : World) (v : Value) (xs : List (List UInt8)) : Prop :=
  (xs = [] ∧ ∃ ao cap, v = .slice ao 0 cap) ∨ ∃ b o cap, v = .slice (some ⟨b, o, none⟩) xs.length cap ∧ xs.length ≤ cap ∧ b < w.heap.size ∧ ∀ (j : Nat) x, xs[j]? = some x → w.cell? ⟨b, o + j, none⟩ = some (S x)

theorem addr_add (b o j : Nat) : (⟨b, o, none⟩ : Addr).add j = ⟨b, o + j, none⟩ := by
  cases j <;> simp [Addr.add]

theorem RowAt.later {w w' : World} {v : Value} {xs : List (List UInt8)} (h : RowAt w v xs) (hb : Below w.heap.size w w') : RowAt w' v xs := by
  rcases h with h | ⟨b, o, cap, h1, h2, h3, h4⟩
  · exact Or.inl h
  · refine Or.inr ⟨b, o, cap, h1, h2, Nat.lt_of_lt_of_le h3 hb.size, fun j x hx => ?_⟩
    rw [hb.cell (p := ⟨b, o + j, none⟩) h3]
    exact h4 j x hx

theorem RowAt.of_owns {w : World} {B n : Nat} {v : Value} {xs : List (List UInt8)} (h : w.ownsRow B 9 1 v n (xs.map S)) : RowAt w v xs := by
  have hn : xs.length = n := by simpa using h.1
  rcases h.2 with ⟨rfl, h0⟩ | ⟨g, cap, cur, hv, hB, hg, hc, hm, hs, ht⟩
  · exact Or.inl ⟨List.eq_nil_of_length_eq_zero (by omega), none, 0, rfl⟩
  · refine Or.inr ⟨g, 0, cap, by rw [hn]; exact hv, by omega, (Array.getElem?_eq_some_iff.1 hg).1, fun j x hx => ?_⟩
    have := h.cells (g := g) (by rw [hv]; rfl) j (S x) (by simp [hx])
    rw [addr_add] at this
    exact this

theorem owns_later {w w' : World} {B n size : Nat} {v : Value} {cs : List Value} {e : TypeId} (h : w.ownsRow B e size v n cs) (hb : Below w.heap.size w w') : w'.ownsRow B e size v n cs := by
  refine ⟨h.1, ?_⟩
  rcases h.2 with h | ⟨g, cap, cur, hv, hB, hg, hc⟩
  · exact Or.inl h
  · exact Or.inr ⟨g, cap, cur, hv, hB, by rw [hb.block g (Array.getElem?_eq_some_iff.1 hg).1]; exact hg, hc⟩

theorem RowAt.shape {w : World} {v : Value} {xs : List (List UInt8)} (h : RowAt w v xs) : ∃ ao cap, v = .slice ao xs.length cap := by
  rcases h with ⟨rfl, ao, cap, rfl⟩ | ⟨b, o, cap, rfl, _⟩
  · exact ⟨ao, cap, rfl⟩
  · exact ⟨_, cap, rfl⟩

theorem RowAt.cells {w : World} {v : Value} {xs : List (List UInt8)} (h : RowAt w v xs) (hne : xs ≠ []) : ∃ b o cap, v = .slice (some ⟨b, o, none⟩) xs.length cap ∧ xs.length ≤ cap ∧ b < w.heap.size ∧ ∀ (j : Nat) x, xs[j]? = some x → w.cell? ⟨b, o + j, none⟩ = some (S x) := by
  rcases h with ⟨rfl, _⟩ | h
  · exact absurd rfl hne
  · exact h

theorem Tryd.info9 : (Tryd.prog.info? 9).map (fun i => (i.zero, i.size, i.bytes)) = some (some (.string ⟨#[]⟩), 1, 16) := by kernel_rfl

theorem byte_is {b c : UInt8} (h : ((b.toNat : Int) == (c.toNat : Int)) = true) : b = c := by
  apply UInt8.toNat_inj.1
  have := beq_iff_eq.1 h
  omega

theorem byte_not {b c : UInt8} (h : ((b.toNat : Int) == (c.toNat : Int)) = false) : b ≠ c := by
  intro e
  rw [e] at h
  simp at h

/-- what a cut at i, the first since f, does to what was made -/
theorem cuts_step (c : UInt8) (s : ByteArray) (xs : List (List UInt8)) (f i : Nat) (hf : f ≤ i) (hi : i < s.size) (hx : cuts c s.data.toList = xs ++ cuts c (s.data.toList.drop f))
    (hno : ∀ j, f ≤ j → j < i → s.data.toList[j]? ≠ some c) (h : s.data.toList[i]? = some c) :
    cuts c s.data.toList = (xs ++ [(s.extract f i).data.toList]) ++ cuts c (s.data.toList.drop (i + 1)) := by
  have hlen : s.data.toList.length = s.size := (Lib.size_eq s).symm
  have hsp : s.data.toList.drop f = (s.data.toList.drop f).take (i - f) ++ c :: s.data.toList.drop (i + 1) := by
    have h2 : (s.data.toList.drop f).drop (i - f) = c :: s.data.toList.drop (i + 1) := by
      rw [List.drop_drop, show f + (i - f) = i by omega]
      obtain ⟨hh, e⟩ := List.getElem?_eq_some_iff.1 h
      rw [List.drop_eq_getElem_cons hh, e]
    rw [← h2, List.take_append_drop]
  have hmem : ∀ x, x ∈ (s.data.toList.drop f).take (i - f) → x ≠ c := by
    intro x hx' e
    obtain ⟨j, hj, hxj⟩ := List.mem_iff_getElem.1 hx'
    have hj2 : j < i - f := by rw [List.length_take] at hj; omega
    refine hno (f + j) (by omega) (by omega) ?_
    rw [List.getElem_take, List.getElem_drop] at hxj
    rw [List.getElem?_eq_getElem (by omega), hxj, e]
  rw [hx, Lib.extract_data]
  conv => lhs; rw [hsp]
  rw [cuts_hit c _ _ hmem]
  simp

theorem cuts_last (c : UInt8) (s : ByteArray) (xs : List (List UInt8)) (f : Nat) (hf : f ≤ s.size) (hx : cuts c s.data.toList = xs ++ cuts c (s.data.toList.drop f))
    (hno : ∀ j, f ≤ j → j < s.size → s.data.toList[j]? ≠ some c) : cuts c s.data.toList = xs ++ [(s.extract f s.size).data.toList] := by
  have hmem : ∀ x, x ∈ s.data.toList.drop f → x ≠ c := by
    intro x hx' e
    obtain ⟨j, hj, hxj⟩ := List.mem_iff_getElem.1 hx'
    rw [List.length_drop, ← Lib.size_eq] at hj
    refine hno (f + j) (by omega) (by omega) ?_
    rw [List.getElem_drop] at hxj
    rw [List.getElem?_eq_getElem (by rw [← Lib.size_eq]; omega), hxj, e]
  rw [hx, cuts_miss c _ hmem, Lib.extract_data, List.take_of_length_le (by rw [List.length_drop, ← Lib.size_eq]; exact Nat.le_refl _)]

set_option maxHeartbeats 2000000 in
theorem cuts_any (s : ByteArray) (c : UInt8) (w : World) (hs : s.size ≤ 1048576) :
    Calls Tryd.prog 15 #[.string s, .int .u8 c.toNat] w fun e w' => ∃ v, e = .returned v ∧ RowAt w' v (cuts c s.data.toList) ∧ Below w.heap.size w w' := by
  obtain ⟨i0, hi, hz0, hz1, hz2⟩ := info_parts Tryd.info9
  go_enter Tryd.func15, Tryd.ntmps15
  go_wp2
  go_loopw [5, 6, 7] (fun v f i wr => ∃ (nf ni : Nat) (xs : List (List UInt8)), f = .int .i64 nf ∧ i = .int .i64 ni ∧ nf ≤ s.size + 1 ∧ ni ≤ s.size + 1 ∧ xs.length ≤ ni ∧ wr.ownsRow w.heap.size 9 1 v xs.length (xs.map S) ∧ Hid (Below w.heap.size w wr) ∧ Hid ((ni ≤ s.size ∧ nf ≤ ni ∧ cuts c s.data.toList = xs ++ cuts c (s.data.toList.drop nf) ∧ ∀ j, nf ≤ j → j < ni → s.data.toList[j]? ≠ some c) ∨ (ni = s.size + 1 ∧ cuts c s.data.toList = xs)))
    (fun _ _ i _ => s.size + 1 - (intOf i).toNat)
  case atStart => exact ⟨0, 0, [], rfl, rfl, by omega, by omega, by simp, World.ownsRow_nil _ _ _ _, Below.refl _ _, Or.inl ⟨by omega, by omega, rfl, fun j h1 h2 => by omega⟩⟩
  case round =>
    obtain ⟨nf, ni, xs, rfl, rfl, hnf, hni, hxl, hown, hbl, hx⟩ := hrel
    by_cases hlt : ni ≤ s.size
    · obtain ⟨_, hfi, hc, hno⟩ : ni ≤ s.size ∧ nf ≤ ni ∧ cuts c s.data.toList = xs ++ cuts c (s.data.toList.drop nf) ∧ ∀ j, nf ≤ j → j < ni → s.data.toList[j]? ≠ some c := by
        rcases hx.out with h | h
        · exact h
        · omega
      have HC := hidden hc
      have HNO := hidden hno
      clear hx hc hno
      by_cases hend : ni = s.size
      · have HS := hidden (cuts_last c s xs nf (by omega) HC.out (fun j h1 h2 => HNO.out j h1 (by omega)))
        have heb : ((ni : Int) == (s.size : Int)) = true := by rw [beq_iff_eq]; omega
        have he1 : s.size ≤ ni := by omega
        have HE := hidden hend
        clear hend
        go_wp2_with (at_builtin; go_must (refine wpList_append_own _ rfl (.tmp 25) (.tmp 30) 25 rfl w.heap.size 9 i0 (.string ⟨#[]⟩) 1 16 Tryd.underlying25 hi hz0 hz1 hz2 rfl (by decide) _ _ _ rfl (hown.alloc _) ⟨_, 0, none⟩ 1 1 [.string (s.extract nf ni)] rfl rfl (cell_one_new _ _ _) (by intro u hu; simp at hu; subst hu; rfl) (by unfold maxLen; omega) (by omega) (by have := hbl.out.size; simp; omega) ?_; intro v' w2 hown2 hgrow2 _))
        have HX := hown.alloc (.cells #[.string (s.extract nf ni)] 9)
        have hb2 : Below w.heap.size w w2 := (hbl.out.alloc hbl.out.size _).grown hgrow2 (by have := hbl.out.size; simp; omega) (fun j hj => (HX.lt j hj).1)
        have hown3 : w2.ownsRow w.heap.size 9 1 v' (xs ++ [(s.extract nf ni).data.toList]).length ((xs ++ [(s.extract nf ni).data.toList]).map S) := by
          rw [List.length_append, List.map_append, List.map_singleton, S_data]; exact hown2
        clear hown2 hgrow2 HX
        go_roundw
        case rel => exact ⟨ni + 1, ni + 1, _, by go_num, by go_num, by omega, by omega, by simp; omega, hown3, hb2, Or.inr ⟨by rw [HE.out], by rw [HE.out]; exact HS.out⟩⟩
        case measure => simp [intOf]; omega
      · have hlt2 : ni < s.size := by omega
        have heb : ((ni : Int) == (s.size : Int)) = false := by rw [beq_eq_false_iff_ne]; omega
        clear hend
        cases hc0 : ((s[ni].toNat : Int) == (c.toNat : Int))
        · have hnc : s.data.toList[ni]? ≠ some c := by
            rw [get_data s ni hlt2]; intro e; exact byte_not hc0 (Option.some.inj e)
          have HN := hidden (show ∀ j, nf ≤ j → j < ni + 1 → s.data.toList[j]? ≠ some c from fun j h1 h2 => by
            by_cases hj : j = ni
            · rw [hj]; exact hnc
            · exact HNO.out j h1 (by omega))
          clear hnc HNO
          go_wp2
          go_roundw
          case rel => exact ⟨nf, ni + 1, xs, rfl, by go_num, by omega, by omega, by omega, hown, hbl, Or.inl ⟨by omega, by omega, HC.out, HN.out⟩⟩
          case measure => simp [intOf]; omega
        · have HS := hidden (cuts_step c s xs nf ni hfi hlt2 HC.out HNO.out (by rw [get_data s ni hlt2, byte_is hc0]))
          go_wp2_with (at_builtin; go_must (refine wpList_append_own _ rfl (.tmp 25) (.tmp 30) 25 rfl w.heap.size 9 i0 (.string ⟨#[]⟩) 1 16 Tryd.underlying25 hi hz0 hz1 hz2 rfl (by decide) _ _ _ rfl (hown.alloc _) ⟨_, 0, none⟩ 1 1 [.string (s.extract nf ni)] rfl rfl (cell_one_new _ _ _) (by intro u hu; simp at hu; subst hu; rfl) (by unfold maxLen; omega) (by omega) (by have := hbl.out.size; simp; omega) ?_; intro v' w2 hown2 hgrow2 _))
          have HX := hown.alloc (.cells #[.string (s.extract nf ni)] 9)
          have hb2 : Below w.heap.size w w2 := (hbl.out.alloc hbl.out.size _).grown hgrow2 (by have := hbl.out.size; simp; omega) (fun j hj => (HX.lt j hj).1)
          have hown3 : w2.ownsRow w.heap.size 9 1 v' (xs ++ [(s.extract nf ni).data.toList]).length ((xs ++ [(s.extract nf ni).data.toList]).map S) := by
            rw [List.length_append, List.map_append, List.map_singleton, S_data]; exact hown2
          clear hown2 hgrow2 HX
          go_roundw
          case rel => exact ⟨ni + 1, ni + 1, _, by go_num, by go_num, by omega, by omega, by simp; omega, hown3, hb2, Or.inl ⟨by omega, by omega, HS.out, fun j h1 h2 => by omega⟩⟩
          case measure => simp [intOf]; omega
    · have HXX := hidden (show cuts c s.data.toList = xs by
        rcases hx.out with h | h
        · omega
        · exact h.2)
      clear hx
      go_wp2
      go_ret
      exact ⟨_, rfl, by rw [HXX.out]; exact RowAt.of_owns hown, hbl.out⟩

theorem same_of (xs ys : List (List UInt8)) (hl : xs.length = ys.length) (h : ∀ j, j < xs.length → xs[j]? = ys[j]?) : xs = ys := by
  apply List.ext_getElem? 
  intro j
  by_cases hj : j < xs.length
  · exact h j hj
  · rw [List.getElem?_eq_none (by omega), List.getElem?_eq_none (by omega)]

theorem beq_texts (x y : List UInt8) : ((⟨x.toArray⟩ : ByteArray).toList == (⟨y.toArray⟩ : ByteArray).toList) = decide (x = y) := by
  rw [Lib.toList_data, Lib.toList_data]
  by_cases h : x = y <;> simp [h]

set_option maxHeartbeats 1000000 in
theorem same_any (v u : Value) (xs ys : List (List UInt8)) (w : World) (hr : RowAt w v xs) (hq : RowAt w u ys) (hl : xs.length ≤ 1048576) (hm : ys.length ≤ 1048576) :
    Calls Tryd.prog 10 #[v, u] w fun e w' => e = .returned (.bool (decide (xs = ys))) ∧ Below w.heap.size w w' := by
  by_cases hlen : xs.length = ys.length
  · by_cases hne : xs.length = 0
    · have hx : xs = [] := List.eq_nil_of_length_eq_zero hne
      have hy : ys = [] := List.eq_nil_of_length_eq_zero (by omega)
      subst hx hy
      obtain ⟨ao, cap, rfl⟩ := hr.shape
      obtain ⟨bo, cap', rfl⟩ := hq.shape
      clear hr hq
      go_enter Tryd.func10, Tryd.ntmps10
      go_wp2
      refine wp_loop_rounds 1 ?_
      rw [rounds_succ]
      go_wp2
      go_ret
      exact ⟨rfl, Below.refl _ _⟩
    · obtain ⟨b, o, cap, rfl, hcap, hb, hc⟩ := hr.cells (by intro h; simp [h] at hne)
      obtain ⟨b', o', cap', rfl, hcap', hb', hc'⟩ := hq.cells (by intro h; simp [h] at hlen; simp [hlen] at hne)
      clear hr hq
      have HC : Hid (∀ (j : Nat) x, xs[j]? = some x → w.cell? ⟨b, o + j, none⟩ = some (S x)) := hc
      have HC' : Hid (∀ (j : Nat) x, ys[j]? = some x → w.cell? ⟨b', o' + j, none⟩ = some (S x)) := hc'
      have hbn : ((xs.length : Int) != (ys.length : Int)) = false := by simp [hlen]
      have HL : Hid (xs.length = ys.length) := hlen
      have h1 : xs.length ≤ ys.length := by omega
      have h2 : ys.length ≤ xs.length := by omega
      clear hc hc' hlen
      go_enter Tryd.func10, Tryd.ntmps10
      go_wp2
      go_loopw [5] (fun i wr => ∃ k : Nat, k ≤ xs.length ∧ i = .int .i64 k ∧ Hid (∀ j, j < k → xs[j]? = ys[j]?) ∧ Hid (Below w.heap.size w wr))
        (fun i _ => xs.length - (intOf i).toNat)
      case atStart => exact ⟨0, Nat.zero_le _, rfl, (fun j hj => absurd hj (Nat.not_lt_zero _)), Below.refl _ _⟩
      case round =>
        obtain ⟨k, hk, rfl, hsame, hbl⟩ := hrel
        by_cases hlt : k < xs.length
        · obtain ⟨x, hx⟩ : ∃ x, xs[k]? = some x := ⟨xs[k], List.getElem?_eq_getElem hlt⟩
          obtain ⟨y, hy⟩ : ∃ y, ys[k]? = some y := ⟨ys[k]'(by omega), List.getElem?_eq_getElem _⟩
          have hcell : wr.cell? ⟨b, o + k, none⟩ = some (.string ⟨x.toArray⟩) := (hbl.out.cell (p := ⟨b, o + k, none⟩) hb).trans (HC.out k x hx)
          have hcell' : wr.cell? ⟨b', o' + k, none⟩ = some (.string ⟨y.toArray⟩) := (hbl.out.cell (p := ⟨b', o' + k, none⟩) hb').trans (HC'.out k y hy)
          have HX : Hid (xs[k]? = some x) := hx
          have HY : Hid (ys[k]? = some y) := hy
          clear hx hy
          go_wp2
          go_quiet (fail)
          go_wp2
          · go_ret
            have hne2 : ¬ x = y := by have h : (!x == y) = true := by assumption
                                      simpa using h
            exact ⟨ret_bool (by have : xs ≠ ys := fun h => hne2 (by have a := HX.out; have b := HY.out; rw [h] at a; rw [a] at b; simpa using b)
                                simp [this]), below_drewN hbl.out nq⟩
          · have hxy : x = y := by have h : (!x == y) = false := by assumption
                                   simpa using h
            have H : ∀ j, j < k + 1 → xs[j]? = ys[j]? := fun j hj => by
              by_cases hjk : j = k
              · rw [hjk, HX.out, HY.out, hxy]
              · exact hsame.out j (by omega)
            have hb2 := below_drewN hbl.out nq
            clear hxy
            go_roundw
            case rel => exact ⟨k + 1, by omega, by go_num, H, hb2⟩
            case measure => simp [intOf]; omega
        · go_wp2
          go_ret
          exact ⟨ret_bool (by rw [same_of xs ys HL.out (fun j hj => hsame.out j (by omega))]; simp), hbl.out⟩
  · obtain ⟨ao, cap, rfl⟩ := hr.shape
    obtain ⟨bo, cap', rfl⟩ := hq.shape
    clear hr hq
    have hbn : ((xs.length : Int) != (ys.length : Int)) = true := by simp; omega
    go_enter Tryd.func10, Tryd.ntmps10
    go_wp2
    go_ret
    exact ⟨ret_bool (by have : xs ≠ ys := fun h => hlen (by rw [h]); simp [this]), Below.refl _ _⟩

end Go.Proofs.YtpgcdjoghcibiaaDoor
