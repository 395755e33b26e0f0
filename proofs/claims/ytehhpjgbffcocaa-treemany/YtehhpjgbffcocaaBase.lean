/-
  Trees in memory, and what the document's own Find, Get, RightTree and SameTree answer at any tree that lies in memory: the place of a name, what stands under it, whether the names rise, whether two are one; conditions: the trees' lengths.
-/
import Derived.WalkKit
import Derived.WalkSpells
import Derived.WalkLawsBesides
import Derived.OwnWalk
import Derived.BigQuiet
import Derived.Deep.QuietTactic
import Derived.Deep.Cut
import Derived.Maps.AppendAt
import Derived.Lib.Strings
import Derived.Test.YtehhpjgbffcocaaProg
import Derived.Test.YtehhpjgbffcocaaPlain
namespace Go.Proofs.Ytehhpjgbffcocaa
open Go.RowKit Go.Proofs.Ytehhpjgbffcocaa.Tr

theorem hidden {p : Prop} (h : p) : Hid p := h
theorem ret_int {k : IntKind} {a b : Int} (h : a = b) : Ending.returned (.int k a) = .returned (.int k b) := by rw [h]
theorem ret_bool {a b : Bool} (h : a = b) : Ending.returned (.bool a) = .returned (.bool b) := by rw [h]

/-- a text as a value -/
def S (x : List UInt8) : Value := .string ⟨x.toArray⟩
theorem S_data (s : ByteArray) : S s.data.toList = .string s := by rw [S, Lib.mk_data]

/-- a tree lies in memory -/
def TreeAt (w : World) (v : Value) (xs : List En) : Prop :=
  (xs = [] ∧ ∃ ao cap, v = .slice ao 0 cap ∧ (ao = none → cap = 0)) ∨ ∃ b o cap, v = .slice (some ⟨b, o, none⟩) xs.length cap ∧ xs.length ≤ cap ∧ b < w.heap.size ∧ ∀ (j : Nat) e, xs[j]? = some e → w.cell? ⟨b, o + j * 2, none⟩ = some (S e.1) ∧ w.cell? ⟨b, o + j * 2 + 1, none⟩ = some (S e.2)

theorem addr_add (b o j : Nat) : (⟨b, o, none⟩ : Addr).add j = ⟨b, o + j, none⟩ := by
  cases j <;> simp [Addr.add]

theorem TreeAt.nil (w : World) (ao : Option Addr) (cap : Nat) (h : ao = none → cap = 0 := by (intro h; first | rfl | cases h)) : TreeAt w (.slice ao 0 cap) [] := Or.inl ⟨rfl, ao, cap, rfl, h⟩
theorem TreeAt.later {w w' : World} {v : Value} {xs : List En} (h : TreeAt w v xs) (hb : Below w.heap.size w w') : TreeAt w' v xs := by
  rcases h with h | ⟨b, o, cap, h1, h2, h3, h4⟩
  · exact Or.inl h
  · refine Or.inr ⟨b, o, cap, h1, h2, Nat.lt_of_lt_of_le h3 hb.size, fun j x hx => ?_⟩
    rw [hb.cell (p := ⟨b, o + j * 2, none⟩) h3, hb.cell (p := ⟨b, o + j * 2 + 1, none⟩) h3]
    exact h4 j x hx
theorem TreeAt.shape {w : World} {v : Value} {xs : List En} (h : TreeAt w v xs) : ∃ ao cap, v = .slice ao xs.length cap := by
  rcases h with ⟨rfl, ao, cap, rfl, _⟩ | ⟨b, o, cap, rfl, _⟩
  · exact ⟨ao, cap, rfl⟩
  · exact ⟨_, cap, rfl⟩
theorem TreeAt.cells {w : World} {v : Value} {xs : List En} (h : TreeAt w v xs) (hne : xs ≠ []) : ∃ b o cap, v = .slice (some ⟨b, o, none⟩) xs.length cap ∧ xs.length ≤ cap ∧ b < w.heap.size ∧ ∀ (j : Nat) e, xs[j]? = some e → w.cell? ⟨b, o + j * 2, none⟩ = some (S e.1) ∧ w.cell? ⟨b, o + j * 2 + 1, none⟩ = some (S e.2) := by
  rcases h with ⟨rfl, _⟩ | h
  · exact absurd rfl hne
  · exact h

/-- the cells of a tree -/
def cellsE : List En → List Value
  | [] => []
  | e :: l => S e.1 :: S e.2 :: cellsE l
theorem cellsE_len (l : List En) : (cellsE l).length = l.length * 2 := by
  induction l with
  | nil => rfl
  | cons r l ih => simp [cellsE, ih]; omega
theorem cellsE_app (a b : List En) : cellsE (a ++ b) = cellsE a ++ cellsE b := by
  induction a with
  | nil => rfl
  | cons r l ih => simp [cellsE, ih]
theorem cellsE_at (l : List En) : ∀ (j : Nat) e, l[j]? = some e → (cellsE l)[j * 2]? = some (S e.1) ∧ (cellsE l)[j * 2 + 1]? = some (S e.2) := by
  induction l with
  | nil => intro j r h; simp at h
  | cons x l ih =>
    intro j r h
    cases j with
    | zero => simp at h; subst h; exact ⟨rfl, rfl⟩
    | succ j =>
      have := ih j r (by simpa using h)
      rw [show (j + 1) * 2 = j * 2 + 1 + 1 by omega, show j * 2 + 1 + 1 + 1 = (j * 2 + 1) + 1 + 1 by omega]
      simp only [cellsE, List.getElem?_cons_succ]
      exact this
theorem cellsE_of (l : List En) (P : Nat → Value → Prop) (h : ∀ (j : Nat) e, l[j]? = some e → P (j * 2) (S e.1) ∧ P (j * 2 + 1) (S e.2)) : ∀ (j : Nat) u, (cellsE l)[j]? = some u → P j u := by
  intro j u hu
  have hj : j < l.length * 2 := by
    rw [← cellsE_len]; exact (List.getElem?_eq_some_iff.1 hu).1
  obtain ⟨e, he⟩ : ∃ e, l[j / 2]? = some e := ⟨l[j / 2]'(by omega), List.getElem?_eq_getElem _⟩
  have h1 := cellsE_at l (j / 2) e he
  have h2 := h (j / 2) e he
  by_cases hp : j % 2 = 0
  · have e1 : j / 2 * 2 = j := by omega
    rw [e1] at h1 h2
    rw [h1.1] at hu; cases hu; exact h2.1
  · have e1 : j / 2 * 2 + 1 = j := by omega
    rw [e1] at h1 h2
    rw [h1.2] at hu; cases hu; exact h2.2
theorem cellsE_one (l : List En) : ∀ u, u ∈ cellsE l → u.oneCell' = true := by
  induction l with
  | nil => intro u hu; cases hu
  | cons e l ih =>
    intro u hu
    simp only [cellsE, List.mem_cons] at hu
    rcases hu with rfl | rfl | hu
    · rfl
    · rfl
    · exact ih u hu

theorem TreeAt.of_owns {w : World} {B n : Nat} {v : Value} {xs : List En} (h : w.ownsRow B 35 2 v n (cellsE xs)) : TreeAt w v xs := by
  have hn : xs.length = n := by have := h.1; rw [cellsE_len] at this; omega
  rcases h.2 with ⟨rfl, h0⟩ | ⟨g, cap, cur, hv, hB, hg, hc, hm, hs, ht⟩
  · exact Or.inl ⟨List.eq_nil_of_length_eq_zero (by omega), none, 0, rfl, fun _ => rfl⟩
  · refine Or.inr ⟨g, 0, cap, by rw [hn]; exact hv, by omega, (Array.getElem?_eq_some_iff.1 hg).1, fun j r hr => ?_⟩
    have ⟨c1, c2⟩ := cellsE_at xs j r hr
    have d1 := h.cells (g := g) (by rw [hv]; rfl) (j * 2) _ c1
    have d2 := h.cells (g := g) (by rw [hv]; rfl) (j * 2 + 1) _ c2
    rw [addr_add] at d1 d2
    exact ⟨d1, by rw [Nat.add_assoc]; exact d2⟩

theorem owns_later {w w' : World} {B n size : Nat} {v : Value} {cs : List Value} {e : TypeId} (h : w.ownsRow B e size v n cs) (hb : Below w.heap.size w w') : w'.ownsRow B e size v n cs := by
  refine ⟨h.1, ?_⟩
  rcases h.2 with h | ⟨g, cap, cur, hv, hB, hg, hc⟩
  · exact Or.inl h
  · exact Or.inr ⟨g, cap, cur, hv, hB, by rw [hb.block g (Array.getElem?_eq_some_iff.1 hg).1]; exact hg, hc⟩

theorem Try.info35 : (Try.prog.info? 35).map (fun i => (i.zero, i.size, i.bytes)) = some (some (.agg #[.string ⟨#[]⟩, .string ⟨#[]⟩]), 2, 32) := by kernel_rfl

theorem beq_texts (x y : List UInt8) : ((⟨x.toArray⟩ : ByteArray).toList == (⟨y.toArray⟩ : ByteArray).toList) = decide (x = y) := by
  rw [Lib.toList_data, Lib.toList_data]
  by_cases h : x = y <;> simp [h]

theorem at_some {xs : List En} {k : Nat} (h : k < xs.length) : ∃ n d, xs[k]? = some (n, d) := ⟨xs[k].1, xs[k].2, List.getElem?_eq_getElem h⟩
theorem none_step {xs : List En} {k : Nat} {p : En → Prop} {e : En} (hk : xs[k]? = some e) (he : p e) (h : ∀ (j : Nat) x, j < k → xs[j]? = some x → p x) : ∀ (j : Nat) x, j < k + 1 → xs[j]? = some x → p x := by
  intro j x hj hx
  by_cases hjk : j = k
  · subst hjk; rw [hk] at hx; cases hx; exact he
  · exact h j x (by omega) hx
theorem cut_at {xs : List En} {k : Nat} {e : En} (hk : xs[k]? = some e) : xs = xs.take k ++ e :: xs.drop (k + 1) := by
  obtain ⟨hh, h⟩ := List.getElem?_eq_some_iff.1 hk
  rw [← h, ← List.drop_eq_getElem_cons hh, List.take_append_drop]
theorem take_all {xs : List En} {k : Nat} {p : En → Prop} (h : ∀ (j : Nat) x, j < k → xs[j]? = some x → p x) : ∀ a, a ∈ xs.take k → p a := by
  intro a ha
  obtain ⟨j, hj, e⟩ := List.mem_iff_getElem.1 ha
  rw [List.length_take] at hj
  exact h j a (by omega) (by rw [← e, List.getElem_take]; exact List.getElem?_eq_getElem (by omega))
theorem mem_all {xs : List En} {p : En → Prop} (h : ∀ (j : Nat) x, j < xs.length → xs[j]? = some x → p x) : ∀ a, a ∈ xs → p a := by
  have := take_all h; rw [List.take_length] at this; exact this

/-- where a name stands -/
def Place (p : En → Prop) (xs : List En) (z : Int) : Prop :=
  (∃ (k : Nat) (e : En), z = k ∧ xs[k]? = some e ∧ p e ∧ ∀ (j : Nat) x, j < k → xs[j]? = some x → ¬ p x) ∨ (z = -1 ∧ ∀ (j : Nat) x, j < xs.length → xs[j]? = some x → ¬ p x)

set_option maxHeartbeats 1000000 in
theorem find_any (v : Value) (xs : List En) (n : Tx) (w : World) (hr : TreeAt w v xs) (hl : xs.length ≤ 1048576) :
    Calls Try.prog 19 #[v, S n] w fun e w' => (∃ z, e = .returned (.int .i64 z) ∧ Place (fun x => x.1 = n) xs z) ∧ w' = w := by
  by_cases hne : xs = []
  · subst hne
    obtain ⟨ao, cap, rfl⟩ := hr.shape
    clear hr
    go_enter Try.func19, Try.ntmps19
    go_wp2
    refine wp_loop_rounds 1 ?_
    rw [rounds_succ]
    go_wp2
    go_ret
    exact ⟨⟨_, rfl, Or.inr ⟨rfl, fun j x hj => by simp at hj⟩⟩, rfl⟩
  · obtain ⟨b, o, cap, rfl, hcap, hb, hc⟩ := hr.cells hne
    have HC := hidden hc
    clear hr hc hne
    unfold S
    go_enter Try.func19, Try.ntmps19
    go_wp2
    go_loop [5] (fun i => ∃ k : Nat, k ≤ xs.length ∧ i = .int .i64 k ∧ Hid (∀ (j : Nat) x, j < k → xs[j]? = some x → ¬ x.1 = n))
      (fun i => xs.length - (intOf i).toNat)
    case atStart => exact ⟨0, Nat.zero_le _, rfl, fun j x hj => absurd hj (Nat.not_lt_zero _)⟩
    case round =>
      obtain ⟨k, hk, rfl, hno⟩ := hrel
      by_cases hlt : k < xs.length
      · obtain ⟨x1, x2, hx⟩ := at_some hlt
        have hc1 : w.cell? ⟨b, o + k * 2, none⟩ = some (.string ⟨x1.toArray⟩) := (HC.out k _ hx).1
        have HX := hidden hx
        clear hx
        by_cases he : x1 = n
        · subst he
          go_wp2
          go_ret
          exact ⟨⟨_, rfl, Or.inl ⟨k, _, rfl, HX.out, rfl, hno.out⟩⟩, rfl⟩
        · have HN := hidden (none_step HX.out (p := fun x => ¬ x.1 = n) he hno.out)
          have heb : (x1 == n) = false := by simpa using he
          go_wp2
          go_round
          case rel => exact ⟨k + 1, by omega, by go_num, HN.out⟩
          case measure => simp [intOf]; omega
      · go_wp2
        go_ret
        exact ⟨⟨_, rfl, Or.inr ⟨rfl, fun j x hj hx => hno.out j x (by omega) hx⟩⟩, rfl⟩


set_option maxHeartbeats 1000000 in
theorem refGet_any (v : Value) (xs : List En) (n : Tx) (w : World) (hr : TreeAt w v xs) (hl : xs.length ≤ 1048576) :
    Calls Try.prog 9 #[v, S n] w fun e w' => e = .returned (.tuple #[S ((getL n xs).getD []), .bool (getL n xs).isSome]) ∧ w' = w := by
  have HR := hidden hr
  obtain ⟨ao, cap, hv⟩ := hr.shape
  have HV := hidden hv
  clear hr hv
  go_enter Try.func9, Try.ntmps9
  go_wp2_with fail
  refine (find_any v xs n w HR.out hl).mono ?_
  rintro e w1 ⟨⟨z, rfl, hz⟩, rfl⟩
  rcases hz with ⟨k, ⟨e1, e2⟩, rfl, hk, he, hno⟩ | ⟨rfl, hno⟩
  · have hg : getL n xs = some e2 := by
      rw [cut_at hk]; exact get_hit _ _ _ (take_all (p := fun x => ¬ x.1 = n) hno) he
    obtain ⟨b, o, cap, rfl, hcap, hb, hc⟩ := HR.out.cells (fun h => by simp [h] at hk)
    have hlt : k < xs.length := (List.getElem?_eq_some_iff.1 hk).1
    have hc2 : w1.cell? ⟨b, o + k * 2 + 1, none⟩ = some (.string ⟨e2.toArray⟩) := (hc k _ hk).2
    have HG := hidden hg
    clear hk hno he HR HV hg hc
    go_wp2_with fail
    go_ret2
    exact ⟨by rw [HG.out]; rfl, rfl⟩
  · have HG := hidden (get_miss xs (mem_all (p := fun x => x.1 ≠ n) hno))
    clear hno
    go_wp2_with fail
    go_ret2
    exact ⟨by rw [HG.out]; rfl, rfl⟩

theorem right_snoc (l : Tx) (a : List En) (e : En) : right l (a ++ [e]) = (right l a && Op.bytesLess (((a.getLast?).map (·.1)).getD l) e.1) := by
  induction a generalizing l with
  | nil => simp [right]
  | cons x a ih =>
    simp only [List.cons_append, right, ih, Bool.and_assoc]
    congr 2
    cases a with
    | nil => simp
    | cons y a => simp [List.getLast?_cons]
theorem right_not (l : Tx) (a b : List En) (h : right l a = false) : right l (a ++ b) = false := by
  induction a generalizing l with
  | nil => simp [right] at h
  | cons x a ih =>
    simp only [List.cons_append, right] at h ⊢
    cases hx : Op.bytesLess l x.1 with
    | false => simp
    | true => rw [hx] at h; simp at h; simp [ih _ h]
theorem last_take {xs : List En} {k : Nat} {e : En} (h : xs[k]? = some e) : (xs.take (k + 1)).getLast? = some e := by
  obtain ⟨hh, he⟩ := List.getElem?_eq_some_iff.1 h
  rw [List.take_succ_eq_append_getElem hh, he]; simp
theorem take_snoc {xs : List En} {k : Nat} {e : En} (h : xs[k]? = some e) : xs.take (k + 1) = xs.take k ++ [e] := by
  obtain ⟨hh, he⟩ := List.getElem?_eq_some_iff.1 h
  rw [List.take_succ_eq_append_getElem hh, he]

set_option maxHeartbeats 1000000 in
theorem refRight_any (v : Value) (xs : List En) (w : World) (hr : TreeAt w v xs) (hl : xs.length ≤ 1048576) :
    Calls Try.prog 11 #[v] w fun e w' => e = .returned (.bool (right [] xs)) ∧ Below w.heap.size w w' := by
  by_cases hne : xs = []
  · subst hne
    obtain ⟨ao, cap, rfl⟩ := hr.shape
    clear hr
    go_enter Try.func11, Try.ntmps11
    go_wp2
    refine wp_loop_rounds 1 ?_
    rw [rounds_succ]
    go_wp2
    go_ret
    exact ⟨rfl, Below.refl _ _⟩
  · obtain ⟨b, o, cap, rfl, hcap, hb, hc⟩ := hr.cells hne
    have HC := hidden hc
    clear hr hc hne
    go_enter Try.func11, Try.ntmps11
    go_wp2
    go_loopw [3] (fun i wr => ∃ k : Nat, k ≤ xs.length ∧ i = .int .i64 k ∧ Hid (right [] (xs.take k) = true) ∧ Hid (Below w.heap.size w wr))
      (fun i _ => xs.length - (intOf i).toNat)
    case atStart => exact ⟨0, Nat.zero_le _, rfl, by simp [Hid, right], Below.refl _ _⟩
    case round =>
      obtain ⟨k, hk, rfl, hok, hbl⟩ := hrel
      by_cases hlt : k < xs.length
      · obtain ⟨x1, x2, hx⟩ := at_some hlt
        have hc1 : wr.cell? ⟨b, o + k * 2, none⟩ = some (.string ⟨x1.toArray⟩) := (hbl.out.cell (p := ⟨b, o + k * 2, none⟩) hb).trans (HC.out k _ hx).1
        have HX := hidden hx
        have hsn := take_snoc hx
        have hxs := cut_at hx
        have hap : xs = xs.take (k + 1) ++ xs.drop (k + 1) := (List.take_append_drop _ _).symm
        have HSN := hidden hsn
        have HAP := hidden hap
        clear hx hsn hxs hap
        by_cases he : x1 = []
        · have HF := hidden (show right [] xs = false by
            rw [HAP.out, HSN.out]
            refine right_not _ _ _ ?_
            rw [right_snoc, he, lt_nil]; simp)
          subst he
          have heb : (([] : List UInt8) == []) = true := rfl
          go_wp2
          go_quiet (fail)
          go_wp2
          go_ret
          exact ⟨ret_bool HF.out.symm, below_drewN hbl.out nq⟩
        · have heb : (x1 == []) = false := by simpa using he
          cases k with
          | zero =>
            have HO := hidden (show right [] (xs.take (0 + 1)) = true by
              rw [HSN.out]; simp [right]; exact nil_lt _ he)
            rw [Nat.zero_mul, Nat.add_zero] at hc1
            go_wp2
            go_quiet (fail)
            go_wp2
            have hb2 := below_drewN hbl.out nq
            go_roundw
            case rel => exact ⟨1, by omega, by go_num, HO.out, hb2⟩
            case measure => simp [intOf]; omega
          | succ m =>
            obtain ⟨y1, y2, hy⟩ := at_some (show m < xs.length by omega)
            have hc0 : wr.cell? ⟨b, o + m * 2, none⟩ = some (.string ⟨y1.toArray⟩) := (hbl.out.cell (p := ⟨b, o + m * 2, none⟩) hb).trans (HC.out m _ hy).1
            have hla := last_take hy
            have HLA := hidden hla
            clear hy hla
            cases hlb : Op.bytesLess y1 x1
            · have HF := hidden (show right [] xs = false by
                rw [HAP.out, HSN.out]
                refine right_not _ _ _ ?_
                rw [right_snoc, HLA.out]; simp [hlb])
              go_wp2
              go_quiet (fail)
              go_wp2
              go_ret
              exact ⟨ret_bool HF.out.symm, below_drewN hbl.out nq⟩
            · have HO := hidden (show right [] (xs.take (m + 1 + 1)) = true by
                rw [HSN.out, right_snoc, HLA.out, hok.out]; simpa using hlb)
              go_wp2
              go_quiet (fail)
              go_wp2
              have hb2 := below_drewN hbl.out nq
              go_roundw
              case rel => exact ⟨m + 1 + 1, by omega, by go_num, HO.out, hb2⟩
              case measure => simp [intOf]; omega
      · have HF := hidden (show right [] xs = true by have := hok.out; rw [List.take_of_length_le (by omega)] at this; exact this)
        go_wp2
        go_ret
        exact ⟨ret_bool HF.out.symm, hbl.out⟩


theorem same_of (xs ys : List En) (hl : xs.length = ys.length) (h : ∀ j, j < xs.length → xs[j]? = ys[j]?) : xs = ys := by
  apply List.ext_getElem?
  intro j
  by_cases hj : j < xs.length
  · exact h j hj
  · rw [List.getElem?_eq_none (by omega), List.getElem?_eq_none (by omega)]

set_option maxHeartbeats 1000000 in
theorem same_any (v u : Value) (xs ys : List En) (w : World) (hr : TreeAt w v xs) (hq : TreeAt w u ys) (hl : xs.length ≤ 1048576) (hm : ys.length ≤ 1048576) :
    Calls Try.prog 12 #[v, u] w fun e w' => e = .returned (.bool (decide (xs = ys))) ∧ Below w.heap.size w w' := by
  by_cases hlen : xs.length = ys.length
  · by_cases hne : xs.length = 0
    · have hx : xs = [] := List.eq_nil_of_length_eq_zero hne
      have hy : ys = [] := List.eq_nil_of_length_eq_zero (by omega)
      subst hx hy
      obtain ⟨ao, cap, rfl⟩ := hr.shape
      obtain ⟨bo, cap', rfl⟩ := hq.shape
      clear hr hq
      go_enter Try.func12, Try.ntmps12
      go_wp2
      refine wp_loop_rounds 1 ?_
      rw [rounds_succ]
      go_wp2
      go_ret
      exact ⟨rfl, Below.refl _ _⟩
    · obtain ⟨b, o, cap, rfl, hcap, hb, hc⟩ := hr.cells (by intro h; simp [h] at hne)
      obtain ⟨b', o', cap', rfl, hcap', hb', hc'⟩ := hq.cells (by intro h; simp [h] at hlen; simp [hlen] at hne)
      clear hr hq
      have HC := hidden hc
      have HC' := hidden hc'
      have hbn : ((xs.length : Int) != (ys.length : Int)) = false := by simp [hlen]
      have HL : Hid (xs.length = ys.length) := hlen
      have h1 : xs.length ≤ ys.length := by omega
      have h2 : ys.length ≤ xs.length := by omega
      clear hc hc' hlen
      go_enter Try.func12, Try.ntmps12
      go_wp2
      go_loopw [5] (fun i wr => ∃ k : Nat, k ≤ xs.length ∧ i = .int .i64 k ∧ Hid (∀ j, j < k → xs[j]? = ys[j]?) ∧ Hid (Below w.heap.size w wr))
        (fun i _ => xs.length - (intOf i).toNat)
      case atStart => exact ⟨0, Nat.zero_le _, rfl, (fun j hj => absurd hj (Nat.not_lt_zero _)), Below.refl _ _⟩
      case round =>
        obtain ⟨k, hk, rfl, hsame, hbl⟩ := hrel
        by_cases hlt : k < xs.length
        · obtain ⟨x1, x2, hx⟩ := at_some hlt
          obtain ⟨y1, y2, hy⟩ := at_some (show k < ys.length by omega)
          have hcell1 : wr.cell? ⟨b, o + k * 2, none⟩ = some (.string ⟨x1.toArray⟩) := (hbl.out.cell (p := ⟨b, o + k * 2, none⟩) hb).trans (HC.out k _ hx).1
          have hcell2 : wr.cell? ⟨b, o + k * 2 + 1, none⟩ = some (.string ⟨x2.toArray⟩) := (hbl.out.cell (p := ⟨b, o + k * 2 + 1, none⟩) hb).trans (HC.out k _ hx).2
          have hcell3 : wr.cell? ⟨b', o' + k * 2, none⟩ = some (.string ⟨y1.toArray⟩) := (hbl.out.cell (p := ⟨b', o' + k * 2, none⟩) hb').trans (HC'.out k _ hy).1
          have hcell4 : wr.cell? ⟨b', o' + k * 2 + 1, none⟩ = some (.string ⟨y2.toArray⟩) := (hbl.out.cell (p := ⟨b', o' + k * 2 + 1, none⟩) hb').trans (HC'.out k _ hy).2
          have hlt2 : k < ys.length := by omega
          have HX := hidden hx
          have HY := hidden hy
          clear hx hy
          by_cases e1 : x1 = y1
          · subst e1
            by_cases e2 : x2 = y2
            · subst e2
              have H := hidden (show ∀ j, j < k + 1 → xs[j]? = ys[j]? from fun j hj => by
                by_cases hjk : j = k
                · rw [hjk, HX.out, HY.out]
                · exact hsame.out j (by omega))
              go_wp2
              go_quiet (fail)
              go_wp2
              have hb2 := below_drewN hbl.out nq
              go_roundw
              case rel => exact ⟨k + 1, by omega, by go_num, H.out, hb2⟩
              case measure => simp [intOf]; omega
            · have HNE := hidden (show xs ≠ ys from fun h => by
                have a := HX.out; have b := HY.out; rw [h] at a; rw [a] at b; simp at b; exact e2 b)
              have e2b : (x2 == y2) = false := by simpa using e2
              go_wp2
              go_quiet (fail)
              go_wp2
              go_ret
              exact ⟨ret_bool (by simp [HNE.out]), below_drewN hbl.out nq⟩
          · have HNE := hidden (show xs ≠ ys from fun h => by
              have a := HX.out; have b := HY.out; rw [h] at a; rw [a] at b; simp at b; exact e1 b.1)
            have e1b : (x1 == y1) = false := by simpa using e1
            go_wp2
            go_quiet (fail)
            go_wp2
            go_ret
            exact ⟨ret_bool (by simp [HNE.out]), below_drewN hbl.out nq⟩
        · go_wp2
          go_ret
          exact ⟨ret_bool (by rw [same_of xs ys HL.out (fun j hj => hsame.out j (by omega))]; simp), hbl.out⟩
  · obtain ⟨ao, cap, rfl⟩ := hr.shape
    obtain ⟨bo, cap', rfl⟩ := hq.shape
    clear hr hq
    have hbn : ((xs.length : Int) != (ys.length : Int)) = true := by simp; omega
    go_enter Try.func12, Try.ntmps12
    go_wp2
    go_ret
    exact ⟨ret_bool (by have : xs ≠ ys := fun h => hlen (by rw [h])
                        simp [this]), Below.refl _ _⟩

end Go.Proofs.Ytehhpjgbffcocaa
