/-
  What nums.side and nums.oneRange, and the document's own part, answer at any text of at most 1048576 bytes: an end of a range; a range, or that there is none; conditions: the text's length and, of oneRange, that a cell of the library's holds an int.
-/
import Derived.Test.YtdlmddeiopdioaaDoorPut
import Derived.Test.YtdlmddeiopdioaaDoorRefRead
import Derived.Laws.ResultCell
namespace Go.Proofs.YtdlmddeiopdioaaDoor
open Go.RowKit Go.Proofs.YtdlmddeiopdioaaDoor.Nm

theorem empty_data {s : ByteArray} (h : s.toList.isEmpty = true) : s.data.toList = [] := by
  rw [Lib.toList_data] at h; simpa using h
theorem nonempty_data {s : ByteArray} (h : s.toList.isEmpty = false) : s.data.toList ≠ [] := by
  rw [Lib.toList_data] at h; intro e; rw [e] at h; simp at h

/-- two answers: a number and whether -/
def O1 (o : Option Int) : Value := match o with
  | none => .tuple #[.int .i64 0, .bool false]
  | some n => .tuple #[.int .i64 n, .bool true]

theorem read_num0 (l : List UInt8) : (if (read l 0).2.2 = 0 ∧ (read l 0).2.1 = (l.length : Int) ∧ 1 ≤ (read l 0).1 then some (read l 0).1 else none) = num l := by
  have := read_num l 0 (by omega)
  rw [List.drop_zero] at this
  exact this

set_option maxHeartbeats 1000000 in
theorem side_any (s : ByteArray) (a : Int) (w : World) (hs : s.size ≤ 1048576) :
    Calls Tryd.prog 28 #[.string s, .int .i64 a] w fun e w' => e = .returned (O1 (side s.data.toList a)) ∧ w' = w := by
  by_cases h0 : s.toList.isEmpty = true
  · have HR := hidden (show side s.data.toList a = some a by rw [side, if_pos (empty_data h0)])
    go_enter Tryd.func28, Tryd.ntmps28
    go_wp2
    go_ret2
    exact ⟨by rw [HR.out]; rfl, rfl⟩
  · have h1 : s.toList.isEmpty = false := by simpa using h0
    have HR := hidden (show side s.data.toList a = num s.data.toList by rw [side, if_neg (nonempty_data h1)])
    have HN := hidden (read_num0 s.data.toList)
    have HC := hidden (read_any s 0 w hs)
    have HZ := hidden (Lib.size_eq s)
    generalize read s.data.toList 0 = R at *
    obtain ⟨n, en, er⟩ := R
    clear h0
    go_enter Tryd.func28, Tryd.ntmps28
    go_wp2_with fail
    refine HC.out.mono ?_
    rintro e w' ⟨rfl, rfl⟩
    unfold R3
    by_cases hc : er = 0 ∧ en = (s.size : Int) ∧ 1 ≤ n
    · obtain ⟨rfl, rfl, hn⟩ := hc
      have hx := HN.out
      rw [if_pos ⟨rfl, by rw [HZ.out], hn⟩] at hx
      have HX := hidden hx
      clear hx
      go_wp2
      go_ret2
      exact ⟨by rw [HR.out, ← HX.out]; rfl, rfl⟩
    · have hx := HN.out
      rw [if_neg (by rw [← HZ.out]; exact hc)] at hx
      have HX := hidden hx
      clear hx
      by_cases h2 : er = 0
      · subst h2
        by_cases h3 : en = (s.size : Int)
        · subst h3
          have h4 : ¬ 1 ≤ n := fun h => hc ⟨rfl, rfl, h⟩
          clear hc
          go_wp2
          go_ret2
          exact ⟨by rw [HR.out, ← HX.out]; rfl, rfl⟩
        · have h3b : (en != (s.size : Int)) = true := by simp [h3]
          clear hc h3
          go_wp2
          go_ret2
          exact ⟨by rw [HR.out, ← HX.out]; rfl, rfl⟩
      · have h2b : (er != 0) = true := by simp [h2]
        clear hc h2
        go_wp2
        go_ret2
        exact ⟨by rw [HR.out, ← HX.out]; rfl, rfl⟩

/-- a range, or that there is none -/
def IsPart (v : Value) (o : Option (Int × Int)) : Prop := match o with
  | none => ∃ x y, v = .tuple #[.agg #[.int .i64 x, .int .i64 y], .bool false]
  | some r => v = .tuple #[.agg #[.int .i64 r.1, .int .i64 r.2], .bool true]

def partOf (p q : List UInt8) (d : Bool) : Option (Int × Int) :=
  if p = [] ∧ q = [] then none
  else match side p 1 with
    | none => none
    | some f =>
      if d = false then some (f, f)
      else match side q (-1) with
        | none => none
        | some t => if q ≠ [] ∧ t < f then none else some (f, t)
theorem part_of (l : List UInt8) : Nm.part l = partOf (Lib.cut l [45]).1 (Lib.cut l [45]).2.1 (Lib.cut l [45]).2.2 := rfl

theorem cut_le (l sep : List UInt8) : (Lib.cut l sep).1.length ≤ l.length ∧ (Lib.cut l sep).2.1.length ≤ l.length := by
  unfold Lib.cut
  split
  · simp; omega
  · simp

theorem cut_any (s : ByteArray) (w : World) (he : Env w) (hs : s.size ≤ 1048576) :
    Calls Tryd.prog 27 #[.string s, .string ⟨#[45]⟩] w fun e w' => ∃ (P Q : ByteArray) (d : Bool) (n : Nat), e = .returned (.tuple #[.string P, .string Q, .bool d]) ∧ w' = w.drewN n ∧ Nm.part s.data.toList = partOf P.data.toList Q.data.toList d ∧ P.size ≤ s.size ∧ Q.size ≤ s.size := by
  obtain ⟨m, hm⟩ := he.m
  refine (Tryd.strings_Cut s ⟨#[45]⟩ m w (by omega) hm).mono ?_
  rintro e w' ⟨rfl, n, rfl⟩
  have h := cut_le s.data.toList [45]
  exact ⟨⟨(Lib.cut s.data.toList [45]).1.toArray⟩, ⟨(Lib.cut s.data.toList [45]).2.1.toArray⟩, (Lib.cut s.data.toList [45]).2.2, n, rfl, rfl, part_of _, by rw [Lib.size_eq s]; exact h.1, by rw [Lib.size_eq s]; exact h.2⟩

theorem side_no (s : ByteArray) (a : Int) (ho : side s.data.toList a = none) (hs : s.size ≤ 1048576) (w : World) :
    Calls Tryd.prog 28 #[.string s, .int .i64 a] w fun e w' => e = .returned (.tuple #[.int .i64 0, .bool false]) ∧ w' = w := by
  have := side_any s a w hs
  rw [ho] at this; exact this
theorem side_yes (s : ByteArray) (a n : Int) (ho : side s.data.toList a = some n) (hs : s.size ≤ 1048576) (w : World) :
    Calls Tryd.prog 28 #[.string s, .int .i64 a] w fun e w' => e = .returned (.tuple #[.int .i64 n, .bool true]) ∧ w' = w := by
  have := side_any s a w hs
  rw [ho] at this; exact this

/-- the memory behind a range that is handed back -/
def rangeWorld (w : World) (n : Nat) (f t : Int) : World :=
  (((w.alloc (Obj.cells #[Value.int IntKind.i64 0, Value.int IntKind.i64 0] 39)).drewN n).setCell { block := w.heap.size, off := 0 } (Value.int IntKind.i64 f)).setCell { block := w.heap.size, off := 1 } (Value.int IntKind.i64 t)
theorem range_below (w : World) (n : Nat) (f t : Int) : Below w.heap.size w (rangeWorld w n f t) :=
  ((below_drewN ((Below.refl _ w).alloc (Nat.le_refl _) _) n).setCell (Nat.le_refl _) _).setCell (Nat.le_refl _) _

set_option maxHeartbeats 1000000 in
theorem oneRange_any (s : ByteArray) (w : World) (he : Env w) (hs : s.size ≤ 1048576) :
    Calls Tryd.prog 22 #[.string s] w fun e w' => ∃ v, e = .returned v ∧ IsPart v (Nm.part s.data.toList) ∧ Below w.heap.size w w' := by
  have HE := hidden (he.on ((Below.refl _ w).alloc (Nat.le_refl _) (.cells #[.int .i64 0, .int .i64 0] 39)))
  clear he
  go_enter Tryd.func22, Tryd.ntmps22
  go_wp2_with fail
  refine (cut_any s _ HE.out hs).mono ?_
  rintro e w1 ⟨P, Q, d, n, rfl, rfl, hp, hP, hQ⟩
  have HP := hidden hp
  clear hp HE
  cases hp0 : P.toList.isEmpty <;> cases hq0 : Q.toList.isEmpty
  case true.true =>
    have HN := hidden (show Nm.part s.data.toList = none by rw [HP.out, partOf, if_pos ⟨empty_data hp0, empty_data hq0⟩])
    clear HP
    go_wp2
    refine bodyPost_ret (v := .tuple #[.agg #[.int .i64 0, .int .i64 0], .bool false]) (by simp [results, Tryd.results22, go_sem]) rfl ⟨_, rfl, by rw [HN.out]; exact ⟨_, _, rfl⟩, range_below w n 0 0⟩
  all_goals
    have hne : ¬ (P.data.toList = [] ∧ Q.data.toList = []) := by
      rintro ⟨a, b⟩
      first | exact nonempty_data hp0 a | exact nonempty_data hq0 b
    have hp2 := HP.out
    rw [partOf, if_neg hne] at hp2
    cases hsp : side P.data.toList 1 with
    | none =>
      rw [hsp] at hp2
      have HN := hidden hp2
      have HS := hidden (side_no P 1 hsp (by omega))
      clear HP hp2 hsp hne
      go_wp2_with fail
      refine (HS.out _).mono ?_
      rintro e w' ⟨rfl, rfl⟩
      go_wp2
      refine bodyPost_ret (v := .tuple #[.agg #[.int .i64 0, .int .i64 0], .bool false]) (by simp [results, Tryd.results22, go_sem]) rfl ⟨_, rfl, by rw [HN.out]; exact ⟨_, _, rfl⟩, range_below w n 0 0⟩
    | some f =>
      rw [hsp] at hp2
      have HS := hidden (side_yes P 1 f hsp (by omega))
      cases d with
      | false =>
        have HN := hidden (hp2.trans (if_pos rfl))
        clear HP hp2 hsp hne
        go_wp2_with fail
        refine (HS.out _).mono ?_
        rintro e w' ⟨rfl, rfl⟩
        go_wp2
        refine bodyPost_ret (v := .tuple #[.agg #[.int .i64 f, .int .i64 f], .bool true]) (by simp [results, Tryd.results22, go_sem]) rfl ⟨_, rfl, by rw [HN.out]; rfl, range_below w n f f⟩
      | true =>
        have hp3 := hp2.trans (if_neg (by simp))
        cases hsq : side Q.data.toList (-1) with
        | none =>
          rw [hsq] at hp3
          have HN := hidden hp3
          have HT := hidden (side_no Q (-1) hsq (by omega))
          clear HP hp2 hp3 hsp hsq hne
          go_wp2_with fail
          refine (HS.out _).mono ?_
          rintro e w' ⟨rfl, rfl⟩
          go_wp2_with fail
          refine (HT.out _).mono ?_
          rintro e w' ⟨rfl, rfl⟩
          go_wp2
          refine bodyPost_ret (v := .tuple #[.agg #[.int .i64 0, .int .i64 0], .bool false]) (by simp [results, Tryd.results22, go_sem]) rfl ⟨_, rfl, by rw [HN.out]; exact ⟨_, _, rfl⟩, range_below w n 0 0⟩
        | some t =>
          rw [hsq] at hp3
          have HT := hidden (side_yes Q (-1) t hsq (by omega))
          by_cases hlt : Q.data.toList ≠ [] ∧ t < f
          · first
            | exact absurd (empty_data hq0) hlt.1
            | (have HN := hidden (hp3.trans (if_pos hlt))
               have hlt2 := hlt.2
               clear HP hp2 hp3 hsp hsq hne hlt
               go_wp2_with fail
               refine (HS.out _).mono ?_
               rintro e w' ⟨rfl, rfl⟩
               go_wp2_with fail
               refine (HT.out _).mono ?_
               rintro e w' ⟨rfl, rfl⟩
               go_wp2
               refine bodyPost_ret (v := .tuple #[.agg #[.int .i64 0, .int .i64 0], .bool false]) (by simp [results, Tryd.results22, go_sem]) rfl ⟨_, rfl, by rw [HN.out]; exact ⟨_, _, rfl⟩, range_below w n 0 0⟩)
          · have HN := hidden (hp3.trans (if_neg hlt))
            have hlt2 : Q.toList.isEmpty = true ∨ ¬ t < f := by
              first | exact Or.inl hq0 | exact Or.inr fun h => hlt ⟨nonempty_data hq0, h⟩
            simp [hq0] at hlt2
            clear HP hp2 hp3 hsp hsq hne hlt
            go_wp2_with fail
            refine (HS.out _).mono ?_
            rintro e w' ⟨rfl, rfl⟩
            go_wp2_with fail
            refine (HT.out _).mono ?_
            rintro e w' ⟨rfl, rfl⟩
            go_wp2
            refine bodyPost_ret (v := .tuple #[.agg #[.int .i64 f, .int .i64 t], .bool true]) (by simp [results, Tryd.results22, go_sem]) rfl ⟨_, rfl, by rw [HN.out]; rfl, range_below w n f t⟩

end Go.Proofs.YtdlmddeiopdioaaDoor
