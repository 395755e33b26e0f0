
/-
  What lines.firstEnd, lines.Right, strings.Clone and strings.HasSuffix of one byte 10 answer at any text of at most 1048576 bytes: the first line's end, whether it is a line, the text itself, whether a byte 10 ends it; what the document's own RightLine and Open answer; conditions: the text's length.
-/
import Derived.Lib.Strings
import Derived.Lib.Bytealg
import Derived.WalkKit
import Derived.WalkSpells
import Derived.WalkLawsBesides
import Derived.OwnWalk
import Derived.BigQuiet
import Derived.Deep.QuietTactic
import Derived.Deep.Cut
import Derived.Maps.AppendAt
import Derived.Test.YtcdjemheokmglabShelf
namespace Go.Proofs.Ytcdjemheokmglab.Ln

/-- where the first line of a text ends -/
def fe : List UInt8 → Nat
  | [] => 0
  | c :: r => if c = 10 then 1 else fe r + 1

/-- the lines of a text -/
def spl : List UInt8 → List (List UInt8)
  | [] => []
  | c :: r => if c = 10 then [c] :: spl r else match spl r with | [] => [[c]] | x :: xs => (c :: x) :: xs

/-- is a text a line? -/
def rt (x : List UInt8) : Bool := !x.isEmpty && fe x == x.length

/-- does a text end with a byte 10? -/
def cl (x : List UInt8) : Bool := x.getLast? == some 10

/-- are texts lines and, but the last, all closed? -/
def wh : List (List UInt8) → Bool
  | [] => true
  | x :: r => rt x && (r.isEmpty || cl x) && wh r

theorem fe_le (l : List UInt8) : fe l ≤ l.length := by
  induction l with
  | nil => simp [fe]
  | cons c r ih => simp only [fe]; split <;> simp <;> omega

theorem fe_pos (l : List UInt8) (h : l ≠ []) : 0 < fe l := by
  cases l with
  | nil => exact absurd rfl h
  | cons c r => simp only [fe]; split <;> omega

theorem spl_ne (l : List UInt8) (h : l ≠ []) : spl l = l.take (fe l) :: spl (l.drop (fe l)) := by
  induction l with
  | nil => exact absurd rfl h
  | cons c r ih =>
    simp only [spl, fe]
    by_cases hc : c = 10
    · simp [hc]
    · simp only [if_neg hc, List.take_succ_cons, List.drop_succ_cons]
      by_cases hr : r = []
      · subst hr; simp [spl, fe]
      · rw [ih hr]

theorem spl_flatten (l : List UInt8) : (spl l).flatten = l := by
  induction l with
  | nil => rfl
  | cons c r ih =>
    simp only [spl]
    split
    · simp [ih]
    · cases hs : spl r with
      | nil => rw [hs] at ih; simp at ih; simp [← ih]
      | cons x xs => rw [hs] at ih; simp at ih ⊢; exact ih

theorem spl_length_le (l : List UInt8) : (spl l).length ≤ l.length := by
  induction l with
  | nil => simp [spl]
  | cons c r ih =>
    simp only [spl]
    split
    · simp; exact ih
    · cases hs : spl r with
      | nil => simp
      | cons x xs => rw [hs] at ih; simp at ih ⊢; omega

theorem spl_eq_nil (l : List UInt8) : spl l = [] ↔ l = [] := by
  constructor
  · intro h
    by_cases hl : l = []
    · exact hl
    · rw [spl_ne l hl] at h; cases h
  · rintro rfl; rfl

theorem fe_at (l : List UInt8) (k : Nat) (hk : k < l.length) (h0 : ∀ j, j < k → l[j]? ≠ some 10) (h1 : l[k]? = some 10 ∨ k + 1 = l.length) : fe l = k + 1 := by
  induction l generalizing k with
  | nil => simp at hk
  | cons c r ih =>
    simp only [fe]
    cases k with
    | zero =>
      by_cases hc : c = 10
      · simp [hc]
      · rw [if_neg hc]
        rcases h1 with h1 | h1
        · simp at h1; exact absurd h1 hc
        · simp at h1; subst h1; rfl
    | succ k =>
      have hc : c ≠ 10 := by have := h0 0 (by omega); simpa using this
      rw [if_neg hc, ih k (by simpa using hk) (fun j hj => by have := h0 (j + 1) (by omega); simpa using this) (by simpa using h1)]

theorem rt_iff (x : List UInt8) : rt x = true ↔ x ≠ [] ∧ fe x = x.length := by
  simp [rt]

theorem fe_full (x : List UInt8) : fe x = x.length ↔ ∀ i, i + 1 < x.length → x[i]? ≠ some 10 := by
  induction x with
  | nil => simp [fe]
  | cons c r ih =>
    simp only [fe]
    by_cases hc : c = 10
    · subst hc
      simp only [if_true, List.length_cons]
      constructor
      · intro h i hi; omega
      · intro h
        by_cases hr : r.length = 0
        · omega
        · exact absurd rfl (h 0 (by omega))
    · simp only [if_neg hc, List.length_cons, Nat.add_right_cancel_iff, ih]
      constructor
      · intro h i hi
        cases i with
        | zero => simpa using hc
        | succ i => simpa using h i (by omega)
      · intro h i hi
        simpa using h (i + 1) (by omega)

theorem rt_cons (c : UInt8) (x : List UInt8) (hc : c ≠ 10) (hx : x ≠ []) : rt (c :: x) = rt x := by
  simp [rt, fe, hc, hx]

theorem cl_cons (c : UInt8) (x : List UInt8) (hx : x ≠ []) : cl (c :: x) = cl x := by
  cases x with
  | nil => exact absurd rfl hx
  | cons d r => simp [cl, List.getLast?_cons]

theorem spl_mem_ne (l : List UInt8) : ∀ x ∈ spl l, x ≠ [] := by
  induction l with
  | nil => simp [spl]
  | cons c r ih =>
    simp only [spl]
    split
    · intro x hx
      rcases List.mem_cons.1 hx with rfl | hx
      · simp
      · exact ih x hx
    · cases hs : spl r with
      | nil => simp
      | cons y ys =>
        rw [hs] at ih
        intro x hx
        rcases List.mem_cons.1 hx with rfl | hx
        · simp
        · exact ih x (List.mem_cons_of_mem _ hx)

theorem wh_spl (l : List UInt8) : wh (spl l) = true := by
  induction l with
  | nil => rfl
  | cons c r ih =>
    have hne := spl_mem_ne r
    simp only [spl]
    by_cases hc : c = 10
    · subst hc
      simp [wh, ih, rt, fe, cl]
    · rw [if_neg hc]
      cases hs : spl r with
      | nil => simp [wh, rt, fe, hc]
      | cons x xs =>
        rw [hs] at ih hne
        have hx : x ≠ [] := hne x (by simp)
        simp only [wh, rt_cons c x hc hx, cl_cons c x hx] at ih ⊢
        exact ih

theorem spl_line (x l : List UInt8) (h : rt x = true) (h2 : cl x = true) : spl (x ++ l) = x :: spl l := by
  induction x with
  | nil => simp [rt] at h
  | cons c r ih =>
    by_cases hc : c = 10
    · subst hc
      have hr : r = [] := by simpa [rt, fe] using h
      subst hr
      simp [spl]
    · by_cases hr : r = []
      · subst hr; simp [cl] at h2; exact absurd h2 hc
      · rw [rt_cons c r hc hr] at h
        rw [cl_cons c r hr] at h2
        simp only [List.cons_append, spl, if_neg hc, ih h h2]

theorem spl_one (x : List UInt8) (h : rt x = true) : spl x = [x] := by
  obtain ⟨hne, hfe⟩ := (rt_iff x).1 h
  rw [spl_ne x hne, hfe]
  simp [spl]

theorem wh_iff (xs : List (List UInt8)) : wh xs = true ↔ spl xs.flatten = xs := by
  constructor
  · intro h
    induction xs with
    | nil => rfl
    | cons x r ih =>
      simp only [wh, Bool.and_eq_true, Bool.or_eq_true] at h
      obtain ⟨⟨h1, h2⟩, h3⟩ := h
      rcases h2 with h2 | h2
      · have hr : r = [] := by simpa using h2
        subst hr
        simpa using spl_one x h1
      · rw [List.flatten_cons, spl_line x _ h1 h2, ih h3]
  · intro h
    rw [← h]
    exact wh_spl _

theorem wh_eq (xs : List (List UInt8)) : wh xs = decide (spl xs.flatten = xs) := by
  rw [Bool.eq_iff_iff, wh_iff]; simp

/-- the texts from the k-th on, as a loop goes through them -/
theorem wh_drop (xs : List (List UInt8)) (k : Nat) (x : List UInt8) (h : xs[k]? = some x) :
    wh (xs.drop k) = (rt x && (decide (xs.length ≤ k + 1) || cl x) && wh (xs.drop (k + 1))) := by
  obtain ⟨hk, hx⟩ := List.getElem?_eq_some_iff.1 h
  rw [List.drop_eq_getElem_cons hk, hx]
  simp only [wh]
  congr 3
  rw [Bool.eq_iff_iff]
  simp

theorem spl_parts (a b : List UInt8) : spl (a ++ [10] ++ b) = spl (a ++ [10]) ++ spl b := by
  induction a with
  | nil => simp [spl]
  | cons c r ih =>
    simp only [List.cons_append, spl]
    by_cases hc : c = 10
    · simp only [if_pos hc]; rw [ih]; rfl
    · simp only [if_neg hc]
      rw [ih]
      cases hs : spl (r ++ [10]) with
      | nil => exact absurd ((spl_eq_nil _).1 hs) (by simp)
      | cons x xs => rfl

/-- how many bytes 10 -/
def ends (l : List UInt8) : Nat := l.count 10

theorem spl_length (l : List UInt8) : (spl l).length = ends l + if l ≠ [] ∧ cl l = false then 1 else 0 := by
  induction l with
  | nil => rfl
  | cons c r ih =>
    simp only [spl, ends] at ih ⊢
    by_cases hr : r = []
    · subst hr
      by_cases hc : c = 10
      · subst hc; rfl
      · simp [hc, spl, cl]
    · rw [cl_cons c r hr]
      by_cases hc : c = 10
      · subst hc
        simp only [if_true, List.length_cons, List.count_cons_self]
        rw [ih]
        simp only [hr, ne_eq, not_false_eq_true, true_and, reduceCtorEq]
        omega
      · have hcount : (c :: r).count 10 = r.count 10 := by rw [List.count_cons_of_ne hc]
        rw [if_neg hc, hcount]
        simp only [hr, ne_eq, not_false_eq_true, true_and, reduceCtorEq] at ih ⊢
        cases hs : spl r with
        | nil => exact absurd ((spl_eq_nil _).1 hs) hr
        | cons x xs => rw [hs] at ih; simpa using ih

/-- the library's search of a byte, told by 'fe' -/
theorem fe_index (l : List UInt8) : (0 ≤ Lib.indexByte l 10 → (fe l : Int) = Lib.indexByte l 10 + 1) ∧ (¬ 0 ≤ Lib.indexByte l 10 → fe l = l.length) ∧ Lib.indexByte l 10 < l.length ∧ -1 ≤ Lib.indexByte l 10 := by
  induction l with
  | nil => simp [Lib.indexByte, fe]
  | cons c r ih =>
    obtain ⟨h1, h2, h3, h4⟩ := ih
    simp only [Lib.indexByte, fe]
    by_cases hc : c = 10
    · subst hc; simp
    · have hb : (c == 10) = false := by simpa using hc
      simp only [hb, if_neg hc, List.length_cons]
      by_cases hm : Lib.indexByte r 10 = -1
      · have := h2 (by omega)
        simp [hm]; omega
      · have hb2 : (Lib.indexByte r 10 == -1) = false := by simpa using hm
        have := h1 (by omega)
        simp [hb2]; omega

theorem cl_suffix (x : List UInt8) : Lib.hasSuffix x [10] = cl x := by
  rw [Bool.eq_iff_iff]
  simp only [Lib.hasSuffix, List.isSuffixOf_iff_suffix, cl, beq_iff_eq]
  constructor
  · rintro ⟨t, rfl⟩; simp
  · intro h
    obtain ⟨ys, rfl⟩ := List.getLast?_eq_some_iff.1 h
    exact ⟨ys, rfl⟩

end Go.Proofs.Ytcdjemheokmglab.Ln

namespace Go.Proofs.Ytcdjemheokmglab
open Go.RowKit Go.Proofs.Ytcdjemheokmglab.Ln

theorem hidden {p : Prop} (h : p) : Hid p := h
theorem ret_int {k : IntKind} {a b : Int} (h : a = b) : Ending.returned (.int k a) = .returned (.int k b) := by rw [h]
theorem ret_bool {a b : Bool} (h : a = b) : Ending.returned (.bool a) = .returned (.bool b) := by rw [h]
/-- a text as a value -/
def S (x : List UInt8) : Value := .string ⟨x.toArray⟩
theorem S_data (s : ByteArray) : S s.data.toList = .string s := by rw [S, Lib.mk_data]
theorem S_one (x : List UInt8) : (S x).oneCell' = true := rfl
theorem addr_add (b o j : Nat) : (⟨b, o, none⟩ : Addr).add j = ⟨b, o + j, none⟩ := by
  cases j <;> simp [Addr.add]
theorem beq_texts (x y : List UInt8) : ((⟨x.toArray⟩ : ByteArray).toList == (⟨y.toArray⟩ : ByteArray).toList) = decide (x = y) := by
  rw [Lib.toList_data, Lib.toList_data]
  by_cases h : x = y <;> simp [h]

set_option maxHeartbeats 400000 in
theorem firstEnd_any (s : ByteArray) (w : World) (hs : s.size ≤ 140737488355328) :
    Calls Try.prog 38 #[.string s] w fun e w' => e = .returned (.int .i64 (fe s.data.toList)) ∧ w' = w := by
  obtain ⟨h1, h2, h3, h4⟩ := fe_index s.data.toList
  rw [← Lib.size_eq] at h2 h3
  generalize hix : Lib.indexByte s.data.toList 10 = ix at *
  have Hix : Hid (Lib.indexByte s.data.toList 10 = ix) := hix
  clear hix
  by_cases h0 : 0 ≤ ix
  · have hfe := h1 h0
    have HF : Hid ((fe s.data.toList : Int) = ix + 1) := hfe
    clear h1 h2 hfe
    go_enter Try.func38, Try.ntmps38
    go_wp2_with (go_at_call 44; refine (Try.strings_IndexByte _ _ _).mono ?_; rintro e w' ⟨rfl, rfl⟩; rw [show ((10 : Int).toNat.toUInt8) = 10 from rfl, Hix.out])
    go_ret
    exact ⟨ret_int HF.out.symm, rfl⟩
  · have hfe := h2 h0
    have HF : Hid (fe s.data.toList = s.size) := hfe
    clear h1 h2 hfe
    go_enter Try.func38, Try.ntmps38
    go_wp2_with (go_at_call 44; refine (Try.strings_IndexByte _ _ _).mono ?_; rintro e w' ⟨rfl, rfl⟩; rw [show ((10 : Int).toNat.toUInt8) = 10 from rfl, Hix.out])
    go_ret
    exact ⟨ret_int (by rw [HF.out]), rfl⟩

theorem suffix_any (x : List UInt8) (w : World) (hs : x.length ≤ 140737488355328) :
    Calls Try.prog 33 #[.string ⟨x.toArray⟩, .string ⟨#[10]⟩] w fun e w' => e = .returned (.bool (cl x)) ∧ w' = w := by
  refine (Try.strings_HasSuffix ⟨x.toArray⟩ ⟨#[10]⟩ w (by show x.length ≤ _; omega)).mono ?_
  rintro e w' ⟨rfl, rfl⟩
  exact ⟨ret_bool (cl_suffix x), rfl⟩

set_option maxHeartbeats 400000 in
theorem clone_any (x : List UInt8) (w : World) (hs : x.length ≤ 281474976710656) :
    Calls Try.prog 21 #[.string ⟨x.toArray⟩] w fun e w' => e = .returned (.string ⟨x.toArray⟩) ∧ Below w.heap.size w w' := by
  have hs2 : (⟨x.toArray⟩ : ByteArray).size ≤ 281474976710656 := hs
  go_enter Try.func21, Try.ntmps21
  go_wp2_with (go_at_call 30; refine (Try.stringslite_Clone _ _ hs2).mono ?_; rintro e w' ⟨rfl, hb⟩)
  go_ret
  exact ⟨rfl, hb⟩

theorem empty_data {s : ByteArray} (h : s.toList.isEmpty = true) : s.data.toList = [] := by
  rw [Lib.toList_data] at h; simpa using h
theorem nonempty_data {s : ByteArray} (h : s.toList.isEmpty = false) : s.data.toList ≠ [] := by
  rw [Lib.toList_data] at h; intro e; rw [e] at h; simp at h

set_option maxHeartbeats 400000 in
theorem lright_any (s : ByteArray) (w : World) (hs : s.size ≤ 140737488355328) :
    Calls Try.prog 31 #[.string s] w fun e w' => e = .returned (.bool (rt s.data.toList)) ∧ w' = w := by
  by_cases h0 : s.toList.isEmpty = true
  · go_enter Try.func31, Try.ntmps31
    go_wp2_with (go_at_call 38; refine (firstEnd_any _ _ (by omega)).mono ?_; rintro e w' ⟨rfl, rfl⟩)
    go_ret
    exact ⟨ret_bool (by simp [rt, empty_data h0]), rfl⟩
  · have h1 : s.toList.isEmpty = false := by simpa using h0
    go_enter Try.func31, Try.ntmps31
    go_wp2_with (go_at_call 38; refine (firstEnd_any _ _ (by omega)).mono ?_; rintro e w' ⟨rfl, rfl⟩)
    go_ret
    exact ⟨ret_bool (by rw [rt, Lib.size_eq, ← Lib.toList_data, h1, Bool.not_false, Bool.true_and, Bool.eq_iff_iff, beq_iff_eq, beq_iff_eq]; omega), rfl⟩

theorem get_data (s : ByteArray) (k : Nat) (h : k < s.size) : s.data.toList[k]? = some s[k] := by
  rw [List.getElem?_eq_getElem (by rw [← Lib.size_eq]; exact h)]; rfl

theorem get_ne (s : ByteArray) (k : Nat) (h : k < s.size) (hc : ((s[k].toNat : Int) == 10) = false) : s.data.toList[k]? ≠ some 10 := by
  rw [get_data s k h]
  intro e
  simp only [Option.some.injEq] at e
  rw [e] at hc
  simp at hc

theorem get_ten (s : ByteArray) (k : Nat) (h : k < s.size) (hc : ((s[k].toNat : Int) == 10) = true) : s.data.toList[k]? = some 10 := by
  rw [get_data s k h]
  have : s[k].toNat = 10 := by have h := beq_iff_eq.1 hc; omega
  congr 1
  exact UInt8.toNat_inj.1 this

set_option maxHeartbeats 1000000 in
theorem rightLine_any (s : ByteArray) (w : World) (hs : s.size ≤ 140737488355328) :
    Calls Try.prog 14 #[.string s] w fun e w' => e = .returned (.bool (rt s.data.toList)) ∧ w' = w := by
  go_enter Try.func14, Try.ntmps14
  go_wp2
  go_loop [3] (fun i => ∃ k : Nat, k ≤ s.size ∧ i = .int .i64 k ∧ Hid (∀ j, j < k → s.data.toList[j]? ≠ some 10)) (fun i => s.size - (intOf i).toNat)
  case atStart => exact ⟨0, Nat.zero_le _, rfl, fun j hj => absurd hj (Nat.not_lt_zero _)⟩
  case round =>
    obtain ⟨k, hk, rfl, hno⟩ := hrel
    by_cases hlt : k + 1 < s.size
    · go_wp2
      · go_ret
        have h10 := get_ten s k (by omega) (by assumption)
        have : rt s.data.toList = false := by
          rw [Bool.eq_false_iff]
          intro h
          exact (fe_full _).1 ((rt_iff _).1 h).2 k (by rw [← Lib.size_eq]; omega) h10
        exact ⟨ret_bool this.symm, rfl⟩
      · have h10 := get_ne s k (by omega) (by assumption)
        have H : ∀ j, j < k + 1 → s.data.toList[j]? ≠ some 10 := fun j hj => by
          by_cases hjk : j = k
          · rw [hjk]; exact h10
          · exact hno.out j (by omega)
        clear h10
        go_round
        case rel => exact ⟨k + 1, by omega, by go_num, H⟩
        case measure => simp [intOf]; omega
    · go_wp2
      go_ret
      have hfe : fe s.data.toList = s.data.toList.length := (fe_full _).2 fun i hi => hno.out i (by rw [← Lib.size_eq] at hi; omega)
      exact ⟨ret_bool (by rw [rt, hfe, ← Lib.toList_data]; simp), rfl⟩

theorem cl_last (s : ByteArray) (h : 0 < s.size) : cl s.data.toList = ((s[s.size - 1].toNat : Int) == 10) := by
  have h1 := get_data s (s.size - 1) (by omega)
  have h2 : s.data.toList.getLast? = some s[s.size - 1] := by
    rw [List.getLast?_eq_getElem?, ← Lib.size_eq]; exact h1
  rw [cl, h2, Bool.eq_iff_iff]
  simp only [beq_iff_eq, Option.some.injEq]
  constructor
  · intro e; rw [e]; rfl
  · intro e; exact UInt8.toNat_inj.1 (by show _ = 10; omega)

set_option maxHeartbeats 1000000 in
theorem open_any (s : ByteArray) (w : World) (hs : s.size ≤ 140737488355328) :
    Calls Try.prog 15 #[.string s] w fun e w' => e = .returned (.bool (!cl s.data.toList)) ∧ w' = w := by
  by_cases h0 : s.toList.isEmpty = true
  · go_enter Try.func15, Try.ntmps15
    go_wp2
    go_ret
    exact ⟨ret_bool (by simp [cl, empty_data h0]), rfl⟩
  · have h1 : s.toList.isEmpty = false := by simpa using h0
    have hpos : 0 < s.size := by
      have := nonempty_data h1
      rw [Lib.size_eq]
      exact List.length_pos_iff.2 this
    go_enter Try.func15, Try.ntmps15
    go_wp2
    go_ret
    refine ⟨ret_bool ?_, rfl⟩
    rw [cl_last s hpos]
    simp only [bne]

theorem lrightX (x : List UInt8) (w : World) (hs : x.length ≤ 140737488355328) :
    Calls Try.prog 31 #[.string ⟨x.toArray⟩] w fun e w' => e = .returned (.bool (rt x)) ∧ w' = w := by
  have := lright_any ⟨x.toArray⟩ w hs
  simpa using this
theorem rightLineX (x : List UInt8) (w : World) (hs : x.length ≤ 140737488355328) :
    Calls Try.prog 14 #[.string ⟨x.toArray⟩] w fun e w' => e = .returned (.bool (rt x)) ∧ w' = w := by
  have := rightLine_any ⟨x.toArray⟩ w hs
  simpa using this
theorem openX (x : List UInt8) (w : World) (hs : x.length ≤ 140737488355328) :
    Calls Try.prog 15 #[.string ⟨x.toArray⟩] w fun e w' => e = .returned (.bool (!cl x)) ∧ w' = w := by
  have := open_any ⟨x.toArray⟩ w hs
  simpa using this

end Go.Proofs.Ytcdjemheokmglab
