/-
  Names in their order, and trees as lists of pairs of a name and its data: what stands under a name, with one put in, with one cut out, and which of these lists rise; no condition but those that each theorem states.
-/
import GoSem.Op.String
namespace Go.Proofs.Ytehhpjgbffcocaa.Tr
open Go

abbrev Tx := List UInt8
abbrev En := List UInt8 × List UInt8

theorem lt_irrefl (a : Tx) : Op.bytesLess a a = false := by
  induction a with
  | nil => rfl
  | cons x a ih => simp [Op.bytesLess, ih]

theorem lt_cons {x y : UInt8} {a b : Tx} : Op.bytesLess (x :: a) (y :: b) = true ↔ x < y ∨ (x = y ∧ Op.bytesLess a b = true) := by
  simp [Op.bytesLess]

theorem lt_trans : ∀ {a b c : Tx}, Op.bytesLess a b = true → Op.bytesLess b c = true → Op.bytesLess a c = true
  | _, [], _, h, _ => by simp [Op.bytesLess] at h
  | _, _ :: _, [], _, h => by simp [Op.bytesLess] at h
  | [], _ :: _, _ :: _, _, _ => rfl
  | x :: a, y :: b, z :: c, h1, h2 => by
    rw [lt_cons] at *
    rcases h1 with h1 | ⟨h1, h1'⟩
    · rcases h2 with h2 | ⟨h2, h2'⟩
      · exact Or.inl (UInt8.lt_trans h1 h2)
      · subst h2; exact Or.inl h1
    · subst h1
      rcases h2 with h2 | ⟨h2, h2'⟩
      · exact Or.inl h2
      · subst h2; exact Or.inr ⟨rfl, lt_trans h1' h2'⟩

theorem lt_total : ∀ (a b : Tx), Op.bytesLess a b = true ∨ a = b ∨ Op.bytesLess b a = true
  | [], [] => Or.inr (Or.inl rfl)
  | [], _ :: _ => Or.inl rfl
  | _ :: _, [] => Or.inr (Or.inr rfl)
  | x :: a, y :: b => by
    rw [lt_cons, lt_cons]
    by_cases h : x = y
    · subst h
      rcases lt_total a b with h | h | h
      · exact Or.inl (Or.inr ⟨rfl, h⟩)
      · subst h; exact Or.inr (Or.inl rfl)
      · exact Or.inr (Or.inr (Or.inr ⟨rfl, h⟩))
    · have : x < y ∨ y < x := by
        rw [UInt8.lt_iff_toNat_lt, UInt8.lt_iff_toNat_lt]
        have : x.toNat ≠ y.toNat := fun e => h (UInt8.toNat_inj.1 e)
        omega
      rcases this with h | h
      · exact Or.inl (Or.inl h)
      · exact Or.inr (Or.inr (Or.inl h))

theorem lt_nil (a : Tx) : Op.bytesLess a [] = false := by cases a <;> rfl
theorem nil_lt (a : Tx) (h : a ≠ []) : Op.bytesLess [] a = true := by
  cases a with
  | nil => exact absurd rfl h
  | cons => rfl
theorem lt_asymm {a b : Tx} (h : Op.bytesLess a b = true) : Op.bytesLess b a = false := by
  cases e : Op.bytesLess b a with
  | false => rfl
  | true => have := lt_trans h e; rw [lt_irrefl] at this; cases this
theorem lt_ne {a b : Tx} (h : Op.bytesLess a b = true) : a ≠ b := fun e => by rw [e, lt_irrefl] at h; cases h
/-- a is at most b just if b is not less -/
theorem le_iff (a b : Tx) : (Op.bytesLess a b || a == b) = !Op.bytesLess b a := by
  rcases lt_total a b with h | h | h
  · rw [h, lt_asymm h]; rfl
  · subst h; rw [lt_irrefl]; simp
  · rw [lt_asymm h, h]; simpa using (lt_ne h).symm

/-- what stands under a name -/
def getL (n : Tx) : List En → Option Tx
  | [] => none
  | e :: r => if e.1 = n then some e.2 else getL n r
/-- without the first of that name -/
def cutL (n : Tx) : List En → List En
  | [] => []
  | e :: r => if e.1 = n then r else e :: cutL n r
/-- the first of that name with other data -/
def setL (n d : Tx) : List En → List En
  | [] => []
  | e :: r => if e.1 = n then (n, d) :: r else e :: setL n d r
/-- one more, ahead of the first of a greater name -/
def insL (n d : Tx) : List En → List En
  | [] => [(n, d)]
  | e :: r => if Op.bytesLess n e.1 = true then (n, d) :: e :: r else e :: insL n d r
def hasL (n : Tx) (ts : List En) : Bool := (getL n ts).isSome
def putL (n d : Tx) (ts : List En) : List En := if hasL n ts = true then setL n d ts else insL n d ts

theorem get_hit {n : Tx} (A : List En) (x : En) (B : List En) (hA : ∀ a, a ∈ A → a.1 ≠ n) (hx : x.1 = n) : getL n (A ++ x :: B) = some x.2 := by
  induction A with
  | nil => simp [getL, hx]
  | cons a A ih => simp [getL, hA a (by simp), ih (fun b hb => hA b (by simp [hb]))]
theorem get_miss {n : Tx} (ts : List En) (h : ∀ a, a ∈ ts → a.1 ≠ n) : getL n ts = none := by
  induction ts with
  | nil => rfl
  | cons a A ih => simp [getL, h a (by simp), ih (fun b hb => h b (by simp [hb]))]
theorem cut_hit {n : Tx} (A : List En) (x : En) (B : List En) (hA : ∀ a, a ∈ A → a.1 ≠ n) (hx : x.1 = n) : cutL n (A ++ x :: B) = A ++ B := by
  induction A with
  | nil => simp [cutL, hx]
  | cons a A ih => simp [cutL, hA a (by simp), ih (fun b hb => hA b (by simp [hb]))]
theorem cut_miss {n : Tx} (ts : List En) (h : ∀ a, a ∈ ts → a.1 ≠ n) : cutL n ts = ts := by
  induction ts with
  | nil => rfl
  | cons a A ih => simp [cutL, h a (by simp), ih (fun b hb => h b (by simp [hb]))]
theorem set_hit {n d : Tx} (A : List En) (x : En) (B : List En) (hA : ∀ a, a ∈ A → a.1 ≠ n) (hx : x.1 = n) : setL n d (A ++ x :: B) = A ++ (n, d) :: B := by
  induction A with
  | nil => simp [setL, hx]
  | cons a A ih => simp [setL, hA a (by simp), ih (fun b hb => hA b (by simp [hb]))]
theorem ins_hit {n d : Tx} (A : List En) (x : En) (B : List En) (hA : ∀ a, a ∈ A → Op.bytesLess n a.1 = false) (hx : Op.bytesLess n x.1 = true) : insL n d (A ++ x :: B) = A ++ (n, d) :: x :: B := by
  induction A with
  | nil => simp [insL, hx]
  | cons a A ih => simp [insL, hA a (by simp), ih (fun b hb => hA b (by simp [hb]))]
theorem ins_miss {n d : Tx} (ts : List En) (h : ∀ a, a ∈ ts → Op.bytesLess n a.1 = false) : insL n d ts = ts ++ [(n, d)] := by
  induction ts with
  | nil => rfl
  | cons a A ih => simp [insL, h a (by simp), ih (fun b hb => h b (by simp [hb]))]
theorem put_hit {n d : Tx} (A : List En) (x : En) (B : List En) (hA : ∀ a, a ∈ A → a.1 ≠ n) (hx : x.1 = n) : putL n d (A ++ x :: B) = A ++ (n, d) :: B := by
  rw [putL, hasL, get_hit A x B hA hx, set_hit A x B hA hx]; rfl
theorem put_miss {n d : Tx} (ts : List En) (h : ∀ a, a ∈ ts → a.1 ≠ n) : putL n d ts = insL n d ts := by
  rw [putL, hasL, get_miss ts h]; rfl

/-- the first of which p is true -/
theorem parts (p : En → Bool) (ts : List En) : (∃ A x B, ts = A ++ x :: B ∧ (∀ a, a ∈ A → p a = false) ∧ p x = true) ∨ (∀ a, a ∈ ts → p a = false) := by
  induction ts with
  | nil => exact Or.inr (fun a ha => by cases ha)
  | cons e r ih =>
    cases he : p e with
    | true => exact Or.inl ⟨[], e, r, rfl, (fun a ha => by cases ha), he⟩
    | false =>
      rcases ih with ⟨A, x, B, rfl, hA, hx⟩ | h
      · refine Or.inl ⟨e :: A, x, B, rfl, fun a ha => ?_, hx⟩
        rcases List.mem_cons.1 ha with rfl | ha
        · exact he
        · exact hA a ha
      · refine Or.inr fun a ha => ?_
        rcases List.mem_cons.1 ha with rfl | ha
        · exact he
        · exact h a ha
theorem name_parts (n : Tx) (ts : List En) : (∃ A x B, ts = A ++ x :: B ∧ (∀ a, a ∈ A → a.1 ≠ n) ∧ x.1 = n) ∨ (∀ a, a ∈ ts → a.1 ≠ n) := by
  rcases parts (fun e => decide (e.1 = n)) ts with ⟨A, x, B, h, hA, hx⟩ | h
  · exact Or.inl ⟨A, x, B, h, fun a ha => by simpa using hA a ha, by simpa using hx⟩
  · exact Or.inr fun a ha => by simpa using h a ha
theorem more_parts (n : Tx) (ts : List En) : (∃ A x B, ts = A ++ x :: B ∧ (∀ a, a ∈ A → Op.bytesLess n a.1 = false) ∧ Op.bytesLess n x.1 = true) ∨ (∀ a, a ∈ ts → Op.bytesLess n a.1 = false) :=
  parts (fun e => Op.bytesLess n e.1) ts

/-- the names rise -/
def Srt (ts : List En) : Prop := ts.Pairwise fun a b => Op.bytesLess a.1 b.1 = true
/-- a tree that may be -/
def Ok (ts : List En) : Prop := (∀ e, e ∈ ts → e.1 ≠ []) ∧ Srt ts
/-- the names rise, all above l -/
def right : Tx → List En → Bool
  | _, [] => true
  | l, e :: r => Op.bytesLess l e.1 && right e.1 r

theorem right_iff (l : Tx) (ts : List En) : right l ts = true ↔ (∀ e, e ∈ ts → Op.bytesLess l e.1 = true) ∧ Srt ts := by
  induction ts generalizing l with
  | nil => simp [right, Srt]
  | cons e r ih =>
    rw [right, Bool.and_eq_true, ih]
    constructor
    · rintro ⟨h1, h2, h3⟩
      refine ⟨fun x hx => ?_, List.pairwise_cons.2 ⟨fun x hx => h2 x hx, h3⟩⟩
      rcases List.mem_cons.1 hx with rfl | hx
      · exact h1
      · exact lt_trans h1 (h2 x hx)
    · rintro ⟨h1, h2⟩
      have h := List.pairwise_cons.1 h2
      exact ⟨h1 e (by simp), fun x hx => h.1 x hx, h.2⟩
theorem right_ok (ts : List En) : right [] ts = true ↔ Ok ts := by
  rw [right_iff, Ok]
  constructor
  · rintro ⟨h1, h2⟩
    exact ⟨fun e he e0 => (by have := h1 e he; rw [e0, lt_nil] at this; cases this), h2⟩
  · rintro ⟨h1, h2⟩
    exact ⟨fun e he => nil_lt _ (h1 e he), h2⟩

theorem srt_ne {A B : List En} {x : En} (h : Srt (A ++ x :: B)) : (∀ b, b ∈ B → b.1 ≠ x.1) ∧ (∀ a, a ∈ A → a.1 ≠ x.1) := by
  have h2 := List.pairwise_append.1 h
  exact ⟨fun b hb e => (by have := (List.pairwise_cons.1 h2.2.1).1 b hb; rw [e, lt_irrefl] at this; cases this), fun a ha e => (by have := h2.2.2 a ha x (by simp); rw [e, lt_irrefl] at this; cases this)⟩

theorem cut_sub (n : Tx) (ts : List En) : (cutL n ts).Sublist ts := by
  induction ts with
  | nil => exact List.Sublist.refl _
  | cons e r ih =>
    rw [cutL]; split
    · exact List.sublist_cons_self e r
    · exact ih.cons_cons e
theorem cut_ok {n : Tx} {ts : List En} (h : Ok ts) : Ok (cutL n ts) :=
  ⟨fun e he => h.1 e ((cut_sub n ts).subset he), h.2.sublist (cut_sub n ts)⟩
theorem cut_len (n : Tx) (ts : List En) : (cutL n ts).length ≤ ts.length := (cut_sub n ts).length_le

theorem put_len (n d : Tx) (ts : List En) : (putL n d ts).length ≤ ts.length + 1 := by
  rcases name_parts n ts with ⟨A, x, B, rfl, hA, hx⟩ | h
  · rw [put_hit A x B hA hx]; simp
  · rw [put_miss ts h]
    rcases more_parts n ts with ⟨A, x, B, rfl, hA, hx⟩ | h2
    · rw [ins_hit A x B hA hx]; simp; omega
    · rw [ins_miss ts h2]; simp

theorem put_mem {n d : Tx} {ts : List En} {e : En} (h : e ∈ putL n d ts) : e = (n, d) ∨ e ∈ ts := by
  rcases name_parts n ts with ⟨A, x, B, rfl, hA, hx⟩ | hm
  · rw [put_hit A x B hA hx] at h
    simp at h ⊢
    rcases h with h | h | h
    · exact Or.inr (Or.inl h)
    · exact Or.inl h
    · exact Or.inr (Or.inr (Or.inr h))
  · rw [put_miss ts hm] at h
    rcases more_parts n ts with ⟨A, x, B, rfl, hA, hx⟩ | h2
    · rw [ins_hit A x B hA hx] at h
      simp at h ⊢
      rcases h with h | h | h
      · exact Or.inr (Or.inl h)
      · exact Or.inl h
      · exact Or.inr (Or.inr h)
    · rw [ins_miss ts h2] at h
      simp at h
      exact h.symm

theorem put_ok {n d : Tx} {ts : List En} (hn : n ≠ []) (h : Ok ts) : Ok (putL n d ts) := by
  refine ⟨fun e he => ?_, ?_⟩
  · rcases put_mem he with rfl | he
    · exact hn
    · exact h.1 e he
  · have hs := h.2
    rcases name_parts n ts with ⟨A, x, B, rfl, hA, hx⟩ | hm
    · rw [put_hit A x B hA hx]
      subst hx
      have h2 := List.pairwise_append.1 hs
      have h3 := List.pairwise_cons.1 h2.2.1
      refine List.pairwise_append.2 ⟨h2.1, List.pairwise_cons.2 ⟨fun b hb => h3.1 b hb, h3.2⟩, fun a ha b hb => ?_⟩
      rcases List.mem_cons.1 hb with rfl | hb
      · exact h2.2.2 a ha x (by simp)
      · exact h2.2.2 a ha b (by simp [hb])
    · rw [put_miss ts hm]
      rcases more_parts n ts with ⟨A, x, B, rfl, hA, hx⟩ | h2
      · rw [ins_hit A x B hA hx]
        have h2 := List.pairwise_append.1 hs
        have h3 := List.pairwise_cons.1 h2.2.1
        have hlow : ∀ a, a ∈ A → Op.bytesLess a.1 n = true := fun a ha => by
          rcases lt_total a.1 n with h | h | h
          · exact h
          · exact absurd h (hm a (by simp [ha]))
          · rw [hA a ha] at h; cases h
        refine List.pairwise_append.2 ⟨h2.1, List.pairwise_cons.2 ⟨fun b hb => ?_, h2.2.1⟩, fun a ha b hb => ?_⟩
        · rcases List.mem_cons.1 hb with rfl | hb
          · exact hx
          · exact lt_trans hx (h3.1 b hb)
        · rcases List.mem_cons.1 hb with rfl | hb
          · exact hlow a ha
          · exact h2.2.2 a ha b hb
      · rw [ins_miss ts h2]
        refine List.pairwise_append.2 ⟨hs, List.pairwise_singleton _ _, fun a ha b hb => ?_⟩
        simp at hb; subst hb
        rcases lt_total a.1 n with h | h | h
        · exact h
        · exact absurd h (hm a ha)
        · rw [h2 a ha] at h; cases h

theorem get_app {m : Tx} (A B : List En) (h : ∀ a, a ∈ A → a.1 ≠ m) : getL m (A ++ B) = getL m B := by
  induction A with
  | nil => rfl
  | cons a A ih => simp [getL, h a (by simp), ih (fun b hb => h b (by simp [hb]))]
/-- an entry of another name changes nothing -/
theorem get_skip {m : Tx} (A B : List En) (x : En) (h : x.1 ≠ m) : getL m (A ++ x :: B) = getL m (A ++ B) := by
  induction A with
  | nil => simp [getL, h]
  | cons a A ih => simp only [List.cons_append, getL, ih]

theorem get_put (n d : Tx) (ts : List En) : getL n (putL n d ts) = some d := by
  rcases name_parts n ts with ⟨A, x, B, rfl, hA, hx⟩ | hm
  · rw [put_hit A x B hA hx]; exact get_hit A (n, d) B hA rfl
  · rw [put_miss ts hm]
    rcases more_parts n ts with ⟨A, x, B, rfl, hA, hx⟩ | h2
    · rw [ins_hit A x B hA hx]; exact get_hit A (n, d) (x :: B) (fun a ha => hm a (by simp [ha])) rfl
    · rw [ins_miss ts h2]; exact get_hit ts (n, d) [] hm rfl
theorem get_put_ne {m n : Tx} (d : Tx) (ts : List En) (h : m ≠ n) : getL m (putL n d ts) = getL m ts := by
  rcases name_parts n ts with ⟨A, x, B, rfl, hA, hx⟩ | hm
  · rw [put_hit A x B hA hx, get_skip A B (n, d) (fun e => h e.symm), get_skip A B x (by rw [hx]; exact fun e => h e.symm)]
  · rw [put_miss ts hm]
    rcases more_parts n ts with ⟨A, x, B, rfl, hA, hx⟩ | h2
    · rw [ins_hit A x B hA hx, get_skip A (x :: B) (n, d) (fun e => h e.symm)]
    · rw [ins_miss ts h2, get_skip ts [] (n, d) (fun e => h e.symm), List.append_nil]
theorem get_cut_ne {m n : Tx} (ts : List En) (h : m ≠ n) : getL m (cutL n ts) = getL m ts := by
  rcases name_parts n ts with ⟨A, x, B, rfl, hA, hx⟩ | hm
  · rw [cut_hit A x B hA hx, get_skip A B x (by rw [hx]; exact fun e => h e.symm)]
  · rw [cut_miss ts hm]
theorem cut_none {n : Tx} {ts : List En} (h : Srt ts) : ∀ a, a ∈ cutL n ts → a.1 ≠ n := by
  rcases name_parts n ts with ⟨A, x, B, rfl, hA, hx⟩ | hm
  · rw [cut_hit A x B hA hx]
    intro a ha
    rcases List.mem_append.1 ha with ha | ha
    · exact hA a ha
    · rw [← hx]; exact (srt_ne h).1 a ha
  · rw [cut_miss ts hm]; exact hm
theorem get_cut {n : Tx} {ts : List En} (h : Srt ts) : getL n (cutL n ts) = none := get_miss _ (cut_none h)
theorem cut_put (n d : Tx) (ts : List En) : cutL n (putL n d ts) = cutL n ts := by
  rcases name_parts n ts with ⟨A, x, B, rfl, hA, hx⟩ | hm
  · rw [put_hit A x B hA hx, cut_hit A (n, d) B hA rfl, cut_hit A x B hA hx]
  · rw [put_miss ts hm, cut_miss ts hm]
    rcases more_parts n ts with ⟨A, x, B, rfl, hA, hx⟩ | h2
    · rw [ins_hit A x B hA hx]; exact cut_hit A (n, d) (x :: B) (fun a ha => hm a (by simp [ha])) rfl
    · rw [ins_miss ts h2]; rw [cut_hit ts (n, d) [] hm rfl]; simp

/-- the entries whose mark is set -/
def sel : List Bool → List En → List En
  | true :: hs, e :: ts => e :: sel hs ts
  | false :: hs, _ :: ts => sel hs ts
  | _, _ => []
theorem sel_mem {hs : List Bool} {ts : List En} {e : En} (h : e ∈ sel hs ts) : e ∈ ts := by
  induction ts generalizing hs with
  | nil => cases hs with
    | nil => exact h
    | cons b hs => cases b <;> exact h
  | cons x ts ih =>
    cases hs with
    | nil => cases h
    | cons b hs =>
      cases b with
      | false => exact List.mem_cons_of_mem _ (ih h)
      | true =>
        rcases List.mem_cons.1 h with rfl | h
        · exact List.mem_cons_self
        · exact List.mem_cons_of_mem _ (ih h)
theorem sel_none (n : Nat) (ts : List En) : sel (List.replicate n false) ts = [] := by
  induction n generalizing ts with
  | zero => cases ts <;> rfl
  | succ n ih => cases ts with
    | nil => rfl
    | cons e ts => exact ih ts
theorem sel_all (hs : List Bool) (ts : List En) (hl : hs.length = ts.length) (h : ∀ b, b ∈ hs → b = true) : sel hs ts = ts := by
  induction ts generalizing hs with
  | nil => cases hs with
    | nil => rfl
    | cons => simp at hl
  | cons e ts ih =>
    cases hs with
    | nil => simp at hl
    | cons b hs =>
      have : b = true := h b (by simp)
      subst this
      rw [sel, ih hs (by simpa using hl) (fun b hb => h b (by simp [hb]))]
theorem sel_put (ts : List En) : ∀ (hs : List Bool) (k : Nat) (n d : Tx), Srt ts → hs.length = ts.length → hs[k]? = some false → ts[k]? = some (n, d) →
    (∀ a, a ∈ sel hs ts → a.1 ≠ n) ∧ insL n d (sel hs ts) = sel (hs.set k true) ts := by
  induction ts with
  | nil => intro hs k n d _ _ _ h; simp at h
  | cons e ts ih =>
    intro hs k n d hs0 hl hk ht
    have hp := List.pairwise_cons.1 hs0
    cases hs with
    | nil => simp at hl
    | cons b hs =>
      cases k with
      | zero =>
        simp at hk ht
        subst hk ht
        have hlow : ∀ a, a ∈ sel hs ts → Op.bytesLess n a.1 = true := fun a ha => hp.1 a (sel_mem ha)
        refine ⟨fun a ha => fun e => ?_, ?_⟩
        · have := hlow a ha; rw [e, lt_irrefl] at this; cases this
        · show insL n d (sel hs ts) = (n, d) :: sel hs ts
          cases hq : sel hs ts with
          | nil => rfl
          | cons y r => rw [insL, if_pos (hlow y (by rw [hq]; simp))]
      | succ k =>
        have hk' : hs[k]? = some false := by simpa using hk
        have ht' : ts[k]? = some (n, d) := by simpa using ht
        have hi := ih hs k n d hp.2 (by simpa using hl) hk' ht'
        have hlt : Op.bytesLess e.1 n = true := hp.1 (n, d) (List.mem_of_getElem? ht')
        cases b with
        | false => exact hi
        | true =>
          refine ⟨fun a ha => ?_, ?_⟩
          · rcases List.mem_cons.1 ha with rfl | ha
            · exact lt_ne hlt
            · exact hi.1 a ha
          · show insL n d (e :: sel hs ts) = e :: sel (hs.set k true) ts
            rw [insL, if_neg (by rw [lt_asymm hlt]; simp), hi.2]
theorem sel_step {ts : List En} {hs : List Bool} {k : Nat} {n d : Tx} (h : Srt ts) (hl : hs.length = ts.length) (hk : hs[k]? = some false) (ht : ts[k]? = some (n, d)) : putL n d (sel hs ts) = sel (hs.set k true) ts := by
  have := sel_put ts hs k n d h hl hk ht
  rw [put_miss _ this.1, this.2]

theorem count_set (hs : List Bool) : ∀ k, hs[k]? = some false → (hs.set k true).count true = hs.count true + 1 := by
  induction hs with
  | nil => intro k h; simp at h
  | cons b hs ih =>
    intro k h
    cases k with
    | zero => simp at h; subst h; simp
    | succ k => have := ih k (by simpa using h); cases b <;> simp [this]
theorem free_one (hs : List Bool) (h : hs.count true < hs.length) : ∃ f : Nat, hs[f]? = some false := by
  induction hs with
  | nil => simp at h
  | cons b hs ih =>
    cases b with
    | false => exact ⟨0, rfl⟩
    | true => obtain ⟨f, hf⟩ := ih (by simpa using h); exact ⟨f + 1, by simpa using hf⟩
theorem all_set (hs : List Bool) (h : hs.count true = hs.length) : ∀ b, b ∈ hs → b = true := by
  induction hs with
  | nil => intro b hb; cases hb
  | cons b hs ih =>
    have hle : hs.count true ≤ hs.length := List.count_le_length
    cases b with
    | false => simp at h; omega
    | true =>
      intro c hc
      rcases List.mem_cons.1 hc with rfl | hc
      · rfl
      · exact ih (by simpa using h) c hc

/-- the last place of a text among the first k, or 0 -/
def lastOf (l : List Tx) (m : Tx) : Nat → Nat
  | 0 => 0
  | k + 1 => if l[k]? = some m then k else lastOf l m k
theorem last_le (l : List Tx) (m : Tx) (k : Nat) : lastOf l m k ≤ k := by
  induction k with
  | zero => exact Nat.le_refl _
  | succ k ih => rw [lastOf]; split <;> omega

/-- what was put in last is found -/
def Puts (l : List Tx) (k : Nat) (ts : List En) : Prop :=
  Ok ts ∧ (∀ e, e ∈ ts → e.1 ∈ l) ∧ ts.length ≤ k ∧ ∀ m, (∃ j : Nat, j < k ∧ l[j]? = some m) → getL m ts = some [UInt8.ofNat (lastOf l m k)]
theorem puts_zero (l : List Tx) : Puts l 0 [] := ⟨⟨(fun e he => by cases he), List.Pairwise.nil⟩, (fun e he => by cases he), by simp, fun m ⟨j, hj, _⟩ => by omega⟩
theorem puts_step {l : List Tx} {k : Nat} {ts : List En} {n : Tx} (h : Puts l k ts) (hn : l[k]? = some n) (h0 : n ≠ []) : Puts l (k + 1) (putL n [UInt8.ofNat k] ts) := by
  obtain ⟨h1, h2, h3, h4⟩ := h
  refine ⟨put_ok h0 h1, fun e he => ?_, ?_, fun m hm => ?_⟩
  · rcases put_mem he with rfl | he
    · exact List.mem_of_getElem? hn
    · exact h2 e he
  · have := put_len n [UInt8.ofNat k] ts; omega
  · by_cases hmn : m = n
    · subst hmn
      rw [get_put, lastOf, if_pos hn]
    · rw [get_put_ne _ _ hmn, lastOf, if_neg (by rw [hn]; intro e; exact hmn (Option.some.inj e).symm)]
      obtain ⟨j, hj, hjm⟩ := hm
      refine h4 m ⟨j, ?_, hjm⟩
      by_cases hjk : j = k
      · subst hjk; rw [hn] at hjm; exact absurd (Option.some.inj hjm).symm hmn
      · omega

/-- what is left when the names from c on, round about, were cut k times -/
def Cuts (l : List Tx) (c k : Nat) (ts : List En) : Prop :=
  Srt ts ∧ (∀ e, e ∈ ts → e.1 ∈ l) ∧ ts.length ≤ l.length ∧ ∀ e, e ∈ ts → ∀ j : Nat, j < k → l[(j + c) % l.length]? ≠ some e.1
theorem cuts_step {l : List Tx} {c k : Nat} {ts : List En} {n : Tx} (h : Cuts l c k ts) (hn : l[(k + c) % l.length]? = some n) : Cuts l c (k + 1) (cutL n ts) := by
  obtain ⟨h1, h2, h3, h4⟩ := h
  refine ⟨h1.sublist (cut_sub n ts), fun e he => h2 e ((cut_sub n ts).subset he), Nat.le_trans (cut_len n ts) h3, fun e he j hj => ?_⟩
  by_cases hjk : j = k
  · subst hjk
    rw [hn]
    intro e2
    exact cut_none h1 e he (Option.some.inj e2).symm
  · exact h4 e ((cut_sub n ts).subset he) j (by omega)
theorem cuts_end {l : List Tx} {c : Nat} {ts : List En} (h : Cuts l c l.length ts) : ts = [] := by
  obtain ⟨h1, h2, h3, h4⟩ := h
  cases ts with
  | nil => rfl
  | cons e r =>
    exfalso
    obtain ⟨m, hm, he⟩ := List.mem_iff_getElem.1 (h2 e (by simp))
    have hpos : 0 < l.length := by omega
    have hc : c % l.length < l.length := Nat.mod_lt _ hpos
    by_cases hcm : c % l.length ≤ m
    · refine h4 e (by simp) (m - c % l.length) (by omega) ?_
      have : (m - c % l.length + c) % l.length = m := by
        rw [Nat.add_mod, Nat.mod_eq_of_lt (show m - c % l.length < l.length by omega), show m - c % l.length + c % l.length = m by omega, Nat.mod_eq_of_lt hm]
      rw [this, List.getElem?_eq_getElem hm, he]
    · refine h4 e (by simp) (m + l.length - c % l.length) (by omega) ?_
      have : (m + l.length - c % l.length + c) % l.length = m := by
        rw [Nat.add_mod, Nat.mod_eq_of_lt (show m + l.length - c % l.length < l.length by omega), show m + l.length - c % l.length + c % l.length = m + l.length by omega, Nat.add_mod_right, Nat.mod_eq_of_lt hm]
      rw [this, List.getElem?_eq_getElem hm, he]

end Go.Proofs.Ytehhpjgbffcocaa.Tr
