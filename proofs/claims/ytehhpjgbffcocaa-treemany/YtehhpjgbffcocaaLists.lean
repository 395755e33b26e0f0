/-
  Lists of ints, of texts and of marks in memory, what is left of a number and 1023, and how far it is, round about, to a place; no condition but those that each theorem states.
-/
import Derived.Test.YtehhpjgbffcocaaAlive
namespace Go.Proofs.Ytehhpjgbffcocaa
open Go.RowKit Go.Proofs.Ytehhpjgbffcocaa.Tr

/-- a list of ints lies in memory -/
def IntsAt (w : World) (v : Value) (xs : List Int) : Prop :=
  (xs = [] ∧ ∃ ao cap, v = .slice ao 0 cap) ∨ ∃ b o cap, v = .slice (some ⟨b, o, none⟩) xs.length cap ∧ xs.length ≤ cap ∧ b < w.heap.size ∧ ∀ (j : Nat) x, xs[j]? = some x → w.cell? ⟨b, o + j, none⟩ = some (.int .i64 x)
theorem IntsAt.shape {w : World} {v : Value} {xs : List Int} (h : IntsAt w v xs) : ∃ ao cap, v = .slice ao xs.length cap := by
  rcases h with ⟨rfl, ao, cap, rfl⟩ | ⟨b, o, cap, rfl, _⟩
  · exact ⟨ao, cap, rfl⟩
  · exact ⟨_, cap, rfl⟩
theorem IntsAt.cells {w : World} {v : Value} {xs : List Int} (h : IntsAt w v xs) (hne : xs ≠ []) : ∃ b o cap, v = .slice (some ⟨b, o, none⟩) xs.length cap ∧ xs.length ≤ cap ∧ b < w.heap.size ∧ ∀ (j : Nat) x, xs[j]? = some x → w.cell? ⟨b, o + j, none⟩ = some (.int .i64 x) := by
  rcases h with ⟨rfl, _⟩ | h
  · exact absurd rfl hne
  · exact h

/-- a list of texts lies in memory -/
def TextsAt (w : World) (v : Value) (xs : List Tx) : Prop :=
  (xs = [] ∧ ∃ ao cap, v = .slice ao 0 cap) ∨ ∃ b o cap, v = .slice (some ⟨b, o, none⟩) xs.length cap ∧ xs.length ≤ cap ∧ b < w.heap.size ∧ ∀ (j : Nat) x, xs[j]? = some x → w.cell? ⟨b, o + j, none⟩ = some (S x)
theorem TextsAt.shape {w : World} {v : Value} {xs : List Tx} (h : TextsAt w v xs) : ∃ ao cap, v = .slice ao xs.length cap := by
  rcases h with ⟨rfl, ao, cap, rfl⟩ | ⟨b, o, cap, rfl, _⟩
  · exact ⟨ao, cap, rfl⟩
  · exact ⟨_, cap, rfl⟩
theorem TextsAt.cells {w : World} {v : Value} {xs : List Tx} (h : TextsAt w v xs) (hne : xs ≠ []) : ∃ b o cap, v = .slice (some ⟨b, o, none⟩) xs.length cap ∧ xs.length ≤ cap ∧ b < w.heap.size ∧ ∀ (j : Nat) x, xs[j]? = some x → w.cell? ⟨b, o + j, none⟩ = some (S x) := by
  rcases h with ⟨rfl, _⟩ | h
  · exact absurd rfl hne
  · exact h

/-- what is left of a number and 1023 -/
theorem and_is (z : Int) : ∃ q : Nat, q ≤ 1023 ∧ bits BinOp.and IntKind.i64 z 1023 = (q : Int) := by
  refine ⟨(BitVec.ofInt 64 z).toNat % 1024, by omega, ?_⟩
  show IntKind.i64.wrap ((BitVec.ofInt 64 z &&& BitVec.ofInt 64 1023 : BitVec 64).toNat : Int) = _
  rw [BitVec.toNat_and, show (BitVec.ofInt 64 1023).toNat = 2 ^ 10 - 1 by decide, Nat.and_two_pow_sub_one_eq_mod, IntKind.wrap_i64]
  omega

/-- how far it is from k to f among n, round about -/
def dist (f n k : Nat) : Nat := if k ≤ f then f - k else f + n - k
theorem dist_step {f n k : Nat} (hf : f < n) (hk : k < n) (hne : k ≠ f) : dist f n ((k + 1) % n) < dist f n k := by
  by_cases h : k + 1 = n
  · rw [h, Nat.mod_self]; unfold dist; split <;> split <;> omega
  · rw [Nat.mod_eq_of_lt (by omega)]; unfold dist; split <;> split <;> omega

/-- the marks lie in memory -/
def HadAt (W : World) (B g n : Nat) (hs : List Bool) : Prop := W.ownsRow B 4 1 (.slice (some ⟨g, 0, none⟩) n n) n (hs.map Value.bool)
theorem HadAt.len {W : World} {B g n : Nat} {hs : List Bool} (h : HadAt W B g n hs) : hs.length = n := by
  have := h.1; rw [List.length_map] at this; omega
theorem HadAt.cell {W : World} {B g n : Nat} {hs : List Bool} (h : HadAt W B g n hs) {j : Nat} {b : Bool} (hj : hs[j]? = some b) : W.cell? ⟨g, j, none⟩ = some (.bool b) := by
  have := h.cells (g := g) rfl j (.bool b) (by rw [List.getElem?_map, hj]; rfl)
  rw [addr_add, Nat.zero_add] at this
  exact this
theorem HadAt.no_text {W : World} {B g n : Nat} {hs : List Bool} (h : HadAt W B g n hs) {j : Nat} {x : Tx} (hc : W.cell? ⟨g, j, none⟩ = some (S x)) : False := by
  rcases h.2 with ⟨h1, _⟩ | ⟨g', cap, cur, hv, hB, hg, hcap, hm, hs', ht⟩
  · cases h1
  · cases hv
    rw [cell_of_row W g j cur 4 (0, 0) hg] at hc
    have hj : j < cur.size := (Array.getElem?_eq_some_iff.1 hc).1
    rw [Nat.mul_one] at ht hs'
    have e : cur.toList = hs.map Value.bool := by rw [← ht, List.take_of_length_le (by rw [Array.length_toList]; omega)]
    rw [← Array.getElem?_toList, e, List.getElem?_map] at hc
    cases hh : hs[j]? with
    | none => rw [hh] at hc; cases hc
    | some b => rw [hh] at hc; cases hc
theorem HadAt.far {W W' : World} {B g n : Nat} {hs : List Bool} (h : HadAt W B g n hs) {v : Value} {xs : List En} (ht : TreeAt W v xs) (hg : W.grownBy W' (some g)) : TreeAt W' v xs := by
  by_cases hne : xs = []
  · subst hne
    rcases ht with ht | ⟨b, o, cap, rfl, _⟩
    · exact Or.inl ht
    · exact TreeAt.nil _ _ _
  · obtain ⟨b, o, cap, rfl, hcap, hb, hc⟩ := ht.cells hne
    have hbg : b ≠ g := fun e => by
      subst e
      cases xs with
      | nil => exact hne rfl
      | cons y r => exact h.no_text (hc 0 y rfl).1
    refine Or.inr ⟨b, o, cap, rfl, hcap, Nat.lt_of_lt_of_le hb hg.size, fun j e he => ?_⟩
    have hne2 : some b ≠ some g := fun e => hbg (Option.some.inj e)
    rw [hg.cell_far ⟨b, o + j * 2, none⟩ hb hne2, hg.cell_far ⟨b, o + j * 2 + 1, none⟩ hb hne2]
    exact hc j e he
theorem HadAt.set {W : World} {B g n : Nat} {hs : List Bool} (h : HadAt W B g n hs) (k : Nat) : HadAt (W.setCell ⟨g, k, none⟩ (.bool true)) B g n (hs.set k true) ∧ W.grownBy (W.setCell ⟨g, k, none⟩ (.bool true)) (some g) := by
  have := h.stored k (.bool true)
  exact ⟨by unfold HadAt; rw [List.map_set]; exact this.1, this.2⟩
theorem HadAt.later {W W' : World} {B g n : Nat} {hs : List Bool} (h : HadAt W B g n hs) (hb : Below W.heap.size W W') : HadAt W' B g n hs := owns_later h hb

theorem put_kept {W X : World} {v : Value} {xs : List En} (n d : Tx) (hX : Below W.heap.size W X) (hr : TreeAt W v xs) (hl : xs.length ≤ 1000000) (hf : Fit xs) (hn : n.length ≤ 281474976710656) (hd : d.length ≤ 281474976710656) :
    Calls Try.prog 13 #[v, .string ⟨n.toArray⟩, .string ⟨d.toArray⟩] X fun e w' => (∃ v', e = .returned v' ∧ TreeAt w' v' (putL n d xs)) ∧ Below W.heap.size W w' :=
  (put_any v xs n d X (hr.later hX) hl hf hn hd).mono fun _ _ ⟨h, hb⟩ => ⟨h, hX.trans (hb.mono hX.size)⟩
theorem keepS {W X : World} {b p1 p2 : Nat} {u1 u2 : Value} (hlt : b < W.heap.size) (h1 : W.cell? ⟨b, p1, none⟩ = some u1) (h2 : W.cell? ⟨b, p2, none⟩ = some u2) (hX : Below W.heap.size W X) : X.cell? ⟨b, p1, none⟩ = some u1 ∧ X.cell? ⟨b, p2, none⟩ = some u2 :=
  ⟨(hX.cell (p := ⟨b, p1, none⟩) hlt).trans h1, (hX.cell (p := ⟨b, p2, none⟩) hlt).trans h2⟩

end Go.Proofs.Ytehhpjgbffcocaa
