
/-
  What the program's apply.Do answers where the steps can be done, and where they can't; conditions: the lists' and texts' lengths.
-/
import Derived.Test.YtophhgbkcdeidaaADo
namespace Go.Proofs.Ytophhgbkcdeidaa
open Go.RowKit Go.Proofs.Ytophhgbkcdeidaa.Ln Go.Proofs.Ytophhgbkcdeidaa.Ol

theorem do_none (v : Value) (xs : List Oq) (u : Value) (old : List Tx) (w : World) (hX : OpsAt w v xs) (hY : RowAt w u old) (hl : xs.length + old.length ≤ 4398046511104) (hf : Fit xs) (hfo : FitT old) (hr : doo xs old = none) :
    Calls Try.prog 12 #[v, u] w fun e w' => (∃ a c, e = .returned (.tuple #[.slice a 0 c, .bool false])) ∧ Below w.heap.size w w' := by
  refine (do_any v xs u old w hX hY hl hf hfo).mono ?_
  rintro e w' ⟨q, rfl, ho, hb⟩
  rw [hr] at ho ⊢
  obtain ⟨a, c, rfl, _⟩ := owns_formT ho
  exact ⟨⟨a, c, rfl⟩, hb⟩
theorem do_some (v : Value) (xs : List Oq) (u : Value) (old r : List Tx) (w : World) (hX : OpsAt w v xs) (hY : RowAt w u old) (hl : xs.length + old.length ≤ 4398046511104) (hf : Fit xs) (hfo : FitT old) (hr : doo xs old = some r) :
    Calls Try.prog 12 #[v, u] w fun e w' => (∃ a c, e = .returned (.tuple #[.slice a r.length c, .bool true]) ∧ RowAt w' (.slice a r.length c) r) ∧ Below w.heap.size w w' := by
  refine (do_any v xs u old w hX hY hl hf hfo).mono ?_
  rintro e w' ⟨q, rfl, ho, hb⟩
  rw [hr] at ho ⊢
  obtain ⟨a, c, rfl, _⟩ := owns_formT ho
  exact ⟨⟨a, c, rfl, RowAt.of_owns ho⟩, hb⟩

end Go.Proofs.Ytophhgbkcdeidaa
