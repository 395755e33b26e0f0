
/-
  How lists of steps that are handed in lie in memory, how many they are and how long their texts are at most; no condition but those that each states.
-/
import Derived.Test.YtcdjemheokmglabRows
import Derived.Test.YtcdjemheokmglabOTop
import Derived.ProofKit
import Derived.OpenShut
import Derived.ChangeSlices
import Derived.ChangeSame
import Derived.SliceStrings
import Derived.SizedLaws
import Derived.Deep.Strs
namespace Go.Proofs.Ytcdjemheokmglab
open Go.ChangeShapes Go.WideShapes Go.ChangeAt Go.RowKit Go.Deep Go.Proofs.Ytcdjemheokmglab.Ol

theorem weightsAll_mem {H : Type} {P : Program} {e : TypeId} : ∀ {l : List (DataW H)} {d : DataW H}, d ∈ l → ∀ n ∈ d.weights P e, n ∈ DataW.weightsAll P e l
  | x :: l, d, hd, n, hn => by
    simp only [DataW.weightsAll, List.mem_append]
    rcases List.mem_cons.1 hd with rfl | hd
    · exact Or.inl hn
    · exact Or.inr (weightsAll_mem hd n hn)

theorem list_of {α : Type} (n : Nat) (P : Nat → α → Prop) (h : ∀ i, i < n → ∃ r, P i r) : ∃ xs : List α, xs.length = n ∧ ∀ (i : Nat) r, xs[i]? = some r → P i r := by
  induction n with
  | zero => exact ⟨[], rfl, fun i r hr => by simp at hr⟩
  | succ n ih =>
    obtain ⟨xs, hl, hx⟩ := ih fun i hi => h i (by omega)
    obtain ⟨r, hr⟩ := h n (by omega)
    refine ⟨xs ++ [r], by simp [hl], fun i u hu => ?_⟩
    by_cases hi : i < n
    · rw [List.getElem?_append_left (by omega)] at hu
      exact hx i u hu
    · rw [List.getElem?_append_right (by omega)] at hu
      have : i - xs.length = 0 := by
        by_cases h0 : i - xs.length = 0
        · exact h0
        · rw [List.getElem?_eq_none (by simp; omega)] at hu; cases hu
      rw [this] at hu
      simp at hu
      have hin : i = n := by omega
      subst hin hu
      exact hr

theorem open_ops {H : Type} {enc : TypeId × Value → H} {W : World} {a0 : Option Addr} {len0 cap0 : Nat} {d : DataW H} {p : List MemPlace}
    (h0 : DataW.Trod enc Try.prog W 0 (fun _ => true) true 22 (.slice a0 len0 cap0) d p) (hw : ∀ n, n ∈ d.weights Try.prog 22 → n ≤ reachBytes) :
    ∃ xs : List Oq, OpsAt W (.slice a0 len0 cap0) xs ∧ xs.length ≤ 4398046511104 ∧ Fit xs := by
  obtain ⟨fuel, hf⟩ := h0
  rcases DataW.trod_slice Try.underlying22 hf with ⟨hcs, _⟩ | ⟨x, l, c, elems, rest, n, _, hcs, hdx, hb, hl, hm, hlen, hel, _, _⟩
  · simp [Value.cells] at hcs
    obtain ⟨rfl, rfl, rfl⟩ := hcs
    exact ⟨[], OpsAt.nil _ _ _, Nat.zero_le _, fun e he => by cases he⟩
  · simp [Value.cells] at hcs
    obtain ⟨rfl, rfl, rfl⟩ := hcs
    have hd : d = .slice (elems.map (·.1)) (rest.map (·.1)) := (Prod.mk.inj hdx).1
    subst hd
    have cO : Try.prog.cellsOf 30 = 3 := by kernel_rfl
    have bO : Try.prog.bytesOf 30 = 32 := by kernel_rfl
    have c9 : Try.prog.cellsOf 9 = 1 := by kernel_rfl
    have c3 : Try.prog.cellsOf 3 = 1 := by kernel_rfl
    rw [cO] at hel
    have hlw : len0 ≤ 4398046511104 := by
      have h := hw ((elems.length + rest.length) * 32) (by
        simp only [DataW.weights, Try.underlying22, List.mem_cons, List.length_map, bO]
        exact Or.inl trivial)
      unfold reachBytes at h
      omega
    have hex : ∀ i, i < len0 → ∃ r : Oq, W.cell? (x.add (i * 3)) = some (Z r.1) ∧ W.cell? ((x.add (i * 3)).add 1) = some (Z r.2.1) ∧ W.cell? ((x.add (i * 3)).add 2) = some (S r.2.2) ∧ r.2.2.length ≤ 140737488355328 := by
      intro i hi
      have h := hel i hi
      rw [List.getElem?_eq_getElem (by omega)] at h
      obtain ⟨cs, hcs, ht⟩ := Option.bind_eq_some_iff.1 h
      obtain ⟨_, hcl, hcc⟩ := World.cells?_some hcs
      obtain ⟨y0, y1, y2, m, hy, _, h0, h1, h2⟩ := trod_struct3 Try.underlying30 ht
      rw [c3] at h0 h1
      rw [c9] at h2
      obtain ⟨f0, e0, g0, _⟩ := DataW.trod_int Try.underlying3 h0
      obtain ⟨f1, e1, g1, _⟩ := DataW.trod_int Try.underlying3 h1
      obtain ⟨t, e2, g2, _⟩ := DataW.trod_string Try.underlying9 h2
      have hmem : (elems[i]'(by omega)).1 ∈ elems.map (·.1) := List.mem_map.2 ⟨_, List.getElem_mem _, rfl⟩
      have hwt : ∀ n, n ∈ (elems[i]'(by omega)).1.weights Try.prog 30 → n ≤ reachBytes := fun n hn => hw n (by
        simp only [DataW.weights, Try.underlying22, List.mem_cons, List.mem_append]
        exact Or.inr (Or.inl (weightsAll_mem hmem n hn)))
      rw [hy, g2] at hwt
      have hf2 : t.data.toList.length ≤ reachBytes := hwt _ (by simp [DataW.weights, DataW.weightsEach, Try.underlying30])
      match cs, hcl, e0, e1, e2, hcc with
      | [u0, u1, u2], _, e0, e1, e2, hcc =>
        simp at e0 e1 e2
        have d0 := hcc 0 (by omega)
        have d1 := hcc 1 (by omega)
        have d2 := hcc 2 (by omega)
        refine ⟨(f0, f1, t.data.toList), ?_, ?_, ?_, by unfold reachBytes at hf2; show t.data.toList.length ≤ _; omega⟩
        · have : (x.add (i * 3)).add 0 = x.add (i * 3) := by simp [Addr.add]
          rw [this] at d0
          rw [d0]; simpa using e0
        · rw [d1]; simpa using e1
        · rw [d2, S_data]; simpa using e2
    obtain ⟨xs, hxl, hxs⟩ := list_of len0 _ hex
    refine ⟨xs, ?_, by omega, fun e he => ?_⟩
    · by_cases hpos : len0 = 0
      · subst hpos
        exact Or.inl ⟨List.eq_nil_of_length_eq_zero hxl, _, _, rfl, fun h => by cases h⟩
      · obtain ⟨b, off, spot⟩ := x
        obtain ⟨r0, hr0⟩ : ∃ r, xs[0]? = some r := ⟨xs[0]'(by omega), List.getElem?_eq_getElem _⟩
        have hc := (hxs 0 r0 hr0).1
        have hspot : spot = none := by simpa [Addr.add] using World.cell?_spot hc
        subst hspot
        refine Or.inr ⟨b, off, cap0, by rw [hxl], by omega, ?_, ?_⟩
        · have := World.block_lt_of_cell? W _ hc
          simpa [addr_add] using this
        · intro j r hr
          have h := hxs j r hr
          rw [addr_add, addr_add, addr_add] at h
          exact ⟨h.1, h.2.1, h.2.2.1⟩
    · obtain ⟨j, hj, rfl⟩ := List.mem_iff_getElem.1 he
      exact (hxs j _ (List.getElem?_eq_getElem hj)).2.2.2

end Go.Proofs.Ytcdjemheokmglab
