
/-
  How lists of steps and of texts that are handed in lie in memory, and that they are no more than the bulk of what is handed in; no condition but those that each states.
-/
import Derived.Test.YtmbalnjobcgpkaaOArg
import Derived.Test.YtmbalnjobcgpkaaORow
namespace Go.Proofs.Ytmbalnjobcgpkaa
open Go.ChangeShapes Go.WideShapes Go.ChangeAt Go.RowKit Go.Deep Go.Proofs.Ytmbalnjobcgpkaa.Ln Go.Proofs.Ytmbalnjobcgpkaa.Ol

theorem bulk_pos {H : Type} (d : DataW H) : 1 ≤ Rows.uptoBulk d := by
  cases d with
  | lit l => cases l <;> simp [Rows.uptoBulk]
  | nil => simp [Rows.uptoBulk]
  | ptr d => simp [Rows.uptoBulk]
  | slice a b => simp [Rows.uptoBulk]
  | agg a => simp [Rows.uptoBulk]
  | iface t d => simp [Rows.uptoBulk]
  | map e => simp [Rows.uptoBulk]
  | held h => simp [Rows.uptoBulk]
theorem bulk_len {H : Type} (l : List (DataW H)) : l.length ≤ Rows.uptoBulkAll l := by
  induction l with
  | nil => exact Nat.zero_le _
  | cons d l ih =>
    have h1 := bulk_pos d
    have h2 : Rows.uptoBulkAll (d :: l) = Rows.uptoBulk d + Rows.uptoBulkAll l := rfl
    rw [h2, List.length_cons]; omega
theorem bulk_mem {H : Type} (l : List (DataW H)) : ∀ d ∈ l, Rows.uptoBulk d ≤ Rows.uptoBulkAll l := by
  induction l with
  | nil => intro d hd; cases hd
  | cons x l ih =>
    intro d hd
    have h2 : Rows.uptoBulkAll (x :: l) = Rows.uptoBulk x + Rows.uptoBulkAll l := rfl
    rw [h2]
    rcases List.mem_cons.1 hd with rfl | hd
    · omega
    · have := ih d hd; omega

theorem open_opsU {H : Type} {enc : TypeId × Value → H} {W : World} {a0 : Option Addr} {len0 cap0 : Nat} {d : DataW H} {p : List MemPlace}
    (h0 : DataW.Trod enc Try.prog W 0 (fun _ => true) true 22 (.slice a0 len0 cap0) d p) :
    ∃ xs : List Oq, OpsAt W (.slice a0 len0 cap0) xs ∧ xs.length ≤ Rows.uptoBulk d ∧ ∀ x ∈ xs, x.2.2.length ≤ Rows.uptoBulk d := by
  obtain ⟨fuel, hf⟩ := h0
  rcases DataW.trod_slice Try.underlying22 hf with ⟨hcs, _⟩ | ⟨x, l, c, elems, rest, n, _, hcs, hdx, hb, hl, hm, hlen, hel, _, _⟩
  · simp [Value.cells] at hcs
    obtain ⟨rfl, rfl, rfl⟩ := hcs
    exact ⟨[], OpsAt.nil _ _ _, Nat.zero_le _, fun e he => by cases he⟩
  · simp [Value.cells] at hcs
    obtain ⟨rfl, rfl, rfl⟩ := hcs
    have hd : d = .slice (elems.map (·.1)) (rest.map (·.1)) := (Prod.mk.inj hdx).1
    subst hd
    have e2 : Rows.uptoBulk (DataW.slice (elems.map (·.1)) (rest.map (·.1))) = Rows.uptoBulkAll (elems.map (·.1)) + Rows.uptoBulkAll (rest.map (·.1)) + 1 := rfl
    rw [e2]
    have cO : Try.prog.cellsOf 37 = 3 := by kernel_rfl
    have c9 : Try.prog.cellsOf 9 = 1 := by kernel_rfl
    have c3 : Try.prog.cellsOf 3 = 1 := by kernel_rfl
    rw [cO] at hel
    have hlw : len0 ≤ Rows.uptoBulkAll (elems.map (·.1)) := by
      have h := bulk_len (elems.map (·.1))
      rw [List.length_map] at h
      omega
    have hex : ∀ i, i < len0 → ∃ r : Oq, W.cell? (x.add (i * 3)) = some (Z r.1) ∧ W.cell? ((x.add (i * 3)).add 1) = some (Z r.2.1) ∧ W.cell? ((x.add (i * 3)).add 2) = some (S r.2.2) ∧ r.2.2.length ≤ Rows.uptoBulkAll (elems.map (·.1)) := by
      intro i hi
      have h := hel i hi
      rw [List.getElem?_eq_getElem (by omega)] at h
      obtain ⟨cs, hcs, ht⟩ := Option.bind_eq_some_iff.1 h
      obtain ⟨_, hcl, hcc⟩ := World.cells?_some hcs
      obtain ⟨y0, y1, y2, m, hy, _, h0, h1, h2⟩ := trod_struct3 Try.underlying37 ht
      rw [c3] at h0 h1
      rw [c9] at h2
      obtain ⟨f0, e0, g0, _⟩ := DataW.trod_int Try.underlying3 h0
      obtain ⟨f1, e1, g1, _⟩ := DataW.trod_int Try.underlying3 h1
      obtain ⟨t, e2, g2, _⟩ := DataW.trod_string Try.underlying9 h2
      have hmem : (elems[i]'(by omega)).1 ∈ elems.map (·.1) := List.mem_map.2 ⟨_, List.getElem_mem _, rfl⟩
      have hbk := bulk_mem _ _ hmem
      rw [hy, g2] at hbk
      have hf2 : t.data.toList.length ≤ Rows.uptoBulkAll (elems.map (·.1)) := by
        have e3 : ∀ a b : DataW H, Rows.uptoBulk (DataW.agg [a, b, .lit (.string t.data.toList)]) = (Rows.uptoBulk a + (Rows.uptoBulk b + ((t.data.toList.length + 1) + 0))) + 1 := fun _ _ => rfl
        rw [e3] at hbk
        omega
      match cs, hcl, e0, e1, e2, hcc with
      | [u0, u1, u2], _, e0, e1, e2, hcc =>
        simp at e0 e1 e2
        have d0 := hcc 0 (by omega)
        have d1 := hcc 1 (by omega)
        have d2 := hcc 2 (by omega)
        refine ⟨(f0, f1, t.data.toList), ?_, ?_, ?_, hf2⟩
        · have : (x.add (i * 3)).add 0 = x.add (i * 3) := by simp [Addr.add]
          rw [this] at d0
          rw [d0]; simpa using e0
        · rw [d1]; simpa using e1
        · rw [d2, S_data]; simpa using e2
    obtain ⟨xs, hxl, hxs⟩ := list_of len0 _ hex
    refine ⟨xs, ?_, by omega, fun e he => ?_⟩
    · by_cases hpos : len0 = 0
      · subst hpos
        exact Or.inl ⟨List.eq_nil_of_length_eq_zero hxl, _, _, rfl, fun h => by cases h⟩
      · obtain ⟨b, off, spot⟩ := x
        obtain ⟨r0, hr0⟩ : ∃ r, xs[0]? = some r := ⟨xs[0]'(by omega), List.getElem?_eq_getElem _⟩
        have hc := (hxs 0 r0 hr0).1
        have hspot : spot = none := by simpa [Addr.add] using World.cell?_spot hc
        subst hspot
        refine Or.inr ⟨b, off, cap0, by rw [hxl], by omega, ?_, ?_⟩
        · have := World.block_lt_of_cell? W _ hc
          simpa [addr_add] using this
        · intro j r hr
          have h := hxs j r hr
          rw [addr_add, addr_add, addr_add] at h
          exact ⟨h.1, h.2.1, h.2.2.1⟩
    · obtain ⟨j, hj, rfl⟩ := List.mem_iff_getElem.1 he
      have := (hxs j _ (List.getElem?_eq_getElem hj)).2.2.2
      omega

theorem bulk_strs {H : Type} (ss : List ByteArray) : Rows.uptoBulkAll (strs (H := H) ss) = ss.length + (ss.map fun s => s.data.toList).flatten.length := by
  induction ss with
  | nil => rfl
  | cons s r ih =>
    have h : Rows.uptoBulkAll (strs (H := H) (s :: r)) = (s.data.toList.length + 1) + Rows.uptoBulkAll (strs (H := H) r) := rfl
    rw [h, ih]
    simp only [List.map_cons, List.flatten_cons, List.length_append, List.length_cons]
    omega

theorem open_textsU {H : Type} {enc : TypeId × Value → H} {W : World} {a0 : Option Addr} {len0 cap0 : Nat} {d : DataW H} {p : List MemPlace}
    (h0 : DataW.Trod enc Try.prog W 0 (fun _ => true) true 28 (.slice a0 len0 cap0) d p) :
    ∃ xs : List Tx, RowAt W (.slice a0 len0 cap0) xs ∧ xs.length + xs.flatten.length ≤ Rows.uptoBulk d := by
  obtain ⟨fuel, hf⟩ := h0
  rcases open_strings Try.underlying28 Try.underlying9 (by kernel_rfl) hf with ⟨hcs, _⟩ | ⟨x, l, c, ss, hcs, _, hl, hm, hz, hd, hcell, hws⟩
  · simp [Value.cells] at hcs
    obtain ⟨rfl, rfl, rfl⟩ := hcs
    exact ⟨[], RowAt.nil _ _ _, by simp⟩
  · simp [Value.cells] at hcs
    obtain ⟨rfl, rfl, rfl⟩ := hcs
    simp only [if_true] at hz
    have hb : ((ss.take len0).map fun s => s.data.toList).length + ((ss.take len0).map fun s => s.data.toList).flatten.length ≤ Rows.uptoBulk d := by
      have e : d = .slice (strs (ss.take len0)) (strs (ss.drop len0)) := congrArg Prod.fst hd
      have e2 : Rows.uptoBulk (DataW.slice (strs (H := H) (ss.take len0)) (strs (ss.drop len0))) = Rows.uptoBulkAll (strs (H := H) (ss.take len0)) + Rows.uptoBulkAll (strs (H := H) (ss.drop len0)) + 1 := rfl
      rw [e, e2, bulk_strs, List.length_map]
      omega
    refine ⟨(ss.take len0).map fun s => s.data.toList, ?_, hb⟩
    by_cases hpos : len0 = 0
    · subst hpos
      rw [show ((ss.take 0).map fun s => s.data.toList) = [] by simp]
      exact RowAt.nil _ _ _
    · obtain ⟨b, off, spot⟩ := x
      have hc := hcell 0 (by omega)
      have hspot : spot = none := by simpa [Addr.add] using World.cell?_spot hc
      subst hspot
      have hlen : ((ss.take len0).map fun s => s.data.toList).length = len0 := by rw [List.length_map, List.length_take]; omega
      refine Or.inr ⟨b, off, cap0, by rw [hlen], by omega, ?_, ?_⟩
      · have := World.block_lt_of_cell? W _ hc
        simpa [addr_add] using this
      · intro j x hx
        obtain ⟨hj, hx2⟩ := List.getElem?_eq_some_iff.1 hx
        rw [hlen] at hj
        have hcj := hcell j (by omega)
        rw [addr_add] at hcj
        rw [hcj]
        have hjs : j < ss.length := by omega
        have hx3 : x = (ss[j]).data.toList := by rw [← hx2]; simp
        rw [hx3, S_data]
        simp [List.getD, List.getElem?_eq_getElem hjs]

end Go.Proofs.Ytmbalnjobcgpkaa
