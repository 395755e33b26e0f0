/-
  What the document's own set and inside answer: the members of the set that begins at a place, and whether a byte is in some; condition: the text's length.
-/
import Derived.Test.YtjlihidmohokhaaRAt
import Derived.Maps.AppendAt
import Derived.Deep.AppendLies
import Derived.WalkMore
namespace Go.Proofs.Ytjlihidmohokhaa
open Go.RowKit Go.Proofs.Ytjlihidmohokhaa.Gl

theorem Try.infoMem : (Try.prog.info? 90).map (fun i => (i.zero, i.size, i.bytes)) = some (some (.agg #[.int .i64 0, .int .i64 0, .int .i64 0, .string ⟨#[]⟩]), 4, 40) := by kernel_rfl

theorem addr_plus (b o j : Nat) : (⟨b, o, none⟩ : Addr).add j = ⟨b, o + j, none⟩ := by
  cases j <;> simp [Addr.add]
theorem own_later {w w' : World} {B n size : Nat} {v : Value} {cs : List Value} {e : TypeId} (h : w.ownsRow B e size v n cs) (hb : Below w.heap.size w w') : w'.ownsRow B e size v n cs := by
  refine ⟨h.1, ?_⟩
  rcases h.2 with h | ⟨g, cap, cur, hv, hB, hg, hc⟩
  · exact Or.inl h
  · exact Or.inr ⟨g, cap, cur, hv, hB, by rw [hb.block g (Array.getElem?_eq_some_iff.1 hg).1]; exact hg, hc⟩
/-- the cells of members -/
def cellsM : List Mem → List Value
  | [] => []
  | m :: l => .int .i64 m.fin :: .int .i64 m.lo :: .int .i64 m.hi :: S m.cls :: cellsM l
theorem cellsM_len (l : List Mem) : (cellsM l).length = l.length * 4 := by
  induction l with
  | nil => rfl
  | cons r l ih => simp [cellsM, ih]; omega
theorem cellsM_app (a b : List Mem) : cellsM (a ++ b) = cellsM a ++ cellsM b := by
  induction a with
  | nil => rfl
  | cons r l ih => simp [cellsM, ih]
theorem cellsM_at (l : List Mem) : ∀ (j : Nat) m, l[j]? = some m → (cellsM l)[j * 4]? = some (.int .i64 m.fin) ∧ (cellsM l)[j * 4 + 1]? = some (.int .i64 m.lo) ∧ (cellsM l)[j * 4 + 2]? = some (.int .i64 m.hi) ∧ (cellsM l)[j * 4 + 3]? = some (S m.cls) := by
  induction l with
  | nil => intro j r h; simp at h
  | cons x l ih =>
    intro j r h
    cases j with
    | zero => simp at h; subst h; exact ⟨rfl, rfl, rfl, rfl⟩
    | succ j =>
      have := ih j r (by simpa using h)
      have e : ∀ i, (j + 1) * 4 + i = j * 4 + i + 1 + 1 + 1 + 1 := by intro i; omega
      rw [e 1, e 2, e 3, show (j + 1) * 4 = j * 4 + 1 + 1 + 1 + 1 by omega]
      simp only [cellsM, List.getElem?_cons_succ]
      exact this
theorem cellsM_one (l : List Mem) : ∀ u, u ∈ cellsM l → u.oneCell' = true := by
  induction l with
  | nil => intro u hu; cases hu
  | cons e l ih =>
    intro u hu
    simp only [cellsM, List.mem_cons] at hu
    rcases hu with rfl | rfl | rfl | rfl | hu
    · rfl
    · rfl
    · rfl
    · rfl
    · exact ih u hu
/-- members lie in memory -/
def MemsAt (w : World) (v : Value) (ms : List Mem) : Prop :=
  (ms = [] ∧ v = .slice none 0 0) ∨ ∃ b cap, v = .slice (some ⟨b, 0, none⟩) ms.length cap ∧ ms.length ≤ cap ∧ b < w.heap.size ∧ ∀ (j : Nat) m, ms[j]? = some m → w.cell? ⟨b, j * 4, none⟩ = some (.int .i64 m.fin) ∧ w.cell? ⟨b, j * 4 + 1, none⟩ = some (.int .i64 m.lo) ∧ w.cell? ⟨b, j * 4 + 2, none⟩ = some (.int .i64 m.hi) ∧ w.cell? ⟨b, j * 4 + 3, none⟩ = some (S m.cls)
theorem MemsAt.of_owns {w : World} {B n : Nat} {v : Value} {ms : List Mem} (h : w.ownsRow B 90 4 v n (cellsM ms)) : MemsAt w v ms := by
  have hn : ms.length = n := by have := h.1; rw [cellsM_len] at this; omega
  rcases h.2 with ⟨rfl, h0⟩ | ⟨g, cap, cur, hv, hB, hg, hc, hm, hs, ht⟩
  · exact Or.inl ⟨List.eq_nil_of_length_eq_zero (by omega), rfl⟩
  · refine Or.inr ⟨g, cap, by rw [hn]; exact hv, by omega, (Array.getElem?_eq_some_iff.1 hg).1, fun j r hr => ?_⟩
    have ⟨c0, c1, c2, c3⟩ := cellsM_at ms j r hr
    have d0 := h.cells (g := g) (by rw [hv]; rfl) (j * 4) _ c0
    have d1 := h.cells (g := g) (by rw [hv]; rfl) (j * 4 + 1) _ c1
    have d2 := h.cells (g := g) (by rw [hv]; rfl) (j * 4 + 2) _ c2
    have d3 := h.cells (g := g) (by rw [hv]; rfl) (j * 4 + 3) _ c3
    rw [addr_plus, Nat.zero_add] at d0 d1 d2 d3
    exact ⟨d0, d1, d2, d3⟩
theorem MemsAt.later {w w' : World} {v : Value} {ms : List Mem} (h : MemsAt w v ms) (hb : Below w.heap.size w w') : MemsAt w' v ms := by
  rcases h with h | ⟨b, cap, h1, h2, h3, h4⟩
  · exact Or.inl h
  · refine Or.inr ⟨b, cap, h1, h2, Nat.lt_of_lt_of_le h3 hb.size, fun j x hx => ?_⟩
    rw [hb.cell (p := ⟨b, j * 4, none⟩) h3, hb.cell (p := ⟨b, j * 4 + 1, none⟩) h3, hb.cell (p := ⟨b, j * 4 + 2, none⟩) h3, hb.cell (p := ⟨b, j * 4 + 3, none⟩) h3]
    exact h4 j x hx
theorem four_at (W : World) (a0 a1 a2 a3 : Value) (t : TypeId) (b : Nat) (hb : b = W.heap.size) : ∀ j u, [a0, a1, a2, a3][j]? = some u → (W.alloc (.cells #[a0, a1, a2, a3] t)).cell? ((⟨b, 0, none⟩ : Addr).add j) = some u := by
  subst hb
  intro j u h
  rw [addr_plus, Nat.zero_add]
  have hh : (W.alloc (.cells #[a0, a1, a2, a3] t)).heap[W.heap.size]? = some (.cells #[a0, a1, a2, a3] t) := by
    show (W.heap.push _)[W.heap.size]? = _
    exact Array.getElem?_push_size
  simp only [World.cell?, hh]
  simpa using h
/-- what 'append' of one member to a list of the call's own does -/
theorem wpList_append_mem (w : World) {ops : Array Oper} {rest : List Oper} {o : Oper} {a : Act} {Q : Exit → Act → World → Prop} (hw : Region.wanted o (yielded ops a.tmps) = true) (s x : Operand)
    (ho : o.op = .call { callee := .builtin .append, args := #[s, x], argTypes := #[82, 82] }) (B b : Nat) (v : Value) (ms : List Mem) (m : Mem) (a0 a1 a2 a3 : Value) (hq : cellsM [m] = [a0, a1, a2, a3]) (hs : a.eval s = v) (hx : a.eval x = .slice (some ⟨b, 0, none⟩) 1 1)
    (hown : w.ownsRow B 90 4 v ms.length (cellsM ms)) (hcell : ∀ j u, [a0, a1, a2, a3][j]? = some u → w.cell? ((⟨b, 0, none⟩ : Addr).add j) = some u) (hl : ms.length < 1048577) (hB : B ≤ w.heap.size)
    (h : ∀ v' w', w'.ownsRow B 90 4 v' (ms ++ [m]).length (cellsM (ms ++ [m])) → w.grownBy w' v.ownBlock → wpList Try.prog ops Q rest (a.put o.dst v') w') : wpList Try.prog ops Q (o :: rest) a w := by
  refine BigFrame.wpList_want hw fun _ hK => ?_
  obtain ⟨i0, hi, hz0, hz1, hz2⟩ := info_parts Try.infoMem
  obtain ⟨v', w', hr, h2, h3, _, h5⟩ := run_append_own_at (P := Try.prog) w B 82 o.type 90 i0 (.agg #[.int .i64 0, .int .i64 0, .int .i64 0, .string ⟨#[]⟩]) 4 40 Try.underlying82 hi hz0 hz1 hz2 rfl (by decide) v ms.length (cellsM ms) hown ⟨b, 0, none⟩ 1 1 [a0, a1, a2, a3] rfl hcell (by rw [← hq]; exact cellsM_one _) (by unfold maxLen; omega) (by omega) hB
  unfold Oper.wp execOp
  simp only [ho, resolve, invoke, builtin, Sem.run_bind, Sem.run_pure, Result.andThen_ok, List.map_toArray, List.map_cons, List.map_nil, hs, hx, hr]
  exact hK _ _ (h v' w' (by rw [List.length_append, cellsM_app, hq]; exact h2) h3)

set_option maxHeartbeats 4000000 in
theorem inside_any (v : Value) (ms : List Mem) (n : Nat) (w : World) (hn : n < 256) (hr : MemsAt w v ms) (hl : ms.length ≤ 1048576) (hsm : ∀ m ∈ ms, m.lo < 256 ∧ m.hi < 256) :
    Calls Try.prog 57 #[v, .int .u8 n] w fun e w' => e = .returned (.bool (ms.any fun m => m.has n)) ∧ w' = w := by
  rcases hr with ⟨rfl, rfl⟩ | ⟨b, cap, rfl, hcap, hb, hc⟩
  · go_enter Try.func57, Try.ntmps57
    go_wp2
    refine wp_loop_rounds 1 ?_
    rw [rounds_succ]
    go_wp2
    go_ret
    exact ⟨rfl, rfl⟩
  · have HC := hidden hc
    have HS := hidden hsm
    clear hc hsm
    go_enter Try.func57, Try.ntmps57
    go_wp2_with fail
    go_loop [5] (fun i => ∃ k : Nat, i = .int .i64 k ∧ k ≤ ms.length ∧ Hid (((ms.take k).any fun m => m.has n) = false))
      (fun i => ms.length - (intOf i).toNat)
    case atStart => exact ⟨0, rfl, Nat.zero_le _, rfl⟩
    case round =>
      obtain ⟨k, rfl, hk, HI⟩ := hrel
      by_cases hlt : k < ms.length
      · obtain ⟨m, hm⟩ : ∃ m, ms[k]? = some m := ⟨ms[k], List.getElem?_eq_getElem hlt⟩
        obtain ⟨c0, c1, c2, c3⟩ := HC.out k m hm
        obtain ⟨hlo, hhi⟩ := HS.out m (List.mem_of_getElem? hm)
        have HT := hidden (show m.has n = true → (ms.any fun m => m.has n) = true from fun h => List.any_eq_true.2 ⟨m, List.mem_of_getElem? hm, h⟩)
        have HF := hidden (show m.has n = false → ((ms.take (k + 1)).any fun m => m.has n) = false from fun h => by
          rw [List.take_add_one, hm, List.any_append, HI.out]; simp [h])
        unfold S at c3
        obtain ⟨fin, lo, hi, cls⟩ := m
        simp only at c0 c1 c2 c3 hlo hhi
        have HH := hidden (show Mem.has ⟨fin, lo, hi, cls⟩ n = if cls ≠ [] then ((named cls).getD none_) n else (decide (lo ≤ n) && decide (n ≤ hi)) from rfl)
        clear hm HI c0
        by_cases hcl : cls = []
        · subst hcl
          by_cases q1 : lo ≤ n
          · have q1' : (lo : Int) ≤ n := by omega
            by_cases q2 : n ≤ hi
            · have q2' : (n : Int) ≤ hi := by omega
              have HR := hidden (HT.out (by rw [HH.out]; simp [q1, q2]))
              go_wp2_with fail
              go_ret
              exact ⟨by rw [HR.out]; rfl, rfl⟩
            · have q2' : ¬ (n : Int) ≤ hi := by omega
              have q2d : decide ((n : Int) ≤ hi) = false := decide_eq_false q2'
              have HR := hidden (HF.out (by rw [HH.out]; simp [q2]))
              go_wp2_with fail
              first | (go_round; case rel => exact ⟨k + 1, by go_num, by omega, HR.out⟩; case measure => simp [intOf]; omega) | exact ⟨⟨k + 1, by go_num, by omega, HR.out⟩, by simp [intOf]; omega⟩
          · have q1' : ¬ (lo : Int) ≤ n := by omega
            have q1d : decide ((lo : Int) ≤ n) = false := decide_eq_false q1'
            have HR := hidden (HF.out (by rw [HH.out]; simp [q1]))
            go_wp2_with fail
            first | (go_round; case rel => exact ⟨k + 1, by go_num, by omega, HR.out⟩; case measure => simp [intOf]; omega) | exact ⟨⟨k + 1, by go_num, by omega, HR.out⟩, by simp [intOf]; omega⟩
        · have htb : (cls == []) = false := by simpa using hcl
          have htb2 : (cls != []) = true := by simpa using hcl
          go_wp2_with fail
          refine (refClass_any cls n hn w).mono ?_
          rintro e w2 ⟨rfl, rfl⟩
          obtain ⟨y, z, hyz, hy⟩ : ∃ y z, clsAns (named cls) n = .tuple #[.bool y, .bool z] ∧ y = ((named cls).getD none_) n := by
            cases named cls with
            | none => exact ⟨false, false, rfl, rfl⟩
            | some f => exact ⟨f n, true, rfl, rfl⟩
          rw [hyz]
          have HY := hidden (show Mem.has ⟨fin, lo, hi, cls⟩ n = y by rw [HH.out, if_pos hcl, hy])
          clear hyz hy hcl
          cases y with
          | true =>
            have HR := hidden (HT.out HY.out)
            go_wp2_with fail
            go_ret
            exact ⟨by rw [HR.out]; rfl, rfl⟩
          | false =>
            have HR := hidden (HF.out HY.out)
            go_wp2_with fail
            first | (go_round; case rel => exact ⟨k + 1, by go_num, by omega, HR.out⟩; case measure => simp [intOf]; omega) | exact ⟨⟨k + 1, by go_num, by omega, HR.out⟩, by simp [intOf]; omega⟩
      · have HR := hidden (show (ms.any fun m => m.has n) = false by
          have := HI.out
          rw [List.take_of_length_le (by omega)] at this
          exact this)
        go_wp2_with fail
        go_ret
        exact ⟨by rw [HR.out]; rfl, rfl⟩

end Go.Proofs.Ytjlihidmohokhaa
