/-
  What the program's read answers: the parts of any pattern, in new memory; condition: the pattern's length.
-/
import Derived.Test.YthjhihpbilaifaaGRset
import Derived.Maps.AppendAt
import Derived.WalkMore
namespace Go.Proofs.Ythjhihpbilaifaa
open Go.RowKit Go.Proofs.Ythjhihpbilaifaa.Gl

theorem Try.infoPart : (Try.prog.info? 37).map (fun i => (i.zero, i.size, i.bytes)) = some (some (.agg #[.bool false, .int .u64 0, .int .u64 0, .int .u64 0, .int .u64 0]), 5, 40) := by kernel_rfl

/-- the cells of parts -/
def cellsP : List Part → List Value
  | [] => []
  | q :: l => .bool q.1 :: .int .u64 (word q.2 0) :: .int .u64 (word q.2 1) :: .int .u64 (word q.2 2) :: .int .u64 (word q.2 3) :: cellsP l
theorem cellsP_len (l : List Part) : (cellsP l).length = l.length * 5 := by
  induction l with
  | nil => rfl
  | cons r l ih => simp [cellsP, ih]; omega
theorem cellsP_app (a b : List Part) : cellsP (a ++ b) = cellsP a ++ cellsP b := by
  induction a with
  | nil => rfl
  | cons r l ih => simp [cellsP, ih]
theorem cellsP_at (l : List Part) : ∀ (j : Nat) q, l[j]? = some q → (cellsP l)[j * 5]? = some (.bool q.1) ∧ (cellsP l)[j * 5 + 1]? = some (.int .u64 (word q.2 0)) ∧ (cellsP l)[j * 5 + 2]? = some (.int .u64 (word q.2 1)) ∧ (cellsP l)[j * 5 + 3]? = some (.int .u64 (word q.2 2)) ∧ (cellsP l)[j * 5 + 4]? = some (.int .u64 (word q.2 3)) := by
  induction l with
  | nil => intro j r h; simp at h
  | cons x l ih =>
    intro j r h
    cases j with
    | zero => simp at h; subst h; exact ⟨rfl, rfl, rfl, rfl, rfl⟩
    | succ j =>
      have := ih j r (by simpa using h)
      have e : ∀ i, (j + 1) * 5 + i = j * 5 + i + 1 + 1 + 1 + 1 + 1 := by intro i; omega
      rw [e 1, e 2, e 3, e 4, show (j + 1) * 5 = j * 5 + 1 + 1 + 1 + 1 + 1 by omega]
      simp only [cellsP, List.getElem?_cons_succ]
      exact this
theorem cellsP_one (l : List Part) : ∀ u, u ∈ cellsP l → u.oneCell' = true := by
  induction l with
  | nil => intro u hu; cases hu
  | cons e l ih =>
    intro u hu
    simp only [cellsP, List.mem_cons] at hu
    rcases hu with rfl | rfl | rfl | rfl | rfl | hu
    · rfl
    · rfl
    · rfl
    · rfl
    · rfl
    · exact ih u hu

/-- parts lie in memory -/
def PartsAt (w : World) (v : Value) (ps : List Part) : Prop :=
  (ps = [] ∧ v = .slice none 0 0) ∨ ∃ b cap, v = .slice (some ⟨b, 0, none⟩) ps.length cap ∧ ps.length ≤ cap ∧ b < w.heap.size ∧ ∀ (j : Nat) q, ps[j]? = some q → w.cell? ⟨b, j * 5, none⟩ = some (.bool q.1) ∧ w.cell? ⟨b, j * 5 + 1, none⟩ = some (.int .u64 (word q.2 0)) ∧ w.cell? ⟨b, j * 5 + 2, none⟩ = some (.int .u64 (word q.2 1)) ∧ w.cell? ⟨b, j * 5 + 3, none⟩ = some (.int .u64 (word q.2 2)) ∧ w.cell? ⟨b, j * 5 + 4, none⟩ = some (.int .u64 (word q.2 3))
theorem addr_add (b o j : Nat) : (⟨b, o, none⟩ : Addr).add j = ⟨b, o + j, none⟩ := by
  cases j <;> simp [Addr.add]
theorem PartsAt.of_owns {w : World} {B n : Nat} {v : Value} {ps : List Part} (h : w.ownsRow B 37 5 v n (cellsP ps)) : PartsAt w v ps := by
  have hn : ps.length = n := by have := h.1; rw [cellsP_len] at this; omega
  rcases h.2 with ⟨rfl, h0⟩ | ⟨g, cap, cur, hv, hB, hg, hc, hm, hs, ht⟩
  · exact Or.inl ⟨List.eq_nil_of_length_eq_zero (by omega), rfl⟩
  · refine Or.inr ⟨g, cap, by rw [hn]; exact hv, by omega, (Array.getElem?_eq_some_iff.1 hg).1, fun j r hr => ?_⟩
    have ⟨c0, c1, c2, c3, c4⟩ := cellsP_at ps j r hr
    have d0 := h.cells (g := g) (by rw [hv]; rfl) (j * 5) _ c0
    have d1 := h.cells (g := g) (by rw [hv]; rfl) (j * 5 + 1) _ c1
    have d2 := h.cells (g := g) (by rw [hv]; rfl) (j * 5 + 2) _ c2
    have d3 := h.cells (g := g) (by rw [hv]; rfl) (j * 5 + 3) _ c3
    have d4 := h.cells (g := g) (by rw [hv]; rfl) (j * 5 + 4) _ c4
    rw [addr_add, Nat.zero_add] at d0 d1 d2 d3 d4
    exact ⟨d0, d1, d2, d3, d4⟩
theorem owns_later {w w' : World} {B n size : Nat} {v : Value} {cs : List Value} {e : TypeId} (h : w.ownsRow B e size v n cs) (hb : Below w.heap.size w w') : w'.ownsRow B e size v n cs := by
  refine ⟨h.1, ?_⟩
  rcases h.2 with h | ⟨g, cap, cur, hv, hB, hg, hc⟩
  · exact Or.inl h
  · exact Or.inr ⟨g, cap, cur, hv, hB, by rw [hb.block g (Array.getElem?_eq_some_iff.1 hg).1]; exact hg, hc⟩

theorem five_new (W : World) (a0 a1 a2 a3 a4 : Value) (t : TypeId) : ∀ j u, [a0, a1, a2, a3, a4][j]? = some u → (W.alloc (.cells #[a0, a1, a2, a3, a4] t)).cell? ((⟨W.heap.size, 0, none⟩ : Addr).add j) = some u := by
  intro j u h
  rw [addr_add, Nat.zero_add]
  have hh : (W.alloc (.cells #[a0, a1, a2, a3, a4] t)).heap[W.heap.size]? = some (.cells #[a0, a1, a2, a3, a4] t) := by
    show (W.heap.push _)[W.heap.size]? = _
    exact Array.getElem?_push_size
  simp only [World.cell?, hh]
  simpa using h
theorem five_at (W : World) (a0 a1 a2 a3 a4 : Value) (t : TypeId) (b : Nat) (hb : b = W.heap.size) : ∀ j u, [a0, a1, a2, a3, a4][j]? = some u → (W.alloc (.cells #[a0, a1, a2, a3, a4] t)).cell? ((⟨b, 0, none⟩ : Addr).add j) = some u := by
  subst hb
  exact five_new W a0 a1 a2 a3 a4 t
/-- what 'append' of one part to a list of the call's own does -/
theorem wpList_append_part (w : World) {ops : Array Oper} {rest : List Oper} {o : Oper} {a : Act} {Q : Exit → Act → World → Prop} (hw : Region.wanted o (yielded ops a.tmps) = true) (s x : Operand)
    (ho : o.op = .call { callee := .builtin .append, args := #[s, x], argTypes := #[31, 31] }) (B b : Nat) (v : Value) (ps : List Part) (q : Part) (a0 a1 a2 a3 a4 : Value) (hq : cellsP [q] = [a0, a1, a2, a3, a4]) (hs : a.eval s = v) (hx : a.eval x = .slice (some ⟨b, 0, none⟩) 1 1)
    (hown : w.ownsRow B 37 5 v ps.length (cellsP ps)) (hcell : ∀ j u, [a0, a1, a2, a3, a4][j]? = some u → w.cell? ((⟨b, 0, none⟩ : Addr).add j) = some u) (hl : ps.length < 1048576) (hB : B ≤ w.heap.size)
    (h : ∀ v' w', w'.ownsRow B 37 5 v' (ps ++ [q]).length (cellsP (ps ++ [q])) → Below B w w' → wpList Try.prog ops Q rest (a.put o.dst v') w') : wpList Try.prog ops Q (o :: rest) a w := by
  refine BigFrame.wpList_want hw fun _ hK => ?_
  obtain ⟨i0, hi, hz0, hz1, hz2⟩ := info_parts Try.infoPart
  obtain ⟨v', w', hr, h2, h3, _, h5⟩ := run_append_own_at (P := Try.prog) w B 31 o.type 37 i0 (.agg #[.bool false, .int .u64 0, .int .u64 0, .int .u64 0, .int .u64 0]) 5 40 Try.underlying31 hi hz0 hz1 hz2 rfl (by decide) v ps.length (cellsP ps) hown ⟨b, 0, none⟩ 1 1 [a0, a1, a2, a3, a4] rfl hcell (by rw [← hq]; exact cellsP_one _) (by unfold maxLen; omega) (by omega) hB
  have hb : Below B w w' := (Below.refl B w).grown h3 hB (fun k hk => (hown.lt k hk).1)
  unfold Oper.wp execOp
  simp only [ho, resolve, invoke, builtin, Sem.run_bind, Sem.run_pure, Result.andThen_ok, List.map_toArray, List.map_cons, List.map_nil, hs, hx, hr]
  exact hK _ _ (h v' w' (by rw [List.length_append, cellsP_app, hq]; exact h2) hb)

/-- one step of parse -/
theorem parse_star {n : Nat} {op : Bool} {l : Tx} (h : l ≠ []) (hc : l.getD 0 0 = 42) : parse (n + 1) op l = star :: parse n op (l.drop 1) := by
  rw [parse, if_neg h, if_pos hc]
theorem parse_any {n : Nat} {op : Bool} {l : Tx} (h : l ≠ []) (hc : l.getD 0 0 = 63) : parse (n + 1) op l = anyB :: parse n op (l.drop 1) := by
  rw [parse, if_neg h, if_neg (by rw [hc]; decide), if_pos hc]
theorem parse_set {n : Nat} {op : Bool} {l : Tx} (h : l ≠ []) (hc : l.getD 0 0 = 91) (ho : (op && !isCls l) = false) {r} (hr : setOf (l.drop 1) = some r) : parse (n + 1) op l = (false, r.1) :: parse n op (l.drop (r.2 + 1)) := by
  rw [parse, if_neg h, if_neg (by rw [hc]; decide), if_neg (by rw [hc]; decide), if_pos ⟨hc, ho⟩, hr]
theorem parse_open {n : Nat} {op : Bool} {l : Tx} (h : l ≠ []) (hc : l.getD 0 0 = 91) (ho : (op && !isCls l) = false) (hr : setOf (l.drop 1) = none) : parse (n + 1) op l = lit (byteVal true l) :: parse n true (l.drop (byteLen true l)) := by
  rw [parse, if_neg h, if_neg (by rw [hc]; decide), if_neg (by rw [hc]; decide), if_pos ⟨hc, ho⟩, hr]
theorem parse_lit {n : Nat} {op : Bool} {l : Tx} (h : l ≠ []) (h1 : l.getD 0 0 ≠ 42) (h2 : l.getD 0 0 ≠ 63) (h3 : l.getD 0 0 = 91 → (op && !isCls l) = true) : parse (n + 1) op l = lit (byteVal true l) :: parse n op (l.drop (byteLen true l)) := by
  rw [parse, if_neg h, if_neg h1, if_neg h2, if_neg (fun e => by have := h3 e.1; rw [this] at e; exact absurd e.2 (by decide))]

set_option maxHeartbeats 8000000 in
theorem read_any (p : Tx) (w : World) (hp : p.length ≤ 1000000) :
    Calls Try.prog 12 #[S p] w fun e w' => (∃ v, e = .returned v ∧ PartsAt w' v (parts p)) ∧ Below w.heap.size w w' := by
  unfold S
  go_enter Try.func12, Try.ntmps12
  go_wp2_with fail
  go_step3
  go_wp2_with fail
  go_step3
  go_wp2_with fail
  go_loopw [3, 4, 5] (fun q o i wr => ∃ (k n : Nat) (op : Bool) (ps : List Part) (r : Value), q = r ∧ o = .bool op ∧ i = .int .i64 k ∧ k ≤ p.length ∧ ps.length ≤ k ∧ Hid (wr.ownsRow w.heap.size 37 5 r ps.length (cellsP ps) ∧ Below w.heap.size w wr ∧ (p.drop k).length ≤ n ∧ parts p = ps ++ parse n op (p.drop k)))
    (fun _ _ i _ => p.length - (intOf i).toNat)
  case atStart => exact ⟨0, p.length, false, [], _, rfl, rfl, rfl, Nat.zero_le _, Nat.le_refl _, World.ownsRow_nil _ _ _ _, Below.refl _ _, Nat.le_refl _, rfl⟩
  case round =>
    obtain ⟨k, n, op, ps, r, rfl, rfl, rfl, hk, hps, HO, HB, hn, hpar⟩ := hrel
    have HO := hidden HO
    have HB := hidden HB
    have HP := hidden hpar
    clear hpar
    by_cases hlt : k < p.length
    · have hne : p.drop k ≠ [] := drop_ne hlt
      obtain ⟨n, rfl⟩ : ∃ m, n = m + 1 := ⟨n - 1, by rw [List.length_drop] at hn; omega⟩
      rw [List.length_drop] at hn
      obtain ⟨c, hc⟩ : ∃ c, c = p.getD k 0 := ⟨_, rfl⟩
      have hb : ∀ h, (⟨p.toArray⟩ : ByteArray)[k]'h = c := fun h => by rw [byte_at, hc]
      have HC := hidden (show (p.drop k).getD 0 0 = c by rw [drop_getD, hc]; rfl)
      clear hc
      by_cases e1 : c = 42
      · subst e1
        have HP2 := hidden (show parts p = ps ++ [star] ++ parse n op (p.drop (k + 1)) by
          rw [HP.out, parse_star hne HC.out, List.drop_drop, List.append_assoc]; rfl)
        clear hne
        go_wp2_with (at_builtin; go_must (refine wpList_append_part _ (by go_simp) (.tmp 20) (.tmp 22) rfl w.heap.size _ _ ps star _ _ _ _ _ (by rw [cellsP, show star.2 = fun _ => false from rfl, word_none, word_none, word_none, word_none]; rfl) rfl rfl (HO.out.alloc _) (five_new _ _ _ _ _ _ _) (by omega) (by have := HB.out.size; simp; omega) ?_; intro v9 w9 hown9 hb9))
        have HB9 := hidden ((HB.out.alloc HB.out.size _).trans hb9)
        have HO9 := hidden hown9
        clear hown9 hb9
        go_wp2_with fail
        go_roundw
        case rel => exact ⟨k + 1, n, op, ps ++ [star], v9, rfl, rfl, by go_num, by omega, by rw [List.length_append]; show ps.length + 1 ≤ k + 1; omega, HO9.out, HB9.out, by rw [List.length_drop]; omega, HP2.out⟩
        case measure => simp [intOf]; omega
      · have f1 := byte_ne (n := 42) e1
        by_cases e2 : c = 63
        · subst e2
          have HP2 := hidden (show parts p = ps ++ [anyB] ++ parse n op (p.drop (k + 1)) by
            rw [HP.out, parse_any hne HC.out, List.drop_drop, List.append_assoc]; rfl)
          clear hne
          go_wp2_with fail
          rw [← set_none]
          refine (others_any none_ _).mono ?_
          rintro e w7 ⟨rfl, hb7⟩
          have HB7 := hidden (HB.out.trans (hb7.mono HB.out.size))
          have HO7 := hidden (owns_later HO.out hb7)
          clear hb7
          unfold setV
          go_wp2_with fail
          rw [show Value.agg #[.int .u64 (word (notB none_) 0), .int .u64 (word (notB none_) 1), .int .u64 (word (notB none_) 2), .int .u64 (word (notB none_) 3)] = setV (notB none_) from rfl]
          refine (without_any (notB none_) 47 _).mono ?_
          rintro e w8 ⟨rfl, hb8⟩
          rw [show butB (notB none_) (UInt8.toNat 47) = clean none_ true from clean_others none_]
          have HB8 := hidden (HB7.out.trans (hb8.mono HB7.out.size))
          have HO8 := hidden (owns_later HO7.out hb8)
          clear hb8
          unfold setV
          go_wp2_with (at_builtin; go_must (refine wpList_append_part _ (by go_simp) (.tmp 28) (.tmp 33) rfl w.heap.size _ _ ps anyB _ _ _ _ _ rfl rfl rfl (HO8.out.alloc _) (five_new _ _ _ _ _ _ _) (by omega) (by have := HB8.out.size; simp; omega) ?_; intro v9 w9 hown9 hb9))
          have HB9 := hidden ((HB8.out.alloc HB8.out.size _).trans hb9)
          have HO9 := hidden hown9
          clear hown9 hb9
          go_wp2_with fail
          go_roundw
          case rel => exact ⟨k + 1, n, op, ps ++ [anyB], v9, rfl, rfl, by go_num, by omega, by rw [List.length_append]; show ps.length + 1 ≤ k + 1; omega, HO9.out, HB9.out, by rw [List.length_drop]; omega, HP2.out⟩
          case measure => simp [intOf]; omega
        · have f2 := byte_ne (n := 63) e2
          by_cases e3 : c = 91
          · subst e3
            clear e1 e2 f1 f2
            cases op with
            | false =>
              go_wp2_with fail
              refine (readSet_any p (k + 1) _ (by omega) (by omega)).mono ?_
              rintro e w6 ⟨rfl, hb6⟩
              have HB6 := hidden (HB.out.trans (hb6.mono HB.out.size))
              have HO6 := hidden (owns_later HO.out hb6)
              clear hb6
              cases hso : setOf (p.drop (k + 1)) with
              | some rr =>
                obtain ⟨g, m⟩ := rr
                have hml := setOf_len hso
                rw [List.length_drop] at hml
                have hm1 : 1 ≤ m := hml.1
                have hm2 : m ≤ p.length - (k + 1) := hml.2
                obtain ⟨k2, hk2⟩ : ∃ k2, k2 = k + 1 + m := ⟨_, rfl⟩
                have HP2 := hidden (show parts p = ps ++ [(false, g)] ++ parse n false (p.drop k2) by
                  rw [HP.out, parse_set hne HC.out rfl (by rw [List.drop_drop]; exact hso), List.drop_drop, List.append_assoc, hk2, show k + (m + 1) = k + 1 + m by omega]; rfl)
                rw [show setAns (k + 1) (some (g, m)) = .tuple #[setV g, .int .i64 (k + 1 + m : Nat), .bool true] from rfl]
                rw [← hk2]
                have hk3 : k + 2 ≤ k2 := by omega
                have hk4 : k2 ≤ p.length := by omega
                clear hso hml hne hk2 hm1 hm2
                unfold setV
                go_wp2_with (at_builtin; go_must (refine wpList_append_part _ (by go_simp) (.tmp 55) (.tmp 58) rfl w.heap.size _ _ ps (false, g) _ _ _ _ _ rfl rfl rfl ((HO6.out.alloc _).alloc _) (five_at _ _ _ _ _ _ _ _ (by simp)) (by omega) (by have := HB6.out.size; simp; omega) ?_; intro v9 w9 hown9 hb9))
                have HB9 := hidden (((HB6.out.alloc HB6.out.size _).alloc (by have := HB6.out.size; simp; omega) _).trans hb9)
                have HO9 := hidden hown9
                clear hown9 hb9
                go_wp2_with fail
                go_roundw
                case rel => exact ⟨k2, n, false, ps ++ [(false, g)], v9, rfl, rfl, rfl, by omega, by rw [List.length_append]; show ps.length + 1 ≤ k2; omega, HO9.out, HB9.out, by rw [List.length_drop]; omega, HP2.out⟩
                case measure => simp [intOf]; omega
              | none =>
                have HSO := hidden hso
                clear hso
                rw [show setAns (k + 1) none = .tuple #[setV none_, .int .i64 0, .bool false] from rfl]
                rw [set_none]
                have HB7 := hidden (HB6.out.alloc HB6.out.size (.cells #[.int .u64 0, .int .u64 0, .int .u64 0, .int .u64 0] 35))
                have HO7 := hidden (HO6.out.alloc (.cells #[.int .u64 0, .int .u64 0, .int .u64 0, .int .u64 0] 35))
                go_wp2_with fail
                refine (readByte_any p k _ (by omega) hlt).mono ?_
                rintro e wx ⟨rfl, rfl⟩
                have hbl := byteLen_le true hne
                have hbp := byteLen_pos true (p.drop k)
                rw [List.length_drop] at hbl
                obtain ⟨k2, hk2⟩ : ∃ n, n = k + byteLen true (p.drop k) := ⟨_, rfl⟩
                obtain ⟨c2, hc2⟩ : ∃ c, c = byteVal true (p.drop k) := ⟨_, rfl⟩
                have HP2 := hidden (show parts p = ps ++ [lit c2] ++ parse n true (p.drop k2) by
                  rw [HP.out, hc2, hk2, parse_open hne HC.out rfl (by rw [List.drop_drop]; exact HSO.out), List.drop_drop, List.append_assoc]; rfl)
                rw [← hk2, ← hc2]
                have hkk : k < k2 := by omega
                have hkp : k2 ≤ p.length := by omega
                clear hbl hbp hk2 hc2 hne
                go_wp2_with fail
                refine (span_any c2 c2 _).mono ?_
                rintro e w8 ⟨rfl, hb8⟩
                have HB8 := hidden (HB7.out.trans (hb8.mono HB7.out.size))
                have HO8 := hidden (owns_later HO7.out hb8)
                clear hb8
                unfold setV
                go_wp2_with (at_builtin; go_must (refine wpList_append_part _ (by go_simp) (.tmp 67) (.tmp 72) rfl w.heap.size _ _ ps (lit c2) _ _ _ _ _ rfl rfl rfl (HO8.out.alloc _) (five_new _ _ _ _ _ _ _) (by omega) (by have := HB8.out.size; simp; omega) ?_; intro v9 w9 hown9 hb9))
                have HB9 := hidden ((HB8.out.alloc HB8.out.size _).trans hb9)
                have HO9 := hidden hown9
                clear hown9 hb9
                go_wp2_with fail
                go_roundw
                case rel => exact ⟨k2, n, true, ps ++ [lit c2], v9, rfl, rfl, rfl, hkp, by rw [List.length_append]; show ps.length + 1 ≤ k2; omega, HO9.out, HB9.out, by rw [List.length_drop]; omega, HP2.out⟩
                case measure => simp [intOf]; omega


            | true =>
              go_wp2_with fail
              refine (isClass_any p k _ (by omega) hk).mono ?_
              rintro e w5 ⟨rfl, hb5⟩
              have HB5 := hidden (HB.out.trans (hb5.mono HB.out.size))
              have HO5 := hidden (owns_later HO.out hb5)
              clear hb5
              cases hcl : isCls (p.drop k) with
              | false =>
                have HCL := hidden hcl
                clear hcl
                go_wp2_with fail
                refine (readByte_any p k _ (by omega) hlt).mono ?_
                rintro e wx ⟨rfl, rfl⟩
                have hbl := byteLen_le true hne
                have hbp := byteLen_pos true (p.drop k)
                rw [List.length_drop] at hbl
                obtain ⟨k2, hk2⟩ : ∃ n, n = k + byteLen true (p.drop k) := ⟨_, rfl⟩
                obtain ⟨c2, hc2⟩ : ∃ c, c = byteVal true (p.drop k) := ⟨_, rfl⟩
                have HP2 := hidden (show parts p = ps ++ [lit c2] ++ parse n true (p.drop k2) by
                  rw [HP.out, hc2, hk2, parse_lit hne (by rw [HC.out]; decide) (by rw [HC.out]; decide) (fun _ => by rw [HCL.out]; rfl), List.drop_drop, List.append_assoc]; rfl)
                rw [← hk2, ← hc2]
                have hkk : k < k2 := by omega
                have hkp : k2 ≤ p.length := by omega
                clear hbl hbp hk2 hc2 hne
                go_wp2_with fail
                refine (span_any c2 c2 _).mono ?_
                rintro e w8 ⟨rfl, hb8⟩
                have HB8 := hidden (HB5.out.trans (hb8.mono HB5.out.size))
                have HO8 := hidden (owns_later HO5.out hb8)
                clear hb8
                unfold setV
                go_wp2_with (at_builtin; go_must (refine wpList_append_part _ (by go_simp) (.tmp 67) (.tmp 72) rfl w.heap.size _ _ ps (lit c2) _ _ _ _ _ rfl rfl rfl (HO8.out.alloc _) (five_new _ _ _ _ _ _ _) (by omega) (by have := HB8.out.size; simp; omega) ?_; intro v9 w9 hown9 hb9))
                have HB9 := hidden ((HB8.out.alloc HB8.out.size _).trans hb9)
                have HO9 := hidden hown9
                clear hown9 hb9
                go_wp2_with fail
                go_roundw
                case rel => exact ⟨k2, n, true, ps ++ [lit c2], v9, rfl, rfl, rfl, hkp, by rw [List.length_append]; show ps.length + 1 ≤ k2; omega, HO9.out, HB9.out, by rw [List.length_drop]; omega, HP2.out⟩
                case measure => simp [intOf]; omega

              | true =>
                have HCL := hidden hcl
                clear hcl
                go_wp2_with fail
                refine (readSet_any p (k + 1) _ (by omega) (by omega)).mono ?_
                rintro e w6 ⟨rfl, hb6⟩
                have HB6 := hidden (HB5.out.trans (hb6.mono HB5.out.size))
                have HO6 := hidden (owns_later HO5.out hb6)
                clear hb6
                cases hso : setOf (p.drop (k + 1)) with
                | some rr =>
                  obtain ⟨g, m⟩ := rr
                  have hml := setOf_len hso
                  rw [List.length_drop] at hml
                  have hm1 : 1 ≤ m := hml.1
                  have hm2 : m ≤ p.length - (k + 1) := hml.2
                  obtain ⟨k2, hk2⟩ : ∃ k2, k2 = k + 1 + m := ⟨_, rfl⟩
                  have HP2 := hidden (show parts p = ps ++ [(false, g)] ++ parse n true (p.drop k2) by
                    rw [HP.out, parse_set hne HC.out (by rw [HCL.out]; rfl) (by rw [List.drop_drop]; exact hso), List.drop_drop, List.append_assoc, hk2, show k + (m + 1) = k + 1 + m by omega]; rfl)
                  rw [show setAns (k + 1) (some (g, m)) = .tuple #[setV g, .int .i64 (k + 1 + m : Nat), .bool true] from rfl]
                  rw [← hk2]
                  have hk3 : k + 2 ≤ k2 := by omega
                  have hk4 : k2 ≤ p.length := by omega
                  clear hso hml hne hk2 hm1 hm2
                  unfold setV
                  go_wp2_with (at_builtin; go_must (refine wpList_append_part _ (by go_simp) (.tmp 55) (.tmp 58) rfl w.heap.size _ _ ps (false, g) _ _ _ _ _ rfl rfl rfl ((HO6.out.alloc _).alloc _) (five_at _ _ _ _ _ _ _ _ (by simp)) (by omega) (by have := HB6.out.size; simp; omega) ?_; intro v9 w9 hown9 hb9))
                  have HB9 := hidden (((HB6.out.alloc HB6.out.size _).alloc (by have := HB6.out.size; simp; omega) _).trans hb9)
                  have HO9 := hidden hown9
                  clear hown9 hb9
                  go_wp2_with fail
                  go_roundw
                  case rel => exact ⟨k2, n, true, ps ++ [(false, g)], v9, rfl, rfl, rfl, by omega, by rw [List.length_append]; show ps.length + 1 ≤ k2; omega, HO9.out, HB9.out, by rw [List.length_drop]; omega, HP2.out⟩
                  case measure => simp [intOf]; omega
                | none =>
                  have HSO := hidden hso
                  clear hso
                  rw [show setAns (k + 1) none = .tuple #[setV none_, .int .i64 0, .bool false] from rfl]
                  rw [set_none]
                  have HB7 := hidden (HB6.out.alloc HB6.out.size (.cells #[.int .u64 0, .int .u64 0, .int .u64 0, .int .u64 0] 35))
                  have HO7 := hidden (HO6.out.alloc (.cells #[.int .u64 0, .int .u64 0, .int .u64 0, .int .u64 0] 35))
                  go_wp2_with fail
                  refine (readByte_any p k _ (by omega) hlt).mono ?_
                  rintro e wx ⟨rfl, rfl⟩
                  have hbl := byteLen_le true hne
                  have hbp := byteLen_pos true (p.drop k)
                  rw [List.length_drop] at hbl
                  obtain ⟨k2, hk2⟩ : ∃ n, n = k + byteLen true (p.drop k) := ⟨_, rfl⟩
                  obtain ⟨c2, hc2⟩ : ∃ c, c = byteVal true (p.drop k) := ⟨_, rfl⟩
                  have HP2 := hidden (show parts p = ps ++ [lit c2] ++ parse n true (p.drop k2) by
                    rw [HP.out, hc2, hk2, parse_open hne HC.out (by rw [HCL.out]; rfl) (by rw [List.drop_drop]; exact HSO.out), List.drop_drop, List.append_assoc]; rfl)
                  rw [← hk2, ← hc2]
                  have hkk : k < k2 := by omega
                  have hkp : k2 ≤ p.length := by omega
                  clear hbl hbp hk2 hc2 hne
                  go_wp2_with fail
                  refine (span_any c2 c2 _).mono ?_
                  rintro e w8 ⟨rfl, hb8⟩
                  have HB8 := hidden (HB7.out.trans (hb8.mono HB7.out.size))
                  have HO8 := hidden (owns_later HO7.out hb8)
                  clear hb8
                  unfold setV
                  go_wp2_with (at_builtin; go_must (refine wpList_append_part _ (by go_simp) (.tmp 67) (.tmp 72) rfl w.heap.size _ _ ps (lit c2) _ _ _ _ _ rfl rfl rfl (HO8.out.alloc _) (five_new _ _ _ _ _ _ _) (by omega) (by have := HB8.out.size; simp; omega) ?_; intro v9 w9 hown9 hb9))
                  have HB9 := hidden ((HB8.out.alloc HB8.out.size _).trans hb9)
                  have HO9 := hidden hown9
                  clear hown9 hb9
                  go_wp2_with fail
                  go_roundw
                  case rel => exact ⟨k2, n, true, ps ++ [lit c2], v9, rfl, rfl, rfl, hkp, by rw [List.length_append]; show ps.length + 1 ≤ k2; omega, HO9.out, HB9.out, by rw [List.length_drop]; omega, HP2.out⟩
                  case measure => simp [intOf]; omega


          · have f3 := byte_ne (n := 91) e3
            go_wp2_with fail
            refine (readByte_any p k _ (by omega) hlt).mono ?_
            rintro e wx ⟨rfl, rfl⟩
            have hbl := byteLen_le true hne
            have hbp := byteLen_pos true (p.drop k)
            rw [List.length_drop] at hbl
            obtain ⟨k2, hk2⟩ : ∃ n, n = k + byteLen true (p.drop k) := ⟨_, rfl⟩
            obtain ⟨c2, hc2⟩ : ∃ c, c = byteVal true (p.drop k) := ⟨_, rfl⟩
            have HP2 := hidden (show parts p = ps ++ [lit c2] ++ parse n op (p.drop k2) by
              rw [HP.out, hc2, hk2, parse_lit hne (by rw [HC.out]; exact e1) (by rw [HC.out]; exact e2) (fun h => absurd (HC.out.symm.trans h) e3), List.drop_drop, List.append_assoc]; rfl)
            rw [← hk2, ← hc2]
            have hkk : k < k2 := by omega
            have hkp : k2 ≤ p.length := by omega
            clear hbl hbp hk2 hc2 hne
            go_wp2_with fail
            refine (span_any c2 c2 _).mono ?_
            rintro e w8 ⟨rfl, hb8⟩
            have HB8 := hidden (HB.out.trans (hb8.mono HB.out.size))
            have HO8 := hidden (owns_later HO.out hb8)
            clear hb8
            unfold setV
            go_wp2_with (at_builtin; go_must (refine wpList_append_part _ (by go_simp) (.tmp 67) (.tmp 72) rfl w.heap.size _ _ ps (lit c2) _ _ _ _ _ rfl rfl rfl (HO8.out.alloc _) (five_new _ _ _ _ _ _ _) (by omega) (by have := HB8.out.size; simp; omega) ?_; intro v9 w9 hown9 hb9))
            have HB9 := hidden ((HB8.out.alloc HB8.out.size _).trans hb9)
            have HO9 := hidden hown9
            clear hown9 hb9
            go_wp2_with fail
            go_roundw
            case rel => exact ⟨k2, n, op, ps ++ [lit c2], v9, rfl, rfl, rfl, hkp, by rw [List.length_append]; show ps.length + 1 ≤ k2; omega, HO9.out, HB9.out, by rw [List.length_drop]; omega, HP2.out⟩
            case measure => simp [intOf]; omega

    · have HP2 := hidden (show parts p = ps by
        rw [HP.out, List.drop_eq_nil_of_le (by omega)]
        cases n <;> simp [parse])
      go_wp2_with fail
      try rw [Exit.noGoto_ret]
      go_ret
      exact ⟨⟨_, rfl, by rw [HP2.out]; exact PartsAt.of_owns HO.out⟩, HB.out⟩

end Go.Proofs.Ythjhihpbilaifaa
