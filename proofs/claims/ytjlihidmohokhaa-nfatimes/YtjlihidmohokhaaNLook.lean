/-
  What the program's look answers; conditions: how many parts the node has, that it may be, and the text's length.
-/
import Derived.Test.YtjlihidmohokhaaNTrans
import Derived.Test.YtjlihidmohokhaaNHas
import Derived.Deep.CutRange
import Derived.Sort.CutIn
namespace Go.Proofs.Ytjlihidmohokhaa
open Go.RowKit Go.Proofs.Ytjlihidmohokhaa.Gl

/-- what is kept while the walk is made -/
structure LB (w : World) (c0 c1 c2 c3 c4 c5 c6 c7 : Value) (s : Tx) (whole : Bool) (X : World) : Prop where
  bel : Below w.heap.size w X
  blk : Blk X w.heap.size c0 c1 c2 c3 c4 c5 c6 c7
  v4 : Boxed X (w.heap.size + 1) 9 (S s)
  v5 : Boxed X (w.heap.size + 1 + 1) 4 (.bool whole)
  v6 : Boxed X (w.heap.size + 1 + 1 + 1) 4 (.bool false)
theorem LB.later {w : World} {c0 c1 c2 c3 c4 c5 c6 c7 : Value} {s : Tx} {whole : Bool} {X Y : World} (h : LB w c0 c1 c2 c3 c4 c5 c6 c7 s whole X) (hb : Below X.heap.size X Y) : LB w c0 c1 c2 c3 c4 c5 c6 c7 s whole Y :=
  ⟨h.bel.trans (hb.mono h.bel.size), h.blk.later hb, box_keep h.v4 (hb.block _ h.v4.lt), box_keep h.v5 (hb.block _ h.v5.lt), box_keep h.v6 (hb.block _ h.v6.lt)⟩
theorem LB.drew {w : World} {c0 c1 c2 c3 c4 c5 c6 c7 : Value} {s : Tx} {whole : Bool} {X : World} (h : LB w c0 c1 c2 c3 c4 c5 c6 c7 s whole X) : LB w c0 c1 c2 c3 c4 c5 c6 c7 s whole X.drew := h.later ((Below.refl _ X).drew)
theorem LB.alloc {w : World} {c0 c1 c2 c3 c4 c5 c6 c7 : Value} {s : Tx} {whole : Bool} {X : World} (h : LB w c0 c1 c2 c3 c4 c5 c6 c7 s whole X) (o : Obj) : LB w c0 c1 c2 c3 c4 c5 c6 c7 s whole (X.alloc o) := h.later ((Below.refl _ X).alloc (Nat.le_refl _) o)
theorem now_cells {W : World} {B : Nat} {v : Value} {l : List Nat} {ob : Obj} (h : W.ownsRow B 3 1 v l.length (ints l)) {j : Nat} {o : Obj} (ej : v.ownBlock = some j) (hj : (W.alloc ob).heap[j]? = some o) : o.isCells = true := by
  obtain ⟨⟨cs, ty, fr, hc9⟩, _⟩ := IsC.row h ej
  rw [Below.heap_alloc W _ j (h.lt j ej).2, hc9] at hj
  cases hj
  rfl
theorem undef_no {b : Bool} {p : Prop} (h : some undef = some (Value.bool b)) : p := by
  injection h with h
  cases h
/-- how the whole may be left -/
def lookPost (fn : Func) (R : Ending → World → Prop) : Exit → Act → World → Prop
  | .normal, a, w | .ret, a, w => LeavesInM Fence.wide 5 Try.prog fn a.tmps R a.defers .returning w
  | _, _, _ => False
theorem lookPost_is {fn : Func} {R : Ending → World → Prop} (e : Exit) (a : Act) (w : World) (h : lookPost fn R e a w) : bodyPostM Fence.wide 5 Try.prog fn R e a w := by
  cases e with
  | normal => exact h
  | ret => exact h
  | _ => exact h.elim
theorem layOut_kept {w : World} {c0 c1 c2 c3 c4 c5 c6 c7 : Value} {s : Tx} {whole : Bool} {X : World} (x : Nd) (A : Nat → Prop) (v : Value) (hx : NodeAt w A v x) (hc : cntN x ≤ 1048576) (hr : rightN x = true) (h : LB w c0 c1 c2 c3 c4 c5 c6 c7 s whole X) :
    Calls Try.prog 33 #[v] X fun e w' => ∃ (q g c : Nat) (ss : List Sta), e = .returned (.agg #[.slice (some ⟨g, 0, none⟩) ss.length c, .int .i64 q]) ∧ LB w c0 c1 c2 c3 c4 c5 c6 c7 s whole w' ∧ w'.ownsRow w.heap.size 67 7 (.slice (some ⟨g, 0, none⟩) ss.length c) ss.length (cells7 ss) ∧ Mach x ss q ∧ Below X.heap.size X w' := by
  refine (layOut_any x v X A (hx.later h.bel) hc hr).mono ?_
  rintro e w' ⟨q, mv, ss, rfl, ho, hb, hm⟩
  rcases ho.2 with ⟨_, e⟩ | ⟨g, cap, cur, rfl, _⟩
  · have := hm.at_; omega
  · exact ⟨q, g, cap, ss, rfl, h.later hb, owns_base ho h.bel.size, hm, hb⟩
theorem newWalk_kept {w : World} {c0 c1 c2 c3 c4 c5 c6 c7 : Value} {s : Tx} {whole : Bool} {X : World} (q g c : Nat) (ss : List Sta) (hss : ss.length ≤ 100000) (hs : s.length ≤ 90000) (h : LB w c0 c1 c2 c3 c4 c5 c6 c7 s whole X) (ho : X.ownsRow w.heap.size 67 7 (.slice (some ⟨g, 0, none⟩) ss.length c) ss.length (cells7 ss)) :
    Calls Try.prog 32 #[.agg #[.slice (some ⟨g, 0, none⟩) ss.length c, .int .i64 q], .int .i64 s.length] X fun e w' => ∃ Q Sb : Nat, e = .returned (.pointer (some ⟨Q, 0, none⟩)) ∧ LB w c0 c1 c2 c3 c4 c5 c6 c7 s whole w' ∧ WK w.heap.size Q Sb g c ss q s.length (.slice none 0 0) [] (fun _ => 0) w' ∧ w.heap.size ≤ Q ∧ w.heap.size ≤ Sb ∧ Below X.heap.size X w' := by
  refine (newWalk_any g c ss.length q s.length X hss (by omega)).mono ?_
  rintro e w' ⟨Q, Sb, rfl, hw, hn, hQ, hS, hne, hb⟩
  have hg := (ho.lt g rfl).2
  have hz := h.bel.size
  refine ⟨Q, Sb, rfl, h.later hb, ⟨hw, owns_keep ho (fun k e => by cases e; exact hb.block g hg), hn, World.ownsRow_nil _ _ _ _, hne, by omega, by omega, ?_, ?_, ?_⟩, by omega, by omega, hb⟩ <;> (intro e; cases e)

/-- the walk's own variable -/
theorem rel_set {w : World} {c0 c1 c2 c3 c4 c5 c6 c7 : Value} {s : Tx} {whole : Bool} {X : World} {Q Sb g c q b7 : Nat} {ss : List Sta} {u v : Value} (hL : LB w c0 c1 c2 c3 c4 c5 c6 c7 s whole X) (hW : WK w.heap.size Q Sb g c ss q s.length (.slice none 0 0) [] (fun _ => 0) X) (hb : Boxed X b7 52 u) (h7 : w.heap.size ≤ b7) :
    LB w c0 c1 c2 c3 c4 c5 c6 c7 s whole (X.setCell ⟨b7, 0, none⟩ v) ∧ WK w.heap.size Q Sb g c ss q s.length (.slice none 0 0) [] (fun _ => 0) (X.setCell ⟨b7, 0, none⟩ v) ∧ Boxed (X.setCell ⟨b7, 0, none⟩ v) b7 52 v := by
  have kp : ∀ k, k ≠ b7 → (X.setCell ⟨b7, 0, none⟩ v).heap[k]? = X.heap[k]? := fun k hk => heap_setCell_other X ⟨b7, 0, none⟩ k v hk
  obtain ⟨cur, hSb, _⟩ := hW.seen
  have hg7 : g ≠ b7 := fun e => by
    rcases hW.st.2 with ⟨e3, _⟩ | ⟨g3, cap3, cur3, e3, _, hh3, _⟩
    · cases e3
    · cases e3; exact types_ne hh3 hb (by decide) e
  refine ⟨⟨bel_set hL.bel h7, hL.blk.keep (kp _ (types_ne hL.blk hb (by decide))), box_keep hL.v4 (kp _ (types_ne hL.v4 hb (by decide))), box_keep hL.v5 (kp _ (types_ne hL.v5 hb (by decide))), box_keep hL.v6 (kp _ (types_ne hL.v6 hb (by decide)))⟩, hW.keep (kp _ (types_ne hW.wb hb (by decide))) (kp _ hg7) (kp _ (types_ne hSb hb (by decide))) (fun k e => by cases e), Boxed.set v hb⟩
theorem rel_new {w : World} {c0 c1 c2 c3 c4 c5 c6 c7 : Value} {s : Tx} {whole : Bool} {X : World} {Q Sb g c q : Nat} {ss : List Sta} {v : Value} (hL : LB w c0 c1 c2 c3 c4 c5 c6 c7 s whole X) (hW : WK w.heap.size Q Sb g c ss q s.length (.slice none 0 0) [] (fun _ => 0) X) :
    LB w c0 c1 c2 c3 c4 c5 c6 c7 s whole (X.alloc (.cells #[v] 52)) ∧ WK w.heap.size Q Sb g c ss q s.length (.slice none 0 0) [] (fun _ => 0) (X.alloc (.cells #[v] 52)) ∧ Boxed (X.alloc (.cells #[v] 52)) X.heap.size 52 v :=
  ⟨hL.alloc _, hW.later ((Below.refl _ X).alloc (Nat.le_refl _) _), Boxed.new X _ v⟩

/-- the frame of a search -/
structure LFr (a : Act) (B b7 : Nat) (nowv : Value) (b9 b10 : Nat) (ds : List Nat) : Prop where
  size : a.tmps.size = 107
  s4 : a.tmps.getD 4 undef = .pointer (some ⟨B + 1, 0, none⟩)
  s5 : a.tmps.getD 5 undef = .pointer (some ⟨B + 1 + 1, 0, none⟩)
  s6 : a.tmps.getD 6 undef = .pointer (some ⟨B + 1 + 1 + 1, 0, none⟩)
  s7 : a.tmps.getD 7 undef = .pointer (some ⟨b7, 0, none⟩)
  s8 : a.tmps.getD 8 undef = nowv
  s9 : a.tmps.getD 9 undef = .pointer (some ⟨b9, 0, none⟩)
  s10 : a.tmps.getD 10 undef = .pointer (some ⟨b10, 0, none⟩)
  marks : a.defers = ds.map mark
theorem slots_all (tmps : Array Value) (h : tmps.size = 107) : tmps = #[tmps.getD 0 undef, tmps.getD 1 undef, tmps.getD 2 undef, tmps.getD 3 undef, tmps.getD 4 undef, tmps.getD 5 undef, tmps.getD 6 undef, tmps.getD 7 undef, tmps.getD 8 undef, tmps.getD 9 undef, tmps.getD 10 undef, tmps.getD 11 undef, tmps.getD 12 undef, tmps.getD 13 undef, tmps.getD 14 undef, tmps.getD 15 undef, tmps.getD 16 undef, tmps.getD 17 undef, tmps.getD 18 undef, tmps.getD 19 undef, tmps.getD 20 undef, tmps.getD 21 undef, tmps.getD 22 undef, tmps.getD 23 undef, tmps.getD 24 undef, tmps.getD 25 undef, tmps.getD 26 undef, tmps.getD 27 undef, tmps.getD 28 undef, tmps.getD 29 undef, tmps.getD 30 undef, tmps.getD 31 undef, tmps.getD 32 undef, tmps.getD 33 undef, tmps.getD 34 undef, tmps.getD 35 undef, tmps.getD 36 undef, tmps.getD 37 undef, tmps.getD 38 undef, tmps.getD 39 undef, tmps.getD 40 undef, tmps.getD 41 undef, tmps.getD 42 undef, tmps.getD 43 undef, tmps.getD 44 undef, tmps.getD 45 undef, tmps.getD 46 undef, tmps.getD 47 undef, tmps.getD 48 undef, tmps.getD 49 undef, tmps.getD 50 undef, tmps.getD 51 undef, tmps.getD 52 undef, tmps.getD 53 undef, tmps.getD 54 undef, tmps.getD 55 undef, tmps.getD 56 undef, tmps.getD 57 undef, tmps.getD 58 undef, tmps.getD 59 undef, tmps.getD 60 undef, tmps.getD 61 undef, tmps.getD 62 undef, tmps.getD 63 undef, tmps.getD 64 undef, tmps.getD 65 undef, tmps.getD 66 undef, tmps.getD 67 undef, tmps.getD 68 undef, tmps.getD 69 undef, tmps.getD 70 undef, tmps.getD 71 undef, tmps.getD 72 undef, tmps.getD 73 undef, tmps.getD 74 undef, tmps.getD 75 undef, tmps.getD 76 undef, tmps.getD 77 undef, tmps.getD 78 undef, tmps.getD 79 undef, tmps.getD 80 undef, tmps.getD 81 undef, tmps.getD 82 undef, tmps.getD 83 undef, tmps.getD 84 undef, tmps.getD 85 undef, tmps.getD 86 undef, tmps.getD 87 undef, tmps.getD 88 undef, tmps.getD 89 undef, tmps.getD 90 undef, tmps.getD 91 undef, tmps.getD 92 undef, tmps.getD 93 undef, tmps.getD 94 undef, tmps.getD 95 undef, tmps.getD 96 undef, tmps.getD 97 undef, tmps.getD 98 undef, tmps.getD 99 undef, tmps.getD 100 undef, tmps.getD 101 undef, tmps.getD 102 undef, tmps.getD 103 undef, tmps.getD 104 undef, tmps.getD 105 undef, tmps.getD 106 undef] := by
  have h1 : tmps.toList = (List.range 107).map (fun i => tmps.getD i undef) := by
    apply List.ext_getElem
    · simp [h]
    · intro i h2 h3
      simp at h2
      simp [h2]
  calc tmps = ⟨tmps.toList⟩ := rfl
    _ = ⟨(List.range 107).map (fun i => tmps.getD i undef)⟩ := by rw [h1]
    _ = _ := rfl
theorem LFr.frame {a : Act} {B b7 : Nat} {nowv : Value} {b9 b10 : Nat} {ds : List Nat} (h : LFr a B b7 nowv b9 b10 ds) : ∃ f : Nat → Value, a = { tmps := #[f 0, f 1, f 2, f 3, .pointer (some ⟨B + 1, 0, none⟩), .pointer (some ⟨B + 1 + 1, 0, none⟩), .pointer (some ⟨B + 1 + 1 + 1, 0, none⟩), .pointer (some ⟨b7, 0, none⟩), nowv, .pointer (some ⟨b9, 0, none⟩), .pointer (some ⟨b10, 0, none⟩), f 11, f 12, f 13, f 14, f 15, f 16, f 17, f 18, f 19, f 20, f 21, f 22, f 23, f 24, f 25, f 26, f 27, f 28, f 29, f 30, f 31, f 32, f 33, f 34, f 35, f 36, f 37, f 38, f 39, f 40, f 41, f 42, f 43, f 44, f 45, f 46, f 47, f 48, f 49, f 50, f 51, f 52, f 53, f 54, f 55, f 56, f 57, f 58, f 59, f 60, f 61, f 62, f 63, f 64, f 65, f 66, f 67, f 68, f 69, f 70, f 71, f 72, f 73, f 74, f 75, f 76, f 77, f 78, f 79, f 80, f 81, f 82, f 83, f 84, f 85, f 86, f 87, f 88, f 89, f 90, f 91, f 92, f 93, f 94, f 95, f 96, f 97, f 98, f 99, f 100, f 101, f 102, f 103, f 104, f 105, f 106], defers := ds.map mark } := by
  refine ⟨fun i => a.tmps.getD i undef, ?_⟩
  obtain ⟨tmps, defers⟩ := a
  have h1 := slots_all tmps h.size
  rw [h.s4, h.s5, h.s6, h.s7, h.s8, h.s9, h.s10] at h1
  have h2 := h.marks
  simp only at h2
  rw [h2]
  exact congrArg (fun t => Act.mk t (ds.map mark)) h1
/-- what is known at each place -/
def LInv (E : LC) (k : Nat) (a : Act) (wr : World) : Prop := ∃ (at_ b10 : Nat) (ao : Option Addr) (n cp : Nat) (N : List Nat) (lv : Value) (H : Nat → Nat) (nv : Value) (ds : List Nat), LFr a E.w.heap.size E.b7 (.slice ao n cp) E.b9 b10 ds ∧ LS E b10 at_ (.slice ao n cp) N lv [] H nv [] wr ∧ (at_ ≤ E.s.length → From E.ss E.s at_ (RR E.ss E.s E.first E.whole at_) N) ∧ (∀ j, j < at_ → ¬ (RR E.ss E.s E.first E.whole j 0 ∧ (E.whole = false ∨ j = E.s.length))) ∧ (∀ q, q < E.ss.length → H q ≤ at_) ∧ N.length ≤ E.ss.length + 1 ∧ at_ ≤ E.s.length + 1 ∧ Marks E.w.heap.size ds wr ∧ k = E.s.length + 1 - at_
/-- how it begins -/
theorem look_start {w wc : World} {c0 c1 c2 c3 c4 c5 c6 c7 : Value} {s : Tx} {whole : Bool} {Q Sb g c q b7 : Nat} {ss : List Sta} (hL : LB w c0 c1 c2 c3 c4 c5 c6 c7 s whole wc) (hW : WK w.heap.size Q Sb g c ss q s.length (.slice none 0 0) [] (fun _ => 0) wc) (hb : Boxed wc b7 52 (.pointer (some ⟨Q, 0, none⟩))) (hQ : w.heap.size ≤ Q) (hS : w.heap.size ≤ Sb) (h7 : w.heap.size ≤ b7) :
    LS ⟨w, s, whole, ss, q, g, c, Q, Sb, b7, wc.heap.size + 1 + 1⟩ (wc.heap.size + 1 + 1 + 1) 0 (.slice (some ⟨wc.heap.size, 0, none⟩) 1 1) [q] (.slice none 0 0) [] (fun _ => 0) (.slice (some ⟨wc.heap.size + 1, 0, none⟩) 0 0) [] ((((wc.alloc (.cells #[.int .i64 q] 3)).alloc (.cells #[] 3)).alloc (.cells #[.slice (some ⟨wc.heap.size + 1, 0, none⟩) 0 0] 58)).alloc (.cells #[.int .i64 0] 3)) := by
  have hsz := hL.bel.size
  have e1 : (wc.alloc (.cells #[.int .i64 q] 3)).heap.size = wc.heap.size + 1 := by simp
  have e2 : ((wc.alloc (.cells #[.int .i64 q] 3)).alloc (.cells #[] 3)).heap.size = wc.heap.size + 1 + 1 := by simp
  have e3 : (((wc.alloc (.cells #[.int .i64 q] 3)).alloc (.cells #[] 3)).alloc (.cells #[.slice (some ⟨wc.heap.size + 1, 0, none⟩) 0 0] 58)).heap.size = wc.heap.size + 1 + 1 + 1 := by simp
  have hB : Below wc.heap.size wc ((((wc.alloc (.cells #[.int .i64 q] 3)).alloc (.cells #[] 3)).alloc (.cells #[.slice (some ⟨wc.heap.size + 1, 0, none⟩) 0 0] 58)).alloc (.cells #[.int .i64 0] 3)) := ((((Below.refl _ wc).alloc (Nat.le_refl _) _).alloc (by simp) _).alloc (by simp; omega) _).alloc (by simp; omega) _
  have h1 : ((((wc.alloc (.cells #[.int .i64 q] 3)).alloc (.cells #[] 3)).alloc (.cells #[.slice (some ⟨wc.heap.size + 1, 0, none⟩) 0 0] 58)).alloc (.cells #[.int .i64 0] 3)).heap[wc.heap.size]? = some (.cells #[.int .i64 q] 3) := by
    rw [Below.heap_alloc _ _ _ (by omega), Below.heap_alloc _ _ _ (by omega), Below.heap_alloc _ _ _ (by omega), World.alloc_heap_new]
  have h2 : ((((wc.alloc (.cells #[.int .i64 q] 3)).alloc (.cells #[] 3)).alloc (.cells #[.slice (some ⟨wc.heap.size + 1, 0, none⟩) 0 0] 58)).alloc (.cells #[.int .i64 0] 3)).heap[wc.heap.size + 1]? = some (.cells #[] 3) := by
    rw [Below.heap_alloc _ _ _ (by omega), Below.heap_alloc _ _ _ (by omega), ← e1, World.alloc_heap_new]
  have h3 : Boxed ((((wc.alloc (.cells #[.int .i64 q] 3)).alloc (.cells #[] 3)).alloc (.cells #[.slice (some ⟨wc.heap.size + 1, 0, none⟩) 0 0] 58)).alloc (.cells #[.int .i64 0] 3)) (wc.heap.size + 1 + 1) 58 (.slice (some ⟨wc.heap.size + 1, 0, none⟩) 0 0) := by
    unfold Boxed
    rw [Below.heap_alloc _ _ _ (by omega), ← e2, World.alloc_heap_new]
  have h4 : Boxed ((((wc.alloc (.cells #[.int .i64 q] 3)).alloc (.cells #[] 3)).alloc (.cells #[.slice (some ⟨wc.heap.size + 1, 0, none⟩) 0 0] 58)).alloc (.cells #[.int .i64 0] 3)) (wc.heap.size + 1 + 1 + 1) 3 (.int .i64 0) := by
    unfold Boxed
    rw [← e3, World.alloc_heap_new]
  have hSl := hW.seen.lt
  generalize ((((wc.alloc (.cells #[.int .i64 q] 3)).alloc (.cells #[] 3)).alloc (.cells #[.slice (some ⟨wc.heap.size + 1, 0, none⟩) 0 0] 58)).alloc (.cells #[.int .i64 0] 3)) = W at hB h1 h2 h3 h4 ⊢
  have h5 := hL.later hB
  refine ⟨h5.bel, hW.later hB, h5.v4, h5.v5, h5.v6, box_keep hb (hB.block _ hb.lt), h3, h4, ⟨rfl, Or.inr ⟨wc.heap.size, 1, #[.int .i64 q], rfl, hsz, h1, Nat.le_refl _, by unfold maxLen; omega, rfl, rfl⟩⟩, ⟨rfl, Or.inr ⟨wc.heap.size + 1, 0, #[], rfl, (by show w.heap.size ≤ wc.heap.size + 1; omega), h2, Nat.le_refl _, by unfold maxLen; omega, rfl, rfl⟩⟩, hQ, hS, h7, ?_, ?_, ?_, ?_, ?_, ?_, ?_, ?_, ?_, ?_, ?_⟩
  · show w.heap.size ≤ wc.heap.size + 1 + 1; omega
  · show w.heap.size ≤ wc.heap.size + 1 + 1 + 1; omega
  · intro k e e2; cases e; simp [Value.ownBlock] at e2
  · intro e; have e9 : Sb = wc.heap.size := by simpa [Value.ownBlock] using e
    omega
  · intro e; have e9 : Sb = wc.heap.size + 1 := by simpa [Value.ownBlock] using e
    omega
  · intro k e; cases e
  · intro k e; cases e
  · intro e; have e9 : wc.heap.size + 1 + 1 + 1 = wc.heap.size := by simpa [Value.ownBlock] using e
    omega
  · intro e; have e9 : wc.heap.size + 1 + 1 + 1 = wc.heap.size + 1 := by simpa [Value.ownBlock] using e
    omega
  · intro e; cases e
  · show wc.heap.size + 1 + 1 + 1 ≠ Sb; omega

set_option maxRecDepth 4000 in
set_option maxHeartbeats 16000000 in
theorem look_any (x : Nd) (v : Value) (s : Tx) (whole : Bool) (w : World) (A : Nat → Prop) (hx : NodeAt w A v x) (hc : cntN x ≤ 1048576) (hr : rightN x = true) (hs : s.length ≤ 90000) :
    Calls Try.prog 25 #[v, S s, .bool whole] w fun e w' => e = .returned (.bool (dec (fun _ => if whole = true then wholeK s x else someK s x) 0)) ∧ Below w.heap.size w w' := by
  have HX := hidden hx
  obtain ⟨z, y0, y1, y2, y3, sa, sn, sc, lo, hi, rfl⟩ := hx.shapeI
  have HB0 := hidden (Below.refl w.heap.size w)
  have HZ0 := hidden (Blk.new w (.int .i64 z) (.int .u64 y0) (.int .u64 y1) (.int .u64 y2) (.int .u64 y3) (.slice sa sn sc) (.int .i64 lo) (.int .i64 hi))
  generalize hRR : (dec (fun _ => if whole = true then wholeK s x else someK s x) 0) = res
  have HRES := hidden hRR
  clear hx hRR
  unfold S
  refine (callsIn_wide (n := 5)).1 (callsIn_of_wp_marks Try.func25 rfl trivial (wpIn_wide.2 (wp_mono (Q := lookPost _ _) ?_ (fun e a w h => lookPost_is e a w h))) rfl)
  simp only [Try.ntmps25, List.size_toArray, List.length_cons, List.length_nil, Nat.reduceAdd, Nat.reduceSub, Array.replicate_succ, Array.replicate_zero, List.push_toArray, List.append_toArray, List.nil_append, List.cons_append]
  go_upto_region 1 with fail
  generalize hW1 : World.alloc _ _ = W1
  have hL : LB w (.int .i64 z) (.int .u64 y0) (.int .u64 y1) (.int .u64 y2) (.int .u64 y3) (.slice sa sn sc) (.int .i64 lo) (.int .i64 hi) s whole W1 := by
    rw [← hW1]
    refine ⟨by (with_reducible (repeat (first | exact HB0.out | apply bel_alloc | apply bel_put | apply bel_set | apply Below.drew | apply below_drewN | omega))), by (with_reducible (repeat (first | exact HZ0.out | exact Blk.newAt (by simp) | apply Blk.alloc | apply Blk.put | apply Blk.putOther | apply Blk.other | apply Blk.drewN | apply Blk.drew | omega))), ?_, ?_, ?_⟩
    · have h9 := ((Boxed.new (w.alloc (.cells #[.int .i64 z, .int .u64 y0, .int .u64 y1, .int .u64 y2, .int .u64 y3, .slice sa sn sc, .int .i64 lo, .int .i64 hi] 26)) 9 (S s)).alloc (.cells #[.bool whole] 4)).alloc (.cells #[.bool false] 4)
      rw [World.size_alloc] at h9; exact h9
    · have h9 := (Boxed.new ((w.alloc (.cells #[.int .i64 z, .int .u64 y0, .int .u64 y1, .int .u64 y2, .int .u64 y3, .slice sa sn sc, .int .i64 lo, .int .i64 hi] 26)).alloc (.cells #[S s] 9)) 4 (.bool whole)).alloc (.cells #[.bool false] 4)
      rw [World.size_alloc, World.size_alloc] at h9; exact h9
    · have h9 := Boxed.new (((w.alloc (.cells #[.int .i64 z, .int .u64 y0, .int .u64 y1, .int .u64 y2, .int .u64 y3, .slice sa sn sc, .int .i64 lo, .int .i64 hi] 26)).alloc (.cells #[S s] 9)).alloc (.cells #[.bool whole] 4)) 4 (.bool false)
      rw [World.size_alloc, World.size_alloc, World.size_alloc] at h9; exact h9
  obtain ⟨b0, b1, b2, b3, b4, b5, b6, b7⟩ := hL.blk.cells
  have hbl := hL.blk.lt
  have hbl4 := hL.v4.lt
  have x4 : W1.cell? ⟨w.heap.size + 1, 0, none⟩ = some (.string ⟨s.toArray⟩) := hL.v4.cell
  clear hW1
  go_cut [7] from 13 to 17 (fun v7 wx => ∃ (b7 Q Sb q g c : Nat) (ss : List Sta), v7 = .pointer (some ⟨b7, 0, none⟩) ∧ LB w (.int .i64 z) (.int .u64 y0) (.int .u64 y1) (.int .u64 y2) (.int .u64 y3) (.slice sa sn sc) (.int .i64 lo) (.int .i64 hi) s whole wx ∧ WK w.heap.size Q Sb g c ss q s.length (.slice none 0 0) [] (fun _ => 0) wx ∧ Boxed wx b7 52 (.pointer (some ⟨Q, 0, none⟩)) ∧ w.heap.size ≤ Q ∧ w.heap.size ≤ Sb ∧ w.heap.size ≤ b7 ∧ Mach x ss q)
  case first =>
    have hbs := hL.bel.size
    go_region_with (first
      | (go_at_call 33; refine (layOut_kept (w := w) (c0 := .int .i64 z) (c1 := .int .u64 y0) (c2 := .int .u64 y1) (c3 := .int .u64 y2) (c4 := .int .u64 y3) (c5 := .slice sa sn sc) (c6 := .int .i64 lo) (c7 := .int .i64 hi) (s := s) (whole := whole) x A _ HX.out hc hr ?_).mono ?_; (· repeat (first | assumption | apply LB.drew | apply LB.alloc)); rintro e w3 ⟨q3, g3, cp3, ss, rfl, hL3, ho3, hMc, hb3⟩; have x4' : w3.cell? ⟨w.heap.size + 1, 0, none⟩ = some (.string ⟨s.toArray⟩) := hL3.v4.cell; have x4l := hL3.v4.lt; try have x7 : Boxed w3 W1.heap.size 52 (.pointer none) := box_keep (Boxed.new W1.drew 52 (.pointer none)) (hb3.block _ (by simp)))
      | (go_at_call 32; refine (newWalk_kept (w := w) (c0 := .int .i64 z) (c1 := .int .u64 y0) (c2 := .int .u64 y1) (c3 := .int .u64 y2) (c4 := .int .u64 y3) (c5 := .slice sa sn sc) (c6 := .int .i64 lo) (c7 := .int .i64 hi) (s := s) (whole := whole) q3 g3 cp3 ss hMc.len hs ?_ ?_).mono ?_; (· repeat (first | assumption | apply LB.drew | apply LB.alloc)); (· first | exact ho3 | exact owns_keep ho3 (fun k e => Below.heap_alloc _ _ _ (ho3.lt k e).2)); rintro e w4 ⟨Q, Sb, rfl, hL4, hWK, hQ0, hS0, hb4⟩; (try have x8 : Boxed w4 W1.heap.size 52 (.pointer none) := box_keep x7 (hb4.block _ x7.lt)); (try have x8 : Boxed w4 w3.heap.size 52 (.pointer none) := box_keep (Boxed.new w3 52 (.pointer none)) (hb4.block _ (by simp))); (try have x8c := x8.cell); (try have x8f := x8.frozen)))
    all_goals
      have hb3s := hL3.bel.size
      have hb4s := hL4.bel.size
      go_wp2_with fail
      go_meet
      first
        | exact ⟨_, Q, Sb, q3, g3, cp3, ss, rfl, (rel_set hL4 hWK x8 (by omega)).1, (rel_set hL4 hWK x8 (by omega)).2.1, (rel_set hL4 hWK x8 (by omega)).2.2, hQ0, hS0, by omega, hMc⟩
        | exact ⟨_, Q, Sb, q3, g3, cp3, ss, rfl, (rel_new hL4 hWK).1, (rel_new hL4 hWK).2.1, (rel_new hL4 hWK).2.2, hQ0, hS0, by omega, hMc⟩
  case rest =>
    obtain ⟨b7, Q, Sb, q, g, c, ss, rfl, hL, hWK, hb7, hQ0, hS0, h70, hMc⟩ := hcut
    have x7 := hb7.cell
    have x7l := hb7.lt
    obtain ⟨k0, k1, k2, k3, k4⟩ := hWK.wb.cells
    have kl := hWK.wb.lt
    have HLS := hidden (look_start hL hWK hb7 hQ0 hS0 h70)
    have HMC := hidden hMc
    have HFI := hidden (found_is (s := s) (whole := whole) hMc)
    clear hL hWK hb7 hMc b0 b1 b2 b3 b4 b5 b6 hbl hbl4 x4 hQ0 hS0 h70
    go_upto_region 4 with fail
    generalize hW0 : World.alloc _ _ = W0
    rw [hW0] at HLS
    have HM0 := hidden (show Marks w.heap.size [] W0 from ⟨List.nodup_nil, fun D hD => by simp at hD⟩)
    generalize hb9 : wc.heap.size + 1 + 1 = b9 at HLS ⊢
    clear hW0 x7 x7l k0 k1 k2 k3 k4 kl
    obtain ⟨E, hE⟩ : ∃ E : LC, E = ⟨w, s, whole, ss, q, g, c, Q, Sb, b7, b9⟩ := ⟨_, rfl⟩
    refine wp_loop_ghost (LInv E) (s.length + 1) ?h0 ?round
    case h0 =>
      subst hE
      exact ⟨0, b9 + 1, _, _, _, [q], _, _, _, [], ⟨rfl, rfl, rfl, rfl, rfl, rfl, rfl, rfl, rfl⟩, HLS.out, fun _ => from_zero HMC.out.at_, fun j hj => by omega, fun _ _ => Nat.le_refl _, by simp, by omega, HM0.out, rfl⟩
    case round =>
      rintro k a wr ⟨at_, b10, ao, n, cp, N, lv, H, nv, ds, hFra, hLS, hFr, hNo, hH, hNl, hat, hMk, hk⟩
      obtain ⟨f, rfl⟩ := hFra.frame
      clear hFra
      subst hE
      simp only at hFr hNo hH hNl hat hMk hk
      obtain rfl : n = N.length := by
        rcases hLS.now.2 with ⟨e, e2⟩ | ⟨g', cap, cur, hv, _⟩
        · cases e; exact e2.symm
        · cases hv; rfl
      have y4 : wr.cell? ⟨w.heap.size + 1, 0, none⟩ = some (.string ⟨s.toArray⟩) := hLS.v4.cell
      have y5 : wr.cell? ⟨w.heap.size + 1 + 1, 0, none⟩ = some (.bool whole) := hLS.v5.cell
      have y6 : wr.cell? ⟨w.heap.size + 1 + 1 + 1, 0, none⟩ = some (.bool false) := hLS.v6.cell
      have y6f : wr.frozen? ⟨w.heap.size + 1 + 1 + 1, 0, none⟩ = false := hLS.v6.frozen
      have y6l : w.heap.size + 1 + 1 + 1 < wr.heap.size := hLS.v6.lt
      have y7 : wr.cell? ⟨b7, 0, none⟩ = some (.pointer (some ⟨Q, 0, none⟩)) := hLS.v7.cell
      have y10 : wr.cell? ⟨b10, 0, none⟩ = some (.int .i64 at_) := hLS.v10.cell
      have HLS := hidden hLS
      have HMK := hidden hMk
      have HNO := hidden hNo
      have HFR := hidden hFr
      have HH := hidden hH
      have HK := hidden hk
      clear hLS hMk hNo hFr hH hk
      by_cases hle : at_ ≤ s.length
      · have hlei : (at_ : Int) ≤ s.length := by omega
        by_cases hN0 : N = []
        · subst hN0
          have HNF := hidden (not_found_none HNO.out hle (HFR.out hle))
          go_wp2_with fail
          exact leaves_marks rfl rfl (fun W hB => ⟨by rw [← HRES.out, dec_false.2 (fun h => HNF.out (HFI.out.2 h))], hB⟩) ds _ (HMK.out.keeps (KeepsOthers.setCell _ _ _)) (Boxed.set _ HLS.out.v6) (bel_set HLS.out.bel (by show w.heap.size ≤ _; omega))
        · have hN1 : (0 : Int) < N.length := by
            cases N with
            | nil => exact absurd rfl hN0
            | cons p l => simp
          go_wp2_with fail
          refine (reached_any Q ao N.length cp at_ _).mono ?_
          rintro e w2 ⟨rfl, hw2⟩
          have HRI0 := hidden (RI.start HLS.out)
          rw [← hw2] at HRI0
          have HM2 := hidden (show Marks w.heap.size ds w2 from HMK.out.keeps (by rw [hw2]; exact ((KeepsOthers.alloc _ _).trans (KeepsOthers.alloc _ _)).trans (KeepsOthers.alloc _ _)))
          have hw2s : w.heap.size ≤ w2.heap.size := HRI0.out.ls.bel.size
          clear hw2 y4 y5 y6 y6f y7 y10
          go_wp2_with fail
          refine wp_range_cells (gf := 44) (lb := #[.pointer (some ⟨wr.heap.size, 0, none⟩), .pointer (some ⟨wr.heap.size + 1, 0, none⟩), .pointer (some ⟨wr.heap.size + 1 + 1, 0, none⟩)]) rfl (enters_of Try.func44 (by kernel_rfl) rfl) rfl (RI ⟨w, s, whole, ss, q, g, c, Q, Sb, b7, b9⟩ b10 at_ wr.heap.size (.slice ao N.length cp) N) (RIx ⟨w, s, whole, ss, q, g, c, Q, Sb, b7, b9⟩) (RStep ⟨w, s, whole, ss, q, g, c, Q, Sb, b7, b9⟩ at_) (RDone ⟨w, s, whole, ss, q, g, c, Q, Sb, b7, b9⟩ at_ N) (fun x W o h => h.later ((Below.refl _ W).alloc (Nat.le_refl _) o)) (fun x W l o o' h hl ho hc => h.putObj o' (Nat.le_trans hw2s hl) ho hc) (fun c W l o o' h hl ho hc => h.putObj o' (Nat.le_trans hw2s hl) ho hc) ⟨fun _ => False, lv, [], H, 0, nv, []⟩ HRI0.out ?hround (iter_law ⟨w, s, whole, ss, q, g, c, Q, Sb, b7, b9⟩ b10 at_ wr.heap.size (.slice ao N.length cp) N HMC.out hs hle (by have := HMC.out.len; omega) (HFR.out hle) lv H nv HH.out) ?hdone ?hstop
          case hround =>
            rintro l x y0 v W W2 hI hI2 ⟨qq, rfl, hSk, _⟩
            have hsem : ∀ (ρ : Operand → Value) (o : Oper), (∀ c, o.op ≠ .defer c) → Oper.semAt (some l) ρ o = execOp ρ o := fun ρ o h => Oper.semAt_some l ρ o h
            clear hI
            obtain ⟨T, lv1, L1, H1, K1, nv1, X1⟩ := x
            have hqn := hSk.told qq (Or.inr rfl)
            simp only at hqn
            obtain ⟨t, ht⟩ : ∃ t, ss[qq]? = some t := ⟨_, List.getElem?_eq_getElem hqn.2⟩
            have htw := HMC.out.all qq t ht
            have hwf := fun h => HMC.out.wf qq t h ht
            obtain ⟨kd, fs, nx, ot⟩ := t
            simp only at htw hwf
            obtain ⟨s0, s1, s2, s3, s4, s5, s6⟩ := hI2.ls.wk.sta ht
            obtain ⟨k0, k1, k2, k3, k4⟩ := hI2.ls.wk.wb.cells
            have z4 : W2.cell? ⟨w.heap.size + 1, 0, none⟩ = some (.string ⟨s.toArray⟩) := hI2.ls.v4.cell
            have z5 : W2.cell? ⟨w.heap.size + 1 + 1, 0, none⟩ = some (.bool whole) := hI2.ls.v5.cell
            have z6 : W2.cell? ⟨w.heap.size + 1 + 1 + 1, 0, none⟩ = some (.bool false) := hI2.ls.v6.cell
            have z6f : W2.frozen? ⟨w.heap.size + 1 + 1 + 1, 0, none⟩ = false := hI2.ls.v6.frozen
            have z7 : W2.cell? ⟨b7, 0, none⟩ = some (.pointer (some ⟨Q, 0, none⟩)) := hI2.ls.v7.cell
            have z10 : W2.cell? ⟨b10, 0, none⟩ = some (.int .i64 at_) := hI2.ls.v10.cell
            have hqi : (qq : Int) < ss.length := by omega
            have hmx : Try.prog.follows .mixedOrders = true := by kernel_rfl
            have hNE : Nonempty (BX W2) := ⟨⟨W2, Below.refl _ W2⟩⟩
            have hBX : ∀ (p : BX W2) (b o : Nat), b < W2.heap.size → p.X.cell? ⟨b, o, none⟩ = W2.cell? ⟨b, o, none⟩ := fun p b o h => p.cell ⟨b, o, none⟩ h
            have l4 : w.heap.size + 1 < W2.heap.size := hI2.ls.v4.lt
            have l5 : w.heap.size + 1 + 1 < W2.heap.size := hI2.ls.v5.lt
            have l10 : b10 < W2.heap.size := hI2.ls.v10.lt
            have lg : g < W2.heap.size := (hI2.ls.wk.st.lt g rfl).2
            have HI2 := hidden hI2
            have HSK := hidden hSk
            have HT := hidden ht
            have HQN := hidden hqn
            have HTW := hidden htw
            simp only at k0 k1 k2 k3 k4 s0 s1 s2 s3 s4 s5 s6
            clear hI2 hSk ht
            simp only [List.zip_toArray, List.zip_cons_cons, List.zip_nil_right]
            by_cases hk0 : kd = 0
            · subst hk0
              obtain rfl : qq = 0 := by
                by_cases e : qq = 0
                · exact e
                · have := hwf (by omega); omega
              clear hwf htw hqn
              cases whole with
              | false =>
                gi_wp2
                exact ⟨KeepsOthers.setCell _ _ _, rfl, Boxed.set _ HI2.out.ls.v6, bel_set HI2.out.ls.bel (by show w.heap.size ≤ _; omega), ⟨at_, HQN.out.1, Or.inl rfl⟩⟩
              | true =>
                by_cases hal : at_ = s.length
                · have hali : (at_ : Int) = s.length := by omega
                  have HAL := hidden hal
                  clear hal
                  gi_wp2
                  exact ⟨KeepsOthers.setCell _ _ _, rfl, Boxed.set _ HI2.out.ls.v6, bel_set HI2.out.ls.bel (by show w.heap.size ≤ _; omega), ⟨at_, HQN.out.1, Or.inr HAL.out⟩⟩
                · have hali : ¬ (at_ : Int) = s.length := by omega
                  have hali2 : ((at_ : Int) == s.length) = false := by rw [beq_eq_false_iff_ne]; exact hali
                  gi_wp2
                  refine wpIn_region_round_quiet (l := l) hmx (by kernel_rfl) (fun h => by obtain ⟨_, _, h⟩ := h; exact h) (by kernel_rfl) ?_
                  repeat (go_big_quiet_step (fail))
                  refine wpQuiet_nil ?_
                  intro _ hw9
                  obtain ⟨p9, rfl⟩ := hw9
                  gi_wp2
                  exact ⟨p9.others, ⟨fun p => T p ∨ p = 0, lv1, L1, H1, K1 + 1, nv1, X1⟩, ⟨0, rfl, HSK.out, rfl, rfl, rfl, rfl, rfl⟩, (HI2.out.idle HT.out (fun h => by cases h.1) (fun _ h => by rcases h with h | h; (· cases h); exact hal h)).later p9.h⟩
            · have hkz : ¬ (kd : Int) = 0 := by omega
              have hkz2 : ((kd : Int) == 0) = false := by rw [beq_eq_false_iff_ne]; exact hkz
              have hkz3 : decide ((kd : Int) = 0) = false := decide_eq_false hkz
              have hq0 : qq ≠ 0 := fun e => by
                subst e
                obtain ⟨t0, h1, h2⟩ := HMC.out.zero
                rw [HT.out] at h1
                cases h1
                exact hk0 h2
              clear hwf htw hqn
              by_cases hk2 : kd = 2
              · subst hk2
                replace s0 : W2.cell? ⟨g, qq * 7, none⟩ = some (.int .i64 2) := s0
                clear hkz hkz2 hkz3
                by_cases hal : at_ < s.length
                · have hali : (at_ : Int) < s.length := by omega
                  obtain ⟨xb, hxb⟩ : ∃ xb, s.getD at_ 0 = xb := ⟨_, rfl⟩
                  have hbx : ∀ h, (⟨s.toArray⟩ : ByteArray)[at_]'h = xb := fun h => by rw [byte_at, hxb]
                  have HXB := hidden hxb
                  clear hxb
                  gi_wp2
                  all_goals try exact undef_no (by assumption)
                  refine wpIn_region_round_quiet (l := l) hmx (by kernel_rfl) (fun h => by obtain ⟨_, _, h⟩ := h; exact h) (by kernel_rfl) ?_
                  repeat (go_big_quiet_step ((rename_i p8; refine (has_any fs xb _).mono ?_; rintro e w5 ⟨rfl, hb5⟩; exact ⟨rfl, ⟨w5, p8.h.trans (hb5.mono p8.h.size)⟩, rfl⟩)))
                  refine wpQuiet_nil ?_
                  intro _ hw9
                  obtain ⟨p9, rfl⟩ := hw9
                  cases hfx : fs xb.toNat with
                  | false =>
                    gi_wp2
                    exact ⟨p9.others, ⟨fun p => T p ∨ p = qq, lv1, L1, H1, K1 + 1, nv1, X1⟩, ⟨qq, rfl, HSK.out, rfl, rfl, rfl, rfl, rfl⟩, (HI2.out.idle HT.out (fun h => by have h9 := h.2.2; rw [show (List.getD s at_ 0) = xb from HXB.out] at h9; rw [show fs xb.toNat = true from h9] at hfx; cases hfx) (fun e => absurd e hq0)).later p9.h⟩
                  | true =>
                    have HFX := hidden hfx
                    clear hfx
                    have HI5 := hidden (HI2.out.later p9.h)
                    have hXl : X1.length < 1048576 := by have h1 := HI2.out.x1; have h2 := HSK.out.cnt; have h3 := HMC.out.len; simp only at h1 h2; omega
                    obtain ⟨s0, s1, s2, s3, s4, s5, s6⟩ := HI5.out.ls.wk.sta HT.out
                    have z9 : p9.X.cell? ⟨b9, 0, none⟩ = some nv1 := HI5.out.ls.v9.cell
                    have l9 : b9 < p9.X.heap.size := HI5.out.ls.v9.lt
                    have lg9 : g < p9.X.heap.size := (HI5.out.ls.wk.st.lt g rfl).2
                    simp only at s0 s1 s2 s3 s4 s5 s6
                    gi_wp2
                    refine wpIn_region_round (l := l) hmx (by kernel_rfl) (fun h => by obtain ⟨_, _, h⟩ := h; exact h) ?_
                    refine wpAny_take (i := 1) (v := ?_) rfl (by kernel_rfl) (by kernel_rfl) (by kernel_rfl) (fun _ _ _ h => h) (Or.inl ⟨by rfl, ?_⟩) ?_
                    case refine_2 => (intro w; go_simp; try rfl)
                    refine wpAny_take (i := 2) (v := ?_) rfl (by kernel_rfl) (by kernel_rfl) (by kernel_rfl) (fun _ _ _ h => h) (Or.inl ⟨by rfl, ?_⟩) ?_
                    case refine_2 => (intro w; go_simp; try rfl)
                    refine wpAny_take (i := 3) (v := ?_) rfl (by kernel_rfl) (by kernel_rfl) (by kernel_rfl) (fun _ _ _ h => h) (Or.inl ⟨by rfl, ?_⟩) ?_
                    case refine_2 => (intro w; go_simp; try rfl)
                    refine wpAny_ready (rs := [0, 4]) (by kernel_rfl) (by simp) ?_
                    refine AllReady.cons rfl (fun K hK => ?_) ?_
                    · go_simp
                      refine hK _ _ ?_
                      clear hK K
                      refine wpAny_ready (rs := [4]) (by kernel_rfl) (by simp) ?_
                      refine AllReady.cons rfl (fun K hK => ?_) ?_
                      · go_simp
                        refine hK _ _ ?_
                        clear hK K
                        refine wpAny_ready (rs := [5]) (by kernel_rfl) (by simp) ?_
                        refine AllReady.cons rfl (fun K hK => ?_) ?_
                        · go_simp
                          refine hK _ _ ?_
                          clear hK K
                          refine wpAny_ready (rs := [6]) (by kernel_rfl) (by simp) ?_
                          refine AllReady.cons rfl (fun K hK => ?_) ?_
                          · refine step_append_int rfl (.tmp 86) (.tmp 91) rfl w.heap.size p9.X.heap.size nv1 X1 nx (by simp [Act.eval]) (by simp [Act.eval]) (owns_keep HI5.out.ls.next (fun k e => Below.heap_alloc _ _ _ (HI5.out.ls.next.lt k e).2)) (cell_first _ _ _) hXl (by have h8 := HI5.out.ls.bel.size; simp only at h8; simp; omega) ?_
                            intro g9 c9 w9 hown9 hg9 hl9
                            have hbk9 : w9.heap[b9]? = p9.X.heap[b9]? := (hg9.block b9 (by simp; omega) (HI5.out.ls.v9.not_row (by decide) HI5.out.ls.next)).trans (Below.heap_alloc _ _ _ l9)
                            have hv9 := box_keep HI5.out.ls.v9 hbk9
                            have cc9 : w9.cell? ⟨b9, 0, none⟩ = some nv1 := hv9.cell
                            have ff9 : w9.frozen? ⟨b9, 0, none⟩ = false := hv9.frozen
                            refine hK _ _ ?_
                            clear hK K
                            refine wpAny_ready (rs := [7]) (by kernel_rfl) (by simp) ?_
                            refine AllReady.cons rfl (fun K hK => ?_) ?_
                            · go_simp
                              refine hK _ _ ?_
                              clear hK K
                              refine wpAny_done (by kernel_rfl) ?_ _
                              have HAP := hidden (HI5.out.push (g9 := g9) (c9 := c9) HT.out rfl hal (by rw [show (List.getD s at_ 0) = xb from HXB.out]; exact HFX.out) HTW.out.2.1 HQN.out.1 hq0 (w1 := p9.X.drew.alloc (.cells #[.int .i64 nx] 3)) (((Below.refl _ p9.X).drew).alloc (Nat.le_refl _) _) hown9 hg9 hl9)
                              have HKO := hidden (((p9.others.trans (KeepsOthers.drew _)).trans (KeepsOthers.alloc _ _)).trans (KeepsOthers.of_grownBy hg9 (fun j o ej hj => by obtain ⟨⟨cs, ty, fr, hc9⟩, _⟩ := IsC.row HI5.out.ls.next ej; rw [show (p9.X.drew.alloc (Obj.cells #[Value.int IntKind.i64 nx] 3)).heap[j]? = p9.X.heap[j]? from Below.heap_alloc p9.X.drew _ j (HI5.out.ls.next.lt j ej).2, hc9] at hj; cases hj; rfl)))
                              gi_wp2
                              exact ⟨HKO.out.trans (KeepsOthers.setCell _ _ _), ⟨fun p => T p ∨ p = qq, lv1, L1, H1, K1 + 1, .slice (some ⟨g9, 0, none⟩) (X1.length + 1) c9, X1 ++ [nx]⟩, ⟨qq, rfl, HSK.out, rfl, rfl, rfl, rfl, rfl⟩, HAP.out⟩
                            exact AllReady.nil
                          exact AllReady.nil
                        exact AllReady.nil
                      exact AllReady.nil
                    refine AllReady.cons rfl (fun K hK => ?_) ?_
                    · go_simp
                      refine hK _ _ ?_
                      clear hK K
                      refine wpAny_ready (rs := [0, 5]) (by kernel_rfl) (by simp) ?_
                      refine AllReady.cons rfl (fun K hK => ?_) ?_
                      · go_simp
                        refine hK _ _ ?_
                        clear hK K
                        refine wpAny_ready (rs := [5]) (by kernel_rfl) (by simp) ?_
                        refine AllReady.cons rfl (fun K hK => ?_) ?_
                        · go_simp
                          refine hK _ _ ?_
                          clear hK K
                          refine wpAny_ready (rs := [6]) (by kernel_rfl) (by simp) ?_
                          refine AllReady.cons rfl (fun K hK => ?_) ?_
                          · refine step_append_int rfl (.tmp 86) (.tmp 91) rfl w.heap.size p9.X.heap.size nv1 X1 nx (by simp [Act.eval]) (by simp [Act.eval]) (owns_keep HI5.out.ls.next (fun k e => Below.heap_alloc _ _ _ (HI5.out.ls.next.lt k e).2)) (cell_first _ _ _) hXl (by have h8 := HI5.out.ls.bel.size; simp only at h8; simp; omega) ?_
                            intro g9 c9 w9 hown9 hg9 hl9
                            have hbk9 : w9.heap[b9]? = p9.X.heap[b9]? := (hg9.block b9 (by simp; omega) (HI5.out.ls.v9.not_row (by decide) HI5.out.ls.next)).trans (Below.heap_alloc _ _ _ l9)
                            have hv9 := box_keep HI5.out.ls.v9 hbk9
                            have cc9 : w9.cell? ⟨b9, 0, none⟩ = some nv1 := hv9.cell
                            have ff9 : w9.frozen? ⟨b9, 0, none⟩ = false := hv9.frozen
                            refine hK _ _ ?_
                            clear hK K
                            refine wpAny_ready (rs := [7]) (by kernel_rfl) (by simp) ?_
                            refine AllReady.cons rfl (fun K hK => ?_) ?_
                            · go_simp
                              refine hK _ _ ?_
                              clear hK K
                              refine wpAny_done (by kernel_rfl) ?_ _
                              have HAP := hidden (HI5.out.push (g9 := g9) (c9 := c9) HT.out rfl hal (by rw [show (List.getD s at_ 0) = xb from HXB.out]; exact HFX.out) HTW.out.2.1 HQN.out.1 hq0 (w1 := p9.X.drew.alloc (.cells #[.int .i64 nx] 3)) (((Below.refl _ p9.X).drew).alloc (Nat.le_refl _) _) hown9 hg9 hl9)
                              have HKO := hidden (((p9.others.trans (KeepsOthers.drew _)).trans (KeepsOthers.alloc _ _)).trans (KeepsOthers.of_grownBy hg9 (fun j o ej hj => by obtain ⟨⟨cs, ty, fr, hc9⟩, _⟩ := IsC.row HI5.out.ls.next ej; rw [show (p9.X.drew.alloc (Obj.cells #[Value.int IntKind.i64 nx] 3)).heap[j]? = p9.X.heap[j]? from Below.heap_alloc p9.X.drew _ j (HI5.out.ls.next.lt j ej).2, hc9] at hj; cases hj; rfl)))
                              gi_wp2
                              exact ⟨HKO.out.trans (KeepsOthers.setCell _ _ _), ⟨fun p => T p ∨ p = qq, lv1, L1, H1, K1 + 1, .slice (some ⟨g9, 0, none⟩) (X1.length + 1) c9, X1 ++ [nx]⟩, ⟨qq, rfl, HSK.out, rfl, rfl, rfl, rfl, rfl⟩, HAP.out⟩
                            exact AllReady.nil
                          exact AllReady.nil
                        exact AllReady.nil
                      refine AllReady.cons rfl (fun K hK => ?_) ?_
                      · go_simp
                        refine hK _ _ ?_
                        clear hK K
                        refine wpAny_ready (rs := [0]) (by kernel_rfl) (by simp) ?_
                        refine AllReady.cons rfl (fun K hK => ?_) ?_
                        · go_simp
                          refine hK _ _ ?_
                          clear hK K
                          refine wpAny_ready (rs := [6]) (by kernel_rfl) (by simp) ?_
                          refine AllReady.cons rfl (fun K hK => ?_) ?_
                          · refine step_append_int rfl (.tmp 86) (.tmp 91) rfl w.heap.size p9.X.heap.size nv1 X1 nx (by simp [Act.eval]) (by simp [Act.eval]) (owns_keep HI5.out.ls.next (fun k e => Below.heap_alloc _ _ _ (HI5.out.ls.next.lt k e).2)) (cell_first _ _ _) hXl (by have h8 := HI5.out.ls.bel.size; simp only at h8; simp; omega) ?_
                            intro g9 c9 w9 hown9 hg9 hl9
                            have hbk9 : w9.heap[b9]? = p9.X.heap[b9]? := (hg9.block b9 (by simp; omega) (HI5.out.ls.v9.not_row (by decide) HI5.out.ls.next)).trans (Below.heap_alloc _ _ _ l9)
                            have hv9 := box_keep HI5.out.ls.v9 hbk9
                            have cc9 : w9.cell? ⟨b9, 0, none⟩ = some nv1 := hv9.cell
                            have ff9 : w9.frozen? ⟨b9, 0, none⟩ = false := hv9.frozen
                            refine hK _ _ ?_
                            clear hK K
                            refine wpAny_ready (rs := [7]) (by kernel_rfl) (by simp) ?_
                            refine AllReady.cons rfl (fun K hK => ?_) ?_
                            · go_simp
                              refine hK _ _ ?_
                              clear hK K
                              refine wpAny_done (by kernel_rfl) ?_ _
                              have HAP := hidden (HI5.out.push (g9 := g9) (c9 := c9) HT.out rfl hal (by rw [show (List.getD s at_ 0) = xb from HXB.out]; exact HFX.out) HTW.out.2.1 HQN.out.1 hq0 (w1 := p9.X.drew.alloc (.cells #[.int .i64 nx] 3)) (((Below.refl _ p9.X).drew).alloc (Nat.le_refl _) _) hown9 hg9 hl9)
                              have HKO := hidden (((p9.others.trans (KeepsOthers.drew _)).trans (KeepsOthers.alloc _ _)).trans (KeepsOthers.of_grownBy hg9 (fun j o ej hj => by obtain ⟨⟨cs, ty, fr, hc9⟩, _⟩ := IsC.row HI5.out.ls.next ej; rw [show (p9.X.drew.alloc (Obj.cells #[Value.int IntKind.i64 nx] 3)).heap[j]? = p9.X.heap[j]? from Below.heap_alloc p9.X.drew _ j (HI5.out.ls.next.lt j ej).2, hc9] at hj; cases hj; rfl)))
                              gi_wp2
                              exact ⟨HKO.out.trans (KeepsOthers.setCell _ _ _), ⟨fun p => T p ∨ p = qq, lv1, L1, H1, K1 + 1, .slice (some ⟨g9, 0, none⟩) (X1.length + 1) c9, X1 ++ [nx]⟩, ⟨qq, rfl, HSK.out, rfl, rfl, rfl, rfl, rfl⟩, HAP.out⟩
                            exact AllReady.nil
                          exact AllReady.nil
                        exact AllReady.nil
                      exact AllReady.nil
                    exact AllReady.nil
                · have hali : ¬ (at_ : Int) < s.length := by omega
                  gi_wp2
                  all_goals try exact undef_no (by assumption)
                  refine wpIn_region_round_quiet (l := l) hmx (by kernel_rfl) (fun h => by obtain ⟨_, _, h⟩ := h; exact h) (by kernel_rfl) ?_
                  repeat (go_big_quiet_step (fail))
                  refine wpQuiet_nil ?_
                  intro _ hw9
                  obtain ⟨p9, rfl⟩ := hw9
                  gi_wp2
                  exact ⟨p9.others, ⟨fun p => T p ∨ p = qq, lv1, L1, H1, K1 + 1, nv1, X1⟩, ⟨qq, rfl, HSK.out, rfl, rfl, rfl, rfl, rfl⟩, (HI2.out.idle HT.out (fun h => hal h.2.1) (fun e => absurd e hq0)).later p9.h⟩
              · have hkt : ¬ (kd : Int) = 2 := by omega
                have hkt2 : ((kd : Int) == 2) = false := by rw [beq_eq_false_iff_ne]; exact hkt
                have hkt3 : decide ((kd : Int) = 2) = false := decide_eq_false hkt
                gi_wp2
                all_goals try exact undef_no (by assumption)
                refine wpIn_region_round_quiet (l := l) hmx (by kernel_rfl) (fun h => by obtain ⟨_, _, h⟩ := h; exact h) (by kernel_rfl) ?_
                repeat (go_big_quiet_step (fail))
                refine wpQuiet_nil ?_
                intro _ hw9
                obtain ⟨p9, rfl⟩ := hw9
                gi_wp2
                exact ⟨p9.others, ⟨fun p => T p ∨ p = qq, lv1, L1, H1, K1 + 1, nv1, X1⟩, ⟨qq, rfl, HSK.out, rfl, rfl, rfl, rfl, rfl⟩, (HI2.out.idle HT.out (fun h => hk2 h.1) (fun e => absurd e hq0)).later p9.h⟩
          case hstop =>
            rintro D c W hD ⟨rfl, hb6, hbel, hF⟩ hK hold
            have HMD := hidden (HM2.out.cons hw2s hD hK hold)
            clear hold
            go_wp2_with fail
            exact leaves_marks rfl rfl (fun W hB => ⟨by rw [← HRES.out, dec_true.2 (HFI.out.1 hF)], hB⟩) (D :: ds) _ HMD.out hb6 hbel
          case hdone =>
            rintro D x W hD ⟨hL0, hSk, hTN⟩ hI hK hold
            have HMD := hidden (HM2.out.cons hw2s hD hK hold)
            obtain ⟨T, lv1, L1, H1, K1, nv1, X1⟩ := x
            simp only at hL0 hSk hTN
            subst hL0
            have hall := hSk.all hTN (HFR.out hle).2
            have hXl : X1.length ≤ ss.length := by have h1 := hI.x1; have h2 := hSk.cnt; simp only at h1; simp at h2; omega
            have HX2 := hidden hI.x2
            have HX3 := hidden hI.x3
            have HX4 := hidden hI.x4
            have HALL := hidden hall
            have HMO := hidden hSk.most
            have hLS := hI.ls
            simp only at hLS
            have h9f := owns_form hLS.next
            obtain ⟨ao1, cp1, rfl⟩ : ∃ ao1 cp1, nv1 = .slice ao1 X1.length cp1 := by
              rcases h9f with ⟨e1, e2⟩ | ⟨g1, c1, e1, _⟩
              · subst e2; exact ⟨none, 0, e1⟩
              · exact ⟨_, c1, e1⟩
            have z9 : W.cell? ⟨b9, 0, none⟩ = some (.slice ao1 X1.length cp1) := hLS.v9.cell
            have z9f : W.frozen? ⟨b9, 0, none⟩ = false := hLS.v9.frozen
            have l9 : b9 < W.heap.size := hLS.v9.lt
            have HLS2 := hidden (hLS.swap.later ((Below.refl _ _).drew))
            have HMS := hidden (HMD.out.keeps ((KeepsOthers.setCell W ⟨b9, 0, none⟩ (.slice ao 0 cp)).trans (KeepsOthers.drew _)))
            have hMl := HMC.out.len
            clear hI hLS hall hSk hTN hold hK h9f
            go_wp2_with fail
            go_region
            generalize hW3 : World.drew _ = W3
            rw [hW3] at HLS2 HMS
            have z5 : W3.cell? ⟨w.heap.size + 1 + 1, 0, none⟩ = some (.bool whole) := HLS2.out.v5.cell
            have z7 : W3.cell? ⟨b7, 0, none⟩ = some (.pointer (some ⟨Q, 0, none⟩)) := HLS2.out.v7.cell
            have z10 : W3.cell? ⟨b10, 0, none⟩ = some (.int .i64 at_) := HLS2.out.v10.cell
            have l10 : b10 < W3.heap.size := HLS2.out.v10.lt
            have zq : W3.cell? ⟨Q, 1, none⟩ = some (.int .i64 q) := HLS2.out.wk.wb.cells.2.1
            have hws3 : w.heap.size ≤ W3.heap.size := HLS2.out.bel.size
            clear hW3 z9 z9f l9
            have HNX := hidden (show ∀ j, j < at_ + 1 → ¬ (RR ss s q whole j 0 ∧ (whole = false ∨ j = s.length)) from fun j hj h => by
              by_cases e : j < at_
              · exact HNO.out j e h
              · obtain rfl : j = at_ := by omega
                exact HX4.out (HALL.out 0 h.1) h.2)
            cases whole with
            | true =>
              go_wp2_with fail
              exact ⟨s.length + 1 - (at_ + 1), by have := HK.out; omega, at_ + 1, W3.heap.size, ao1, X1.length, cp1, X1, lv1, H1, .slice ao 0 cp, D :: ds, ⟨rfl, rfl, rfl, rfl, rfl, rfl, rfl, rfl, rfl⟩, HLS2.out.newAt (at_ + 1), fun _ => from_next HMC.out.at_ (Or.inr rfl) HALL.out HX2.out HX3.out rfl, HNX.out, HMO.out, Nat.le_succ_of_le hXl, Nat.succ_le_succ hle, HMS.out.keeps (KeepsOthers.alloc _ _), rfl⟩
            | false =>
              go_wp2_with (at_builtin; go_must (refine wpList_append_int _ (by go_simp) (.tmp 98) (.tmp 104) rfl w.heap.size W3.heap.size (.slice ao1 X1.length cp1) X1 q rfl rfl (owns_keep HLS2.out.now (fun k e => Below.heap_alloc _ _ _ (HLS2.out.now.lt k e).2)) (cell_first _ _ _) (by omega) (by simp; omega) ?_; intro g9 c9 w9 hown9 hg9 hl9; have HL9 := hidden (HLS2.out.nowpush (w1 := W3.alloc (.cells #[.int .i64 q] 3)) ((Below.refl _ W3).alloc (Nat.le_refl _) _) hown9 hg9 hl9); have HM9 := hidden (HMS.out.keeps ((KeepsOthers.alloc W3 (.cells #[.int .i64 q] 3)).trans (KeepsOthers.of_grownBy hg9 (fun j o ej hj => now_cells HLS2.out.now ej hj)))); have z10' : w9.cell? ⟨b10, 0, none⟩ = some (.int .i64 at_) := HL9.out.v10.cell; have l10' : b10 < w9.heap.size := HL9.out.v10.lt))
              exact ⟨s.length + 1 - (at_ + 1), by have := HK.out; omega, at_ + 1, w9.heap.size, some ⟨g9, 0, none⟩, X1.length + 1, c9, X1 ++ [q], lv1, H1, .slice ao 0 cp, D :: ds, ⟨rfl, rfl, rfl, rfl, rfl, rfl, rfl, rfl, rfl⟩, HL9.out.newAt (at_ + 1), fun hl9 => from_next HMC.out.at_ (Or.inl hl9) HALL.out HX2.out HX3.out rfl, fun j hj h => HNX.out j hj ⟨h.1, Or.inl trivial⟩, HMO.out, by rw [List.length_append]; exact Nat.succ_le_succ hXl, Nat.succ_le_succ hle, HM9.out.keeps (KeepsOthers.alloc _ _), rfl⟩
      · have hlei : ¬ (at_ : Int) ≤ s.length := by omega
        have HNF := hidden (not_found_end HNO.out (by omega))
        go_wp2_with fail
        exact leaves_marks rfl rfl (fun W hB => ⟨by rw [← HRES.out, dec_false.2 (fun h => HNF.out (HFI.out.2 h))], hB⟩) ds _ (HMK.out.keeps (KeepsOthers.setCell _ _ _)) (Boxed.set _ HLS.out.v6) (bel_set HLS.out.bel (by show w.heap.size ≤ _; omega))

end Go.Proofs.Ytjlihidmohokhaa
