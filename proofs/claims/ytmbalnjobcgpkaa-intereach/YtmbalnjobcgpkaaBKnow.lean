
/-
  What the program's know answers: a map from each text of a row to its sort, and leaves: the marks of each sort; conditions: where the row and the table lie, the row's length.
-/
import Derived.Test.YtmbalnjobcgpkaaBKs
import Derived.Deep.Cut
import Derived.Deep.CutRange
namespace Go.Proofs.Ytmbalnjobcgpkaa
open Go.RowKit Go.Proofs.Ytmbalnjobcgpkaa.Ln Go.Proofs.Ytmbalnjobcgpkaa.Ol
open Go.Maps (Keyed)

/-- so far the row is gone through -/
structure IK (w : World) (T : Nat) (a : Option Addr) (n cp : Nat) (xs : List Tx) (c1 c2 c3 c4 c5 c6 c7 c8 : Value) (bt ba mb bm bl : Nat) (p : Nat) (W : World) : Prop where
  kp : KpT w.heap.size T w W
  bxt : Boxed W bt 72 (.pointer (some ⟨T, 0, none⟩))
  bxa : Boxed W ba 28 (.slice a n cp)
  bxm : Boxed W bm 89 (.map (some mb))
  bxl : Boxed W bl 28 (.slice a n cp)
  ex : ∃ d v0 vm wsf gf, ∃ D : DataW Unit, KM mb p d D W ∧ KR w.heap.size T (d.length + 1) v0 c1 c2 c3 c4 c5 c6 c7 c8 vm wsf gf W ∧ KP xs n p d wsf gf
section
variable {w : World} {T : Nat} {a : Option Addr} {n cp : Nat} {xs : List Tx} {c1 c2 c3 c4 c5 c6 c7 c8 : Value} {bt ba mb bm bl p : Nat} {W W' : World}
theorem km_stay {H : Type} {mb n : Nat} {d : List Tx} {D : DataW H} {W W' : World} (h : KM mb n d D W) (hm : ∀ es cl, W.heap[mb]? = some (.map es cl) → W'.heap[mb]? = some (.map es cl)) : KM mb n d D W' := by
  obtain ⟨es, cl, h1, h2⟩ := h.own
  exact ⟨⟨es, cl, hm es cl h1, h2⟩, h.isM, h.has, h.at_⟩
theorem IK.stay (h : IK w T a n cp xs c1 c2 c3 c4 c5 c6 c7 c8 bt ba mb bm bl p W) (hk : KpT w.heap.size T w W') (hs : CellsStay W W') (hm : ∀ es cl, W.heap[mb]? = some (.map es cl) → W'.heap[mb]? = some (.map es cl)) : IK w T a n cp xs c1 c2 c3 c4 c5 c6 c7 c8 bt ba mb bm bl p W' := by
  obtain ⟨d, v0, vm, wsf, gf, D, k1, k2, k3⟩ := h.ex
  exact ⟨hk, hs _ _ _ _ h.bxt, hs _ _ _ _ h.bxa, hs _ _ _ _ h.bxm, hs _ _ _ _ h.bxl, d, v0, vm, wsf, gf, D, km_stay k1 hm, k2.stay hs, k3⟩
theorem IK.later (h : IK w T a n cp xs c1 c2 c3 c4 c5 c6 c7 c8 bt ba mb bm bl p W) (hb : Below W.heap.size W W') : IK w T a n cp xs c1 c2 c3 c4 c5 c6 c7 c8 bt ba mb bm bl p W' :=
  h.stay (h.kp.trans (KpT.of_below hb)) (cellsStay_below hb) (fun es cl he => by rw [hb.block mb (Array.getElem?_eq_some_iff.1 he).1]; exact he)
theorem IK.putObj (h : IK w T a n cp xs c1 c2 c3 c4 c5 c6 c7 c8 bt ba mb bm bl p W) {l : Nat} {o : Obj} (o' : Obj) (hl : w.heap.size ≤ l) (ho : W.heap[l]? = some o) (hq : quietO o = true) : IK w T a n cp xs c1 c2 c3 c4 c5 c6 c7 c8 bt ba mb bm bl p (W.putObj l o') := by
  have hne : ∀ (k : Nat) o2, W.heap[k]? = some o2 → quietO o2 = false → (W.putObj l o').heap[k]? = some o2 := fun k o2 hk hq2 => by
    rw [World.putObj_heap_other (fun e => by subst e; rw [ho] at hk; cases hk; rw [hq] at hq2; cases hq2)]
    exact hk
  refine h.stay ⟨h.kp.os, h.kp.tape, h.kp.output, by simpa using h.kp.size, fun k hk hkT hf => ?_⟩ (fun k cs e fr hk => hne k _ hk rfl) (fun es cl hk => hne mb _ hk rfl)
  rw [World.putObj_heap_other (by omega)]
  exact h.kp.block k hk hkT hf
theorem IK.row (h : IK w T a n cp xs c1 c2 c3 c4 c5 c6 c7 c8 bt ba mb bm bl p W) (hr : RowAt w (.slice a n cp) xs) (ha : xs = [] ∨ ∀ ad, a = some ad → ad.block < T) : RowAt W (.slice a n cp) xs := by
  rcases hr with hr | ⟨b, o, cap, e, h1, h2, h3⟩
  · exact Or.inl hr
  · rcases ha with rfl | ha
    · exact Or.inl ⟨rfl, _, _, e, fun h => by cases h⟩
    cases e
    have hb := ha _ rfl
    refine Or.inr ⟨b, o, cp, rfl, h1, Nat.lt_of_lt_of_le h2 h.kp.size, fun j x hx => ?_⟩
    rw [World.cell?_of_block (a := ⟨b, o + j, none⟩) (h.kp.block b h2 (by show b ≠ T; have : b < T := hb; omega) (Or.inl h2))]
    exact h3 j x hx
end
theorem ik_start {w W1 X w9 : World} {T : Nat} {a : Option Addr} {n cp : Nat} {xs : List Tx} {c1 c2 c3 c4 c5 c6 c7 c8 : Value} {bt ba mb bm g9 c9 : Nat} (hb : Below w.heap.size w W1) (hx : Below W1.heap.size W1 X) (h1 : Boxed W1 bt 72 (.pointer (some ⟨T, 0, none⟩)) ∧ Boxed W1 ba 28 (.slice a n cp) ∧ Boxed W1 bm 89 (.map (some mb))) (hm : KM (H := Unit) mb 0 [] (.map []) W1)
    (hk : KR w.heap.size T 0 (.slice none 0 0) c1 c2 c3 c4 c5 c6 c7 c8 (fun _ => .slice none 0 0) (fun _ => []) (fun _ => fun _ => false) W1) (ho : w9.ownsRow w.heap.size 105 1 (.slice (some ⟨g9, 0, none⟩) 1 c9) 1 [.slice none 0 0]) (hg : X.grownBy w9 (Value.slice none 0 0).ownBlock) :
    IK w T a n cp xs c1 c2 c3 c4 c5 c6 c7 c8 bt ba mb bm ba 0 (w9.setCell ⟨T, 0, none⟩ (.slice (some ⟨g9, 0, none⟩) 1 c9)) := by
  have hk2 := (hk.later hx).more ho hg _ rfl
  have hw9 : Below X.heap.size X w9 := ⟨hg.os, hg.tape, hg.output, hg.size, fun k hk => hg.block k hk (fun e => by cases e)⟩
  have hb9 := hx.trans (hw9.mono hx.size)
  have hne : ∀ {k : Nat} {t : TypeId} {v : Value}, Boxed W1 k t v → Boxed (w9.setCell ⟨T, 0, none⟩ (.slice (some ⟨g9, 0, none⟩) 1 c9)) k t v := fun {k t v} hk3 => by
    refine box_keep (box_later hk3 hb9) (heap_setCell_ne _ _ _ _ _ (fun e => ?_))
    subst e
    have := hk.tc
    unfold Boxed at hk3
    rw [show W1.heap[k]? = _ from this] at hk3
    cases hk3
  refine ⟨((KpT.of_below (hb.trans (hb9.mono hb.size))).setT 0 _), hne h1.1, hne h1.2.1, hne h1.2.2, hne h1.2.1, [], _, _, _, _, .map [], km_stay hm (fun es cl he => ?_), hk2, ?_⟩
  · have hne2 : mb ≠ T := fun e => by
      subst e
      have := hk.tc
      rw [show W1.heap[mb]? = _ from this] at he
      cases he
    show (w9.setCell ⟨T, 0, none⟩ _).heap[mb]? = _
    rw [heap_setCell_ne _ _ _ _ _ hne2, hb9.block mb (Array.getElem?_eq_some_iff.1 he).1]
    exact he
  · refine ⟨fun s hs => ?_, fun i => ?_, fun s hs => absurd hs (Nat.not_lt_zero _), List.nodup_nil, Nat.le_refl _, fun i x hi => absurd hi (Nat.not_lt_zero _)⟩
    · obtain rfl : s = 0 := by simpa using hs
      exact ⟨List.Pairwise.nil, by simp, fun d hd => by cases hd⟩
    · rfl

theorem leaves_tmp2 {fn : Func} {t : Tmp} {tmps : Array Value} {R : Ending → World → Prop} {W : World} {D : Nat} {r : Value} (h : fn.results = #[.tmp t]) (hp : tmps.getD t undef = r) (hK : W.heap[D]? = some (.deferred (some []))) (hR : ∀ o', R (.returned r) (W.putObj D o')) : LeavesInM Fence.wide 5 Try.prog fn tmps R [{ target := .collected D, args := #[] }] .returning W :=
  ⟨by simp, Or.inl ⟨D, _, rfl, run_takeDeferred hK, _, results_tmp h _ _ _, by rw [hp]; exact hR _⟩⟩
/-- in a round: the boxes, the map, the rows -/
structure IR (w : World) (T : Nat) (a : Option Addr) (n cp : Nat) (c1 c2 c3 c4 c5 c6 c7 c8 : Value) (bt ba mb bm bl q : Nat) (d : List Tx) (D : DataW Unit) (K : Nat) (v0 : Value) (vm : Nat → Value) (wsf : Nat → List Nat) (gf : Nat → Bs) (W : World) : Prop where
  kp : KpT w.heap.size T w W
  bxt : Boxed W bt 72 (.pointer (some ⟨T, 0, none⟩))
  bxa : Boxed W ba 28 (.slice a n cp)
  bxm : Boxed W bm 89 (.map (some mb))
  bxl : Boxed W bl 28 (.slice a n cp)
  km : KM mb q d D W
  kr : KR w.heap.size T K v0 c1 c2 c3 c4 c5 c6 c7 c8 vm wsf gf W
section
variable {w : World} {T : Nat} {a : Option Addr} {n cp : Nat} {c1 c2 c3 c4 c5 c6 c7 c8 : Value} {bt ba mb bm bl q : Nat} {d : List Tx} {D : DataW Unit} {K : Nat} {v0 : Value} {vm : Nat → Value} {wsf : Nat → List Nat} {gf : Nat → Bs} {W W' : World}
theorem IR.later (h : IR w T a n cp c1 c2 c3 c4 c5 c6 c7 c8 bt ba mb bm bl q d D K v0 vm wsf gf W) (hb : Below W.heap.size W W') : IR w T a n cp c1 c2 c3 c4 c5 c6 c7 c8 bt ba mb bm bl q d D K v0 vm wsf gf W' :=
  ⟨h.kp.trans (KpT.of_below hb), cellsStay_below hb _ _ _ _ h.bxt, cellsStay_below hb _ _ _ _ h.bxa, cellsStay_below hb _ _ _ _ h.bxm, cellsStay_below hb _ _ _ _ h.bxl, km_stay h.km (fun es cl he => by rw [hb.block mb (Array.getElem?_eq_some_iff.1 he).1]; exact he), h.kr.later hb⟩
theorem IR.drew (h : IR w T a n cp c1 c2 c3 c4 c5 c6 c7 c8 bt ba mb bm bl q d D K v0 vm wsf gf W) : IR w T a n cp c1 c2 c3 c4 c5 c6 c7 c8 bt ba mb bm bl q d D K v0 vm wsf gf W.drew := h.later (Below.refl _ W).drew
theorem IR.alloc (h : IR w T a n cp c1 c2 c3 c4 c5 c6 c7 c8 bt ba mb bm bl q d D K v0 vm wsf gf W) (o : Obj) : IR w T a n cp c1 c2 c3 c4 c5 c6 c7 c8 bt ba mb bm bl q d D K v0 vm wsf gf (W.alloc o) := h.later (bel_alloc (Below.refl _ W) o)
theorem box_notT {c0 : Value} {k : Nat} {t : TypeId} {v : Value} (hc : TbC W T c0 c1 c2 c3 c4 c5 c6 c7 c8) (hb : Boxed W k t v) : k ≠ T := fun e => by
  subst e
  unfold Boxed at hb
  rw [show W.heap[k]? = _ from hc] at hb
  cases hb
theorem map_notrow {H : Type} {mb q : Nat} {d : List Tx} {D : DataW H} {B e size m : Nat} {v : Value} {xs : List Value} (h : KM mb q d D W) (ho : W.ownsRow B e size v m xs) : some mb ≠ v.ownBlock := fun e => by
  obtain ⟨es, cl, h1, _⟩ := h.own
  obtain ⟨_, _, cur, h2⟩ := own_kind ho e.symm
  rw [h1] at h2
  cases h2
theorem map_notT {H : Type} {mb q : Nat} {d : List Tx} {D : DataW H} {c0 : Value} (h : KM mb q d D W) (hc : TbC W T c0 c1 c2 c3 c4 c5 c6 c7 c8) : mb ≠ T := fun e => by
  subst e
  obtain ⟨es, cl, h1, _⟩ := h.own
  rw [show W.heap[mb]? = _ from hc] at h1
  cases h1
/-- a row of another kind than a box's is turned -/
theorem box_rowB {k : Nat} {t e : TypeId} {u v : Value} {B size m : Nat} {xs : List Value} (hb : Boxed W k t u) (ho : W.ownsRow B e size v m xs) (hg : W.grownBy W' v.ownBlock) (hte : t ≠ e) : Boxed W' k t u := hb.kept hg (hb.not_row hte ho)
theorem kq_row {e : TypeId} {v : Value} {B size m : Nat} {xs : List Value} (ho : W.ownsRow B e size v m xs) (hg : W.grownBy W' v.ownBlock) : KeepsQ W W' := KeepsQ.grown hg fun k o hk ho2 => by
  obtain ⟨_, _, cur, h2⟩ := own_kind ho hk
  rw [h2] at ho2
  cases ho2
  rfl
theorem kp_row {w : World} {e : TypeId} {v : Value} {size m : Nat} {xs : List Value} (h : KpT w.heap.size T w W) (ho : W.ownsRow w.heap.size e size v m xs) (hg : W.grownBy W' v.ownBlock) : KpT w.heap.size T w W' :=
  ⟨hg.os.trans h.os, hg.tape.trans h.tape, hg.output.trans h.output, Nat.le_trans h.size hg.size, fun k hk hkT hf => by
    rw [hg.block k (Nat.lt_of_lt_of_le hk h.size) (fun e => by have := (own_kind ho e.symm).1; omega)]
    exact h.block k hk hkT hf⟩
/-- a sort more is made -/
theorem IR.more (h : IR w T a n cp c1 c2 c3 c4 c5 c6 c7 c8 bt ba mb bm bl q d D K v0 vm wsf gf W) {g9 q9 : Nat} {W9 : World} (ho : W9.ownsRow w.heap.size 105 1 (.slice (some ⟨g9, 0, none⟩) (K + 1) q9) (K + 1) ((List.range K).map vm ++ [.slice none 0 0])) (hg : W.grownBy W9 v0.ownBlock) :
    W9.cell? ⟨bt, 0, none⟩ = some (.pointer (some ⟨T, 0, none⟩)) ∧ W9.cell? ⟨T, 0, none⟩ = some v0 ∧ W9.frozen? ⟨T, 0, none⟩ = false ∧
    IR w T a n cp c1 c2 c3 c4 c5 c6 c7 c8 bt ba mb bm bl q d D (K + 1) (.slice (some ⟨g9, 0, none⟩) (K + 1) q9) (fun s => if s = K then .slice none 0 0 else vm s) (fun s => if s = K then [] else wsf s) (fun s => if s = K then fun _ => false else gf s) (W9.setCell ⟨T, 0, none⟩ (.slice (some ⟨g9, 0, none⟩) (K + 1) q9)) ∧ KeepsQ W (W9.setCell ⟨T, 0, none⟩ (.slice (some ⟨g9, 0, none⟩) (K + 1) q9)) := by
  have b1 := box_rowB h.bxt h.kr.top hg (by decide)
  have b2 := box_rowB h.bxa h.kr.top hg (by decide)
  have b3 := box_rowB h.bxm h.kr.top hg (by decide)
  have b4 := box_rowB h.bxl h.kr.top hg (by decide)
  have hc := h.kr.tc.grown h.kr.top (by decide) hg
  have hm : ∀ es cl, W.heap[mb]? = some (.map es cl) → (W9.setCell ⟨T, 0, none⟩ (.slice (some ⟨g9, 0, none⟩) (K + 1) q9)).heap[mb]? = some (.map es cl) := fun es cl he => by
    rw [heap_setCell_ne _ _ _ _ _ (map_notT h.km h.kr.tc), hg.block mb (Array.getElem?_eq_some_iff.1 he).1 (map_notrow h.km h.kr.top)]
    exact he
  exact ⟨b1.cell, hc.cells.1, hc.thaw 0, ⟨(kp_row h.kp h.kr.top hg).setT 0 _, box_keep b1 (heap_setCell_ne _ _ _ _ _ (box_notT hc b1)), box_keep b2 (heap_setCell_ne _ _ _ _ _ (box_notT hc b2)), box_keep b3 (heap_setCell_ne _ _ _ _ _ (box_notT hc b3)), box_keep b4 (heap_setCell_ne _ _ _ _ _ (box_notT hc b4)), km_stay h.km hm, h.kr.more ho hg _ rfl⟩, (kq_row h.kr.top hg).trans (KeepsQ.setCell _ _ _)⟩
/-- a sort has a line more -/
theorem IR.with_ (h : IR w T a n cp c1 c2 c3 c4 c5 c6 c7 c8 bt ba mb bm bl q d D K v0 vm wsf gf W) {s gM cM : Nat} (hv0 : v0 = .slice (some ⟨gM, 0, none⟩) K cM) (hs : s < K) {v' : Value} {ws' : List Nat} {g' : Bs} {w5 : World} (ho : w5.ownsRow w.heap.size 113 2 v' ws'.length (mcells ws' g')) (hg : W.grownBy w5 (vm s).ownBlock) (hn : v'.ownBlock = (vm s).ownBlock ∨ ∃ q, v'.ownBlock = some q ∧ W.heap.size ≤ q) :
    (w5.cell? ⟨bt, 0, none⟩ = some (.pointer (some ⟨T, 0, none⟩)) ∧ w5.cell? ⟨ba, 0, none⟩ = some (.slice a n cp) ∧ w5.cell? ⟨T, 0, none⟩ = some v0) ∧ w5.frozen? ⟨gM, s, none⟩ = false ∧ w5.cell? ⟨gM, s, none⟩ = some (vm s) ∧
    ((w5.setCell ⟨gM, s, none⟩ v').cell? ⟨bt, 0, none⟩ = some (.pointer (some ⟨T, 0, none⟩)) ∧ (w5.setCell ⟨gM, s, none⟩ v').cell? ⟨ba, 0, none⟩ = some (.slice a n cp) ∧ (w5.setCell ⟨gM, s, none⟩ v').cell? ⟨T, 0, none⟩ = some v0) ∧
    IR w T a n cp c1 c2 c3 c4 c5 c6 c7 c8 bt ba mb bm bl q d D K v0 (fun t => if t = s then v' else vm t) (fun t => if t = s then ws' else wsf t) (fun t => if t = s then g' else gf t) (w5.setCell ⟨gM, s, none⟩ v') ∧ KeepsQ W (w5.setCell ⟨gM, s, none⟩ v') := by
  have hos := h.kr.own s hs
  have b1 := box_rowB h.bxt hos hg (by decide)
  have b2 := box_rowB h.bxa hos hg (by decide)
  have b3 := box_rowB h.bxm hos hg (by decide)
  have b4 := box_rowB h.bxl hos hg (by decide)
  have hc := h.kr.tc.grown hos (by decide) hg
  have ht := h.kr.top.kept hg (own_ne h.kr.top hos (by decide))
  subst hv0
  obtain ⟨s1, s2⟩ := ht.stored s v'
  have nb : ∀ {k : Nat} {t : TypeId} {u : Value}, t ≠ 105 → Boxed w5 k t u → Boxed (w5.setCell ⟨gM, s, none⟩ v') k t u := fun hne hb => hb.kept s2 (hb.not_row hne ht)
  have hcT := hc.other (c := gM) (i := s) (u := v') (fun e => own_notT hc ht (by decide) (by rw [e]; rfl))
  have hm : ∀ es cl, W.heap[mb]? = some (.map es cl) → (w5.setCell ⟨gM, s, none⟩ v').heap[mb]? = some (.map es cl) := fun es cl he => by
    have h1 : w5.heap[mb]? = some (.map es cl) := by rw [hg.block mb (Array.getElem?_eq_some_iff.1 he).1 (map_notrow h.km hos)]; exact he
    rw [s2.block mb (Array.getElem?_eq_some_iff.1 h1).1 (fun e => by
      obtain ⟨_, _, cur, h2⟩ := own_kind ht e.symm
      rw [h1] at h2
      cases h2)]
    exact h1
  refine ⟨⟨b1.cell, b2.cell, hc.cells.1⟩, ht.frozenAt s, by rw [ht.cellAt s (by omega)]; simp [hs], ⟨(nb (by decide) b1).cell, (nb (by decide) b2).cell, hcT.cells.1⟩, ⟨?_, nb (by decide) b1, nb (by decide) b2, nb (by decide) b3, nb (by decide) b4, km_stay h.km hm, h.kr.with_ hs ho hg hn rfl⟩, (kq_row hos hg).trans (KeepsQ.setCell _ _ _)⟩
  exact kp_row (kp_row h.kp hos hg) ht s2
end
theorem IR.put {w : World} {T : Nat} {a : Option Addr} {n cp : Nat} {c1 c2 c3 c4 c5 c6 c7 c8 : Value} {bt ba mb bm bl q K : Nat} {d : List Tx} {D : DataW Unit} {v0 : Value} {vm : Nat → Value} {wsf : Nat → List Nat} {gf : Nat → Bs} {W w1 : World} (h : IR w T a n cp c1 c2 c3 c4 c5 c6 c7 c8 bt ba mb bm bl q d D K v0 vm wsf gf W) (hmb : w.heap.size ≤ mb) {x : Tx} (hx : x ∉ d) {z : Int} (hz : z = ((d.length + 1 : Nat) : Int)) (ho : w1.ownsMap Try.prog 9 (plainElem Try.prog 3) mb (q + 1) (D.put (.string x) (.lit (.int .i64 z)))) (hg : W.grownBy w1 (some mb)) :
    IR w T a n cp c1 c2 c3 c4 c5 c6 c7 c8 bt ba mb bm bl (q + 1) (d ++ [x]) (D.put (.string x) (.lit (.int .i64 z))) K v0 vm wsf gf w1 ∧ KeepsQ W w1 := by
  subst hz
  have hs := cellsStay_map h.km.own hg
  refine ⟨⟨⟨hg.os.trans h.kp.os, hg.tape.trans h.kp.tape, hg.output.trans h.kp.output, Nat.le_trans h.kp.size hg.size, fun k hk hkT hf => ?_⟩, hs _ _ _ _ h.bxt, hs _ _ _ _ h.bxa, hs _ _ _ _ h.bxm, hs _ _ _ _ h.bxl, h.km.put hx ho, h.kr.stay hs⟩, KeepsQ.grown hg fun k o hk ho2 => ?_⟩
  · rw [hg.block k (Nat.lt_of_lt_of_le hk h.kp.size) (fun e => by cases e; omega)]
    exact h.kp.block k hk hkT hf
  · cases hk
    obtain ⟨es, cl, h1, _⟩ := h.km.own
    rw [h1] at ho2
    cases ho2
    rfl
theorem KeepsQ.drew (W : World) : KeepsQ W W.drew := ⟨Nat.le_refl _, fun _ _ h _ => h⟩
theorem IR.fin {w : World} {T : Nat} {a : Option Addr} {n cp : Nat} {c1 c2 c3 c4 c5 c6 c7 c8 : Value} {bt ba mb bm bl q p : Nat} {d : List Tx} {D : DataW Unit} {v0 : Value} {vm : Nat → Value} {wsf : Nat → List Nat} {gf : Nat → Bs} {W : World} {xs : List Tx} (h : IR w T a n cp c1 c2 c3 c4 c5 c6 c7 c8 bt ba mb bm bl q d D (d.length + 1) v0 vm wsf gf W) (hq : q ≤ p) (hp : KP xs n p d wsf gf) : IK w T a n cp xs c1 c2 c3 c4 c5 c6 c7 c8 bt ba mb bm bl p W :=
  ⟨h.kp, h.bxt, h.bxa, h.bxm, h.bxl, d, v0, vm, wsf, gf, D, ⟨h.km.own.mono hq, h.km.isM, h.km.has, h.km.at_⟩, h.kr, hp⟩
set_option maxRecDepth 6000 in
set_option maxHeartbeats 8000000 in
theorem bknow_any (T : Nat) (a : Option Addr) (n cp : Nat) (xs : List Tx) (c1 c2 c3 c4 c5 c6 c7 c8 : Value) (w : World) (htc : TbC w T (.slice none 0 0) c1 c2 c3 c4 c5 c6 c7 c8) (hr : RowAt w (.slice a n cp) xs) (ha : xs = [] ∨ ∀ ad, a = some ad → ad.block < T) (hn : xs.length = n) (hnb : n ≤ 4294967296) (hf : FitT xs) :
    Calls Try.prog 71 #[.pointer (some ⟨T, 0, none⟩), .slice a n cp] w fun e w' => ∃ mb d v0 vm wsf gf, ∃ D : DataW Unit, e = .returned (.map (some mb)) ∧ w.heap.size ≤ mb ∧ KM mb n d D w' ∧ KR w.heap.size T (d.length + 1) v0 c1 c2 c3 c4 c5 c6 c7 c8 vm wsf gf w' ∧ KP xs n n d wsf gf ∧ KpT w.heap.size T w w' := by
  have HTC := hidden htc
  have HR := hidden hr
  have HA := hidden ha
  have HN := hidden hn
  have HF := hidden hf
  have hTl := htc.lt
  have hmm := @run_makeMap Try.prog
  clear htc hr ha hn hf
  refine (callsIn_wide (n := 5)).1 (callsIn_of_wp_marks Try.func71 rfl trivial (wpIn_wide.2 (wp_mono (Q := lookPost _ _) ?_ (fun e a w h => lookPost_is e a w h))) rfl)
  simp only [Try.ntmps71, List.size_toArray, List.length_cons, List.length_nil, Nat.reduceAdd, Nat.reduceSub, Array.replicate_succ, Array.replicate_zero, List.push_toArray, List.append_toArray, List.nil_append, List.cons_append]
  go_wp2_with fail
  obtain ⟨W1, hW1⟩ : ∃ W1, (((w.alloc (.cells #[.pointer (some ⟨T, 0, none⟩)] 72)).alloc (.cells #[.slice a n cp] 28)).alloc (.map #[] 0)).alloc (.cells #[.map (some (w.heap.size + 1 + 1))] 89) = W1 := ⟨_, rfl⟩
  have HBX0 := hidden (show Boxed W1 w.heap.size 72 (.pointer (some ⟨T, 0, none⟩)) ∧ Boxed W1 (w.heap.size + 1) 28 (.slice a n cp) ∧ Boxed W1 (w.heap.size + 1 + 1 + 1) 89 (.map (some (w.heap.size + 1 + 1))) by
    rw [← hW1]
    refine ⟨(((Boxed.new w 72 _).alloc _).alloc _).alloc _, ?_, ?_⟩
    · have h := ((Boxed.new (w.alloc (.cells #[.pointer (some ⟨T, 0, none⟩)] 72)) 28 (.slice a n cp)).alloc (.map #[] 0)).alloc (.cells #[.map (some (w.heap.size + 1 + 1))] 89)
      simp only [World.size_alloc] at h; exact h
    · have h := Boxed.new (((w.alloc (.cells #[.pointer (some ⟨T, 0, none⟩)] 72)).alloc (.cells #[.slice a n cp] 28)).alloc (.map #[] 0)) 89 (.map (some (w.heap.size + 1 + 1)))
      simp only [World.size_alloc] at h; exact h)
  have HKM0 := hidden (show KM (H := Unit) (w.heap.size + 1 + 1) 0 [] (.map []) W1 by
    rw [← hW1]
    have h := (World.ownsMap_made (H := Unit) ((w.alloc (.cells #[.pointer (some ⟨T, 0, none⟩)] 72)).alloc (.cells #[.slice a n cp] 28)) Try.prog 9 (plainElem Try.prog 3)).alloc (.cells #[.map (some (w.heap.size + 1 + 1))] 89)
    simp only [World.size_alloc] at h
    exact ⟨h, ⟨[], rfl⟩, fun x => by simp [Maps.has], fun x => by simp [DataW.atKey, sidx]⟩)
  have HBEL := hidden (show Below w.heap.size w W1 by rw [← hW1]; exact bel_alloc (bel_alloc (bel_alloc (bel_alloc (Below.refl _ _) _) _) _) _)
  have hsz1 : W1.heap.size = w.heap.size + 1 + 1 + 1 + 1 := by rw [← hW1]; simp
  have HKR0 := hidden (show KR w.heap.size T 0 (.slice none 0 0) c1 c2 c3 c4 c5 c6 c7 c8 (fun _ => .slice none 0 0) (fun _ => []) (fun _ => fun _ => false) W1 from
    ⟨HTC.out.later HBEL.out, hTl, World.ownsRow_nil _ _ _ _, fun s hs => absurd hs (Nat.not_lt_zero _), fun s t hs => absurd hs (Nat.not_lt_zero _)⟩)
  rw [hW1]
  clear hW1 HTC
  have b0 := HBX0.out.1.cell
  have b0a : ∀ o, (W1.alloc o).cell? ⟨w.heap.size, 0, none⟩ = some (.pointer (some ⟨T, 0, none⟩)) := fun o => (HBX0.out.1.alloc o).cell
  have t0 := HKR0.out.tc.cells.1
  have t0a : ∀ o, (W1.alloc o).cell? ⟨T, 0, none⟩ = some (.slice none 0 0) := fun o => (HKR0.out.tc.alloc o).cells.1
  have HBL := hidden (Below.refl W1.heap.size W1)
  go_cut [] from 11 to 19 (fun wx => Hid (IK w T a n cp xs c1 c2 c3 c4 c5 c6 c7 c8 w.heap.size (w.heap.size + 1) (w.heap.size + 1 + 1) (w.heap.size + 1 + 1 + 1) (w.heap.size + 1) 0 wx))
  case first =>
    go_region_law (refine step_app rfl (.tmp 15) (.tmp 16) 83 105 rfl (.slice none 0 0) 1 24 Try.underlying83 Try.infoMarks rfl (by decide) w.heap.size W1.heap.size (.slice none 0 0) 0 [] [.slice none 0 0] (by first | rfl | simp [Act.eval, Act.put]) (by first | rfl | simp [Act.eval]) (World.ownsRow_nil _ _ _ _) rfl (fun u hu => by rw [List.mem_singleton.1 hu]; rfl) ?_ (by decide) (by decide) (by simp; omega) ?_; (first | exact cells_new W1 _ _ rfl _ | exact cells_new _ _ _ (by simp) _); intro g9 c9 w9 hown9 hg9 hl9; have HC9 := hidden (TbC.grown (HKR0.out.tc.later (by (with_reducible (repeat (first | exact HBL.out | exact Below.refl _ _ | apply bel_alloc | apply bel_put | apply bel_set | apply Below.drew | apply below_drewN | assumption | omega))))) (owns_later HKR0.out.top (by (with_reducible (repeat (first | exact HBL.out | exact Below.refl _ _ | apply bel_alloc | apply bel_put | apply bel_set | apply Below.drew | apply below_drewN | assumption | omega))))) (by decide) hg9); have tf9 : w9.frozen? ⟨T, 0, none⟩ = false := HC9.out.thaw 0; have tc9 : w9.cell? ⟨T, 0, none⟩ = some (.slice none 0 0) := HC9.out.cells.1; have bc9 : w9.cell? ⟨w.heap.size, 0, none⟩ = some (.pointer (some ⟨T, 0, none⟩)) := (Boxed.kept (box_later HBX0.out.1 (show Below W1.heap.size W1 _ from by (with_reducible (repeat (first | exact HBL.out | exact Below.refl _ _ | apply bel_alloc | apply bel_put | apply bel_set | apply Below.drew | apply below_drewN | assumption | omega))))) hg9 (by intro e; cases e)).cell)
    all_goals
      have HIK := hidden (ik_start (xs := xs) HBEL.out (by (with_reducible (repeat (first | exact HBL.out | exact Below.refl _ _ | apply bel_alloc | apply bel_put | apply bel_set | apply Below.drew | apply below_drewN | assumption | omega)))) HBX0.out HKM0.out HKR0.out hown9 hg9)
      clear tf9 tc9 bc9 hown9 hg9 hl9 HC9
      go_wp2_with fail
      go_meet
      case rel => exact HIK.out
  case rest =>
    have HIK := hidden hcut.out
    clear hcut b0 b0a t0 t0a HBX0 HKM0 HKR0 HBL HBEL hsz1
    have ba0 := HIK.out.bxa.cell
    go_wp2_with fail
    refine (backw_any a n cp wc).mono ?_
    rintro e w2 ⟨rfl, hw2⟩
    obtain ⟨bl, hbl⟩ : ∃ bl, wc.heap.size = bl := ⟨_, rfl⟩
    have HI2 := hidden (show IK w T a n cp xs c1 c2 c3 c4 c5 c6 c7 c8 w.heap.size (w.heap.size + 1) (w.heap.size + 1 + 1) (w.heap.size + 1 + 1 + 1) bl 0 w2 by
      have h2 := HIK.out.later (show Below wc.heap.size wc w2 by rw [hw2]; exact bel_alloc (Below.refl _ _) _)
      exact ⟨h2.kp, h2.bxt, h2.bxa, h2.bxm, by rw [hw2, ← hbl]; exact Boxed.new wc 28 _, h2.ex⟩)
    have hw2s : w.heap.size + 1 + 1 + 1 < w2.heap.size := HI2.out.bxm.lt
    rw [hbl]
    clear hw2 HIK ba0 hbl
    go_wp2_with fail
    refine wp_range_quiet (gf := 87) (lb := #[.pointer (some ⟨bl, 0, none⟩)]) rfl (enters_of Try.func87 (by kernel_rfl) rfl) (fun p W => p ≤ n ∧ IK w T a n cp xs c1 c2 c3 c4 c5 c6 c7 c8 w.heap.size (w.heap.size + 1) (w.heap.size + 1 + 1) (w.heap.size + 1 + 1 + 1) bl p W) (fun _ _ => False)
      (fun p v q => ∃ x : Tx, xs[n - 1 - p]? = some x ∧ p < n ∧ v = #[.int .i64 ((n - 1 - p : Nat) : Int), .string ⟨x.toArray⟩] ∧ q = p + 1) (fun p => p = n) (fun p v q h => by obtain ⟨x, _, _, rfl, _⟩ := h; rfl)
      (fun p W o h => ⟨h.1, h.2.later (bel_alloc (Below.refl _ W) o)⟩) (fun p W l o o' h hl ho hc => ⟨h.1, h.2.putObj o' (by omega) ho hc⟩) (fun c W l o o' h _ _ _ => h.elim) 0 ⟨Nat.zero_le _, HI2.out⟩ ?hround ?hiter ?hdone ?hstop
    case hround =>
      rintro l p y0 vs W ⟨hpn, hI⟩ ⟨x, hx, hpl, rfl, rfl⟩ hl0 hlW hlo
      have hsem : ∀ (ρ : Operand → Value) (o : Oper), (∀ c, o.op ≠ .defer c) → Oper.semAt (some l) ρ o = execOp ρ o := fun ρ o h => Oper.semAt_some l ρ o h
      have hmx : Try.prog.follows .mixedOrders = true := by kernel_rfl
      simp only [List.zip_toArray, List.zip_cons_cons, List.zip_nil_right]
      have HPO := hidden (fun (o' : Obj) => show IK w T a n cp xs c1 c2 c3 c4 c5 c6 c7 c8 w.heap.size (w.heap.size + 1) (w.heap.size + 1 + 1) (w.heap.size + 1 + 1 + 1) bl p (W.putObj l o') by
        obtain ⟨oo, h1, h2⟩ := hlo
        exact hI.putObj o' (by omega) h1 h2)
      clear hI hlo
      obtain ⟨j, hj⟩ : ∃ j, n - 1 - p = j := ⟨_, rfl⟩
      rw [hj]
      have hjp : (n : Int) - 1 - j = p := by omega
      have hjb : j ≤ 4294967296 := by omega
      have HWRP := hidden (show IntKind.i64.wrap (IntKind.i64.wrap ((n : Int) - 1) - j) = p by rw [IntKind.wrap_i64, IntKind.wrap_i64]; omega)
      have HJ := hidden hj
      clear hj
      gi_wp2
      refine ⟨KeepsQ.of_below (Below.refl _ _), fun o' => ?_⟩
      have HI3 := hidden (HPO.out o')
      clear HPO
      generalize World.putObj _ l o' = W2 at HI3 ⊢
      obtain ⟨d, v0, vm, wsf, gf, D, hm, hk, hp⟩ := HI3.out.ex
      have HM := hidden hm
      have HKP := hidden hp
      have HIR := hidden (show IR w T a n cp c1 c2 c3 c4 c5 c6 c7 c8 w.heap.size (w.heap.size + 1) (w.heap.size + 1 + 1) (w.heap.size + 1 + 1 + 1) bl p d D (d.length + 1) v0 vm wsf gf W2 from ⟨HI3.out.kp, HI3.out.bxt, HI3.out.bxa, HI3.out.bxm, HI3.out.bxl, hm, hk⟩)
      have bcm := HI3.out.bxm.cell
      have hxf := HF.out x (List.mem_of_getElem? hx)
      have hkey : keyOf Try.prog 9 (.string ⟨x.toArray⟩) = some (.string x) := Go.WideMaps.keyOf_string_mk Try.underlying9 (by show x.toArray.size ≤ maxLen; simp; unfold maxLen; omega)
      have HX := hidden hx
      have hdl := hp.len
      clear hm hk hp HI3 hx hxf
      by_cases hxd : x ∈ d
      · obtain ⟨s, hs1, hs2⟩ := sidx_at hxd
        have HAS := hidden (show Maps.has D (.string x) = true by rw [HM.out.has x]; simp [hxd])
        have HAT := hidden (show D.atKey (.string x) (.lit (.int .i64 0)) = .lit (.int .i64 ((s : Int) + 1)) by rw [HM.out.at_ x, hs1]; rfl)
        have HS2 := hidden hs2
        clear hs1 hs2 hxd
        gi_wp2_with (gi_at_lookup; refine wpListIn_lookup_own_ok_int _ rfl _ _ 89 rfl 9 3 .i64 lawStr Try.underlying89 Try.underlying3 (zeroInt _) _ p D rfl HM.out.own _ _ rfl hkey ?_; intro cz hat hwc; rw [HAS.out])
        obtain rfl : cz = (s : Int) + 1 := by have h2 := HAT.out; rw [hat] at h2; injection h2 with h3; injection h3
        clear hat hwc bcm hkey
        have hsd : s < (d).length := (List.getElem?_eq_some_iff.1 HS2.out).1
        obtain ⟨gM, cM, hv0, _, _⟩ := HIR.out.kr.top.form (by omega)
        subst hv0
        have hKs : s + 1 < (d).length + 1 := by omega
        obtain ⟨av, cv, hv⟩ := HIR.out.kr.vshape hKs
        obtain ⟨nv, hnv⟩ : ∃ nv, (wsf (s + 1)).length = nv := ⟨_, rfl⟩
        have hmk := HKP.out.mks (s + 1) hKs
        have hwl := sorted_len (Nb := p) (wsf (s + 1)) 0 hmk.up (fun x hx => ⟨Nat.zero_le _, by have := hmk.low x hx; omega⟩)
        have HWC := hidden (show Calls Try.prog 81 #[.slice av nv cv, .int .i64 p] W2.drew fun e w5 => ∃ v5, e = .returned v5 ∧ w5.ownsRow w.heap.size 113 2 v5 (nextW (wsf (s + 1)) (p / 64)).length (mcells (nextW (wsf (s + 1)) (p / 64)) (put1 (gf (s + 1)) p)) ∧ W2.drew.grownBy w5 (vm (s + 1)).ownBlock ∧ (v5.ownBlock = (vm (s + 1)).ownBlock ∨ ∃ q, v5.ownBlock = some q ∧ W2.drew.heap.size ≤ q) by
          have h := bwith_any w.heap.size (vm (s + 1)) (wsf (s + 1)) (gf (s + 1)) p W2.drew (HIR.out.drew.kr.own (s + 1) hKs) hmk (by omega) (by omega) HIR.out.drew.kp.size
          rw [hv, hnv] at h
          rw [hv, hnv]
          exact h)
        have HWI := hidden (fun v5 w5 (h : World.ownsRow w5 w.heap.size 113 2 v5 (nextW (wsf (s + 1)) (p / 64)).length (mcells (nextW (wsf (s + 1)) (p / 64)) (put1 (gf (s + 1)) p)) ∧ W2.drew.grownBy w5 (vm (s + 1)).ownBlock ∧ (v5.ownBlock = (vm (s + 1)).ownBlock ∨ ∃ q, v5.ownBlock = some q ∧ W2.drew.heap.size ≤ q)) => HIR.out.drew.with_ rfl hKs h.1 h.2.1 h.2.2)
        have i0 := HIR.out.bxt.cell
        have i1 := HIR.out.bxa.cell
        have i2 := HIR.out.kr.tc.cells.1
        have m0 : W2.cell? ⟨gM, s + 1, none⟩ = some (.slice av nv cv) := by rw [HIR.out.kr.top.cellAt (s + 1) (by omega)]; simp [hKs, hv, hnv]
        have HKN := hidden (KP.next HKP.out.mks HKP.out.g0 HKP.out.gs HKP.out.nodup (by omega) HKP.out.cover HX.out HS2.out)
        obtain ⟨KK, hK⟩ : ∃ K, (d).length + 1 = K := ⟨_, rfl⟩
        rw [hK] at i2 hKs
        have HKK := hidden hK
        have hKb : KK ≤ 4294967297 := by omega
        have hsI : (0 : Int) ≤ (s : Int) + 1 := by omega
        have hsK : (s : Int) + 1 < KK := by omega
        clear hv hnv hmk hwl hK
        refine wpIn_region_held (S := (fun X => X.cell? ⟨w.heap.size, 0, none⟩ = some (.pointer (some ⟨T, 0, none⟩)) ∧ X.cell? ⟨w.heap.size + 1, 0, none⟩ = some (.slice a n cp) ∧ X.cell? ⟨T, 0, none⟩ = some (.slice (some ⟨gM, 0, none⟩) KK cM))) hmx (by kernel_rfl) (fun h => by obtain ⟨_, _, h⟩ := h; exact h) ⟨i0, i1, i2⟩ (fun hHeld => ?_)
        refine wpAnyH_take (i := 0) (oi := ({ dst := some 49, op := Op.load 72 (Operand.tmp 2), type := 72, pos := "table.go:72", after := #[], guard := none } : Oper)) (v := ?_) rfl (by kernel_rfl) (by kernel_rfl) (by kernel_rfl) (fun _ _ _ h => h) (Or.inl ⟨by rfl, ?_⟩) (by assumption) ?_
        rotate_left
        · (intro w hSw; (try dsimp only at hSw); (go_simp <;> with_reducible rfl))
        simp only [Act.put, List.setIfInBounds_toArray, List.set_cons_zero, List.set_cons_succ]
        refine wpAnyH_take (i := 1) (oi := ({ dst := some 50, op := Op.nilCheck (Operand.tmp 49), type := 0, pos := "table.go:72", after := #[{ on := 0, ground := Ground.data }], guard := none } : Oper)) (v := ?_) rfl (by kernel_rfl) (by kernel_rfl) (by kernel_rfl) (fun _ _ _ h => h) (Or.inl ⟨by rfl, ?_⟩) (by assumption) ?_
        rotate_left
        · (intro w hSw; (try dsimp only at hSw); (go_simp <;> with_reducible rfl))
        simp only [Act.put, List.setIfInBounds_toArray, List.set_cons_zero, List.set_cons_succ]
        refine wpAnyH_take (i := 2) (oi := ({ dst := some 51, op := Op.fieldAddr 88 (Operand.tmp 50) 0, type := 0, pos := "table.go:72", after := #[{ on := 1, ground := Ground.data }], guard := none } : Oper)) (v := ?_) rfl (by kernel_rfl) (by kernel_rfl) (by kernel_rfl) (fun _ _ _ h => h) (Or.inl ⟨by rfl, ?_⟩) (by assumption) ?_
        rotate_left
        · (intro w hSw; (try dsimp only at hSw); (go_simp <;> with_reducible rfl))
        simp only [Act.put, List.setIfInBounds_toArray, List.set_cons_zero, List.set_cons_succ]
        refine wpAnyH_take (i := 3) (oi := ({ dst := some 52, op := Op.load 83 (Operand.tmp 51), type := 83, pos := "table.go:72", after := #[{ on := 2, ground := Ground.data }], guard := none } : Oper)) (v := ?_) rfl (by kernel_rfl) (by kernel_rfl) (by kernel_rfl) (fun _ _ _ h => h) (Or.inl ⟨by rfl, ?_⟩) (by assumption) ?_
        rotate_left
        · (intro w hSw; (try dsimp only at hSw); (go_simp <;> with_reducible rfl))
        simp only [Act.put, List.setIfInBounds_toArray, List.set_cons_zero, List.set_cons_succ]
        refine wpAnyH_take (i := 5) (oi := ({ dst := some 54, op := Op.load 72 (Operand.tmp 2), type := 72, pos := "table.go:72", after := #[], guard := none } : Oper)) (v := ?_) rfl (by kernel_rfl) (by kernel_rfl) (by kernel_rfl) (fun _ _ _ h => h) (Or.inl ⟨by rfl, ?_⟩) (by assumption) ?_
        rotate_left
        · (intro w hSw; (try dsimp only at hSw); (go_simp <;> with_reducible rfl))
        simp only [Act.put, List.setIfInBounds_toArray, List.set_cons_zero, List.set_cons_succ]
        refine wpAnyH_take (i := 6) (oi := ({ dst := some 55, op := Op.nilCheck (Operand.tmp 54), type := 0, pos := "table.go:72", after := #[{ on := 5, ground := Ground.data }], guard := none } : Oper)) (v := ?_) rfl (by kernel_rfl) (by kernel_rfl) (by kernel_rfl) (fun _ _ _ h => h) (Or.inl ⟨by rfl, ?_⟩) (by assumption) ?_
        rotate_left
        · (intro w hSw; (try dsimp only at hSw); (go_simp <;> with_reducible rfl))
        simp only [Act.put, List.setIfInBounds_toArray, List.set_cons_zero, List.set_cons_succ]
        refine wpAnyH_take (i := 7) (oi := ({ dst := some 56, op := Op.fieldAddr 88 (Operand.tmp 55) 0, type := 0, pos := "table.go:72", after := #[{ on := 6, ground := Ground.data }], guard := none } : Oper)) (v := ?_) rfl (by kernel_rfl) (by kernel_rfl) (by kernel_rfl) (fun _ _ _ h => h) (Or.inl ⟨by rfl, ?_⟩) (by assumption) ?_
        rotate_left
        · (intro w hSw; (try dsimp only at hSw); (go_simp <;> with_reducible rfl))
        simp only [Act.put, List.setIfInBounds_toArray, List.set_cons_zero, List.set_cons_succ]
        refine wpAnyH_take (i := 8) (oi := ({ dst := some 57, op := Op.load 83 (Operand.tmp 56), type := 83, pos := "table.go:72", after := #[{ on := 7, ground := Ground.data }], guard := none } : Oper)) (v := ?_) rfl (by kernel_rfl) (by kernel_rfl) (by kernel_rfl) (fun _ _ _ h => h) (Or.inl ⟨by rfl, ?_⟩) (by assumption) ?_
        rotate_left
        · (intro w hSw; (try dsimp only at hSw); (go_simp <;> with_reducible rfl))
        simp only [Act.put, List.setIfInBounds_toArray, List.set_cons_zero, List.set_cons_succ]
        refine wpAnyH_take (i := 4) (oi := ({ dst := some 53, op := Op.move (Operand.tmp 8), type := 3, pos := "table.go:72", after := #[], guard := none } : Oper)) (v := ?_) rfl (by kernel_rfl) (by kernel_rfl) (by kernel_rfl) (fun _ _ _ h => h) (Or.inl ⟨by rfl, ?_⟩) (by assumption) ?_
        rotate_left
        · (intro w hSw; (try dsimp only at hSw); (go_simp <;> with_reducible rfl))
        simp only [Act.put, List.setIfInBounds_toArray, List.set_cons_zero, List.set_cons_succ]
        refine wpAnyH_take (i := 9) (oi := ({ dst := some 58, op := Op.move (Operand.tmp 8), type := 3, pos := "table.go:72", after := #[], guard := none } : Oper)) (v := ?_) rfl (by kernel_rfl) (by kernel_rfl) (by kernel_rfl) (fun _ _ _ h => h) (Or.inl ⟨by rfl, ?_⟩) (by assumption) ?_
        rotate_left
        · (intro w hSw; (try dsimp only at hSw); (go_simp <;> with_reducible rfl))
        simp only [Act.put, List.setIfInBounds_toArray, List.set_cons_zero, List.set_cons_succ]
        refine wpAnyH_take (i := 10) (oi := ({ dst := some 59, op := Op.indexAddr 83 (Operand.tmp 57) (Operand.tmp 58), type := 0, pos := "table.go:72", after := #[{ on := 8, ground := Ground.data }, { on := 9, ground := Ground.data }], guard := none } : Oper)) (v := ?_) rfl (by kernel_rfl) (by kernel_rfl) (by kernel_rfl) (fun _ _ _ h => h) (Or.inl ⟨by rfl, ?_⟩) (by assumption) ?_
        rotate_left
        · (intro w hSw; (try dsimp only at hSw); (go_simp <;> with_reducible rfl))
        simp only [Act.put, List.setIfInBounds_toArray, List.set_cons_zero, List.set_cons_succ]
        refine wpAnyH_take (i := 12) (oi := ({ dst := some 61, op := Op.load 28 (Operand.tmp 3), type := 28, pos := "table.go:72", after := #[], guard := none } : Oper)) (v := ?_) rfl (by kernel_rfl) (by kernel_rfl) (by kernel_rfl) (fun _ _ _ h => h) (Or.inl ⟨by rfl, ?_⟩) (by assumption) ?_
        rotate_left
        · (intro w hSw; (try dsimp only at hSw); (go_simp <;> with_reducible rfl))
        simp only [Act.put, List.setIfInBounds_toArray, List.set_cons_zero, List.set_cons_succ]
        refine wpAnyH_take (i := 13) (oi := ({ dst := some 62, op := Op.call { callee := Callee.builtin Builtin.len, args := #[Operand.tmp 61], argTypes := #[28] }, type := 3, pos := "table.go:72", after := #[{ on := 12, ground := Ground.data }], guard := none } : Oper)) (v := ?_) rfl (by kernel_rfl) (by kernel_rfl) (by kernel_rfl) (fun _ _ _ h => h) (Or.inl ⟨by rfl, ?_⟩) (by assumption) ?_
        rotate_left
        · (intro w hSw; (try dsimp only at hSw); (go_simp <;> with_reducible rfl))
        simp only [Act.put, List.setIfInBounds_toArray, List.set_cons_zero, List.set_cons_succ]
        refine wpAnyH_take (i := 14) (oi := ({ dst := some 63, op := Op.binOp BinOp.sub 3 (Operand.tmp 62) (Operand.const (Value.int IntKind.i64 1)) 3, type := 3, pos := "table.go:72", after := #[{ on := 13, ground := Ground.data }], guard := none } : Oper)) (v := ?_) rfl (by kernel_rfl) (by kernel_rfl) (by kernel_rfl) (fun _ _ _ h => h) (Or.inl ⟨by rfl, ?_⟩) (by assumption) ?_
        rotate_left
        · (intro w hSw; (try dsimp only at hSw); (go_simp <;> with_reducible rfl))
        simp only [Act.put, List.setIfInBounds_toArray, List.set_cons_zero, List.set_cons_succ]
        refine wpAnyH_take (i := 15) (oi := ({ dst := some 64, op := Op.move (Operand.tmp 6), type := 3, pos := "table.go:72", after := #[], guard := none } : Oper)) (v := ?_) rfl (by kernel_rfl) (by kernel_rfl) (by kernel_rfl) (fun _ _ _ h => h) (Or.inl ⟨by rfl, ?_⟩) (by assumption) ?_
        rotate_left
        · (intro w hSw; (try dsimp only at hSw); (go_simp <;> with_reducible rfl))
        simp only [Act.put, List.setIfInBounds_toArray, List.set_cons_zero, List.set_cons_succ]
        refine wpAnyH_take (i := 16) (oi := ({ dst := some 65, op := Op.binOp BinOp.sub 3 (Operand.tmp 63) (Operand.tmp 64) 3, type := 3, pos := "table.go:72", after := #[{ on := 14, ground := Ground.data }, { on := 15, ground := Ground.data }], guard := none } : Oper)) (v := ?_) rfl (by kernel_rfl) (by kernel_rfl) (by kernel_rfl) (fun _ _ _ h => h) (Or.inl ⟨by rfl, ?_⟩) (by assumption) ?_
        rotate_left
        · (intro w hSw; (try dsimp only at hSw); (go_simp <;> with_reducible rfl))
        simp only [Act.put, List.setIfInBounds_toArray, List.set_cons_zero, List.set_cons_succ]
        refine wpAnyH_ready (rs := [11]) (by kernel_rfl) (by simp) ?_
        refine AllReadyH.cons (o := ({ dst := some 60, op := Op.load 105 (Operand.tmp 59), type := 105, pos := "table.go:72", after := #[{ on := 10, ground := Ground.data }], guard := none } : Oper)) rfl (fun K hK => ?_) AllReadyH.nil
        go_simp
        refine hK.out _ _ (⟨i0, i1, i2⟩) (fun hHeld => ?_)
        clear hK K
        try simp only [Act.put, List.setIfInBounds_toArray, List.set_cons_zero, List.set_cons_succ]
        refine wpAnyH_ready (rs := [17]) (by kernel_rfl) (by simp) ?_
        refine AllReadyH.cons (o := ({ dst := some 66, op := Op.call { callee := Callee.value (Operand.func 81), args := #[Operand.tmp 60, Operand.tmp 65], argTypes := #[105, 3] }, type := 105, pos := "table.go:72", after := #[{ on := 11, ground := Ground.data }, { on := 16, ground := Ground.data }], guard := none } : Oper)) rfl (fun K hK => ?_) AllReadyH.nil
        refine step_call rfl 81 _ _ rfl #[.slice av nv cv, .int .i64 p] (by simp [Act.eval]; exact HWRP.out) (enters_of Try.func81 (by kernel_rfl) rfl) HWC.out ?_
        rintro e5 w5 ⟨v5, rfl, hw5⟩
        refine ⟨_, rfl, ?_⟩
        obtain ⟨a5, n5, q5, rfl⟩ : ∃ a n c, v5 = .slice a n c := by obtain ⟨a, c, e, _⟩ := own_shape hw5.1; exact ⟨_, _, _, e⟩
        have HW5 := hidden (HWI.out _ _ hw5)
        clear hw5
        have f5 := HW5.out.2.1; have k5 := HW5.out.2.2.1
        refine hK.out _ _ (by rw [← HKK.out]; exact HW5.out.1) (fun hHeld => ?_)
        clear hK K
        try simp only [Act.put, List.setIfInBounds_toArray, List.set_cons_zero, List.set_cons_succ]
        refine wpAnyH_take (i := 18) (oi := ({ dst := some 67, op := Op.indexAddr 83 (Operand.tmp 52) (Operand.tmp 53), type := 0, pos := "table.go:72", after := #[{ on := 3, ground := Ground.data }, { on := 4, ground := Ground.data }, { on := 0, ground := Ground.phase }, { on := 1, ground := Ground.phase }, { on := 2, ground := Ground.phase }, { on := 3, ground := Ground.phase }, { on := 4, ground := Ground.phase }, { on := 5, ground := Ground.phase }, { on := 6, ground := Ground.phase }, { on := 7, ground := Ground.phase }, { on := 8, ground := Ground.phase }, { on := 9, ground := Ground.phase }, { on := 10, ground := Ground.phase }, { on := 11, ground := Ground.phase }, { on := 12, ground := Ground.phase }, { on := 13, ground := Ground.phase }, { on := 14, ground := Ground.phase }, { on := 15, ground := Ground.phase }, { on := 16, ground := Ground.phase }, { on := 17, ground := Ground.phase }], guard := none } : Oper)) (v := ?_) rfl (by kernel_rfl) (by kernel_rfl) (by kernel_rfl) (fun _ _ _ h => h) (Or.inl ⟨by rfl, ?_⟩) (by assumption) ?_
        rotate_left
        · (intro w hSw; (try dsimp only at hSw); (go_simp <;> with_reducible rfl))
        simp only [Act.put, List.setIfInBounds_toArray, List.set_cons_zero, List.set_cons_succ]
        refine wpAnyH_ready (rs := [19]) (by kernel_rfl) (by simp) ?_
        refine AllReadyH.cons (o := ({ dst := none, op := Op.store 105 (Operand.tmp 67) (Operand.tmp 66), type := 0, pos := "table.go:72", after := #[{ on := 18, ground := Ground.data }, { on := 17, ground := Ground.data }, { on := 17, ground := Ground.chain }, { on := 0, ground := Ground.phase }, { on := 1, ground := Ground.phase }, { on := 2, ground := Ground.phase }, { on := 3, ground := Ground.phase }, { on := 4, ground := Ground.phase }, { on := 5, ground := Ground.phase }, { on := 6, ground := Ground.phase }, { on := 7, ground := Ground.phase }, { on := 8, ground := Ground.phase }, { on := 9, ground := Ground.phase }, { on := 10, ground := Ground.phase }, { on := 11, ground := Ground.phase }, { on := 12, ground := Ground.phase }, { on := 13, ground := Ground.phase }, { on := 14, ground := Ground.phase }, { on := 15, ground := Ground.phase }, { on := 16, ground := Ground.phase }, { on := 17, ground := Ground.phase }], guard := none } : Oper)) rfl (fun K hK => ?_) AllReadyH.nil
        go_simp
        refine hK.out _ _ (by rw [← HKK.out]; exact HW5.out.2.2.2.1) (fun hHeld => ?_)
        clear hK K
        try simp only [Act.put, List.setIfInBounds_toArray, List.set_cons_zero, List.set_cons_succ]
        refine wpAnyH_done (by kernel_rfl) ?_ _
        gi_wp2
        exact ⟨(KeepsQ.drew W2).trans HW5.out.2.2.2.2.2, p + 1, ⟨x, by rw [← HJ.out]; exact HX.out, hpl, rfl, rfl⟩, by omega, HW5.out.2.2.2.2.1.fin (Nat.le_succ p) HKN.out⟩
      · have HAS := hidden (show Maps.has D (.string x) = false by rw [HM.out.has x]; simp [hxd])
        obtain ⟨s, hsl⟩ : ∃ s, d.length = s := ⟨_, rfl⟩
        have HXD := hidden hxd
        have HSL := hidden hsl
        rw [hsl] at HIR hdl
        obtain ⟨gM, cM, hv0, _, _⟩ := HIR.out.kr.top.form (by omega)
        subst hv0
        have i0 := HIR.out.bxt.cell
        have i2 := HIR.out.kr.tc.cells.1
        have hsb : s ≤ 4294967296 := by omega
        clear hxd hsl
        gi_wp2_with (first | (gi_at_lookup; refine wpListIn_lookup_own_ok_int _ rfl _ _ 89 rfl 9 3 .i64 lawStr Try.underlying89 Try.underlying3 (zeroInt _) _ p D rfl HM.out.own _ _ rfl hkey ?_; intro cz hat hwc; rw [HAS.out]) | (gi_at_mapUpdate; refine wpListIn_mapUpdate_own _ rfl _ _ _ 89 rfl 9 3 lawStr Try.underlying89 _ _ p D rfl HM.out.own (by unfold maxLen; omega) _ _ _ rfl rfl hkey _ [] (plainElem_int Try.underlying3 (WalkArith.wf_i64 (by omega))) ?_; intro w1 hown1 hgrow1))
        have HP1 := hidden (HIR.out.put (by omega) HXD.out (z := (s : Int) + 1) (by rw [HSL.out]; omega) hown1 hgrow1)
        have HI1 := hidden HP1.out.1
        have KQ1 := hidden HP1.out.2
        clear HP1 i0 i2 hown1 hgrow1 bcm hkey
        have i0 := HI1.out.bxt.cell
        have i0a : ∀ o, (w1.alloc o).cell? ⟨w.heap.size, 0, none⟩ = some (.pointer (some ⟨T, 0, none⟩)) := fun o => (HI1.out.alloc o).bxt.cell
        have i2 := HI1.out.kr.tc.cells.1
        have i2a : ∀ o, (w1.alloc o).cell? ⟨T, 0, none⟩ = some (.slice (some ⟨gM, 0, none⟩) (s + 1) cM) := fun o => (HI1.out.alloc o).kr.tc.cells.1
        refine wpIn_region_held (S := (fun X => X.cell? ⟨w.heap.size, 0, none⟩ = some (.pointer (some ⟨T, 0, none⟩)))) hmx (by kernel_rfl) (fun h => by obtain ⟨_, _, h⟩ := h; exact h) i0 (fun hHeld => ?_)
        refine wpAnyH_take (i := 0) (oi := ({ dst := some 40, op := Op.load 72 (Operand.tmp 2), type := 72, pos := "table.go:70", after := #[], guard := none } : Oper)) (v := ?_) rfl (by kernel_rfl) (by kernel_rfl) (by kernel_rfl) (fun _ _ _ h => h) (Or.inl ⟨by rfl, ?_⟩) (by assumption) ?_
        rotate_left
        · (intro w hSw; (try dsimp only at hSw); (go_simp <;> with_reducible rfl))
        simp only [Act.put, List.setIfInBounds_toArray, List.set_cons_zero, List.set_cons_succ]
        refine wpAnyH_take (i := 1) (oi := ({ dst := some 41, op := Op.load 72 (Operand.tmp 2), type := 72, pos := "table.go:70", after := #[], guard := none } : Oper)) (v := ?_) rfl (by kernel_rfl) (by kernel_rfl) (by kernel_rfl) (fun _ _ _ h => h) (Or.inl ⟨by rfl, ?_⟩) (by assumption) ?_
        rotate_left
        · (intro w hSw; (try dsimp only at hSw); (go_simp <;> with_reducible rfl))
        simp only [Act.put, List.setIfInBounds_toArray, List.set_cons_zero, List.set_cons_succ]
        refine wpAnyH_take (i := 2) (oi := ({ dst := some 42, op := Op.nilCheck (Operand.tmp 41), type := 0, pos := "table.go:70", after := #[{ on := 1, ground := Ground.data }], guard := none } : Oper)) (v := ?_) rfl (by kernel_rfl) (by kernel_rfl) (by kernel_rfl) (fun _ _ _ h => h) (Or.inl ⟨by rfl, ?_⟩) (by assumption) ?_
        rotate_left
        · (intro w hSw; (try dsimp only at hSw); (go_simp <;> with_reducible rfl))
        simp only [Act.put, List.setIfInBounds_toArray, List.set_cons_zero, List.set_cons_succ]
        refine wpAnyH_take (i := 3) (oi := ({ dst := some 43, op := Op.fieldAddr 88 (Operand.tmp 42) 0, type := 0, pos := "table.go:70", after := #[{ on := 2, ground := Ground.data }], guard := none } : Oper)) (v := ?_) rfl (by kernel_rfl) (by kernel_rfl) (by kernel_rfl) (fun _ _ _ h => h) (Or.inl ⟨by rfl, ?_⟩) (by assumption) ?_
        rotate_left
        · (intro w hSw; (try dsimp only at hSw); (go_simp <;> with_reducible rfl))
        simp only [Act.put, List.setIfInBounds_toArray, List.set_cons_zero, List.set_cons_succ]
        refine wpAnyH_ready (rs := [4, 5]) (by kernel_rfl) (by simp) ?_
        refine AllReadyH.cons (o := ({ dst := some 44, op := Op.load 83 (Operand.tmp 43), type := 83, pos := "table.go:70", after := #[{ on := 3, ground := Ground.data }], guard := none } : Oper)) rfl (fun K hK => ?_) (AllReadyH.cons (o := ({ dst := some 45, op := Op.buildSlice 83 1 #[(0, Operand.const (Value.slice none 0 0))], type := 83, pos := "table.go:70", after := #[], guard := none } : Oper)) rfl (fun K hK => ?_) AllReadyH.nil)
        · go_simp
          refine hK.out _ _ (i0) (fun hHeld => ?_)
          clear hK K
          try simp only [Act.put, List.setIfInBounds_toArray, List.set_cons_zero, List.set_cons_succ]
          refine wpAnyH_ready (rs := [5]) (by kernel_rfl) (by simp) ?_
          refine AllReadyH.cons (o := ({ dst := some 45, op := Op.buildSlice 83 1 #[(0, Operand.const (Value.slice none 0 0))], type := 83, pos := "table.go:70", after := #[], guard := none } : Oper)) rfl (fun K hK => ?_) AllReadyH.nil
          go_simp
          refine hK.out _ _ (i0a _) (fun hHeld => ?_)
          clear hK K
          try simp only [Act.put, List.setIfInBounds_toArray, List.set_cons_zero, List.set_cons_succ]
          refine wpAnyH_ready (rs := [6]) (by kernel_rfl) (by simp) ?_
          refine AllReadyH.cons (o := ({ dst := some 46, op := Op.call { callee := Callee.builtin Builtin.append, args := #[Operand.tmp 44, Operand.tmp 45], argTypes := #[83, 83] }, type := 83, pos := "table.go:70", after := #[{ on := 4, ground := Ground.data }, { on := 5, ground := Ground.data }], guard := none } : Oper)) rfl (fun K hK => ?_) AllReadyH.nil
          refine step_app rfl (.tmp 44) (.tmp 45) 83 105 rfl (.slice none 0 0) 1 24 Try.underlying83 Try.infoMarks rfl (by decide) w.heap.size w1.heap.size (.slice (some ⟨gM, 0, none⟩) (s + 1) cM) (s + 1) ((List.range (s + 1)).map vm) [.slice none 0 0] (by first | rfl | simp [Act.eval, Act.put]) (by first | rfl | simp [Act.eval, Act.put]) (owns_later HI1.out.kr.top (by (with_reducible (repeat (first | exact Below.refl _ _ | exact Below.refl _ _ | apply bel_alloc | apply bel_put | apply bel_set | apply Below.drew | apply below_drewN | assumption | omega))))) rfl (fun u hu => by rw [List.mem_singleton.1 hu]; rfl) (by first | exact cells_new w1 _ _ rfl _ | exact cells_new _ _ _ (by simp) _) (by omega) (by decide) (by have := HI1.out.kp.size; simp; omega) ?_
          intro g9 c9 w9 hown9 hg9 hl9
          have HM9 := hidden ((HI1.out.later (by (with_reducible (repeat (first | exact Below.refl _ _ | exact Below.refl _ _ | apply bel_alloc | apply bel_put | apply bel_set | apply Below.drew | apply below_drewN | assumption | omega))))).more hown9 hg9)
          have f9 := HM9.out.2.2.1
          have d9 := HM9.out.2.1
          clear hown9 hg9 hl9
          refine hK.out _ _ (HM9.out.1) (fun hHeld => ?_)
          clear hK K
          try simp only [Act.put, List.setIfInBounds_toArray, List.set_cons_zero, List.set_cons_succ]
          refine wpAnyH_take (i := 7) (oi := ({ dst := some 47, op := Op.nilCheck (Operand.tmp 40), type := 0, pos := "table.go:70", after := #[{ on := 0, ground := Ground.data }, { on := 0, ground := Ground.phase }, { on := 1, ground := Ground.phase }, { on := 2, ground := Ground.phase }, { on := 3, ground := Ground.phase }, { on := 4, ground := Ground.phase }, { on := 5, ground := Ground.phase }, { on := 6, ground := Ground.phase }], guard := none } : Oper)) (v := ?_) rfl (by kernel_rfl) (by kernel_rfl) (by kernel_rfl) (fun _ _ _ h => h) (Or.inl ⟨by rfl, ?_⟩) (by assumption) ?_
          rotate_left
          · (intro w hSw; (try dsimp only at hSw); (go_simp <;> with_reducible rfl))
          simp only [Act.put, List.setIfInBounds_toArray, List.set_cons_zero, List.set_cons_succ]
          refine wpAnyH_take (i := 8) (oi := ({ dst := some 48, op := Op.fieldAddr 88 (Operand.tmp 47) 0, type := 0, pos := "table.go:70", after := #[{ on := 7, ground := Ground.data }, { on := 0, ground := Ground.phase }, { on := 1, ground := Ground.phase }, { on := 2, ground := Ground.phase }, { on := 3, ground := Ground.phase }, { on := 4, ground := Ground.phase }, { on := 5, ground := Ground.phase }, { on := 6, ground := Ground.phase }], guard := none } : Oper)) (v := ?_) rfl (by kernel_rfl) (by kernel_rfl) (by kernel_rfl) (fun _ _ _ h => h) (Or.inl ⟨by rfl, ?_⟩) (by assumption) ?_
          rotate_left
          · (intro w hSw; (try dsimp only at hSw); (go_simp <;> with_reducible rfl))
          simp only [Act.put, List.setIfInBounds_toArray, List.set_cons_zero, List.set_cons_succ]
          refine wpAnyH_ready (rs := [9]) (by kernel_rfl) (by simp) ?_
          refine AllReadyH.cons (o := ({ dst := none, op := Op.store 83 (Operand.tmp 48) (Operand.tmp 46), type := 0, pos := "table.go:70", after := #[{ on := 8, ground := Ground.data }, { on := 6, ground := Ground.data }, { on := 6, ground := Ground.chain }, { on := 0, ground := Ground.phase }, { on := 1, ground := Ground.phase }, { on := 2, ground := Ground.phase }, { on := 3, ground := Ground.phase }, { on := 4, ground := Ground.phase }, { on := 5, ground := Ground.phase }, { on := 6, ground := Ground.phase }], guard := none } : Oper)) rfl (fun K hK => ?_) AllReadyH.nil
          go_simp
          refine hK.out _ _ (HM9.out.2.2.2.1.bxt.cell) (fun hHeld => ?_)
          clear hK K
          try simp only [Act.put, List.setIfInBounds_toArray, List.set_cons_zero, List.set_cons_succ]
          refine wpAnyH_done (by kernel_rfl) ?_ _
          have HI2 := hidden HM9.out.2.2.2.1
          have KQ2 := hidden ((KQ1.out.trans (KeepsQ.of_below (W := w1) (by (with_reducible (repeat (first | exact Below.refl _ _ | exact Below.refl _ _ | apply bel_alloc | apply bel_put | apply bel_set | apply Below.drew | apply below_drewN | assumption | omega)))))).trans HM9.out.2.2.2.2)
          clear HM9 f9 d9 i0 i0a i2 i2a HI1 KQ1
          generalize World.setCell w9 _ _ = W3 at HI2 KQ2 ⊢
          obtain ⟨d2, hd2⟩ : ∃ d2, d ++ [x] = d2 := ⟨_, rfl⟩
          have hd2l : d2.length = s + 1 := by rw [← hd2, List.length_append, HSL.out]; rfl
          have HX2 := hidden (show d2[s]? = some x by rw [← hd2, List.getElem?_append_right (by rw [HSL.out]; exact Nat.le_refl _), HSL.out, Nat.sub_self]; rfl)
          have hmm6 := HKP.out.more HXD.out (by rw [HSL.out]; omega)
          rw [HSL.out, hd2] at hmm6
          rw [hd2, show s + 1 + 1 = d2.length + 1 by omega] at HI2
          obtain ⟨vm2, hvm2⟩ : ∃ f, (fun t => if t = s + 1 then Value.slice none 0 0 else vm t) = f := ⟨_, rfl⟩
          obtain ⟨wsf2, hwsf2⟩ : ∃ f, (fun t => if t = s + 1 then ([] : List Nat) else wsf t) = f := ⟨_, rfl⟩
          obtain ⟨gf2, hgf2⟩ : ∃ f, (fun t => if t = s + 1 then (fun _ => false : Bs) else gf t) = f := ⟨_, rfl⟩
          rw [hvm2, hwsf2, hgf2] at HI2
          rw [hwsf2, hgf2] at hmm6
          have HQ6 := hidden (show (∀ t, t < d2.length + 1 → Mks (wsf2 t) (gf2 t) p) ∧ (∀ i, gf2 0 i = false) ∧ (∀ t, t < d2.length → ∀ i, gf2 (t + 1) i = decide (i < p ∧ xs[n - 1 - i]? = d2[t]?)) ∧ d2.Nodup ∧ ∀ i y, i < p → xs[n - 1 - i]? = some y → y ∈ d2 from ⟨fun t ht => hmm6.1 t (by omega), hmm6.2.1, fun t ht => hmm6.2.2.1 t (by omega), hmm6.2.2.2.1, hmm6.2.2.2.2⟩)
          clear hmm6 hd2 hvm2 hwsf2 hgf2
          gi_wp2
          have hsd : s < (d2).length := (List.getElem?_eq_some_iff.1 HX2.out).1
          have hKs : s + 1 < (d2).length + 1 := by omega
          obtain ⟨av, cv, hv⟩ := HI2.out.kr.vshape hKs
          obtain ⟨nv, hnv⟩ : ∃ nv, (wsf2 (s + 1)).length = nv := ⟨_, rfl⟩
          have hmk := HQ6.out.1 (s + 1) hKs
          have hwl := sorted_len (Nb := p) (wsf2 (s + 1)) 0 hmk.up (fun x hx => ⟨Nat.zero_le _, by have := hmk.low x hx; omega⟩)
          have HWC := hidden (show Calls Try.prog 81 #[.slice av nv cv, .int .i64 p] W3.drew fun e w5 => ∃ v5, e = .returned v5 ∧ w5.ownsRow w.heap.size 113 2 v5 (nextW (wsf2 (s + 1)) (p / 64)).length (mcells (nextW (wsf2 (s + 1)) (p / 64)) (put1 (gf2 (s + 1)) p)) ∧ W3.drew.grownBy w5 (vm2 (s + 1)).ownBlock ∧ (v5.ownBlock = (vm2 (s + 1)).ownBlock ∨ ∃ q, v5.ownBlock = some q ∧ W3.drew.heap.size ≤ q) by
            have h := bwith_any w.heap.size (vm2 (s + 1)) (wsf2 (s + 1)) (gf2 (s + 1)) p W3.drew (HI2.out.drew.kr.own (s + 1) hKs) hmk (by omega) (by omega) HI2.out.drew.kp.size
            rw [hv, hnv] at h
            rw [hv, hnv]
            exact h)
          have HWI := hidden (fun v5 w5 (h : World.ownsRow w5 w.heap.size 113 2 v5 (nextW (wsf2 (s + 1)) (p / 64)).length (mcells (nextW (wsf2 (s + 1)) (p / 64)) (put1 (gf2 (s + 1)) p)) ∧ W3.drew.grownBy w5 (vm2 (s + 1)).ownBlock ∧ (v5.ownBlock = (vm2 (s + 1)).ownBlock ∨ ∃ q, v5.ownBlock = some q ∧ W3.drew.heap.size ≤ q)) => HI2.out.drew.with_ rfl hKs h.1 h.2.1 h.2.2)
          have i0 := HI2.out.bxt.cell
          have i1 := HI2.out.bxa.cell
          have i2 := HI2.out.kr.tc.cells.1
          have m0 : W3.cell? ⟨g9, s + 1, none⟩ = some (.slice av nv cv) := by rw [HI2.out.kr.top.cellAt (s + 1) (by omega)]; simp [hKs, hv, hnv]
          have HKN := hidden (KP.next HQ6.out.1 HQ6.out.2.1 HQ6.out.2.2.1 HQ6.out.2.2.2.1 (by omega) HQ6.out.2.2.2.2 HX.out HX2.out)
          obtain ⟨KK, hK⟩ : ∃ K, (d2).length + 1 = K := ⟨_, rfl⟩
          rw [hK] at i2 hKs
          have HKK := hidden hK
          have hKb : KK ≤ 4294967297 := by omega
          have hsI : (0 : Int) ≤ (s : Int) + 1 := by omega
          have hsK : (s : Int) + 1 < KK := by omega
          clear hv hnv hmk hwl hK
          refine wpIn_region_held (S := (fun X => X.cell? ⟨w.heap.size, 0, none⟩ = some (.pointer (some ⟨T, 0, none⟩)) ∧ X.cell? ⟨w.heap.size + 1, 0, none⟩ = some (.slice a n cp) ∧ X.cell? ⟨T, 0, none⟩ = some (.slice (some ⟨g9, 0, none⟩) KK c9))) hmx (by kernel_rfl) (fun h => by obtain ⟨_, _, h⟩ := h; exact h) ⟨i0, i1, i2⟩ (fun hHeld => ?_)
          refine wpAnyH_take (i := 0) (oi := ({ dst := some 49, op := Op.load 72 (Operand.tmp 2), type := 72, pos := "table.go:72", after := #[], guard := none } : Oper)) (v := ?_) rfl (by kernel_rfl) (by kernel_rfl) (by kernel_rfl) (fun _ _ _ h => h) (Or.inl ⟨by rfl, ?_⟩) (by assumption) ?_
          rotate_left
          · (intro w hSw; (try dsimp only at hSw); (go_simp <;> with_reducible rfl))
          simp only [Act.put, List.setIfInBounds_toArray, List.set_cons_zero, List.set_cons_succ]
          refine wpAnyH_take (i := 1) (oi := ({ dst := some 50, op := Op.nilCheck (Operand.tmp 49), type := 0, pos := "table.go:72", after := #[{ on := 0, ground := Ground.data }], guard := none } : Oper)) (v := ?_) rfl (by kernel_rfl) (by kernel_rfl) (by kernel_rfl) (fun _ _ _ h => h) (Or.inl ⟨by rfl, ?_⟩) (by assumption) ?_
          rotate_left
          · (intro w hSw; (try dsimp only at hSw); (go_simp <;> with_reducible rfl))
          simp only [Act.put, List.setIfInBounds_toArray, List.set_cons_zero, List.set_cons_succ]
          refine wpAnyH_take (i := 2) (oi := ({ dst := some 51, op := Op.fieldAddr 88 (Operand.tmp 50) 0, type := 0, pos := "table.go:72", after := #[{ on := 1, ground := Ground.data }], guard := none } : Oper)) (v := ?_) rfl (by kernel_rfl) (by kernel_rfl) (by kernel_rfl) (fun _ _ _ h => h) (Or.inl ⟨by rfl, ?_⟩) (by assumption) ?_
          rotate_left
          · (intro w hSw; (try dsimp only at hSw); (go_simp <;> with_reducible rfl))
          simp only [Act.put, List.setIfInBounds_toArray, List.set_cons_zero, List.set_cons_succ]
          refine wpAnyH_take (i := 3) (oi := ({ dst := some 52, op := Op.load 83 (Operand.tmp 51), type := 83, pos := "table.go:72", after := #[{ on := 2, ground := Ground.data }], guard := none } : Oper)) (v := ?_) rfl (by kernel_rfl) (by kernel_rfl) (by kernel_rfl) (fun _ _ _ h => h) (Or.inl ⟨by rfl, ?_⟩) (by assumption) ?_
          rotate_left
          · (intro w hSw; (try dsimp only at hSw); (go_simp <;> with_reducible rfl))
          simp only [Act.put, List.setIfInBounds_toArray, List.set_cons_zero, List.set_cons_succ]
          refine wpAnyH_take (i := 5) (oi := ({ dst := some 54, op := Op.load 72 (Operand.tmp 2), type := 72, pos := "table.go:72", after := #[], guard := none } : Oper)) (v := ?_) rfl (by kernel_rfl) (by kernel_rfl) (by kernel_rfl) (fun _ _ _ h => h) (Or.inl ⟨by rfl, ?_⟩) (by assumption) ?_
          rotate_left
          · (intro w hSw; (try dsimp only at hSw); (go_simp <;> with_reducible rfl))
          simp only [Act.put, List.setIfInBounds_toArray, List.set_cons_zero, List.set_cons_succ]
          refine wpAnyH_take (i := 6) (oi := ({ dst := some 55, op := Op.nilCheck (Operand.tmp 54), type := 0, pos := "table.go:72", after := #[{ on := 5, ground := Ground.data }], guard := none } : Oper)) (v := ?_) rfl (by kernel_rfl) (by kernel_rfl) (by kernel_rfl) (fun _ _ _ h => h) (Or.inl ⟨by rfl, ?_⟩) (by assumption) ?_
          rotate_left
          · (intro w hSw; (try dsimp only at hSw); (go_simp <;> with_reducible rfl))
          simp only [Act.put, List.setIfInBounds_toArray, List.set_cons_zero, List.set_cons_succ]
          refine wpAnyH_take (i := 7) (oi := ({ dst := some 56, op := Op.fieldAddr 88 (Operand.tmp 55) 0, type := 0, pos := "table.go:72", after := #[{ on := 6, ground := Ground.data }], guard := none } : Oper)) (v := ?_) rfl (by kernel_rfl) (by kernel_rfl) (by kernel_rfl) (fun _ _ _ h => h) (Or.inl ⟨by rfl, ?_⟩) (by assumption) ?_
          rotate_left
          · (intro w hSw; (try dsimp only at hSw); (go_simp <;> with_reducible rfl))
          simp only [Act.put, List.setIfInBounds_toArray, List.set_cons_zero, List.set_cons_succ]
          refine wpAnyH_take (i := 8) (oi := ({ dst := some 57, op := Op.load 83 (Operand.tmp 56), type := 83, pos := "table.go:72", after := #[{ on := 7, ground := Ground.data }], guard := none } : Oper)) (v := ?_) rfl (by kernel_rfl) (by kernel_rfl) (by kernel_rfl) (fun _ _ _ h => h) (Or.inl ⟨by rfl, ?_⟩) (by assumption) ?_
          rotate_left
          · (intro w hSw; (try dsimp only at hSw); (go_simp <;> with_reducible rfl))
          simp only [Act.put, List.setIfInBounds_toArray, List.set_cons_zero, List.set_cons_succ]
          refine wpAnyH_take (i := 4) (oi := ({ dst := some 53, op := Op.move (Operand.tmp 8), type := 3, pos := "table.go:72", after := #[], guard := none } : Oper)) (v := ?_) rfl (by kernel_rfl) (by kernel_rfl) (by kernel_rfl) (fun _ _ _ h => h) (Or.inl ⟨by rfl, ?_⟩) (by assumption) ?_
          rotate_left
          · (intro w hSw; (try dsimp only at hSw); (go_simp <;> with_reducible rfl))
          simp only [Act.put, List.setIfInBounds_toArray, List.set_cons_zero, List.set_cons_succ]
          refine wpAnyH_take (i := 9) (oi := ({ dst := some 58, op := Op.move (Operand.tmp 8), type := 3, pos := "table.go:72", after := #[], guard := none } : Oper)) (v := ?_) rfl (by kernel_rfl) (by kernel_rfl) (by kernel_rfl) (fun _ _ _ h => h) (Or.inl ⟨by rfl, ?_⟩) (by assumption) ?_
          rotate_left
          · (intro w hSw; (try dsimp only at hSw); (go_simp <;> with_reducible rfl))
          simp only [Act.put, List.setIfInBounds_toArray, List.set_cons_zero, List.set_cons_succ]
          refine wpAnyH_take (i := 10) (oi := ({ dst := some 59, op := Op.indexAddr 83 (Operand.tmp 57) (Operand.tmp 58), type := 0, pos := "table.go:72", after := #[{ on := 8, ground := Ground.data }, { on := 9, ground := Ground.data }], guard := none } : Oper)) (v := ?_) rfl (by kernel_rfl) (by kernel_rfl) (by kernel_rfl) (fun _ _ _ h => h) (Or.inl ⟨by rfl, ?_⟩) (by assumption) ?_
          rotate_left
          · (intro w hSw; (try dsimp only at hSw); (go_simp <;> with_reducible rfl))
          simp only [Act.put, List.setIfInBounds_toArray, List.set_cons_zero, List.set_cons_succ]
          refine wpAnyH_take (i := 12) (oi := ({ dst := some 61, op := Op.load 28 (Operand.tmp 3), type := 28, pos := "table.go:72", after := #[], guard := none } : Oper)) (v := ?_) rfl (by kernel_rfl) (by kernel_rfl) (by kernel_rfl) (fun _ _ _ h => h) (Or.inl ⟨by rfl, ?_⟩) (by assumption) ?_
          rotate_left
          · (intro w hSw; (try dsimp only at hSw); (go_simp <;> with_reducible rfl))
          simp only [Act.put, List.setIfInBounds_toArray, List.set_cons_zero, List.set_cons_succ]
          refine wpAnyH_take (i := 13) (oi := ({ dst := some 62, op := Op.call { callee := Callee.builtin Builtin.len, args := #[Operand.tmp 61], argTypes := #[28] }, type := 3, pos := "table.go:72", after := #[{ on := 12, ground := Ground.data }], guard := none } : Oper)) (v := ?_) rfl (by kernel_rfl) (by kernel_rfl) (by kernel_rfl) (fun _ _ _ h => h) (Or.inl ⟨by rfl, ?_⟩) (by assumption) ?_
          rotate_left
          · (intro w hSw; (try dsimp only at hSw); (go_simp <;> with_reducible rfl))
          simp only [Act.put, List.setIfInBounds_toArray, List.set_cons_zero, List.set_cons_succ]
          refine wpAnyH_take (i := 14) (oi := ({ dst := some 63, op := Op.binOp BinOp.sub 3 (Operand.tmp 62) (Operand.const (Value.int IntKind.i64 1)) 3, type := 3, pos := "table.go:72", after := #[{ on := 13, ground := Ground.data }], guard := none } : Oper)) (v := ?_) rfl (by kernel_rfl) (by kernel_rfl) (by kernel_rfl) (fun _ _ _ h => h) (Or.inl ⟨by rfl, ?_⟩) (by assumption) ?_
          rotate_left
          · (intro w hSw; (try dsimp only at hSw); (go_simp <;> with_reducible rfl))
          simp only [Act.put, List.setIfInBounds_toArray, List.set_cons_zero, List.set_cons_succ]
          refine wpAnyH_take (i := 15) (oi := ({ dst := some 64, op := Op.move (Operand.tmp 6), type := 3, pos := "table.go:72", after := #[], guard := none } : Oper)) (v := ?_) rfl (by kernel_rfl) (by kernel_rfl) (by kernel_rfl) (fun _ _ _ h => h) (Or.inl ⟨by rfl, ?_⟩) (by assumption) ?_
          rotate_left
          · (intro w hSw; (try dsimp only at hSw); (go_simp <;> with_reducible rfl))
          simp only [Act.put, List.setIfInBounds_toArray, List.set_cons_zero, List.set_cons_succ]
          refine wpAnyH_take (i := 16) (oi := ({ dst := some 65, op := Op.binOp BinOp.sub 3 (Operand.tmp 63) (Operand.tmp 64) 3, type := 3, pos := "table.go:72", after := #[{ on := 14, ground := Ground.data }, { on := 15, ground := Ground.data }], guard := none } : Oper)) (v := ?_) rfl (by kernel_rfl) (by kernel_rfl) (by kernel_rfl) (fun _ _ _ h => h) (Or.inl ⟨by rfl, ?_⟩) (by assumption) ?_
          rotate_left
          · (intro w hSw; (try dsimp only at hSw); (go_simp <;> with_reducible rfl))
          simp only [Act.put, List.setIfInBounds_toArray, List.set_cons_zero, List.set_cons_succ]
          refine wpAnyH_ready (rs := [11]) (by kernel_rfl) (by simp) ?_
          refine AllReadyH.cons (o := ({ dst := some 60, op := Op.load 105 (Operand.tmp 59), type := 105, pos := "table.go:72", after := #[{ on := 10, ground := Ground.data }], guard := none } : Oper)) rfl (fun K hK => ?_) AllReadyH.nil
          go_simp
          refine hK.out _ _ (⟨i0, i1, i2⟩) (fun hHeld => ?_)
          clear hK K
          try simp only [Act.put, List.setIfInBounds_toArray, List.set_cons_zero, List.set_cons_succ]
          refine wpAnyH_ready (rs := [17]) (by kernel_rfl) (by simp) ?_
          refine AllReadyH.cons (o := ({ dst := some 66, op := Op.call { callee := Callee.value (Operand.func 81), args := #[Operand.tmp 60, Operand.tmp 65], argTypes := #[105, 3] }, type := 105, pos := "table.go:72", after := #[{ on := 11, ground := Ground.data }, { on := 16, ground := Ground.data }], guard := none } : Oper)) rfl (fun K hK => ?_) AllReadyH.nil
          refine step_call rfl 81 _ _ rfl #[.slice av nv cv, .int .i64 p] (by simp [Act.eval]; exact HWRP.out) (enters_of Try.func81 (by kernel_rfl) rfl) HWC.out ?_
          rintro e5 w5 ⟨v5, rfl, hw5⟩
          refine ⟨_, rfl, ?_⟩
          obtain ⟨a5, n5, q5, rfl⟩ : ∃ a n c, v5 = .slice a n c := by obtain ⟨a, c, e, _⟩ := own_shape hw5.1; exact ⟨_, _, _, e⟩
          have HW5 := hidden (HWI.out _ _ hw5)
          clear hw5
          have f5 := HW5.out.2.1; have k5 := HW5.out.2.2.1
          refine hK.out _ _ (by rw [← HKK.out]; exact HW5.out.1) (fun hHeld => ?_)
          clear hK K
          try simp only [Act.put, List.setIfInBounds_toArray, List.set_cons_zero, List.set_cons_succ]
          refine wpAnyH_take (i := 18) (oi := ({ dst := some 67, op := Op.indexAddr 83 (Operand.tmp 52) (Operand.tmp 53), type := 0, pos := "table.go:72", after := #[{ on := 3, ground := Ground.data }, { on := 4, ground := Ground.data }, { on := 0, ground := Ground.phase }, { on := 1, ground := Ground.phase }, { on := 2, ground := Ground.phase }, { on := 3, ground := Ground.phase }, { on := 4, ground := Ground.phase }, { on := 5, ground := Ground.phase }, { on := 6, ground := Ground.phase }, { on := 7, ground := Ground.phase }, { on := 8, ground := Ground.phase }, { on := 9, ground := Ground.phase }, { on := 10, ground := Ground.phase }, { on := 11, ground := Ground.phase }, { on := 12, ground := Ground.phase }, { on := 13, ground := Ground.phase }, { on := 14, ground := Ground.phase }, { on := 15, ground := Ground.phase }, { on := 16, ground := Ground.phase }, { on := 17, ground := Ground.phase }], guard := none } : Oper)) (v := ?_) rfl (by kernel_rfl) (by kernel_rfl) (by kernel_rfl) (fun _ _ _ h => h) (Or.inl ⟨by rfl, ?_⟩) (by assumption) ?_
          rotate_left
          · (intro w hSw; (try dsimp only at hSw); (go_simp <;> with_reducible rfl))
          simp only [Act.put, List.setIfInBounds_toArray, List.set_cons_zero, List.set_cons_succ]
          refine wpAnyH_ready (rs := [19]) (by kernel_rfl) (by simp) ?_
          refine AllReadyH.cons (o := ({ dst := none, op := Op.store 105 (Operand.tmp 67) (Operand.tmp 66), type := 0, pos := "table.go:72", after := #[{ on := 18, ground := Ground.data }, { on := 17, ground := Ground.data }, { on := 17, ground := Ground.chain }, { on := 0, ground := Ground.phase }, { on := 1, ground := Ground.phase }, { on := 2, ground := Ground.phase }, { on := 3, ground := Ground.phase }, { on := 4, ground := Ground.phase }, { on := 5, ground := Ground.phase }, { on := 6, ground := Ground.phase }, { on := 7, ground := Ground.phase }, { on := 8, ground := Ground.phase }, { on := 9, ground := Ground.phase }, { on := 10, ground := Ground.phase }, { on := 11, ground := Ground.phase }, { on := 12, ground := Ground.phase }, { on := 13, ground := Ground.phase }, { on := 14, ground := Ground.phase }, { on := 15, ground := Ground.phase }, { on := 16, ground := Ground.phase }, { on := 17, ground := Ground.phase }], guard := none } : Oper)) rfl (fun K hK => ?_) AllReadyH.nil
          go_simp
          refine hK.out _ _ (by rw [← HKK.out]; exact HW5.out.2.2.2.1) (fun hHeld => ?_)
          clear hK K
          try simp only [Act.put, List.setIfInBounds_toArray, List.set_cons_zero, List.set_cons_succ]
          refine wpAnyH_done (by kernel_rfl) ?_ _
          gi_wp2
          exact ⟨(KQ2.out.trans (KeepsQ.drew W3)).trans HW5.out.2.2.2.2.2, p + 1, ⟨x, by rw [← HJ.out]; exact HX.out, hpl, rfl, rfl⟩, by omega, HW5.out.2.2.2.2.1.fin (Nat.le_refl _) HKN.out⟩
        · go_simp
          refine hK.out _ _ (i0a _) (fun hHeld => ?_)
          clear hK K
          try simp only [Act.put, List.setIfInBounds_toArray, List.set_cons_zero, List.set_cons_succ]
          refine wpAnyH_ready (rs := [4]) (by kernel_rfl) (by simp) ?_
          refine AllReadyH.cons (o := ({ dst := some 44, op := Op.load 83 (Operand.tmp 43), type := 83, pos := "table.go:70", after := #[{ on := 3, ground := Ground.data }], guard := none } : Oper)) rfl (fun K hK => ?_) AllReadyH.nil
          go_simp
          refine hK.out _ _ (i0a _) (fun hHeld => ?_)
          clear hK K
          try simp only [Act.put, List.setIfInBounds_toArray, List.set_cons_zero, List.set_cons_succ]
          refine wpAnyH_ready (rs := [6]) (by kernel_rfl) (by simp) ?_
          refine AllReadyH.cons (o := ({ dst := some 46, op := Op.call { callee := Callee.builtin Builtin.append, args := #[Operand.tmp 44, Operand.tmp 45], argTypes := #[83, 83] }, type := 83, pos := "table.go:70", after := #[{ on := 4, ground := Ground.data }, { on := 5, ground := Ground.data }], guard := none } : Oper)) rfl (fun K hK => ?_) AllReadyH.nil
          refine step_app rfl (.tmp 44) (.tmp 45) 83 105 rfl (.slice none 0 0) 1 24 Try.underlying83 Try.infoMarks rfl (by decide) w.heap.size w1.heap.size (.slice (some ⟨gM, 0, none⟩) (s + 1) cM) (s + 1) ((List.range (s + 1)).map vm) [.slice none 0 0] (by first | rfl | simp [Act.eval, Act.put]) (by first | rfl | simp [Act.eval, Act.put]) (owns_later HI1.out.kr.top (by (with_reducible (repeat (first | exact Below.refl _ _ | exact Below.refl _ _ | apply bel_alloc | apply bel_put | apply bel_set | apply Below.drew | apply below_drewN | assumption | omega))))) rfl (fun u hu => by rw [List.mem_singleton.1 hu]; rfl) (by first | exact cells_new w1 _ _ rfl _ | exact cells_new _ _ _ (by simp) _) (by omega) (by decide) (by have := HI1.out.kp.size; simp; omega) ?_
          intro g9 c9 w9 hown9 hg9 hl9
          have HM9 := hidden ((HI1.out.later (by (with_reducible (repeat (first | exact Below.refl _ _ | exact Below.refl _ _ | apply bel_alloc | apply bel_put | apply bel_set | apply Below.drew | apply below_drewN | assumption | omega))))).more hown9 hg9)
          have f9 := HM9.out.2.2.1
          have d9 := HM9.out.2.1
          clear hown9 hg9 hl9
          refine hK.out _ _ (HM9.out.1) (fun hHeld => ?_)
          clear hK K
          try simp only [Act.put, List.setIfInBounds_toArray, List.set_cons_zero, List.set_cons_succ]
          refine wpAnyH_take (i := 7) (oi := ({ dst := some 47, op := Op.nilCheck (Operand.tmp 40), type := 0, pos := "table.go:70", after := #[{ on := 0, ground := Ground.data }, { on := 0, ground := Ground.phase }, { on := 1, ground := Ground.phase }, { on := 2, ground := Ground.phase }, { on := 3, ground := Ground.phase }, { on := 4, ground := Ground.phase }, { on := 5, ground := Ground.phase }, { on := 6, ground := Ground.phase }], guard := none } : Oper)) (v := ?_) rfl (by kernel_rfl) (by kernel_rfl) (by kernel_rfl) (fun _ _ _ h => h) (Or.inl ⟨by rfl, ?_⟩) (by assumption) ?_
          rotate_left
          · (intro w hSw; (try dsimp only at hSw); (go_simp <;> with_reducible rfl))
          simp only [Act.put, List.setIfInBounds_toArray, List.set_cons_zero, List.set_cons_succ]
          refine wpAnyH_take (i := 8) (oi := ({ dst := some 48, op := Op.fieldAddr 88 (Operand.tmp 47) 0, type := 0, pos := "table.go:70", after := #[{ on := 7, ground := Ground.data }, { on := 0, ground := Ground.phase }, { on := 1, ground := Ground.phase }, { on := 2, ground := Ground.phase }, { on := 3, ground := Ground.phase }, { on := 4, ground := Ground.phase }, { on := 5, ground := Ground.phase }, { on := 6, ground := Ground.phase }], guard := none } : Oper)) (v := ?_) rfl (by kernel_rfl) (by kernel_rfl) (by kernel_rfl) (fun _ _ _ h => h) (Or.inl ⟨by rfl, ?_⟩) (by assumption) ?_
          rotate_left
          · (intro w hSw; (try dsimp only at hSw); (go_simp <;> with_reducible rfl))
          simp only [Act.put, List.setIfInBounds_toArray, List.set_cons_zero, List.set_cons_succ]
          refine wpAnyH_ready (rs := [9]) (by kernel_rfl) (by simp) ?_
          refine AllReadyH.cons (o := ({ dst := none, op := Op.store 83 (Operand.tmp 48) (Operand.tmp 46), type := 0, pos := "table.go:70", after := #[{ on := 8, ground := Ground.data }, { on := 6, ground := Ground.data }, { on := 6, ground := Ground.chain }, { on := 0, ground := Ground.phase }, { on := 1, ground := Ground.phase }, { on := 2, ground := Ground.phase }, { on := 3, ground := Ground.phase }, { on := 4, ground := Ground.phase }, { on := 5, ground := Ground.phase }, { on := 6, ground := Ground.phase }], guard := none } : Oper)) rfl (fun K hK => ?_) AllReadyH.nil
          go_simp
          refine hK.out _ _ (HM9.out.2.2.2.1.bxt.cell) (fun hHeld => ?_)
          clear hK K
          try simp only [Act.put, List.setIfInBounds_toArray, List.set_cons_zero, List.set_cons_succ]
          refine wpAnyH_done (by kernel_rfl) ?_ _
          have HI2 := hidden HM9.out.2.2.2.1
          have KQ2 := hidden ((KQ1.out.trans (KeepsQ.of_below (W := w1) (by (with_reducible (repeat (first | exact Below.refl _ _ | exact Below.refl _ _ | apply bel_alloc | apply bel_put | apply bel_set | apply Below.drew | apply below_drewN | assumption | omega)))))).trans HM9.out.2.2.2.2)
          clear HM9 f9 d9 i0 i0a i2 i2a HI1 KQ1
          generalize World.setCell w9 _ _ = W3 at HI2 KQ2 ⊢
          obtain ⟨d2, hd2⟩ : ∃ d2, d ++ [x] = d2 := ⟨_, rfl⟩
          have hd2l : d2.length = s + 1 := by rw [← hd2, List.length_append, HSL.out]; rfl
          have HX2 := hidden (show d2[s]? = some x by rw [← hd2, List.getElem?_append_right (by rw [HSL.out]; exact Nat.le_refl _), HSL.out, Nat.sub_self]; rfl)
          have hmm6 := HKP.out.more HXD.out (by rw [HSL.out]; omega)
          rw [HSL.out, hd2] at hmm6
          rw [hd2, show s + 1 + 1 = d2.length + 1 by omega] at HI2
          obtain ⟨vm2, hvm2⟩ : ∃ f, (fun t => if t = s + 1 then Value.slice none 0 0 else vm t) = f := ⟨_, rfl⟩
          obtain ⟨wsf2, hwsf2⟩ : ∃ f, (fun t => if t = s + 1 then ([] : List Nat) else wsf t) = f := ⟨_, rfl⟩
          obtain ⟨gf2, hgf2⟩ : ∃ f, (fun t => if t = s + 1 then (fun _ => false : Bs) else gf t) = f := ⟨_, rfl⟩
          rw [hvm2, hwsf2, hgf2] at HI2
          rw [hwsf2, hgf2] at hmm6
          have HQ6 := hidden (show (∀ t, t < d2.length + 1 → Mks (wsf2 t) (gf2 t) p) ∧ (∀ i, gf2 0 i = false) ∧ (∀ t, t < d2.length → ∀ i, gf2 (t + 1) i = decide (i < p ∧ xs[n - 1 - i]? = d2[t]?)) ∧ d2.Nodup ∧ ∀ i y, i < p → xs[n - 1 - i]? = some y → y ∈ d2 from ⟨fun t ht => hmm6.1 t (by omega), hmm6.2.1, fun t ht => hmm6.2.2.1 t (by omega), hmm6.2.2.2.1, hmm6.2.2.2.2⟩)
          clear hmm6 hd2 hvm2 hwsf2 hgf2
          gi_wp2
          have hsd : s < (d2).length := (List.getElem?_eq_some_iff.1 HX2.out).1
          have hKs : s + 1 < (d2).length + 1 := by omega
          obtain ⟨av, cv, hv⟩ := HI2.out.kr.vshape hKs
          obtain ⟨nv, hnv⟩ : ∃ nv, (wsf2 (s + 1)).length = nv := ⟨_, rfl⟩
          have hmk := HQ6.out.1 (s + 1) hKs
          have hwl := sorted_len (Nb := p) (wsf2 (s + 1)) 0 hmk.up (fun x hx => ⟨Nat.zero_le _, by have := hmk.low x hx; omega⟩)
          have HWC := hidden (show Calls Try.prog 81 #[.slice av nv cv, .int .i64 p] W3.drew fun e w5 => ∃ v5, e = .returned v5 ∧ w5.ownsRow w.heap.size 113 2 v5 (nextW (wsf2 (s + 1)) (p / 64)).length (mcells (nextW (wsf2 (s + 1)) (p / 64)) (put1 (gf2 (s + 1)) p)) ∧ W3.drew.grownBy w5 (vm2 (s + 1)).ownBlock ∧ (v5.ownBlock = (vm2 (s + 1)).ownBlock ∨ ∃ q, v5.ownBlock = some q ∧ W3.drew.heap.size ≤ q) by
            have h := bwith_any w.heap.size (vm2 (s + 1)) (wsf2 (s + 1)) (gf2 (s + 1)) p W3.drew (HI2.out.drew.kr.own (s + 1) hKs) hmk (by omega) (by omega) HI2.out.drew.kp.size
            rw [hv, hnv] at h
            rw [hv, hnv]
            exact h)
          have HWI := hidden (fun v5 w5 (h : World.ownsRow w5 w.heap.size 113 2 v5 (nextW (wsf2 (s + 1)) (p / 64)).length (mcells (nextW (wsf2 (s + 1)) (p / 64)) (put1 (gf2 (s + 1)) p)) ∧ W3.drew.grownBy w5 (vm2 (s + 1)).ownBlock ∧ (v5.ownBlock = (vm2 (s + 1)).ownBlock ∨ ∃ q, v5.ownBlock = some q ∧ W3.drew.heap.size ≤ q)) => HI2.out.drew.with_ rfl hKs h.1 h.2.1 h.2.2)
          have i0 := HI2.out.bxt.cell
          have i1 := HI2.out.bxa.cell
          have i2 := HI2.out.kr.tc.cells.1
          have m0 : W3.cell? ⟨g9, s + 1, none⟩ = some (.slice av nv cv) := by rw [HI2.out.kr.top.cellAt (s + 1) (by omega)]; simp [hKs, hv, hnv]
          have HKN := hidden (KP.next HQ6.out.1 HQ6.out.2.1 HQ6.out.2.2.1 HQ6.out.2.2.2.1 (by omega) HQ6.out.2.2.2.2 HX.out HX2.out)
          obtain ⟨KK, hK⟩ : ∃ K, (d2).length + 1 = K := ⟨_, rfl⟩
          rw [hK] at i2 hKs
          have HKK := hidden hK
          have hKb : KK ≤ 4294967297 := by omega
          have hsI : (0 : Int) ≤ (s : Int) + 1 := by omega
          have hsK : (s : Int) + 1 < KK := by omega
          clear hv hnv hmk hwl hK
          refine wpIn_region_held (S := (fun X => X.cell? ⟨w.heap.size, 0, none⟩ = some (.pointer (some ⟨T, 0, none⟩)) ∧ X.cell? ⟨w.heap.size + 1, 0, none⟩ = some (.slice a n cp) ∧ X.cell? ⟨T, 0, none⟩ = some (.slice (some ⟨g9, 0, none⟩) KK c9))) hmx (by kernel_rfl) (fun h => by obtain ⟨_, _, h⟩ := h; exact h) ⟨i0, i1, i2⟩ (fun hHeld => ?_)
          refine wpAnyH_take (i := 0) (oi := ({ dst := some 49, op := Op.load 72 (Operand.tmp 2), type := 72, pos := "table.go:72", after := #[], guard := none } : Oper)) (v := ?_) rfl (by kernel_rfl) (by kernel_rfl) (by kernel_rfl) (fun _ _ _ h => h) (Or.inl ⟨by rfl, ?_⟩) (by assumption) ?_
          rotate_left
          · (intro w hSw; (try dsimp only at hSw); (go_simp <;> with_reducible rfl))
          simp only [Act.put, List.setIfInBounds_toArray, List.set_cons_zero, List.set_cons_succ]
          refine wpAnyH_take (i := 1) (oi := ({ dst := some 50, op := Op.nilCheck (Operand.tmp 49), type := 0, pos := "table.go:72", after := #[{ on := 0, ground := Ground.data }], guard := none } : Oper)) (v := ?_) rfl (by kernel_rfl) (by kernel_rfl) (by kernel_rfl) (fun _ _ _ h => h) (Or.inl ⟨by rfl, ?_⟩) (by assumption) ?_
          rotate_left
          · (intro w hSw; (try dsimp only at hSw); (go_simp <;> with_reducible rfl))
          simp only [Act.put, List.setIfInBounds_toArray, List.set_cons_zero, List.set_cons_succ]
          refine wpAnyH_take (i := 2) (oi := ({ dst := some 51, op := Op.fieldAddr 88 (Operand.tmp 50) 0, type := 0, pos := "table.go:72", after := #[{ on := 1, ground := Ground.data }], guard := none } : Oper)) (v := ?_) rfl (by kernel_rfl) (by kernel_rfl) (by kernel_rfl) (fun _ _ _ h => h) (Or.inl ⟨by rfl, ?_⟩) (by assumption) ?_
          rotate_left
          · (intro w hSw; (try dsimp only at hSw); (go_simp <;> with_reducible rfl))
          simp only [Act.put, List.setIfInBounds_toArray, List.set_cons_zero, List.set_cons_succ]
          refine wpAnyH_take (i := 3) (oi := ({ dst := some 52, op := Op.load 83 (Operand.tmp 51), type := 83, pos := "table.go:72", after := #[{ on := 2, ground := Ground.data }], guard := none } : Oper)) (v := ?_) rfl (by kernel_rfl) (by kernel_rfl) (by kernel_rfl) (fun _ _ _ h => h) (Or.inl ⟨by rfl, ?_⟩) (by assumption) ?_
          rotate_left
          · (intro w hSw; (try dsimp only at hSw); (go_simp <;> with_reducible rfl))
          simp only [Act.put, List.setIfInBounds_toArray, List.set_cons_zero, List.set_cons_succ]
          refine wpAnyH_take (i := 5) (oi := ({ dst := some 54, op := Op.load 72 (Operand.tmp 2), type := 72, pos := "table.go:72", after := #[], guard := none } : Oper)) (v := ?_) rfl (by kernel_rfl) (by kernel_rfl) (by kernel_rfl) (fun _ _ _ h => h) (Or.inl ⟨by rfl, ?_⟩) (by assumption) ?_
          rotate_left
          · (intro w hSw; (try dsimp only at hSw); (go_simp <;> with_reducible rfl))
          simp only [Act.put, List.setIfInBounds_toArray, List.set_cons_zero, List.set_cons_succ]
          refine wpAnyH_take (i := 6) (oi := ({ dst := some 55, op := Op.nilCheck (Operand.tmp 54), type := 0, pos := "table.go:72", after := #[{ on := 5, ground := Ground.data }], guard := none } : Oper)) (v := ?_) rfl (by kernel_rfl) (by kernel_rfl) (by kernel_rfl) (fun _ _ _ h => h) (Or.inl ⟨by rfl, ?_⟩) (by assumption) ?_
          rotate_left
          · (intro w hSw; (try dsimp only at hSw); (go_simp <;> with_reducible rfl))
          simp only [Act.put, List.setIfInBounds_toArray, List.set_cons_zero, List.set_cons_succ]
          refine wpAnyH_take (i := 7) (oi := ({ dst := some 56, op := Op.fieldAddr 88 (Operand.tmp 55) 0, type := 0, pos := "table.go:72", after := #[{ on := 6, ground := Ground.data }], guard := none } : Oper)) (v := ?_) rfl (by kernel_rfl) (by kernel_rfl) (by kernel_rfl) (fun _ _ _ h => h) (Or.inl ⟨by rfl, ?_⟩) (by assumption) ?_
          rotate_left
          · (intro w hSw; (try dsimp only at hSw); (go_simp <;> with_reducible rfl))
          simp only [Act.put, List.setIfInBounds_toArray, List.set_cons_zero, List.set_cons_succ]
          refine wpAnyH_take (i := 8) (oi := ({ dst := some 57, op := Op.load 83 (Operand.tmp 56), type := 83, pos := "table.go:72", after := #[{ on := 7, ground := Ground.data }], guard := none } : Oper)) (v := ?_) rfl (by kernel_rfl) (by kernel_rfl) (by kernel_rfl) (fun _ _ _ h => h) (Or.inl ⟨by rfl, ?_⟩) (by assumption) ?_
          rotate_left
          · (intro w hSw; (try dsimp only at hSw); (go_simp <;> with_reducible rfl))
          simp only [Act.put, List.setIfInBounds_toArray, List.set_cons_zero, List.set_cons_succ]
          refine wpAnyH_take (i := 4) (oi := ({ dst := some 53, op := Op.move (Operand.tmp 8), type := 3, pos := "table.go:72", after := #[], guard := none } : Oper)) (v := ?_) rfl (by kernel_rfl) (by kernel_rfl) (by kernel_rfl) (fun _ _ _ h => h) (Or.inl ⟨by rfl, ?_⟩) (by assumption) ?_
          rotate_left
          · (intro w hSw; (try dsimp only at hSw); (go_simp <;> with_reducible rfl))
          simp only [Act.put, List.setIfInBounds_toArray, List.set_cons_zero, List.set_cons_succ]
          refine wpAnyH_take (i := 9) (oi := ({ dst := some 58, op := Op.move (Operand.tmp 8), type := 3, pos := "table.go:72", after := #[], guard := none } : Oper)) (v := ?_) rfl (by kernel_rfl) (by kernel_rfl) (by kernel_rfl) (fun _ _ _ h => h) (Or.inl ⟨by rfl, ?_⟩) (by assumption) ?_
          rotate_left
          · (intro w hSw; (try dsimp only at hSw); (go_simp <;> with_reducible rfl))
          simp only [Act.put, List.setIfInBounds_toArray, List.set_cons_zero, List.set_cons_succ]
          refine wpAnyH_take (i := 10) (oi := ({ dst := some 59, op := Op.indexAddr 83 (Operand.tmp 57) (Operand.tmp 58), type := 0, pos := "table.go:72", after := #[{ on := 8, ground := Ground.data }, { on := 9, ground := Ground.data }], guard := none } : Oper)) (v := ?_) rfl (by kernel_rfl) (by kernel_rfl) (by kernel_rfl) (fun _ _ _ h => h) (Or.inl ⟨by rfl, ?_⟩) (by assumption) ?_
          rotate_left
          · (intro w hSw; (try dsimp only at hSw); (go_simp <;> with_reducible rfl))
          simp only [Act.put, List.setIfInBounds_toArray, List.set_cons_zero, List.set_cons_succ]
          refine wpAnyH_take (i := 12) (oi := ({ dst := some 61, op := Op.load 28 (Operand.tmp 3), type := 28, pos := "table.go:72", after := #[], guard := none } : Oper)) (v := ?_) rfl (by kernel_rfl) (by kernel_rfl) (by kernel_rfl) (fun _ _ _ h => h) (Or.inl ⟨by rfl, ?_⟩) (by assumption) ?_
          rotate_left
          · (intro w hSw; (try dsimp only at hSw); (go_simp <;> with_reducible rfl))
          simp only [Act.put, List.setIfInBounds_toArray, List.set_cons_zero, List.set_cons_succ]
          refine wpAnyH_take (i := 13) (oi := ({ dst := some 62, op := Op.call { callee := Callee.builtin Builtin.len, args := #[Operand.tmp 61], argTypes := #[28] }, type := 3, pos := "table.go:72", after := #[{ on := 12, ground := Ground.data }], guard := none } : Oper)) (v := ?_) rfl (by kernel_rfl) (by kernel_rfl) (by kernel_rfl) (fun _ _ _ h => h) (Or.inl ⟨by rfl, ?_⟩) (by assumption) ?_
          rotate_left
          · (intro w hSw; (try dsimp only at hSw); (go_simp <;> with_reducible rfl))
          simp only [Act.put, List.setIfInBounds_toArray, List.set_cons_zero, List.set_cons_succ]
          refine wpAnyH_take (i := 14) (oi := ({ dst := some 63, op := Op.binOp BinOp.sub 3 (Operand.tmp 62) (Operand.const (Value.int IntKind.i64 1)) 3, type := 3, pos := "table.go:72", after := #[{ on := 13, ground := Ground.data }], guard := none } : Oper)) (v := ?_) rfl (by kernel_rfl) (by kernel_rfl) (by kernel_rfl) (fun _ _ _ h => h) (Or.inl ⟨by rfl, ?_⟩) (by assumption) ?_
          rotate_left
          · (intro w hSw; (try dsimp only at hSw); (go_simp <;> with_reducible rfl))
          simp only [Act.put, List.setIfInBounds_toArray, List.set_cons_zero, List.set_cons_succ]
          refine wpAnyH_take (i := 15) (oi := ({ dst := some 64, op := Op.move (Operand.tmp 6), type := 3, pos := "table.go:72", after := #[], guard := none } : Oper)) (v := ?_) rfl (by kernel_rfl) (by kernel_rfl) (by kernel_rfl) (fun _ _ _ h => h) (Or.inl ⟨by rfl, ?_⟩) (by assumption) ?_
          rotate_left
          · (intro w hSw; (try dsimp only at hSw); (go_simp <;> with_reducible rfl))
          simp only [Act.put, List.setIfInBounds_toArray, List.set_cons_zero, List.set_cons_succ]
          refine wpAnyH_take (i := 16) (oi := ({ dst := some 65, op := Op.binOp BinOp.sub 3 (Operand.tmp 63) (Operand.tmp 64) 3, type := 3, pos := "table.go:72", after := #[{ on := 14, ground := Ground.data }, { on := 15, ground := Ground.data }], guard := none } : Oper)) (v := ?_) rfl (by kernel_rfl) (by kernel_rfl) (by kernel_rfl) (fun _ _ _ h => h) (Or.inl ⟨by rfl, ?_⟩) (by assumption) ?_
          rotate_left
          · (intro w hSw; (try dsimp only at hSw); (go_simp <;> with_reducible rfl))
          simp only [Act.put, List.setIfInBounds_toArray, List.set_cons_zero, List.set_cons_succ]
          refine wpAnyH_ready (rs := [11]) (by kernel_rfl) (by simp) ?_
          refine AllReadyH.cons (o := ({ dst := some 60, op := Op.load 105 (Operand.tmp 59), type := 105, pos := "table.go:72", after := #[{ on := 10, ground := Ground.data }], guard := none } : Oper)) rfl (fun K hK => ?_) AllReadyH.nil
          go_simp
          refine hK.out _ _ (⟨i0, i1, i2⟩) (fun hHeld => ?_)
          clear hK K
          try simp only [Act.put, List.setIfInBounds_toArray, List.set_cons_zero, List.set_cons_succ]
          refine wpAnyH_ready (rs := [17]) (by kernel_rfl) (by simp) ?_
          refine AllReadyH.cons (o := ({ dst := some 66, op := Op.call { callee := Callee.value (Operand.func 81), args := #[Operand.tmp 60, Operand.tmp 65], argTypes := #[105, 3] }, type := 105, pos := "table.go:72", after := #[{ on := 11, ground := Ground.data }, { on := 16, ground := Ground.data }], guard := none } : Oper)) rfl (fun K hK => ?_) AllReadyH.nil
          refine step_call rfl 81 _ _ rfl #[.slice av nv cv, .int .i64 p] (by simp [Act.eval]; exact HWRP.out) (enters_of Try.func81 (by kernel_rfl) rfl) HWC.out ?_
          rintro e5 w5 ⟨v5, rfl, hw5⟩
          refine ⟨_, rfl, ?_⟩
          obtain ⟨a5, n5, q5, rfl⟩ : ∃ a n c, v5 = .slice a n c := by obtain ⟨a, c, e, _⟩ := own_shape hw5.1; exact ⟨_, _, _, e⟩
          have HW5 := hidden (HWI.out _ _ hw5)
          clear hw5
          have f5 := HW5.out.2.1; have k5 := HW5.out.2.2.1
          refine hK.out _ _ (by rw [← HKK.out]; exact HW5.out.1) (fun hHeld => ?_)
          clear hK K
          try simp only [Act.put, List.setIfInBounds_toArray, List.set_cons_zero, List.set_cons_succ]
          refine wpAnyH_take (i := 18) (oi := ({ dst := some 67, op := Op.indexAddr 83 (Operand.tmp 52) (Operand.tmp 53), type := 0, pos := "table.go:72", after := #[{ on := 3, ground := Ground.data }, { on := 4, ground := Ground.data }, { on := 0, ground := Ground.phase }, { on := 1, ground := Ground.phase }, { on := 2, ground := Ground.phase }, { on := 3, ground := Ground.phase }, { on := 4, ground := Ground.phase }, { on := 5, ground := Ground.phase }, { on := 6, ground := Ground.phase }, { on := 7, ground := Ground.phase }, { on := 8, ground := Ground.phase }, { on := 9, ground := Ground.phase }, { on := 10, ground := Ground.phase }, { on := 11, ground := Ground.phase }, { on := 12, ground := Ground.phase }, { on := 13, ground := Ground.phase }, { on := 14, ground := Ground.phase }, { on := 15, ground := Ground.phase }, { on := 16, ground := Ground.phase }, { on := 17, ground := Ground.phase }], guard := none } : Oper)) (v := ?_) rfl (by kernel_rfl) (by kernel_rfl) (by kernel_rfl) (fun _ _ _ h => h) (Or.inl ⟨by rfl, ?_⟩) (by assumption) ?_
          rotate_left
          · (intro w hSw; (try dsimp only at hSw); (go_simp <;> with_reducible rfl))
          simp only [Act.put, List.setIfInBounds_toArray, List.set_cons_zero, List.set_cons_succ]
          refine wpAnyH_ready (rs := [19]) (by kernel_rfl) (by simp) ?_
          refine AllReadyH.cons (o := ({ dst := none, op := Op.store 105 (Operand.tmp 67) (Operand.tmp 66), type := 0, pos := "table.go:72", after := #[{ on := 18, ground := Ground.data }, { on := 17, ground := Ground.data }, { on := 17, ground := Ground.chain }, { on := 0, ground := Ground.phase }, { on := 1, ground := Ground.phase }, { on := 2, ground := Ground.phase }, { on := 3, ground := Ground.phase }, { on := 4, ground := Ground.phase }, { on := 5, ground := Ground.phase }, { on := 6, ground := Ground.phase }, { on := 7, ground := Ground.phase }, { on := 8, ground := Ground.phase }, { on := 9, ground := Ground.phase }, { on := 10, ground := Ground.phase }, { on := 11, ground := Ground.phase }, { on := 12, ground := Ground.phase }, { on := 13, ground := Ground.phase }, { on := 14, ground := Ground.phase }, { on := 15, ground := Ground.phase }, { on := 16, ground := Ground.phase }, { on := 17, ground := Ground.phase }], guard := none } : Oper)) rfl (fun K hK => ?_) AllReadyH.nil
          go_simp
          refine hK.out _ _ (by rw [← HKK.out]; exact HW5.out.2.2.2.1) (fun hHeld => ?_)
          clear hK K
          try simp only [Act.put, List.setIfInBounds_toArray, List.set_cons_zero, List.set_cons_succ]
          refine wpAnyH_done (by kernel_rfl) ?_ _
          gi_wp2
          exact ⟨(KQ2.out.trans (KeepsQ.drew W3)).trans HW5.out.2.2.2.2.2, p + 1, ⟨x, by rw [← HJ.out]; exact HX.out, hpl, rfl, rfl⟩, by omega, HW5.out.2.2.2.2.1.fin (Nat.le_refl _) HKN.out⟩
    case hiter =>
      intro l J Jx W hJI hJJ hJ0 hY
      refine (backw1_any xs a n cp bl l HN.out hnb J Jx (fun p W h => (hJI p W h).2.bxl) (fun p W h => (hJI p W h).2.row HR.out HA.out) ?_ W hJ0).mono ?_
      · intro p x W hx hp hj m
        obtain ⟨fn, tmps, assign, body, hy, hR⟩ := hY p _ (p + 1) W ⟨x, hx, hp, rfl, rfl⟩ hj m
        refine ⟨fn, tmps, assign, body, hy, hR.mono ?_⟩
        rintro e w' (⟨rfl, y, ⟨_, _, _, _, rfl⟩, hj'⟩ | h')
        · exact Or.inl ⟨rfl, hj'⟩
        · exact Or.inr h'
      · rintro e w' ⟨hv, hj⟩
        exact ⟨hv, hj.elim (fun h => Or.inl ⟨n, h, rfl⟩) Or.inr⟩
    case hdone =>
      rintro D p W hD rfl ⟨_, hI⟩ hK hold
      have cell := hI.bxm.cell
      go_wp2_with fail
      refine leaves_tmp2 rfl rfl hK (fun o' => ?_)
      have hI2 := hI.putObj o' (by omega) hK rfl
      obtain ⟨d, v0, vm, wsf, gf, DD, hm, hk, hp⟩ := hI2.ex
      exact ⟨_, d, v0, vm, wsf, gf, DD, rfl, by omega, hm, hk, hp, hI2.kp⟩
    case hstop => exact fun D c W _ h => h.elim

end Go.Proofs.Ytmbalnjobcgpkaa
