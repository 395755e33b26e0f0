
/-
  What the program's own apart answers at any two lists of steps that are right by themselves and agree on the middle: the walk; conditions: the lists' and the texts' lengths.
-/
import Derived.Test.YtcjjboomljbmbaaXApt
import Derived.Sort.CutIn
namespace Go.Proofs.Ytcjjboomljbmbaa
open Go.RowKit Go.Proofs.Ytcjjboomljbmbaa.Ln Go.Proofs.Ytcjjboomljbmbaa.Ol

/-- how a round finds things: what is left of both, what has been told to either, whose changes stand side by side, where the rows lie -/
abbrev St15 := List Oq × List Oq × List Oq × List Oq × Int × Rw
def IA (w : World) (vp vq : Value) (p q : List Oq) (R : List (Oq × Int) × Bool) (x : St15) (W : World) : Prop := (∃ va vb, TA w vp vq x.2.2.1 x.2.2.2.1 x.2.2.2.2.1 x.2.2.2.2.2 va vb va vb W) ∧ XI p q R x.1 x.2.1 x.2.2.2.2.1 x.2.2.1 x.2.2.2.1
def StpA (x : St15) (v : Value) (y : St15) : Prop := ∃ b1 b2, ¬ (x.1 = [] ∧ x.2.1 = []) ∧ v = mV (Ol.mt x.1 x.2.1) ∧ x.2.2.2.2.2 = some (b1, b2, nxP x.1 x.2.1, nxQ x.1 x.2.1) ∧ y.1 = nxP x.1 x.2.1 ∧ y.2.1 = nxQ x.1 x.2.1 ∧ y.2.2.2.2.2 = x.2.2.2.2.2
/-- how it is left ahead of its end -/
def IB (w : World) (R : List (Oq × Int) × Bool) (c : Code) (W : World) : Prop := c = .ret ∧ Below w.heap.size w W ∧ Boxed W w.heap.size 22 (.slice none 0 0) ∧ Boxed W (w.heap.size + 1) 22 (.slice none 0 0) ∧ Boxed W (w.heap.size + 1 + 1) 4 (.bool false) ∧ (nbO 0 R.1 || R.2) = true
theorem IB.of {w : World} {vp vq va vb xa xb : Value} {A B : List Oq} {n : Int} {r : Rw} {R : List (Oq × Int) × Bool} {W : World} (h : TA w vp vq A B n r xa xb va vb W) (hn : (nbO 0 R.1 || R.2) = true) : IB w R .ret (((W.setCell ⟨w.heap.size, 0, none⟩ (.slice none 0 0)).setCell ⟨w.heap.size + 1, 0, none⟩ (.slice none 0 0)).setCell ⟨w.heap.size + 1 + 1, 0, none⟩ (.bool false)) :=
  ⟨rfl, bel_set (bel_set (bel_set h.bel (Nat.le_refl _)) (by omega)) (by omega), box_keep (box_keep (Boxed.set _ h.res0) (heap_setCell_ne _ _ _ _ _ (by omega))) (heap_setCell_ne _ _ _ _ _ (by omega)), box_keep (Boxed.set _ (box_keep h.res1 (heap_setCell_ne _ _ _ _ _ (by omega)))) (heap_setCell_ne _ _ _ _ _ (by omega)), Boxed.set _ (box_keep (box_keep h.res2 (heap_setCell_ne _ _ _ _ _ (by omega))) (heap_setCell_ne _ _ _ _ _ (by omega))), hn⟩
theorem results_apt {fn : Func} {t u s : Tmp} (h : fn.results = #[.cell t 22, .cell u 22, .cell s 4]) (tmps : Array Value) (w : World) (b : Nat) (v v2 : Value) (r : Bool) (hp : tmps.getD t undef = .pointer (some ⟨b, 0, none⟩)) (hq : tmps.getD u undef = .pointer (some ⟨b + 1, 0, none⟩)) (hs : tmps.getD s undef = .pointer (some ⟨b + 1 + 1, 0, none⟩)) (hb : Boxed w b 22 v) (hb2 : Boxed w (b + 1) 22 v2) (hc : Boxed w (b + 1 + 1) 4 (.bool r)) (hv : ∃ a n c, v = .slice a n c) (hv2 : ∃ a n c, v2 = .slice a n c) :
    (results fn tmps).run Try.prog w = .ok (.tuple #[v, v2, .bool r]) w := by
  have q0 := hb.cell
  have q1 := hb2.cell
  have q2 := hc.cell
  obtain ⟨a, n, c, rfl⟩ := hv
  obtain ⟨a', n', c', rfl⟩ := hv2
  rw [Array.getD_eq_getD_getElem?] at hp hq hs
  simp [results, h, hp, hq, hs, go_sem, q0, q1, q2]
theorem leaves_apt {fn : Func} {t u s : Tmp} {tmps : Array Value} {R : Ending → World → Prop} {b : Nat} {v v2 : Value} {r : Bool} (h : fn.results = #[.cell t 22, .cell u 22, .cell s 4]) (hp : tmps.getD t undef = .pointer (some ⟨b, 0, none⟩)) (hq : tmps.getD u undef = .pointer (some ⟨b + 1, 0, none⟩)) (hs : tmps.getD s undef = .pointer (some ⟨b + 1 + 1, 0, none⟩))
    (D : Nat) (W : World) (hK : W.heap[D]? = some (.deferred (some []))) (hb : Boxed W b 22 v) (hb2 : Boxed W (b + 1) 22 v2) (hc : Boxed W (b + 1 + 1) 4 (.bool r)) (hv : ∃ a n c, v = .slice a n c) (hv2 : ∃ a n c, v2 = .slice a n c) (hR : ∀ o', R (.returned (.tuple #[v, v2, .bool r])) (W.putObj D o')) : LeavesInM Fence.wide 5 Try.prog fn tmps R [{ target := .collected D, args := #[] }] .returning W := by
  refine ⟨by simp, Or.inl ⟨D, _, rfl, run_takeDeferred hK, ?_⟩⟩
  refine ⟨_, results_apt h tmps _ b _ _ r hp hq hs ?_ ?_ ?_ hv hv2, hR _⟩
  · exact box_keep hb (World.putObj_heap_other (box_noncells hb hK rfl))
  · exact box_keep hb2 (World.putObj_heap_other (box_noncells hb2 hK rfl))
  · exact box_keep hc (World.putObj_heap_other (box_noncells hc hK rfl))

/-- what apart answers -/
def AAns (w : World) (R : List (Oq × Int) × Bool) (e : Ending) (w' : World) : Prop := ∃ v1 v2, e = .returned (.tuple #[v1, v2, .bool (!(nbO 0 R.1 || R.2))]) ∧ Below w.heap.size w w' ∧ ((nbO 0 R.1 || R.2) = true → v1 = .slice none 0 0 ∧ v2 = .slice none 0 0) ∧ ((nbO 0 R.1 || R.2) = false → OpsAt w' v1 (fsO R.1) ∧ OpsAt w' v2 (snO R.1))
set_option maxRecDepth 4000 in
set_option maxHeartbeats 8000000 in
theorem apart_any (vp vq : Value) (p q : List Oq) (R : List (Oq × Int) × Bool) (w : World) (hp : OpsAt w vp p) (hq : OpsAt w vq q) (hlp : p.length ≤ 1099511627776) (hlq : q.length ≤ 1099511627776) (hAp : Al p) (hAq : Al q) (hFp : Fit p) (hFq : Fit q) (hw : wk (p.length + q.length + 1) false p q = some R) :
    Calls Try.prog 26 #[vp, vq] w (AAns w R) := by
  have HP := hidden hp
  have HQ := hidden hq
  have HAP := hidden hAp
  have HAQ := hidden hAq
  have HXI := hidden (XI.start hAp hAq hFp hFq hw)
  obtain ⟨a1, c1, rfl⟩ := hp.shape
  obtain ⟨a2, c2, rfl⟩ := hq.shape
  clear hp hq hAp hAq hFp hFq hw
  refine (callsIn_wide (n := 5)).1 (callsIn_of_wp_marks Try.func26 rfl trivial (wpIn_wide.2 (wp_mono (Q := lookPost _ _) ?_ (fun e a w h => lookPost_is e a w h))) rfl)
  simp only [Try.ntmps26, List.size_toArray, List.length_cons, List.length_nil, Nat.reduceAdd, Nat.reduceSub, Array.replicate_succ, Array.replicate_zero, List.push_toArray, List.append_toArray, List.nil_append, List.cons_append]
  go_wp2_with fail
  refine (cmeetings_any a1 a2 p.length q.length c1 c2 _).mono ?_
  rintro e w2 ⟨rfl, hw2⟩
  have HI0 := hidden (show IA w (.slice a1 p.length c1) (.slice a2 q.length c2) p q R (p, q, [], [], 0, none) w2 by
    rw [hw2]
    refine ⟨⟨.slice none 0 0, .slice none 0 0, by (with_reducible (repeat (first | exact Below.refl _ _ | exact Below.refl _ _ | apply bel_alloc | apply bel_put | apply bel_set | apply Below.drew | apply below_drewN | assumption | omega))), ?_, ?_, ?_, ?_, ?_, ?_, ?_, ?_, (fun b1 b2 P Q e => by cases e), ⟨rfl, Or.inl ⟨rfl, rfl⟩⟩, ⟨rfl, Or.inl ⟨rfl, rfl⟩⟩, (fun k e => by cases e)⟩, HXI.out⟩
    · have h := ((((((Boxed.new w 22 (.slice none 0 0)).alloc (.cells #[.slice none 0 0] 22)).alloc (.cells #[.bool false] 4)).alloc (.cells #[.slice none 0 0] 22)).alloc (.cells #[.slice none 0 0] 22)).alloc (.cells #[.int .i64 0] 3)).alloc (.cells #[.slice a1 p.length c1] 22)
      exact h.alloc (.cells #[.slice a2 q.length c2] 22)
    · have h := (((((Boxed.new (w.alloc (.cells #[.slice none 0 0] 22)) 22 (.slice none 0 0)).alloc (.cells #[.bool false] 4)).alloc (.cells #[.slice none 0 0] 22)).alloc (.cells #[.slice none 0 0] 22)).alloc (.cells #[.int .i64 0] 3)).alloc (.cells #[.slice a1 p.length c1] 22)
      simp only [World.size_alloc] at h; exact h.alloc (.cells #[.slice a2 q.length c2] 22)
    · have h := ((((Boxed.new ((w.alloc (.cells #[.slice none 0 0] 22)).alloc (.cells #[.slice none 0 0] 22)) 4 (.bool false)).alloc (.cells #[.slice none 0 0] 22)).alloc (.cells #[.slice none 0 0] 22)).alloc (.cells #[.int .i64 0] 3)).alloc (.cells #[.slice a1 p.length c1] 22)
      simp only [World.size_alloc] at h; exact h.alloc (.cells #[.slice a2 q.length c2] 22)
    · have h := (((Boxed.new (((w.alloc (.cells #[.slice none 0 0] 22)).alloc (.cells #[.slice none 0 0] 22)).alloc (.cells #[.bool false] 4)) 22 (.slice none 0 0)).alloc (.cells #[.slice none 0 0] 22)).alloc (.cells #[.int .i64 0] 3)).alloc (.cells #[.slice a1 p.length c1] 22)
      simp only [World.size_alloc] at h; exact h.alloc (.cells #[.slice a2 q.length c2] 22)
    · have h := ((Boxed.new ((((w.alloc (.cells #[.slice none 0 0] 22)).alloc (.cells #[.slice none 0 0] 22)).alloc (.cells #[.bool false] 4)).alloc (.cells #[.slice none 0 0] 22)) 22 (.slice none 0 0)).alloc (.cells #[.int .i64 0] 3)).alloc (.cells #[.slice a1 p.length c1] 22)
      simp only [World.size_alloc] at h; exact h.alloc (.cells #[.slice a2 q.length c2] 22)
    · have h := (Boxed.new (((((w.alloc (.cells #[.slice none 0 0] 22)).alloc (.cells #[.slice none 0 0] 22)).alloc (.cells #[.bool false] 4)).alloc (.cells #[.slice none 0 0] 22)).alloc (.cells #[.slice none 0 0] 22)) 3 (.int .i64 0)).alloc (.cells #[.slice a1 p.length c1] 22)
      simp only [World.size_alloc] at h; exact h.alloc (.cells #[.slice a2 q.length c2] 22)
    · have h := Boxed.new ((((((w.alloc (.cells #[.slice none 0 0] 22)).alloc (.cells #[.slice none 0 0] 22)).alloc (.cells #[.bool false] 4)).alloc (.cells #[.slice none 0 0] 22)).alloc (.cells #[.slice none 0 0] 22)).alloc (.cells #[.int .i64 0] 3)) 22 (.slice a1 p.length c1)
      simp only [World.size_alloc] at h; exact h.alloc (.cells #[.slice a2 q.length c2] 22)
    · have h := Boxed.new (((((((w.alloc (.cells #[.slice none 0 0] 22)).alloc (.cells #[.slice none 0 0] 22)).alloc (.cells #[.bool false] 4)).alloc (.cells #[.slice none 0 0] 22)).alloc (.cells #[.slice none 0 0] 22)).alloc (.cells #[.int .i64 0] 3)).alloc (.cells #[.slice a1 p.length c1] 22)) 22 (.slice a2 q.length c2)
      simp only [World.size_alloc] at h; exact h)
  have hw2s : w2.heap.size = w.heap.size + 1 + 1 + 1 + 1 + 1 + 1 + 1 + 1 := by rw [hw2]; simp
  clear hw2 HXI
  simp only [World.size_alloc]
  go_wp2_with fail
  refine wp_range_cells (gf := 60) (lb := #[.pointer (some ⟨w.heap.size + 1 + 1 + 1 + 1 + 1 + 1, 0, none⟩), .pointer (some ⟨w.heap.size + 1 + 1 + 1 + 1 + 1 + 1 + 1, 0, none⟩)]) rfl (enters_of Try.func60 (by kernel_rfl) rfl) rfl (IA w (.slice a1 p.length c1) (.slice a2 q.length c2) p q R) (IB w R) StpA (fun x => x.1 = [] ∧ x.2.1 = [])
    (fun x W o h => ⟨by obtain ⟨va, vb, h1⟩ := h.1; exact ⟨va, vb, h1.later (bel_alloc (Below.refl _ W) o)⟩, h.2⟩) (fun x W l o o' h hl ho hc => ⟨by obtain ⟨va, vb, h1⟩ := h.1; exact ⟨va, vb, h1.putObj o' (by omega) ho hc⟩, h.2⟩)
    (fun c W l o o' h hl ho hc => ⟨h.1, bel_put h.2.1 _ (by omega), box_keep h.2.2.1 (World.putObj_heap_other (box_noncells h.2.2.1 ho hc)), box_keep h.2.2.2.1 (World.putObj_heap_other (box_noncells h.2.2.2.1 ho hc)), box_keep h.2.2.2.2.1 (World.putObj_heap_other (box_noncells h.2.2.2.2.1 ho hc)), h.2.2.2.2.2⟩) (p, q, [], [], 0, none) HI0.out ?hround ?hiter ?hdone ?hstop
  case hround =>
    rintro l ⟨P, Q, A, B, k, r⟩ y0 v W hI ⟨b1, b2, hne, rfl, hr, hy1, hy2, hy3⟩ hl0 hlW hlo
    have hsem : ∀ (ρ : Operand → Value) (o : Oper), (∀ c, o.op ≠ .defer c) → Oper.semAt (some l) ρ o = execOp ρ o := fun ρ o h => Oper.semAt_some l ρ o h
    have hmx : Try.prog.follows .mixedOrders = true := by kernel_rfl
    simp only at hne hr hy1 hy2 hy3
    have HNE := hidden hne
    have HRR := hidden hr
    have HXI := hidden hI.2
    obtain ⟨va, vb, hta⟩ := hI.1
    have hwl : w.heap.size ≤ W.heap.size := hta.bel.size
    have HTMP := hidden (fun (o o' : Obj) => show TA w (.slice a1 p.length c1) (.slice a2 q.length c2) A B k r va vb va vb ((W.alloc o).putObj l o') by
      obtain ⟨oo, h1, h2⟩ := hlo
      exact (hta.later (bel_alloc (Below.refl _ _) o)).putObj o' (by omega) ((Below.heap_alloc _ _ _ hlW).trans h1) h2)
    clear hI hta hne hr hy1 hy2 hy3 hlo
    obtain ⟨m, hm⟩ : ∃ m, Ol.mt P Q = m := ⟨_, rfl⟩
    have HMT := hidden hm
    rw [hm]
    clear hm
    obtain ⟨⟨x1, x2, x3⟩, ⟨y1, y2, y3⟩⟩ := m
    unfold mV
    simp only [List.zip_toArray, List.zip_cons_cons, List.zip_nil_right]
    gi_wp2
    refine ⟨KeepsOthers.alloc _ _, fun o' => ?_⟩
    have HTA := hidden (HTMP.out (mtO ((x1, x2, x3), (y1, y2, y3))) o')
    have HMC := hidden (show MtC ((W.alloc (mtO ((x1, x2, x3), (y1, y2, y3)))).putObj l o') W.heap.size _ _ _ _ _ _ from (MtC.new W ((x1, x2, x3), (y1, y2, y3))).keep (World.putObj_heap_other (by omega)))
    clear HTMP
    unfold mtO at HTA HMC
    generalize World.putObj _ l o' = W2 at HTA HMC ⊢
    gi_upto_region 5 with fail
    refine region5 (m := ((x1, x2, x3), (y1, y2, y3))) rfl rfl HTA.out HMC.out ?_
    intro a W5 T kp e11 e12 hT na nb ta5 ko5
    obtain ⟨g, ha⟩ := frame59 (v0 := .slice a1 p.length c1) (v1 := .slice a2 q.length c2) (v2 := undef) (v3 := undef) (v4 := .pointer (some ⟨w.heap.size, 0, none⟩)) (v5 := .pointer (some ⟨w.heap.size + 1, 0, none⟩)) (v6 := .pointer (some ⟨w.heap.size + 1 + 1, 0, none⟩)) (v7 := .pointer (some ⟨w.heap.size + 1 + 1 + 1, 0, none⟩)) (v8 := .pointer (some ⟨w.heap.size + 1 + 1 + 1 + 1, 0, none⟩)) (v9 := .pointer (some ⟨w.heap.size + 1 + 1 + 1 + 1 + 1, 0, none⟩)) (v10 := .pointer (some ⟨W.heap.size, 0, none⟩)) (v11 := .pointer (some ⟨T, 0, none⟩)) (v12 := .int .i64 (whs ((x1, x2, x3), (y1, y2, y3)))) kp.size kp.defers (kp.low 0 (by decide)) (kp.low 1 (by decide)) (kp.low 2 (by decide)) (kp.low 3 (by decide)) (kp.low 4 (by decide)) (kp.low 5 (by decide)) (kp.low 6 (by decide)) (kp.low 7 (by decide)) (kp.low 8 (by decide)) (kp.low 9 (by decide)) (kp.low 10 (by decide)) e11 e12
    subst ha
    try dsimp only
    obtain ⟨z, hz⟩ : ∃ z, tld ((x1, x2, x3), (y1, y2, y3)) = z := ⟨_, rfl⟩
    rw [hz] at hT
    have HTA5 := hidden ta5
    have HT5 := hidden hT
    have HNA := hidden na
    have HNB := hidden nb
    have HKO5 := hidden ko5
    have HZ := hidden hz
    have s1 := ta5.st.cell
    have s1f := ta5.st.frozen
    have s1l := ta5.st.lt
    have HLA := hidden (show A.length ≤ 2199023255552 ∧ B.length ≤ 2199023255552 by have h1 := HXI.out.lA; have h2 := HXI.out.lB; exact ⟨by omega, by omega⟩)
    clear ta5 hT na nb ko5 kp e11 e12 HMC HTA hz
    have HST := hidden (fun (h : hng k (whs (Ol.mt P Q)) = false) => XI.step HXI.out HNE.out h)
    have HSP := hidden (fun (h : hng k (whs (Ol.mt P Q)) = true) => XI.stop HXI.out HNE.out h)
    rw [HMT.out] at HST HSP
    rw [HZ.out] at HST
    obtain ⟨kk, hkk⟩ : ∃ kk, whs ((x1, x2, x3), (y1, y2, y3)) = kk := ⟨_, rfl⟩
    have hki : kk = 0 ∨ kk = 1 ∨ kk = 2 ∨ kk = 3 := hkk ▸ whs_is ((x1, x2, x3), (y1, y2, y3))
    rw [hkk] at HST HSP ⊢
    clear hkk
    obtain hk := HXI.out.rw
    clear HXI
    rcases hki with hki | hki | hki | hki
    · subst hki
      have HST := hidden (fun (_ : (0 : Int) = 0) => HST.out (by unfold hng; simp))
      have HNT := hidden (opc_box HT5.out HTA5.out.st)
      have HSS := hidden (HST.out rfl)
      gi_upto_region 9 with fail
      refine region9 (w := w) (va := va) (vb := vb) (z := z) (T := T) rfl rfl rfl rfl (((HTA5.out).setN 0).setN 0) (((HT5.out).other HNT.out).other HNT.out) HNA.out HNB.out HLA.out.1 HLA.out.2 ?_
      intro a W6 va2 vb2 kp ta6 ko6
      obtain ⟨g2, ha⟩ := frame59 (v0 := .slice a1 p.length c1) (v1 := .slice a2 q.length c2) (v2 := undef) (v3 := undef) (v4 := .pointer (some ⟨w.heap.size, 0, none⟩)) (v5 := .pointer (some ⟨w.heap.size + 1, 0, none⟩)) (v6 := .pointer (some ⟨w.heap.size + 1 + 1, 0, none⟩)) (v7 := .pointer (some ⟨w.heap.size + 1 + 1 + 1, 0, none⟩)) (v8 := .pointer (some ⟨w.heap.size + 1 + 1 + 1 + 1, 0, none⟩)) (v9 := .pointer (some ⟨w.heap.size + 1 + 1 + 1 + 1 + 1, 0, none⟩)) (v10 := .pointer (some ⟨W.heap.size, 0, none⟩)) (v11 := .pointer (some ⟨T, 0, none⟩)) (v12 := .int .i64 0) kp.size kp.defers (kp.low 0 (by decide)) (kp.low 1 (by decide)) (kp.low 2 (by decide)) (kp.low 3 (by decide)) (kp.low 4 (by decide)) (kp.low 5 (by decide)) (kp.low 6 (by decide)) (kp.low 7 (by decide)) (kp.low 8 (by decide)) (kp.low 9 (by decide)) (kp.low 10 (by decide)) (kp.low 11 (by decide)) (kp.low 12 (by decide))
      subst ha
      try dsimp only
      have HTA6 := hidden ta6
      have HKO6 := hidden ((((HKO5.out).trans (KeepsOthers.setCell _ _ _)).trans (KeepsOthers.setCell _ _ _)).trans ko6)
      clear ta6 ko6 kp
      gi_wp2
      exact ⟨HKO6.out, (nxP P Q, nxQ P Q, A ++ [z], B ++ [z], 0, r), ⟨b1, b2, HNE.out, by show _ = mV (Ol.mt P Q); rw [HMT.out]; rfl, HRR.out, rfl, rfl, rfl⟩, ⟨va2, vb2, HTA6.out⟩, HSS.out⟩
    · subst hki
      rcases hk with hk | hk | hk
      · subst hk
        have HNT := hidden (opc_box HT5.out HTA5.out.st)
        have HSS := hidden (HST.out (by decide))
        gi_upto_region 13 with fail
        refine region13 (w := w) (va := va) (vb := vb) (z := z) (T := T) rfl rfl rfl rfl ((HTA5.out).setN 1) ((HT5.out).other HNT.out) HNA.out HNB.out HLA.out.1 HLA.out.2 ?_
        intro a W6 va2 vb2 kp ta6 ko6
        obtain ⟨g2, ha⟩ := frame59 (v0 := .slice a1 p.length c1) (v1 := .slice a2 q.length c2) (v2 := undef) (v3 := undef) (v4 := .pointer (some ⟨w.heap.size, 0, none⟩)) (v5 := .pointer (some ⟨w.heap.size + 1, 0, none⟩)) (v6 := .pointer (some ⟨w.heap.size + 1 + 1, 0, none⟩)) (v7 := .pointer (some ⟨w.heap.size + 1 + 1 + 1, 0, none⟩)) (v8 := .pointer (some ⟨w.heap.size + 1 + 1 + 1 + 1, 0, none⟩)) (v9 := .pointer (some ⟨w.heap.size + 1 + 1 + 1 + 1 + 1, 0, none⟩)) (v10 := .pointer (some ⟨W.heap.size, 0, none⟩)) (v11 := .pointer (some ⟨T, 0, none⟩)) (v12 := .int .i64 1) kp.size kp.defers (kp.low 0 (by decide)) (kp.low 1 (by decide)) (kp.low 2 (by decide)) (kp.low 3 (by decide)) (kp.low 4 (by decide)) (kp.low 5 (by decide)) (kp.low 6 (by decide)) (kp.low 7 (by decide)) (kp.low 8 (by decide)) (kp.low 9 (by decide)) (kp.low 10 (by decide)) (kp.low 11 (by decide)) (kp.low 12 (by decide))
        subst ha
        try dsimp only
        have HTA6 := hidden ta6
        have HKO6 := hidden (((HKO5.out).trans (KeepsOthers.setCell _ _ _)).trans ko6)
        clear ta6 ko6 kp
        gi_wp2
        exact ⟨HKO6.out, (nxP P Q, nxQ P Q, A ++ bes 3 z, B ++ [z], 1, r), ⟨b1, b2, HNE.out, by show _ = mV (Ol.mt P Q); rw [HMT.out]; rfl, HRR.out, rfl, rfl, rfl⟩, ⟨va2, vb2, HTA6.out⟩, HSS.out⟩
      · subst hk
        have HNT := hidden (opc_box HT5.out HTA5.out.st)
        have HSS := hidden (HST.out (by decide))
        gi_upto_region 13 with fail
        refine region13 (w := w) (va := va) (vb := vb) (z := z) (T := T) rfl rfl rfl rfl ((HTA5.out).setN 1) ((HT5.out).other HNT.out) HNA.out HNB.out HLA.out.1 HLA.out.2 ?_
        intro a W6 va2 vb2 kp ta6 ko6
        obtain ⟨g2, ha⟩ := frame59 (v0 := .slice a1 p.length c1) (v1 := .slice a2 q.length c2) (v2 := undef) (v3 := undef) (v4 := .pointer (some ⟨w.heap.size, 0, none⟩)) (v5 := .pointer (some ⟨w.heap.size + 1, 0, none⟩)) (v6 := .pointer (some ⟨w.heap.size + 1 + 1, 0, none⟩)) (v7 := .pointer (some ⟨w.heap.size + 1 + 1 + 1, 0, none⟩)) (v8 := .pointer (some ⟨w.heap.size + 1 + 1 + 1 + 1, 0, none⟩)) (v9 := .pointer (some ⟨w.heap.size + 1 + 1 + 1 + 1 + 1, 0, none⟩)) (v10 := .pointer (some ⟨W.heap.size, 0, none⟩)) (v11 := .pointer (some ⟨T, 0, none⟩)) (v12 := .int .i64 1) kp.size kp.defers (kp.low 0 (by decide)) (kp.low 1 (by decide)) (kp.low 2 (by decide)) (kp.low 3 (by decide)) (kp.low 4 (by decide)) (kp.low 5 (by decide)) (kp.low 6 (by decide)) (kp.low 7 (by decide)) (kp.low 8 (by decide)) (kp.low 9 (by decide)) (kp.low 10 (by decide)) (kp.low 11 (by decide)) (kp.low 12 (by decide))
        subst ha
        try dsimp only
        have HTA6 := hidden ta6
        have HKO6 := hidden (((HKO5.out).trans (KeepsOthers.setCell _ _ _)).trans ko6)
        clear ta6 ko6 kp
        gi_wp2
        exact ⟨HKO6.out, (nxP P Q, nxQ P Q, A ++ bes 3 z, B ++ [z], 1, r), ⟨b1, b2, HNE.out, by show _ = mV (Ol.mt P Q); rw [HMT.out]; rfl, HRR.out, rfl, rfl, rfl⟩, ⟨va2, vb2, HTA6.out⟩, HSS.out⟩
      · subst hk
        have r0 := HTA5.out.res0.cell
        have r0f := HTA5.out.res0.frozen
        have r0l := HTA5.out.res0.lt
        have r1 := HTA5.out.res1.cell
        have r1f := HTA5.out.res1.frozen
        have r1l := HTA5.out.res1.lt
        have r2 := HTA5.out.res2.cell
        have r2f := HTA5.out.res2.frozen
        have r2l := HTA5.out.res2.lt
        gi_wp2
        exact ⟨((((HKO5.out).trans (KeepsOthers.setCell _ _ _)).trans (KeepsOthers.setCell _ _ _)).trans (KeepsOthers.setCell _ _ _)).trans (KeepsOthers.setCell _ _ _), IB.of ((HTA5.out).setN 3) (HSP.out (by decide))⟩
    · subst hki
      rcases hk with hk | hk | hk
      · subst hk
        have HNT := hidden (opc_box HT5.out HTA5.out.st)
        have HSS := hidden (HST.out (by decide))
        gi_upto_region 15 with fail
        refine region15 (w := w) (va := va) (vb := vb) (z := z) (T := T) rfl rfl rfl rfl ((HTA5.out).setN 2) ((HT5.out).other HNT.out) HNA.out HNB.out HLA.out.1 HLA.out.2 ?_
        intro a W6 va2 vb2 kp ta6 ko6
        obtain ⟨g2, ha⟩ := frame59 (v0 := .slice a1 p.length c1) (v1 := .slice a2 q.length c2) (v2 := undef) (v3 := undef) (v4 := .pointer (some ⟨w.heap.size, 0, none⟩)) (v5 := .pointer (some ⟨w.heap.size + 1, 0, none⟩)) (v6 := .pointer (some ⟨w.heap.size + 1 + 1, 0, none⟩)) (v7 := .pointer (some ⟨w.heap.size + 1 + 1 + 1, 0, none⟩)) (v8 := .pointer (some ⟨w.heap.size + 1 + 1 + 1 + 1, 0, none⟩)) (v9 := .pointer (some ⟨w.heap.size + 1 + 1 + 1 + 1 + 1, 0, none⟩)) (v10 := .pointer (some ⟨W.heap.size, 0, none⟩)) (v11 := .pointer (some ⟨T, 0, none⟩)) (v12 := .int .i64 2) kp.size kp.defers (kp.low 0 (by decide)) (kp.low 1 (by decide)) (kp.low 2 (by decide)) (kp.low 3 (by decide)) (kp.low 4 (by decide)) (kp.low 5 (by decide)) (kp.low 6 (by decide)) (kp.low 7 (by decide)) (kp.low 8 (by decide)) (kp.low 9 (by decide)) (kp.low 10 (by decide)) (kp.low 11 (by decide)) (kp.low 12 (by decide))
        subst ha
        try dsimp only
        have HTA6 := hidden ta6
        have HKO6 := hidden (((HKO5.out).trans (KeepsOthers.setCell _ _ _)).trans ko6)
        clear ta6 ko6 kp
        gi_wp2
        exact ⟨HKO6.out, (nxP P Q, nxQ P Q, A ++ [z], B ++ bes 4 z, 2, r), ⟨b1, b2, HNE.out, by show _ = mV (Ol.mt P Q); rw [HMT.out]; rfl, HRR.out, rfl, rfl, rfl⟩, ⟨va2, vb2, HTA6.out⟩, HSS.out⟩
      · subst hk
        have r0 := HTA5.out.res0.cell
        have r0f := HTA5.out.res0.frozen
        have r0l := HTA5.out.res0.lt
        have r1 := HTA5.out.res1.cell
        have r1f := HTA5.out.res1.frozen
        have r1l := HTA5.out.res1.lt
        have r2 := HTA5.out.res2.cell
        have r2f := HTA5.out.res2.frozen
        have r2l := HTA5.out.res2.lt
        gi_wp2
        exact ⟨((((HKO5.out).trans (KeepsOthers.setCell _ _ _)).trans (KeepsOthers.setCell _ _ _)).trans (KeepsOthers.setCell _ _ _)).trans (KeepsOthers.setCell _ _ _), IB.of ((HTA5.out).setN 3) (HSP.out (by decide))⟩
      · subst hk
        have HNT := hidden (opc_box HT5.out HTA5.out.st)
        have HSS := hidden (HST.out (by decide))
        gi_upto_region 15 with fail
        refine region15 (w := w) (va := va) (vb := vb) (z := z) (T := T) rfl rfl rfl rfl ((HTA5.out).setN 2) ((HT5.out).other HNT.out) HNA.out HNB.out HLA.out.1 HLA.out.2 ?_
        intro a W6 va2 vb2 kp ta6 ko6
        obtain ⟨g2, ha⟩ := frame59 (v0 := .slice a1 p.length c1) (v1 := .slice a2 q.length c2) (v2 := undef) (v3 := undef) (v4 := .pointer (some ⟨w.heap.size, 0, none⟩)) (v5 := .pointer (some ⟨w.heap.size + 1, 0, none⟩)) (v6 := .pointer (some ⟨w.heap.size + 1 + 1, 0, none⟩)) (v7 := .pointer (some ⟨w.heap.size + 1 + 1 + 1, 0, none⟩)) (v8 := .pointer (some ⟨w.heap.size + 1 + 1 + 1 + 1, 0, none⟩)) (v9 := .pointer (some ⟨w.heap.size + 1 + 1 + 1 + 1 + 1, 0, none⟩)) (v10 := .pointer (some ⟨W.heap.size, 0, none⟩)) (v11 := .pointer (some ⟨T, 0, none⟩)) (v12 := .int .i64 2) kp.size kp.defers (kp.low 0 (by decide)) (kp.low 1 (by decide)) (kp.low 2 (by decide)) (kp.low 3 (by decide)) (kp.low 4 (by decide)) (kp.low 5 (by decide)) (kp.low 6 (by decide)) (kp.low 7 (by decide)) (kp.low 8 (by decide)) (kp.low 9 (by decide)) (kp.low 10 (by decide)) (kp.low 11 (by decide)) (kp.low 12 (by decide))
        subst ha
        try dsimp only
        have HTA6 := hidden ta6
        have HKO6 := hidden (((HKO5.out).trans (KeepsOthers.setCell _ _ _)).trans ko6)
        clear ta6 ko6 kp
        gi_wp2
        exact ⟨HKO6.out, (nxP P Q, nxQ P Q, A ++ [z], B ++ bes 4 z, 2, r), ⟨b1, b2, HNE.out, by show _ = mV (Ol.mt P Q); rw [HMT.out]; rfl, HRR.out, rfl, rfl, rfl⟩, ⟨va2, vb2, HTA6.out⟩, HSS.out⟩
    · subst hki
      rcases hk with hk | hk | hk
      · subst hk
        have r0 := HTA5.out.res0.cell
        have r0f := HTA5.out.res0.frozen
        have r0l := HTA5.out.res0.lt
        have r1 := HTA5.out.res1.cell
        have r1f := HTA5.out.res1.frozen
        have r1l := HTA5.out.res1.lt
        have r2 := HTA5.out.res2.cell
        have r2f := HTA5.out.res2.frozen
        have r2l := HTA5.out.res2.lt
        gi_wp2
        exact ⟨((((HKO5.out).trans (KeepsOthers.setCell _ _ _)).trans (KeepsOthers.setCell _ _ _)).trans (KeepsOthers.setCell _ _ _)).trans (KeepsOthers.setCell _ _ _), IB.of ((HTA5.out).setN 3) (HSP.out (by decide))⟩
      · subst hk
        have r0 := HTA5.out.res0.cell
        have r0f := HTA5.out.res0.frozen
        have r0l := HTA5.out.res0.lt
        have r1 := HTA5.out.res1.cell
        have r1f := HTA5.out.res1.frozen
        have r1l := HTA5.out.res1.lt
        have r2 := HTA5.out.res2.cell
        have r2f := HTA5.out.res2.frozen
        have r2l := HTA5.out.res2.lt
        gi_wp2
        exact ⟨((((HKO5.out).trans (KeepsOthers.setCell _ _ _)).trans (KeepsOthers.setCell _ _ _)).trans (KeepsOthers.setCell _ _ _)).trans (KeepsOthers.setCell _ _ _), IB.of ((HTA5.out).setN 3) (HSP.out (by decide))⟩
      · subst hk
        have r0 := HTA5.out.res0.cell
        have r0f := HTA5.out.res0.frozen
        have r0l := HTA5.out.res0.lt
        have r1 := HTA5.out.res1.cell
        have r1f := HTA5.out.res1.frozen
        have r1l := HTA5.out.res1.lt
        have r2 := HTA5.out.res2.cell
        have r2f := HTA5.out.res2.frozen
        have r2l := HTA5.out.res2.lt
        gi_wp2
        exact ⟨((((HKO5.out).trans (KeepsOthers.setCell _ _ _)).trans (KeepsOthers.setCell _ _ _)).trans (KeepsOthers.setCell _ _ _)).trans (KeepsOthers.setCell _ _ _), IB.of ((HTA5.out).setN 3) (HSP.out (by decide))⟩
  case hiter =>
    intro l J Jx W hJ hst h0 hY
    refine (cseq1_any w (.slice a1 p.length c1) (.slice a2 q.length c2) p q (w.heap.size + 1 + 1 + 1 + 1 + 1 + 1) l (fun P Q r W => ∃ A B k, J (P, Q, A, B, k, r) W) Jx HP.out HQ.out HAP.out HAQ.out ?_ ?_ ?_ ?_ ?_ ?_ W ⟨[], [], 0, h0⟩).mono ?_
    · rintro P Q r W ⟨A, B, k, h⟩
      obtain ⟨va, vb, ta⟩ := (hJ _ _ h).1
      exact ta.bel
    · rintro P Q W ⟨A, B, k, h⟩
      obtain ⟨va, vb, ta⟩ := (hJ _ _ h).1
      exact ⟨ta.k1, ta.k2⟩
    · rintro P Q b1 b2 P' Q' W ⟨A, B, k, h⟩
      obtain ⟨va, vb, ta⟩ := (hJ _ _ h).1
      have h1 := ta.rows _ _ _ _ rfl
      exact ⟨h1.1, h1.2.1⟩
    · rintro P Q b1 b2 W W' ⟨A, B, k, h⟩ hb l1 l2 hne r1 r2
      obtain ⟨va, vb, ta⟩ := (hJ _ _ h).1
      have ht := ta.later hb
      have hs := ta.bel.size
      exact ⟨A, B, k, hst _ (P, Q, A, B, k, some (b1, b2, P, Q)) _ _ h ⟨⟨va, vb, ⟨ht.bel, ht.res0, ht.res1, ht.res2, ht.b0, ht.b1, ht.st, ht.k1, ht.k2, fun c1 c2 P1 Q1 e1 => by cases e1; exact ⟨r1, r2, Nat.le_trans hs l1, Nat.le_trans hs l2⟩, ht.oa, ht.ob, ht.ab⟩⟩, (hJ _ _ h).2⟩ (keeps_below hb)⟩
    · rintro P Q b1 b2 P' Q' P'' Q'' W W' ⟨A, B, k, h⟩ hb r1 r2
      obtain ⟨va, vb, ta⟩ := (hJ _ _ h).1
      have ht := TA.but2 ta rfl hb r1 r2
      exact ⟨A, B, k, hst _ (P, Q, A, B, k, some (b1, b2, P'', Q'')) _ _ h ⟨⟨va, vb, ht.1⟩, (hJ _ _ h).2⟩ ht.2⟩
    · rintro P Q b1 b2 W hne ⟨A, B, k, h⟩ m
      obtain ⟨fn, tmps, assign, body, hy, hR⟩ := hY (P, Q, A, B, k, some (b1, b2, nxP P Q, nxQ P Q)) (mV (Ol.mt P Q)) (nxP P Q, nxQ P Q, A, B, k, some (b1, b2, nxP P Q, nxQ P Q)) W ⟨b1, b2, hne, rfl, rfl, rfl, rfl, rfl⟩ h m
      refine ⟨fn, tmps, assign, body, hy, hR.mono ?_⟩
      rintro e' W' (⟨rfl, ⟨yP, yQ, yA, yB, yk, yr⟩, ⟨_, _, _, _, _, hy1, hy2, hy3⟩, hj⟩ | h')
      · simp only at hy1 hy2 hy3
        subst hy1 hy2 hy3
        exact Or.inl ⟨rfl, yA, yB, yk, hj⟩
      · exact Or.inr h'
    · rintro e W' ⟨hv, ⟨r, A, B, k, hj⟩ | hj⟩
      · exact ⟨hv, Or.inl ⟨_, hj, rfl, rfl⟩⟩
      · exact ⟨hv, Or.inr hj⟩
  case hdone =>
    rintro D ⟨P, Q, A, B, k, r⟩ W hD ⟨hp0, hq0⟩ hI hK hold
    simp only at hp0 hq0
    subst hp0 hq0
    have HE := hidden (show A = fsO R.1 ∧ B = snO R.1 ∧ (nbO 0 R.1 || R.2) = false from XI.end_ hI.2)
    obtain ⟨va, vb, ht⟩ := hI.1
    have ht : TA w (.slice a1 p.length c1) (.slice a2 q.length c2) A B k r va vb va vb W := ht
    obtain ⟨ao, no, co, hva⟩ := owns_slice ht.oa
    obtain ⟨bo, mo, do_, hvb⟩ := owns_slice ht.ob
    subst hva hvb
    have HT := hidden ht
    have HK := hidden hK
    have c1 := ht.b0.cell
    have c2 := ht.b1.cell
    have r0 := ht.res0.cell
    have r0f := ht.res0.frozen
    have r1 := ht.res1.cell
    have r1f := ht.res1.frozen
    have r2 := ht.res2.cell
    have r2f := ht.res2.frozen
    clear hI ht hold hK
    go_wp2_with fail
    go_region
    go_wp2_with fail
    have h3 : Below w.heap.size w (((W.setCell ⟨w.heap.size, 0, none⟩ (.slice ao no co)).setCell ⟨w.heap.size + 1, 0, none⟩ (.slice bo mo do_)).setCell ⟨w.heap.size + 1 + 1, 0, none⟩ (.bool true)) := bel_set (bel_set (bel_set HT.out.bel (Nat.le_refl _)) (by omega)) (by omega)
    have HB3 := hidden (show Below w.heap.size w (((W.setCell ⟨w.heap.size, 0, none⟩ (.slice ao no co)).setCell ⟨w.heap.size + 1, 0, none⟩ (.slice bo mo do_)).setCell ⟨w.heap.size + 1 + 1, 0, none⟩ (.bool true)).drew from ⟨h3.os, h3.tape, h3.output, h3.size, h3.block⟩)
    clear h3
    have hke : ∀ d, d ≠ w.heap.size → d ≠ w.heap.size + 1 → d ≠ w.heap.size + 1 + 1 → (((W.setCell ⟨w.heap.size, 0, none⟩ (.slice ao no co)).setCell ⟨w.heap.size + 1, 0, none⟩ (.slice bo mo do_)).setCell ⟨w.heap.size + 1 + 1, 0, none⟩ (.bool true)).drew.heap[d]? = W.heap[d]? := fun d h1 h2 h3 => by
      show (((W.setCell _ _).setCell _ _).setCell _ _).heap[d]? = _
      rw [heap_setCell_ne _ _ _ _ _ h3, heap_setCell_ne _ _ _ _ _ h2, heap_setCell_ne _ _ _ _ _ h1]
    have HKE := hidden hke
    have HK2 := hidden (show (((W.setCell ⟨w.heap.size, 0, none⟩ (.slice ao no co)).setCell ⟨w.heap.size + 1, 0, none⟩ (.slice bo mo do_)).setCell ⟨w.heap.size + 1 + 1, 0, none⟩ (.bool true)).drew.heap[D]? = some (.deferred (some [])) from (hke D (by omega) (by omega) (by omega)).trans HK.out)
    clear hke
    refine leaves_apt (b := w.heap.size) rfl rfl rfl rfl D _ HK2.out (v := .slice ao no co) (v2 := .slice bo mo do_) (r := true) ?_ ?_ ?_ ⟨_, _, _, rfl⟩ ⟨_, _, _, rfl⟩ ?_
    · exact box_keep (box_keep (Boxed.set (.slice ao no co) HT.out.res0) (heap_setCell_ne _ _ _ _ _ (by omega))) (heap_setCell_ne _ _ _ _ _ (by omega))
    · exact box_keep (Boxed.set (.slice bo mo do_) (box_keep HT.out.res1 (heap_setCell_ne _ _ _ _ _ (by omega)))) (heap_setCell_ne _ _ _ _ _ (by omega))
    · exact Boxed.set (.bool true) (box_keep (box_keep HT.out.res2 (heap_setCell_ne _ _ _ _ _ (by omega))) (heap_setCell_ne _ _ _ _ _ (by omega)))
    · intro o'
      refine ⟨_, _, by rw [HE.out.2.2]; rfl, bel_put HB3.out _ (by omega), (fun e => by rw [HE.out.2.2] at e; cases e), fun _ => ⟨?_, ?_⟩⟩
      · rw [← HE.out.1]
        exact OpsAt.of_owns (ownsRow_putObj (owns_same HT.out.oa fun k hk => HKE.out k (own_ne HT.out.oa HT.out.res0 (by decide) k hk) (own_ne HT.out.oa HT.out.res1 (by decide) k hk) (own_ne HT.out.oa HT.out.res2 (by decide) k hk)) _ HK2.out rfl)
      · rw [← HE.out.2.1]
        exact OpsAt.of_owns (ownsRow_putObj (owns_same HT.out.ob fun k hk => HKE.out k (own_ne HT.out.ob HT.out.res0 (by decide) k hk) (own_ne HT.out.ob HT.out.res1 (by decide) k hk) (own_ne HT.out.ob HT.out.res2 (by decide) k hk)) _ HK2.out rfl)
  case hstop =>
    rintro D c W hD ⟨rfl, hB, hb, hb2, hc, hn⟩ hK _
    have HB := hidden hB
    have HB1 := hidden hb
    have HB3 := hidden hb2
    have HB2 := hidden hc
    have HN := hidden hn
    have HK := hidden hK
    clear hB hb hb2 hc hn hK
    go_wp2_with fail
    refine leaves_apt (b := w.heap.size) rfl rfl rfl rfl D _ HK.out HB1.out HB3.out HB2.out ⟨_, _, _, rfl⟩ ⟨_, _, _, rfl⟩ ?_
    intro o'
    exact ⟨_, _, by rw [HN.out]; rfl, bel_put HB.out _ (by omega), (fun _ => ⟨rfl, rfl⟩), fun e => by rw [HN.out] at e; cases e⟩

end Go.Proofs.Ytcjjboomljbmbaa
