
/-
  What the program's again leaves: what was turned is noted once more, from the stop ahead of the last one on; conditions: where the table stands.
-/
import Derived.Test.YtdjdiaadflggfaaBGo
namespace Go.Proofs.Ytdjdiaadflggfaa
open Go.RowKit Go.Proofs.Ytdjdiaadflggfaa.Ln Go.Proofs.Ytdjdiaadflggfaa.Ol

/-- a stop in a block of its own -/
def Sp1 (W : World) (b : Nat) (z : Nat) (v : Value) : Prop := W.heap[b]? = some (.cells #[Z z, v] 56 (0, 0))
theorem Sp1.cells {W : World} {b z : Nat} {v : Value} (h : Sp1 W b z v) : W.cell? ⟨b, 0, none⟩ = some (.int .i64 z) ∧ W.cell? ⟨b, 1, none⟩ = some v := by
  unfold World.cell?; rw [show W.heap[b]? = _ from h]; exact ⟨rfl, rfl⟩
/-- the words are others -/
theorem Rw.reI {B : Nat} {vI vT vS : Value} {V : Bs} {N : Nat} {L : List Tn} {S : List Sp} {W W' : World} (h : Rw B vI vT vS V N L S W) {vI' : Value} {V' : Bs} {n : Nat} (ho : W'.ownsRow B 52 1 vI' n (wcells V' n)) (ht : ∀ p, 64 * n ≤ p → V' p = true) (hg : W.grownBy W' vI.ownBlock) (hn : vI'.ownBlock = vI.ownBlock ∨ vI'.ownBlock = some W.heap.size) : Rw B vI' vT vS V' n L S W' := by
  refine ⟨ho, ht, h.trn.kept hg (own_ne h.trn h.ids (by decide)), h.stp.kept hg (own_ne h.stp h.ids (by decide)), fun s hs => ⟨(h.old s hs).1.kept hg (h.old s hs).2.1, ?_, (h.old s hs).2.2⟩⟩
  rcases hn with hn | hn
  · rw [hn]; exact (h.old s hs).2.1
  · cases hv : s.2.1.ownBlock with
    | none => exact Or.inl rfl
    | some q =>
      refine Or.inr fun e => ?_
      rw [hn] at e
      cases e
      have := (own_kind (h.old s hs).1 hv).2.1
      omega
/-- the words are those of a stop -/
theorem re_done {B T : Nat} {v0 v1 ah wd u4 mo vT vS : Value} {aI : Option Addr} {N cI : Nat} {V V' : Bs} {sN : Nat} {L : List Tn} {S : List Sp} {X w9 : World} {v9 : Value} (hc : TbC X T v0 v1 ah wd u4 (.slice aI N cI) vT mo vS) (h : Rw B (.slice aI N cI) vT vS V N L S X) (ho : w9.ownsRow B 52 1 v9 sN (wcells V' sN)) (ht : ∀ p, 64 * sN ≤ p → V' p = true) (hg : X.grownBy w9 (Value.slice aI 0 cI).ownBlock) (hl : v9.ownBlock = (Value.slice aI 0 cI).ownBlock ∨ v9.ownBlock = some X.heap.size) :
    TbC w9 T v0 v1 ah wd u4 (.slice aI N cI) vT mo vS ∧ Rw B v9 vT vS V' sN L S w9 ∧ KpT B T X w9 := by
  have e : (Value.slice aI 0 cI).ownBlock = (Value.slice aI N cI).ownBlock := by cases aI <;> rfl
  rw [e] at hg hl
  exact ⟨hc.grown h.ids (by decide) hg, h.reI ho ht hg hl, kpt_row h.ids (Or.inl rfl) hg⟩

theorem own_none {W : World} {B size n cp : Nat} {e : TypeId} {a : Option Addr} {xs : List Value} (h : W.ownsRow B e size (.slice a n cp) n xs) : W.ownsRow B e size (.slice a 0 cp) 0 [] := by
  obtain ⟨v', h1, _, h3⟩ := own_cut h (Nat.zero_le n)
  rw [h1 a cp rfl, Nat.zero_mul, List.take_zero] at h3
  exact h3

set_option maxHeartbeats 4000000 in
theorem bagain_any (c : Cx) (hG : Good c) (at_ : Nat) (w : World) {vI vT vS : Value} {N : Nat} {S : List Sp} (he : Env c w) (hat : at_ < c.m) (h : Tb c.B c.T c.ah c.wd c.mo c.v0 (.slice c.a1 c.m c.c1) at_ vI vT vS (c.D at_) N [] S w) (hS : StOk c S at_) (hN : N ≤ c.Nb) :
    Calls Try.prog 28 #[.pointer (some ⟨c.T, 0, none⟩)] w fun e w' => (∃ v, e = .returned v) ∧ KpT c.B c.T w w' ∧ Sq c (c.mo + c.Nb) at_ w' := by
  obtain ⟨hs2, t, ht, htl, htm, hS2⟩ := hS.less hat
  obtain ⟨q, hq⟩ : ∃ q, S.length = q + 2 := ⟨S.length - 2, by omega⟩
  rw [hq, show q + 2 - 1 = q + 1 by omega] at hS2
  rw [hq, show q + 2 - 2 = q by omega] at ht
  have hqm : q ≤ 1048576 := by have := hS.len; have := hG.m; omega
  have hte := hS.each _ t ht
  have hold := h.old t (List.mem_of_getElem? ht)
  obtain ⟨z, sv, sV, sN⟩ := t
  simp only at htl htm hte hold hS2
  obtain ⟨_, rfl, hsN⟩ := hte
  obtain ⟨aI, cI, rfl, hcI, haI⟩ := own_shape h.ids
  obtain ⟨aT, cT, rfl, hcT, haT⟩ := own_shape h.trn
  obtain ⟨gS, cS, rfl, _, hgl⟩ := h.stp.form (by omega)
  obtain ⟨as_, cs_, rfl, hcs, has⟩ := own_shape hold.1
  have HG := hidden hG
  have HE := hidden he
  have HT := hidden h
  have HS2 := hidden hS2
  have HOL := hidden hold
  have hcc := (own_shape h.stp)
  obtain ⟨_, _, e9, hcS, _⟩ := hcc
  cases e9
  rw [hq] at hcS
  obtain ⟨d0, d1⟩ := scells_at S q _ ht
  have e0 := h.stp.cellAt (q * 2) (by omega)
  have e1 := h.stp.cellAt (q * 2 + 1) (by omega)
  rw [d0] at e0
  rw [d1] at e1
  simp only at e0 e1
  obtain ⟨t0, t1, t2, t3, t4, t5, t6, t7, t8⟩ := h.c.cells
  rw [hq] at t8
  have hnb := hG.nb
  obtain ⟨T, hT⟩ : ∃ T, c.T = T := ⟨_, rfl⟩
  have HTT := hidden hT
  have tf : ∀ i, w.frozen? ⟨T, i, none⟩ = false := by rw [← hT]; exact h.c.thaw
  rw [hT] at t4 t5 t8 ⊢
  have HQ := hidden hq
  have HTL := hidden htl
  have HTM := hidden htm
  have hlt := h.lt
  rw [hT] at hlt
  clear hG he h hS hS2 hold t0 t1 t2 t3 t6 t7 hT ht hq d0 d1 hs2
  go_enter Try.func28, Try.ntmps28
  go_wp2_with fail
  go_region
  have HC1 := hidden (show TbC (w.setCell ⟨T, 8, none⟩ (.slice (some ⟨gS, 0, none⟩) (q + 1) cS)).drew T c.v0 (.slice c.a1 c.m c.c1) (Z c.ah) (Z c.wd) (Z at_) (.slice aI N cI) (.slice aT 0 cT) (Z c.mo) (.slice (some ⟨gS, 0, none⟩) (q + 1) cS) by
    have := (HT.out.c.set8 (.slice (some ⟨gS, 0, none⟩) (q + 1) cS)).drew
    rw [HTT.out] at this
    exact this)
  have HR1 := hidden (show Rw c.B (.slice aI N cI) (.slice aT 0 cT) (.slice (some ⟨gS, 0, none⟩) (q + 1) cS) (c.D at_) N [] (S.take (q + 1)) (w.setCell ⟨T, 8, none⟩ (.slice (some ⟨gS, 0, none⟩) (q + 1) cS)).drew by
    obtain ⟨v', h1, h2⟩ := HT.out.rw_.cutS (k := q + 1) (by rw [HQ.out]; omega)
    rw [h1 _ cS rfl] at h2
    have := (h2.setT HT.out.c 8 (.slice (some ⟨gS, 0, none⟩) (q + 1) cS)).drew
    rw [HTT.out] at this
    exact this)
  have HK1 := hidden ((KpT.refl (B := c.B) (T := T) (W := w)).setT 8 (.slice (some ⟨gS, 0, none⟩) (q + 1) cS)).drew
  have HE1 := hidden (show Env c (w.setCell ⟨T, 8, none⟩ (.slice (some ⟨gS, 0, none⟩) (q + 1) cS)).drew from HE.out.kpt HT.out.c (by rw [HTT.out]; exact HK1.out))
  have HO1 := hidden (show (w.setCell ⟨T, 8, none⟩ (.slice (some ⟨gS, 0, none⟩) (q + 1) cS)).drew.ownsRow c.B 52 1 (.slice as_ sN cs_) sN (wcells (c.D z) sN) by
    have := owns_later (rowT_keep HT.out.c HOL.out.1 (by decide) 8 (.slice (some ⟨gS, 0, none⟩) (q + 1) cS)) (Below.refl _ _).drew
    rw [HTT.out] at this
    exact this)
  have HX0 := hidden (show (w.setCell ⟨T, 8, none⟩ (.slice (some ⟨gS, 0, none⟩) (q + 1) cS)).drew.cell? ⟨gS, q * 2, none⟩ = some (Z z) ∧ (w.setCell ⟨T, 8, none⟩ (.slice (some ⟨gS, 0, none⟩) (q + 1) cS)).drew.cell? ⟨gS, q * 2 + 1, none⟩ = some (.slice as_ sN cs_) by
    have hne : gS ≠ T := fun e => own_notT HT.out.c HT.out.stp (by decide) (by rw [HTT.out, ← e]; rfl)
    have hb : (w.setCell ⟨T, 8, none⟩ (.slice (some ⟨gS, 0, none⟩) (q + 1) cS)).drew.heap[gS]? = w.heap[gS]? := heap_setCell_ne _ _ _ _ _ hne
    rw [World.cell?_of_block (a := ⟨gS, q * 2, none⟩) hb, World.cell?_of_block (a := ⟨gS, q * 2 + 1, none⟩) hb]
    exact ⟨e0, e1⟩)
  clear t4 t5 t8 tf e0 e1
  generalize World.drew _ = W2 at HC1 HR1 HK1 HE1 HO1 HX0 ⊢
  obtain ⟨x0, x1⟩ := HX0.out
  obtain ⟨t0, t1, t2, t3, t4, t5, t6, t7, t8⟩ := HC1.out.cells
  have hgW : gS < W2.heap.size := World.block_lt_of_cell? W2 ⟨gS, q * 2, none⟩ x0
  have q8 : ∀ o, (W2.alloc o).cell? ⟨T, 8, none⟩ = some (.slice (some ⟨gS, 0, none⟩) (q + 1) cS) := fun o => (HC1.out.alloc o).cells.2.2.2.2.2.2.2.2
  have y0 : ∀ o, (W2.alloc o).cell? ⟨gS, q * 2, none⟩ = some (Z z) := fun o => ((bel_alloc (Below.refl W2.heap.size W2) o).cell (p := ⟨gS, q * 2, none⟩) hgW).trans x0
  have y1 : ∀ o, (W2.alloc o).cell? ⟨gS, q * 2 + 1, none⟩ = some (.slice as_ sN cs_) := fun o => ((bel_alloc (Below.refl W2.heap.size W2) o).cell (p := ⟨gS, q * 2 + 1, none⟩) hgW).trans x1
  clear t0 t1 t2 t3 t4 t5 t6 t7
  go_wp2_with fail
  go_region
  have HC2 := hidden ((HC1.out.alloc (.cells #[.int .i64 z, .slice as_ sN cs_] 56)).drew)
  have HR2 := hidden ((HR1.out.alloc (.cells #[.int .i64 z, .slice as_ sN cs_] 56)).drew)
  have HK2 := hidden ((HK1.out.alloc (.cells #[.int .i64 z, .slice as_ sN cs_] 56)).drew)
  have HE2 := hidden (HE1.out.later ((bel_alloc (Below.refl W2.heap.size W2) (.cells #[.int .i64 z, .slice as_ sN cs_] 56)).drew))
  have HO2 := hidden (owns_later HO1.out ((bel_alloc (Below.refl W2.heap.size W2) (.cells #[.int .i64 z, .slice as_ sN cs_] 56)).drew))
  have HSP := hidden (show Sp1 (W2.alloc (.cells #[.int .i64 z, .slice as_ sN cs_] 56)).drew W2.heap.size z (.slice as_ sN cs_) from World.alloc_heap_new W2 _)
  have hQT : W2.heap.size ≠ T := by have := HC1.out.lt; omega
  clear x0 x1 t8 q8 y0 y1 hgW HX0 HC1 HR1 HK1 HE1 HO1
  generalize hW3 : World.drew _ = W3 at HC2 HR2 HK2 HE2 HO2 HSP ⊢
  clear hW3
  obtain ⟨Q, hQ⟩ : ∃ Q, W2.heap.size = Q := ⟨_, rfl⟩
  rw [hQ] at HSP hQT ⊢
  clear hQ
  obtain ⟨x0, x1⟩ := HSP.out.cells
  obtain ⟨t0, t1, t2, t3, t4, t5, t6, t7, t8⟩ := HC2.out.cells
  have tf : ∀ i, W3.frozen? ⟨T, i, none⟩ = false := HC2.out.thaw
  have HQN := hidden (show ∀ w9 : World, W3.drew.grownBy w9 (Value.slice aI 0 cI).ownBlock → w9.cell? ⟨Q, 0, none⟩ = some (.int .i64 z) from fun w9 hg => by
    have hlt : Q < W3.heap.size := World.block_lt_of_cell? W3 ⟨Q, 0, none⟩ x0
    refine (World.cell?_of_block (w := W3) (a := ⟨Q, 0, none⟩) (hg.block Q hlt fun hv => ?_)).trans x0
    have e : (Value.slice aI 0 cI).ownBlock = (Value.slice aI N cI).ownBlock := by cases aI <;> rfl
    rw [e] at hv
    obtain ⟨_, _, cur, h2⟩ := own_kind HR2.out.ids hv.symm
    rw [show W3.heap[Q]? = _ from HSP.out] at h2
    cases h2)
  have HWO := hidden (wcells_one (c.D z) sN)
  have HBs := hidden (show c.B ≤ W3.heap.size ∧ T < W3.heap.size by have h1 := HC2.out.lt; have h2 := HT.out.lo; rw [HTT.out] at h2; omega)
  have HSM := hidden (show 0 + sN < 1073741824 by omega)
  have HTP := hidden HOL.out.2.2
  clear t0 t1 t2 t3 t6 t7 t8
  go_wp2_with fail
  go_region_law (refine step_appw rfl (.tmp 42) (.tmp 44) rfl c.B (.slice aI 0 cI) (.slice as_ sN cs_) 0 sN [] (wcells (c.D z) sN) (by first | rfl | simp [Act.eval, Act.put]) (by first | rfl | simp [Act.eval, Act.put]) (own_none (owns_later HR2.out.ids (Below.refl _ _).drew)) (owns_later HO2.out (Below.refl _ _).drew) HWO.out HSM.out HBs.out.1 ?_; intro v9 w9 hown9 hg9 hl9; rw [Nat.zero_add, List.nil_append] at hown9; obtain ⟨a9, c9, rfl, _⟩ := own_shape hown9; have HA9 := hidden (re_done HC2.out.drew HR2.out.drew hown9 HTP.out hg9 hl9); have tf9 : ∀ i, w9.frozen? ⟨T, i, none⟩ = false := HA9.out.1.thaw; have tc9 := HA9.out.1.cells.2.2.2.2.1; have td9 := HA9.out.1.cells.2.2.2.2.2.1; have zx0 := HQN.out w9 hg9)
  all_goals
    have HK9 := hidden ((((HK2.out.drew.trans HA9.out.2.2).setT 4 (.int .i64 z)).setT 5 (.slice a9 sN c9)))
    have HCF := hidden ((HA9.out.1.set4 (.int .i64 z)).set5 (.slice a9 sN c9))
    have HRF := hidden ((HA9.out.2.1.setT HA9.out.1 4 (.int .i64 z)).setT (HA9.out.1.set4 (.int .i64 z)) 5 (.slice a9 sN c9))
    have HEF := hidden (show Env c ((w9.setCell ⟨T, 4, none⟩ (.int .i64 z)).setCell ⟨T, 5, none⟩ (.slice a9 sN c9)) from HE.out.kpt HT.out.c (by rw [HTT.out]; exact HK9.out))
    clear HA9 tf9 tc9 td9 zx0 hown9 hg9 hl9 x0 x1 t4 t5 tf
    generalize World.setCell (World.setCell w9 _ _) _ _ = W5 at HK9 HCF HRF HEF ⊢
    have HST := hidden (show St c (c.mo + c.Nb) z W5 from ⟨HEF.out, HTM.out, _, _, _, sN, [], S.take (q + 1), z, HRF.out.tb (by rw [HTT.out]; exact HCF.out) HT.out.lo, hsN, by have := HG.out.mo; simp; omega, by simp, HS2.out, Lg.base⟩)
    go_wp2_with fail
    have hcall := bgoto_any c HG.out at_ z (Nat.le_of_lt HTL.out) W5 HST.out
    rw [HTT.out] at hcall
    refine hcall.mono ?_
    clear hcall
    rintro e w6 ⟨⟨v6, rfl⟩, hk6, _, hsq6⟩
    have HF := hidden (hsq6 HTL.out)
    have HK6 := hidden hk6
    clear hk6 hsq6
    go_wp2_with fail
    go_end0
    exact ⟨⟨_, rfl⟩, HK9.out.trans HK6.out, HF.out⟩

end Go.Proofs.Ytdjdiaadflggfaa
