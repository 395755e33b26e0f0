
/-
  What the program's goTo leaves: the table at any rest of the other row; conditions: where it stands, its numbers.
-/
import Derived.Test.YtdjdiaadflggfaaBState
import Derived.Deep.Cut
import Derived.Deep.CutRange
namespace Go.Proofs.Ytdjdiaadflggfaa
open Go.RowKit Go.Proofs.Ytdjdiaadflggfaa.Ln Go.Proofs.Ytdjdiaadflggfaa.Ol

/-- the table, and a copy of its words -/
structure CK (B T : Nat) (ah wd mo : Int) (v0 v1 : Value) (at_ : Nat) (vI vT vS : Value) (V : Bs) (N : Nat) (L : List Tn) (S : List Sp) (v : Value) (X0 X : World) : Prop where
  tb : Tb B T ah wd mo v0 v1 at_ vI vT vS V N L S X
  row : X.ownsRow B 52 1 v N (wcells V N)
  far : ∀ g, v.ownBlock = some g → X0.heap.size ≤ g
  ibl : ∀ g, vI.ownBlock = some g → g < X0.heap.size
  bel : Below X0.heap.size X0 X
section
variable {B T : Nat} {ah wd mo : Int} {v0 v1 : Value} {at_ : Nat} {vI vT vS : Value} {V : Bs} {N : Nat} {L : List Tn} {S : List Sp} {v : Value} {X0 X : World}
theorem CK.drew (h : CK B T ah wd mo v0 v1 at_ vI vT vS V N L S v X0 X) : CK B T ah wd mo v0 v1 at_ vI vT vS V N L S v X0 X.drew := ⟨h.tb.drew, owns_later h.row (Below.refl _ X).drew, h.far, h.ibl, h.bel.drew⟩
theorem CK.alloc (h : CK B T ah wd mo v0 v1 at_ vI vT vS V N L S v X0 X) (o : Obj) : CK B T ah wd mo v0 v1 at_ vI vT vS V N L S v X0 (X.alloc o) := ⟨h.tb.alloc o, owns_later h.row (bel_alloc (Below.refl _ X) o), h.far, h.ibl, bel_alloc h.bel o⟩
theorem CK.cells (h : CK B T ah wd mo v0 v1 at_ vI vT vS V N L S v X0 X) : X.cell? ⟨T, 8, none⟩ = some vS ∧ X.cell? ⟨T, 4, none⟩ = some (Z at_) ∧ X.cell? ⟨T, 5, none⟩ = some vI := by
  obtain ⟨t0, t1, t2, t3, t4, t5, t6, t7, t8⟩ := h.tb.c.cells
  exact ⟨t8, t4, t5⟩
theorem clone_ck (h : Tb B T ah wd mo v0 v1 at_ vI vT vS V N L S X0) (hb : Below X0.heap.size X0 X) (hN : N ≤ 4194304) : Calls Try.prog 31 #[vI] X fun e w2 => ∃ a cp, e = .returned (.slice a N cp) ∧ CK B T ah wd mo v0 v1 at_ vI vT vS V N L S (.slice a N cp) X0 w2 := by
  refine (bclone_any B vI V N X (owns_later h.ids hb) hN (by have := h.lt; have := h.lo; have := hb.size; omega)).mono ?_
  rintro e w2 ⟨⟨v', rfl, h1, h2⟩, h3⟩
  obtain ⟨a, cp, rfl, _⟩ := own_shape h1
  have hb2 := hb.trans (h3.mono hb.size)
  exact ⟨a, cp, rfl, h.later hb2, h1, fun g hg => by have := h2 g hg; have := hb.size; omega, fun g hg => (own_kind h.ids hg).2.1, hb2⟩
/-- a stop is noted, and what was turned forgotten -/
theorem CK.done {g9 c9 : Nat} {W9 : World} (h : CK B T ah wd mo v0 v1 at_ vI vT vS V N L S v X0 X) (ho : W9.ownsRow B 56 2 (.slice (some ⟨g9, 0, none⟩) (S.length + 1) c9) (S.length + 1) (scells S ++ [Z at_, v])) (hg : X.grownBy W9 vS.ownBlock) :
    Tb B T ah wd mo v0 v1 at_ vI vT (.slice (some ⟨g9, 0, none⟩) (S.length + 1) c9) V N L (S ++ [(at_, v, V, N)]) (W9.setCell ⟨T, 8, none⟩ (.slice (some ⟨g9, 0, none⟩) (S.length + 1) c9)) ∧ KpT B T X0 (W9.setCell ⟨T, 8, none⟩ (.slice (some ⟨g9, 0, none⟩) (S.length + 1) c9)) := by
  have hc := h.tb.c.grown h.tb.stp (by decide) hg
  have ho2 : W9.ownsRow B 56 2 (.slice (some ⟨g9, 0, none⟩) (S.length + 1) c9) (S ++ [((at_, v, V, N) : Sp)]).length (scells (S ++ [((at_, v, V, N) : Sp)])) := by rw [List.length_append, scells_app]; exact ho
  have hr := (h.tb.rw_.stop (t := (at_, v, V, N)) ho2 hg ⟨h.row, by
    by_cases hv : v.ownBlock = none
    · exact Or.inl hv
    · refine Or.inr fun e => ?_
      cases hq : v.ownBlock with
      | none => exact hv hq
      | some q =>
        have h1 := h.far q hq
        have h2 := h.ibl q (e.symm.trans hq)
        omega, h.tb.top⟩).setT hc 8 (.slice (some ⟨g9, 0, none⟩) (S.length + 1) c9)
  exact ⟨hr.tb (hc.set8 _) h.tb.lo, ((KpT.of_below h.bel).trans (kpt_row h.tb.stp (Or.inr (Or.inr rfl)) hg)).setT 8 _⟩
theorem step_stop {ops : Array Oper} {o : Oper} {a : Act} {w : World} {K : Act → World → Prop} {Q : Exit → Act → World → Prop} {E : Prop} (hg : o.guard = none) (s x : Operand)
    (hop : o.op = Op.call { callee := Callee.builtin Builtin.append, args := #[s, x], argTypes := #[46, 46] }) (b : Nat) (hs : a.eval s = vS) (hx : a.eval x = .slice (some ⟨b, 0, none⟩) 1 1) (hv : v.oneCell' = true) (h : CK B T ah wd mo v0 v1 at_ vI vT vS V N L S v X0 w)
    (hcell : ∀ j u, [Z at_, v][j]? = some u → w.cell? ((⟨b, 0, none⟩ : Addr).add j) = some u) (hl : S.length < 1073741824)
    (hK : ∀ g9 c9 w9, w9.frozen? ⟨T, 8, none⟩ = false → w9.cell? ⟨T, 8, none⟩ = some vS → Hid (Tb B T ah wd mo v0 v1 at_ vI vT (.slice (some ⟨g9, 0, none⟩) (S.length + 1) c9) V N L (S ++ [(at_, v, V, N)]) (w9.setCell ⟨T, 8, none⟩ (.slice (some ⟨g9, 0, none⟩) (S.length + 1) c9)) ∧ KpT B T X0 (w9.setCell ⟨T, 8, none⟩ (.slice (some ⟨g9, 0, none⟩) (S.length + 1) c9))) → K (a.put o.dst (.slice (some ⟨g9, 0, none⟩) (S.length + 1) c9)) w9) :
    if Region.wanted o (yielded ops a.tmps) = true then Oper.wp Try.prog o a w K Q else E := by
  refine step_app hg s x 46 56 hop (.agg #[.int .i64 0, .slice none 0 0]) 2 32 Try.underlying46 Try.infoStop rfl (by decide) B b vS S.length (scells S) [Z at_, v] hs hx h.tb.stp rfl (fun u hu => ?_) hcell hl (by decide) (by have := h.tb.lt; have := h.tb.lo; omega) ?_
  · simp only [List.mem_cons, List.not_mem_nil, or_false] at hu
    rcases hu with rfl | rfl
    · rfl
    · exact hv
  · intro g9 c9 w9 ho hg9 _
    have hc := h.tb.c.grown h.tb.stp (by decide) hg9
    exact hK g9 c9 w9 (hc.thaw 8) hc.cells.2.2.2.2.2.2.2.2 (h.done ho hg9)
end

theorem Tb.cut0 {B T : Nat} {ah wd mo : Int} {v0 v1 : Value} {at_ : Nat} {vI vS : Value} {a : Option Addr} {cp : Nat} {V : Bs} {N : Nat} {L : List Tn} {S : List Sp} {W : World} (h : Tb B T ah wd mo v0 v1 at_ vI (.slice a L.length cp) vS V N L S W) : Tb B T ah wd mo v0 v1 at_ vI (.slice a 0 cp) vS V N [] S (W.setCell ⟨T, 6, none⟩ (.slice a 0 cp)) := by
  obtain ⟨v', h1, h2⟩ := h.rw_.cutT (Nat.zero_le L.length)
  rw [h1 a cp rfl] at h2
  exact (h2.setT h.c 6 (.slice a 0 cp)).tb (h.c.set6 _) h.lo

/-- a line of the other row is at hand, and not yet added -/
structure GW (c : Cx) (j : Nat) (w X : World) : Prop where
  env : Env c X
  kp : KpT c.B c.T w X
  jm : j < c.m
  tb : ∃ vI vT vS N L S s, Tb c.B c.T c.ah c.wd c.mo c.v0 (.slice c.a1 c.m c.c1) j vI vT vS (c.D (j + 1)) N L S X ∧ N ≤ c.Nb ∧ (L.length : Int) ≤ c.mo ∧ (∀ e ∈ L, e.2.1 < N) ∧ StOk c S s ∧ Lg c.D s (j + 1) L
/-- its marks are told -/
structure GB (c : Cx) (j : Nat) (w : World) (v : Value) (X : World) : Prop where
  ga : GW c j w X
  mks : ∃ ws, MkAt X v ws (c.gf (c.srt j)) ∧ ws.Sublist (c.wsf (c.srt j)) ∧ ∀ x : Nat, x ∈ ws ↔ x ∈ c.wsf (c.srt j) ∧ loW (c.m - 1 - j) c.ah c.wd ≤ x ∧ x < hiW (c.m - 1 - j) c.ah c.wd
/-- it is added -/
structure GC (c : Cx) (j : Nat) (w X : World) : Prop where
  sq : Sq c (c.mo + c.Nb) j X
  kp : KpT c.B c.T w X
section
variable {c : Cx} {j : Nat} {w X : World}
theorem GW.later {X' : World} (h : GW c j w X) (hb : Below X.heap.size X X') : GW c j w X' := by
  obtain ⟨vI, vT, vS, N, L, S, s, h1, h2⟩ := h.tb
  exact ⟨h.env.later hb, h.kp.trans (KpT.of_below hb), h.jm, vI, vT, vS, N, L, S, s, h1.later hb, h2⟩
theorem GW.drew (h : GW c j w X) : GW c j w X.drew := h.later (Below.refl _ X).drew
theorem GB.drew {v : Value} (h : GB c j w v X) : GB c j w v X.drew := by
  obtain ⟨ws, h1, h2⟩ := h.mks
  exact ⟨h.ga.drew, ws, h1.later (Below.refl _ X).drew, h2⟩
theorem GC.drew (h : GC c j w X) : GC c j w X.drew := ⟨h.sq.later (Below.refl _ X).drew, h.kp.drew⟩
theorem cells5 {b0 k0 b1 : Nat} {at_ : Nat} {bd : Int} {V : Bs} {vI vT vS : Value} {N : Nat} {L : List Tn} {S : List Sp} (hG : Good c) (hj : j < c.m) (he : Env c X) (h : Tb c.B c.T c.ah c.wd c.mo c.v0 (.slice c.a1 c.m c.c1) at_ vI vT vS V N L S X) (h0 : c.v0 = .slice (some ⟨b0, 0, none⟩) c.K k0) (h1 : c.a1 = some ⟨b1, 0, none⟩) (_h : bd = bd) :
    X.cell? ⟨c.T, 0, none⟩ = some (.slice (some ⟨b0, 0, none⟩) c.K k0) ∧ X.cell? ⟨c.T, 1, none⟩ = some (.slice (some ⟨b1, 0, none⟩) c.m c.c1) ∧ X.cell? ⟨c.T, 4, none⟩ = some (.int .i64 at_) ∧ X.cell? ⟨b1, j, none⟩ = some (.int .i64 (c.srt j)) ∧ X.cell? ⟨b0, c.srt j, none⟩ = some (c.vm (c.srt j)) := by
  obtain ⟨t0, t1, t2, t3, t4, t5, t6, t7, t8⟩ := h.c.cells
  refine ⟨by rw [t0, h0], by rw [t1, h1], t4, ?_, ?_⟩
  · have := he.srt
    rw [h1] at this
    rw [this.cellAt j (by omega)]
    simp [hj]
  · have := he.top
    rw [h0] at this
    have hs := hG.srt j hj
    rw [this.cellAt (c.srt j) (by omega)]
    simp [hs]
theorem GW.cells {b0 k0 b1 : Nat} (hG : Good c) (h0 : c.v0 = .slice (some ⟨b0, 0, none⟩) c.K k0) (h1 : c.a1 = some ⟨b1, 0, none⟩) (h : GW c j w X) :
    X.cell? ⟨c.T, 0, none⟩ = some (.slice (some ⟨b0, 0, none⟩) c.K k0) ∧ X.cell? ⟨c.T, 1, none⟩ = some (.slice (some ⟨b1, 0, none⟩) c.m c.c1) ∧ X.cell? ⟨c.T, 4, none⟩ = some (.int .i64 j) ∧ X.cell? ⟨b1, j, none⟩ = some (.int .i64 (c.srt j)) ∧ X.cell? ⟨b0, c.srt j, none⟩ = some (c.vm (c.srt j)) := by
  obtain ⟨vI, vT, vS, N, L, S, s, h2, _⟩ := h.tb
  exact cells5 hG h.jm h.env h2 h0 h1 (bd := 0) rfl
theorem GC.cells {b0 k0 b1 : Nat} (hG : Good c) (hj : j < c.m) (h0 : c.v0 = .slice (some ⟨b0, 0, none⟩) c.K k0) (h1 : c.a1 = some ⟨b1, 0, none⟩) (h : GC c j w X) :
    X.cell? ⟨c.T, 0, none⟩ = some (.slice (some ⟨b0, 0, none⟩) c.K k0) ∧ X.cell? ⟨c.T, 1, none⟩ = some (.slice (some ⟨b1, 0, none⟩) c.m c.c1) ∧ X.cell? ⟨c.T, 4, none⟩ = some (.int .i64 j) ∧ X.cell? ⟨b1, j, none⟩ = some (.int .i64 (c.srt j)) ∧ X.cell? ⟨b0, c.srt j, none⟩ = some (c.vm (c.srt j)) := by
  obtain ⟨vI, vT, vS, N, L, S, s, h2, _⟩ := h.sq.tb
  exact cells5 hG hj h.sq.env h2 h0 h1 (bd := 0) rfl
theorem ga_near (hG : Good c) (h : GW c j w X) : Calls Try.prog 33 #[.pointer (some ⟨c.T, 0, none⟩), c.vm (c.srt j)] X fun e w' => ∃ v, e = .returned v ∧ GB c j w v w' := by
  obtain ⟨vI, vT, vS, N, L, S, s, h2, _⟩ := h.tb
  have hs := hG.srt j h.jm
  obtain ⟨u1, u2, u3⟩ := hG.up _ hs
  have hm := h.env.mks _ hs
  obtain ⟨a, cp, hv⟩ := hm.shape
  rw [hv] at hm ⊢
  have hl := sorted_len (Nb := c.Nb) (c.wsf (c.srt j)) 0 u1 (fun x hx => ⟨Nat.zero_le _, u2 x hx⟩)
  have := hG.nb
  have := hG.m
  refine (bnear_any h2 a _ cp (c.wsf (c.srt j)) _ hm rfl u1 (by omega) h.jm (by omega) hG.ah hG.wd).mono ?_
  rintro e w' ⟨⟨v', ws', rfl, a1, a2, a3⟩, hb⟩
  exact ⟨v', rfl, h.later hb, ws', a1, a2, a3⟩
theorem gb_add (hG : Good c) {v : Value} (h : GB c j w v X) : Calls Try.prog 32 #[.pointer (some ⟨c.T, 0, none⟩), v] X fun e w' => ∃ v, e = .returned v ∧ GC c j w w' := by
  obtain ⟨vI, vT, vS, N, L, S, s, h2, h3, h4, h5, h6, h7⟩ := h.ga.tb
  obtain ⟨ws, m1, m2, m3⟩ := h.mks
  have hs := hG.srt j h.ga.jm
  obtain ⟨u1, u2, u3⟩ := hG.up _ hs
  have hm := hG.mo
  refine (badd_any (hG.rp j h.ga.jm) ws m1 (u1.sublist m2) (fun x hx => u2 x (m2.subset hx)) (fun x hx p hp => ?_) (fun p hp => ?_) h2 h3 hG.nb (by omega)).mono ?_
  · have := (m3 x).1 hx
    unfold Cx.gb
    rw [decide_eq_true (by rw [hp]; exact this.2)]; simp
  · unfold Cx.gb at hp
    simp only [Bool.and_eq_true, decide_eq_true_eq] at hp
    exact (m3 _).2 ⟨u3 p hp.1, hp.2⟩
  · rintro e w' ⟨⟨v, rfl⟩, hk, vI', vT', N', X', b1, b2, b3, b4, b5, b6⟩
    have hnb := hG.nb
    refine ⟨v, rfl, ⟨h.ga.env.kpt h2.c hk, h.ga.jm, vI', vT', vS, N', L ++ X', S, s, b1, b3, by rw [List.length_append]; omega, fun e he => ?_, h6, h7.step (fun e he => (b5 e he).1) b6, h7.le.1⟩, h.ga.kp.trans hk⟩
    rcases List.mem_append.1 he with he | he
    · have := h5 e he; omega
    · exact (b5 e he).2
/-- a line more is at hand -/
theorem St.ahead (h : St c c.mo (j + 1) X) (hk : KpT c.B c.T w X) : GW c j w (X.setCell ⟨c.T, 4, none⟩ (Z j)) := by
  obtain ⟨vI, vT, vS, N, L, S, s, h2, h3, h4, h5, h6, h7⟩ := h.tb
  have k3 := (KpT.refl (B := c.B) (T := c.T) (W := X)).setT 4 (Z j)
  exact ⟨h.env.kpt h2.c k3, hk.trans k3, by have := h.le; omega, vI, vT, vS, N, L, S, s, (h2.rw_.setT h2.c 4 (Z j)).tb (h2.c.set4 (Z j)) h2.lo, h3, h4, h5, h6, h7⟩
end

set_option maxHeartbeats 4000000 in
theorem bgoto_any (c : Cx) (hG : Good c) (there at0 : Nat) (hle : there ≤ at0) (w : World) (h : St c (c.mo + c.Nb) at0 w) :
    Calls Try.prog 25 #[.pointer (some ⟨c.T, 0, none⟩), .int .i64 there] w fun e w' => (∃ v, e = .returned v) ∧ KpT c.B c.T w w' ∧ St c (c.mo + c.Nb) there w' ∧ (there < at0 → Sq c (c.mo + c.Nb) there w') := by
  have HG := hidden hG
  have hm := hG.m
  have hnb := hG.nb
  have hmo := hG.mo
  have hat := h.le
  have HS := hidden (show St c (c.mo + c.Nb) at0 w ∧ KpT c.B c.T w w from ⟨h, KpT.refl⟩)
  clear hG h
  obtain ⟨T, hT⟩ : ∃ T, c.T = T := ⟨_, rfl⟩
  obtain ⟨mo, hmo2⟩ : ∃ mo, c.mo = mo := ⟨_, rfl⟩
  have HTT := hidden hT
  have HMO := hidden hmo2
  rw [hT]
  rw [hmo2] at hmo
  clear hT hmo2
  go_enter Try.func25, Try.ntmps25
  go_wp2_with fail
  go_loopg [9] (at0 - there) (fun j _ wr => Hid (∃ k : Nat, there ≤ k ∧ k ≤ at0 ∧ k ≤ there + j ∧ St c (c.mo + c.Nb) k wr ∧ KpT c.B c.T w wr ∧ (k < at0 → Sq c (c.mo + c.Nb) k wr)))
  case atStart => exact ⟨at0, hle, Nat.le_refl _, by omega, HS.out.1, HS.out.2, fun e => absurd e (Nat.lt_irrefl _)⟩
  case round =>
    clear HS
    obtain ⟨k, h1, h2, h3, hst, hkp, hsq⟩ := hrel.out
    have HSQ := hidden hsq
    clear hsq
    clear hrel
    obtain ⟨henv, hkm, vI, vT, vS, N, L, S, s, b1, b2, b3, b4, b5, b6⟩ := hst
    rw [HTT.out, HMO.out] at b1
    obtain ⟨aT, cT, rfl, hcT, haT⟩ := own_shape b1.trn
    have HB := hidden b1
    have HE := hidden henv
    have HK := hidden (show KpT c.B T w wr by rw [← HTT.out]; exact hkp)
    have HB3 := hidden b3
    have HB4 := hidden b4
    have HB5 := hidden b5
    have HB6 := hidden b6
    obtain ⟨t0, t1, t2, t3, t4, t5, t6, t7, t8⟩ := b1.c.cells
    clear b1 b3 b4 b5 b6 henv hkp t0 t1 t2 t3 t5 t8
    by_cases hlt : there < k
    · have hd : decide ((k : Int) > there) = true := by simp; omega
      have hd2 : decide ((there : Int) < k) = true := by simp; omega
      go_wp2_with fail
      go_quiet (fail)
      have HB2 := hidden (HB.out.drewN nq)
      have HE2 := hidden (HE.out.later (below_drewN (Below.refl _ wr) nq))
      have HK2 := hidden (HK.out.drewN nq)
      clear HB HE HK t4 t6 t7
      generalize World.drewN wr nq = W2 at HB2 HE2 HK2 ⊢
      clear nq
      obtain ⟨t0, t1, t2, t3, t4, t5, t6, t7, t8⟩ := HB2.out.c.cells
      clear t0 t1 t2 t3 t7
      go_upto_if 19 with fail
      go_cut [19] from 20 to 46 (fun _ wx => Hid (St c c.mo k wx ∧ KpT c.B c.T w wx))
      case first =>
        by_cases hgt : mo < L.length
        · have hdd : decide (mo < (L.length : Int)) = true := by simpa using hgt
          go_wp2_with fail
          have HSL := hidden (show S.length < 1073741824 by have := HB5.out.len; omega)
          go_cut [19] from 20 to 38 (fun _ wx => Hid (∃ v vS', Tb c.B T c.ah c.wd mo c.v0 (.slice c.a1 c.m c.c1) k vI (.slice aT L.length cT) vS' (c.D k) N L (S ++ [(k, v, c.D k, N)]) wx ∧ KpT c.B T w wx ∧ Env c wx))
          case first =>
            go_region_law (first
                | (refine step_call rfl 31 _ _ rfl #[vI] (by simp [Act.eval]) (enters_of Try.func31 (by kernel_rfl) rfl) (clone_ck HB2.out ?_ (by omega)) ?_; (· first | exact Below.refl _ _ | exact (Below.refl _ _).drew); rintro e w5 ⟨av, cv, rfl, hCK⟩; refine ⟨_, rfl, ?_⟩; obtain ⟨c8, c4, c5⟩ := CK.cells hCK; have a8 : ∀ o, (w5.alloc o).cell? ⟨T, 8, none⟩ = some vS := fun o => (CK.cells (CK.alloc hCK o)).1)
                | (refine step_stop (v := .slice av N cv) (X0 := W2) (vS := vS) rfl (.tmp 24) (.tmp 35) rfl _ (by simp [Act.eval]) (by simp [Act.eval]) rfl (by repeat (first | assumption | apply CK.drew | apply CK.alloc)) (cells_new _ _ _ rfl _) HSL.out ?_; intro g9 c9 w9 tf9 tc9 HDN))
            all_goals
              go_wp2_with fail
              go_meet
              case rel => exact ⟨_, _, HDN.out.1, HK2.out.trans HDN.out.2, HE2.out.kpt (by rw [HTT.out]; exact HB2.out.c) (by rw [HTT.out]; exact HDN.out.2)⟩
          case rest =>
            obtain ⟨v, vS', r1, r2, r3⟩ := hcut.out
            have HB9 := hidden r1
            have HK9 := hidden r2
            have HE9 := hidden r3
            clear hcut r1 r2 r3 t4 t5 t6 t8
            have t6 := HB9.out.c.cells.2.2.2.2.2.2.1
            have tf : ∀ i, wc.frozen? ⟨T, i, none⟩ = false := HB9.out.c.thaw
            obtain ⟨gT, rfl⟩ : ∃ ad, aT = some ad := by
              cases aT with
              | none => have := haT rfl; omega
              | some ad => exact ⟨ad, rfl⟩
            go_wp2_with fail
            go_meet
            case rel =>
              have hks : k < s := by
                have := HB6.out.le.1
                rcases Nat.lt_or_eq_of_le this with h | h
                · exact h
                · subst h; have := HB6.out.at_s; subst this; simp at hgt; omega
              have hcut := HB9.out.cut0
              have k3 := (KpT.refl (B := c.B) (T := T) (W := wc)).setT 6 (.slice (some gT) 0 cT)
              refine ⟨⟨HE9.out.kpt (by rw [HTT.out]; exact HB9.out.c) (by rw [HTT.out]; exact k3), hkm, _, _, _, N, [], _, k, by rw [HTT.out, HMO.out]; exact hcut, b2, by rw [HMO.out]; simp; omega, by simp, HB5.out.more (t := (k, v, c.D k, N)) hks rfl b2, Lg.base⟩, by rw [HTT.out]; exact HK9.out.trans k3⟩
        · have hdd : decide (mo < (L.length : Int)) = false := by simpa using hgt
          go_wp2_with fail
          go_meet
          case rel =>
            have hb := HB2.out
            rw [← HTT.out, ← HMO.out] at hb
            exact ⟨⟨HE2.out, hkm, _, _, _, N, L, S, s, hb, b2, by rw [HMO.out]; omega, HB4.out, HB5.out, HB6.out⟩, by rw [HTT.out]; exact HK2.out⟩
      case rest =>
        clear HB2 HE2 HK2 HB3 HB4 HB5 HB6 t4 t5 t6 t8 haT hcT
        obtain ⟨j, rfl⟩ : ∃ j, k = j + 1 := ⟨k - 1, by omega⟩
        have HST := hidden hcut.out.1
        have HK2 := hidden hcut.out.2
        clear hcut
        have HA := hidden (HST.out.ahead HK2.out)
        have ta := HST.out.tb
        obtain ⟨_, _, _, _, _, _, _, tb, _⟩ := ta
        have t4 := tb.c.cells.2.2.2.2.1
        have tf := tb.c.thaw 4
        rw [HTT.out] at t4 tf HA
        clear tb
        rw [show (((j + 1 : Nat) : Nat) : Int) = (j : Int) + 1 by omega] at t4
        go_upto_region 5 with fail
        have HGD := hidden (show Good c from HG.out)
        obtain ⟨b0, k0, h0⟩ : ∃ b0 k0, c.v0 = .slice (some ⟨b0, 0, none⟩) c.K k0 := by
          have := HGD.out.srt j (by omega)
          obtain ⟨g, cp, e, _⟩ := HA.out.env.top.form (by omega)
          exact ⟨g, cp, e⟩
        obtain ⟨b1, h1⟩ : ∃ b1, c.a1 = some ⟨b1, 0, none⟩ := by
          obtain ⟨g, cp, e, _⟩ := HA.out.env.srt.form (by omega)
          injection e with e1
          exact ⟨g, e1⟩
        have HH0 := hidden h0
        have HH1 := hidden h1
        have HCA := hidden (show ∀ X, GW c j w X → X.cell? ⟨T, 0, none⟩ = some (.slice (some ⟨b0, 0, none⟩) c.K k0) ∧ X.cell? ⟨T, 1, none⟩ = some (.slice (some ⟨b1, 0, none⟩) c.m c.c1) ∧ X.cell? ⟨T, 4, none⟩ = some (.int .i64 j) ∧ X.cell? ⟨b1, j, none⟩ = some (.int .i64 (c.srt j)) ∧ X.cell? ⟨b0, c.srt j, none⟩ = some (c.vm (c.srt j)) from fun X h => by
          have := GW.cells HGD.out HH0.out HH1.out h
          rw [HTT.out] at this
          exact this)
        have HCC := hidden (show ∀ X, GC c j w X → X.cell? ⟨T, 0, none⟩ = some (.slice (some ⟨b0, 0, none⟩) c.K k0) ∧ X.cell? ⟨T, 1, none⟩ = some (.slice (some ⟨b1, 0, none⟩) c.m c.c1) ∧ X.cell? ⟨T, 4, none⟩ = some (.int .i64 j) ∧ X.cell? ⟨b1, j, none⟩ = some (.int .i64 (c.srt j)) ∧ X.cell? ⟨b0, c.srt j, none⟩ = some (c.vm (c.srt j)) from fun X h => by
          have := GC.cells HGD.out (by omega) HH0.out HH1.out h
          rw [HTT.out] at this
          exact this)
        have hN := HA.out
        clear HST HK2 t4 tf h0 h1
        generalize World.setCell wc _ _ = W3 at HA hN ⊢
        obtain ⟨t0, t1, t4, d1, d0⟩ := HCA.out W3 hN
        obtain ⟨sr, hsr⟩ : ∃ sr, c.srt j = sr := ⟨_, rfl⟩
        obtain ⟨vmj, hvm⟩ : ∃ vmj, c.vm sr = vmj := ⟨_, rfl⟩
        have HSR := hidden hsr
        have HVM := hidden hvm
        have hsk : sr < c.K := by rw [← hsr]; exact HGD.out.srt j (by omega)
        rw [hsr] at d1 d0
        rw [hvm] at d0
        have hjm : j < c.m := by omega
        obtain ⟨K, hK⟩ : ∃ K, c.K = K := ⟨_, rfl⟩
        obtain ⟨m, hmm⟩ : ∃ m, c.m = m := ⟨_, rfl⟩
        obtain ⟨c1, hc1⟩ : ∃ c1, c.c1 = c1 := ⟨_, rfl⟩
        have HLET := hidden (show c.K = K ∧ c.m = m ∧ c.c1 = c1 from ⟨hK, hmm, hc1⟩)
        rw [hK] at t0 hsk
        rw [hmm, hc1] at t1
        rw [hmm] at hjm
        clear hsr hvm hK hmm hc1
        have HS5 := hidden (show ∀ X, GW c j w X ∨ GC c j w X → X.cell? ⟨T, 0, none⟩ = some (.slice (some ⟨b0, 0, none⟩) K k0) ∧ X.cell? ⟨T, 1, none⟩ = some (.slice (some ⟨b1, 0, none⟩) m c1) ∧ X.cell? ⟨T, 4, none⟩ = some (.int .i64 j) ∧ X.cell? ⟨b1, j, none⟩ = some (.int .i64 sr) ∧ X.cell? ⟨b0, sr, none⟩ = some vmj from fun X h => by
          have h5 := h.elim (HCA.out X) (HCC.out X)
          rw [HSR.out, HVM.out, HLET.out.1, HLET.out.2.1, HLET.out.2.2] at h5
          exact h5)
        clear HCA HCC
        have HNR := hidden (show ∀ X, GW c j w X → Calls Try.prog 33 #[.pointer (some ⟨T, 0, none⟩), vmj] X fun e w' => ∃ v, e = .returned v ∧ GB c j w v w' from fun X h => by
          have hcall := ga_near HGD.out h
          rw [HTT.out, HSR.out, HVM.out] at hcall
          exact hcall)
        have HAR := hidden (show ∀ v X, GB c j w v X → Calls Try.prog 32 #[.pointer (some ⟨T, 0, none⟩), v] X fun e w' => ∃ v, e = .returned v ∧ GC c j w w' from fun v X h => by
          have hcall := gb_add HGD.out h
          rw [HTT.out] at hcall
          exact hcall)
        go_region_held3 (fun X => X.cell? ⟨T, 0, none⟩ = some (.slice (some ⟨b0, 0, none⟩) K k0) ∧ X.cell? ⟨T, 1, none⟩ = some (.slice (some ⟨b1, 0, none⟩) m c1) ∧ X.cell? ⟨T, 4, none⟩ = some (.int .i64 j) ∧ X.cell? ⟨b1, j, none⟩ = some (.int .i64 sr) ∧ X.cell? ⟨b0, sr, none⟩ = some vmj)
          (first | exact ⟨t0, t1, t4, d1, d0⟩ | exact HS5.out _ (Or.inl hN) | exact HS5.out _ (Or.inl (GW.drew (by assumption))) | exact HS5.out _ (Or.inl (GB.ga (by assumption))) | exact HS5.out _ (Or.inl (GB.ga (GB.drew (by assumption)))) | exact HS5.out _ (Or.inr (by assumption)) | assumption)
          (first
            | (go_at_call 33; refine (HNR.out _ ?_).mono ?_; (· repeat (first | assumption | apply GW.drew)); rintro e w5 ⟨v5, rfl, hGB⟩)
            | (go_at_call 32; refine (HAR.out _ _ ?_).mono ?_; (· repeat (first | assumption | apply GB.drew)); rintro e w6 ⟨v6, rfl, hGC⟩))
        have HFIN := hidden hGC
        clear hGC hGB hN t0 t1 t4 d1 d0
        go_wp2_with fail
        go_roundg (gk - 1)
        case rel => exact ⟨j, by omega, by omega, by omega, HFIN.out.sq.st, HFIN.out.kp, fun _ => HFIN.out.sq⟩
        case measure => omega
    · obtain rfl : there = k := by omega
      have hd : decide ((there : Int) > there) = false := by simp
      have hd2 : decide ((there : Int) < there) = false := by simp
      go_wp2_with fail
      go_end0
      refine ⟨⟨_, rfl⟩, HK.out, ⟨HE.out, hkm, vI, .slice aT L.length cT, vS, N, L, S, s, ?_, b2, HB3.out, HB4.out, HB5.out, HB6.out⟩, HSQ.out⟩
      rw [HTT.out, HMO.out]
      exact HB.out

end Go.Proofs.Ytdjdiaadflggfaa
