
/-
  What the program's back leaves: the table without the first line of the rest; conditions: where it stands.
-/
import Derived.Test.YtdjdiaadflggfaaBAgain
namespace Go.Proofs.Ytdjdiaadflggfaa
open Go.RowKit Go.Proofs.Ytdjdiaadflggfaa.Ln Go.Proofs.Ytdjdiaadflggfaa.Ol

/-- so far it is taken back -/
structure Bk (c : Cx) (at_ : Nat) (r n : Nat) (w X : World) : Prop where
  env : Env c X
  kp : KpT c.B c.T w X
  tb : ∃ vI vT vS V N L Y S s, Tb c.B c.T c.ah c.wd c.mo c.v0 (.slice c.a1 c.m c.c1) at_ vI vT vS V N (L ++ Y) S X ∧ Y.length = r ∧ (L ++ Y).length = n ∧ N ≤ c.Nb ∧ ((L ++ Y).length : Int) ≤ c.mo + c.Nb ∧ (∀ e ∈ L ++ Y, e.2.1 < N) ∧ StOk c S s ∧ Lg c.D s (at_ + 1) L ∧ (∀ e ∈ Y, e.1 = at_) ∧ (∀ e ∈ L, e.1 ≠ at_) ∧ undo Y V = c.D (at_ + 1)

theorem Sq.bk {c : Cx} {at_ : Nat} {w X : World} (h : Sq c (c.mo + c.Nb) at_ X) (hk : KpT c.B c.T w X) : ∃ r n, Bk c at_ r n w X ∧ ∃ a cp, X.cell? ⟨c.T, 6, none⟩ = some (.slice a n cp) := by
  obtain ⟨he, _, vI, vT, vS, N, L, S, s, b1, b2, b3, b4, b5, b6, b7⟩ := h
  obtain ⟨L', Y, rfl, l1, l2, l3, l4⟩ := b6.inv b7
  obtain ⟨a, cp, e, _⟩ := own_shape b1.trn
  refine ⟨Y.length, (L' ++ Y).length, ⟨he, hk, vI, vT, vS, _, N, L', Y, S, s, b1, rfl, rfl, b2, b3, b4, b5, l1, l2, l3, l4⟩, a, cp, ?_⟩
  rw [b1.c.cells.2.2.2.2.2.2.1, e]

theorem bk_end {c : Cx} {at_ : Nat} {w X : World} (hat : at_ < c.m) (henv : Env c X) (hkp : KpT c.B c.T w X) {vI vT vS : Value} {V : Bs} {N : Nat} {L : List Tn} {S : List Sp} {s : Nat} (b1 : Tb c.B c.T c.ah c.wd c.mo c.v0 (.slice c.a1 c.m c.c1) at_ vI vT vS V N L S X) (b2 : N ≤ c.Nb) (b3 : (L.length : Int) ≤ c.mo + c.Nb) (b4 : ∀ e ∈ L, e.2.1 < N) (b5 : StOk c S s) (b6 : Lg c.D s (at_ + 1) L) (b7 : V = c.D (at_ + 1)) :
    St c (c.mo + c.Nb) (at_ + 1) (X.setCell ⟨c.T, 4, none⟩ (Z ((at_ : Int) + 1))) ∧ KpT c.B c.T w (X.setCell ⟨c.T, 4, none⟩ (Z ((at_ : Int) + 1))) := by
  subst b7
  have k3 := (KpT.refl (B := c.B) (T := c.T) (W := X)).setT 4 (Z ((at_ : Int) + 1))
  have e : ((at_ + 1 : Nat) : Int) = (at_ : Int) + 1 := by omega
  exact ⟨⟨henv.kpt b1.c k3, hat, vI, vT, vS, N, L, S, s, (b1.rw_.setT b1.c 4 _).tb (by rw [e]; exact b1.c.set4 _) b1.lo, b2, b3, b4, b5, b6⟩, hkp.trans k3⟩

set_option maxHeartbeats 4000000 in
theorem bback_any (c : Cx) (hG : Good c) (at_ : Nat) (hat : at_ < c.m) (w : World) (h : St c (c.mo + c.Nb) at_ w) :
    Calls Try.prog 22 #[.pointer (some ⟨c.T, 0, none⟩)] w fun e w' => (∃ v, e = .returned v) ∧ KpT c.B c.T w w' ∧ St c (c.mo + c.Nb) (at_ + 1) w' := by
  obtain ⟨he, _, vI, vT, vS, N, L, S, s, b1, b2, b3, b4, b5, b6⟩ := h
  obtain ⟨q, hq⟩ : ∃ q, S.length = q + 1 := ⟨S.length - 1, by have := b5.pos; omega⟩
  obtain ⟨sl, hsl, hse⟩ := b5.last
  rw [hq, show q + 1 - 1 = q by omega] at hsl
  have hqm : q ≤ 1048576 := by have := b5.len; have := hG.m; omega
  have hnb := hG.nb
  have hmo := hG.mo
  have hcm := hG.m
  have hle := b6.le.1
  have hsm : s ≤ c.m := by have := (b5.each _ _ hsl).1; omega
  obtain ⟨gS, cS, rfl, _, hgl⟩ := b1.stp.form (by omega)
  have hcc := own_shape b1.stp
  obtain ⟨_, _, e9, hcS, _⟩ := hcc
  cases e9
  rw [hq] at hcS
  obtain ⟨d0, d1⟩ := scells_at S q _ hsl
  have e0 := b1.stp.cellAt (q * 2) (by omega)
  rw [d0, hse] at e0
  obtain ⟨t0, t1, t2, t3, t4, t5, t6, t7, t8⟩ := b1.c.cells
  rw [hq] at t8
  have HG := hidden hG
  have HE := hidden he
  have HB := hidden b1
  have HB3 := hidden b3
  have HB4 := hidden b4
  have HB5 := hidden b5
  have HB6 := hidden b6
  obtain ⟨T, hT⟩ : ∃ T, c.T = T := ⟨_, rfl⟩
  have HTT := hidden hT
  rw [hT] at t4 t8 ⊢
  clear hG he b1 b3 b4 b5 b6 t0 t1 t2 t3 t5 t6 t7 hT d0 d1 hsl hse
  go_enter Try.func22, Try.ntmps22
  go_wp2_with fail
  go_quiet (fail)
  have HB2 := hidden (HB.out.drewN nq)
  have HE2 := hidden (HE.out.later (below_drewN (Below.refl _ w) nq))
  have HK2 := hidden ((KpT.refl (B := c.B) (T := T) (W := w)).drewN nq)
  clear HB HE t4 t8 e0
  generalize World.drewN w nq = W2 at HB2 HE2 HK2 ⊢
  clear nq
  go_upto_if 20 with fail
  go_cut [20] from 21 to 22 (fun _ wx => Hid (Sq c (c.mo + c.Nb) at_ wx ∧ KpT c.B T w wx))
  case first =>
    by_cases hs : at_ = s
    · subst hs
      have hd : ((at_ : Int) == (at_ : Int)) = true := by simp
      have hL := HB6.out.at_s
      subst hL
      go_wp2_with fail
      have hcall := bagain_any c HG.out at_ W2 HE2.out hat HB2.out HB5.out b2
      rw [HTT.out] at hcall
      refine hcall.mono ?_
      clear hcall
      rintro e w6 ⟨⟨v6, rfl⟩, hk6, hsq6⟩
      have HF := hidden hsq6
      have HK6 := hidden hk6
      clear hk6 hsq6
      go_wp2_with fail
      go_meet
      case rel => exact ⟨HF.out, HK2.out.trans HK6.out⟩
    · have hd : ((at_ : Int) == (s : Int)) = false := by simp; omega
      go_wp2_with fail
      go_meet
      case rel => exact ⟨⟨HE2.out, hat, _, _, _, N, L, S, s, HB2.out, b2, HB3.out, HB4.out, HB5.out, HB6.out, by omega⟩, HK2.out⟩
  case rest =>
    obtain ⟨r0, n0, hbk, aT0, cT0, t6⟩ := hcut.out.1.bk (by rw [HTT.out]; exact hcut.out.2)
    rw [HTT.out] at t6
    have HBK := hidden hbk
    clear hcut hbk HB2 HE2 HK2 HB3 HB4 HB5 HB6
    have HLEN := hidden (show n0 ≤ 33554432 by
      obtain ⟨_, _, _, _, _, _, N, L, Y, S, s, _, y1, y2, _, y4, _⟩ := HBK.out
      omega)
    go_wp2_with fail
    go_loopg [2] r0 (fun k v wr => ∃ n : Nat, v = .int .i64 n ∧ n ≤ n0 ∧ Hid (∃ r, r ≤ k ∧ Bk c at_ r n w wr))
    case atStart => exact ⟨n0, rfl, Nat.le_refl _, r0, Nat.le_refl _, HBK.out⟩
    case round =>
      clear HBK t6
      obtain ⟨n, rfl, hn0, hst⟩ := hrel
      obtain ⟨r, hrk, henv, hkp, vI, vT, vS, V, N, L, Y, S, s, b1, b2, b3, b4, b5, b6, b7, b8, b9, b10, b11⟩ := hst.out
      clear hst
      have hnb2 := HLEN.out
      rw [HTT.out] at b1
      obtain ⟨aT, cT, rfl, hcT, haT⟩ := own_shape b1.trn
      rw [b3] at hcT
      obtain ⟨t0, t1, t2, t3, t4, t5, t6, t7, t8⟩ := b1.c.cells
      rw [b3] at t6
      have HE := hidden henv
      have HK := hidden (show KpT c.B T w wr by rw [← HTT.out]; exact hkp)
      have HB := hidden b1
      have HR := hidden b2
      have HN := hidden b3
      have HF1 := hidden b5
      have HF2 := hidden b6
      have HF3 := hidden b7
      have HF4 := hidden b8
      have HF5 := hidden b9
      have HF6 := hidden b10
      have HF7 := hidden b11
      clear henv hkp b1 b2 b5 b6 b7 b8 b9 b10 b11 t0 t1 t2 t3 t5 t7 t8 b3
      cases n with
      | zero =>
        obtain ⟨rfl, rfl⟩ : L = [] ∧ Y = [] := by
          have := HN.out
          rw [List.length_append] at this
          exact ⟨List.eq_nil_of_length_eq_zero (by omega), List.eq_nil_of_length_eq_zero (by omega)⟩
        have HB' := hidden HB.out
        rw [show ((0 : Nat) : Int) = 0 from rfl]
        go_wp2_with fail
        go_quiet (fail)
        have HB2 := hidden (HB'.out.drewN nq)
        have HE2 := hidden (HE.out.later (below_drewN (Below.refl _ wr) nq))
        have HK2 := hidden (HK.out.drewN nq)
        clear HB HB' HE HK t4 t6
        generalize World.drewN wr nq = W3 at HB2 HE2 HK2 ⊢
        clear nq
        have t4 := HB2.out.c.cells.2.2.2.2.1
        have tf : ∀ i, W3.frozen? ⟨T, i, none⟩ = false := HB2.out.c.thaw
        have hend := bk_end hat HE2.out (by rw [HTT.out]; exact HK2.out) (by rw [HTT.out]; exact HB2.out) b4 (by have := HF1.out; rw [List.append_nil] at this; exact this) (by have := HF2.out; rw [List.append_nil] at this; exact this) HF3.out HF4.out HF7.out
        have HEND := hidden hend
        clear hend
        go_wp2_with fail
        go_end0
        have hend := HEND.out
        rw [HTT.out] at hend
        exact ⟨⟨_, rfl⟩, hend.2, hend.1⟩
      | succ p =>
        obtain ⟨e, he⟩ : ∃ e, (L ++ Y)[p]? = some e := ⟨(L ++ Y)[p]'(by rw [HN.out]; omega), List.getElem?_eq_getElem _⟩
        obtain ⟨ea, ej, eU⟩ := e
        obtain ⟨gT, rfl⟩ : ∃ gT, aT = some ⟨gT, 0, none⟩ := by
          obtain ⟨g, cp, e, _⟩ := HB.out.trn.form (by rw [HN.out]; omega)
          cases e
          exact ⟨g, rfl⟩
        have htn := HB.out.trn
        obtain ⟨d0, d1, d2⟩ := tcells_at _ p _ he
        have e0 := htn.cellAt (p * 3) (by rw [HN.out]; omega)
        have e1 := htn.cellAt (p * 3 + 1) (by rw [HN.out]; omega)
        have e2 := htn.cellAt (p * 3 + 2) (by rw [HN.out]; omega)
        rw [d0] at e0
        rw [d1] at e1
        rw [d2] at e2
        simp only at e0 e1 e2
        clear htn d0 d1 d2
        have hpI : ((p + 1 : Nat) : Int) = (p : Int) + 1 := by omega
        rw [hpI]
        have HEE := hidden he
        clear he
        by_cases hea : ea = at_
        · subst hea
          have hd : ((ea : Int) == (ea : Int)) = true := by simp
          have hd2 : decide ((p : Int) + 1 > 0) = true := by simp <;> omega
          have hd3 : decide (0 < (p : Int) + 1) = true := by simp <;> omega
          obtain ⟨Y', rfl⟩ : ∃ Y', Y = Y' ++ [(ea, ej, eU)] := by
            have hl := HN.out
            have hx := HEE.out
            rcases List.eq_nil_or_concat Y with h | ⟨Y', e', h⟩
            · subst h
              rw [List.append_nil] at hx
              exact absurd rfl (HF6.out _ (List.mem_of_getElem? hx))
            · refine ⟨Y', ?_⟩
              rw [List.concat_eq_append] at h
              subst h
              rw [← List.append_assoc, List.length_append, List.length_singleton] at hl
              rw [← List.append_assoc, List.getElem?_append_right (by omega), show p - (L ++ Y').length = 0 by omega] at hx
              simp at hx
              rw [hx]
          have hej := HF2.out (ea, ej, eU) (by simp)
          simp only at hej
          obtain ⟨gI, cI, hvI, _, hgI⟩ := HB.out.ids.form (by omega)
          subst hvI
          go_wp2_with fail
          go_quiet (fail)
          have HB2 := hidden (HB.out.drewN nq)
          have HE2 := hidden (HE.out.later (below_drewN (Below.refl _ wr) nq))
          have HK2 := hidden (HK.out.drewN nq)
          have x0 : (wr.drewN nq).cell? ⟨gT, p * 3 + 1, none⟩ = some (Z ej) := e1
          have x1 : (wr.drewN nq).cell? ⟨gT, p * 3 + 2, none⟩ = some (U (Gl.word eU ej)) := e2
          clear HB HE HK t4 t6 e0 e1 e2
          generalize World.drewN wr nq = W3 at HB2 HE2 HK2 x0 x1 ⊢
          clear nq
          obtain ⟨t0, t1, t2, t3, t4, t5, t6, t7, t8⟩ := HB2.out.c.cells
          rw [HN.out] at t6
          have gc : W3.cell? ⟨gI, ej, none⟩ = some (U (Gl.word V ej)) := by rw [HB2.out.ids.cellAt ej (by omega), wcells_at V hej]
          have gf : W3.frozen? ⟨gI, ej, none⟩ = false := HB2.out.ids.frozenAt ej
          have hgt : gI ≠ gT := fun e => by
            have := own_ne HB2.out.ids HB2.out.trn (by decide)
            rcases this with h | h
            · cases h
            · exact h (by rw [e]; rfl)
          have hcI := own_shape HB2.out.ids
          obtain ⟨_, _, e9, hcI, _⟩ := hcI
          cases e9
          obtain ⟨wv, hwv⟩ : ∃ wv, Gl.word eU ej = wv := ⟨_, rfl⟩
          have HWV := hidden hwv
          rw [hwv] at x1
          clear hwv t0 t1 t2 t3 t4 t7 t8
          go_wp2_with fail
          go_region
          obtain ⟨k1, k2⟩ := HB2.out.rw_.word hej eU
          rw [HWV.out] at k1 k2
          have HR4 := hidden k1.drew
          have HC4 := hidden ((HB2.out.c.other (c := gI) (i := ej) (u := .int .u64 wv) (fun e => own_notT HB2.out.c HB2.out.ids (by decide) (by rw [e]; rfl))).drew)
          have HK4 := hidden ((HK2.out.trans (kpt_row HB2.out.ids (Or.inl rfl) k2)).drew)
          have HE4 := hidden (show Env c (W3.setCell ⟨gI, ej, none⟩ (.int .u64 wv)).drew from HE2.out.kpt (by rw [HTT.out]; exact HB2.out.c) (by rw [HTT.out]; exact (kpt_row HB2.out.ids (Or.inl rfl) k2).drew))
          have HLO := hidden HB2.out.lo
          clear k1 k2 HB2 HK2 HE2 x0 x1 t5 t6 gc gf
          generalize World.drew _ = W4 at HR4 HC4 HK4 HE4 ⊢
          have t6 := HC4.out.cells.2.2.2.2.2.2.1
          rw [HN.out] at t6
          have tf : ∀ i, W4.frozen? ⟨T, i, none⟩ = false := HC4.out.thaw
          have HCUT := hidden (show Tb c.B T c.ah c.wd c.mo c.v0 (.slice c.a1 c.m c.c1) ea (.slice (some ⟨gI, 0, none⟩) N cI) (.slice (some ⟨gT, 0, none⟩) p cT) vS (setw V ej eU) N (L ++ Y') S (W4.setCell ⟨T, 6, none⟩ (.slice (some ⟨gT, 0, none⟩) p cT)) by
            have hl := HN.out
            obtain ⟨v', h1, h2⟩ := HR4.out.cutT (k := p) (by rw [hl]; omega)
            rw [h1 _ _ rfl, ← List.append_assoc, List.take_left' (by rw [← List.append_assoc, List.length_append, List.length_singleton] at hl; omega)] at h2
            exact (h2.setT HC4.out 6 _).tb (HC4.out.set6 _) HLO.out)
          have k6 := (KpT.refl (B := c.B) (T := T) (W := W4)).setT 6 (.slice (some ⟨gT, 0, none⟩) p cT)
          have HK6 := hidden (HK4.out.trans k6)
          have HE6 := hidden (show Env c (W4.setCell ⟨T, 6, none⟩ (.slice (some ⟨gT, 0, none⟩) p cT)) from HE4.out.kpt (by rw [HTT.out]; exact HC4.out) (by rw [HTT.out]; exact k6))
          have hr1 : 1 ≤ r := by have := HR.out; rw [List.length_append, List.length_singleton] at this; omega
          clear k6
          go_wp2_with fail
          go_roundg (gk - 1)
          case rel =>
            refine ⟨p, by first | rfl | go_num, by omega, r - 1, by omega, HE6.out, by rw [HTT.out]; exact HK6.out, _, _, vS, _, N, L, Y', S, s, by rw [HTT.out]; exact HCUT.out, ?_, ?_, b4, ?_, ?_, HF3.out, HF4.out, ?_, HF6.out, ?_⟩
            · have := HR.out; rw [List.length_append, List.length_singleton] at this; omega
            · have := HN.out; rw [← List.append_assoc, List.length_append, List.length_singleton] at this; omega
            · have := HF1.out; rw [← List.append_assoc, List.length_append, List.length_singleton] at this; omega
            · intro e he
              refine HF2.out e ?_
              rcases List.mem_append.1 he with he | he
              · exact List.mem_append_left _ he
              · exact List.mem_append_right _ (List.mem_append_left _ he)
            · exact fun e he => HF5.out e (List.mem_append_left _ he)
            · have := HF7.out; rw [undo_app] at this; exact this
          case measure => omega
        · obtain rfl : Y = [] := by
            have hl := HN.out
            have hx := HEE.out
            rcases List.eq_nil_or_concat Y with h | ⟨Y', e', h⟩
            · exact h
            · rw [List.concat_eq_append] at h
              subst h
              rw [← List.append_assoc, List.length_append, List.length_singleton] at hl
              rw [← List.append_assoc, List.getElem?_append_right (by omega), show p - (L ++ Y').length = 0 by omega] at hx
              simp at hx
              exact absurd (by rw [← HF5.out e' (by simp), hx]) hea
          have hd : ((ea : Int) == (at_ : Int)) = false := by simp; omega
          have hd2 : decide ((p : Int) + 1 > 0) = true := by simp <;> omega
          have hd3 : decide (0 < (p : Int) + 1) = true := by simp <;> omega
          have HB' := hidden (by have := HB.out; rw [List.append_nil] at this; exact this)
          go_wp2_with fail
          go_quiet (fail)
          have HB2 := hidden (HB'.out.drewN nq)
          have HE2 := hidden (HE.out.later (below_drewN (Below.refl _ wr) nq))
          have HK2 := hidden (HK.out.drewN nq)
          clear HB HB' HE HK t4 t6 e0 e1 e2
          generalize World.drewN wr nq = W3 at HB2 HE2 HK2 ⊢
          clear nq
          have t4 := HB2.out.c.cells.2.2.2.2.1
          have tf : ∀ i, W3.frozen? ⟨T, i, none⟩ = false := HB2.out.c.thaw
          have hend := bk_end hat HE2.out (by rw [HTT.out]; exact HK2.out) (by rw [HTT.out]; exact HB2.out) b4 (by have := HF1.out; rw [List.append_nil] at this; exact this) (by have := HF2.out; rw [List.append_nil] at this; exact this) HF3.out HF4.out HF7.out
          have HEND := hidden hend
          clear hend
          go_wp2_with fail
          go_end0
          have hend := HEND.out
          rw [HTT.out] at hend
          exact ⟨⟨_, rfl⟩, hend.2, hend.1⟩

end Go.Proofs.Ytdjdiaadflggfaa
