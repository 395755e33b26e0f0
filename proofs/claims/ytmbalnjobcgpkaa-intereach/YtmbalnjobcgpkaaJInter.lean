
/-
  The program's own inter.Ops: what it answers at any steps that lie in memory, as the document's own does; conditions: the lists' and texts' lengths.
-/
import Derived.Test.YtmbalnjobcgpkaaTFact
import Derived.Test.YtmbalnjobcgpkaaFFlip
import Derived.Test.YtmbalnjobcgpkaaCComp
import Derived.Test.YtmbalnjobcgpkaaTTidy
namespace Go.Proofs.Ytmbalnjobcgpkaa.Ol
open Go.Proofs.Ytmbalnjobcgpkaa.Ln

/-- what leads from what one makes to what the other one makes -/
def itr (p q : List Oq) : Option (List Oq) := if right p = true ∧ right q = true then (thn (flN p) q).map tdy else none
/-- in order or not is one -/
theorem thn_lin {p p' q q' : List Oq} (hp : right p = true) (hp' : right p' = true) (hq : right q = true) (hq' : right q' = true) (h1 : lin (ex p) = lin (ex p')) (h2 : lin (ex q) = lin (ex q')) : thn p q = thn p' q' := by
  have c1 := wk_ce (p.length + q.length + 1) false p q (right_ok hp) (right_ok hq) (Nat.lt_succ_self _)
  have c2 := wk_ce (p'.length + q'.length + 1) false p' q' (right_ok hp') (right_ok hq') (Nat.lt_succ_self _)
  have hE : Eqv (ce false (ex p) (ex q)) (ce false (ex p') (ex q')) := ce_eqv h1 h2
  unfold thn
  rw [if_pos ⟨hp, hq⟩, if_pos ⟨hp', hq'⟩]
  cases hw : wk (p.length + q.length + 1) false p q with
  | none =>
    rw [hw] at c1
    rw [← c1, ← c2] at hE
    cases hw' : wk (p'.length + q'.length + 1) false p' q' with
    | none => rfl
    | some r' => rw [hw'] at hE; simp [Eqv] at hE
  | some r =>
    rw [hw] at c1
    rw [← c1, ← c2] at hE
    cases hw' : wk (p'.length + q'.length + 1) false p' q' with
    | none => rw [hw'] at hE; simp [Eqv] at hE
    | some r' =>
      rw [hw'] at hE
      have hl := Eqv.some_iff.1 hE
      have ha := byO_al (right_ok hp) (right_ok hq) hw
      have ha' := byO_al (right_ok hp') (right_ok hq') hw'
      have e : nrm (byO r) = nrm (byO r') := nrm_same ha ha' hl
      simp only [e]
theorem thn_nrm_r {p q : List Oq} (hp : right p = true) (hq : right q = true) : thn p (nrm q) = thn p q :=
  thn_lin hp hp (right_nrm hq) hq rfl (lin_nrm (right_al0 hq))
/-- where both can be done it makes of what one makes what the other one makes -/
theorem itr_does {p q : List Oq} {old a b : List Tx} (h1 : doo p old = some a) (h2 : doo q old = some b) (hl : a.length ≤ 2147483648) (hl2 : b.length ≤ 2147483648) : ∃ l, itr p q = some l ∧ right l = true ∧ doo l a = some b := by
  have rp := (doo_some h1).1
  have rq := (doo_some h2).1
  obtain ⟨l, e, d⟩ := thn_does (doo_flN h1) h2 hl hl2
  obtain ⟨_, _, rl, _⟩ := thn_some e
  refine ⟨tdy l, ?_, right_tdy rl, by rw [doo_tdy rl]; exact d⟩
  unfold itr
  rw [if_pos ⟨rp, rq⟩, e]; rfl
/-- from one to itself nothing leads -/
theorem itr_self {p : List Oq} (h : right p = true) : ∃ l, itr p p = some l ∧ chs l = 0 := by
  obtain ⟨c, hc, hi, _⟩ := thn_back (right_flN h)
  rw [flN_twice h, thn_nrm_r (right_flN h) h] at hc
  refine ⟨tdy c, ?_, hi⟩
  unfold itr
  rw [if_pos ⟨h, h⟩, hc]; rfl
/-- it is one from which side it is asked -/
theorem itr_some {p q : List Oq} (hp : right p = true) (hq : right q = true) : (itr p q).isSome = (itr q p).isSome := by
  have h := thn_flip (right_flN hp) hq
  rw [flN_twice hp, thn_nrm_r (right_flN hq) hp] at h
  unfold itr
  rw [if_pos ⟨hp, hq⟩, if_pos ⟨hq, hp⟩, h]
  simp
theorem itr_right {p q l : List Oq} (h : itr p q = some l) : right l = true := by
  unfold itr at h
  split at h
  · obtain ⟨c, hc, rfl⟩ := Option.map_eq_some_iff.1 h
    obtain ⟨_, _, rl, _⟩ := thn_some hc
    exact right_tdy rl
  · cases h

end Go.Proofs.Ytmbalnjobcgpkaa.Ol

namespace Go.Proofs.Ytmbalnjobcgpkaa
open Go.RowKit Go.Proofs.Ytmbalnjobcgpkaa.Ln Go.Proofs.Ytmbalnjobcgpkaa.Ol

theorem flN_lenJ (l : List Oq) : (flN l).length ≤ l.length := by
  unfold flN
  split
  · have := nfo_len (flp l)
    rw [flp_len] at this
    unfold nrm; rw [List.length_append]; exact this
  · simp
theorem flN_fitJ {l : List Oq} (h : Fit l) : Fit (flN l) := by
  unfold flN
  split
  · exact nrm_fit (fit_flp h)
  · intro y hy; cases hy
theorem thn_fitJ {p q l : List Oq} (hp : Fit p) (hq : Fit q) (h : thn p q = some l) : Fit l := by
  obtain ⟨_, _, _, _, r, hw, hl, _⟩ := thn_some h
  rw [hl]
  exact nrm_fit (byO_fit hp hq hw)
theorem itr_fit {p q l : List Oq} (hp : Fit p) (hq : Fit q) (h : itr p q = some l) : Fit l := by
  unfold itr at h
  split at h
  · obtain ⟨c, hc, rfl⟩ := Option.map_eq_some_iff.1 h
    exact tdy_fit (thn_fitJ (flN_fitJ hp) hq hc)
  · cases h
theorem itr_len {p q l : List Oq} (h : itr p q = some l) : l.length ≤ 4294967296 := right_len (itr_right h)
theorem itrD_len (p q : List Oq) : ((itr p q).getD []).length ≤ 4294967296 := by
  cases h : itr p q with
  | none => simp
  | some l => exact itr_len h

set_option maxHeartbeats 4000000 in
theorem pinter_any (v u : Value) (p q : List Oq) (w : World) (hP : OpsAt w v p) (hQ : OpsAt w u q) (hlp : p.length ≤ 4398046511104) (hlq : q.length ≤ 4398046511104) (hfp : Fit p) (hfq : Fit q) :
    Calls Try.prog 11 #[v, u] w fun e w' => ∃ v', e = .returned (.tuple #[v', .bool (itr p q).isSome]) ∧ OpsAt w' v' ((itr p q).getD []) ∧ Below w.heap.size w w' := by
  have HP := hidden hP
  have HQ := hidden hQ
  have HFP := hidden hfp
  have HFQ := hidden hfq
  obtain ⟨ao, cap, rfl⟩ := hP.shape
  obtain ⟨bo, cap2, rfl⟩ := hQ.shape
  clear hP hQ hfp hfq
  cases hrp : right p with
  | false =>
    have HT := hidden (show itr p q = none by unfold itr; rw [if_neg (by simp [hrp])])
    have HRP := hidden hrp
    clear hrp
    go_enter Try.func11, Try.ntmps11
    go_wp2_with fail
    refine (pright_any _ p w HP.out hlp HFP.out).mono ?_
    rw [HRP.out]
    rintro e w2 ⟨rfl, hb⟩
    have HB2 := hidden hb
    clear hb
    go_wp2_with fail
    go_ret2
    exact ⟨_, by rw [HT.out]; rfl, by rw [HT.out]; exact OpsAt.nil _ _ _, HB2.out⟩
  | true =>
    have HRP := hidden hrp
    cases hrq : right q with
    | false =>
      have HT := hidden (show itr p q = none by unfold itr; rw [if_neg (by simp [hrq])])
      have HRQ := hidden hrq
      clear hrp hrq
      go_enter Try.func11, Try.ntmps11
      go_wp2_with fail
      refine (pright_any _ p w HP.out hlp HFP.out).mono ?_
      rw [HRP.out]
      rintro e w2 ⟨rfl, hb⟩
      have HB2 := hidden hb
      have HQ2 := hidden (HQ.out.later hb)
      clear hb
      go_wp2_with fail
      refine (pright_any _ q w2 HQ2.out hlq HFQ.out).mono ?_
      rw [HRQ.out]
      rintro e w3 ⟨rfl, hb⟩
      have HB3 := hidden (HB2.out.trans (hb.mono HB2.out.size))
      clear hb
      go_wp2_with fail
      go_ret2
      exact ⟨_, by rw [HT.out]; rfl, by rw [HT.out]; exact OpsAt.nil _ _ _, HB3.out⟩
    | true =>
      have HRQ := hidden hrq
      have HT := hidden (show itr p q = (thn (flN p) q).map tdy by unfold itr; rw [if_pos ⟨hrp, hrq⟩])
      have HLF := hidden (show (flN p).length ≤ 4398046511104 from Nat.le_trans (flN_lenJ p) hlp)
      have HFF := hidden (flN_fitJ HFP.out)
      clear hrp hrq
      go_enter Try.func11, Try.ntmps11
      go_wp2_with fail
      refine (pright_any _ p w HP.out hlp HFP.out).mono ?_
      rw [HRP.out]
      rintro e w2 ⟨rfl, hb⟩
      have HB2 := hidden hb
      have HP2 := hidden (HP.out.later hb)
      have HQ2 := hidden (HQ.out.later hb)
      clear hb
      go_wp2_with fail
      refine (pright_any _ q w2 HQ2.out hlq HFQ.out).mono ?_
      rw [HRQ.out]
      rintro e w3 ⟨rfl, hb⟩
      have HB3 := hidden (HB2.out.trans (hb.mono HB2.out.size))
      have HP3 := hidden (HP2.out.later hb)
      have HQ3 := hidden (HQ2.out.later hb)
      clear hb
      go_wp2_with fail
      refine (pflip_any _ p w3 HP3.out hlp HFP.out).mono ?_
      rintro e w4 ⟨v4, rfl, ho4, hb⟩
      have HB4 := hidden (HB3.out.trans (hb.mono HB3.out.size))
      have HQ4 := hidden (HQ3.out.later hb)
      have HO4 := hidden ho4
      obtain ⟨a4, n4, c4, rfl⟩ : ∃ a n c, v4 = .slice a n c := by obtain ⟨a, c, e⟩ := ho4.shape; exact ⟨_, _, _, e⟩
      clear hb ho4
      go_wp2_with fail
      refine (pthn_any _ _ (flN p) q w4 HO4.out HQ4.out HLF.out hlq HFF.out HFQ.out).mono ?_
      obtain ⟨r, hr⟩ : ∃ r, thn (flN p) q = r := ⟨_, rfl⟩
      rw [hr] at HT ⊢
      rintro e w5 ⟨v5, rfl, ho5, hb⟩
      have HB5 := hidden (HB4.out.trans (hb.mono HB4.out.size))
      have HO5 := hidden ho5
      obtain ⟨a5, n5, c5, rfl⟩ : ∃ a n c, v5 = .slice a n c := by obtain ⟨a, c, e⟩ := ho5.shape; exact ⟨_, _, _, e⟩
      clear hb ho5
      cases r with
      | none =>
        simp only [Option.isSome_none]
        go_wp2_with fail
        go_ret2
        exact ⟨_, by rw [HT.out]; rfl, by rw [HT.out]; exact OpsAt.nil _ _ _, HB5.out⟩
      | some l =>
        have HFL := hidden (thn_fitJ HFF.out HFQ.out hr)
        have HLL := hidden (show l.length ≤ 4398046511104 by
          obtain ⟨_, _, rl, _⟩ := thn_some hr
          have := right_len rl
          omega)
        have HO6 := hidden (show OpsAt w5 _ l from HO5.out)
        clear hr HO5
        simp only [Option.isSome_some]
        go_wp2_with fail
        refine (ptidy_any _ l w5 HO6.out HLL.out HFL.out).mono ?_
        rintro e w6 ⟨v6, rfl, ho6, hb⟩
        have HB6 := hidden (HB5.out.trans (hb.mono HB5.out.size))
        have HO7 := hidden ho6
        obtain ⟨a6, n6, c6, rfl⟩ : ∃ a n c, v6 = .slice a n c := by obtain ⟨a, c, e⟩ := ho6.shape; exact ⟨_, _, _, e⟩
        clear hb ho6
        go_wp2_with fail
        go_ret2
        exact ⟨_, by rw [HT.out]; rfl, by rw [HT.out]; exact HO7.out, HB6.out⟩

end Go.Proofs.Ytmbalnjobcgpkaa

namespace Go.Proofs.Ytmbalnjobcgpkaa
open Go.RowKit Go.Proofs.Ytmbalnjobcgpkaa.Ln Go.Proofs.Ytmbalnjobcgpkaa.Ol

theorem itr_map {p q : List Oq} (h : right p = true) : itr p q = (thn (flN p) q).map tdy := by
  unfold itr
  cases hq : right q with
  | true => rw [if_pos ⟨h, rfl⟩]
  | false =>
    rw [if_neg (by simp)]
    have : thn (flN p) q = none := by unfold thn; rw [if_neg (by simp [hq])]
    rw [this]; rfl

set_option maxHeartbeats 4000000 in
theorem inter_any (v u : Value) (p q : List Oq) (w : World) (hP : OpsAt w v p) (hQ : OpsAt w u q) (hlp : p.length ≤ 4398046511104) (hlq : q.length ≤ 4398046511104) (hfp : Fit p) (hfq : Fit q) :
    Calls Try.prog 10 #[v, u] w fun e w' => ∃ v', e = .returned (.tuple #[v', .bool (itr p q).isSome]) ∧ OpsAt w' v' ((itr p q).getD []) ∧ Below w.heap.size w w' := by
  have HP := hidden hP
  have HQ := hidden hQ
  have HFP := hidden hfp
  have HFQ := hidden hfq
  obtain ⟨ao, cap, rfl⟩ := hP.shape
  obtain ⟨bo, cap2, rfl⟩ := hQ.shape
  clear hP hQ hfp hfq
  cases hrp : right p with
  | false =>
    have HT := hidden (show itr p q = none by unfold itr; rw [if_neg (by simp [hrp])])
    have HRP := hidden hrp
    clear hrp
    go_enter Try.func10, Try.ntmps10
    go_wp2_with fail
    refine (oright_any _ p w HP.out hlp HFP.out).mono ?_
    rw [HRP.out]
    rintro e w2 ⟨rfl, hb⟩
    have HB2 := hidden hb
    clear hb
    go_wp2_with fail
    go_ret2
    exact ⟨_, by rw [HT.out]; rfl, by rw [HT.out]; exact OpsAt.nil _ _ _, HB2.out⟩
  | true =>
    have HRP := hidden hrp
    have HT := hidden (itr_map (q := q) hrp)
    have HLF := hidden (show (flN p).length ≤ 4398046511104 from Nat.le_trans (flN_lenJ p) hlp)
    have HFF := hidden (flN_fitJ HFP.out)
    clear hrp
    go_enter Try.func10, Try.ntmps10
    go_wp2_with fail
    refine (oright_any _ p w HP.out hlp HFP.out).mono ?_
    rw [HRP.out]
    rintro e w3 ⟨rfl, hb⟩
    have HB3 := hidden hb
    have HP3 := hidden (HP.out.later hb)
    have HQ3 := hidden (HQ.out.later hb)
    clear hb
    go_wp2_with fail
    refine (flip_any _ p w3 HP3.out hlp HFP.out).mono ?_
    rintro e w4 ⟨v4, rfl, ho4, hb⟩
    have HB4 := hidden (HB3.out.trans (hb.mono HB3.out.size))
    have HQ4 := hidden (HQ3.out.later hb)
    have HO4 := hidden ho4
    obtain ⟨a4, n4, c4, rfl⟩ : ∃ a n c, v4 = .slice a n c := by obtain ⟨a, c, e⟩ := ho4.shape; exact ⟨_, _, _, e⟩
    clear hb ho4
    go_wp2_with fail
    refine (then_any _ _ (flN p) q w4 HO4.out HQ4.out HLF.out hlq HFF.out HFQ.out).mono ?_
    obtain ⟨r, hr⟩ : ∃ r, thn (flN p) q = r := ⟨_, rfl⟩
    rw [hr] at HT ⊢
    rintro e w5 ⟨v5, rfl, ho5, hb⟩
    have HB5 := hidden (HB4.out.trans (hb.mono HB4.out.size))
    have HO5 := hidden ho5
    obtain ⟨a5, n5, c5, rfl⟩ : ∃ a n c, v5 = .slice a n c := by obtain ⟨a, c, e⟩ := ho5.shape; exact ⟨_, _, _, e⟩
    clear hb ho5
    cases r with
    | none =>
      simp only [Option.isSome_none]
      go_wp2_with fail
      go_ret2
      exact ⟨_, by rw [HT.out]; rfl, by rw [HT.out]; exact OpsAt.nil _ _ _, HB5.out⟩
    | some l =>
      have HFL := hidden (thn_fitJ HFF.out HFQ.out hr)
      have HLL := hidden (show l.length ≤ 4398046511104 by
        obtain ⟨_, _, rl, _⟩ := thn_some hr
        have := right_len rl
        omega)
      have HO6 := hidden (show OpsAt w5 _ l from HO5.out)
      clear hr HO5
      simp only [Option.isSome_some]
      go_wp2_with fail
      refine (tidy_any _ l w5 HO6.out HLL.out HFL.out).mono ?_
      rintro e w6 ⟨v6, rfl, ho6, hb⟩
      have HB6 := hidden (HB5.out.trans (hb.mono HB5.out.size))
      have HO7 := hidden ho6
      obtain ⟨a6, n6, c6, rfl⟩ : ∃ a n c, v6 = .slice a n c := by obtain ⟨a, c, e⟩ := ho6.shape; exact ⟨_, _, _, e⟩
      clear hb ho6
      go_wp2_with fail
      go_ret2
      exact ⟨_, by rw [HT.out]; rfl, by rw [HT.out]; exact HO7.out, HB6.out⟩

end Go.Proofs.Ytmbalnjobcgpkaa
