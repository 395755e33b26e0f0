/-
  The states that are told at a place: the iterator's own walk, whatever is done with each; conditions: how many states and bytes there are.
-/
import Derived.Test.YtjlihidmohokhaaNSeek
import Derived.RangeFuncNested
import Derived.RangeFuncBound
import Derived.RangeFuncCalls
import Derived.RangeFuncLeaves
import Derived.Shelf.Abstract
import Derived.Shelf.RegionOpen
import Derived.OwnWalkIn
import Derived.TacticsInMore
import Derived.LoopNIn
import Derived.LoopIn
import Derived.Deep.LoopGhost
namespace Go.Proofs.Ytjlihidmohokhaa
open Go.RowKit Go.Proofs.Ytjlihidmohokhaa.Gl

/-- the last one is taken off -/
theorem WK.cut {B Q Sb g c : Nat} {ss : List Sta} {first len gl n cp : Nat} {L : List Nat} {q : Nat} {H : Nat → Nat} {W : World} (h : WK B Q Sb g c ss first len (.slice (some ⟨gl, 0, none⟩) n cp) (L ++ [q]) H W) :
    WK B Q Sb g c ss first len (.slice (some ⟨gl, 0, none⟩) L.length cp) L H (W.setCell ⟨Q, 4, none⟩ (.slice (some ⟨gl, 0, none⟩) L.length cp)) ∧ Wg Q Sb (.slice (some ⟨gl, 0, none⟩) n cp) (.slice (some ⟨gl, 0, none⟩) L.length cp) W (W.setCell ⟨Q, 4, none⟩ (.slice (some ⟨gl, 0, none⟩) L.length cp)) := by
  have hn : n = L.length + 1 := by
    rcases h.left.2 with ⟨e, _⟩ | ⟨g', cap, cur, hv, _⟩
    · cases e
    · cases hv; rw [List.length_append]; rfl
  subst hn
  have hq : gl ≠ Q := fun e => h.lq (by rw [e]; rfl)
  refine ⟨⟨WB.left h.wb _, ?_, h.seen.keep (heap_setCell_other W ⟨Q, 4, none⟩ Sb _ h.qs.symm), ?_, h.qs, h.qg, h.sg, h.lq, h.ls, h.lg⟩, ?_⟩
  · exact owns_keep h.st (fun k e => by cases e; exact heap_setCell_other W ⟨Q, 4, none⟩ g _ h.qg.symm)
  · have h1 := h.left
    rw [List.length_append, show ints (L ++ [q]) = ints L ++ [.int .i64 q] from by simp [ints]] at h1
    exact owns_keep (ownsRow_pop (by simp [ints]) h1) (fun k e => by cases e; exact heap_setCell_other W ⟨Q, 4, none⟩ gl _ hq)
  · exact ⟨rfl, rfl, rfl, by simp [World.setCell], fun k _ h1 _ _ => heap_setCell_other W ⟨Q, 4, none⟩ k _ h1, Or.inl rfl⟩
/-- nothing is taken off -/
theorem WK.same {B Q Sb g c : Nat} {ss : List Sta} {first len : Nat} {lv : Value} {L : List Nat} {H : Nat → Nat} {W : World} (h : WK B Q Sb g c ss first len lv L H W) :
    WK B Q Sb g c ss first len lv L H (W.setCell ⟨Q, 4, none⟩ lv) ∧ Wg Q Sb lv lv W (W.setCell ⟨Q, 4, none⟩ lv) := by
  refine ⟨⟨WB.left h.wb _, ?_, h.seen.keep (heap_setCell_other W ⟨Q, 4, none⟩ Sb _ h.qs.symm), ?_, h.qs, h.qg, h.sg, h.lq, h.ls, h.lg⟩, ?_⟩
  · exact owns_keep h.st (fun k e => by cases e; exact heap_setCell_other W ⟨Q, 4, none⟩ g _ h.qg.symm)
  · exact owns_keep h.left (fun k e => heap_setCell_other W ⟨Q, 4, none⟩ k _ (fun e2 => h.lq (by rw [← show k = Q from e2]; exact e.symm)))
  · exact ⟨rfl, rfl, rfl, by simp [World.setCell], fun k _ h1 _ _ => heap_setCell_other W ⟨Q, 4, none⟩ k _ h1, Or.inl rfl⟩
theorem rchH_keep (at_ : Nat) (H : Nat → Nat) (i p : Nat) (h : H p = at_ + 1) : rchH at_ H i p = at_ + 1 := by
  unfold rchH upd
  split
  · simp only
    split
    · rfl
    · exact h
  · exact h
theorem goH_keep (at_ len : Nat) (t : Sta) (H : Nat → Nat) (p : Nat) (h : H p = at_ + 1) : goH at_ len t H p = at_ + 1 := by
  unfold goH
  split
  · exact rchH_keep _ _ _ _ (rchH_keep _ _ _ _ h)
  · split
    · exact rchH_keep _ _ _ _ h
    · exact h
theorem ints_at {l : List Nat} {j q : Nat} (h : l[j]? = some q) : (ints l)[j]? = some (.int .i64 q) := by
  unfold ints
  rw [List.getElem?_map, h]
  rfl
/-- a number of an owned row -/
theorem owns_int {W : World} {B gl n cp : Nat} {l : List Nat} {j q : Nat} (h : W.ownsRow B 3 1 (.slice (some ⟨gl, 0, none⟩) n cp) l.length (ints l)) (hq : l[j]? = some q) : W.cell? ⟨gl, j, none⟩ = some (.int .i64 q) := by
  have h2 := h.cells (g := gl) rfl j _ (ints_at hq)
  have h3 : (⟨gl, 0, none⟩ : Addr).add j = ⟨gl, j, none⟩ := by
    unfold Addr.add
    split <;> simp_all
  rw [h3] at h2
  exact h2
theorem owns_form {W : World} {B : Nat} {v : Value} {l : List Nat} (h : W.ownsRow B 3 1 v l.length (ints l)) : (v = .slice none 0 0 ∧ l = []) ∨ ∃ gl cp, v = .slice (some ⟨gl, 0, none⟩) l.length cp ∧ l.length ≤ cp := by
  rcases h.2 with ⟨e, h0⟩ | ⟨g', cap, cur, hv, _, _, hc, _⟩
  · exact Or.inl ⟨e, List.eq_nil_of_length_eq_zero h0⟩
  · exact Or.inr ⟨g', cap, hv, hc⟩

set_option maxHeartbeats 8000000 in
theorem reached1_any (B Q Sb g c : Nat) (ss : List Sta) (s : Tx) (first at_ : Nat) (Rr : Nat → Prop) (nv : Value) (N : List Nat) (c1 c2 c3 l : Nat)
    (I : (Nat → Prop) → Value → List Nat → (Nat → Nat) → Nat → World → Prop) (Ix : World → Prop)
    (hwk : ∀ T lv L H K W, I T lv L H K W → WK B Q Sb g c ss first s.length lv L H W)
    (hbx : ∀ T lv L H K W, I T lv L H K W → Boxed W c1 52 (.pointer (some ⟨Q, 0, none⟩)) ∧ Boxed W c2 58 nv ∧ Boxed W c3 3 (.int .i64 at_) ∧ W.ownsRow B 3 1 nv N.length (ints N) ∧ B ≤ W.heap.size)
    (hst : ∀ T lv L H K W lv' L' H' W', I T lv L H K W → WK B Q Sb g c ss first s.length lv' L' H' W' → Wg Q Sb lv lv' W W' → I T lv' L' H' K W')
    (hY : ∀ T q lv L H K W, I T lv L H K W → Sk ss s at_ Rr (fun p => T p ∨ p = q) T (K + 1) L H → ∀ m, YieldAt Fence.wide m Try.prog l #[.int .i64 (q : Nat)] W fun e W' => (e = .returned (.bool true) ∧ I (fun p => T p ∨ p = q) lv L H (K + 1) W') ∨ (e = .returned (.bool false) ∧ Ix W'))
    (hwf : ∀ (i : Nat) (t : Sta), ss[i]? = some t → t.kind ≤ 4 ∧ t.next < ss.length ∧ t.other < ss.length)
    (hrr : ∀ p p', Rr p → Stp ss s p at_ p' at_ → Rr p') (hN : ∀ p ∈ N, Rr p ∧ p < ss.length)
    (hss : ss.length ≤ 100000) (hsl : s.length ≤ 99999) (hat : at_ ≤ s.length) (hNl : N.length ≤ 1000000)
    (W : World) (lv : Value) (H : Nat → Nat) (h0 : I (fun _ => False) lv [] H 0 W) (hH : ∀ q, q < ss.length → H q ≤ at_) :
    Calls Try.prog 44 #[.func (.yield l) #[] #[], .pointer (some ⟨c1, 0, none⟩), .pointer (some ⟨c2, 0, none⟩), .pointer (some ⟨c3, 0, none⟩)] W fun e W' => (∃ v, e = .returned v) ∧ ((∃ T lv' H' K, I T lv' [] H' K W' ∧ Sk ss s at_ Rr T T K [] H' ∧ ∀ p ∈ N, T p) ∨ Ix W') := by
  have HWK := hidden hwk
  have HBX := hidden hbx
  have HST := hidden hst
  have HY := hidden hY
  have HWF := hidden hwf
  have HRR := hidden hrr
  have HN := hidden hN
  have H0 := hidden h0
  have HH := hidden hH
  clear hwk hbx hst hY hwf hrr hN h0 hH
  obtain ⟨q0, q1, q2, q3, q4⟩ := (HWK.out _ _ _ _ _ _ H0.out).wb.cells
  have qf := (HWK.out _ _ _ _ _ _ H0.out).wb.thawed 4
  have ql := (HWK.out _ _ _ _ _ _ H0.out).wb.lt
  obtain ⟨bx1, bx2, bx3, bx4, bx5⟩ := HBX.out _ _ _ _ _ _ H0.out
  have x1 := bx1.cell
  have x2 := bx2.cell
  have x3 := bx3.cell
  have hne1 : c1 ≠ Q := fun e => by subst e; have h1 := (HWK.out _ _ _ _ _ _ H0.out).wb; unfold WB at h1; unfold Boxed at bx1; rw [bx1] at h1; simp at h1
  have hne2 : c2 ≠ Q := fun e => by subst e; have h1 := (HWK.out _ _ _ _ _ _ H0.out).wb; unfold WB at h1; unfold Boxed at bx2; rw [bx2] at h1; simp at h1
  have HS0 := hidden (HWK.out _ _ _ _ _ _ H0.out).same
  have HI1 := hidden (HST.out _ _ _ _ _ _ _ _ _ _ H0.out HS0.out.1 HS0.out.2)
  have HF := hidden (owns_form bx4)
  have hlvf := owns_form (HWK.out _ _ _ _ _ _ H0.out).left
  clear bx1 bx2 bx3 bx4
  rcases hlvf with ⟨rfl, _⟩ | ⟨gl, cp, rfl, hcp⟩
  · go_enter Try.func44, Try.ntmps44
    go_wp2_with fail
    go_region

    generalize hW1 : World.drew _ = W1
    have HI2 := hidden (show I (fun _ => False) (.slice none 0 0) [] H 0 W1 by rw [← hW1]; exact HST.out _ _ _ _ _ _ _ _ _ _ HI1.out (HS0.out.1.later ((Below.refl _ _).drew)) (Wg.of_below ((Below.refl _ _).drew)))
    obtain ⟨y1, y2, y3, y4, y5⟩ := HBX.out _ _ _ _ _ _ HI2.out
    have x2' := y2.cell
    have HSK := hidden (Sk.start (ss := ss) (s := s) (at_ := at_) (Rr := Rr) HH.out)
    clear hW1 y1 y2 y3 y4 y5 x1 x2 x3 q0 q1 q2 q3 q4 qf HS0 HI1 H0
    rcases HF.out with ⟨rfl, rfl⟩ | ⟨gn, cn, rfl, hcn⟩
    · go_wp2_with fail
      go_loopw [19] (fun i wr => i = .int .i64 0 ∧ wr = W1) (fun _ _ => 0)
      case atStart => exact ⟨rfl, rfl⟩
      case round =>
        obtain ⟨rfl, rfl⟩ := hrel
        have HST0 := hidden (show ∃ T lv L H K, I T lv L H K wr ∧ Sk ss s at_ Rr T T K L H ∧ (∀ p ∈ ([] : List Nat), T p ∨ p ∈ L) ∧ 2 * unseen at_ H ss.length + L.length ≤ 2 * ss.length from ⟨_, _, _, _, _, HI2.out, HSK.out, fun p hp => by simp at hp, by
          have := HSK.out.cnt
          show _ + 0 ≤ _
          simp at this
          omega⟩)
        go_wp2_with fail
        go_loopg [8] (2 * ss.length) (fun k _ wr => Hid (∃ T lv L H K, I T lv L H K wr ∧ Sk ss s at_ Rr T T K L H ∧ (∀ p ∈ ([] : List Nat), T p ∨ p ∈ L) ∧ 2 * unseen at_ H ss.length + L.length ≤ k))
        case atStart => exact HST0.out
        case round =>
          clear HST0
          obtain ⟨T, lv, L, H1, K, hI, hS, hP, hk⟩ := hrel.out
          clear hrel
          obtain ⟨y1, y2, y3, y4, y5⟩ := HBX.out _ _ _ _ _ _ hI
          have z1 := y1.cell
          have z3 := y3.cell
          have hW := HWK.out _ _ _ _ _ _ hI
          obtain ⟨q0, q1, q2, q3, q4⟩ := hW.wb.cells
          have qf := hW.wb.thawed 4
          have ql := hW.wb.lt
          have hn1 : c1 ≠ Q := fun e => by subst e; have h1 := hW.wb; unfold WB at h1; unfold Boxed at y1; rw [y1] at h1; simp at h1
          have hn3 : c3 ≠ Q := fun e => by subst e; have h1 := hW.wb; unfold WB at h1; unfold Boxed at y3; rw [y3] at h1; simp at h1
          rcases List.eq_nil_or_concat L with rfl | ⟨L0, q, rfl⟩
          · have HA := hidden (show ∃ T lv' H' K, I T lv' [] H' K wr ∧ Sk ss s at_ Rr T T K [] H' ∧ ∀ p ∈ ([] : List Nat), T p from ⟨T, lv, H1, K, hI, hS, fun p hp => by
              rcases hP p hp with e | e
              · exact e
              · simp at e⟩)
            have hz : ∃ ao cp, lv = .slice ao 0 cp := by
              rcases owns_form hW.left with ⟨rfl, _⟩ | ⟨gl, cp, rfl, _⟩
              · exact ⟨none, 0, rfl⟩
              · exact ⟨_, cp, rfl⟩
            obtain ⟨ao, cpz, rfl⟩ := hz
            clear hI hS hP hk y1 y2 y3 y4 y5 hW
            go_wp2_with fail
            go_end0
            exact ⟨⟨_, rfl⟩, Or.inl HA.out⟩
          · rw [List.concat_eq_append] at hI hS hP hk hW
            rcases owns_form hW.left with ⟨_, e⟩ | ⟨gl, cp, rfl, hcp⟩
            · simp at e
            · rw [List.length_append] at hcp q4 hI hW hk
              replace hcp : L0.length + 1 ≤ cp := hcp
              have z5 : wr.cell? ⟨gl, L0.length, none⟩ = some (.int .i64 q) := owns_int hW.left (by simp)
              have hLl : L0.length < 1000000 := by have := hS.cnt; simp at this; omega
              have HC := hidden hW.cut
              have HI := hidden (HST.out _ _ _ _ _ _ _ _ _ _ hI hW.cut.1 hW.cut.2)
              have HS := hidden hS.pop
              have HP := hidden hP
              have HK := hidden (show 2 * unseen at_ H1 ss.length + L0.length + 1 ≤ gk from hk)
              have hcpi : (L0.length : Int) ≤ cp := by omega
              clear hI hS hP hk y1 y2 y3 y4 hW
              replace q4 : wr.cell? ⟨Q, 4, none⟩ = some (.slice (some ⟨gl, 0, none⟩) (L0.length + 1) cp) := q4
              go_upto_region 9 with fail
              go_region
              generalize hW2 : World.drew _ = W2
              have HI2 := hidden (show I T (.slice (some ⟨gl, 0, none⟩) L0.length cp) L0 H1 K W2 by rw [← hW2]; exact HST.out _ _ _ _ _ _ _ _ _ _ HI.out (HC.out.1.later ((Below.refl _ _).drew)) (Wg.of_below ((Below.refl _ _).drew)))
              clear hW2 HI HC z5 q0 q1 q2 q3 q4 qf z1 z3
              go_upto_region 10 with fail
              obtain ⟨fn, tmps, assign, body, hy, hR⟩ := HY.out T q _ _ _ _ _ HI2.out HS.out (3 - 1)
              refine (wpIn_wide (n := 3)).1 ?_
              gi_wp2
              refine hR.mono ?_
              clear hy hR HI2
              rintro e w4 (⟨rfl, hI4⟩ | ⟨rfl, hx4⟩)
              · obtain ⟨y1, y2, y3, y4, y5⟩ := HBX.out _ _ _ _ _ _ hI4
                have z1 := y1.cell
                have z3 := y3.cell
                have hqn := (HS.out.told q (Or.inr rfl)).2
                obtain ⟨t, ht⟩ : ∃ t, ss[q]? = some t := ⟨_, List.getElem?_eq_getElem hqn⟩
                have htw := HWF.out q t ht
                have HI4 := hidden hI4
                have HT := hidden ht
                have HTW := hidden htw
                clear y1 y2 y3 y4 hI4 ht htw
                gi_wp2
                go_wp2_with fail
                refine (goOn_any B Q Sb g c ss first s.length _ L0 H1 q at_ t _ (HWK.out _ _ _ _ _ _ HI4.out) HT.out HTW.out.1 HTW.out.2.1 HTW.out.2.2 hLl y5 (by omega) hss (by omega)).mono ?_
                rintro e w5 ⟨lv5, ⟨v5, rfl⟩, hK5, hg5⟩
                have HI5 := hidden (HST.out _ _ _ _ _ _ _ _ _ _ HI4.out hK5 hg5)
                have HS5 := hidden (HS.out.go HT.out (fun p e => e) (Or.inr rfl) HTW.out.2.1 HTW.out.2.2 HRR.out)
                clear hK5 hg5
                go_wp2_with fail
                go_roundg (gk - 1)
                case measure => have := HK.out; omega
                case rel => exact ⟨_, lv5, _, _, _, HI5.out, HS5.out.1, fun p hp => by
                    rcases HP.out p hp with e | e
                    · exact Or.inl (Or.inl e)
                    · rcases List.mem_append.1 e with e | e
                      · have h9 := (HS5.out.1.seen p (HS.out.left p e).2).1
                        have h8 := (HS.out.seen p (HS.out.left p e).2).2 (Or.inr e)
                        have h7 := HS5.out.1.most p (HS.out.left p e).2
                        refine h9 ?_
                        exact goH_keep at_ s.length t H1 p h8
                      · simp at e; exact Or.inl (Or.inr e), by have := HS5.out.2; have := HK.out; omega⟩
              · have HX := hidden hx4
                clear hx4
                gi_wp2
                go_wp2_with fail
                refine bodyPost_ret (results_none rfl _ _ _) rfl ?_
                exact ⟨⟨_, rfl⟩, Or.inr HX.out⟩
    · go_wp2_with fail
      go_loopw [19] (fun i wr => ∃ (j : Nat) (lv : Value) (L : List Nat) (H : Nat → Nat), i = .int .i64 j ∧ j ≤ N.length ∧ Hid (I (fun _ => False) lv L H 0 wr ∧ Sk ss s at_ Rr (fun _ => False) (fun _ => False) 0 L H ∧ ∀ p ∈ N.take j, p ∈ L)) (fun i _ => N.length - (intOf i).toNat)
      case atStart => exact ⟨0, _, _, _, rfl, Nat.zero_le _, HI2.out, HSK.out, fun p hp => by simp at hp⟩
      case round =>
        obtain ⟨j, lv, L, H1, rfl, hj, hI, hS, hP⟩ := hrel
        by_cases hlt : j < N.length
        · have hji : (j : Int) < N.length := by omega
          obtain ⟨p, hp⟩ : ∃ p, N[j]? = some p := ⟨_, List.getElem?_eq_getElem hlt⟩
          obtain ⟨y1, y2, y3, y4, y5⟩ := HBX.out _ _ _ _ _ _ hI
          have z0 := owns_int y4 hp
          have z1 := y1.cell
          have z3 := y3.cell
          have hpn := HN.out p (List.mem_of_getElem? hp)
          have hLl : L.length < 1048576 := by have := hS.cnt; omega
          have HI := hidden hI
          have HS := hidden hS
          have HP := hidden hP
          have HPJ := hidden hp
          have HPN := hidden hpn
          have hp2 := hpn.2
          clear y1 y2 y3 y4 hI hS hP hp hpn
          go_wp2_with fail
          refine (reachW_any B Q Sb g c ss first s.length lv L H1 p at_ _ (HWK.out _ _ _ _ _ _ HI.out) hp2 hLl y5 (by omega) hss).mono ?_
          rintro e w2 ⟨lv2, ⟨v2, rfl⟩, hK2, hg2⟩
          have HI3 := hidden (HST.out _ _ _ _ _ _ _ _ _ _ HI.out hK2 hg2)
          have HR := hidden (HS.out.rch HPN.out.2 HPN.out.1)
          clear hK2 hg2
          go_wp2_with fail
          go_roundw
          case rel => exact ⟨j + 1, lv2, _, _, by go_num, by omega, HI3.out, HR.out.1, fun p' hp' => by
            obtain ⟨hj2, hd2⟩ := List.getElem?_eq_some_iff.1 HPJ.out
            rw [List.take_succ_eq_append_getElem hj2, List.mem_append] at hp'
            rcases hp' with hp' | hp'
            · rcases HR.out.2.2.1 p' (Or.inr (HP.out p' hp')) with e | e
              · exact e.elim
              · exact e
            · simp at hp'
              rw [hd2] at hp'
              subst hp'
              rcases HR.out.2.1 with e | e
              · exact e.elim
              · exact e⟩
          case measure => simp [intOf]; omega
        · obtain rfl : N.length = j := by omega
          have hji : ¬ (N.length : Int) < N.length := by omega
          have HST0 := hidden (show ∃ T lv L H K, I T lv L H K wr ∧ Sk ss s at_ Rr T T K L H ∧ (∀ p ∈ N, T p ∨ p ∈ L) ∧ 2 * unseen at_ H ss.length + L.length ≤ 2 * ss.length from ⟨_, lv, L, H1, 0, hI, hS, fun p hp => Or.inr (hP p (by rw [List.take_length]; exact hp)), by
            have := hS.cnt
            omega⟩)
          clear hI hS hP
          go_wp2_with fail
          go_loopg [8] (2 * ss.length) (fun k _ wr => Hid (∃ T lv L H K, I T lv L H K wr ∧ Sk ss s at_ Rr T T K L H ∧ (∀ p ∈ N, T p ∨ p ∈ L) ∧ 2 * unseen at_ H ss.length + L.length ≤ k))
          case atStart => exact HST0.out
          case round =>
            clear HST0
            obtain ⟨T, lv, L, H1, K, hI, hS, hP, hk⟩ := hrel.out
            clear hrel
            obtain ⟨y1, y2, y3, y4, y5⟩ := HBX.out _ _ _ _ _ _ hI
            have z1 := y1.cell
            have z3 := y3.cell
            have hW := HWK.out _ _ _ _ _ _ hI
            obtain ⟨q0, q1, q2, q3, q4⟩ := hW.wb.cells
            have qf := hW.wb.thawed 4
            have ql := hW.wb.lt
            have hn1 : c1 ≠ Q := fun e => by subst e; have h1 := hW.wb; unfold WB at h1; unfold Boxed at y1; rw [y1] at h1; simp at h1
            have hn3 : c3 ≠ Q := fun e => by subst e; have h1 := hW.wb; unfold WB at h1; unfold Boxed at y3; rw [y3] at h1; simp at h1
            rcases List.eq_nil_or_concat L with rfl | ⟨L0, q, rfl⟩
            · have HA := hidden (show ∃ T lv' H' K, I T lv' [] H' K wr ∧ Sk ss s at_ Rr T T K [] H' ∧ ∀ p ∈ N, T p from ⟨T, lv, H1, K, hI, hS, fun p hp => by
                rcases hP p hp with e | e
                · exact e
                · simp at e⟩)
              have hz : ∃ ao cp, lv = .slice ao 0 cp := by
                rcases owns_form hW.left with ⟨rfl, _⟩ | ⟨gl, cp, rfl, _⟩
                · exact ⟨none, 0, rfl⟩
                · exact ⟨_, cp, rfl⟩
              obtain ⟨ao, cpz, rfl⟩ := hz
              clear hI hS hP hk y1 y2 y3 y4 y5 hW
              go_wp2_with fail
              go_end0
              exact ⟨⟨_, rfl⟩, Or.inl HA.out⟩
            · rw [List.concat_eq_append] at hI hS hP hk hW
              rcases owns_form hW.left with ⟨_, e⟩ | ⟨gl, cp, rfl, hcp⟩
              · simp at e
              · rw [List.length_append] at hcp q4 hI hW hk
                replace hcp : L0.length + 1 ≤ cp := hcp
                have z5 : wr.cell? ⟨gl, L0.length, none⟩ = some (.int .i64 q) := owns_int hW.left (by simp)
                have hLl : L0.length < 1000000 := by have := hS.cnt; simp at this; omega
                have HC := hidden hW.cut
                have HI := hidden (HST.out _ _ _ _ _ _ _ _ _ _ hI hW.cut.1 hW.cut.2)
                have HS := hidden hS.pop
                have HP := hidden hP
                have HK := hidden (show 2 * unseen at_ H1 ss.length + L0.length + 1 ≤ gk from hk)
                have hcpi : (L0.length : Int) ≤ cp := by omega
                clear hI hS hP hk y1 y2 y3 y4 hW
                replace q4 : wr.cell? ⟨Q, 4, none⟩ = some (.slice (some ⟨gl, 0, none⟩) (L0.length + 1) cp) := q4
                go_upto_region 9 with fail
                go_region
                generalize hW2 : World.drew _ = W2
                have HI2 := hidden (show I T (.slice (some ⟨gl, 0, none⟩) L0.length cp) L0 H1 K W2 by rw [← hW2]; exact HST.out _ _ _ _ _ _ _ _ _ _ HI.out (HC.out.1.later ((Below.refl _ _).drew)) (Wg.of_below ((Below.refl _ _).drew)))
                clear hW2 HI HC z5 q0 q1 q2 q3 q4 qf z1 z3
                go_upto_region 10 with fail
                obtain ⟨fn, tmps, assign, body, hy, hR⟩ := HY.out T q _ _ _ _ _ HI2.out HS.out (3 - 1)
                refine (wpIn_wide (n := 3)).1 ?_
                gi_wp2
                refine hR.mono ?_
                clear hy hR HI2
                rintro e w4 (⟨rfl, hI4⟩ | ⟨rfl, hx4⟩)
                · obtain ⟨y1, y2, y3, y4, y5⟩ := HBX.out _ _ _ _ _ _ hI4
                  have z1 := y1.cell
                  have z3 := y3.cell
                  have hqn := (HS.out.told q (Or.inr rfl)).2
                  obtain ⟨t, ht⟩ : ∃ t, ss[q]? = some t := ⟨_, List.getElem?_eq_getElem hqn⟩
                  have htw := HWF.out q t ht
                  have HI4 := hidden hI4
                  have HT := hidden ht
                  have HTW := hidden htw
                  clear y1 y2 y3 y4 hI4 ht htw
                  gi_wp2
                  go_wp2_with fail
                  refine (goOn_any B Q Sb g c ss first s.length _ L0 H1 q at_ t _ (HWK.out _ _ _ _ _ _ HI4.out) HT.out HTW.out.1 HTW.out.2.1 HTW.out.2.2 hLl y5 (by omega) hss (by omega)).mono ?_
                  rintro e w5 ⟨lv5, ⟨v5, rfl⟩, hK5, hg5⟩
                  have HI5 := hidden (HST.out _ _ _ _ _ _ _ _ _ _ HI4.out hK5 hg5)
                  have HS5 := hidden (HS.out.go HT.out (fun p e => e) (Or.inr rfl) HTW.out.2.1 HTW.out.2.2 HRR.out)
                  clear hK5 hg5
                  go_wp2_with fail
                  go_roundg (gk - 1)
                  case measure => have := HK.out; omega
                  case rel => exact ⟨_, lv5, _, _, _, HI5.out, HS5.out.1, fun p hp => by
                      rcases HP.out p hp with e | e
                      · exact Or.inl (Or.inl e)
                      · rcases List.mem_append.1 e with e | e
                        · have h9 := (HS5.out.1.seen p (HS.out.left p e).2).1
                          have h8 := (HS.out.seen p (HS.out.left p e).2).2 (Or.inr e)
                          have h7 := HS5.out.1.most p (HS.out.left p e).2
                          refine h9 ?_
                          exact goH_keep at_ s.length t H1 p h8
                        · simp at e; exact Or.inl (Or.inr e), by have := HS5.out.2; have := HK.out; omega⟩
                · have HX := hidden hx4
                  clear hx4
                  gi_wp2
                  go_wp2_with fail
                  refine bodyPost_ret (results_none rfl _ _ _) rfl ?_
                  exact ⟨⟨_, rfl⟩, Or.inr HX.out⟩
  · go_enter Try.func44, Try.ntmps44
    go_wp2_with fail
    go_region

    generalize hW1 : World.drew _ = W1
    have HI2 := hidden (show I (fun _ => False) (.slice (some ⟨gl, 0, none⟩) 0 cp) [] H 0 W1 by rw [← hW1]; exact HST.out _ _ _ _ _ _ _ _ _ _ HI1.out (HS0.out.1.later ((Below.refl _ _).drew)) (Wg.of_below ((Below.refl _ _).drew)))
    obtain ⟨y1, y2, y3, y4, y5⟩ := HBX.out _ _ _ _ _ _ HI2.out
    have x2' := y2.cell
    have HSK := hidden (Sk.start (ss := ss) (s := s) (at_ := at_) (Rr := Rr) HH.out)
    clear hW1 y1 y2 y3 y4 y5 x1 x2 x3 q0 q1 q2 q3 q4 qf HS0 HI1 H0
    rcases HF.out with ⟨rfl, rfl⟩ | ⟨gn, cn, rfl, hcn⟩
    · go_wp2_with fail
      go_loopw [19] (fun i wr => i = .int .i64 0 ∧ wr = W1) (fun _ _ => 0)
      case atStart => exact ⟨rfl, rfl⟩
      case round =>
        obtain ⟨rfl, rfl⟩ := hrel
        have HST0 := hidden (show ∃ T lv L H K, I T lv L H K wr ∧ Sk ss s at_ Rr T T K L H ∧ (∀ p ∈ ([] : List Nat), T p ∨ p ∈ L) ∧ 2 * unseen at_ H ss.length + L.length ≤ 2 * ss.length from ⟨_, _, _, _, _, HI2.out, HSK.out, fun p hp => by simp at hp, by
          have := HSK.out.cnt
          show _ + 0 ≤ _
          simp at this
          omega⟩)
        go_wp2_with fail
        go_loopg [8] (2 * ss.length) (fun k _ wr => Hid (∃ T lv L H K, I T lv L H K wr ∧ Sk ss s at_ Rr T T K L H ∧ (∀ p ∈ ([] : List Nat), T p ∨ p ∈ L) ∧ 2 * unseen at_ H ss.length + L.length ≤ k))
        case atStart => exact HST0.out
        case round =>
          clear HST0
          obtain ⟨T, lv, L, H1, K, hI, hS, hP, hk⟩ := hrel.out
          clear hrel
          obtain ⟨y1, y2, y3, y4, y5⟩ := HBX.out _ _ _ _ _ _ hI
          have z1 := y1.cell
          have z3 := y3.cell
          have hW := HWK.out _ _ _ _ _ _ hI
          obtain ⟨q0, q1, q2, q3, q4⟩ := hW.wb.cells
          have qf := hW.wb.thawed 4
          have ql := hW.wb.lt
          have hn1 : c1 ≠ Q := fun e => by subst e; have h1 := hW.wb; unfold WB at h1; unfold Boxed at y1; rw [y1] at h1; simp at h1
          have hn3 : c3 ≠ Q := fun e => by subst e; have h1 := hW.wb; unfold WB at h1; unfold Boxed at y3; rw [y3] at h1; simp at h1
          rcases List.eq_nil_or_concat L with rfl | ⟨L0, q, rfl⟩
          · have HA := hidden (show ∃ T lv' H' K, I T lv' [] H' K wr ∧ Sk ss s at_ Rr T T K [] H' ∧ ∀ p ∈ ([] : List Nat), T p from ⟨T, lv, H1, K, hI, hS, fun p hp => by
              rcases hP p hp with e | e
              · exact e
              · simp at e⟩)
            have hz : ∃ ao cp, lv = .slice ao 0 cp := by
              rcases owns_form hW.left with ⟨rfl, _⟩ | ⟨gl, cp, rfl, _⟩
              · exact ⟨none, 0, rfl⟩
              · exact ⟨_, cp, rfl⟩
            obtain ⟨ao, cpz, rfl⟩ := hz
            clear hI hS hP hk y1 y2 y3 y4 y5 hW
            go_wp2_with fail
            go_end0
            exact ⟨⟨_, rfl⟩, Or.inl HA.out⟩
          · rw [List.concat_eq_append] at hI hS hP hk hW
            rcases owns_form hW.left with ⟨_, e⟩ | ⟨gl, cp, rfl, hcp⟩
            · simp at e
            · rw [List.length_append] at hcp q4 hI hW hk
              replace hcp : L0.length + 1 ≤ cp := hcp
              have z5 : wr.cell? ⟨gl, L0.length, none⟩ = some (.int .i64 q) := owns_int hW.left (by simp)
              have hLl : L0.length < 1000000 := by have := hS.cnt; simp at this; omega
              have HC := hidden hW.cut
              have HI := hidden (HST.out _ _ _ _ _ _ _ _ _ _ hI hW.cut.1 hW.cut.2)
              have HS := hidden hS.pop
              have HP := hidden hP
              have HK := hidden (show 2 * unseen at_ H1 ss.length + L0.length + 1 ≤ gk from hk)
              have hcpi : (L0.length : Int) ≤ cp := by omega
              clear hI hS hP hk y1 y2 y3 y4 hW
              replace q4 : wr.cell? ⟨Q, 4, none⟩ = some (.slice (some ⟨gl, 0, none⟩) (L0.length + 1) cp) := q4
              go_upto_region 9 with fail
              go_region
              generalize hW2 : World.drew _ = W2
              have HI2 := hidden (show I T (.slice (some ⟨gl, 0, none⟩) L0.length cp) L0 H1 K W2 by rw [← hW2]; exact HST.out _ _ _ _ _ _ _ _ _ _ HI.out (HC.out.1.later ((Below.refl _ _).drew)) (Wg.of_below ((Below.refl _ _).drew)))
              clear hW2 HI HC z5 q0 q1 q2 q3 q4 qf z1 z3
              go_upto_region 10 with fail
              obtain ⟨fn, tmps, assign, body, hy, hR⟩ := HY.out T q _ _ _ _ _ HI2.out HS.out (3 - 1)
              refine (wpIn_wide (n := 3)).1 ?_
              gi_wp2
              refine hR.mono ?_
              clear hy hR HI2
              rintro e w4 (⟨rfl, hI4⟩ | ⟨rfl, hx4⟩)
              · obtain ⟨y1, y2, y3, y4, y5⟩ := HBX.out _ _ _ _ _ _ hI4
                have z1 := y1.cell
                have z3 := y3.cell
                have hqn := (HS.out.told q (Or.inr rfl)).2
                obtain ⟨t, ht⟩ : ∃ t, ss[q]? = some t := ⟨_, List.getElem?_eq_getElem hqn⟩
                have htw := HWF.out q t ht
                have HI4 := hidden hI4
                have HT := hidden ht
                have HTW := hidden htw
                clear y1 y2 y3 y4 hI4 ht htw
                gi_wp2
                go_wp2_with fail
                refine (goOn_any B Q Sb g c ss first s.length _ L0 H1 q at_ t _ (HWK.out _ _ _ _ _ _ HI4.out) HT.out HTW.out.1 HTW.out.2.1 HTW.out.2.2 hLl y5 (by omega) hss (by omega)).mono ?_
                rintro e w5 ⟨lv5, ⟨v5, rfl⟩, hK5, hg5⟩
                have HI5 := hidden (HST.out _ _ _ _ _ _ _ _ _ _ HI4.out hK5 hg5)
                have HS5 := hidden (HS.out.go HT.out (fun p e => e) (Or.inr rfl) HTW.out.2.1 HTW.out.2.2 HRR.out)
                clear hK5 hg5
                go_wp2_with fail
                go_roundg (gk - 1)
                case measure => have := HK.out; omega
                case rel => exact ⟨_, lv5, _, _, _, HI5.out, HS5.out.1, fun p hp => by
                    rcases HP.out p hp with e | e
                    · exact Or.inl (Or.inl e)
                    · rcases List.mem_append.1 e with e | e
                      · have h9 := (HS5.out.1.seen p (HS.out.left p e).2).1
                        have h8 := (HS.out.seen p (HS.out.left p e).2).2 (Or.inr e)
                        have h7 := HS5.out.1.most p (HS.out.left p e).2
                        refine h9 ?_
                        exact goH_keep at_ s.length t H1 p h8
                      · simp at e; exact Or.inl (Or.inr e), by have := HS5.out.2; have := HK.out; omega⟩
              · have HX := hidden hx4
                clear hx4
                gi_wp2
                go_wp2_with fail
                refine bodyPost_ret (results_none rfl _ _ _) rfl ?_
                exact ⟨⟨_, rfl⟩, Or.inr HX.out⟩
    · go_wp2_with fail
      go_loopw [19] (fun i wr => ∃ (j : Nat) (lv : Value) (L : List Nat) (H : Nat → Nat), i = .int .i64 j ∧ j ≤ N.length ∧ Hid (I (fun _ => False) lv L H 0 wr ∧ Sk ss s at_ Rr (fun _ => False) (fun _ => False) 0 L H ∧ ∀ p ∈ N.take j, p ∈ L)) (fun i _ => N.length - (intOf i).toNat)
      case atStart => exact ⟨0, _, _, _, rfl, Nat.zero_le _, HI2.out, HSK.out, fun p hp => by simp at hp⟩
      case round =>
        obtain ⟨j, lv, L, H1, rfl, hj, hI, hS, hP⟩ := hrel
        by_cases hlt : j < N.length
        · have hji : (j : Int) < N.length := by omega
          obtain ⟨p, hp⟩ : ∃ p, N[j]? = some p := ⟨_, List.getElem?_eq_getElem hlt⟩
          obtain ⟨y1, y2, y3, y4, y5⟩ := HBX.out _ _ _ _ _ _ hI
          have z0 := owns_int y4 hp
          have z1 := y1.cell
          have z3 := y3.cell
          have hpn := HN.out p (List.mem_of_getElem? hp)
          have hLl : L.length < 1048576 := by have := hS.cnt; omega
          have HI := hidden hI
          have HS := hidden hS
          have HP := hidden hP
          have HPJ := hidden hp
          have HPN := hidden hpn
          have hp2 := hpn.2
          clear y1 y2 y3 y4 hI hS hP hp hpn
          go_wp2_with fail
          refine (reachW_any B Q Sb g c ss first s.length lv L H1 p at_ _ (HWK.out _ _ _ _ _ _ HI.out) hp2 hLl y5 (by omega) hss).mono ?_
          rintro e w2 ⟨lv2, ⟨v2, rfl⟩, hK2, hg2⟩
          have HI3 := hidden (HST.out _ _ _ _ _ _ _ _ _ _ HI.out hK2 hg2)
          have HR := hidden (HS.out.rch HPN.out.2 HPN.out.1)
          clear hK2 hg2
          go_wp2_with fail
          go_roundw
          case rel => exact ⟨j + 1, lv2, _, _, by go_num, by omega, HI3.out, HR.out.1, fun p' hp' => by
            obtain ⟨hj2, hd2⟩ := List.getElem?_eq_some_iff.1 HPJ.out
            rw [List.take_succ_eq_append_getElem hj2, List.mem_append] at hp'
            rcases hp' with hp' | hp'
            · rcases HR.out.2.2.1 p' (Or.inr (HP.out p' hp')) with e | e
              · exact e.elim
              · exact e
            · simp at hp'
              rw [hd2] at hp'
              subst hp'
              rcases HR.out.2.1 with e | e
              · exact e.elim
              · exact e⟩
          case measure => simp [intOf]; omega
        · obtain rfl : N.length = j := by omega
          have hji : ¬ (N.length : Int) < N.length := by omega
          have HST0 := hidden (show ∃ T lv L H K, I T lv L H K wr ∧ Sk ss s at_ Rr T T K L H ∧ (∀ p ∈ N, T p ∨ p ∈ L) ∧ 2 * unseen at_ H ss.length + L.length ≤ 2 * ss.length from ⟨_, lv, L, H1, 0, hI, hS, fun p hp => Or.inr (hP p (by rw [List.take_length]; exact hp)), by
            have := hS.cnt
            omega⟩)
          clear hI hS hP
          go_wp2_with fail
          go_loopg [8] (2 * ss.length) (fun k _ wr => Hid (∃ T lv L H K, I T lv L H K wr ∧ Sk ss s at_ Rr T T K L H ∧ (∀ p ∈ N, T p ∨ p ∈ L) ∧ 2 * unseen at_ H ss.length + L.length ≤ k))
          case atStart => exact HST0.out
          case round =>
            clear HST0
            obtain ⟨T, lv, L, H1, K, hI, hS, hP, hk⟩ := hrel.out
            clear hrel
            obtain ⟨y1, y2, y3, y4, y5⟩ := HBX.out _ _ _ _ _ _ hI
            have z1 := y1.cell
            have z3 := y3.cell
            have hW := HWK.out _ _ _ _ _ _ hI
            obtain ⟨q0, q1, q2, q3, q4⟩ := hW.wb.cells
            have qf := hW.wb.thawed 4
            have ql := hW.wb.lt
            have hn1 : c1 ≠ Q := fun e => by subst e; have h1 := hW.wb; unfold WB at h1; unfold Boxed at y1; rw [y1] at h1; simp at h1
            have hn3 : c3 ≠ Q := fun e => by subst e; have h1 := hW.wb; unfold WB at h1; unfold Boxed at y3; rw [y3] at h1; simp at h1
            rcases List.eq_nil_or_concat L with rfl | ⟨L0, q, rfl⟩
            · have HA := hidden (show ∃ T lv' H' K, I T lv' [] H' K wr ∧ Sk ss s at_ Rr T T K [] H' ∧ ∀ p ∈ N, T p from ⟨T, lv, H1, K, hI, hS, fun p hp => by
                rcases hP p hp with e | e
                · exact e
                · simp at e⟩)
              have hz : ∃ ao cp, lv = .slice ao 0 cp := by
                rcases owns_form hW.left with ⟨rfl, _⟩ | ⟨gl, cp, rfl, _⟩
                · exact ⟨none, 0, rfl⟩
                · exact ⟨_, cp, rfl⟩
              obtain ⟨ao, cpz, rfl⟩ := hz
              clear hI hS hP hk y1 y2 y3 y4 y5 hW
              go_wp2_with fail
              go_end0
              exact ⟨⟨_, rfl⟩, Or.inl HA.out⟩
            · rw [List.concat_eq_append] at hI hS hP hk hW
              rcases owns_form hW.left with ⟨_, e⟩ | ⟨gl, cp, rfl, hcp⟩
              · simp at e
              · rw [List.length_append] at hcp q4 hI hW hk
                replace hcp : L0.length + 1 ≤ cp := hcp
                have z5 : wr.cell? ⟨gl, L0.length, none⟩ = some (.int .i64 q) := owns_int hW.left (by simp)
                have hLl : L0.length < 1000000 := by have := hS.cnt; simp at this; omega
                have HC := hidden hW.cut
                have HI := hidden (HST.out _ _ _ _ _ _ _ _ _ _ hI hW.cut.1 hW.cut.2)
                have HS := hidden hS.pop
                have HP := hidden hP
                have HK := hidden (show 2 * unseen at_ H1 ss.length + L0.length + 1 ≤ gk from hk)
                have hcpi : (L0.length : Int) ≤ cp := by omega
                clear hI hS hP hk y1 y2 y3 y4 hW
                replace q4 : wr.cell? ⟨Q, 4, none⟩ = some (.slice (some ⟨gl, 0, none⟩) (L0.length + 1) cp) := q4
                go_upto_region 9 with fail
                go_region
                generalize hW2 : World.drew _ = W2
                have HI2 := hidden (show I T (.slice (some ⟨gl, 0, none⟩) L0.length cp) L0 H1 K W2 by rw [← hW2]; exact HST.out _ _ _ _ _ _ _ _ _ _ HI.out (HC.out.1.later ((Below.refl _ _).drew)) (Wg.of_below ((Below.refl _ _).drew)))
                clear hW2 HI HC z5 q0 q1 q2 q3 q4 qf z1 z3
                go_upto_region 10 with fail
                obtain ⟨fn, tmps, assign, body, hy, hR⟩ := HY.out T q _ _ _ _ _ HI2.out HS.out (3 - 1)
                refine (wpIn_wide (n := 3)).1 ?_
                gi_wp2
                refine hR.mono ?_
                clear hy hR HI2
                rintro e w4 (⟨rfl, hI4⟩ | ⟨rfl, hx4⟩)
                · obtain ⟨y1, y2, y3, y4, y5⟩ := HBX.out _ _ _ _ _ _ hI4
                  have z1 := y1.cell
                  have z3 := y3.cell
                  have hqn := (HS.out.told q (Or.inr rfl)).2
                  obtain ⟨t, ht⟩ : ∃ t, ss[q]? = some t := ⟨_, List.getElem?_eq_getElem hqn⟩
                  have htw := HWF.out q t ht
                  have HI4 := hidden hI4
                  have HT := hidden ht
                  have HTW := hidden htw
                  clear y1 y2 y3 y4 hI4 ht htw
                  gi_wp2
                  go_wp2_with fail
                  refine (goOn_any B Q Sb g c ss first s.length _ L0 H1 q at_ t _ (HWK.out _ _ _ _ _ _ HI4.out) HT.out HTW.out.1 HTW.out.2.1 HTW.out.2.2 hLl y5 (by omega) hss (by omega)).mono ?_
                  rintro e w5 ⟨lv5, ⟨v5, rfl⟩, hK5, hg5⟩
                  have HI5 := hidden (HST.out _ _ _ _ _ _ _ _ _ _ HI4.out hK5 hg5)
                  have HS5 := hidden (HS.out.go HT.out (fun p e => e) (Or.inr rfl) HTW.out.2.1 HTW.out.2.2 HRR.out)
                  clear hK5 hg5
                  go_wp2_with fail
                  go_roundg (gk - 1)
                  case measure => have := HK.out; omega
                  case rel => exact ⟨_, lv5, _, _, _, HI5.out, HS5.out.1, fun p hp => by
                      rcases HP.out p hp with e | e
                      · exact Or.inl (Or.inl e)
                      · rcases List.mem_append.1 e with e | e
                        · have h9 := (HS5.out.1.seen p (HS.out.left p e).2).1
                          have h8 := (HS.out.seen p (HS.out.left p e).2).2 (Or.inr e)
                          have h7 := HS5.out.1.most p (HS.out.left p e).2
                          refine h9 ?_
                          exact goH_keep at_ s.length t H1 p h8
                        · simp at e; exact Or.inl (Or.inr e), by have := HS5.out.2; have := HK.out; omega⟩
                · have HX := hidden hx4
                  clear hx4
                  gi_wp2
                  go_wp2_with fail
                  refine bodyPost_ret (results_none rfl _ _ _) rfl ?_
                  exact ⟨⟨_, rfl⟩, Or.inr HX.out⟩

end Go.Proofs.Ytjlihidmohokhaa
