
/-
  What the program's Norm answers at any steps that lie in memory; conditions: the list's and the texts' lengths.
-/
import Derived.Test.YtcdjemheokmglabORow
namespace Go.Proofs.Ytcdjemheokmglab
open Go.RowKit Go.Proofs.Ytcdjemheokmglab.Ln Go.Proofs.Ytcdjemheokmglab.Ol

/-- two rows of one's own -/
structure NK (w : World) (A C : List Oq) (av cv : Value) (W : World) : Prop where
  bel : Below w.heap.size w W
  ao : W.ownsRow w.heap.size 30 3 av A.length (cellsO A)
  co : W.ownsRow w.heap.size 30 3 cv C.length (cellsO C)
  ne : ∀ k, av.ownBlock = some k → cv.ownBlock ≠ some k
theorem NK.later {w : World} {A C : List Oq} {av cv : Value} {W W' : World} (h : NK w A C av cv W) (hb : Below W.heap.size W W') : NK w A C av cv W' :=
  ⟨h.bel.trans (hb.mono h.bel.size), owns_later h.ao hb, owns_later h.co hb, h.ne⟩
theorem adds_below {w W W' : World} {v v' : Value} (hB : w.heap.size ≤ W.heap.size) (h : Adds W W' v v') (hv : ∀ k, v.ownBlock = some k → w.heap.size ≤ k) : Below w.heap.size W W' :=
  ⟨h.1.os, h.1.tape, h.1.output, h.1.size, fun k hk => h.1.block k (by omega) (fun e => by have := hv k e.symm; omega)⟩
/-- the first row is turned -/
theorem NK.first {w : World} {A C A' : List Oq} {av cv av' : Value} {W W' : World} (h : NK w A C av cv W) (ha : Adds W W' av av') (ho : W'.ownsRow w.heap.size 30 3 av' A'.length (cellsO A')) : NK w A' C av' cv W' := by
  refine ⟨h.bel.trans (adds_below h.bel.size ha (fun k e => (h.ao.lt k e).1)), ho, h.co.kept ha.1 ?_, ?_⟩
  · cases hc : cv.ownBlock with
    | none => exact Or.inl rfl
    | some k => exact Or.inr (fun e => h.ne k e.symm hc)
  · intro k e hc
    rcases ha.2 with e2 | ⟨k2, e2, hk2⟩
    · exact h.ne k (e2 ▸ e) hc
    · rw [e2] at e; cases e
      have := (h.co.lt _ hc).2
      omega
/-- the second row is turned -/
theorem NK.second {w : World} {A C C' : List Oq} {av cv cv' : Value} {W W' : World} (h : NK w A C av cv W) (ha : Adds W W' cv cv') (ho : W'.ownsRow w.heap.size 30 3 cv' C'.length (cellsO C')) : NK w A C' av cv' W' := by
  refine ⟨h.bel.trans (adds_below h.bel.size ha (fun k e => (h.co.lt k e).1)), h.ao.kept ha.1 ?_, ho, ?_⟩
  · cases hc : av.ownBlock with
    | none => exact Or.inl rfl
    | some k => exact Or.inr (fun e => h.ne k hc e.symm)
  · intro k e hc
    rcases ha.2 with e2 | ⟨k2, e2, hk2⟩
    · exact h.ne k e (e2 ▸ hc)
    · rw [e2] at hc; cases hc
      have := (h.ao.lt _ e).2
      omega
/-- a step's own variable beside two rows -/
structure KN (w : World) (A C : List Oq) (av cv : Value) (p : Nat) (x1 x2 : Int) (x3 : Tx) (W : World) : Prop where
  nk : NK w A C av cv W
  lt : p < W.heap.size
  c1 : W.cell? ⟨p, 0, none⟩ = some (.int .i64 x1)
  c2 : W.cell? ⟨p, 1, none⟩ = some (.int .i64 x2)
  c3 : W.cell? ⟨p, 2, none⟩ = some (.string ⟨x3.toArray⟩)
  na : some p ≠ av.ownBlock
  nc : some p ≠ cv.ownBlock
theorem KN.later {w : World} {A C : List Oq} {av cv : Value} {p : Nat} {x1 x2 : Int} {x3 : Tx} {W W' : World} (h : KN w A C av cv p x1 x2 x3 W) (hb : Below W.heap.size W W') : KN w A C av cv p x1 x2 x3 W' :=
  ⟨h.nk.later hb, Nat.lt_of_lt_of_le h.lt hb.size, (hb.cell (p := ⟨p, 0, none⟩) h.lt).trans h.c1, (hb.cell (p := ⟨p, 1, none⟩) h.lt).trans h.c2, (hb.cell (p := ⟨p, 2, none⟩) h.lt).trans h.c3, h.na, h.nc⟩
theorem KN.drew {w : World} {A C : List Oq} {av cv : Value} {p : Nat} {x1 x2 : Int} {x3 : Tx} {W : World} (h : KN w A C av cv p x1 x2 x3 W) : KN w A C av cv p x1 x2 x3 W.drew := h.later (Below.refl _ W).drew
theorem KN.alloc {w : World} {A C : List Oq} {av cv : Value} {p : Nat} {x1 x2 : Int} {x3 : Tx} {W : World} (h : KN w A C av cv p x1 x2 x3 W) (o : Obj) : KN w A C av cv p x1 x2 x3 (W.alloc o) := h.later ((Below.refl _ W).alloc (Nat.le_refl _) o)
theorem KN.first {w : World} {A C A' : List Oq} {av cv av' : Value} {p : Nat} {x1 x2 : Int} {x3 : Tx} {W W' : World} (h : KN w A C av cv p x1 x2 x3 W) (ha : Adds W W' av av') (ho : W'.ownsRow w.heap.size 30 3 av' A'.length (cellsO A')) : KN w A' C av' cv p x1 x2 x3 W' := by
  refine ⟨h.nk.first ha ho, Nat.lt_of_lt_of_le h.lt ha.1.size, (ha.1.cell_far ⟨p, 0, none⟩ h.lt h.na).trans h.c1, (ha.1.cell_far ⟨p, 1, none⟩ h.lt h.na).trans h.c2, (ha.1.cell_far ⟨p, 2, none⟩ h.lt h.na).trans h.c3, fun e => ?_, h.nc⟩
  rcases ha.2 with e2 | ⟨k2, e2, hk2⟩
  · exact h.na (e.trans e2)
  · rw [e2] at e; cases e
    have := h.lt
    omega
/-- the second row is cut to nothing -/
theorem NK.cut {w : World} {A C : List Oq} {av : Value} {g n cap : Nat} {W : World} (h : NK w A C av (.slice (some ⟨g, 0, none⟩) n cap) W) (hn : n = C.length) : NK w A [] av (.slice (some ⟨g, 0, none⟩) 0 cap) W := by
  subst hn
  exact ⟨h.bel, h.ao, owns_zero h.co, fun k e => h.ne k e⟩
theorem nfo_len (l : List Oq) : (nfo l).1.length + (nfo l).2.length ≤ l.length := by
  refine snoc_ind (P := fun l => (nfo l).1.length + (nfo l).2.length ≤ l.length) (Nat.le_refl _) ?_ l
  intro l x ih
  rw [nfo_snoc, List.length_append]
  unfold nst
  split
  · simp only [List.length_append, List.length_cons, List.length_nil]; omega
  · split
    · simp only [List.length_append, List.length_cons, List.length_nil]; omega
    · rcases stay_cases ((nfo l).1 ++ (nfo l).2) x with ⟨e, _⟩ | ⟨o, y, e1, _, _, e⟩
      · simp only [e, List.length_append, List.length_cons, List.length_nil]; omega
      · have := congrArg List.length e1
        simp only [e, List.length_append, List.length_cons, List.length_nil] at this ⊢; omega
theorem nfo_take {xs : List Oq} {k : Nat} {x : Oq} (h : xs[k]? = some x) : nfo (xs.take (k + 1)) = nst (nfo (xs.take k)) x := by
  rw [take_snoc h, nfo_snoc]
/-- what steps in order are -/
def normL (xs : List Oq) : List Oq := if right xs = true then nrm xs else []
/-- a Skip behind a Skip fits -/
theorem fits_at {B : Int} {xs : List Oq} {k : Nat} {x : Oq} (hal : ∀ y ∈ xs, al0 y) (ht : tot 3 xs ≤ B) (h : xs[k]? = some x) : x.1 = 1 → ∀ y, ((nfo (xs.take k)).1 ++ (nfo (xs.take k)).2).getLast? = some y → y.1 = 1 → 0 ≤ y.2.1 ∧ 0 ≤ x.2.1 ∧ y.2.1 + x.2.1 ≤ B := by
  intro h1 y hy h2
  obtain ⟨o, ho⟩ := List.getLast?_eq_some_iff.1 hy
  have := merge_fits hal ht (cut_at h) h1 ho h2
  omega

set_option maxRecDepth 3000 in
set_option maxHeartbeats 16000000 in
theorem onorm_any (v : Value) (xs : List Oq) (w : World) (hr : OpsAt w v xs) (hl : xs.length ≤ 4398046511104) (hf : Fit xs) :
    Calls Try.prog 18 #[v] w fun e w' => ∃ v', e = .returned v' ∧ OpsAt w' v' (normL xs) ∧ Below w.heap.size w w' := by
  have HR := hidden hr
  have HF := hidden hf
  cases hrt : right xs with
  | false =>
    have HN := hidden (show normL xs = [] by simp [normL, hrt])
    have HRT := hidden hrt
    obtain ⟨ao, cap, rfl⟩ := hr.shape
    clear hr hf hrt
    go_enter Try.func18, Try.ntmps18
    go_wp2_with fail
    refine (oright_any _ xs w HR.out (by omega) HF.out).mono ?_
    rw [HRT.out]
    rintro e w2 ⟨rfl, hb2⟩
    have HB2 := hidden hb2
    clear hb2
    go_wp2_with fail
    go_ret
    exact ⟨_, rfl, by rw [HN.out]; exact OpsAt.nil _ _ _, HB2.out⟩
  | true =>
    have HN := hidden (show normL xs = nrm xs by simp [normL, hrt])
    have HRT := hidden hrt
    have HFI := hidden (fun (k : Nat) (x : Oq) => fits_at (k := k) (x := x) (right_al0 hrt) (right_parts hrt).2.2.2.1)
    by_cases hne : xs = []
    · subst hne
      obtain ⟨ao, cap, rfl⟩ := hr.shape
      clear hr hf hrt
      go_enter Try.func18, Try.ntmps18
      go_wp2_with fail
      refine (oright_any _ [] w HR.out (by omega) HF.out).mono ?_
      rw [HRT.out]
      rintro e w2 ⟨rfl, hb2⟩
      have HB2 := hidden hb2
      clear hb2
      go_wp2_with fail
      refine wp_loop_rounds 1 ?_
      rw [rounds_succ]
      go_wp2_with fail
      go_ret
      exact ⟨_, rfl, by rw [HN.out]; exact OpsAt.nil _ _ _, HB2.out⟩
    · obtain ⟨b, o, cap, rfl, hcap, hb, hc⟩ := hr.cells hne
      have HC := hidden hc
      clear hr hf hrt hc hne
      go_enter Try.func18, Try.ntmps18
      go_wp2_with fail
      refine (oright_any _ xs w HR.out (by omega) HF.out).mono ?_
      rw [HRT.out]
      rintro e w2 ⟨rfl, hb2⟩
      have HB2 := hidden hb2
      clear hb2
      go_wp2_with fail
      go_loopw [3, 4, 12] (fun a c i wr => ∃ k : Nat, k ≤ xs.length ∧ i = .int .i64 k ∧ Hid (NK w (nfo (xs.take k)).1 (nfo (xs.take k)).2 a c wr)) (fun _ _ i _ => xs.length - (intOf i).toNat)
      case atStart => exact ⟨0, Nat.zero_le _, rfl, ⟨HB2.out, ⟨rfl, Or.inl ⟨rfl, rfl⟩⟩, ⟨rfl, Or.inl ⟨rfl, rfl⟩⟩, fun k e => by cases e⟩⟩
      case round =>
        obtain ⟨k, hk, rfl, hNK⟩ := hrel
        have HLN := hidden (show (nfo (xs.take k)).1.length + (nfo (xs.take k)).2.length ≤ k by
          have := nfo_len (xs.take k); rw [List.length_take] at this; omega)
        by_cases hlt : k < xs.length
        · obtain ⟨x1, x2, x3, hx⟩ := op_some hlt
          obtain ⟨c1, c2, c3⟩ := three_later hb hNK.out.bel (HC.out k _ hx)
          simp only at c1 c2 c3
          have HX := hidden hx
          have HF3 := hidden (show x3.length ≤ 140737488355328 from HF.out _ (List.mem_of_getElem? hx))
          have HNX := hidden (nfo_take hx)
          have HFT := hidden (HFI.out k _ hx)
          have hbr := Nat.lt_of_lt_of_le hb hNK.out.bel.size
          clear hx
          go_wp2_with fail
          refine (clone_any x3 _ (by have := HF3.out; omega)).mono ?_
          rintro e w3 ⟨rfl, hb3⟩
          have hb3' : Below wr.heap.size wr w3 := ((Below.refl _ wr).alloc (Nat.le_refl _) _).trans (hb3.mono (by simp))
          have hp3 : wr.heap.size < w3.heap.size := by have := hb3.size; simp at this; omega
          have e1 : w3.cell? ⟨wr.heap.size, 0, none⟩ = some (.int .i64 x1) := (hb3.cell (p := ⟨wr.heap.size, 0, none⟩) (by simp)).trans (by simp)
          have e2 : w3.cell? ⟨wr.heap.size, 1, none⟩ = some (.int .i64 x2) := (hb3.cell (p := ⟨wr.heap.size, 1, none⟩) (by simp)).trans (by simp)
          have e3 : w3.cell? ⟨wr.heap.size, 2, none⟩ = some (.string ⟨x3.toArray⟩) := (hb3.cell (p := ⟨wr.heap.size, 2, none⟩) (by simp)).trans (by simp)
          have e4 : w3.frozen? ⟨wr.heap.size, 2, none⟩ = false := (hb3.frozen (p := ⟨wr.heap.size, 2, none⟩) (by simp)).trans (by simp)
          have HKN := hidden (show KN w (nfo (xs.take k)).1 (nfo (xs.take k)).2 u3 u4 wr.heap.size x1 x2 x3 (w3.setCell ⟨wr.heap.size, 2, none⟩ (.string ⟨x3.toArray⟩)) from
            ⟨hNK.out.later (hb3'.setCell (p := ⟨wr.heap.size, 2, none⟩) (Nat.le_refl _) _), by simpa using hp3, (World.cell?_setCell_other _ _ _ _ (by simp)).trans e1, (World.cell?_setCell_other _ _ _ _ (by simp)).trans e2, World.cell?_setCell_same' _ _ _ (by rw [e3]; rfl),
              fun e => by have := (hNK.out.ao.lt _ e.symm).2; omega, fun e => by have := (hNK.out.co.lt _ e.symm).2; omega⟩)
          clear hb3 hb3' c1 c2 c3
          go_upto_region 8 with fail
          generalize hW4 : World.setCell _ _ _ = W4 at HKN ⊢
          have d1 := HKN.out.c1
          have d2 := HKN.out.c2
          have d3 := HKN.out.c3
          have dl := HKN.out.lt
          have hWB := HKN.out.nk.bel.size
          clear hW4 e1 e2 e3 e4
          have hk2 := HLN.out
          by_cases h3 : x1 = 3
          · subst h3
            have HN3 := hidden (show nfo (xs.take (k + 1)) = ((nfo (xs.take k)).1 ++ [(3, x2, x3)], (nfo (xs.take k)).2) by rw [HNX.out]; simp [nst])
            clear hNK
            go_wp2_with (at_builtin; go_must (refine wpList_append_ops _ (by go_simp) (.tmp 31) (.tmp 33) rfl w.heap.size _ (.slice (some ⟨W4.heap.size, 0, none⟩) 1 1) (nfo (xs.take k)).1 [(3, x2, x3)] rfl rfl (HKN.out.nk.ao.alloc _) (ops_oneAt _ _ _ _ _ (by simp)) (by simp; omega) (by simp; omega) ?_; intro v9 w9 hown9 hadd9))
            have HNK := hidden ((HKN.out.alloc (opO 3 x2 x3)).nk.first hadd9 hown9)
            clear hown9 hadd9
            go_roundw
            case rel => exact ⟨k + 1, by omega, by go_num, by rw [HN3.out]; exact HNK.out⟩
            case measure => simp [intOf]; omega
          · have h3b : (x1 == 3) = false := by simpa using h3
            by_cases h4 : x1 = 4
            · subst h4
              have HN4 := hidden (show nfo (xs.take (k + 1)) = ((nfo (xs.take k)).1, (nfo (xs.take k)).2 ++ [(4, x2, x3)]) by rw [HNX.out]; simp [nst])
              clear hNK h3 h3b
              go_wp2_with (at_builtin; go_must (refine wpList_append_ops _ (by go_simp) (.tmp 37) (.tmp 39) rfl w.heap.size _ (.slice (some ⟨W4.heap.size, 0, none⟩) 1 1) (nfo (xs.take k)).2 [(4, x2, x3)] rfl rfl (HKN.out.nk.co.alloc _) (ops_oneAt _ _ _ _ _ (by simp)) (by simp; omega) (by simp; omega) ?_; intro v9 w9 hown9 hadd9))
              have HNK := hidden ((HKN.out.alloc (opO 4 x2 x3)).nk.second hadd9 hown9)
              clear hown9 hadd9
              go_roundw
              case rel => exact ⟨k + 1, by omega, by go_num, by rw [HN4.out]; exact HNK.out⟩
              case measure => simp [intOf]; omega
            · have h4b : (x1 == 4) = false := by simpa using h4
              have HN5 := hidden (show nfo (xs.take (k + 1)) = (stay ((nfo (xs.take k)).1 ++ (nfo (xs.take k)).2) (x1, x2, x3), []) by rw [HNX.out]; simp [nst, h3, h4])
              have hform := owns_form hNK.out.co
              clear hNK
              generalize (nfo (xs.take k)).1 = A at *
              generalize (nfo (xs.take k)).2 = C at *
              rcases hform with ⟨rfl, rfl⟩ | ⟨g, cp, rfl, hcp, hgB, hgl⟩
              · have hKN := HKN.out
                go_upto_region 9 with fail
                go_region_held3 (fun X => X.cell? ⟨wr.heap.size, 0, none⟩ = some (.int .i64 x1) ∧ X.cell? ⟨wr.heap.size, 1, none⟩ = some (.int .i64 x2) ∧ X.cell? ⟨wr.heap.size, 2, none⟩ = some (.string ⟨x3.toArray⟩))
                  (first | exact ⟨KN.c1 (by assumption), KN.c2 (by assumption), KN.c3 (by assumption)⟩ | exact ⟨KN.c1 (KN.drew (by assumption)), KN.c2 (KN.drew (by assumption)), KN.c3 (KN.drew (by assumption))⟩ | assumption)
                  (first
                    | (go_at_call 29; with_reducible refine (addStay_any w.heap.size _ _ _ _ _ _ ?_ hown9 ?_ ?_).mono ?_; (· exact hKN9.nk.bel.size); (· simp; try omega); (· exact HFT.out); rintro e w10 ⟨v10, rfl, hown10, hadd10⟩; have hKN10 := KN.first (by first | exact hKN9 | exact hKN9.drew) hadd10 hown10)
                    | (refine step_append_ops _ (by go_simp) (.tmp 22) (.tmp 23) rfl w.heap.size _ _ A [] rfl rfl (KN.nk (p := wr.heap.size) (x1 := x1) (x2 := x2) (x3 := x3) (by first | exact hKN | exact hKN.drew)).ao (OpsAt.nil _ _ _) (by simp; omega) (by simp; omega) ?_; intro v9 w9 hown9 hadd9; have hKN9 := KN.first (by first | exact hKN | exact hKN.drew) hadd9 hown9))
                have HK10 := hidden hKN10.nk
                clear hKN10 hown10 hadd10 hKN9 hown9 hadd9 hKN
                go_wp2_with fail
                go_roundw
                case rel => exact ⟨k + 1, by omega, by go_num, by rw [HN5.out]; exact HK10.out⟩
                case measure => simp [intOf]; omega
              · have hKN := HKN.out
                go_upto_region 9 with fail
                go_region_held3 (fun X => X.cell? ⟨wr.heap.size, 0, none⟩ = some (.int .i64 x1) ∧ X.cell? ⟨wr.heap.size, 1, none⟩ = some (.int .i64 x2) ∧ X.cell? ⟨wr.heap.size, 2, none⟩ = some (.string ⟨x3.toArray⟩))
                  (first | exact ⟨KN.c1 (by assumption), KN.c2 (by assumption), KN.c3 (by assumption)⟩ | exact ⟨KN.c1 (KN.drew (by assumption)), KN.c2 (KN.drew (by assumption)), KN.c3 (KN.drew (by assumption))⟩ | assumption)
                  (first
                    | (go_at_call 29; with_reducible refine (addStay_any w.heap.size _ _ _ _ _ _ ?_ hown9 ?_ ?_).mono ?_; (· exact hKN9.nk.bel.size); (· simp; try omega); (· exact HFT.out); rintro e w10 ⟨v10, rfl, hown10, hadd10⟩; have hKN10 := KN.first (by first | exact hKN9 | exact hKN9.drew) hadd10 hown10)
                    | (refine step_append_ops _ (by go_simp) (.tmp 22) (.tmp 23) rfl w.heap.size _ _ A C rfl rfl (KN.nk (p := wr.heap.size) (x1 := x1) (x2 := x2) (x3 := x3) (by first | exact hKN | exact hKN.drew)).ao (OpsAt.of_owns (KN.nk (p := wr.heap.size) (x1 := x1) (x2 := x2) (x3 := x3) (by first | exact hKN | exact hKN.drew)).co) (by omega) (by first | omega | (simp; omega)) ?_; intro v9 w9 hown9 hadd9; have hKN9 := KN.first (by first | exact hKN | exact hKN.drew) hadd9 hown9))
                have HK10 := hidden (hKN10.nk.cut rfl)
                clear hKN10 hown10 hadd10 hKN9 hown9 hadd9 hKN
                go_wp2_with fail
                go_roundw
                case rel => exact ⟨k + 1, by omega, by go_num, by rw [HN5.out]; exact HK10.out⟩
                case measure => simp [intOf]; omega
        · have hke : xs.take k = xs := List.take_of_length_le (by omega)
          have hk2 := HLN.out
          rw [hke] at hNK hk2
          have hws := hNK.out.bel.size
          go_wp2_with (at_builtin; go_must (refine wpList_append_ops _ (by go_simp) (.tmp 42) (.tmp 43) rfl w.heap.size _ _ (nfo xs).1 (nfo xs).2 rfl rfl hNK.out.ao (OpsAt.of_owns hNK.out.co) (by omega) hws ?_; intro v9 w9 hown9 hadd9))
          go_ret
          exact ⟨_, rfl, by rw [HN.out]; exact OpsAt.of_owns hown9, (hNK.out.first hadd9 hown9).bel⟩

end Go.Proofs.Ytcdjemheokmglab
