
/-
  What the program's add turns: all the bits, by one line more of the other row; conditions: where the table and the marks lie, how many words there are.
-/
import Derived.Test.YtdjdiaadflggfaaBPass
namespace Go.Proofs.Ytdjdiaadflggfaa
open Go.RowKit Go.Proofs.Ytdjdiaadflggfaa.Ln Go.Proofs.Ytdjdiaadflggfaa.Ol

/-- marks lie in memory: the words that have some, and the words themselves -/
def MkAt (W : World) (v : Value) (ws : List Nat) (g : Bs) : Prop :=
  (ws = [] ∧ ∃ ao cap, v = .slice ao 0 cap ∧ (ao = none → cap = 0)) ∨ ∃ b o cap cur fr, v = .slice (some ⟨b, o, none⟩) ws.length cap ∧ ws.length ≤ cap ∧ W.heap[b]? = some (.cells cur 71 fr) ∧ ∀ (i : Nat) x, ws[i]? = some x → W.cell? ⟨b, o + i * 2, none⟩ = some (Z x) ∧ W.cell? ⟨b, o + i * 2 + 1, none⟩ = some (U (Gl.word g x))
theorem MkAt.shape {W : World} {v : Value} {ws : List Nat} {g : Bs} (h : MkAt W v ws g) : ∃ ao cap, v = .slice ao ws.length cap := by
  rcases h with ⟨rfl, ao, cap, rfl, _⟩ | ⟨b, o, cap, _, _, rfl, _⟩
  · exact ⟨ao, cap, rfl⟩
  · exact ⟨_, cap, rfl⟩
theorem MkAt.block {W W' : World} {v : Value} {ws : List Nat} {g : Bs} (h : MkAt W v ws g) (hb : ∀ (b : Nat) cur fr, W.heap[b]? = some (Obj.cells cur 71 fr) → W'.heap[b]? = W.heap[b]?) : MkAt W' v ws g := by
  rcases h with h | ⟨b, o, cap, cur, fr, e, h1, h2, h3⟩
  · exact Or.inl h
  · have hb2 := hb b cur fr h2
    refine Or.inr ⟨b, o, cap, cur, fr, e, h1, hb2.trans h2, fun i x hx => ?_⟩
    rw [World.cell?_of_block (a := ⟨b, o + i * 2, none⟩) hb2, World.cell?_of_block (a := ⟨b, o + i * 2 + 1, none⟩) hb2]
    exact h3 i x hx
theorem MkAt.later {W W' : World} {v : Value} {ws : List Nat} {g : Bs} (h : MkAt W v ws g) (hb : Below W.heap.size W W') : MkAt W' v ws g :=
  MkAt.block h fun b _ _ hh => hb.block b (Array.getElem?_eq_some_iff.1 hh).1
theorem MkAt.kpt {W W' : World} {v : Value} {ws : List Nat} {g : Bs} {B T : Nat} {c0 c1 c2 c3 c4 c5 c6 c7 c8 : Value} (h : MkAt W v ws g) (hc : TbC W T c0 c1 c2 c3 c4 c5 c6 c7 c8) (hk : KpT B T W W') : MkAt W' v ws g :=
  MkAt.block h fun b cur fr hh => hk.block b (Array.getElem?_eq_some_iff.1 hh).1 (fun e => by
    subst e
    rw [show W.heap[b]? = _ from hc] at hh
    cases hh) (Or.inr fun c t f h2 => by rw [hh] at h2; cases h2; decide)
/-- so far the marks are added -/
structure Ad (B T : Nat) (ah wd mo : Int) (v0 v1 : Value) (at_ : Nat) (vS : Value) (V H : Bs) (N Nb : Nat) (L : List Tn) (S : List Sp) (w : World) (nx N' : Nat) (wr : World) : Prop where
  kp : KpT B T w wr
  tb : ∃ vI' vT' X, Tb B T ah wd mo v0 v1 at_ vI' vT' vS (mix V H nx) N' (L ++ X) S wr ∧ N ≤ N' ∧ N' ≤ Nb ∧ nx ≤ N' ∧ X.length ≤ nx ∧ (∀ e ∈ X, e.1 = at_ ∧ e.2.1 < N') ∧ undo X (mix V H nx) = V
section
variable {B T : Nat} {ah wd mo : Int} {v0 v1 : Value} {at_ : Nat} {vS : Value} {V H : Bs} {N Nb : Nat} {L : List Tn} {S : List Sp} {w : World}
theorem Ad.pass {a k : Nat} (hak : a ≤ k) {wr w' : World} (hkp : KpT B T w wr) {vI' : Value} {N' : Nat} {X : List Tn} (hl : X.length ≤ a) (hx : ∀ e ∈ X, e.1 = at_ ∧ e.2.1 < N') (hu : undo X (mix V H a) = V) (h1 : N ≤ N') (h2 : N' ≤ Nb) (h3 : k ≤ N') (h : Ps B T ah wd mo v0 v1 at_ vI' vS V H N' (L ++ X) S wr a k w') : Ad B T ah wd mo v0 v1 at_ vS V H N Nb L S w k N' w' := by
  obtain ⟨kp, vT', Y, b1, b2, b3, b4⟩ := h
  rw [List.append_assoc] at b1
  refine ⟨hkp.trans kp, vI', vT', X ++ Y, b1, h1, h2, h3, by rw [List.length_append]; omega, fun e he => ?_, by rw [undo_app, b4, hu]⟩
  rcases List.mem_append.1 he with he | he
  · exact hx e he
  · exact b3 e he
theorem Ad.more {k : Nat} {wr w' : World} (hkp : KpT B T w wr) {vI' vT' : Value} {N' : Nat} {X Y : List Tn} (hl : X.length ≤ k) (hx : ∀ e ∈ X, e.1 = at_ ∧ e.2.1 < N') (hu : undo X (mix V H k) = V) (h1 : N ≤ N') (h2 : N' ≤ Nb) (h3 : k < N') (kp : KpT B T wr w') (b1 : Tb B T ah wd mo v0 v1 at_ vI' vT' vS (mix V H (k + 1)) N' ((L ++ X) ++ Y) S w') (b2 : Y.length ≤ 1) (b3 : ∀ e ∈ Y, e.1 = at_ ∧ e.2.1 < N') (b4 : undo Y (mix V H (k + 1)) = mix V H k) : Ad B T ah wd mo v0 v1 at_ vS V H N Nb L S w (k + 1) N' w' := by
  rw [List.append_assoc] at b1
  refine ⟨hkp.trans kp, vI', vT', X ++ Y, b1, h1, h2, by omega, by rw [List.length_append]; omega, fun e he => ?_, by rw [undo_app, b4, hu]⟩
  rcases List.mem_append.1 he with he | he
  · exact hx e he
  · exact b3 e he
theorem Ad.later {k N' : Nat} {wr w' : World} (h : Ad B T ah wd mo v0 v1 at_ vS V H N Nb L S w k N' wr) (hb : Below wr.heap.size wr w') : Ad B T ah wd mo v0 v1 at_ vS V H N Nb L S w k N' w' := by
  obtain ⟨kp, vI', vT', X, b1, b2⟩ := h
  exact ⟨kp.trans (KpT.of_below hb), vI', vT', X, b1.later hb, b2⟩
/-- one word more, of bits that are all set -/
theorem Ad.grow {k : Nat} {wr w9 : World} (hkp : KpT B T w wr) {vI' vT' : Value} {N' : Nat} {X : List Tn} {g9 c9 : Nat} (b1 : Tb B T ah wd mo v0 v1 at_ vI' vT' vS (mix V H k) N' (L ++ X) S wr) (hx : X.length ≤ k) (hx2 : ∀ e ∈ X, e.1 = at_ ∧ e.2.1 < N') (hu : undo X (mix V H k) = V) (h1 : N ≤ N') (h2 : N' < Nb) (h3 : k ≤ N')
    (ho : w9.ownsRow B 52 1 (.slice (some ⟨g9, 0, none⟩) (N' + 1) c9) (N' + 1) (wcells (mix V H k) N' ++ [.int .u64 18446744073709551615])) (hg : wr.grownBy w9 vI'.ownBlock) (hl : some g9 = vI'.ownBlock ∨ g9 = wr.heap.size) :
    Ad B T ah wd mo v0 v1 at_ vS V H N Nb L S w k (N' + 1) (w9.setCell ⟨T, 5, none⟩ (.slice (some ⟨g9, 0, none⟩) (N' + 1) c9)) := by
  have e : wcells (mix V H k) N' ++ [.int .u64 18446744073709551615] = wcells (mix V H k) (N' + 1) := by rw [wcells_succ, word_full (fun p hp => b1.top p (by omega))]; rfl
  rw [e] at ho
  have hc := b1.c.grown b1.ids (by decide) hg
  have hr := (b1.rw_.grow ho hg (by rcases hl with hl | hl; exact Or.inl hl; exact Or.inr (by rw [← hl]; rfl))).setT hc 5 (.slice (some ⟨g9, 0, none⟩) (N' + 1) c9)
  exact ⟨(hkp.trans (kpt_row b1.ids (Or.inl rfl) hg)).setT 5 _, _, vT', X, hr.tb (hc.set5 _) b1.lo, by omega, by omega, by omega, hx, fun e he => ⟨(hx2 e he).1, by have := (hx2 e he).2; omega⟩, hu⟩
end
theorem sorted_next {ws : List Nat} {i x : Nat} (hs : ws.Pairwise (· < ·)) (hx : ws[i]? = some x) : ∀ y ∈ ws.drop (i + 1), x + 1 ≤ y := by
  have e := cut_at hx
  intro y hy
  rw [e] at hs
  exact (List.pairwise_cons.1 (List.pairwise_append.1 hs).2.1).1 y hy

theorem sorted_len {Nb : Nat} (ws : List Nat) : ∀ lo, ws.Pairwise (· < ·) → (∀ x ∈ ws, lo ≤ x ∧ x < Nb) → ws.length ≤ Nb - lo := by
  induction ws with
  | nil => intro lo _ _; simp
  | cons x ws ih =>
    intro lo hs hw
    obtain ⟨h1, h2⟩ := List.pairwise_cons.1 hs
    have := ih (x + 1) h2 (fun y hy => ⟨h1 y hy, (hw y (by simp [hy])).2⟩)
    have := hw x (by simp)
    rw [List.length_cons]; omega
/-- one mark in a block of its own -/
def Mk1 (W : World) (b x m : Nat) : Prop := W.heap[b]? = some (.cells #[Z x, U m] 71 (0, 0))
theorem Mk1.cells {W : World} {b x m : Nat} (h : Mk1 W b x m) : W.cell? ⟨b, 0, none⟩ = some (.int .i64 x) ∧ W.cell? ⟨b, 1, none⟩ = some (.int .u64 m) := by
  unfold World.cell?; rw [show W.heap[b]? = _ from h]; exact ⟨rfl, rfl⟩
theorem Mk1.kpt {W W' : World} {b x m B T : Nat} {c0 c1 c2 c3 c4 c5 c6 c7 c8 : Value} (h : Mk1 W b x m) (hc : TbC W T c0 c1 c2 c3 c4 c5 c6 c7 c8) (hk : KpT B T W W') : Mk1 W' b x m :=
  (hk.block b (Array.getElem?_eq_some_iff.1 h).1 (fun e => by
    subst e
    have hc2 : W.heap[b]? = _ := hc
    rw [show W.heap[b]? = _ from h] at hc2
    cases hc2) (Or.inr fun c t f h2 => by rw [show W.heap[b]? = _ from h] at h2; cases h2; decide)).trans h
theorem MkAt.open_ {W : World} {a : Option Addr} {n c : Nat} {ws : List Nat} {g : Bs} (h : MkAt W (.slice a n c) ws g) (hn : ws.length = n) {k x : Nat} (hx : ws[k]? = some x) : ∃ b o, a = some ⟨b, o, none⟩ ∧ n ≤ c ∧ b < W.heap.size ∧ W.cell? ⟨b, o + k * 2, none⟩ = some (.int .i64 x) ∧ W.cell? ⟨b, o + k * 2 + 1, none⟩ = some (.int .u64 (Gl.word g x)) := by
  rcases h with ⟨rfl, _⟩ | ⟨b, o, cap, cur, fr, e, h1, h2, h3⟩
  · simp at hx
  · subst hn
    cases e
    exact ⟨b, o, rfl, h1, (Array.getElem?_eq_some_iff.1 h2).1, h3 k x hx⟩
theorem mix_end {V g H cr : Bs} (hR : Rp V g H cr) {q N : Nat} (hq : q ≤ N) (ht : ∀ p, 64 * N ≤ p → mix V H q p = true) (hg : ∀ p, 64 * q ≤ p → g p = false) : mix V H N = H := by
  funext p
  unfold mix
  by_cases hp : p < 64 * N
  · rw [if_pos hp]
  · rw [if_neg hp, (hR.2 p).2, hg p (by omega)]
    have h := ht p (by omega)
    unfold mix at h
    rw [if_neg (by omega)] at h
    rw [h]; simp

set_option maxHeartbeats 4000000 in
theorem badd_any {B T : Nat} {ah wd mo : Int} {v0 v1 : Value} {at_ : Nat} {vI vT vS vM : Value} {V g g2 H cr : Bs} {N Nb : Nat} {L : List Tn} {S : List Sp} {w : World} (hR : Rp V g H cr) (ws : List Nat) (hM : MkAt w vM ws g2) (hs : ws.Pairwise (· < ·)) (hw : ∀ x ∈ ws, x < Nb) (hin : ∀ x ∈ ws, ∀ p, p / 64 = x → g2 p = g p) (hall : ∀ p, g p = true → p / 64 ∈ ws)
    (h : Tb B T ah wd mo v0 v1 at_ vI vT vS V N L S w) (hN : N ≤ Nb) (hNb : Nb ≤ 4194304) (hL : L.length ≤ 33554432) :
    Calls Try.prog 32 #[.pointer (some ⟨T, 0, none⟩), vM] w fun e w' => (∃ v, e = .returned v) ∧ KpT B T w w' ∧ ∃ vI' vT' N' X, Tb B T ah wd mo v0 v1 at_ vI' vT' vS H N' (L ++ X) S w' ∧ N ≤ N' ∧ N' ≤ Nb ∧ X.length ≤ N' ∧ (∀ e ∈ X, e.1 = at_ ∧ e.2.1 < N') ∧ undo X H = V := by
  have HR := hidden hR
  have HM := hidden hM
  have HSO := hidden hs
  have HW := hidden hw
  have HIN := hidden hin
  have HALL := hidden hall
  have HL := hidden hL
  have HS := hidden (show Ad B T ah wd mo v0 v1 at_ vS V H N Nb L S w 0 N w from ⟨KpT.refl, vI, vT, [], by rw [List.append_nil, mix_zero]; exact h, Nat.le_refl _, hN, Nat.zero_le _, by simp, by simp, by rw [mix_zero]; rfl⟩)
  have HT := hidden h.c
  have HBs := hidden (show B ≤ w.heap.size by have := h.lt; have := h.lo; omega)
  obtain ⟨n, hn⟩ : ∃ n, ws.length = n := ⟨_, rfl⟩
  obtain ⟨am, cm, rfl⟩ := hM.shape
  rw [hn] at HM
  have hnb : n ≤ 4194304 := by have := sorted_len (Nb := Nb) ws 0 hs (fun x hx => ⟨Nat.zero_le _, hw x hx⟩); omega
  have HNn := hidden hn
  rw [hn]
  clear hR hM hs hw hin hall hL h hn
  go_enter Try.func32, Try.ntmps32
  go_wp2_with fail
  go_loopw [4, 5, 10] (fun nx c i wr => ∃ k q : Nat, k ≤ n ∧ q ≤ Nb ∧ i = .int .i64 k ∧ nx = .int .i64 q ∧ c = .int .u64 (cr (64 * q)).toNat ∧ Hid ((∃ N', Ad B T ah wd mo v0 v1 at_ vS V H N Nb L S w q N' wr) ∧ (∀ x ∈ ws.drop k, q ≤ x) ∧ ∀ p, 64 * q ≤ p → g p = true → p / 64 ∈ ws.drop k)) (fun _ _ i _ => n - (intOf i).toNat)
  case atStart => exact ⟨0, 0, Nat.zero_le _, Nat.zero_le _, rfl, rfl, by rw [Nat.mul_zero, HR.out.1]; rfl, ⟨N, HS.out⟩, fun x _ => Nat.zero_le _, fun p _ hp => HALL.out p hp⟩
  case round =>
    obtain ⟨k, q, hk, hq, rfl, rfl, rfl, hst⟩ := hrel
    clear HS
    by_cases hlt : k < n
    · obtain ⟨x, hx⟩ : ∃ x, ws[k]? = some x := ⟨ws[k]'(by rw [HNn.out]; exact hlt), List.getElem?_eq_getElem _⟩
      have hmem : x ∈ ws := List.mem_of_getElem? hx
      have hdrop : ws.drop k = x :: ws.drop (k + 1) := by
        obtain ⟨h1, h2⟩ := List.getElem?_eq_some_iff.1 hx
        rw [List.drop_eq_getElem_cons h1, h2]
      obtain ⟨⟨N0, s1⟩, s2, s3⟩ := hst.out
      have hqx : q ≤ x := s2 x (by rw [hdrop]; simp)
      have hxb : x < Nb := HW.out x hmem
      have HGZ := hidden (show ∀ p, 64 * q ≤ p → p < 64 * x → g p = false from fun p h1 h2 => by
        cases hgp : g p with
        | false => rfl
        | true =>
          have hm := s3 p h1 hgp
          rw [hdrop] at hm
          rcases List.mem_cons.1 hm with hm | hm
          · omega
          · have := sorted_next HSO.out hx _ hm
            omega)
      have HNX := hidden (show (∀ y ∈ ws.drop (k + 1), x + 1 ≤ y) ∧ ∀ p, 64 * (x + 1) ≤ p → g p = true → p / 64 ∈ ws.drop (k + 1) from ⟨sorted_next HSO.out hx, fun p h1 h2 => by
        have hm := s3 p (by omega) h2
        rw [hdrop] at hm
        rcases List.mem_cons.1 hm with hm | hm
        · omega
        · exact hm⟩)
      obtain ⟨b, o, rfl, hnc, hb, m1, m2⟩ := (HM.out.kpt HT.out s1.kp).open_ HNn.out hx
      obtain ⟨m, hm⟩ : ∃ m, Gl.word g2 x = m := ⟨_, rfl⟩
      rw [hm] at m2
      have HMG := hidden (show Gl.word g x = m by rw [← hm]; exact word_congr (fun p hp => (HIN.out x hmem p hp).symm))
      have HAD := hidden (s1.later (bel_alloc (Below.refl _ _) (.cells #[.int .i64 x, .int .u64 m] 71)))
      have HM1 := hidden (show Mk1 (wr.alloc (.cells #[.int .i64 x, .int .u64 m] 71)) wr.heap.size x m from World.alloc_heap_new wr _)
      have HQ := hidden (show T < wr.heap.size by have := HT.out.lt; have := s1.kp.size; omega)
      clear hst s1 s2 s3 hm hdrop hmem
      go_wp2_with fail
      generalize World.alloc wr _ = W1 at HAD HM1 ⊢
      obtain ⟨Q, hQ⟩ : ∃ Q, wr.heap.size = Q := ⟨_, rfl⟩
      rw [hQ] at HM1 HQ ⊢
      clear hQ
      go_loopg [17] (x + 1) (fun j _ wi => Hid (∃ N', Ad B T ah wd mo v0 v1 at_ vS V H N Nb L S w q N' wi ∧ Mk1 wi Q x m ∧ x + 1 ≤ N' + j))
      case atStart => exact ⟨N0, HAD.out, HM1.out, by omega⟩
      case round =>
        clear HAD HM1
        obtain ⟨N', had, hm1, b8⟩ := hrel.out
        clear hrel
        obtain ⟨hk, vI', vT', X, b1, b2, b3, b4, b5, b6, b7⟩ := had
        obtain ⟨aI, cI, rfl, hcI, _⟩ := own_shape b1.ids
        have HB := hidden b1
        have HK := hidden hk
        have HX2 := hidden b6
        have HX3 := hidden b7
        have HM1 := hidden hm1
        have t5 := b1.c.cells.2.2.2.2.2.1
        obtain ⟨y0, y1⟩ := hm1.cells
        clear b1 b6 b7 hm1 hk
        by_cases hlen : N' ≤ x
        · have hd : decide ((N' : Int) ≤ x) = true := by simpa using hlen
          go_wp2_with fail
          go_quiet (fail)
          have HB2 := hidden (HB.out.drewN nq)
          have HK2 := hidden (HK.out.drewN nq)
          have HM2 : Hid (Mk1 (wr.drewN nq) Q x m) := HM1.out
          clear HB HK HM1 t5 y0 y1
          generalize World.drewN wr nq = W2 at HB2 HK2 HM2 ⊢
          have t5 := HB2.out.c.cells.2.2.2.2.2.1
          have HBL := hidden (show B ≤ W2.heap.size by have := HB2.out.lt; have := HB2.out.lo; omega)
          go_wp2_with (at_builtin; go_must (refine wpList_app rfl (.tmp 26) (.tmp 27) 44 52 rfl (.int .u64 0) 1 8 Try.underlying44 Try.infoU64 rfl (by decide) B W2.heap.size (.slice aI N' cI) N' (wcells (mix V H q) N') [.int .u64 18446744073709551615] rfl rfl (owns_later HB2.out.ids (by (with_reducible (repeat (first | exact Below.refl _ _ | exact Below.refl _ _ | apply bel_alloc | apply bel_put | apply bel_set | apply Below.drew | apply below_drewN | assumption | omega))))) rfl (fun u hu => by rw [List.mem_singleton.1 hu]; rfl) (cells_new W2 _ _ rfl _) (by omega) (by decide) (Nat.le_trans HBL.out (by simp)) ?_; intro g9 c9 w9 hown9 hg9 hl9; have HC9 := hidden (TbC.grown (HB2.out.c.alloc _) (owns_later HB2.out.ids (by (with_reducible (repeat (first | exact Below.refl _ _ | exact Below.refl _ _ | apply bel_alloc | apply bel_put | apply bel_set | apply Below.drew | apply below_drewN | assumption | omega))))) (by decide) hg9); have tf9 : w9.frozen? ⟨T, 5, none⟩ = false := HC9.out.thaw 5; have tc9 : w9.cell? ⟨T, 5, none⟩ = some (.slice aI N' cI) := HC9.out.cells.2.2.2.2.2.1))
          have HA2 := hidden (Ad.grow (Nb := Nb) (HK2.out.alloc (.cells #[.int .u64 18446744073709551615] 52)) (HB2.out.alloc (.cells #[.int .u64 18446744073709551615] 52)) b5 HX2.out HX3.out b2 (by omega) b4 hown9 hg9 hl9)
          have HM3 := hidden (show Mk1 (w9.setCell ⟨T, 5, none⟩ (.slice (some ⟨g9, 0, none⟩) (N' + 1) c9)) Q x m from by
            have k0 : KpT B T W2 (w9.setCell ⟨T, 5, none⟩ (.slice (some ⟨g9, 0, none⟩) (N' + 1) c9)) := ((KpT.of_below (W := W2) (bel_alloc (Below.refl _ _) _)).trans (kpt_row (owns_later HB2.out.ids (bel_alloc (Below.refl _ _) _)) (Or.inl rfl) hg9)).setT 5 _
            exact HM2.out.kpt HB2.out.c k0)
          go_roundg (gk - 1)
          case rel => exact ⟨N' + 1, HA2.out, HM3.out, by omega⟩
          case measure => omega
        · have hd : decide ((N' : Int) ≤ x) = false := by simpa using hlen
          go_wp2_with fail
          go_quiet (fail)
          have HB2 := hidden (HB.out.drewN nq)
          have HK2 := hidden (HK.out.drewN nq)
          have HM2 : Hid (Mk1 (wr.drewN nq) Q x m) := HM1.out
          clear HB HK HM1 t5 y0 y1
          generalize World.drewN wr nq = W2 at HB2 HK2 HM2 ⊢
          obtain ⟨y0, y1⟩ := HM2.out.cells
          go_wp2_with fail
          refine (bpass_any HR.out q x hqx (by omega) HGZ.out HB2.out (by omega) (by rw [List.length_append]; have := HL.out; omega)).mono ?_
          rintro e w3 ⟨rfl, hps⟩
          have HM3 := hidden (HM2.out.kpt HB2.out.c hps.kp)
          have HAP := hidden (Ad.pass (Nb := Nb) (N := N) hqx HK2.out b5 HX2.out HX3.out b2 b3 (by omega) hps)
          clear hps HB2 HK2 HM2 y0 y1
          obtain ⟨hk3, vI3, vT3, X3, e1, e2, e3, e4, e5, e6, e7⟩ := HAP.out
          have HB3 := hidden e1
          have HK3 := hidden hk3
          have HX4 := hidden e6
          have HX5 := hidden e7
          clear HAP e1 hk3 e6 e7
          obtain ⟨y0, y1⟩ := HM3.out.cells
          go_wp2_with fail
          refine (bword_mix HR.out x HB3.out (by omega) m HMG.out (by omega) (by rw [List.length_append]; have := HL.out; omega)).mono ?_
          rintro e w4 ⟨rfl, hk4, vT4, Y, f1, f2, f3, f4⟩
          have HM4 := hidden (HM3.out.kpt HB3.out.c hk4)
          have HA4 := hidden (Ad.more (Nb := Nb) (N := N) HK3.out e5 HX4.out HX5.out e2 e3 (by omega) hk4 f1 f2 f3 f4)
          clear hk4 f1 f2 f3 f4 HB3 HK3 HM3 y0 y1
          obtain ⟨y0, y1⟩ := HM4.out.cells
          go_wp2_with fail
          go_roundw
          case rel => exact ⟨k + 1, x + 1, by omega, by omega, by go_num, by go_num, rfl, ⟨N', HA4.out⟩, HNX.out.1, HNX.out.2⟩
          case measure => simp [intOf]; omega
    · obtain rfl : k = n := by omega
      obtain ⟨⟨N0, hk0, vI0, vT0, X0, e1, e2, e3, e4, e5, e6, e7⟩, s2, s3⟩ := hst.out
      have hdr : ws.drop k = [] := List.drop_of_length_le (by rw [HNn.out]; omega)
      have HGZ := hidden (show ∀ p, 64 * q ≤ p → g p = false from fun p h1 => by
        cases hgp : g p with
        | false => rfl
        | true => have h2 := s3 p h1 hgp; rw [hdr] at h2; cases h2)
      obtain ⟨aI, cI, rfl, hcI, _⟩ := own_shape e1.ids
      have HB := hidden e1
      have HK := hidden hk0
      have HX2 := hidden e6
      have HX3 := hidden e7
      have t5 := e1.c.cells.2.2.2.2.2.1
      clear e1 hk0 e6 e7 hst s2 s3 hdr
      go_wp2_with fail
      refine (bpass_any HR.out q N0 e4 (Nat.le_refl _) (fun p h1 _ => HGZ.out p h1) HB.out (by omega) (by rw [List.length_append]; have := HL.out; omega)).mono ?_
      rintro e w3 ⟨rfl, hps⟩
      have HAP := hidden (Ad.pass (Nb := Nb) (N := N) e4 HK.out e5 HX2.out HX3.out e2 e3 (Nat.le_refl _) hps)
      have HME := hidden (mix_end HR.out e4 HB.out.top HGZ.out)
      clear hps HB HK t5
      go_wp2_with fail
      go_end0
      obtain ⟨hk3, vI3, vT3, X3, f1, f2, f3, f4, f5, f6, f7⟩ := HAP.out
      rw [HME.out] at f1 f7
      exact ⟨⟨_, rfl⟩, hk3, vI3, vT3, N0, X3, f1, f2, f3, f5, f6, f7⟩

end Go.Proofs.Ytdjdiaadflggfaa
