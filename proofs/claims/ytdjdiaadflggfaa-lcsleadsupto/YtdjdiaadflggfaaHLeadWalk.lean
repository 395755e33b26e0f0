
/-
  The law LcsLeads answers true at whatever lines of at most 1048576 lines and bytes, and leaves what lay in memory as it was.
-/
import Derived.Test.YtdjdiaadflggfaaHDiff
import Derived.Test.YtdjdiaadflggfaaBDiff
namespace Go.Proofs.Ytdjdiaadflggfaa
open Go.RowKit Go.Deep Go.Proofs.Ytdjdiaadflggfaa.Ln Go.Proofs.Ytdjdiaadflggfaa.Ol

/-- three rows of one's own: steps, and the lines of both sides -/
structure K3 (w : World) (O : List Oq) (A B : List Tx) (vo va vb : Value) (W : World) : Prop where
  bel : Below w.heap.size w W
  oo : W.ownsRow w.heap.size 31 3 vo O.length (cellsO O)
  oa : W.ownsRow w.heap.size 9 1 va A.length (A.map S)
  ob : W.ownsRow w.heap.size 9 1 vb B.length (B.map S)
  na : ∀ k, vo.ownBlock = some k → va.ownBlock ≠ some k
  nb : ∀ k, vo.ownBlock = some k → vb.ownBlock ≠ some k
  ab : ∀ k, va.ownBlock = some k → vb.ownBlock ≠ some k
theorem K3.later {w : World} {O : List Oq} {A B : List Tx} {vo va vb : Value} {W W' : World} (h : K3 w O A B vo va vb W) (hb : Below W.heap.size W W') : K3 w O A B vo va vb W' :=
  ⟨h.bel.trans (hb.mono h.bel.size), owns_later h.oo hb, owns_later h.oa hb, owns_later h.ob hb, h.na, h.nb, h.ab⟩
theorem K3.alloc {w : World} {O : List Oq} {A B : List Tx} {vo va vb : Value} {W : World} (h : K3 w O A B vo va vb W) (o : Obj) : K3 w O A B vo va vb (W.alloc o) := h.later ((Below.refl _ W).alloc (Nat.le_refl _) o)
theorem K3.drew {w : World} {O : List Oq} {A B : List Tx} {vo va vb : Value} {W : World} (h : K3 w O A B vo va vb W) : K3 w O A B vo va vb W.drew := h.later (Below.refl _ W).drew
theorem adds_bel3 {w W W' : World} {v v' : Value} (hB : w.heap.size ≤ W.heap.size) (h : Adds W W' v v') (hv : ∀ k, v.ownBlock = some k → w.heap.size ≤ k) : Below w.heap.size W W' :=
  ⟨h.1.os, h.1.tape, h.1.output, h.1.size, fun k hk => h.1.block k (by omega) (fun e => by have := hv k e.symm; omega)⟩
theorem kept3 {w W W' : World} {e : TypeId} {size n : Nat} {v u u' : Value} {cs : List Value} (h : W.ownsRow w.heap.size e size v n cs) (ha : Adds W W' u u') (hn : ∀ k, v.ownBlock = some k → u.ownBlock ≠ some k) : W'.ownsRow w.heap.size e size v n cs := by
  refine h.kept ha.1 ?_
  cases hc : v.ownBlock with
  | none => exact Or.inl rfl
  | some k => exact Or.inr (fun e => hn k hc e.symm)
/-- a row that is turned stands apart from another one -/
theorem apart3 {w W W' : World} {e : TypeId} {size n : Nat} {v u u' : Value} {cs : List Value} (h : W.ownsRow w.heap.size e size v n cs) (ha : Adds W W' u u') (hn : ∀ k, v.ownBlock = some k → u.ownBlock ≠ some k) : ∀ k, v.ownBlock = some k → u'.ownBlock ≠ some k := by
  intro k hk e
  rcases ha.2 with e2 | ⟨k2, e2, hk2⟩
  · exact hn k hk (e2 ▸ e)
  · rw [e2] at e; cases e
    have := (h.lt _ hk).2
    omega
theorem apart_symm {u v : Value} (h : ∀ k, u.ownBlock = some k → v.ownBlock ≠ some k) : ∀ k, v.ownBlock = some k → u.ownBlock ≠ some k := fun k h1 h2 => h k h2 h1
theorem K3.out {w : World} {O O' : List Oq} {A B : List Tx} {vo vo' va vb : Value} {W W' : World} (h : K3 w O A B vo va vb W) (ha : Adds W W' vo vo') (ho : W'.ownsRow w.heap.size 31 3 vo' O'.length (cellsO O')) : K3 w O' A B vo' va vb W' :=
  ⟨h.bel.trans (adds_bel3 h.bel.size ha (fun k e => (h.oo.lt k e).1)), ho, kept3 h.oa ha (apart_symm h.na), kept3 h.ob ha (apart_symm h.nb), apart_symm (apart3 h.oa ha (apart_symm h.na)), apart_symm (apart3 h.ob ha (apart_symm h.nb)), h.ab⟩
theorem K3.first {w : World} {O : List Oq} {A A' B : List Tx} {vo va va' vb : Value} {W W' : World} (h : K3 w O A B vo va vb W) (ha : Adds W W' va va') (ho : W'.ownsRow w.heap.size 9 1 va' A'.length (A'.map S)) : K3 w O A' B vo va' vb W' :=
  ⟨h.bel.trans (adds_bel3 h.bel.size ha (fun k e => (h.oa.lt k e).1)), kept3 h.oo ha h.na, ho, kept3 h.ob ha (apart_symm h.ab), apart3 h.oo ha h.na, h.nb, apart_symm (apart3 h.ob ha (apart_symm h.ab))⟩
theorem K3.second {w : World} {O : List Oq} {A B B' : List Tx} {vo va vb vb' : Value} {W W' : World} (h : K3 w O A B vo va vb W) (ha : Adds W W' vb vb') (ho : W'.ownsRow w.heap.size 9 1 vb' B'.length (B'.map S)) : K3 w O A B' vo va vb' W' :=
  ⟨h.bel.trans (adds_bel3 h.bel.size ha (fun k e => (h.ob.lt k e).1)), kept3 h.oo ha h.nb, kept3 h.oa ha h.ab, ho, h.na, apart3 h.oo ha h.nb, apart3 h.oa ha h.ab⟩
theorem K3.cut {w : World} {O : List Oq} {A B : List Tx} {vo va vb : Value} {W : World} (h : K3 w O A B vo va vb W) : K3 w O [] [] vo (.slice none 0 0) (.slice none 0 0) W :=
  ⟨h.bel, h.oo, ⟨rfl, Or.inl ⟨rfl, rfl⟩⟩, ⟨rfl, Or.inl ⟨rfl, rfl⟩⟩, (fun _ _ e => by cases e), (fun _ _ e => by cases e), (fun _ e => by cases e)⟩

end Go.Proofs.Ytdjdiaadflggfaa

namespace Go.Proofs.Ytdjdiaadflggfaa
open Go.RowKit Go.Proofs.Ytdjdiaadflggfaa.Ln Go.Proofs.Ytdjdiaadflggfaa.Ol

open Go.Deep

/-- the frame, as far as it matters -/
structure FrL (a : Act) (s0 s1 s6 s7 s8 s9 s10 : Value) : Prop where
  size : a.tmps.size = 102
  e0 : a.tmps.getD 0 undef = s0
  e1 : a.tmps.getD 1 undef = s1
  e6 : a.tmps.getD 6 undef = s6
  e7 : a.tmps.getD 7 undef = s7
  e8 : a.tmps.getD 8 undef = s8
  e9 : a.tmps.getD 9 undef = s9
  e10 : a.tmps.getD 10 undef = s10
  marks : a.defers = []
theorem FrL_slots (tmps : Array Value) (h : tmps.size = 102) : tmps = #[tmps.getD 0 undef, tmps.getD 1 undef, tmps.getD 2 undef, tmps.getD 3 undef, tmps.getD 4 undef, tmps.getD 5 undef, tmps.getD 6 undef, tmps.getD 7 undef, tmps.getD 8 undef, tmps.getD 9 undef, tmps.getD 10 undef, tmps.getD 11 undef, tmps.getD 12 undef, tmps.getD 13 undef, tmps.getD 14 undef, tmps.getD 15 undef, tmps.getD 16 undef, tmps.getD 17 undef, tmps.getD 18 undef, tmps.getD 19 undef, tmps.getD 20 undef, tmps.getD 21 undef, tmps.getD 22 undef, tmps.getD 23 undef, tmps.getD 24 undef, tmps.getD 25 undef, tmps.getD 26 undef, tmps.getD 27 undef, tmps.getD 28 undef, tmps.getD 29 undef, tmps.getD 30 undef, tmps.getD 31 undef, tmps.getD 32 undef, tmps.getD 33 undef, tmps.getD 34 undef, tmps.getD 35 undef, tmps.getD 36 undef, tmps.getD 37 undef, tmps.getD 38 undef, tmps.getD 39 undef, tmps.getD 40 undef, tmps.getD 41 undef, tmps.getD 42 undef, tmps.getD 43 undef, tmps.getD 44 undef, tmps.getD 45 undef, tmps.getD 46 undef, tmps.getD 47 undef, tmps.getD 48 undef, tmps.getD 49 undef, tmps.getD 50 undef, tmps.getD 51 undef, tmps.getD 52 undef, tmps.getD 53 undef, tmps.getD 54 undef, tmps.getD 55 undef, tmps.getD 56 undef, tmps.getD 57 undef, tmps.getD 58 undef, tmps.getD 59 undef, tmps.getD 60 undef, tmps.getD 61 undef, tmps.getD 62 undef, tmps.getD 63 undef, tmps.getD 64 undef, tmps.getD 65 undef, tmps.getD 66 undef, tmps.getD 67 undef, tmps.getD 68 undef, tmps.getD 69 undef, tmps.getD 70 undef, tmps.getD 71 undef, tmps.getD 72 undef, tmps.getD 73 undef, tmps.getD 74 undef, tmps.getD 75 undef, tmps.getD 76 undef, tmps.getD 77 undef, tmps.getD 78 undef, tmps.getD 79 undef, tmps.getD 80 undef, tmps.getD 81 undef, tmps.getD 82 undef, tmps.getD 83 undef, tmps.getD 84 undef, tmps.getD 85 undef, tmps.getD 86 undef, tmps.getD 87 undef, tmps.getD 88 undef, tmps.getD 89 undef, tmps.getD 90 undef, tmps.getD 91 undef, tmps.getD 92 undef, tmps.getD 93 undef, tmps.getD 94 undef, tmps.getD 95 undef, tmps.getD 96 undef, tmps.getD 97 undef, tmps.getD 98 undef, tmps.getD 99 undef, tmps.getD 100 undef, tmps.getD 101 undef] := by
  have h1 : tmps.toList = (List.range 102).map (fun i => tmps.getD i undef) := by
    apply List.ext_getElem
    · simp [h]
    · intro i h2 h3
      simp at h2
      simp [h2]
  calc tmps = ⟨tmps.toList⟩ := rfl
    _ = ⟨(List.range 102).map (fun i => tmps.getD i undef)⟩ := by rw [h1]
    _ = _ := rfl
theorem FrL.frame {a : Act} {s0 s1 s6 s7 s8 s9 s10 : Value} (h : FrL a s0 s1 s6 s7 s8 s9 s10) : ∃ f : Nat → Value, (∀ i, a.tmps.getD i undef = f i) ∧ a = { tmps := #[s0, s1, f 2, f 3, f 4, f 5, s6, s7, s8, s9, s10, f 11, f 12, f 13, f 14, f 15, f 16, f 17, f 18, f 19, f 20, f 21, f 22, f 23, f 24, f 25, f 26, f 27, f 28, f 29, f 30, f 31, f 32, f 33, f 34, f 35, f 36, f 37, f 38, f 39, f 40, f 41, f 42, f 43, f 44, f 45, f 46, f 47, f 48, f 49, f 50, f 51, f 52, f 53, f 54, f 55, f 56, f 57, f 58, f 59, f 60, f 61, f 62, f 63, f 64, f 65, f 66, f 67, f 68, f 69, f 70, f 71, f 72, f 73, f 74, f 75, f 76, f 77, f 78, f 79, f 80, f 81, f 82, f 83, f 84, f 85, f 86, f 87, f 88, f 89, f 90, f 91, f 92, f 93, f 94, f 95, f 96, f 97, f 98, f 99, f 100, f 101], defers := [] } := by
  refine ⟨fun i => a.tmps.getD i undef, fun _ => rfl, ?_⟩
  obtain ⟨tmps, defers⟩ := a
  have h1 := FrL_slots tmps h.size
  rw [h.e0, h.e1, h.e6, h.e7, h.e8, h.e9, h.e10] at h1
  have h2 := h.marks
  simp only at h2
  rw [h2]
  exact congrArg (fun t => Act.mk t []) h1

set_option maxRecDepth 3000 in
set_option maxHeartbeats 8000000 in
theorem lcsLeads_any (vX : Value) (a : List Tx) (vY : Value) (b : List Tx) (w : World) (hX : RowAt w vX a) (hlX : a.length ≤ 1048576) (hnX : a.flatten.length ≤ 1048576) (hY : RowAt w vY b) (hlY : b.length ≤ 1048576) (hnY : b.flatten.length ≤ 1048576) :
    Calls Try.prog 4 #[vX, vY] w fun e w' => e = .returned (.bool true) ∧ Below w.heap.size w w' := by
  have HX0 := hidden hX
  have HY0 := hidden hY
  have HB0 := hidden (Below.refl w.heap.size w)
  have HNX := hidden hnX
  have HFX := hidden (fitT_flat hnX)
  obtain ⟨aX, cX, rfl⟩ := hX.shape
  clear hX hnX
  have HNY := hidden hnY
  have HFY := hidden (fitT_flat hnY)
  obtain ⟨aY, cY, rfl⟩ := hY.shape
  clear hY hnY
  go_enter Try.func4, Try.ntmps4
  go_wp2_with fail
  refine (alive12_any _).mono ?_
  rintro e w1 ⟨rfl, hb⟩
  have HX1 := hidden (HX0.out.later hb)
  have HY1 := hidden (HY0.out.later hb)
  have HB1 := hidden (HB0.out.trans (hb.mono HB0.out.size))
  clear hb
  go_wp2_with fail
  refine (short_any _ a w1 HX1.out (by omega) (by have := HNX.out; omega)).mono ?_
  rintro e w2 ⟨⟨c, rfl⟩, hb⟩
  have HX2 := hidden (HX1.out.later hb)
  have HY2 := hidden (HY1.out.later hb)
  have HB2 := hidden (HB1.out.trans (hb.mono HB1.out.size))
  clear hb
  clear HX1 HY1 HB1
  cases c with
  | false =>
    go_wp2_with fail
    go_ret
    exact ⟨rfl, HB2.out⟩
  | true =>
    go_wp2_with fail
    refine (short_any _ b w2 HY2.out (by omega) (by have := HNY.out; omega)).mono ?_
    rintro e w3 ⟨⟨c, rfl⟩, hb⟩
    have HX3 := hidden (HX2.out.later hb)
    have HY3 := hidden (HY2.out.later hb)
    have HB3 := hidden (HB2.out.trans (hb.mono HB2.out.size))
    clear hb
    clear HX2 HY2 HB2
    cases c with
    | false =>
      go_wp2_with fail
      go_ret
      exact ⟨rfl, HB3.out⟩
    | true =>
      by_cases hsX : a.length ≤ 60
      case neg =>
        have hd1 : decide ((a.length : Int) > 60) = true := by simp; omega
        have hd2 : decide (60 < (a.length : Int)) = true := by simp; omega
        have hd3 : decide (60 < a.length) = true := by simp; omega
        clear hsX
        go_wp2_with fail
        go_ret
        exact ⟨by first | rfl | simp, HB3.out⟩
      case pos =>
      have hdX1 : decide ((a.length : Int) > 60) = false := by simp; omega
      have hdX2 : decide (60 < (a.length : Int)) = false := by simp; omega
      have hdX3 : decide (60 < a.length) = false := by simp; omega
      by_cases hsY : b.length ≤ 60
      case neg =>
        have hd1 : decide ((b.length : Int) > 60) = true := by simp; omega
        have hd2 : decide (60 < (b.length : Int)) = true := by simp; omega
        have hd3 : decide (60 < b.length) = true := by simp; omega
        clear hsY
        go_wp2_with fail
        go_ret
        exact ⟨by first | rfl | simp, HB3.out⟩
      case pos =>
      have hdY1 : decide ((b.length : Int) > 60) = false := by simp; omega
      have hdY2 : decide (60 < (b.length : Int)) = false := by simp; omega
      have hdY3 : decide (60 < b.length) = false := by simp; omega
      obtain ⟨l, hl⟩ : ∃ l, df a b = l := ⟨_, rfl⟩
      have hll : l.length ≤ 120 := by rw [← hl]; have := df_len_le a b; omega
      obtain ⟨L1, L2, L3⟩ := df_leads a b
      rw [hl] at L1 L2 L3
      have HL1 := hidden L1
      have HL2 := hidden L2
      have HL3 := hidden L3
      have HL4 := hidden (show lc b a = kept2 l by rw [L3]; exact lc_symm b a)
      have HD := hidden hl
      clear hl L1 L2 L3
      obtain ⟨n, hn⟩ : ∃ n, l.length = n := ⟨_, rfl⟩
      rw [hn] at hll
      have HLN := hidden hn
      clear hn
      go_wp2_with fail
      refine (lcsdiff_any _ _ a b w3 HX3.out HY3.out (by omega) (by omega) HFX.out HFY.out).mono ?_
      rw [HD.out]
      rintro e w4 ⟨q1, rfl, ho, hb⟩
      have HX4 := hidden (HX3.out.later hb)
      have HY4 := hidden (HY3.out.later hb)
      have HB4 := hidden (HB3.out.trans (hb.mono HB3.out.size))
      clear hb
      clear HX3 HY3 HB3
      have HP4 := hidden ho
      clear ho
      obtain ⟨q1a, q1c, rfl⟩ : ∃ a c, q1 = .slice a n c := by obtain ⟨a, c, e⟩ := HP4.out.shape; exact ⟨_, _, by rw [e, HLN.out]⟩
      clear hdX1 hdX2 hdX3 hdY1 hdY2 hdY3
      obtain ⟨_, _, hsh, hcP⟩ := HP4.out.open_
      rw [HLN.out] at hsh hcP
      cases hsh
      have HCP := hidden hcP
      clear hcP
      have HS0 := hidden (show K3 w4 [] (sdt 4 (l.take 0)) (sdt 3 (l.take 0)) (.slice none 0 0) (.slice none 0 0) (.slice none 0 0) w4 from ⟨Below.refl _ _, ⟨rfl, Or.inl ⟨rfl, rfl⟩⟩, ⟨rfl, Or.inl ⟨rfl, rfl⟩⟩, ⟨rfl, Or.inl ⟨rfl, rfl⟩⟩, (fun _ e => by cases e), (fun _ e => by cases e), (fun _ e => by cases e)⟩)
      go_wp2_with fail
      refine wp_loop_ghost_k (fun g a' wr => ∃ (k : Nat) (va vb : Value), k ≤ n ∧ FrL a' (.slice aX a.length cX) (.slice aY b.length cY) (.slice q1a n q1c) va vb (.int .i64 (kept2 (l.take k))) (.int .i64 k) ∧ Hid (g = n - k ∧ K3 w4 [] (sdt 4 (l.take k)) (sdt 3 (l.take k)) (.slice none 0 0) va vb wr)) n ?start ?round
      case start => exact ⟨0, _, _, Nat.zero_le _, ⟨rfl, rfl, rfl, rfl, rfl, rfl, rfl, rfl, rfl⟩, ⟨by omega, HS0.out⟩⟩
      case round =>
      intro gk _ wr hinv
      obtain ⟨k, u7, u8, hk, hfr, hgs⟩ := hinv
      obtain ⟨ff, hff, ha⟩ := hfr.frame
      clear hff hfr HS0
      subst ha
      try dsimp only
      intro _ _ _ _
      have HG := hidden hgs.out.1
      have HK := hidden hgs.out.2
      clear hgs
      obtain ⟨z, hz⟩ : ∃ z, kept2 (l.take k) = z := ⟨_, rfl⟩
      rw [hz]
      have hzk : z ≤ k := by
        rw [← hz]; unfold kept2
        exact Nat.le_trans (List.length_filter_le _ _) (by rw [List.length_take]; exact Nat.min_le_left _ _)
      have HZ := hidden hz
      clear hz
      obtain ⟨a7, n7, c7, hu7⟩ : ∃ a n c, u7 = .slice a n c := by obtain ⟨a, c, e⟩ := (RowAt.of_owns HK.out.oa).shape; exact ⟨_, _, _, e⟩
      obtain ⟨a8, n8, c8, hu8⟩ : ∃ a n c, u8 = .slice a n c := by obtain ⟨a, c, e⟩ := (RowAt.of_owns HK.out.ob).shape; exact ⟨_, _, _, e⟩
      subst hu7 hu8
      have hbs := HK.out.bel.size
      by_cases hlt : k < n
      case neg =>
        have HE := hidden (show l.take k = l from List.take_of_length_le (by rw [HLN.out]; omega))
        have HXE := hidden (show sdt 4 (l.take k) = a by rw [HE.out, HL1.out])
        have HYE := hidden (show sdt 3 (l.take k) = b by rw [HE.out, HL2.out])
        have HZE := hidden (show kept2 l = z by rw [← HZ.out, HE.out])
        have HRA := hidden (RowAt.of_owns HK.out.oa)
        have HRB := hidden (RowAt.of_owns HK.out.ob)
        rw [HXE.out] at HRA
        rw [HYE.out] at HRB
        have HX9 := hidden (HX4.out.later HK.out.bel)
        have HY9 := hidden (HY4.out.later HK.out.bel)
        have HB9 := hidden (HB4.out.trans (HK.out.bel.mono HB4.out.size))
        have HLA := hidden (show a.length ≤ 4398046511104 by omega)
        have HLB := hidden (show b.length ≤ 4398046511104 by omega)
        have HC1 := hidden (show lc a b = z by rw [← HZE.out, HL3.out])
        have HC2 := hidden (show lc b a = z by rw [← HZE.out, HL4.out])
        have ez : ((z : Int) == z) = true := by simp
        clear hbs
        go_wp2_with fail
        refine (sameTexts_any _ _ a a wr HRA.out HX9.out HLA.out HLA.out).mono ?_
        rw [decide_eq_true (Eq.refl a)]
        rintro e w21 ⟨rfl, hb⟩
        have HRB2 := hidden (HRB.out.later hb)
        have HX10 := hidden (HX9.out.later hb)
        have HY10 := hidden (HY9.out.later hb)
        have HB10 := hidden (HB9.out.trans (hb.mono HB9.out.size))
        clear hb
        go_wp2_with fail
        refine (sameTexts_any _ _ b b w21 HRB2.out HY10.out HLB.out HLB.out).mono ?_
        rw [decide_eq_true (Eq.refl b)]
        rintro e w22 ⟨rfl, hb⟩
        have HX11 := hidden (HX10.out.later hb)
        have HY11 := hidden (HY10.out.later hb)
        have HB11 := hidden (HB10.out.trans (hb.mono HB10.out.size))
        clear hb
        go_wp2_with fail
        refine (lcslen_any _ _ a b w22 HX11.out HY11.out (by omega) (by omega) HFX.out HFY.out).mono ?_
        rw [HC1.out]
        rintro e w23 ⟨rfl, hb⟩
        have HX12 := hidden (HX11.out.later hb)
        have HY12 := hidden (HY11.out.later hb)
        have HB12 := hidden (HB11.out.trans (hb.mono HB11.out.size))
        clear hb
        go_wp2_with fail
        refine (lcslen_any _ _ b a w23 HY12.out HX12.out (by omega) (by omega) HFY.out HFX.out).mono ?_
        rw [HC2.out]
        rintro e w24 ⟨rfl, hb⟩
        have HB13 := hidden (HB12.out.trans (hb.mono HB12.out.size))
        clear hb
        go_wp2_with fail
        go_ret
        exact ⟨by first | rfl | simp, HB13.out⟩
      case pos =>
      have hkn : k < l.length := by rw [HLN.out]; exact hlt
      obtain ⟨x1, x2, x3, hx⟩ := op_some hkn
      obtain ⟨b9, o9, hao, hcap, hb9, hcc⟩ := HCP.out k _ hx
      subst hao
      obtain ⟨d1, d2, d3⟩ := three_later hb9 HK.out.bel hcc
      simp only at d1 d2 d3
      have HT4 := hidden (show sdt 4 (l.take (k + 1)) = sdt 4 (l.take k) ++ (if x1 = 4 then [] else [x3]) by rw [take_snoc hx, sdt_app, sdt_cons]; simp [sdt])
      have HT3 := hidden (show sdt 3 (l.take (k + 1)) = sdt 3 (l.take k) ++ (if x1 = 3 then [] else [x3]) by rw [take_snoc hx, sdt_app, sdt_cons]; simp [sdt])
      have HT2 := hidden (show kept2 (l.take (k + 1)) = z + (if x1 = 2 then 1 else 0) by rw [← HZ.out, take_snoc hx]; unfold kept2; rw [List.filter_append, List.length_append]; congr 1; by_cases h : x1 = 2 <;> simp [h])
      have hkk : x1 = 2 ∨ x1 = 3 ∨ x1 = 4 := by
        have := (df_kinds a b _ (by rw [HD.out]; exact List.mem_of_getElem? hx)).1
        simp only at this
        rcases this with ⟨h, _⟩ | ⟨h, _⟩ | ⟨h, _⟩
        · exact Or.inl h
        · exact Or.inr (Or.inl h)
        · exact Or.inr (Or.inr h)
      have hl4 : (sdt 4 (l.take k)).length ≤ 120 := by have := sdt_len 4 (l.take k); rw [List.length_take] at this; omega
      have hl3 : (sdt 3 (l.take k)).length ≤ 120 := by have := sdt_len 3 (l.take k); rw [List.length_take] at this; omega
      clear hx hcc d2 hkn
      generalize sdt 4 (l.take k) = SA at HK HT4 hl4
      generalize sdt 3 (l.take k) = SB at HK HT3 hl3
      rcases hkk with rfl | rfl | rfl
      · skip
        go_upto_region 12 with (at_builtin; go_must (refine wpList_append_txt _ (by go_simp) (.tmp 50) (.tmp 56) rfl w4.heap.size _ (.slice (some ⟨wr.heap.size, 0, none⟩) 1 1) SA [x3] rfl rfl (HK.out.oa.alloc _) (row_one _ _ _ rfl) (by simp; omega) (by simp; omega) ?_; intro v9 w9 hown9 hadd9; have HN9 := hidden (K3.first (HK.out.alloc (.cells #[.string ⟨x3.toArray⟩] 9)) hadd9 hown9); have f1 := (HN9.out.bel.cell (p := ⟨b9, o9 + k * 3, none⟩) hb9).trans ((HK.out.bel.cell (p := ⟨b9, o9 + k * 3, none⟩) hb9).symm.trans d1); have f3 := (HN9.out.bel.cell (p := ⟨b9, o9 + k * 3 + 2, none⟩) hb9).trans ((HK.out.bel.cell (p := ⟨b9, o9 + k * 3 + 2, none⟩) hb9).symm.trans d3); have hn9 := HN9.out.bel.size; clear hown9 hadd9))
        clear d1 d3
        go_wp2_with (at_builtin; go_must (refine wpList_append_txt _ (by go_simp) (.tmp 64) (.tmp 70) rfl w4.heap.size _ (.slice (some ⟨w9.heap.size, 0, none⟩) 1 1) SB [x3] rfl rfl (HN9.out.ob.alloc _) (row_one _ _ _ rfl) (by simp; omega) (by simp; omega) ?_; intro v10 w10 hown10 hadd10; have HN := hidden (K3.second (HN9.out.alloc (.cells #[.string ⟨x3.toArray⟩] 9)) hadd10 hown10); have g1 := (HN.out.bel.cell (p := ⟨b9, o9 + k * 3, none⟩) hb9).trans ((HN9.out.bel.cell (p := ⟨b9, o9 + k * 3, none⟩) hb9).symm.trans f1); clear hown10 hadd10))
        refine Handed.intro (n - (k + 1)) (by have := HG.out; omega) ?_
        go_step
        exact ⟨k + 1, _, _, by omega, ⟨rfl, rfl, rfl, rfl, rfl, rfl, by rw [HT2.out]; rfl, rfl, rfl⟩, ⟨rfl, by rw [HT4.out, HT3.out]; simpa using HN.out⟩⟩
      · skip
        go_wp2_with (at_builtin; go_must (refine wpList_append_txt _ (by go_simp) (.tmp 50) (.tmp 56) rfl w4.heap.size _ (.slice (some ⟨wr.heap.size, 0, none⟩) 1 1) SA [x3] rfl rfl (HK.out.oa.alloc _) (row_one _ _ _ rfl) (by simp; omega) (by simp; omega) ?_; intro v9 w9 hown9 hadd9; have HN9 := hidden (K3.first (HK.out.alloc (.cells #[.string ⟨x3.toArray⟩] 9)) hadd9 hown9); have f1 := (HN9.out.bel.cell (p := ⟨b9, o9 + k * 3, none⟩) hb9).trans ((HK.out.bel.cell (p := ⟨b9, o9 + k * 3, none⟩) hb9).symm.trans d1); have f3 := (HN9.out.bel.cell (p := ⟨b9, o9 + k * 3 + 2, none⟩) hb9).trans ((HK.out.bel.cell (p := ⟨b9, o9 + k * 3 + 2, none⟩) hb9).symm.trans d3); have hn9 := HN9.out.bel.size; clear hown9 hadd9))
        have HN := hidden HN9.out
        refine Handed.intro (n - (k + 1)) (by have := HG.out; omega) ?_
        go_step
        exact ⟨k + 1, _, _, by omega, ⟨rfl, rfl, rfl, rfl, rfl, rfl, by rw [HT2.out]; rfl, rfl, rfl⟩, ⟨rfl, by rw [HT4.out, HT3.out]; simpa using HN.out⟩⟩
      · skip
        go_wp2_with (at_builtin; go_must (refine wpList_append_txt _ (by go_simp) (.tmp 64) (.tmp 70) rfl w4.heap.size _ (.slice (some ⟨wr.heap.size, 0, none⟩) 1 1) SB [x3] rfl rfl (HK.out.ob.alloc _) (row_one _ _ _ rfl) (by simp; omega) (by simp; omega) ?_; intro v10 w10 hown10 hadd10; have HN := hidden (K3.second (HK.out.alloc (.cells #[.string ⟨x3.toArray⟩] 9)) hadd10 hown10); have g1 := (HN.out.bel.cell (p := ⟨b9, o9 + k * 3, none⟩) hb9).trans ((HK.out.bel.cell (p := ⟨b9, o9 + k * 3, none⟩) hb9).symm.trans d1); clear hown10 hadd10))
        refine Handed.intro (n - (k + 1)) (by have := HG.out; omega) ?_
        go_step
        exact ⟨k + 1, _, _, by omega, ⟨rfl, rfl, rfl, rfl, rfl, rfl, by rw [HT2.out]; rfl, rfl, rfl⟩, ⟨rfl, by rw [HT4.out, HT3.out]; simpa using HN.out⟩⟩

end Go.Proofs.Ytdjdiaadflggfaa
