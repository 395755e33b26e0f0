
/-
  The program's own tidy.Ops and tidy.Idle: what they answer at any steps that lie in memory, as the document's own do; conditions: the list's and the texts' lengths.
-/
import Derived.Test.YtmbalnjobcgpkaaTFact
import Derived.Test.YtmbalnjobcgpkaaBDiff
import Derived.Test.YtmbalnjobcgpkaaOLaw
namespace Go.Proofs.Ytmbalnjobcgpkaa
namespace Ol
open Go.Proofs.Ytmbalnjobcgpkaa.Ln
theorem right_td {l : List Oq} (h : right l = true) : right (td l) = true := by
  have hal := right_al0 h
  have hr := right_tdy h
  have e : tdy l = nrm (td l) := by unfold tdy; rw [if_pos h]
  rw [e] at hr
  obtain ⟨h2, h3, h4, h5⟩ := (right_nrm_iff (td_al l hal)).1 hr
  have h1 : ∀ x ∈ td l, alone x = true := td_of l (fun x => alone x = true) (fun t => rt t = true) (fun x hx _ => (right_parts h).1 x hx) (fun x hx hn => by
    rcases hal x hx with ⟨e, _⟩ | ⟨_, _, e⟩
    · exact absurd e hn
    · exact e) (fun x a b c => alone_of (Or.inr ⟨a, b, c⟩) (by omega))
  unfold right
  simp only [Bool.and_eq_true, decide_eq_true_eq, List.all_eq_true]
  exact ⟨⟨⟨⟨h1, h2⟩, h3⟩, h4⟩, h5⟩
theorem tdy_normL {l : List Oq} (h : right l = true) : tdy l = normL (td l) := by
  unfold normL; rw [if_pos (right_td h)]; unfold tdy; rw [if_pos h]
end Ol
open Go.RowKit Go.Deep Go.Proofs.Ytmbalnjobcgpkaa.Ln Go.Proofs.Ytmbalnjobcgpkaa.Ol

/-- a step in a block of its own -/
def Oc (W : World) (b : Nat) (x1 x2 : Int) (x3 : Tx) : Prop := W.heap[b]? = some (.cells #[.int .i64 x1, .int .i64 x2, .string ⟨x3.toArray⟩] 37 (0, 0))
theorem Oc.lt {W : World} {b : Nat} {x1 x2 : Int} {x3 : Tx} (h : Oc W b x1 x2 x3) : b < W.heap.size := (Array.getElem?_eq_some_iff.1 h).1
theorem Oc.cells {W : World} {b : Nat} {x1 x2 : Int} {x3 : Tx} (h : Oc W b x1 x2 x3) : W.cell? ⟨b, 0, none⟩ = some (.int .i64 x1) ∧ W.cell? ⟨b, 1, none⟩ = some (.int .i64 x2) ∧ W.cell? ⟨b, 2, none⟩ = some (.string ⟨x3.toArray⟩) := by
  unfold World.cell?; rw [show W.heap[b]? = _ from h]; exact ⟨rfl, rfl, rfl⟩
theorem Oc.later {W W' : World} {b : Nat} {x1 x2 : Int} {x3 : Tx} (h : Oc W b x1 x2 x3) (hb : Below W.heap.size W W') : Oc W' b x1 x2 x3 := (hb.block b h.lt).trans h
theorem Oc.adds {W W' : World} {b : Nat} {x1 x2 : Int} {x3 : Tx} {v v' : Value} (h : Oc W b x1 x2 x3) (ha : Adds W W' v v') (hn : ∀ k, v.ownBlock = some k → k ≠ b) : Oc W' b x1 x2 x3 := (ha.1.block b h.lt (fun e => hn b e.symm rfl)).trans h
theorem Oc.ops {W : World} {b : Nat} {x1 x2 : Int} {x3 : Tx} (h : Oc W b x1 x2 x3) : OpsAt W (.slice (some ⟨b, 0, none⟩) 1 1) [(x1, x2, x3)] := ops_lit (xs := [(x1, x2, x3)]) h rfl rfl
/-- three rows of one's own, and a step in a block apart -/
structure R3 (w : World) (O : List Oq) (A B : List Tx) (vo va vb : Value) (T : Nat) (x1 x2 : Int) (x3 : Tx) (W : World) : Prop where
  k : K3 w O A B vo va vb W
  c : Oc W T x1 x2 x3
  no : ∀ k, vo.ownBlock = some k → k ≠ T
  na : ∀ k, va.ownBlock = some k → k ≠ T
  nb : ∀ k, vb.ownBlock = some k → k ≠ T
theorem R3.begin {w : World} {O : List Oq} {A B : List Tx} {vo va vb : Value} {W : World} (h : K3 w O A B vo va vb W) (x1 x2 : Int) (x3 : Tx) : R3 w O A B vo va vb W.heap.size x1 x2 x3 (W.alloc (opO x1 x2 x3)) :=
  ⟨h.alloc _, World.alloc_heap_new W _, fun k hk => by have := (h.oo.lt k hk).2; omega, fun k hk => by have := (h.oa.lt k hk).2; omega, fun k hk => by have := (h.ob.lt k hk).2; omega⟩
theorem R3.later {w : World} {O : List Oq} {A B : List Tx} {vo va vb : Value} {T : Nat} {x1 x2 : Int} {x3 : Tx} {W W' : World} (h : R3 w O A B vo va vb T x1 x2 x3 W) (hb : Below W.heap.size W W') : R3 w O A B vo va vb T x1 x2 x3 W' := ⟨h.k.later hb, h.c.later hb, h.no, h.na, h.nb⟩
theorem R3.alloc {w : World} {O : List Oq} {A B : List Tx} {vo va vb : Value} {T : Nat} {x1 x2 : Int} {x3 : Tx} {W : World} (h : R3 w O A B vo va vb T x1 x2 x3 W) (o : Obj) : R3 w O A B vo va vb T x1 x2 x3 (W.alloc o) := h.later ((Below.refl _ W).alloc (Nat.le_refl _) o)
theorem R3.drew {w : World} {O : List Oq} {A B : List Tx} {vo va vb : Value} {T : Nat} {x1 x2 : Int} {x3 : Tx} {W : World} (h : R3 w O A B vo va vb T x1 x2 x3 W) : R3 w O A B vo va vb T x1 x2 x3 W.drew := h.later (Below.refl _ W).drew
theorem apart_one {W W' : World} {v v' : Value} {T : Nat} (ha : Adds W W' v v') (hT : T < W.heap.size) (hn : ∀ k, v.ownBlock = some k → k ≠ T) : ∀ k, v'.ownBlock = some k → k ≠ T := by
  intro k hk
  rcases ha.2 with e | ⟨k2, e, hk2⟩
  · exact hn k (e ▸ hk)
  · rw [e] at hk; cases hk; omega
theorem R3.out {w : World} {O O' : List Oq} {A B : List Tx} {vo vo' va vb : Value} {T : Nat} {x1 x2 : Int} {x3 : Tx} {W W' : World} (h : R3 w O A B vo va vb T x1 x2 x3 W) (ha : Adds W W' vo vo') (ho : W'.ownsRow w.heap.size 37 3 vo' O'.length (cellsO O')) : R3 w O' A B vo' va vb T x1 x2 x3 W' :=
  ⟨h.k.out ha ho, h.c.adds ha h.no, apart_one ha h.c.lt h.no, h.na, h.nb⟩
theorem R3.first {w : World} {O : List Oq} {A A' B : List Tx} {vo va va' vb : Value} {T : Nat} {x1 x2 : Int} {x3 : Tx} {W W' : World} (h : R3 w O A B vo va vb T x1 x2 x3 W) (ha : Adds W W' va va') (ho : W'.ownsRow w.heap.size 9 1 va' A'.length (A'.map S)) : R3 w O A' B vo va' vb T x1 x2 x3 W' :=
  ⟨h.k.first ha ho, h.c.adds ha h.na, h.no, apart_one ha h.c.lt h.na, h.nb⟩
theorem R3.second {w : World} {O : List Oq} {A B B' : List Tx} {vo va vb vb' : Value} {T : Nat} {x1 x2 : Int} {x3 : Tx} {W W' : World} (h : R3 w O A B vo va vb T x1 x2 x3 W) (ha : Adds W W' vb vb') (ho : W'.ownsRow w.heap.size 9 1 vb' B'.length (B'.map S)) : R3 w O A B' vo va vb' T x1 x2 x3 W' :=
  ⟨h.k.second ha ho, h.c.adds ha h.nb, h.no, h.na, apart_one ha h.c.lt h.nb⟩
/-- the frame, as far as it matters -/
structure FrTy (a : Act) (s0 s3 s4 s5 s11 s12 s13 : Value) : Prop where
  size : a.tmps.size = 51
  e0 : a.tmps.getD 0 undef = s0
  e3 : a.tmps.getD 3 undef = s3
  e4 : a.tmps.getD 4 undef = s4
  e5 : a.tmps.getD 5 undef = s5
  e11 : a.tmps.getD 11 undef = s11
  e12 : a.tmps.getD 12 undef = s12
  e13 : a.tmps.getD 13 undef = s13
  marks : a.defers = []
theorem FrTy_slots (tmps : Array Value) (h : tmps.size = 51) : tmps = #[tmps.getD 0 undef, tmps.getD 1 undef, tmps.getD 2 undef, tmps.getD 3 undef, tmps.getD 4 undef, tmps.getD 5 undef, tmps.getD 6 undef, tmps.getD 7 undef, tmps.getD 8 undef, tmps.getD 9 undef, tmps.getD 10 undef, tmps.getD 11 undef, tmps.getD 12 undef, tmps.getD 13 undef, tmps.getD 14 undef, tmps.getD 15 undef, tmps.getD 16 undef, tmps.getD 17 undef, tmps.getD 18 undef, tmps.getD 19 undef, tmps.getD 20 undef, tmps.getD 21 undef, tmps.getD 22 undef, tmps.getD 23 undef, tmps.getD 24 undef, tmps.getD 25 undef, tmps.getD 26 undef, tmps.getD 27 undef, tmps.getD 28 undef, tmps.getD 29 undef, tmps.getD 30 undef, tmps.getD 31 undef, tmps.getD 32 undef, tmps.getD 33 undef, tmps.getD 34 undef, tmps.getD 35 undef, tmps.getD 36 undef, tmps.getD 37 undef, tmps.getD 38 undef, tmps.getD 39 undef, tmps.getD 40 undef, tmps.getD 41 undef, tmps.getD 42 undef, tmps.getD 43 undef, tmps.getD 44 undef, tmps.getD 45 undef, tmps.getD 46 undef, tmps.getD 47 undef, tmps.getD 48 undef, tmps.getD 49 undef, tmps.getD 50 undef] := by
  have h1 : tmps.toList = (List.range 51).map (fun i => tmps.getD i undef) := by
    apply List.ext_getElem
    · simp [h]
    · intro i h2 h3
      simp at h2
      simp [h2]
  calc tmps = ⟨tmps.toList⟩ := rfl
    _ = ⟨(List.range 51).map (fun i => tmps.getD i undef)⟩ := by rw [h1]
    _ = _ := rfl
theorem FrTy.frame {a : Act} {s0 s3 s4 s5 s11 s12 s13 : Value} (h : FrTy a s0 s3 s4 s5 s11 s12 s13) : ∃ f : Nat → Value, (∀ i, a.tmps.getD i undef = f i) ∧ a = { tmps := #[s0, f 1, f 2, s3, s4, s5, f 6, f 7, f 8, f 9, f 10, s11, s12, s13, f 14, f 15, f 16, f 17, f 18, f 19, f 20, f 21, f 22, f 23, f 24, f 25, f 26, f 27, f 28, f 29, f 30, f 31, f 32, f 33, f 34, f 35, f 36, f 37, f 38, f 39, f 40, f 41, f 42, f 43, f 44, f 45, f 46, f 47, f 48, f 49, f 50], defers := [] } := by
  refine ⟨fun i => a.tmps.getD i undef, fun _ => rfl, ?_⟩
  obtain ⟨tmps, defers⟩ := a
  have h1 := FrTy_slots tmps h.size
  rw [h.e0, h.e3, h.e4, h.e5, h.e11, h.e12, h.e13] at h1
  have h2 := h.marks
  simp only at h2
  rw [h2]
  exact congrArg (fun t => Act.mk t []) h1

set_option maxRecDepth 3000 in
set_option maxHeartbeats 16000000 in
theorem tidy_any (v : Value) (xs : List Oq) (w : World) (hX : OpsAt w v xs) (hl : xs.length ≤ 4398046511104) (hf : Fit xs) :
    Calls Try.prog 22 #[v] w fun e w' => ∃ v', e = .returned v' ∧ OpsAt w' v' (tdy xs) ∧ Below w.heap.size w w' := by
  have HX := hidden hX
  have HF := hidden hf
  obtain ⟨ao, cap, rfl, hc⟩ := hX.open_
  have HC := hidden hc
  clear hX hf hc
  cases hrt : right xs with
  | false =>
    have HT := hidden (show tdy xs = [] by unfold tdy; rw [if_neg (by simp [hrt])])
    have HRT := hidden hrt
    clear hrt
    go_enter Try.func22, Try.ntmps22
    go_wp2_with fail
    refine (oright_any _ xs w HX.out hl HF.out).mono ?_
    rw [HRT.out]
    rintro e w2 ⟨rfl, hb⟩
    have HB2 := hidden hb
    clear hb
    go_wp2_with fail
    go_ret
    exact ⟨_, rfl, by rw [HT.out]; exact OpsAt.nil _ _ _, HB2.out⟩
  | true =>
    have HT := hidden (tdy_normL hrt)
    have HRT := hidden hrt
    have HFT := hidden (td_fit HF.out)
    have HLN := hidden (right_len hrt)
    clear hrt
    go_enter Try.func22, Try.ntmps22
    go_wp2_with fail
    refine (oright_any _ xs w HX.out hl HF.out).mono ?_
    rw [HRT.out]
    rintro e w2 ⟨rfl, hb⟩
    have HS := hidden (show K3 w (tso (xs.take 0)).1 (tso (xs.take 0)).2.1 (tso (xs.take 0)).2.2 (.slice none 0 0) (.slice none 0 0) (.slice none 0 0) w2 from ⟨hb, ⟨rfl, Or.inl ⟨rfl, rfl⟩⟩, ⟨rfl, Or.inl ⟨rfl, rfl⟩⟩, ⟨rfl, Or.inl ⟨rfl, rfl⟩⟩, (fun _ e => by cases e), (fun _ e => by cases e), (fun _ e => by cases e)⟩)
    clear hb
    go_wp2_with fail
    refine wp_loop_ghost_k (fun g a' wr => ∃ (k : Nat) (vo va vb : Value), k ≤ xs.length ∧ FrTy a' (.slice ao xs.length cap) vo va vb (.slice ao xs.length cap) (.int .i64 xs.length) (.int .i64 k) ∧ Hid (g = xs.length - k ∧ K3 w (tso (xs.take k)).1 (tso (xs.take k)).2.1 (tso (xs.take k)).2.2 vo va vb wr)) xs.length ?start ?round
    case start => exact ⟨0, _, _, _, Nat.zero_le _, ⟨rfl, rfl, rfl, rfl, rfl, rfl, rfl, rfl, rfl⟩, ⟨by omega, HS.out⟩⟩
    case round =>
    intro gk _ wr hinv
    obtain ⟨k, u3, u4, u5, hk, hfr, hgs⟩ := hinv
    obtain ⟨ff, hff, ha⟩ := hfr.frame
    clear hff hfr HS
    subst ha
    try dsimp only
    intro _ _ _ _
    have HG := hidden hgs.out.1
    have HK := hidden hgs.out.2
    clear hgs
    have HL2 := hidden (show (tso (xs.take k)).1.length + (tso (xs.take k)).2.1.length + (tso (xs.take k)).2.2.length ≤ 8589934592 ∧ (tso (xs.take k)).2.1.length ≤ 4294967296 ∧ (tso (xs.take k)).2.2.length ≤ 4294967296 by
      have h1 := tso_len (xs.take k)
      have h2 := HLN.out
      rw [List.length_take, Nat.min_eq_left hk] at h1
      omega)
    have HFF := hidden (tso_texts (xs.take k) (fun t => t.length ≤ 140737488355328) (fun x hx _ => HF.out x (List.mem_of_mem_take hx)))
    obtain ⟨s, hs⟩ : ∃ s, tso (xs.take k) = s := ⟨_, rfl⟩
    rw [hs] at HK HL2 HFF
    have HSS := hidden hs
    clear hs
    obtain ⟨O, A, B⟩ := s
    have hl1 := HL2.out.1
    have hl2 := HL2.out.2.1
    have hl3 := HL2.out.2.2
    simp only at hl1 hl2 hl3 HK
    have HFA := hidden (show FitT A from HFF.out.1)
    have HFB := hidden (show FitT B from HFF.out.2)
    have hbs := HK.out.bel.size
    clear HFF HL2
    obtain ⟨a3, n3, c3, hu3⟩ : ∃ a n c, u3 = .slice a n c := by obtain ⟨a, c, e⟩ := (OpsAt.of_owns HK.out.oo).shape; exact ⟨_, _, _, e⟩
    obtain ⟨a4, n4, c4, hu4⟩ : ∃ a n c, u4 = .slice a n c := by obtain ⟨a, c, e⟩ := (RowAt.of_owns HK.out.oa).shape; exact ⟨_, _, _, e⟩
    obtain ⟨a5, n5, c5, hu5⟩ : ∃ a n c, u5 = .slice a n c := by obtain ⟨a, c, e⟩ := (RowAt.of_owns HK.out.ob).shape; exact ⟨_, _, _, e⟩
    subst hu3 hu4 hu5
    have hdl := df_len_le A B
    by_cases hke : k = xs.length
    · subst hke
      have HTD := hidden (show td xs = O ++ df A B by have := HSS.out; rw [List.take_length] at this; unfold td; rw [this])
      go_wp2_with fail
      refine (lcsdiff_any _ _ A B wr (RowAt.of_owns HK.out.oa) (RowAt.of_owns HK.out.ob) hl2 hl3 HFA.out HFB.out).mono ?_
      rintro e w3 ⟨v3, rfl, ho3, hb⟩
      have HK3 := hidden (HK.out.later hb)
      have HO3 := hidden ho3
      have hb3 := HK3.out.bel.size
      clear hb ho3
      go_wp2_with (at_builtin; go_must (refine wpList_append_ops _ (by go_simp) _ _ rfl w.heap.size _ v3 O (df A B) rfl rfl HK3.out.oo HO3.out (by omega) hb3 ?_; intro v9 w9 hown9 hadd9; have HN := hidden (K3.out HK3.out hadd9 hown9); obtain ⟨a9, n9, c9, hv9⟩ : ∃ a n c, v9 = .slice a n c := (by obtain ⟨a, c, e⟩ := (OpsAt.of_owns hown9).shape; exact ⟨_, _, _, e⟩); subst hv9; clear hown9 hadd9))
      refine (onorm_any _ (O ++ df A B) w9 (OpsAt.of_owns HN.out.oo) (by rw [List.length_append]; omega) (by have := HFT.out; rw [HTD.out] at this; exact this)).mono ?_
      rintro e w5 ⟨v5, rfl, ho5, hb⟩
      have HB5 := hidden (HN.out.bel.trans (hb.mono HN.out.bel.size))
      have HO5 := hidden ho5
      obtain ⟨a5, n5, c5, rfl⟩ : ∃ a n c, v5 = .slice a n c := by obtain ⟨a, c, e⟩ := ho5.shape; exact ⟨_, _, _, e⟩
      clear hb ho5
      go_wp2_with fail
      go_ret
      exact ⟨_, rfl, by rw [HT.out, HTD.out]; exact HO5.out, HB5.out⟩
    have hlt : k < xs.length := by omega
    have HGX := hidden (show xs.length - (k + 1) < gk by have := HG.out; omega)
    have HKX := hidden (show k + 1 ≤ xs.length by omega)
    obtain ⟨x1, x2, x3, hx⟩ := op_some hlt
    obtain ⟨b, o, hao, hcap, hb, hcc⟩ := HC.out k _ hx
    subst hao
    obtain ⟨d1, d2, d3⟩ := three_later hb HK.out.bel hcc
    simp only at d1 d2 d3
    have HTS := hidden (show tso (xs.take (k + 1)) = ts (O, A, B) (x1, x2, x3) by rw [tso_take hx, HSS.out])
    have HR1 := hidden (R3.begin HK.out x1 x2 x3)
    unfold opO at HR1
    clear hx hcc hke HK
    go_upto_region 8 with fail
    generalize World.alloc wr _ = W1 at HR1 ⊢
    generalize wr.heap.size = T at HR1 ⊢
    clear d1 d2 d3 hb hbs
    obtain ⟨f1, f2, f3⟩ := HR1.out.c.cells
    by_cases h1 : x1 = 1
    · subst h1
      have HTS2 := hidden (show tso (xs.take (k + 1)) = (O ++ df A B ++ [(1, x2, x3)], [], []) by rw [HTS.out]; unfold ts; rw [if_pos rfl])
      clear HTS
      go_upto_region 9 with fail
      clear f1 f2 f3
      refine wp_region_held_drew (S := fun X => X.cell? ⟨T, 0, none⟩ = some (.int .i64 1) ∧ X.cell? ⟨T, 1, none⟩ = some (.int .i64 x2) ∧ X.cell? ⟨T, 2, none⟩ = some (.string ⟨x3.toArray⟩)) (by kernel_rfl) HR1.out.drew.c.cells (fun hHeld => ?_)
      have HR2 := hidden HR1.out.drew
      clear HR1
      refine wpAnyH_take (i := 0) (oi := ({ dst := some 20, op := Op.move (Operand.tmp 3), type := 22, pos := "tidy.go:20", after := #[], guard := none } : Oper)) (v := ?_) rfl (by kernel_rfl) (by kernel_rfl) (by kernel_rfl) (fun _ _ _ h => h) (Or.inl ⟨by rfl, ?_⟩) (by assumption) ?_
      rotate_left
      · (intro w hSw; (try dsimp only at hSw); (go_simp <;> with_reducible rfl))
      simp only [Act.put, List.setIfInBounds_toArray, List.set_cons_zero, List.set_cons_succ]
      refine wpAnyH_take (i := 1) (oi := ({ dst := some 21, op := Op.move (Operand.tmp 4), type := 28, pos := "tidy.go:20", after := #[], guard := none } : Oper)) (v := ?_) rfl (by kernel_rfl) (by kernel_rfl) (by kernel_rfl) (fun _ _ _ h => h) (Or.inl ⟨by rfl, ?_⟩) (by assumption) ?_
      rotate_left
      · (intro w hSw; (try dsimp only at hSw); (go_simp <;> with_reducible rfl))
      simp only [Act.put, List.setIfInBounds_toArray, List.set_cons_zero, List.set_cons_succ]
      refine wpAnyH_take (i := 2) (oi := ({ dst := some 22, op := Op.move (Operand.tmp 5), type := 28, pos := "tidy.go:20", after := #[], guard := none } : Oper)) (v := ?_) rfl (by kernel_rfl) (by kernel_rfl) (by kernel_rfl) (fun _ _ _ h => h) (Or.inl ⟨by rfl, ?_⟩) (by assumption) ?_
      rotate_left
      · (intro w hSw; (try dsimp only at hSw); (go_simp <;> with_reducible rfl))
      simp only [Act.put, List.setIfInBounds_toArray, List.set_cons_zero, List.set_cons_succ]
      refine wpAnyH_take (i := 5) (oi := ({ dst := some 25, op := Op.load 37 (Operand.tmp 7), type := 37, pos := "tidy.go:20", after := #[], guard := none } : Oper)) (v := ?_) rfl (by kernel_rfl) (by kernel_rfl) (by kernel_rfl) (fun _ _ _ h => h) (Or.inl ⟨by rfl, ?_⟩) (by assumption) ?_
      rotate_left
      · (intro w hSw; (try dsimp only at hSw); (go_simp <;> with_reducible rfl))
      simp only [Act.put, List.setIfInBounds_toArray, List.set_cons_zero, List.set_cons_succ]
      refine wpAnyH_ready (rs := [3, 6]) (by kernel_rfl) (by simp) ?_
      refine AllReadyH.cons (o := ({ dst := some 23, op := Op.call { callee := Callee.value (Operand.func 43), args := #[Operand.tmp 21, Operand.tmp 22], argTypes := #[28, 28] }, type := 22, pos := "tidy.go:20", after := #[{ on := 1, ground := Ground.data }, { on := 2, ground := Ground.data }], guard := none } : Oper)) rfl (fun K hK => ?_) (AllReadyH.cons (o := ({ dst := some 26, op := Op.buildSlice 22 1 #[(0, Operand.tmp 25)], type := 22, pos := "tidy.go:20", after := #[{ on := 5, ground := Ground.data }], guard := none } : Oper)) rfl (fun K hK => ?_) AllReadyH.nil)
      · refine step_call rfl 43 _ _ rfl #[.slice a4 n4 c4, .slice a5 n5 c5] (by simp [Act.eval]) (enters_of Try.func43 (by kernel_rfl) rfl) (lcsdiff_any _ _ A B _ (RowAt.of_owns HR2.out.k.oa) (RowAt.of_owns HR2.out.k.ob) hl2 hl3 HFA.out HFB.out) ?_
        rintro e5 w5 ⟨v5, rfl, ho5, hb5⟩
        have HR3 := hidden (HR2.out.later hb5)
        have HO5 := hidden ho5
        obtain ⟨a6, n6, c6, hv6⟩ : ∃ a n c, v5 = .slice a n c := by obtain ⟨a, c, e⟩ := ho5.shape; exact ⟨_, _, _, e⟩
        subst hv6
        clear ho5 hb5
        refine ⟨_, rfl, ?_⟩
        refine hK.out _ _ (HR3.out.c.cells) (fun hHeld => ?_)
        clear hK K
        try simp only [Act.put, List.setIfInBounds_toArray, List.set_cons_zero, List.set_cons_succ]
        refine wpAnyH_ready (rs := [4, 6]) (by kernel_rfl) (by simp) ?_
        refine AllReadyH.cons (o := ({ dst := some 24, op := Op.call { callee := Callee.builtin Builtin.append, args := #[Operand.tmp 20, Operand.tmp 23], argTypes := #[22, 22] }, type := 22, pos := "tidy.go:20", after := #[{ on := 0, ground := Ground.data }, { on := 3, ground := Ground.data }, { on := 3, ground := Ground.chain }], guard := none } : Oper)) rfl (fun K hK => ?_) (AllReadyH.cons (o := ({ dst := some 26, op := Op.buildSlice 22 1 #[(0, Operand.tmp 25)], type := 22, pos := "tidy.go:20", after := #[{ on := 5, ground := Ground.data }], guard := none } : Oper)) rfl (fun K hK => ?_) AllReadyH.nil)
        · refine step_append_ops _ (by rfl) (.tmp 20) (.tmp 23) rfl w.heap.size _ _ O (df A B) rfl rfl HR3.out.k.oo HO5.out (by omega) HR3.out.k.bel.size ?_
          intro v9 w9 hown9 hadd9
          have HR4 := hidden (HR3.out.out hadd9 hown9)
          obtain ⟨a9, n9, c9, hv9⟩ : ∃ a n c, v9 = .slice a n c := by obtain ⟨a, c, e⟩ := (OpsAt.of_owns hown9).shape; exact ⟨_, _, _, e⟩
          subst hv9
          clear hown9 hadd9
          refine hK.out _ _ (HR4.out.c.cells) (fun hHeld => ?_)
          clear hK K
          try simp only [Act.put, List.setIfInBounds_toArray, List.set_cons_zero, List.set_cons_succ]
          refine wpAnyH_ready (rs := [6]) (by kernel_rfl) (by simp) ?_
          refine AllReadyH.cons (o := ({ dst := some 26, op := Op.buildSlice 22 1 #[(0, Operand.tmp 25)], type := 22, pos := "tidy.go:20", after := #[{ on := 5, ground := Ground.data }], guard := none } : Oper)) rfl (fun K hK => ?_) AllReadyH.nil
          have HG5 := hidden (R3.begin HR4.out.k 1 x2 x3)
          have HR5 := hidden (HR4.out.alloc (opO 1 x2 x3))
          unfold opO at HG5 HR5
          go_simp
          refine hK.out _ _ (HR5.out.c.cells) (fun hHeld => ?_)
          clear hK K
          try simp only [Act.put, List.setIfInBounds_toArray, List.set_cons_zero, List.set_cons_succ]
          have HG5X := HR5.out
          refine wpAnyH_ready (rs := [7]) (by kernel_rfl) (by simp) ?_
          refine AllReadyH.cons (o := ({ dst := some 27, op := Op.call { callee := Callee.builtin Builtin.append, args := #[Operand.tmp 24, Operand.tmp 26], argTypes := #[22, 22] }, type := 22, pos := "tidy.go:20", after := #[{ on := 4, ground := Ground.data }, { on := 6, ground := Ground.data }, { on := 4, ground := Ground.chain }], guard := none } : Oper)) rfl (fun K hK => ?_) AllReadyH.nil
          refine step_append_ops _ (by rfl) (.tmp 24) (.tmp 26) rfl w.heap.size _ _ (O ++ df A B) [(1, x2, x3)] rfl rfl HG5.out.k.oo HG5.out.c.ops (by rw [List.length_append]; simp only [List.length_cons, List.length_nil]; omega) HG5.out.k.bel.size ?_
          intro v10 w10 hown10 hadd10
          have HN := hidden (K3.cut (K3.out HG5.out.k hadd10 hown10))
          have HE := hidden (HG5X.out hadd10 hown10)
          obtain ⟨a10, n10, c10, hv10⟩ : ∃ a n c, v10 = .slice a n c := by obtain ⟨a, c, e⟩ := (OpsAt.of_owns hown10).shape; exact ⟨_, _, _, e⟩
          subst hv10
          clear hown10 hadd10
          refine hK.out _ _ (HE.out.c.cells) (fun hHeld => ?_)
          clear hK K
          try simp only [Act.put, List.setIfInBounds_toArray, List.set_cons_zero, List.set_cons_succ]
          refine wpAnyH_take (i := 8) (oi := ({ dst := some 3, op := Op.assign (Operand.tmp 27), type := 22, pos := "tidy.go:20", after := #[{ on := 7, ground := Ground.data }, { on := 7, ground := Ground.chain }, { on := 0, ground := Ground.phase }, { on := 1, ground := Ground.phase }, { on := 2, ground := Ground.phase }, { on := 3, ground := Ground.phase }, { on := 4, ground := Ground.phase }, { on := 5, ground := Ground.phase }, { on := 6, ground := Ground.phase }, { on := 7, ground := Ground.phase }], guard := none } : Oper)) (v := ?_) rfl (by kernel_rfl) (by kernel_rfl) (by kernel_rfl) (fun _ _ _ h => h) (Or.inl ⟨by rfl, ?_⟩) (by assumption) ?_
          rotate_left
          · (intro w hSw; (try dsimp only at hSw); (go_simp <;> with_reducible rfl))
          simp only [Act.put, List.setIfInBounds_toArray, List.set_cons_zero, List.set_cons_succ]
          refine wpAnyH_done (by kernel_rfl) ?_ _
          clear HE
          go_wp2_with fail
          refine Handed.intro (xs.length - (k + 1)) HGX.out ?_
          go_step
          exact ⟨k + 1, _, _, _, HKX.out, ⟨rfl, rfl, rfl, rfl, rfl, rfl, rfl, rfl, rfl⟩, ⟨rfl, by rw [HTS2.out]; exact HN.out⟩⟩
        · have HG4 := hidden (R3.begin HR3.out.k 1 x2 x3)
          have HR4 := hidden (HR3.out.alloc (opO 1 x2 x3))
          unfold opO at HG4 HR4
          go_simp
          refine hK.out _ _ (HR4.out.c.cells) (fun hHeld => ?_)
          clear hK K
          try simp only [Act.put, List.setIfInBounds_toArray, List.set_cons_zero, List.set_cons_succ]
          refine wpAnyH_ready (rs := [4]) (by kernel_rfl) (by simp) ?_
          refine AllReadyH.cons (o := ({ dst := some 24, op := Op.call { callee := Callee.builtin Builtin.append, args := #[Operand.tmp 20, Operand.tmp 23], argTypes := #[22, 22] }, type := 22, pos := "tidy.go:20", after := #[{ on := 0, ground := Ground.data }, { on := 3, ground := Ground.data }, { on := 3, ground := Ground.chain }], guard := none } : Oper)) rfl (fun K hK => ?_) AllReadyH.nil
          refine step_append_ops _ (by rfl) (.tmp 20) (.tmp 23) rfl w.heap.size _ _ O (df A B) rfl rfl HR4.out.k.oo (HO5.out.later (bel_alloc (Below.refl _ _) _)) (by omega) HR4.out.k.bel.size ?_
          intro v9 w9 hown9 hadd9
          have HR5 := hidden (HR4.out.out hadd9 hown9)
          have HG5 := hidden (HG4.out.out hadd9 hown9)
          obtain ⟨a9, n9, c9, hv9⟩ : ∃ a n c, v9 = .slice a n c := by obtain ⟨a, c, e⟩ := (OpsAt.of_owns hown9).shape; exact ⟨_, _, _, e⟩
          subst hv9
          clear hown9 hadd9
          refine hK.out _ _ (HR5.out.c.cells) (fun hHeld => ?_)
          clear hK K
          try simp only [Act.put, List.setIfInBounds_toArray, List.set_cons_zero, List.set_cons_succ]
          have HG5X := HR5.out
          refine wpAnyH_ready (rs := [7]) (by kernel_rfl) (by simp) ?_
          refine AllReadyH.cons (o := ({ dst := some 27, op := Op.call { callee := Callee.builtin Builtin.append, args := #[Operand.tmp 24, Operand.tmp 26], argTypes := #[22, 22] }, type := 22, pos := "tidy.go:20", after := #[{ on := 4, ground := Ground.data }, { on := 6, ground := Ground.data }, { on := 4, ground := Ground.chain }], guard := none } : Oper)) rfl (fun K hK => ?_) AllReadyH.nil
          refine step_append_ops _ (by rfl) (.tmp 24) (.tmp 26) rfl w.heap.size _ _ (O ++ df A B) [(1, x2, x3)] rfl rfl HG5.out.k.oo HG5.out.c.ops (by rw [List.length_append]; simp only [List.length_cons, List.length_nil]; omega) HG5.out.k.bel.size ?_
          intro v10 w10 hown10 hadd10
          have HN := hidden (K3.cut (K3.out HG5.out.k hadd10 hown10))
          have HE := hidden (HG5X.out hadd10 hown10)
          obtain ⟨a10, n10, c10, hv10⟩ : ∃ a n c, v10 = .slice a n c := by obtain ⟨a, c, e⟩ := (OpsAt.of_owns hown10).shape; exact ⟨_, _, _, e⟩
          subst hv10
          clear hown10 hadd10
          refine hK.out _ _ (HE.out.c.cells) (fun hHeld => ?_)
          clear hK K
          try simp only [Act.put, List.setIfInBounds_toArray, List.set_cons_zero, List.set_cons_succ]
          refine wpAnyH_take (i := 8) (oi := ({ dst := some 3, op := Op.assign (Operand.tmp 27), type := 22, pos := "tidy.go:20", after := #[{ on := 7, ground := Ground.data }, { on := 7, ground := Ground.chain }, { on := 0, ground := Ground.phase }, { on := 1, ground := Ground.phase }, { on := 2, ground := Ground.phase }, { on := 3, ground := Ground.phase }, { on := 4, ground := Ground.phase }, { on := 5, ground := Ground.phase }, { on := 6, ground := Ground.phase }, { on := 7, ground := Ground.phase }], guard := none } : Oper)) (v := ?_) rfl (by kernel_rfl) (by kernel_rfl) (by kernel_rfl) (fun _ _ _ h => h) (Or.inl ⟨by rfl, ?_⟩) (by assumption) ?_
          rotate_left
          · (intro w hSw; (try dsimp only at hSw); (go_simp <;> with_reducible rfl))
          simp only [Act.put, List.setIfInBounds_toArray, List.set_cons_zero, List.set_cons_succ]
          refine wpAnyH_done (by kernel_rfl) ?_ _
          clear HE
          go_wp2_with fail
          refine Handed.intro (xs.length - (k + 1)) HGX.out ?_
          go_step
          exact ⟨k + 1, _, _, _, HKX.out, ⟨rfl, rfl, rfl, rfl, rfl, rfl, rfl, rfl, rfl⟩, ⟨rfl, by rw [HTS2.out]; exact HN.out⟩⟩
      · have HG3 := hidden (R3.begin HR2.out.k 1 x2 x3)
        have HR3 := hidden (HR2.out.alloc (opO 1 x2 x3))
        unfold opO at HG3 HR3
        go_simp
        refine hK.out _ _ (HR3.out.c.cells) (fun hHeld => ?_)
        clear hK K
        try simp only [Act.put, List.setIfInBounds_toArray, List.set_cons_zero, List.set_cons_succ]
        refine wpAnyH_ready (rs := [3]) (by kernel_rfl) (by simp) ?_
        refine AllReadyH.cons (o := ({ dst := some 23, op := Op.call { callee := Callee.value (Operand.func 43), args := #[Operand.tmp 21, Operand.tmp 22], argTypes := #[28, 28] }, type := 22, pos := "tidy.go:20", after := #[{ on := 1, ground := Ground.data }, { on := 2, ground := Ground.data }], guard := none } : Oper)) rfl (fun K hK => ?_) AllReadyH.nil
        refine step_call rfl 43 _ _ rfl #[.slice a4 n4 c4, .slice a5 n5 c5] (by simp [Act.eval]) (enters_of Try.func43 (by kernel_rfl) rfl) (lcsdiff_any _ _ A B _ (RowAt.of_owns HR3.out.k.oa) (RowAt.of_owns HR3.out.k.ob) hl2 hl3 HFA.out HFB.out) ?_
        rintro e5 w5 ⟨v5, rfl, ho5, hb5⟩
        have HR4 := hidden (HR3.out.later hb5)
        have HO5 := hidden ho5
        have HG4 := hidden (HG3.out.later hb5)
        obtain ⟨a6, n6, c6, hv6⟩ : ∃ a n c, v5 = .slice a n c := by obtain ⟨a, c, e⟩ := ho5.shape; exact ⟨_, _, _, e⟩
        subst hv6
        clear ho5 hb5
        refine ⟨_, rfl, ?_⟩
        refine hK.out _ _ (HR4.out.c.cells) (fun hHeld => ?_)
        clear hK K
        try simp only [Act.put, List.setIfInBounds_toArray, List.set_cons_zero, List.set_cons_succ]
        refine wpAnyH_ready (rs := [4]) (by kernel_rfl) (by simp) ?_
        refine AllReadyH.cons (o := ({ dst := some 24, op := Op.call { callee := Callee.builtin Builtin.append, args := #[Operand.tmp 20, Operand.tmp 23], argTypes := #[22, 22] }, type := 22, pos := "tidy.go:20", after := #[{ on := 0, ground := Ground.data }, { on := 3, ground := Ground.data }, { on := 3, ground := Ground.chain }], guard := none } : Oper)) rfl (fun K hK => ?_) AllReadyH.nil
        refine step_append_ops _ (by rfl) (.tmp 20) (.tmp 23) rfl w.heap.size _ _ O (df A B) rfl rfl HR4.out.k.oo HO5.out (by omega) HR4.out.k.bel.size ?_
        intro v9 w9 hown9 hadd9
        have HR5 := hidden (HR4.out.out hadd9 hown9)
        have HG5 := hidden (HG4.out.out hadd9 hown9)
        obtain ⟨a9, n9, c9, hv9⟩ : ∃ a n c, v9 = .slice a n c := by obtain ⟨a, c, e⟩ := (OpsAt.of_owns hown9).shape; exact ⟨_, _, _, e⟩
        subst hv9
        clear hown9 hadd9
        refine hK.out _ _ (HR5.out.c.cells) (fun hHeld => ?_)
        clear hK K
        try simp only [Act.put, List.setIfInBounds_toArray, List.set_cons_zero, List.set_cons_succ]
        have HG5X := HR5.out
        refine wpAnyH_ready (rs := [7]) (by kernel_rfl) (by simp) ?_
        refine AllReadyH.cons (o := ({ dst := some 27, op := Op.call { callee := Callee.builtin Builtin.append, args := #[Operand.tmp 24, Operand.tmp 26], argTypes := #[22, 22] }, type := 22, pos := "tidy.go:20", after := #[{ on := 4, ground := Ground.data }, { on := 6, ground := Ground.data }, { on := 4, ground := Ground.chain }], guard := none } : Oper)) rfl (fun K hK => ?_) AllReadyH.nil
        refine step_append_ops _ (by rfl) (.tmp 24) (.tmp 26) rfl w.heap.size _ _ (O ++ df A B) [(1, x2, x3)] rfl rfl HG5.out.k.oo HG5.out.c.ops (by rw [List.length_append]; simp only [List.length_cons, List.length_nil]; omega) HG5.out.k.bel.size ?_
        intro v10 w10 hown10 hadd10
        have HN := hidden (K3.cut (K3.out HG5.out.k hadd10 hown10))
        have HE := hidden (HG5X.out hadd10 hown10)
        obtain ⟨a10, n10, c10, hv10⟩ : ∃ a n c, v10 = .slice a n c := by obtain ⟨a, c, e⟩ := (OpsAt.of_owns hown10).shape; exact ⟨_, _, _, e⟩
        subst hv10
        clear hown10 hadd10
        refine hK.out _ _ (HE.out.c.cells) (fun hHeld => ?_)
        clear hK K
        try simp only [Act.put, List.setIfInBounds_toArray, List.set_cons_zero, List.set_cons_succ]
        refine wpAnyH_take (i := 8) (oi := ({ dst := some 3, op := Op.assign (Operand.tmp 27), type := 22, pos := "tidy.go:20", after := #[{ on := 7, ground := Ground.data }, { on := 7, ground := Ground.chain }, { on := 0, ground := Ground.phase }, { on := 1, ground := Ground.phase }, { on := 2, ground := Ground.phase }, { on := 3, ground := Ground.phase }, { on := 4, ground := Ground.phase }, { on := 5, ground := Ground.phase }, { on := 6, ground := Ground.phase }, { on := 7, ground := Ground.phase }], guard := none } : Oper)) (v := ?_) rfl (by kernel_rfl) (by kernel_rfl) (by kernel_rfl) (fun _ _ _ h => h) (Or.inl ⟨by rfl, ?_⟩) (by assumption) ?_
        rotate_left
        · (intro w hSw; (try dsimp only at hSw); (go_simp <;> with_reducible rfl))
        simp only [Act.put, List.setIfInBounds_toArray, List.set_cons_zero, List.set_cons_succ]
        refine wpAnyH_done (by kernel_rfl) ?_ _
        clear HE
        go_wp2_with fail
        refine Handed.intro (xs.length - (k + 1)) HGX.out ?_
        go_step
        exact ⟨k + 1, _, _, _, HKX.out, ⟨rfl, rfl, rfl, rfl, rfl, rfl, rfl, rfl, rfl⟩, ⟨rfl, by rw [HTS2.out]; exact HN.out⟩⟩
    have h1b : (x1 == 1) = false := by simpa using h1
    by_cases h4 : x1 = 4
    · subst h4
      have HTS2 := hidden (show tso (xs.take (k + 1)) = (O, A, B ++ [x3]) by rw [HTS.out]; unfold ts; simp)
      go_wp2_with (at_builtin; go_must (refine wpList_append_txt _ (by go_simp) (.tmp 39) (.tmp 42) rfl w.heap.size _ (.slice (some ⟨W1.heap.size, 0, none⟩) 1 1) B [x3] rfl rfl (HR1.out.k.ob.alloc _) (row_one _ _ _ rfl) (by simp; omega) (by have := HR1.out.k.bel.size; simp; omega) ?_; intro v9 w9 hown9 hadd9; have HN := hidden (R3.second (HR1.out.alloc (.cells #[.string ⟨x3.toArray⟩] 9)) hadd9 hown9); clear hown9 hadd9))
      refine Handed.intro (xs.length - (k + 1)) HGX.out ?_
      go_step
      exact ⟨k + 1, _, _, _, HKX.out, ⟨rfl, rfl, rfl, rfl, rfl, rfl, rfl, rfl, rfl⟩, ⟨rfl, by rw [HTS2.out]; exact HN.out.k⟩⟩
    have h4b : (x1 != 4) = true := by simpa using h4
    have h4c : (x1 == 4) = false := by simpa using h4
    by_cases h3 : x1 = 3
    · subst h3
      have HTS2 := hidden (show tso (xs.take (k + 1)) = (O, A ++ [x3], B) by rw [HTS.out]; unfold ts; simp)
      go_wp2_with (at_builtin; go_must (refine wpList_append_txt _ (by go_simp) (.tmp 31) (.tmp 34) rfl w.heap.size _ (.slice (some ⟨W1.heap.size, 0, none⟩) 1 1) A [x3] rfl rfl (HR1.out.k.oa.alloc _) (row_one _ _ _ rfl) (by simp; omega) (by have := HR1.out.k.bel.size; simp; omega) ?_; intro v9 w9 hown9 hadd9; have HN := hidden (R3.first (HR1.out.alloc (.cells #[.string ⟨x3.toArray⟩] 9)) hadd9 hown9); obtain ⟨e1, e2, e3⟩ := HN.out.c.cells; clear hown9 hadd9))
      refine Handed.intro (xs.length - (k + 1)) HGX.out ?_
      go_step
      exact ⟨k + 1, _, _, _, HKX.out, ⟨rfl, rfl, rfl, rfl, rfl, rfl, rfl, rfl, rfl⟩, ⟨rfl, by rw [HTS2.out]; exact HN.out.k⟩⟩
    have h3b : (x1 != 3) = true := by simpa using h3
    have h3c : (x1 == 3) = false := by simpa using h3
    have HTS2 := hidden (show tso (xs.take (k + 1)) = (O, A ++ [x3], B ++ [x3]) by rw [HTS.out]; unfold ts; rw [if_neg h1, if_neg h4, if_neg h3])
    clear h1 h3 h4
    go_upto_region 13 with (at_builtin; go_must (refine wpList_append_txt _ (by go_simp) (.tmp 31) (.tmp 34) rfl w.heap.size _ (.slice (some ⟨W1.heap.size, 0, none⟩) 1 1) A [x3] rfl rfl (HR1.out.k.oa.alloc _) (row_one _ _ _ rfl) (by simp; omega) (by have := HR1.out.k.bel.size; simp; omega) ?_; intro v9 w9 hown9 hadd9; have HN9 := hidden (R3.first (HR1.out.alloc (.cells #[.string ⟨x3.toArray⟩] 9)) hadd9 hown9); clear hown9 hadd9))
    clear f1 f2 f3
    obtain ⟨e1, e2, e3⟩ := HN9.out.c.cells
    go_wp2_with (at_builtin; go_must (refine wpList_append_txt _ (by go_simp) (.tmp 39) (.tmp 42) rfl w.heap.size _ (.slice (some ⟨w9.heap.size, 0, none⟩) 1 1) B [x3] rfl rfl (HN9.out.k.ob.alloc _) (row_one _ _ _ rfl) (by simp; omega) (by have := HN9.out.k.bel.size; simp; omega) ?_; intro v10 w10 hown10 hadd10; have HN := hidden (R3.second (HN9.out.alloc (.cells #[.string ⟨x3.toArray⟩] 9)) hadd10 hown10); clear hown10 hadd10))
    refine Handed.intro (xs.length - (k + 1)) HGX.out ?_
    go_step
    exact ⟨k + 1, _, _, _, HKX.out, ⟨rfl, rfl, rfl, rfl, rfl, rfl, rfl, rfl, rfl⟩, ⟨rfl, by rw [HTS2.out]; exact HN.out.k⟩⟩

end Go.Proofs.Ytmbalnjobcgpkaa
