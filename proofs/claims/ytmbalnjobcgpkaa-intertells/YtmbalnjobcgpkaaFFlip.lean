
/-
  What the program's own Ops (flip) answers at any steps that lie in memory; conditions: the list's and the texts' lengths.
-/
import Derived.Test.YtmbalnjobcgpkaaOPNorm
import Derived.Test.YtmbalnjobcgpkaaADoneOpen
import Derived.Test.YtmbalnjobcgpkaaFPlain
import Derived.Test.YtmbalnjobcgpkaaONorm
import Derived.Lib.SliceRun
namespace Go.Proofs.Ytmbalnjobcgpkaa
open Go.RowKit Go.Proofs.Ytmbalnjobcgpkaa.Ln Go.Proofs.Ytmbalnjobcgpkaa.Ol

theorem fit_flp {l : List Oq} (h : Fit l) : Fit (flp l) := by
  intro x hx
  obtain ⟨y, hy, rfl⟩ := List.mem_map.1 hx
  exact h y hy

set_option maxRecDepth 3000 in
set_option maxHeartbeats 8000000 in
theorem pflip_any (v : Value) (xs : List Oq) (w : World) (hX : OpsAt w v xs) (hl : xs.length ≤ 4398046511104) (hf : Fit xs) :
    Calls Try.prog 23 #[v] w fun e w' => ∃ v', e = .returned v' ∧ OpsAt w' v' (flN xs) ∧ Below w.heap.size w w' := by
  have HF := hidden hf
  have HX := hidden hX
  obtain ⟨ao, cap, rfl, hc⟩ := hX.open_
  have HC := hidden hc
  clear hX hf hc
  cases hrt : right xs with
  | false =>
    have HN := hidden (show flN xs = [] by unfold flN; rw [if_neg (by simp [hrt])])
    have HRT := hidden hrt
    clear hrt
    go_enter Try.func23, Try.ntmps23
    go_wp2_with fail
    refine (pright_any _ xs w HX.out (by omega) HF.out).mono ?_
    rw [HRT.out]
    rintro e w2 ⟨rfl, hb2⟩
    have HB2 := hidden hb2
    clear hb2
    go_wp2_with fail
    go_ret
    exact ⟨_, rfl, by rw [HN.out]; exact OpsAt.nil _ _ _, HB2.out⟩
  | true =>
    have HN := hidden (show flN xs = nrm (flp xs) by unfold flN; rw [if_pos hrt])
    have HRT := hidden hrt
    have HAL := hidden (flp_al0 (right_al0 hrt))
    have HTT := hidden (show tot 3 (flp xs) ≤ 549755813888 by rw [(flp_tot xs).1]; have := (right_parts hrt).2.2.2.2; omega)
    clear hrt
    go_enter Try.func23, Try.ntmps23
    go_wp2_with fail
    refine (pright_any _ xs w HX.out (by omega) HF.out).mono ?_
    rw [HRT.out]
    rintro e w2 ⟨rfl, hb2⟩
    have HB2 := hidden hb2
    clear hb2
    go_wp2_with fail
    go_loopw [3, 4] (fun q i wr => ∃ k : Nat, k ≤ xs.length ∧ i = .int .i64 k ∧ Hid (wr.ownsRow w.heap.size 37 3 q k (cellsO (flp (xs.take k))) ∧ Below w.heap.size w wr)) (fun _ i _ => xs.length - (intOf i).toNat)
    case atStart => exact ⟨0, Nat.zero_le _, rfl, ⟨rfl, Or.inl ⟨rfl, rfl⟩⟩, HB2.out⟩
    case round =>
      obtain ⟨k, hk, rfl, hst⟩ := hrel
      have hws := hst.out.2.size
      have HLK := hidden (show (flp (xs.take k)).length = k by rw [flp_len, List.length_take, Nat.min_eq_left hk])
      by_cases hlt : k < xs.length
      · obtain ⟨x1, x2, x3, hx⟩ := op_some hlt
        obtain ⟨b, o, hao, hcap, hb, hcc⟩ := HC.out k _ hx
        subst hao
        obtain ⟨c1, c2, c3⟩ := three_later hb hst.out.2 hcc
        simp only at c1 c2 c3
        have HXK := hidden (show flp (xs.take (k + 1)) = flp (xs.take k) ++ [fl (x1, x2, x3)] by rw [take_snoc hx, flp_app, flp_one])
        clear hx hcc
        by_cases h3 : x1 = 3
        · subst h3
          have HXQ := hidden (show flp (xs.take (k + 1)) = flp (xs.take k) ++ [(4, x2, x3)] from HXK.out)
          go_wp2_with (at_builtin; go_must (refine wpList_append_ops _ (by go_simp) (.tmp 27) (.tmp 29) rfl w.heap.size _ (.slice (some ⟨wr.heap.size + 1, 0, none⟩) 1 1) (flp (xs.take k)) [(4, x2, x3)] rfl rfl (by rw [HLK.out]; exact (hst.out.1.alloc _).alloc _) (ops_oneAt _ _ _ _ _ (by simp)) (by rw [HLK.out]; simp; omega) (by simp; omega) ?_; intro v9 w9 hown9 hadd9))
          have HK := hidden (show w9.ownsRow w.heap.size 37 3 v9 (k + 1) (cellsO (flp (xs.take (k + 1)))) ∧ Below w.heap.size w w9 from ⟨by
            rw [List.length_append, HLK.out] at hown9
            rw [HXQ.out]; exact hown9, adds_bel (bel_alloc (bel_alloc hst.out.2 _) _) (by simp; omega) ((hst.out.1.alloc (opO 4 x2 x3)).alloc (opO 4 x2 x3)) hadd9⟩)
          clear hown9 hadd9
          go_roundw
          case rel => exact ⟨k + 1, by omega, by go_num, HK.out⟩
          case measure => simp [intOf]; omega
        · have h3b : (x1 == 3) = false := by simpa using h3
          by_cases h4 : x1 = 4
          · subst h4
            have HXQ := hidden (show flp (xs.take (k + 1)) = flp (xs.take k) ++ [(3, x2, x3)] from HXK.out)
            go_wp2_with (at_builtin; go_must (refine wpList_append_ops _ (by go_simp) (.tmp 27) (.tmp 29) rfl w.heap.size _ (.slice (some ⟨wr.heap.size + 1, 0, none⟩) 1 1) (flp (xs.take k)) [(3, x2, x3)] rfl rfl (by rw [HLK.out]; exact (hst.out.1.alloc _).alloc _) (ops_oneAt _ _ _ _ _ (by simp)) (by rw [HLK.out]; simp; omega) (by simp; omega) ?_; intro v9 w9 hown9 hadd9))
            have HK := hidden (show w9.ownsRow w.heap.size 37 3 v9 (k + 1) (cellsO (flp (xs.take (k + 1)))) ∧ Below w.heap.size w w9 from ⟨by
              rw [List.length_append, HLK.out] at hown9
              rw [HXQ.out]; exact hown9, adds_bel (bel_alloc (bel_alloc hst.out.2 _) _) (by simp; omega) ((hst.out.1.alloc (opO 3 x2 x3)).alloc (opO 3 x2 x3)) hadd9⟩)
            clear hown9 hadd9
            go_roundw
            case rel => exact ⟨k + 1, by omega, by go_num, HK.out⟩
            case measure => simp [intOf]; omega
          · have h4b : (x1 == 4) = false := by simpa using h4
            have HXQ := hidden (show flp (xs.take (k + 1)) = flp (xs.take k) ++ [(x1, x2, x3)] by rw [HXK.out, fl_stay (x := (x1, x2, x3)) h3 h4])
            go_wp2_with (at_builtin; go_must (refine wpList_append_ops _ (by go_simp) (.tmp 27) (.tmp 29) rfl w.heap.size _ (.slice (some ⟨wr.heap.size + 1, 0, none⟩) 1 1) (flp (xs.take k)) [(x1, x2, x3)] rfl rfl (by rw [HLK.out]; exact (hst.out.1.alloc _).alloc _) (ops_oneAt _ _ _ _ _ (by simp)) (by rw [HLK.out]; simp; omega) (by simp; omega) ?_; intro v9 w9 hown9 hadd9))
            have HK := hidden (show w9.ownsRow w.heap.size 37 3 v9 (k + 1) (cellsO (flp (xs.take (k + 1)))) ∧ Below w.heap.size w w9 from ⟨by
              rw [List.length_append, HLK.out] at hown9
              rw [HXQ.out]; exact hown9, adds_bel (bel_alloc (bel_alloc hst.out.2 _) _) (by simp; omega) ((hst.out.1.alloc (opO x1 x2 x3)).alloc (opO x1 x2 x3)) hadd9⟩)
            clear hown9 hadd9
            go_roundw
            case rel => exact ⟨k + 1, by omega, by go_num, HK.out⟩
            case measure => simp [intOf]; omega
      · have hke : xs.take k = xs := List.take_of_length_le (by omega)
        rw [hke] at hst HLK
        have HOP := hidden (OpsAt.of_owns hst.out.1)
        have HLL := hidden (show (flp xs).length ≤ 4398046511104 by rw [flp_len]; exact hl)
        obtain ⟨a5, n5, p5, rfl⟩ : ∃ a n c, u3 = .slice a n c := by obtain ⟨a, c, e⟩ := HOP.out.shape; exact ⟨_, _, _, e⟩
        go_wp2_with fail
        refine (pnorm_any _ (flp xs) wr HOP.out HLL.out HAL.out HTT.out).mono ?_
        rintro e w5 ⟨v5, rfl, ho5, hb5⟩
        have HB5 := hidden (hst.out.2.trans (hb5.mono hst.out.2.size))
        have HO5 := hidden ho5
        clear hb5 ho5
        go_wp2_with fail
        go_ret
        exact ⟨_, rfl, by rw [HN.out]; exact HO5.out, HB5.out⟩

end Go.Proofs.Ytmbalnjobcgpkaa

namespace Go.Proofs.Ytmbalnjobcgpkaa
open Go.RowKit Go.Proofs.Ytmbalnjobcgpkaa.Ln Go.Proofs.Ytmbalnjobcgpkaa.Ol

/-- the kind that undoes a kind -/
def tk (z : Int) : Int := if z = 3 then 4 else if z = 4 then 3 else z
theorem fl_tk (x : Oq) : fl x = (tk x.1, x.2) := rfl
theorem turned_any (z : Int) (w : World) : Calls Try.prog 42 #[.int .i64 z] w fun e w' => e = .returned (.int .i64 (tk z)) ∧ w' = w := by
  by_cases h3 : z = 3
  · subst h3
    go_enter Try.func42, Try.ntmps42
    go_wp2_with fail
    go_ret
    exact ⟨rfl, rfl⟩
  · by_cases h4 : z = 4
    · subst h4
      go_enter Try.func42, Try.ntmps42
      go_wp2_with fail
      go_ret
      exact ⟨rfl, rfl⟩
    · have h3b : (z == 3) = false := by simpa using h3
      have h4b : (z == 4) = false := by simpa using h4
      have HT := hidden (show tk z = z by simp [tk, h3, h4])
      clear h3 h4
      go_enter Try.func42, Try.ntmps42
      go_wp2_with fail
      go_ret
      exact ⟨by rw [HT.out]; rfl, rfl⟩

set_option maxHeartbeats 2000000 in
/-- a copy of steps: a row of one's own -/
theorem opsClone_any (v : Value) (xs : List Oq) (w : World) (hX : OpsAt w v xs) (hl : xs.length ≤ 4398046511104) :
    Calls Try.prog 41 #[v] w fun e w' => ∃ v', e = .returned v' ∧ w'.ownsRow w.heap.size 37 3 v' xs.length (cellsO xs) ∧ Below w.heap.size w w' := by
  have q22 : ∀ (w : World) (a : Option Addr) (n c n' c' : Nat), (binOp .eql 22 (.slice a n c) (.slice none n' c')).run Try.prog w = .ok (.bool a.isNone) w := fun w a n c n' c' => Lib.run_eql_slice_nil w _ _ a n c n' c' Try.underlying22
  have HX := hidden hX
  by_cases hn : v = .slice none 0 0
  · subst hn
    have hx : xs = [] := by
      rcases hX with ⟨h, _⟩ | ⟨b, o, cap, h, _⟩
      · exact h
      · cases h
    subst hx
    clear hX HX
    go_enter Try.func41, Try.ntmps41
    go_wp2_with fail
    go_ret
    exact ⟨_, rfl, ⟨rfl, Or.inl ⟨rfl, rfl⟩⟩, Below.refl _ _⟩
  · obtain ⟨a, cap, rfl⟩ : ∃ a cap, v = .slice (some a) xs.length cap := by
      rcases hX with ⟨rfl, ao, cap, rfl, h0⟩ | ⟨b, o, cap, rfl, _⟩
      · cases ao with
        | none => obtain rfl := h0 rfl; exact absurd rfl hn
        | some a => exact ⟨a, cap, rfl⟩
      · exact ⟨_, cap, rfl⟩
    clear hX hn
    go_enter Try.func41, Try.ntmps41
    go_wp2_with (at_builtin; go_must (refine wpList_append_ops _ (by go_simp) _ _ rfl w.heap.size (.slice (some ⟨w.heap.size, 0, none⟩) 0 0) _ [] xs rfl rfl (World.ownsRow_made w #[] 0 (Nat.le_refl _) (Nat.zero_le _) (by simp)) (HX.out.later (bel_alloc (Below.refl _ _) _)) (by simp; omega) (by simp) ?_; intro v9 w9 hown9 hadd9))
    rw [List.nil_append] at hown9
    have hb : Below w.heap.size w w9 := adds_bel (v := .slice (some ⟨w.heap.size, 0, none⟩) 0 0) (bel_alloc (Below.refl w.heap.size w) _) (by simp) (World.ownsRow_made (size := 3) (e := 37) w #[] 0 (Nat.le_refl _) (Nat.zero_le _) rfl) hadd9
    go_wp2_with fail
    go_ret
    exact ⟨_, rfl, hown9, hb⟩

theorem cellsO_setK (l : List Oq) : ∀ (j : Nat) (x : Oq) (z : Int), l[j]? = some x → (cellsO l).set (j * 3) (Z z) = cellsO (l.set j (z, x.2)) := by
  induction l with
  | nil => intro j x z h; simp at h
  | cons y l ih =>
    intro j x z h
    cases j with
    | zero => simp at h; subst h; rfl
    | succ j =>
      have := ih j x z (by simpa using h)
      rw [show (j + 1) * 3 = j * 3 + 1 + 1 + 1 by omega]
      simp only [cellsO, List.set_cons_succ, this]
/-- the kind of a step of a row is turned -/
theorem owns_setK {W : World} {B g n cp j : Nat} {l : List Oq} {x : Oq} (z : Int) (h : W.ownsRow B 37 3 (.slice (some ⟨g, 0, none⟩) n cp) n (cellsO l)) (hx : l[j]? = some x) :
    (W.setCell ⟨g, j * 3, none⟩ (.int .i64 z)).ownsRow B 37 3 (.slice (some ⟨g, 0, none⟩) n cp) n (cellsO (l.set j (z, x.2))) := by
  rcases h.2 with ⟨e, _⟩ | ⟨g', cap', cur, hv, hB, hg, hc, hm, hs, ht⟩
  · cases e
  · cases hv
    refine ⟨by have := h.1; rw [cellsO_len] at this ⊢; simpa using this, Or.inr ⟨g, cp, cur.setIfInBounds (j * 3) (.int .i64 z), rfl, hB, ?_, hc, hm, by simpa using hs, ?_⟩⟩
    · simp [World.setCell, Array.getElem?_modify, hg]
    · rw [← cellsO_setK l j x z hx, ← ht, Array.toList_setIfInBounds, List.take_set]
/-- turned so far -/
def sofar (xs : List Oq) (k : Nat) : List Oq := flp (xs.take k) ++ xs.drop k
theorem sofar_at {xs : List Oq} {k : Nat} {x : Oq} (h : xs[k]? = some x) : (sofar xs k)[k]? = some x ∧ sofar xs (k + 1) = (sofar xs k).set k (tk x.1, x.2) := by
  obtain ⟨hk, he⟩ := List.getElem?_eq_some_iff.1 h
  have hlen : (flp (xs.take k)).length = k := by rw [flp_len, List.length_take, Nat.min_eq_left (by omega)]
  unfold sofar
  constructor
  · rw [List.getElem?_append_right (by omega), hlen, Nat.sub_self, List.getElem?_drop]; simpa using h
  · rw [List.set_append_right _ _ (by omega), hlen, Nat.sub_self, take_snoc h, flp_app, flp_one, fl_tk, List.drop_eq_getElem_cons hk, he]
    simp
theorem sofar_len (xs : List Oq) (k : Nat) : (sofar xs k).length = xs.length := by
  unfold sofar; rw [List.length_append, flp_len, List.length_take, List.length_drop]; omega
theorem sofar_end (xs : List Oq) (k : Nat) (h : xs.length ≤ k) : sofar xs k = flp xs := by
  unfold sofar; rw [List.take_of_length_le h, List.drop_eq_nil_of_le h, List.append_nil]
theorem fit_flp' {l : List Oq} (h : Fit l) : Fit (flp l) := by
  intro x hx
  obtain ⟨y, hy, rfl⟩ := List.mem_map.1 hx
  exact h y hy
theorem normL_flp (l : List Oq) : normL (flp l) = flN l := by unfold normL flN; rw [right_flp]

set_option maxRecDepth 3000 in
set_option maxHeartbeats 8000000 in
theorem flip_any (v : Value) (xs : List Oq) (w : World) (hX : OpsAt w v xs) (hl : xs.length ≤ 4398046511104) (hf : Fit xs) :
    Calls Try.prog 21 #[v] w fun e w' => ∃ v', e = .returned v' ∧ OpsAt w' v' (flN xs) ∧ Below w.heap.size w w' := by
  have HF := hidden (fit_flp' hf)
  have HX := hidden hX
  obtain ⟨ao, cap, rfl⟩ := hX.shape
  clear hX hf
  go_enter Try.func21, Try.ntmps21
  go_wp2_with fail
  refine (opsClone_any _ xs w HX.out hl).mono ?_
  rintro e w1 ⟨q, rfl, hown, hb⟩
  have HST := hidden (show w1.ownsRow w.heap.size 37 3 q xs.length (cellsO (sofar xs 0)) ∧ Below w.heap.size w w1 from ⟨hown, hb⟩)
  obtain ⟨qa, qc, rfl⟩ : ∃ qa qc, q = .slice qa xs.length qc := by
    rcases owns_form hown with ⟨rfl, rfl⟩ | ⟨g, cp, rfl, _⟩
    · exact ⟨_, _, rfl⟩
    · exact ⟨_, _, rfl⟩
  clear hown hb
  go_wp2_with fail
  go_loopw [10] (fun i wr => ∃ k : Nat, k ≤ xs.length ∧ i = .int .i64 k ∧ Hid (wr.ownsRow w.heap.size 37 3 (.slice qa xs.length qc) xs.length (cellsO (sofar xs k)) ∧ Below w.heap.size w wr)) (fun i _ => xs.length - (intOf i).toNat)
  case atStart => exact ⟨0, Nat.zero_le _, rfl, HST.out⟩
  case round =>
    obtain ⟨k, hk, rfl, hst⟩ := hrel
    by_cases hlt : k < xs.length
    · obtain ⟨x1, x2, x3, hx⟩ := op_some hlt
      obtain ⟨s1, s2⟩ := sofar_at hx
      obtain ⟨g, cp, hq, hcap, hgB, hgl⟩ : ∃ g cp, (Value.slice qa xs.length qc) = .slice (some ⟨g, 0, none⟩) xs.length cp ∧ xs.length ≤ cp ∧ w.heap.size ≤ g ∧ g < wr.heap.size := by
        rcases owns_form (by rw [sofar_len]; exact hst.out.1) with ⟨_, h0⟩ | ⟨g, cp, h1, h2, h3, h4⟩
        · exfalso
          have := sofar_len xs k
          rw [h0, List.length_nil] at this
          omega
        · rw [sofar_len] at h1 h2
          exact ⟨g, cp, h1, h2, h3, h4⟩
      cases hq
      obtain ⟨c1, c2, c3⟩ := owns_op hst.out.1 s1
      simp only at c1 c2 c3
      have HS2 := hidden s2
      have HS1 := hidden s1
      have hth : wr.frozen? ⟨g, k * 3, none⟩ = false := owns_thaw hst.out.1 _
      clear s1 s2 hx
      go_wp2_with fail
      refine (turned_any x1 _).mono ?_
      rintro e w' ⟨rfl, hw⟩
      subst w'
      go_wp2_with fail
      have HN := hidden (show ((wr.setCell ⟨g, k * 3, none⟩ (.int .i64 (tk x1))).alloc (opO x1 x2 x3)).ownsRow w.heap.size 37 3 (.slice (some ⟨g, 0, none⟩) xs.length qc) xs.length (cellsO (sofar xs (k + 1))) ∧ Below w.heap.size w ((wr.setCell ⟨g, k * 3, none⟩ (.int .i64 (tk x1))).alloc (opO x1 x2 x3)) from
        ⟨by rw [HS2.out]; exact (owns_setK (tk x1) hst.out.1 HS1.out).alloc _, bel_alloc (bel_set hst.out.2 hgB) _⟩)
      go_roundw
      case rel => exact ⟨k + 1, by omega, by go_num, HN.out⟩
      case measure => simp [intOf]; omega
    · have HE := hidden (sofar_end xs k (by omega))
      have HL := hidden (show (flp xs).length ≤ 4398046511104 by rw [flp_len]; exact hl)
      have HO := hidden (show OpsAt wr (.slice qa xs.length qc) (flp xs) by rw [← HE.out]; exact OpsAt.of_owns hst.out.1)
      go_wp2_with fail
      refine (onorm_any _ (flp xs) wr HO.out HL.out HF.out).mono ?_
      rw [normL_flp]
      rintro e w5 ⟨v5, rfl, ho5, hb5⟩
      have HB5 := hidden (hst.out.2.trans (hb5.mono hst.out.2.size))
      have HO5 := hidden ho5
      obtain ⟨a5, c5, rfl⟩ := ho5.shape
      clear hb5 ho5
      go_wp2_with fail
      go_ret
      exact ⟨_, rfl, HO5.out, HB5.out⟩

end Go.Proofs.Ytmbalnjobcgpkaa
