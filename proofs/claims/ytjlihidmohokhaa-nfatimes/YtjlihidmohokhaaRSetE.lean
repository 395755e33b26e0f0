/-
  What the document's own set answers at any place of a text: the members, whether it is all others, and where it ends; condition: the text's length.
-/
import Derived.Test.YtjlihidmohokhaaRSet
import Derived.Test.YtjlihidmohokhaaKBase
import Derived.Deep.AppendLies
namespace Go.Proofs.Ytjlihidmohokhaa
open Go.RowKit Go.Proofs.Ytjlihidmohokhaa.Gl

/-- what set answers, behind a bracket of an expression -/
def SetAns (n : Nat) (p : Tx) (at_ : Nat) (e : Ending) (w' : World) : Prop :=
  match setE (p.drop at_) with
  | none => e = .returned (.tuple #[.slice none 0 0, .bool false, .int .i64 0, .bool false])
  | some (f, k) => ∃ v ms g, e = .returned (.tuple #[v, .bool (negE (p.drop at_)), .int .i64 (at_ + k : Nat), .bool true]) ∧ MemsAt w' v ms ∧ (∀ j, v.ownBlock = some j → n ≤ j) ∧ ms.length ≤ p.length ∧ (∀ m ∈ ms, m.lo < 256 ∧ m.hi < 256) ∧ f = (if negE (p.drop at_) = true then othersB g else g) ∧ ∀ c, g c = ms.any fun m => m.has c
theorem setE_end {l : Tx} (h : l.drop (negN l) = []) : setE l = none := by
  unfold setE
  rw [h]
  rfl
theorem MemsAt.other {w : World} {v : Value} {ms : List Mem} (h : MemsAt w v ms) {R i : Nat} {u : Value} (hn : v.ownBlock ≠ some R) : MemsAt (w.setCell ⟨R, i, none⟩ u) v ms := by
  rcases h with h | ⟨b, cap, h1, h2, h3, h4⟩
  · exact Or.inl h
  · have hb : b ≠ R := fun e => hn (by rw [h1, e]; rfl)
    have hc : ∀ j, (w.setCell ⟨R, i, none⟩ u).cell? ⟨b, j, none⟩ = w.cell? ⟨b, j, none⟩ := fun j => World.cell?_of_block (a := ⟨b, j, none⟩) (heap_setCell_other w ⟨R, i, none⟩ b u hb)
    refine Or.inr ⟨b, cap, h1, h2, by simpa [World.setCell] using h3, fun j x hx => ?_⟩
    rw [hc, hc, hc, hc]
    exact h4 j x hx
theorem any_snoc (ms : List Mem) (m : Mem) (f : Bs) (h : ∀ c, f c = ms.any fun m => m.has c) (c : Nat) : both f m.has c = (ms ++ [m]).any fun m => m.has c := by
  rw [both, h, List.any_append]
  simp

set_option maxHeartbeats 8000000 in
theorem refSet_any (p : Tx) (at_ : Nat) (w : World) (hp : p.length ≤ 1000000) (ha : at_ ≤ p.length) :
    Calls Try.prog 55 #[S p, .int .i64 at_, .string ⟨#[94]⟩, .bool false] w fun e w' => SetAns w.heap.size p at_ e w' ∧ Below w.heap.size w w' := by
  have hdl : (p.drop at_).length = p.length - at_ := List.length_drop
  have HNIL := hidden (show setE (p.drop at_) = none → ∀ W, SetAns w.heap.size p at_ (.returned (.tuple #[.slice none 0 0, .bool false, .int .i64 0, .bool false])) W from fun h W => by unfold SetAns; rw [h])
  obtain ⟨c0, hc0⟩ : ∃ c0, c0 = p.getD at_ 0 := ⟨_, rfl⟩
  have HC0 := hidden (show (p.drop at_).getD 0 0 = c0 by rw [drop_getD, hc0]; rfl)
  have HNEG := hidden (show negE (p.drop at_) = (c0 == 94) by unfold negE; rw [HC0.out])
  have HB0 := hidden hc0
  clear hc0
  unfold S
  have hb94 : ∀ h, (⟨#[94]⟩ : ByteArray)[0]'h = 94 := fun h => rfl
  go_enter Try.func55, Try.ntmps55
  go_wp2_with fail
  go_loopw [13, 14, 15] (fun qi qo qk wr => ∃ (i k : Nat) (o : Bool), qi = .int .i64 i ∧ qo = .bool o ∧ qk = .int .i64 k ∧ k ≤ 1 ∧ i ≤ p.length ∧ Hid (Below w.heap.size w wr ∧ (k = 0 → i = at_ ∧ o = false) ∧ (k = 1 → i = at_ + negN (p.drop at_) ∧ o = negE (p.drop at_))))
    (fun _ _ qk _ => 1 - (intOf qk).toNat)
  case atStart => exact ⟨at_, 0, false, rfl, rfl, rfl, by omega, ha, Below.refl _ _, fun _ => ⟨rfl, rfl⟩, fun h => by omega⟩
  case round =>
    obtain ⟨i, k, o, rfl, rfl, rfl, hk, hi, hbl, h0, h1⟩ := hrel
    have HB := hidden hbl
    clear hbl
    rcases (by omega : k = 0 ∨ k = 1) with rfl | rfl
    · obtain ⟨rfl, rfl⟩ := h0 rfl
      clear h0 h1
      by_cases hlt : i < p.length
      · have hltI : (i : Int) < p.length := by omega
        have hbc : ∀ h, (⟨p.toArray⟩ : ByteArray)[i]'h = c0 := fun h => by rw [byte_at, HB0.out]
        by_cases e1 : c0 = 94
        · have HN := hidden (show negN (p.drop i) = 1 ∧ negE (p.drop i) = true by
            have : negE (p.drop i) = true := by rw [HNEG.out, e1]; rfl
            exact ⟨by unfold negN; rw [this]; rfl, this⟩)
          subst e1
          go_wp2_with fail
          go_quiet (fail)
          go_wp2_with fail
          go_roundw
          case rel => exact ⟨i + 1, 1, true, by go_num, rfl, rfl, by omega, by omega, below_drewN HB.out nq, fun h => by omega, fun _ => ⟨by rw [HN.out.1], HN.out.2.symm⟩⟩
          case measure => simp [intOf]
        · have HN := hidden (show negN (p.drop i) = 0 ∧ negE (p.drop i) = false by
            have : negE (p.drop i) = false := by rw [HNEG.out]; simp [e1]
            exact ⟨by unfold negN; rw [this]; rfl, this⟩)
          have e2 := byte_ne (n := 94) e1
          have e3 : ((c0.toNat : Int) == 94) = false := by rw [beq_eq_false_iff_ne]; exact e2
          clear e1
          go_wp2_with fail
          go_quiet (fail)
          go_wp2_with fail
          go_roundw
          case rel => exact ⟨i, 1, false, rfl, rfl, rfl, by omega, hi, below_drewN HB.out nq, fun h => by omega, fun _ => ⟨by rw [HN.out.1]; rfl, HN.out.2.symm⟩⟩
          case measure => simp [intOf]
      · have hltI : ¬ (i : Int) < p.length := by omega
        have HE := hidden (HNIL.out (setE_end (by rw [List.drop_drop]; exact List.drop_eq_nil_of_le (by omega))))
        go_wp2_with fail
        refine wp_loop_rounds 1 ?_
        rw [rounds_succ]
        go_wp2_with fail
        refine bodyPost_ret (v := .tuple #[.slice none 0 0, .bool false, .int .i64 0, .bool false]) (by simp [results, Try.results55, go_sem]) rfl ?_
        exact ⟨HE.out _, HB.out⟩
    · obtain ⟨hi2, ho2⟩ := h1 rfl
      have HI2 := hidden hi2
      have HO2 := hidden ho2
      have hat : at_ ≤ i := by omega
      clear h0 h1 hi2 ho2
      rw [show ((1 : Nat) : Int) = 1 from rfl]
      go_wp2_with fail
      go_loopw [12, 13, 16] (fun qv qi qf wr => ∃ (k n : Nat) (f : Bs) (ms : List Mem) (r : Value) (b : Bool), qv = r ∧ qi = .int .i64 k ∧ qf = .bool b ∧ k ≤ p.length ∧ i ≤ k ∧ ms.length ≤ k ∧ Hid (wr.ownsRow w.heap.size 90 4 r ms.length (cellsM ms) ∧ Below w.heap.size w wr ∧ (p.drop k).length < n ∧ b = decide (k = i) ∧ setGo false (p.length + 1) true (p.drop i) none_ = (setGo false n b (p.drop k) f).map (fun x => (x.1, x.2 + (k - i))) ∧ (∀ c, f c = ms.any fun m => m.has c) ∧ ∀ m ∈ ms, m.lo < 256 ∧ m.hi < 256))
        (fun _ qi _ _ => p.length - (intOf qi).toNat)
      case atStart => exact ⟨i, p.length + 1, none_, [], _, true, rfl, rfl, rfl, hi, Nat.le_refl _, Nat.zero_le _, World.ownsRow_nil _ _ _ _, HB.out, by rw [List.length_drop]; omega, by simp, by simp, fun c => rfl, fun m hm => by cases hm⟩
      case round =>
        obtain ⟨k, n, f, ms, r, b, rfl, rfl, rfl, hk, hik, hms, hown, hbr, hn, hb, hset, hf, hsm⟩ := hrel
        have HO := hidden hown
        have HBR := hidden hbr
        have HSET := hidden hset
        have HF := hidden hf
        have HSM := hidden hsm
        have HBB := hidden hb
        have HNN := hidden hn
        clear hown hbr hset hf hsm hb hn
        by_cases hlt : k < p.length
        · have hltI : (k : Int) < p.length := by omega
          have hne : p.drop k ≠ [] := drop_ne hlt
          obtain ⟨c, hc⟩ : ∃ c, c = p.getD k 0 := ⟨_, rfl⟩
          have hbc : ∀ h, (⟨p.toArray⟩ : ByteArray)[k]'h = c := fun h => by rw [byte_at, hc]
          have HC := hidden (show (p.drop k).getD 0 0 = c by rw [drop_getD, hc]; rfl)
          clear hc
          by_cases hend : c = 93 ∧ b = false
          · obtain ⟨rfl, rfl⟩ := hend
            have HR := hidden (show setE (p.drop at_) = some (if o = true then othersB f else f, k + 1 - at_) by
              unfold setE
              rw [← HO2.out, List.drop_drop, ← HI2.out, setGo_fuel false _ (p.length + 1) true _ none_ (by rw [List.length_drop, List.length_drop]; omega) (by rw [List.length_drop]; omega), HSET.out]
              have hn := HNN.out
              cases n with
              | zero => omega
              | succ n =>
                unfold setGo
                rw [if_neg hne, if_pos ⟨HC.out, rfl⟩]
                have := HI2.out
                simp
                omega)
            clear hne
            go_wp2_with fail
            refine bodyPost_ret (v := .tuple #[_, .bool o, .int .i64 (k + 1), .bool true]) (by simp [results, Try.results55, go_sem]; rfl) rfl ?_
            refine ⟨?_, HBR.out⟩
            unfold SetAns
            rw [HR.out]
            exact ⟨_, ms, f, by rw [← HO2.out, show at_ + (k + 1 - at_) = k + 1 by omega]; rfl, MemsAt.of_owns HO.out, fun j hj => (HO.out.lt j hj).1, by omega, HSM.out, by rw [← HO2.out], HF.out⟩
          · have hil := itemLen_le false hne
            have hip := itemLen_pos false (p.drop k)
            rw [List.length_drop] at hil
            have HSN := hidden (show ∃ m, n = m + 1 ∧ setGo false n b (p.drop k) f = (setGo false m false (p.drop (k + itemLen false (p.drop k))) (both f (itemSet false (p.drop k)))).map fun x => (x.1, x.2 + itemLen false (p.drop k)) by
              have hn := HNN.out
              cases n with
              | zero => omega
              | succ n =>
                refine ⟨n, rfl, ?_⟩
                rw [setGo, if_neg hne, if_neg (fun hh => hend ⟨HC.out.symm.trans hh.1, hh.2⟩), List.drop_drop])
            obtain ⟨m, hm⟩ : ∃ m, m = memAt false p k := ⟨_, rfl⟩
            have hmf : m.fin = k + itemLen false (p.drop k) := by rw [hm, memAt_fin false]
            have hmh : m.has = itemSet false (p.drop k) := by rw [hm, memAt_has false]
            have HMS := hidden (show m.lo < 256 ∧ m.hi < 256 by rw [hm]; exact memAt_small false p k)
            have HNX := hidden (next_any false p k wr (by omega) hlt)
            rw [← hm] at HNX
            rw [← hmh, ← hmf] at HSN
            have hq1 : k < m.fin := by omega
            have hq2 : m.fin ≤ p.length := by omega
            have HQ := hidden (show m.fin - k = itemLen false (p.drop k) by omega)
            clear hne hil hip hmf hmh hm
            obtain ⟨fin, lo, hi_, cls⟩ := m
            simp only at hq1 hq2 HQ HSN HMS
            by_cases hc9 : c = 93
            · have hbt : b = true := by
                cases b with
                | true => rfl
                | false => exact absurd ⟨hc9, rfl⟩ hend
              subst hc9 hbt
              clear hend
              go_wp2_with fail
              refine HNX.out.mono ?_
              rintro e w2 ⟨rfl, hb2⟩
              have HB2 := hidden (HBR.out.trans (hb2.mono HBR.out.size))
              have HO3 := hidden (own_later HO.out hb2)
              clear hb2
              unfold Mem.val S
              go_wp2_with (at_builtin; go_must (refine wpList_append_mem _ (by go_simp) (.tmp 64) (.tmp 66) rfl w.heap.size _ _ ms ⟨fin, lo, hi_, cls⟩ _ _ _ _ rfl rfl rfl ((HO3.out.alloc _).alloc _) (four_at _ _ _ _ _ _ _ (by simp)) (by omega) (by have := HB2.out.size; simp; omega) ?_; intro v9 w9 hown9 hg9; have HB9 := hidden (show Below w.heap.size w w9 from ((HB2.out.alloc HB2.out.size (.cells #[.int .i64 fin, .int .i64 lo, .int .i64 hi_, .string ⟨cls.toArray⟩] 90)).alloc (by have := HB2.out.size; simp; omega) (.cells #[.int .i64 fin, .int .i64 lo, .int .i64 hi_, .string ⟨cls.toArray⟩] 90)).grown hg9 (by have := HB2.out.size; simp; omega) (fun j hj => (HO3.out.lt j hj).1)); have hc9 : w9.cell? ⟨w2.heap.size, 0, none⟩ = some (.int .i64 fin) := (by rw [hg9.cell_far ⟨w2.heap.size, 0, none⟩ (by simp; omega) (fun e => Nat.lt_irrefl _ (HO3.out.lt _ e.symm).2)]; simp); have HO9 := hidden hown9; clear hown9 hg9))
              go_roundw
              case rel =>
                obtain ⟨m', hm', hs'⟩ := HSN.out
                refine ⟨fin, m', both f (Mem.has ⟨fin, lo, hi_, cls⟩), ms ++ [⟨fin, lo, hi_, cls⟩], v9, false, rfl, rfl, rfl, hq2, by omega, by rw [List.length_append]; show ms.length + 1 ≤ fin; omega, HO9.out, HB9.out, ?_, ?_, ?_, any_snoc ms _ f HF.out, ?_⟩
                · have := HNN.out; rw [List.length_drop] at this ⊢; omega
                · rw [decide_eq_false (by omega)]
                · rw [HSET.out, hs', Option.map_map]
                  congr 1
                  funext x
                  have := HQ.out
                  simp only [Function.comp]
                  congr 1
                  omega
                · intro y hy
                  rcases List.mem_append.1 hy with hy | hy
                  · exact HSM.out y hy
                  · rw [List.mem_singleton.1 hy]; exact HMS.out
              case measure => simp [intOf]; omega
            · have hc8 := byte_ne (n := 93) hc9
              clear hend hc9
              go_wp2_with fail
              refine HNX.out.mono ?_
              rintro e w2 ⟨rfl, hb2⟩
              have HB2 := hidden (HBR.out.trans (hb2.mono HBR.out.size))
              have HO3 := hidden (own_later HO.out hb2)
              clear hb2
              unfold Mem.val S
              go_wp2_with (at_builtin; go_must (refine wpList_append_mem _ (by go_simp) (.tmp 64) (.tmp 66) rfl w.heap.size _ _ ms ⟨fin, lo, hi_, cls⟩ _ _ _ _ rfl rfl rfl ((HO3.out.alloc _).alloc _) (four_at _ _ _ _ _ _ _ (by simp)) (by omega) (by have := HB2.out.size; simp; omega) ?_; intro v9 w9 hown9 hg9; have HB9 := hidden (show Below w.heap.size w w9 from ((HB2.out.alloc HB2.out.size (.cells #[.int .i64 fin, .int .i64 lo, .int .i64 hi_, .string ⟨cls.toArray⟩] 90)).alloc (by have := HB2.out.size; simp; omega) (.cells #[.int .i64 fin, .int .i64 lo, .int .i64 hi_, .string ⟨cls.toArray⟩] 90)).grown hg9 (by have := HB2.out.size; simp; omega) (fun j hj => (HO3.out.lt j hj).1)); have hc9 : w9.cell? ⟨w2.heap.size, 0, none⟩ = some (.int .i64 fin) := (by rw [hg9.cell_far ⟨w2.heap.size, 0, none⟩ (by simp; omega) (fun e => Nat.lt_irrefl _ (HO3.out.lt _ e.symm).2)]; simp); have HO9 := hidden hown9; clear hown9 hg9))
              go_roundw
              case rel =>
                obtain ⟨m', hm', hs'⟩ := HSN.out
                refine ⟨fin, m', both f (Mem.has ⟨fin, lo, hi_, cls⟩), ms ++ [⟨fin, lo, hi_, cls⟩], v9, false, rfl, rfl, rfl, hq2, by omega, by rw [List.length_append]; show ms.length + 1 ≤ fin; omega, HO9.out, HB9.out, ?_, ?_, ?_, any_snoc ms _ f HF.out, ?_⟩
                · have := HNN.out; rw [List.length_drop] at this ⊢; omega
                · rw [decide_eq_false (by omega)]
                · rw [HSET.out, hs', Option.map_map]
                  congr 1
                  funext x
                  have := HQ.out
                  simp only [Function.comp]
                  congr 1
                  omega
                · intro y hy
                  rcases List.mem_append.1 hy with hy | hy
                  · exact HSM.out y hy
                  · rw [List.mem_singleton.1 hy]; exact HMS.out
              case measure => simp [intOf]; omega
        · have hltI : ¬ (k : Int) < p.length := by omega
          have HE := hidden (HNIL.out (by
            unfold setE
            rw [List.drop_drop, ← HI2.out, setGo_fuel false _ (p.length + 1) true _ none_ (by rw [List.length_drop, List.length_drop]; omega) (by rw [List.length_drop]; omega), HSET.out]
            cases n with
            | zero => rfl
            | succ n =>
              unfold setGo
              rw [if_pos (List.drop_eq_nil_of_le (by omega))]
              rfl))
          go_wp2_with fail
          refine bodyPost_ret (v := .tuple #[.slice none 0 0, .bool false, .int .i64 0, .bool false]) (by simp [results, Try.results55, go_sem]) rfl ?_
          exact ⟨HE.out _, HBR.out⟩

end Go.Proofs.Ytjlihidmohokhaa
