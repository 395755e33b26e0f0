/-
  What the program's Read of package sets answers at any place of a text: the set that stands there, and where it ends; condition: the text's length.
-/
import Derived.Test.YthjhihpbilaifaaCls
namespace Go.Proofs.Ythjhihpbilaifaa
open Go.RowKit Go.Proofs.Ythjhihpbilaifaa.Gl

/-- Read's answer as a value -/
def setAns (at_ : Nat) : Option (Bs × Nat) → Value
  | some r => .tuple #[setV r.1, .int .i64 (at_ + r.2 : Nat), .bool true]
  | none => .tuple #[setV none_, .int .i64 0, .bool false]

set_option maxHeartbeats 8000000 in
theorem sread_any (p : Tx) (at_ : Nat) (w : World) (hp : p.length ≤ 1048576) (ha : at_ ≤ p.length) :
    Calls Try.prog 25 #[S p, .int .i64 at_, .func (.func 20) #[] #[]] w fun e w' => e = .returned (setAns at_ (setGo eOne (p.length + 1) true (p.drop at_) none_)) ∧ Below w.heap.size w w' := by
  have hd : (p.drop at_).length = p.length - at_ := List.length_drop
  unfold S
  go_enter Try.func25, Try.ntmps25
  go_wp2_with fail
  go_loopw [1] (fun i wr => ∃ (k n : Nat) (f : Bs), i = .int .i64 k ∧ k ≤ p.length ∧ at_ ≤ k ∧ Hid ((∃ x0 x1 x2 x3, x0 = word f 0 ∧ x1 = word f 1 ∧ x2 = word f 2 ∧ x3 = word f 3 ∧ Arr wr (w.heap.size + 1) x0 x1 x2 x3) ∧ Arr wr w.heap.size 0 0 0 0 ∧ Below w.heap.size w wr ∧ (p.drop k).length < n ∧ setGo eOne (p.length + 1) true (p.drop at_) none_ = (setGo eOne n (decide (k = at_)) (p.drop k) f).map fun r => (r.1, r.2 + (k - at_))))
    (fun i _ => p.length - (intOf i).toNat)
  case atStart => exact ⟨at_, p.length + 1, none_, by go_num, by omega, Nat.le_refl _, ⟨0, 0, 0, 0, (word_none 0).symm, (word_none 1).symm, (word_none 2).symm, (word_none 3).symm, by have := Arr.new (w.alloc (.cells #[.int .u64 0, .int .u64 0, .int .u64 0, .int .u64 0] 35)) 0 0 0 0; rw [World.size_alloc] at this; exact this⟩, (Arr.new w 0 0 0 0).alloc _, ((Below.refl _ w).alloc (Nat.le_refl _) _).alloc (by simp) _, by rw [List.length_drop]; omega, by simp⟩
  case round =>
    obtain ⟨k, n, f, rfl, hk, hfk, ⟨x0, x1, x2, x3, hx0, hx1, hx2, hx3, hA⟩, hZ, hB, hn, HS⟩ := hrel
    have HA := hidden hA
    have HZ := hidden hZ
    have HB := hidden hB
    have HX := hidden (And.intro hx0 (And.intro hx1 (And.intro hx2 hx3)))
    have HSV := hidden (show setV f = .agg #[.int .u64 x0, .int .u64 x1, .int .u64 x2, .int .u64 x3] by unfold setV; rw [hx0, hx1, hx2, hx3])
    obtain ⟨a0, a1, a2, a3⟩ := hA.cells
    obtain ⟨t0, t1, t2, t3⟩ := hA.thawed
    have HS2 := hidden HS
    have HNN := hidden hn
    obtain ⟨c0, c1, c2, c3⟩ := hZ.cells
    obtain ⟨d0, d1, d2, d3⟩ := hZ.thawed
    clear hA hZ hB hx0 hx1 hx2 hx3 HS hn
    by_cases hlt : k < p.length
    · obtain ⟨c, hc⟩ : ∃ c, c = p.getD k 0 := ⟨_, rfl⟩
      have hb : ∀ h, (⟨p.toArray⟩ : ByteArray)[k]'h = c := fun h => by rw [byte_at, hc]
      have HC := hidden (show (p.drop k).getD 0 0 = c by rw [drop_getD, hc]; rfl)
      have hne : p.drop k ≠ [] := drop_ne hlt
      clear hc
      by_cases hend : c = 93 ∧ at_ < k
      · obtain ⟨rfl, hgt⟩ := hend
        have hgi : (at_ : Int) < k := by omega
        have HR := hidden (show setGo eOne (p.length + 1) true (p.drop at_) none_ = some (f, k + 1 - at_) by
          rw [HS2.out]
          have hn := HNN.out
          cases n with
          | zero => omega
          | succ n =>
            unfold setGo
            rw [if_neg hne, if_pos ⟨HC.out, by simp; omega⟩]
            simp
            omega)
        clear hne
        go_wp2_with fail
        refine bodyPost_ret (v := .tuple #[setV f, .int .i64 (k + 1), .bool true]) (by rw [HSV.out]; simp [results, Try.results25, go_sem, c0, c1, c2, c3]) rfl ?_
        rw [HR.out]
        refine ⟨?_, (((HB.out.setCell (Nat.le_refl _) _).setCell (Nat.le_refl _) _).setCell (Nat.le_refl _) _).setCell (Nat.le_refl _) _⟩
        show _ = Ending.returned (.tuple #[setV f, .int .i64 (at_ + (k + 1 - at_) : Nat), .bool true])
        rw [show at_ + (k + 1 - at_) = k + 1 by omega]
        rfl
      · have hil := itemLen_le eOne hne
        have hip := itemLen_pos eOne (p.drop k)
        rw [List.length_drop] at hil
        have HSN := hidden (show ∃ m, n = m + 1 ∧ setGo eOne n (decide (k = at_)) (p.drop k) f = (setGo eOne m false (p.drop (k + itemLen eOne (p.drop k))) (both f (itemSet eOne (p.drop k)))).map fun r => (r.1, r.2 + itemLen eOne (p.drop k)) by
          have hn := HNN.out
          cases n with
          | zero => omega
          | succ n =>
            refine ⟨n, rfl, ?_⟩
            rw [setGo, if_neg hne, if_neg (fun hh => hend ⟨HC.out.symm.trans hh.1, by have := hh.2; simp at this; omega⟩), List.drop_drop])
        obtain ⟨q, hq⟩ : ∃ q, q = k + itemLen eOne (p.drop k) := ⟨_, rfl⟩
        have HI := hidden (readItem_any p k wr hp hlt)
        rw [← hq] at HI HSN
        have hqp : q ≤ p.length := by omega
        have hqk : k < q := by omega
        have hcq : q - k = itemLen eOne (p.drop k) := by omega
        have HCQ := hidden hcq
        clear hne hil hip hq hcq
        have HEND := hidden hend
        clear hend
        by_cases hc9 : c = 93
        · subst hc9
          have hgi : ¬ (at_ : Int) < k := by have := HEND.out; simp at this; omega
          go_wp2_with fail
          refine HI.out.mono ?_
          rintro e w2 ⟨rfl, hb2⟩
          obtain ⟨g, hg⟩ : ∃ g, g = itemSet eOne (p.drop k) := ⟨_, rfl⟩
          rw [← hg]
          rw [← hg] at HSN
          clear hg
          have HB2 := hidden (HB.out.trans (hb2.mono HB.out.size))
          have HA2 := hidden (HA.out.later hb2)
          have HZ2 := hidden (HZ.out.later hb2)
          obtain ⟨y0, y1, y2, y3, hgv⟩ : ∃ y0 y1 y2 y3, setV g = .agg #[.int .u64 y0, .int .u64 y1, .int .u64 y2, .int .u64 y3] := ⟨_, _, _, _, rfl⟩
          have HGV := hidden hgv
          rw [hgv]
          obtain ⟨b0, b1, b2, b3⟩ := (HA.out.later hb2).cells
          obtain ⟨u0, u1, u2, u3⟩ := (HA.out.later hb2).thawed
          have hs2 := HA2.out.lt
          clear hb2 hgv
          go_wp2_with fail
          rw [← HSV.out, ← HGV.out]
          refine (with_any f g _).mono ?_
          rintro e w3 ⟨rfl, hb3⟩
          have HB3 := hidden ((HB2.out.alloc HB2.out.size _).trans (hb3.mono (by have := HB2.out.size; simp; omega)))
          have HA3 := hidden ((HA2.out.alloc _).later hb3)
          have HZ3 := hidden ((HZ2.out.alloc _).later hb3)
          obtain ⟨e0, e1, e2, e3⟩ := ((HA2.out.alloc _).later hb3).cells
          obtain ⟨v0, v1, v2, v3⟩ := ((HA2.out.alloc _).later hb3).thawed
          clear hb3
          unfold setV
          go_wp2_with fail
          go_roundw
          case rel =>
            obtain ⟨m, hm, HS3⟩ := HSN.out
            refine ⟨q, m, both f g, rfl, hqp, by omega, ⟨_, _, _, _, rfl, rfl, rfl, rfl, (((HA3.out.set0 _).set1 _).set2 _).set3 _⟩, (((HZ3.out.other (by omega)).other (by omega)).other (by omega)).other (by omega), (((HB3.out.setCell (by simp) _).setCell (by simp) _).setCell (by simp) _).setCell (by simp) _, ?_, ?_⟩
            · have := HNN.out; rw [List.length_drop] at this ⊢; omega
            · rw [HS2.out, HS3, Option.map_map, show decide (q = at_) = false by simp; omega]
              congr 1
              funext r
              have := HCQ.out
              simp only [Function.comp]
              congr 1
              omega
          case measure => simp [intOf]; omega
        · have hc8 := byte_ne (n := 93) hc9
          go_wp2_with fail
          refine HI.out.mono ?_
          rintro e w2 ⟨rfl, hb2⟩
          obtain ⟨g, hg⟩ : ∃ g, g = itemSet eOne (p.drop k) := ⟨_, rfl⟩
          rw [← hg]
          rw [← hg] at HSN
          clear hg
          have HB2 := hidden (HB.out.trans (hb2.mono HB.out.size))
          have HA2 := hidden (HA.out.later hb2)
          have HZ2 := hidden (HZ.out.later hb2)
          obtain ⟨y0, y1, y2, y3, hgv⟩ : ∃ y0 y1 y2 y3, setV g = .agg #[.int .u64 y0, .int .u64 y1, .int .u64 y2, .int .u64 y3] := ⟨_, _, _, _, rfl⟩
          have HGV := hidden hgv
          rw [hgv]
          obtain ⟨b0, b1, b2, b3⟩ := (HA.out.later hb2).cells
          obtain ⟨u0, u1, u2, u3⟩ := (HA.out.later hb2).thawed
          have hs2 := HA2.out.lt
          clear hb2 hgv
          go_wp2_with fail
          rw [← HSV.out, ← HGV.out]
          refine (with_any f g _).mono ?_
          rintro e w3 ⟨rfl, hb3⟩
          have HB3 := hidden ((HB2.out.alloc HB2.out.size _).trans (hb3.mono (by have := HB2.out.size; simp; omega)))
          have HA3 := hidden ((HA2.out.alloc _).later hb3)
          have HZ3 := hidden ((HZ2.out.alloc _).later hb3)
          obtain ⟨e0, e1, e2, e3⟩ := ((HA2.out.alloc _).later hb3).cells
          obtain ⟨v0, v1, v2, v3⟩ := ((HA2.out.alloc _).later hb3).thawed
          clear hb3
          unfold setV
          go_wp2_with fail
          go_roundw
          case rel =>
            obtain ⟨m, hm, HS3⟩ := HSN.out
            refine ⟨q, m, both f g, rfl, hqp, by omega, ⟨_, _, _, _, rfl, rfl, rfl, rfl, (((HA3.out.set0 _).set1 _).set2 _).set3 _⟩, (((HZ3.out.other (by omega)).other (by omega)).other (by omega)).other (by omega), (((HB3.out.setCell (by simp) _).setCell (by simp) _).setCell (by simp) _).setCell (by simp) _, ?_, ?_⟩
            · have := HNN.out; rw [List.length_drop] at this ⊢; omega
            · rw [HS2.out, HS3, Option.map_map, show decide (q = at_) = false by simp; omega]
              congr 1
              funext r
              have := HCQ.out
              simp only [Function.comp]
              congr 1
              omega
          case measure => simp [intOf]; omega
    · have HR := hidden (show setGo eOne (p.length + 1) true (p.drop at_) none_ = none by
        rw [HS2.out]
        cases n with
        | zero => rfl
        | succ n =>
          unfold setGo
          rw [if_pos (List.drop_eq_nil_of_le (by omega))]
          rfl)
      go_wp2_with fail
      refine bodyPost_ret (v := .tuple #[setV none_, .int .i64 0, .bool false]) (by rw [set_none]; simp [results, Try.results25, go_sem, c0, c1, c2, c3]) rfl ?_
      rw [HR.out]
      exact ⟨rfl, (((HB.out.setCell (Nat.le_refl _) _).setCell (Nat.le_refl _) _).setCell (Nat.le_refl _) _).setCell (Nat.le_refl _) _⟩

end Go.Proofs.Ythjhihpbilaifaa
