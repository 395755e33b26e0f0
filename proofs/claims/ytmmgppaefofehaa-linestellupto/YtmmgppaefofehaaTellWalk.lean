/-
  The law LinesTell, called with any text and any list of at most 1048576 texts and bytes, returns true, and nothing of what was in memory has turned; condition: those lengths.
-/
import Derived.Test.YtmmgppaefofehaaAlive
import Derived.Test.YtmmgppaefofehaaArg
import Derived.Laws.AppendOwnNone
import Derived.Deep.QuietTactic
import Derived.BigQuiet
namespace Go.Proofs.Ytmmgppaefofehaa
open Go.RowKit Go.Proofs.Ytmmgppaefofehaa.Ln

theorem hidden {p : Prop} (h : p) : Hid p := h
theorem S_size (x : List UInt8) : (⟨x.toArray⟩ : ByteArray).size = x.length := rfl

theorem ArgRow.later {w w' : World} {v : Value} {xs : List (List UInt8)} (h : ArgRow w v xs) (hb : Below w.heap.size w w') : ArgRow w' v xs := by
  rcases h with h | h | ⟨b, o, cap, h1, h2, h3, h4⟩
  · exact Or.inl h
  · exact Or.inr (Or.inl h)
  · refine Or.inr (Or.inr ⟨b, o, cap, h1, h2, Nat.lt_of_lt_of_le h3 hb.size, fun j x hx => ?_⟩)
    rw [hb.cell (p := ⟨b, o + j, none⟩) h3]
    exact h4 j x hx

/-- 'append([]string(nil), l...)', whatever stands ahead of it in its statement, where it is wanted: a copy in new memory -/
theorem wpList_copy_texts (w : World) {ops : Array Oper} {rest : List Oper} {o : Oper} {a : Act} {Q : Exit → Act → World → Prop} (hw : Region.wanted o (yielded ops a.tmps) = true) (s x : Operand)
    (ho : o.op = .call { callee := .builtin .append, args := #[s, x], argTypes := #[22, 22] })
    (v : Value) (xs : List (List UInt8)) (hs : a.eval s = .slice none 0 0) (hx : a.eval x = v) (hrow : ArgRow w v xs) (hl : xs.length ≤ 1048576)
    (h : ∀ v' w', RowAt w' v' xs → Below w.heap.size w w' → wpList Try.prog ops Q rest (a.put o.dst v') w') : wpList Try.prog ops Q (o :: rest) a w := by
  obtain ⟨i0, hi, hz0, hz1, hz2⟩ := info_parts Try.info9
  refine BigFrame.wpList_want hw fun K hK => ?_
  rcases hrow with ⟨rfl, rfl⟩ | ⟨rfl, ad, cap, rfl⟩ | ⟨b, off, cap, rfl, hc, hb, hcell⟩
  · have hrun := run_append_owned_none (P := Try.prog) (w := w) w.heap.size 22 o.type 9 i0 1 Try.underlying22 hi (.slice none 0 0) 0 [] (World.ownsRow_nil _ _ _ _)
    have hh := hK _ _ (h (.slice none 0 0) w (Or.inl ⟨rfl, _, _, rfl⟩) (Below.refl _ _))
    unfold Oper.wp
    simp [execOp, ho, resolve, invoke, builtin, hs, hx, hrun, Result.andThen]
    exact hh
  · refine wp_append_own w s x 22 ho w.heap.size 9 i0 (.string ⟨#[]⟩) 1 16 Try.underlying22 hi hz0 hz1 hz2 rfl (by decide) (.slice none 0 0) 0 [] hs (World.ownsRow_nil _ _ _ _) ad 0 cap [] hx rfl (fun j u hj => by simp at hj) (fun u hu => by simp at hu) (by unfold maxLen; omega) (by omega) (Nat.le_refl _) ?_
    intro v' w' hown hgrow _
    exact hK _ _ (h v' w' (RowAt.of_owns (xs := []) hown) ((Below.refl _ _).grown hgrow (Nat.le_refl _) (fun j hj => by simp [Value.ownBlock] at hj)))
  · refine wp_append_own w s x 22 ho w.heap.size 9 i0 (.string ⟨#[]⟩) 1 16 Try.underlying22 hi hz0 hz1 hz2 rfl (by decide) (.slice none 0 0) 0 [] hs (World.ownsRow_nil _ _ _ _) ⟨b, off, none⟩ xs.length cap (xs.map S) hx (by simp) ?_ (fun u hu => by obtain ⟨y, _, rfl⟩ := List.mem_map.1 hu; rfl) (by unfold maxLen; omega) (by omega) (Nat.le_refl _) ?_
    · intro j u hj
      rw [List.getElem?_map, Option.map_eq_some_iff] at hj
      obtain ⟨y, hy, rfl⟩ := hj
      rw [addr_add]
      exact hcell j y hy
    · intro v' w' hown hgrow _
      rw [List.nil_append] at hown
      exact hK _ _ (h v' w' (RowAt.of_owns hown) ((Below.refl _ _).grown hgrow (Nat.le_refl _) (fun j hj => by simp [Value.ownBlock] at hj)))

theorem ArgRow.shape {w : World} {v : Value} {xs : List (List UInt8)} (h : ArgRow w v xs) : ∃ ao cap, v = .slice ao xs.length cap ∧ ∀ (j : Nat) x, xs[j]? = some x → ∃ b o, ao = some ⟨b, o, none⟩ ∧ xs.length ≤ cap ∧ b < w.heap.size ∧ w.cell? ⟨b, o + j, none⟩ = some (.string ⟨x.toArray⟩) := by
  rcases h with ⟨rfl, rfl⟩ | ⟨rfl, a, cap, rfl⟩ | ⟨b, o, cap, rfl, h1, h2, h3⟩
  · exact ⟨none, 0, rfl, fun j x hx => by simp at hx⟩
  · exact ⟨some a, cap, rfl, fun j x hx => by simp at hx⟩
  · exact ⟨_, cap, rfl, fun j x hx => ⟨b, o, rfl, h1, h2, h3 j x hx⟩⟩

set_option maxHeartbeats 2000000 in
theorem linesTell_any (s : ByteArray) (v : Value) (xs : List (List UInt8)) (w : World) (hs : s.size ≤ maxLen) (hr : ArgRow w v xs) (hl : xs.length ≤ 1048576) (hn : xs.flatten.length ≤ 1048576) :
    Calls Try.prog 3 #[.string s, v] w fun e w' => e = .returned (.bool true) ∧ Below w.heap.size w w' := by
  unfold maxLen at hs
  obtain ⟨ao, cap, rfl, hcell⟩ := hr.shape
  have HC := hidden hcell
  have HR := hidden hr
  have HN := hidden hn
  obtain ⟨j, hj⟩ : ∃ j : ByteArray, j = ⟨xs.flatten.toArray⟩ := ⟨_, rfl⟩
  have HJ := hidden hj
  have hjz : j.size ≤ 1048576 := by rw [hj, S_size]; exact hn
  clear hr hn hj hcell
  by_cases hbig : 500 < s.size
  · go_enter Try.func3, Try.ntmps3
    go_wp2_with fail
    refine (alive_any _).mono ?_
    rintro e w1 ⟨rfl, hb1⟩
    have Hb1 := hidden hb1
    clear hb1
    go_wp2_with fail
    go_ret
    exact ⟨rfl, Hb1.out⟩
  · by_cases hbig2 : 60 < xs.length
    · go_enter Try.func3, Try.ntmps3
      go_wp2_with fail
      refine (alive_any _).mono ?_
      rintro e w1 ⟨rfl, hb1⟩
      have Hb1 := hidden hb1
      clear hb1
      go_wp2_with fail
      go_ret
      exact ⟨rfl, Hb1.out⟩
    · by_cases hbig3 : 1000 < j.size
      · go_enter Try.func3, Try.ntmps3
        go_wp2_with fail
        refine (alive_any _).mono ?_
        rintro e w1 ⟨rfl, hb1⟩
        have Hb1 := hidden hb1
        have HR1 := hidden (HR.out.later hb1)
        clear hb1
        go_wp2_with fail
        refine (refJoin_any _ _ _ HR1.out.row hl HN.out).mono ?_
        rintro e w2 ⟨rfl, hb2⟩
        have Hb2 := hidden (Hb1.out.trans (hb2.mono Hb1.out.size))
        clear hb2
        rw [show S xs.flatten = .string j from by rw [HJ.out]; rfl]
        go_wp2_with fail
        go_ret
        exact ⟨rfl, Hb2.out⟩
      · go_enter Try.func3, Try.ntmps3
        go_wp2_with fail
        refine (alive_any _).mono ?_
        rintro e w1 ⟨rfl, hb1⟩
        have Hb1 := hidden hb1
        have HR1 := hidden (HR.out.later hb1)
        clear hb1
        go_wp2_with fail
        refine (refJoin_any _ _ _ HR1.out.row hl HN.out).mono ?_
        rintro e w2 ⟨rfl, hb2⟩
        have Hb2 := hidden (Hb1.out.trans (hb2.mono Hb1.out.size))
        clear hb2
        rw [show S xs.flatten = .string j from by rw [HJ.out]; rfl]
        go_wp2_with fail
        go_loopw [6] (fun i wr => ∃ k : Nat, k ≤ xs.length ∧ i = .int .i64 k ∧ Hid (Below w.heap.size w wr)) (fun i _ => xs.length - (intOf i).toNat)
        case atStart => exact ⟨0, Nat.zero_le _, rfl, Hb2⟩
        case round =>
          obtain ⟨k, hk, rfl, hbl⟩ := hrel
          clear Hb1 HR1 Hb2
          by_cases hlt : k < xs.length
          · obtain ⟨x, hx⟩ : ∃ x, xs[k]? = some x := ⟨xs[k], List.getElem?_eq_getElem hlt⟩
            obtain ⟨b, o, hao, hcap, hb, hc⟩ := HC.out k x hx
            subst hao
            have hcell : wr.cell? ⟨b, o + k, none⟩ = some (.string ⟨x.toArray⟩) := (hbl.out.cell (p := ⟨b, o + k, none⟩) hb).trans hc
            have hml := mem_le xs k x hx
            have hxz : (⟨x.toArray⟩ : ByteArray).size ≤ 1048576 := by have := HN.out; rw [S_size]; omega
            clear hx hc HC HR hml
            go_wp2
            go_quiet ((first | (go_at_call 10; exact Calls.quiet_of_same (right_any _ _ hxz)) | (go_at_call 11; exact Calls.quiet_of_same (rightLine_any _ _ hxz))))
            go_wp2
            have hb2 := below_drewN hbl.out nq
            go_roundw
            case rel => exact ⟨k + 1, by omega, by go_num, hb2⟩
            case measure => simp [intOf]; omega
          · clear hk
            have HL := hidden (spl_length_le s.data.toList)
            have HRW := hidden (ArgRow.later HR.out hbl.out)
            clear HC HR
            go_wp2_with fail
            refine (split_any s _ (by omega)).mono ?_
            rintro e w3 ⟨v1, rfl, hown1, hb3⟩
            have Hb3 := hidden (hbl.out.trans (hb3.mono hbl.out.size))
            have HR3 := hidden (HRW.out.later hb3)
            have H1 := hidden (RowAt.of_owns hown1)
            clear hown1 hb3
            go_wp2_with fail
            refine (refSplit_any s _ (by omega)).mono ?_
            rintro e w4 ⟨v2, rfl, hown2, hb4⟩
            have Hb4 := hidden (Hb3.out.trans (hb4.mono Hb3.out.size))
            have HR4 := hidden (HR3.out.later hb4)
            have H2 := hidden (RowAt.of_owns hown2)
            have H1' := hidden (H1.out.later hb4)
            clear hown2 hb4
            go_wp2_with fail
            refine (same_any _ _ _ _ _ H1'.out H2.out (by have := HL.out; rw [← Lib.size_eq] at this; omega) (by have := HL.out; rw [← Lib.size_eq] at this; omega)).mono ?_
            rintro e w5 ⟨rfl, hb5⟩
            have Hb5 := hidden (Hb4.out.trans (hb5.mono Hb4.out.size))
            have HR5 := hidden (HR4.out.later hb5)
            clear hb5 Hb3 Hb4 HR3 HR4 H1 H1' H2 hbl HRW
            rw [decide_eq_true (Eq.refl (spl s.data.toList))]
            go_wp2_with (at_builtin; go_must (refine wpList_copy_texts _ (by go_simp) (.const (.slice none 0 0)) (.tmp 50) rfl _ xs rfl rfl HR5.out hl ?_; intro v6 w6 hrow6 hb6))
            have Hb6 := hidden (Hb5.out.trans (hb6.mono Hb5.out.size))
            have HR6 := hidden (HR5.out.later hb6)
            have H6 := hidden hrow6
            clear hrow6 hb6 Hb5 HR5
            refine (join_any _ _ _ H6.out hl HN.out).mono ?_
            rintro e w7 ⟨rfl, hb7⟩
            have Hb7 := hidden (Hb6.out.trans (hb7.mono Hb6.out.size))
            have HR7 := hidden (HR6.out.later hb7)
            clear hb7 Hb6 HR6 H6
            rw [show S xs.flatten = .string j from by rw [HJ.out]; rfl]
            go_wp2_with fail
            refine (refJoin_any _ _ _ HR7.out.row hl HN.out).mono ?_
            rintro e w8 ⟨rfl, hb8⟩
            have Hb8 := hidden (Hb7.out.trans (hb8.mono Hb7.out.size))
            have HR8 := hidden (HR7.out.later hb8)
            clear hb8 Hb7 HR7
            rw [show S xs.flatten = .string j from by rw [HJ.out]; rfl]
            go_wp2_with (at_builtin; go_must (refine wpList_copy_texts _ (by go_simp) (.const (.slice none 0 0)) (.tmp 58) rfl _ xs rfl rfl HR8.out hl ?_; intro v9 w9 hrow9 hb9))
            have Hb9 := hidden (Hb8.out.trans (hb9.mono Hb8.out.size))
            have HR9 := hidden (HR8.out.later hb9)
            have H9 := hidden hrow9
            clear hrow9 hb9 Hb8 HR8
            refine (whole_any _ _ _ H9.out hl HN.out).mono ?_
            rintro e w10 ⟨rfl, hb10⟩
            have Hb10 := hidden (Hb9.out.trans (hb10.mono Hb9.out.size))
            have HR10 := hidden (HR9.out.later hb10)
            clear hb10 Hb9 HR9 H9
            go_wp2_with fail
            refine (refWhole_any _ _ _ HR10.out.row hl HN.out).mono ?_
            rintro e w11 ⟨rfl, hb11⟩
            have Hb11 := hidden (Hb10.out.trans (hb11.mono Hb10.out.size))
            clear hb11 Hb10 HR10
            go_wp2_with fail
            go_ret
            exact ⟨ret_bool (by simp), Hb11.out⟩

end Go.Proofs.Ytmmgppaefofehaa
