/-
  What paths.Strip, paths.Parts and paths.Base answer at any name of at most 1048576 bytes: the name without what stands ahead of its first rows of slashes, the parts, the last of them; conditions: that length, that the number is an int and, of Parts, that a cell of the library's holds an int.
-/
import Derived.Test.YtpgcdjoghcibiaaDoorShelf
import Derived.Test.YtpgcdjoghcibiaaDoorRefNames
namespace Go.Proofs.YtpgcdjoghcibiaaDoor
open Go.RowKit Go.Proofs.YtpgcdjoghcibiaaDoor.Nm

/-- what the library's own variables hold -/
structure Env (w : World) : Prop where
  m : ∃ m, w.cell? ⟨0, 0, none⟩ = some (.int .i64 m)
theorem Env.on {w w' : World} (h : Env w) (hb : Below w.heap.size w w') : Env w' := by
  obtain ⟨m, hm⟩ := h
  refine ⟨m, ?_⟩
  have hlt : 0 < w.heap.size := by
    by_cases hlt : 0 < w.heap.size
    · exact hlt
    · have : w.heap[0]? = none := Array.getElem?_eq_none (by omega)
      simp [World.cell?, this] at hm
  rw [hb.cell (p := ⟨0, 0, none⟩) hlt]
  exact hm

theorem indexByte_hit (p q : List UInt8) (c : UInt8) (h : ∀ x, x ∈ p → x ≠ c) : Lib.indexByte (p ++ c :: q) c = p.length := by
  induction p with
  | nil => simp [Lib.indexByte]
  | cons a p ih =>
    have ha := h a (by simp)
    have := ih (fun x hx => h x (by simp [hx]))
    rw [List.cons_append, Lib.indexByte, this]
    simp [ha]
theorem indexByte_miss (p : List UInt8) (c : UInt8) (h : ∀ x, x ∈ p → x ≠ c) : Lib.indexByte p c = -1 := by
  induction p with
  | nil => rfl
  | cons a p ih =>
    have ha := h a (by simp)
    rw [Lib.indexByte, ih (fun x hx => h x (by simp [hx]))]
    simp [ha]

set_option maxHeartbeats 400000 in
theorem clone_any (s : ByteArray) (w : World) (hs : s.size ≤ 1048576) :
    Calls Tryd.prog 17 #[.string s] w fun e w' => e = .returned (.string s) ∧ Below w.heap.size w w' := by
  go_enter Tryd.func17, Tryd.ntmps17
  go_wp2_with fail
  refine (Tryd.stringslite_Clone s _ (by omega)).mono ?_
  rintro e w1 ⟨rfl, hb⟩
  have HB := hidden hb
  clear hb
  go_wp2
  go_ret
  exact ⟨rfl, HB.out⟩

/-- where the first row of slashes ends, and whether there is one -/
def O2 (l : List UInt8) : Value := if has l then .tuple #[.int .i64 (past l), .bool true] else .tuple #[.int .i64 0, .bool false]

set_option maxHeartbeats 1000000 in
theorem pastRow_any (s : ByteArray) (w : World) (hs : s.size ≤ 1048576) :
    Calls Tryd.prog 16 #[.string s] w fun e w' => e = .returned (O2 s.data.toList) ∧ w' = w := by
  cases hh : has s.data.toList
  · have HI := hidden (indexByte_miss s.data.toList 47 (has_false hh))
    have HO := hidden (show O2 s.data.toList = .tuple #[.int .i64 0, .bool false] by rw [O2, hh]; rfl)
    clear hh
    go_enter Tryd.func16, Tryd.ntmps16
    go_wp2_with fail
    refine (Tryd.strings_IndexByte s 47 _).mono ?_
    rintro e w1 ⟨rfl, rfl⟩
    rw [show (47 : Int).toNat.toUInt8 = 47 from rfl, HI.out]
    go_wp2
    go_ret2
    exact ⟨by rw [HO.out]; rfl, rfl⟩
  · obtain ⟨p, q, he, hp⟩ := has_split hh
    have HI := hidden (show Lib.indexByte s.data.toList 47 = p.length by rw [he]; exact indexByte_hit p q 47 hp)
    have HO := hidden (show O2 s.data.toList = .tuple #[.int .i64 (past s.data.toList), .bool true] by rw [O2, hh]; rfl)
    have hpl : p.length < s.size := by rw [Lib.size_eq, he]; simp
    have HN := hidden (show ∀ j, j < p.length → s.data.toList[j]? ≠ some 47 from fun j hj h => by
      rw [he, List.getElem?_append_left hj] at h
      exact hp _ (List.mem_of_getElem? h) rfl)
    have H47 := hidden (show s.data.toList[p.length]? = some 47 by rw [he]; simp)
    generalize p.length = m at *
    clear hh he hp
    go_enter Tryd.func16, Tryd.ntmps16
    go_wp2_with fail
    refine (Tryd.strings_IndexByte s 47 _).mono ?_
    rintro e w1 ⟨rfl, rfl⟩
    rw [show (47 : Int).toNat.toUInt8 = 47 from rfl, HI.out]
    go_wp2
    go_loop [4] (fun a => ∃ e : Nat, a = .int .i64 e ∧ m ≤ e ∧ e ≤ s.size ∧ Hid (∀ x, m ≤ x → x < e → s.data.toList[x]? = some 47)) (fun a => s.size - (intOf a).toNat)
    case atStart => exact ⟨m, rfl, Nat.le_refl _, by omega, fun x h1 h2 => by omega⟩
    case round =>
      obtain ⟨e, rfl, hme, hes, hall⟩ := hrel
      have FIN := hidden (show s.data.toList[e]? ≠ some 47 → past s.data.toList = e from fun h =>
        past_is s.data.toList m e hme (by rw [← Lib.size_eq]; exact hes) HN.out hall.out H47.out h)
      by_cases hend : e < s.size
      · cases hc : ((s[e].toNat : Int) == 47)
        · have HF := hidden (FIN.out (at47n s e hend hc))
          go_wp2
          go_ret2
          exact ⟨by rw [HO.out, HF.out]; rfl, rfl⟩
        · have HA := hidden (show ∀ x, m ≤ x → x < e + 1 → s.data.toList[x]? = some 47 from fun x h1 h2 => by
            by_cases hx : x = e
            · rw [hx]; exact at47 s e hend hc
            · exact hall.out x h1 (by omega))
          go_wp2
          go_round
          case rel => exact ⟨e + 1, by go_num, by omega, by omega, HA⟩
          case measure => simp [intOf]; omega
      · have HF := hidden (FIN.out (by rw [List.getElem?_eq_none (by rw [← Lib.size_eq]; omega)]; simp))
        go_wp2
        go_ret2
        exact ⟨by rw [HO.out, HF.out]; rfl, rfl⟩

set_option maxHeartbeats 2000000 in
theorem strip_any (s : ByteArray) (n : Int) (w : World) (hs : s.size ≤ 1048576) (hn : n ≤ 9223372036854775807) :
    Calls Tryd.prog 8 #[.string s, .int .i64 n] w fun e w' => e = .returned (S (strip n.toNat s.data.toList)) ∧ Below w.heap.size w w' := by
  by_cases hneg : n ≤ 0
  · have HZ := hidden (show n.toNat = 0 by omega)
    have h0 : ¬ 0 < n := by omega
    go_enter Tryd.func8, Tryd.ntmps8
    go_wp2
    refine wp_loop_rounds 1 ?_
    rw [rounds_succ]
    go_wp2_with fail
    refine (clone_any _ _ hs).mono ?_
    rintro e w1 ⟨rfl, hb⟩
    have HB := hidden hb
    clear hb
    go_wp2
    go_ret
    exact ⟨by rw [HZ.out]; show Ending.returned (.string s) = Ending.returned (S s.data.toList); rw [S_data], HB.out⟩
  · obtain ⟨N, rfl⟩ := Int.eq_ofNat_of_zero_le (show 0 ≤ n by omega)
    rw [Int.toNat_natCast]
    clear hneg
    go_enter Tryd.func8, Tryd.ntmps8
    go_wp2
    go_loop [1, 5] (fun k a => ∃ (nk na : Nat), k = .int .i64 nk ∧ a = .int .i64 na ∧ nk ≤ N ∧ na ≤ s.size ∧ Hid (strip N s.data.toList = strip nk (s.data.toList.drop na))) (fun k _ => (intOf k).toNat)
    case atStart => exact ⟨N, 0, rfl, rfl, Nat.le_refl _, Nat.zero_le _, rfl⟩
    case round =>
      obtain ⟨nk, na, rfl, rfl, hnk, hna, hst⟩ := hrel
      cases nk with
      | zero =>
        have HX := hidden (show strip N s.data.toList = (s.extract na s.size).data.toList by rw [hst.out, drop_text]; rfl)
        go_wp2_with fail
        refine (clone_any _ _ (by rw [ByteArray.size_extract]; omega)).mono ?_
        rintro e w1 ⟨rfl, hb⟩
        have HB := hidden hb
        clear hb
        go_wp2
        go_ret
        exact ⟨by rw [HX.out, S_data]; rfl, HB.out⟩
      | succ nk =>
        have HD := hidden (drop_text s na)
        have HLen := hidden (show (s.extract na s.size).size = s.size - na by rw [ByteArray.size_extract]; omega)
        go_wp2_with fail
        refine (pastRow_any _ _ (by rw [ByteArray.size_extract]; omega)).mono ?_
        rintro e w1 ⟨rfl, rfl⟩
        rw [HD.out]
        cases hh : has (s.data.toList.drop na)
        · have HX := hidden (show strip N s.data.toList = (s.extract na s.size).data.toList by rw [hst.out, strip_miss _ hh, HD.out])
          unfold O2
          rw [hh]
          simp only [Bool.false_eq_true, if_false]
          go_wp2_with fail
          refine (clone_any _ _ (by rw [ByteArray.size_extract]; omega)).mono ?_
          rintro e w1 ⟨rfl, hb⟩
          have HB := hidden hb
          clear hb
          go_wp2
          go_ret
          exact ⟨by rw [HX.out, S_data]; rfl, HB.out⟩
        · have hle := past_le _ hh
          rw [List.length_drop, ← Lib.size_eq] at hle
          have HX := hidden (show strip N s.data.toList = strip nk (s.data.toList.drop (na + past (s.data.toList.drop na))) by rw [hst.out, strip_hit _ hh, List.drop_drop])
          unfold O2
          rw [hh]
          simp only [if_true]
          generalize past (s.data.toList.drop na) = pp at *
          clear hh
          go_wp2
          go_round
          case rel => exact ⟨nk, na + pp, by go_num, by go_num, by omega, by omega, HX⟩
          case measure => simp [intOf]

theorem empty_data {s : ByteArray} (h : s.toList.isEmpty = true) : s.data.toList = [] := by
  rw [Lib.toList_data] at h; simpa using h
theorem nonempty_data {s : ByteArray} (h : s.toList.isEmpty = false) : s.data.toList ≠ [] := by
  rw [Lib.toList_data] at h; intro e; rw [e] at h; simp at h
def lenOf : Value → Nat
  | .string b => b.size
  | _ => 0

/-- one step of the cutting -/
theorem cut_step (l : ByteArray) (hne : l.data.toList ≠ []) : ∃ P Q b, Lib.cut l.data.toList [47] = (P, Q, b) ∧ parts l.data.toList = (if P = [] then [] else [P]) ++ parts Q ∧ Q.length < l.size ∧ P.length ≤ l.size := by
  rcases split_at 47 l.data.toList with h | ⟨p, q, e, h⟩
  · refine ⟨_, _, _, cut_miss _ 47 h, ?_, ?_, ?_⟩
    · rw [parts_miss _ h, parts_nil, List.append_nil]
    · rw [Lib.size_eq]; exact List.length_pos_iff.2 hne
    · rw [Lib.size_eq]; exact Nat.le_refl _
  · refine ⟨p, q, true, ?_, ?_, ?_, ?_⟩
    · rw [e, cut_hit p q 47 h]
    · rw [e, parts_hit p q h]
    · rw [Lib.size_eq, e]; simp; omega
    · rw [Lib.size_eq, e]; simp

set_option maxHeartbeats 2000000 in
theorem parts_any (s : ByteArray) (w : World) (he : Env w) (hs : s.size ≤ 1048576) :
    Calls Tryd.prog 11 #[.string s] w fun e w' => ∃ v, e = .returned v ∧ RowAt w' v (parts s.data.toList) ∧ Below w.heap.size w w' := by
  obtain ⟨i0, hi, hz0, hz1, hz2⟩ := info_parts Tryd.info9
  have HE := hidden he
  clear he
  go_enter Tryd.func11, Tryd.ntmps11
  go_wp2_with fail
  refine (clone_any s _ hs).mono ?_
  rintro e w1 ⟨rfl, hb1⟩
  have HB1 := hidden hb1
  have HE1 := hidden (HE.out.on hb1)
  clear hb1 HE
  go_wp2
  go_loopw [3, 4] (fun r v wr => ∃ (l : ByteArray) (xs : List (List UInt8)), r = .string l ∧ xs.length + l.size ≤ s.size ∧ Hid (parts s.data.toList = xs ++ parts l.data.toList) ∧ wr.ownsRow w1.heap.size 9 1 v xs.length (xs.map S) ∧ Hid (Below w1.heap.size w1 wr))
    (fun r _ _ => lenOf r)
  case atStart => exact ⟨s, [], rfl, by simp, rfl, World.ownsRow_nil _ _ _ _, Below.refl _ _⟩
  case round =>
    obtain ⟨l, xs, rfl, hxl, hxs, hown, hbl⟩ := hrel
    cases h0 : l.toList.isEmpty
    · obtain ⟨P, Q, fb, hcut, hparts, hQ, hP⟩ := cut_step l (nonempty_data h0)
      have HCUT := hidden hcut
      have HPA := hidden hparts
      obtain ⟨m, hm⟩ := (HE1.out.on hbl.out).m
      have HM := hidden hm
      clear hcut hparts hm
      go_wp2_with fail
      refine (Tryd.strings_Cut l ⟨#[47]⟩ m _ (by omega) HM.out).mono ?_
      rintro e w2 ⟨rfl, nq, rfl⟩
      rw [show (⟨#[47]⟩ : ByteArray).data.toList = [47] from rfl, HCUT.out]
      have hbq := hidden (below_drewN hbl.out nq)
      have hownq := owns_later hown (below_drewN (Below.refl _ wr) nq)
      generalize wr.drewN nq = w2 at *
      clear hown hbl HCUT HM
      by_cases hPe : P = []
      · have HX := hidden (show parts s.data.toList = xs ++ parts Q by rw [hxs.out, HPA.out, if_pos hPe, List.nil_append])
        subst hPe
        clear HPA
        go_wp2
        go_roundw
        case rel => exact ⟨⟨Q.toArray⟩, xs, rfl, by show _ + Q.length ≤ _; omega, HX, hownq, hbq⟩
        case measure => exact hQ
      · have HX := hidden (show parts s.data.toList = (xs ++ [P]) ++ parts Q by rw [hxs.out, HPA.out, if_neg hPe, List.append_assoc])
        have hbn := bne_empty hPe
        clear HPA hPe
        go_wp2_with (at_builtin; go_must (refine wpList_append_own _ rfl (.tmp 20) (.tmp 22) 25 rfl w1.heap.size 9 i0 (.string ⟨#[]⟩) 1 16 Tryd.underlying25 hi hz0 hz1 hz2 rfl (by decide) _ _ _ rfl (hownq.alloc _) ⟨_, 0, none⟩ 1 1 [.string ⟨P.toArray⟩] rfl rfl (cell_one_new _ _ _) (by intro u hu; simp at hu; subst hu; rfl) (by unfold maxLen; omega) (by omega) (by have := hbq.out.size; simp; omega) ?_; intro v' w3 hown2 hgrow2 _))
        have HXX := hownq.alloc (.cells #[.string ⟨P.toArray⟩] 9)
        have hb2 : Below w1.heap.size w1 w3 := (hbq.out.alloc hbq.out.size _).grown hgrow2 (by have := hbq.out.size; simp; omega) (fun j hj => (HXX.lt j hj).1)
        have hown3 : w3.ownsRow w1.heap.size 9 1 v' (xs ++ [P]).length ((xs ++ [P]).map S) := by
          rw [List.length_append, List.map_append, List.map_singleton]; exact hown2
        clear hown2 hgrow2 HXX
        go_roundw
        case rel => exact ⟨⟨Q.toArray⟩, _, rfl, by show _ + Q.length ≤ _; simp; omega, HX, hown3, hb2⟩
        case measure => exact hQ
    · have HX := hidden (show parts s.data.toList = xs by rw [hxs.out, empty_data h0, parts_nil, List.append_nil])
      go_wp2
      go_ret
      exact ⟨_, rfl, by rw [HX.out]; exact RowAt.of_owns hown, HB1.out.trans (hbl.out.mono HB1.out.size)⟩

theorem bang (T : List UInt8) (j : Nat) : (⟨T.toArray⟩ : ByteArray).data[j]! = T[j]?.getD 0 := by
  show T.toArray[j]! = _
  rw [List.getElem!_toArray, List.getElem!_eq_getElem?_getD]; rfl

theorem base_last (T : List UInt8) (hT : T.getLast? ≠ some 47) : (Lib.lastIndexByte ⟨T.toArray⟩ 47 = -1 ∧ base T = T) ∨ ∃ i : Nat, Lib.lastIndexByte ⟨T.toArray⟩ 47 = i ∧ i < T.length ∧ base T = T.drop (i + 1) := by
  have hsz : (⟨T.toArray⟩ : ByteArray).size = T.length := rfl
  rcases split_last 47 T with h | ⟨p, q, rfl, hq⟩
  · left
    refine ⟨?_, base_plain T h⟩
    rcases Lib.lastIndexByte_spec ⟨T.toArray⟩ 47 with ⟨e, _⟩ | ⟨i, hi, _, hc, _⟩
    · exact e
    · exfalso
      rw [bang] at hc
      rw [hsz] at hi
      rw [List.getElem?_eq_getElem hi] at hc
      exact h _ (List.getElem_mem hi) (UInt8.toNat_inj.1 (by show _ = 47; simp at hc; omega))
  · right
    have hpq : (p ++ 47 :: q)[p.length]? = some 47 := by simp
    have hlen : (p ++ 47 :: q).length = p.length + (q.length + 1) := by simp
    rcases Lib.lastIndexByte_spec ⟨(p ++ 47 :: q).toArray⟩ 47 with ⟨_, hn⟩ | ⟨i, hi, e, hc, hn⟩
    · exfalso
      apply hn p.length (by rw [hsz]; omega)
      rw [bang, hpq]; rfl
    · rw [hsz] at hi hn
      have hip : i = p.length := by
        rcases Nat.lt_trichotomy i p.length with h | h | h
        · exfalso
          apply hn p.length h (by omega)
          rw [bang, hpq]; rfl
        · exact h
        · exfalso
          rw [bang, List.getElem?_append_right (by omega), show i - p.length = (i - p.length - 1) + 1 by omega, List.getElem?_cons_succ] at hc
          have hlt : i - p.length - 1 < q.length := by omega
          rw [List.getElem?_eq_getElem hlt] at hc
          exact hq _ (List.getElem_mem hlt) (UInt8.toNat_inj.1 (by show _ = 47; simp at hc; omega))
      refine ⟨i, e, by omega, ?_⟩
      have hqe : q ≠ [] := fun h0 => hT (by rw [h0]; simp)
      rw [base_behind p q hq hqe, hip, ← List.drop_drop, List.drop_left]
      rfl

theorem trim_len (l : List UInt8) : (Lib.trimRightB l 47).length ≤ l.length := by
  obtain ⟨k, e, _⟩ := trim_spec l
  have := congrArg List.length e
  simp at this
  omega

set_option maxHeartbeats 1000000 in
theorem base_any (s : ByteArray) (w : World) (hs : s.size ≤ 1048576) :
    Calls Tryd.prog 13 #[.string s] w fun e w' => e = .returned (S (base s.data.toList)) ∧ Below w.heap.size w w' := by
  have HT := hidden (base_trim s.data.toList)
  have hlen := trim_len s.data.toList
  rw [← Lib.size_eq] at hlen
  obtain ⟨_, _, hT⟩ := trim_spec s.data.toList
  go_enter Tryd.func13, Tryd.ntmps13
  go_wp2_with fail
  refine (Tryd.strings_TrimRight_one s 47 (by decide) _ (by omega)).mono ?_
  rintro e w1 ⟨rfl, rfl⟩
  generalize Lib.trimRightB s.data.toList 47 = T at *
  have hbl := base_last T hT
  clear hT
  go_wp2_with fail
  refine (Tryd.strings_LastIndexByte ⟨T.toArray⟩ 47 (by show T.length < _; omega) _).mono ?_
  rintro e w2 ⟨rfl, rfl⟩
  rcases hbl with ⟨hL, hb⟩ | ⟨i, hL, hi, hb⟩
  · rw [hL]
    have HB := hidden hb
    have HX := hidden (show ((⟨T.toArray⟩ : ByteArray).extract 0 T.length).data.toList = T from drop_text ⟨T.toArray⟩ 0)
    clear hL hb
    go_wp2_with fail
    refine (clone_any _ _ (by rw [ByteArray.size_extract]; show min T.length _ - _ ≤ _; omega)).mono ?_
    rintro e w3 ⟨rfl, hb3⟩
    have HB3 := hidden hb3
    clear hb3
    go_wp2
    go_ret
    exact ⟨by rw [HT.out, HB.out, ← HX.out, S_data, HX.out]; rfl, HB3.out⟩
  · rw [hL]
    have HB := hidden hb
    have HX := hidden (show ((⟨T.toArray⟩ : ByteArray).extract (i + 1) (⟨T.toArray⟩ : ByteArray).size).data.toList = T.drop (i + 1) from drop_text ⟨T.toArray⟩ (i + 1))
    have hi2 : i + 1 ≤ (⟨T.toArray⟩ : ByteArray).size := by show _ ≤ T.length; omega
    clear hL hb
    go_wp2_with fail
    refine (clone_any _ _ (by rw [ByteArray.size_extract]; show min T.length _ - _ ≤ _; omega)).mono ?_
    rintro e w3 ⟨rfl, hb3⟩
    have HB3 := hidden hb3
    clear hb3
    go_wp2
    go_ret
    exact ⟨by rw [HT.out, HB.out, ← HX.out, S_data]; rfl, HB3.out⟩

end Go.Proofs.YtpgcdjoghcibiaaDoor
