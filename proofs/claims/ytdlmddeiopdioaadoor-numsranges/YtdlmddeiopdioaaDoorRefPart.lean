/-
  What the document's own part answers at any text of at most 1048576 bytes: a range, or that there is none; conditions: the text's length.
-/
import Derived.Test.YtdlmddeiopdioaaDoorOne
namespace Go.Proofs.YtdlmddeiopdioaaDoor
open Go.RowKit Go.Proofs.YtdlmddeiopdioaaDoor.Nm

theorem range_below0 (w : World) (f t : Int) : Below w.heap.size w (w.alloc (Obj.cells #[Value.int IntKind.i64 f, Value.int IntKind.i64 t] 39)) := (Below.refl _ w).alloc (Nat.le_refl _) _

theorem readNum_is (s : ByteArray) (a n en er : Int) (hR : read s.data.toList a = (n, en, er)) (hs : s.size ≤ 1048576) (w : World) :
    Calls Tryd.prog 10 #[.string s, .int .i64 a] w fun e w' => e = .returned (.tuple #[.int .i64 n, .int .i64 en, .int .i64 er]) ∧ w' = w := by
  have := readNum_any s a w hs
  rw [hR] at this; exact this

theorem head_data (s : ByteArray) (h : 0 < s.size) : s.data.toList.head? = some s[0] := by
  rw [List.head?_eq_getElem?]; exact get_data s 0 h

theorem byte_eq {b : UInt8} {k : Nat} (hk : k < 256) (h : ((b.toNat : Int) == (k : Int)) = true) : b = UInt8.ofNat k := by
  apply UInt8.toNat_inj.1
  rw [UInt8.toNat_ofNat']
  have := beq_iff_eq.1 h
  omega
theorem byte_ne {b : UInt8} {k : Nat} (hk : k < 256) (h : ((b.toNat : Int) == (k : Int)) = false) : b ≠ UInt8.ofNat k := by
  intro e
  rw [e, UInt8.toNat_ofNat'] at h
  rw [beq_eq_false_iff_ne] at h
  omega

set_option maxHeartbeats 1000000 in
theorem refPart_dash (s : ByteArray) (w : World) (hs : s.size ≤ 1048576) (h0 : 0 < s.size) (h45 : ((s[0].toNat : Int) == 45) = true) :
    Calls Tryd.prog 24 #[.string s] w fun e w' => ∃ v, e = .returned v ∧ IsPart v (Nm.part s.data.toList) ∧ Below w.heap.size w w' := by
  have hh : s.data.toList.head? = some 45 := by rw [head_data s h0, byte_eq (by decide) h45]; rfl
  have hp : Nm.part s.data.toList = if (read s.data.toList 1).2.2 = 0 ∧ (read s.data.toList 1).2.1 = (s.size : Int) ∧ 1 ≤ (read s.data.toList 1).1 then some (1, (read s.data.toList 1).1) else none := by
    rw [← refPart_eq, refPart, if_pos hh, Lib.size_eq]
  obtain ⟨⟨n, en, er⟩, hR⟩ : ∃ R, read s.data.toList 1 = R := ⟨_, rfl⟩
  rw [hR] at hp
  have HC := hidden (readNum_is s 1 n en er hR hs)
  have HP := hidden hp
  clear hp hR hh
  go_enter Tryd.func24, Tryd.ntmps24
  go_wp2_with fail
  refine (HC.out _).mono ?_
  rintro e w' ⟨rfl, rfl⟩
  by_cases hc : er = 0 ∧ en = (s.size : Int) ∧ 1 ≤ n
  · obtain ⟨rfl, rfl, hn⟩ := hc
    have HN := hidden (HP.out.trans (if_pos ⟨rfl, rfl, hn⟩))
    clear HP
    go_wp2
    refine bodyPost_ret (v := .tuple #[.agg #[.int .i64 1, .int .i64 n], .bool true]) (by simp [results, Tryd.results24, go_sem]) rfl ⟨_, rfl, by rw [HN.out]; rfl, range_below0 w 1 n⟩
  · have HN := hidden (HP.out.trans (if_neg hc))
    clear HP
    by_cases h2 : er = 0
    · subst h2
      by_cases h3 : en = (s.size : Int)
      · subst h3
        have h4 : n < 1 := by
          by_cases h : 1 ≤ n
          · exact absurd ⟨rfl, rfl, h⟩ hc
          · omega
        clear hc
        go_wp2
        refine bodyPost_ret (v := .tuple #[.agg #[.int .i64 1, .int .i64 n], .bool false]) (by simp [results, Tryd.results24, go_sem]; omega) rfl ⟨_, rfl, by rw [HN.out]; exact ⟨_, _, rfl⟩, range_below0 w 1 n⟩
      · have h3b : (en == (s.size : Int)) = false := by simp [h3]
        clear hc h3
        go_wp2
        refine bodyPost_ret (v := .tuple #[.agg #[.int .i64 1, .int .i64 n], .bool false]) (by simp [results, Tryd.results24, go_sem]) rfl ⟨_, rfl, by rw [HN.out]; exact ⟨_, _, rfl⟩, range_below0 w 1 n⟩
    · have h2b : (er == 0) = false := by simp [h2]
      clear hc h2
      go_wp2
      refine bodyPost_ret (v := .tuple #[.agg #[.int .i64 1, .int .i64 n], .bool false]) (by simp [results, Tryd.results24, go_sem]) rfl ⟨_, rfl, by rw [HN.out]; exact ⟨_, _, rfl⟩, range_below0 w 1 n⟩

theorem read_end (l : List UInt8) (k : Nat) (hk : k ≤ l.length) (h : (read l k).2.2 = 0) : ∃ j : Nat, (read l k).2.1 = j ∧ k ≤ j ∧ j ≤ l.length := by
  by_cases h1 : ds (l.drop k) = []
  · rw [read_none hk h1] at h; simp at h
  · by_cases h2 : 2147483648 < rd (ds (l.drop k))
    · rw [read_big hk h1 h2] at h; simp at h
    · rw [read_good hk h1 h2]
      have hle : (ds (l.drop k)).length ≤ (l.drop k).length := by
        obtain ⟨r, e, _⟩ := ds_split (l.drop k)
        have := congrArg List.length e
        rw [List.length_append] at this; omega
      rw [List.length_drop] at hle
      exact ⟨k + (ds (l.drop k)).length, by simp, by omega, by omega⟩

set_option maxHeartbeats 1000000 in
theorem refPart_empty (s : ByteArray) (w : World) (h0 : s.size = 0) :
    Calls Tryd.prog 24 #[.string s] w fun e w' => ∃ v, e = .returned v ∧ IsPart v (Nm.part s.data.toList) ∧ Below w.heap.size w w' := by
  have hl : s.data.toList = [] := List.eq_nil_of_length_eq_zero (by rw [← Lib.size_eq]; exact h0)
  have HN := hidden (show Nm.part s.data.toList = none by rw [hl]; rfl)
  have HC := hidden (readNum_is s 0 0 0 2 (by rw [hl]; rfl) (by omega))
  have h1 : s.size ≤ 0 := by omega
  clear hl h0
  go_enter Tryd.func24, Tryd.ntmps24
  go_wp2_with fail
  refine (HC.out _).mono ?_
  rintro e w' ⟨rfl, rfl⟩
  go_wp2
  refine bodyPost_ret (v := .tuple #[.agg #[.int .i64 0, .int .i64 0], .bool false]) (by simp [results, Tryd.results24, go_sem]) rfl ⟨_, rfl, by rw [HN.out]; exact ⟨_, _, rfl⟩, range_below0 w 0 0⟩

set_option maxHeartbeats 2000000 in
theorem refPart_rest (s : ByteArray) (w : World) (hs : s.size ≤ 1048576) (h0 : 0 < s.size) (h45 : ((s[0].toNat : Int) == 45) = false) :
    Calls Tryd.prog 24 #[.string s] w fun e w' => ∃ v, e = .returned v ∧ IsPart v (Nm.part s.data.toList) ∧ Below w.heap.size w w' := by
  have hh : s.data.toList.head? ≠ some 45 := by
    rw [head_data s h0]
    intro e
    exact byte_ne (k := 45) (by decide) h45 (Option.some.inj e)
  have hp := refPart_eq s.data.toList
  rw [refPart, if_neg hh] at hp
  have hend := read_end s.data.toList 0 (by omega)
  obtain ⟨⟨n, en, er⟩, hR⟩ : ∃ R, read s.data.toList 0 = R := ⟨_, rfl⟩
  rw [Int.natCast_zero] at hend
  rw [hR] at hp hend
  rw [← Lib.size_eq] at hp hend
  simp only [] at hp hend
  have HC := hidden (readNum_is s 0 n en er hR hs)
  clear hR hh
  by_cases hbad : er ≠ 0 ∨ n < 1
  · rw [if_pos hbad] at hp
    have HN := hidden hp.symm
    clear hp hend
    by_cases her : er = 0
    · subst her
      have hn : n < 1 := by rcases hbad with h | h; · exact absurd rfl h
                            · exact h
      clear hbad
      go_enter Tryd.func24, Tryd.ntmps24
      go_wp2_with fail
      refine (HC.out _).mono ?_
      rintro e w' ⟨rfl, rfl⟩
      go_wp2
      refine bodyPost_ret (v := .tuple #[.agg #[.int .i64 0, .int .i64 0], .bool false]) (by simp [results, Tryd.results24, go_sem]) rfl ⟨_, rfl, by rw [HN.out]; exact ⟨_, _, rfl⟩, range_below0 w 0 0⟩
    · have her' : (er != 0) = true := by simp [her]
      clear hbad her
      go_enter Tryd.func24, Tryd.ntmps24
      go_wp2_with fail
      refine (HC.out _).mono ?_
      rintro e w' ⟨rfl, rfl⟩
      go_wp2
      refine bodyPost_ret (v := .tuple #[.agg #[.int .i64 0, .int .i64 0], .bool false]) (by simp [results, Tryd.results24, go_sem]) rfl ⟨_, rfl, by rw [HN.out]; exact ⟨_, _, rfl⟩, range_below0 w 0 0⟩
  · rw [if_neg hbad] at hp
    obtain rfl : er = 0 := by
      by_cases h : er = 0
      · exact h
      · exact absurd (Or.inl h) hbad
    have hn : 1 ≤ n := by
      by_cases h : n < 1
      · exact absurd (Or.inr h) hbad
      · omega
    clear hbad
    obtain ⟨j, rfl, hj0, hj⟩ := hend rfl
    clear hend hj0
    by_cases hjs : j = s.size
    · have hjb : ((j : Int) == (s.size : Int)) = true := by simp [hjs]
      rw [if_pos (by rw [hjs])] at hp
      have HN := hidden hp.symm
      clear hp hjs
      go_enter Tryd.func24, Tryd.ntmps24
      go_wp2_with fail
      refine (HC.out _).mono ?_
      rintro e w' ⟨rfl, rfl⟩
      go_wp2
      refine bodyPost_ret (v := .tuple #[.agg #[.int .i64 n, .int .i64 n], .bool true]) (by simp [results, Tryd.results24, go_sem]) rfl ⟨_, rfl, by rw [HN.out]; rfl, range_below0 w n n⟩
    · have hjlt : j < s.size := by omega
      have hjb : ((j : Int) == (s.size : Int)) = false := by simp; omega
      rw [if_neg (by omega), Int.toNat_natCast, get_data s j hjlt] at hp
      clear hjs
      cases hb : ((s[j].toNat : Int) == 45)
      · rw [if_pos (by intro e; exact byte_ne (k := 45) (by decide) hb (Option.some.inj e))] at hp
        have HN := hidden hp.symm
        clear hp
        go_enter Tryd.func24, Tryd.ntmps24
        go_wp2_with fail
        refine (HC.out _).mono ?_
        rintro e w' ⟨rfl, rfl⟩
        go_wp2
        refine bodyPost_ret (v := .tuple #[.agg #[.int .i64 0, .int .i64 0], .bool false]) (by simp [results, Tryd.results24, go_sem]) rfl ⟨_, rfl, by rw [HN.out]; exact ⟨_, _, rfl⟩, range_below0 w 0 0⟩
      · have e45 : s[j] = 45 := byte_eq (k := 45) (by decide) hb
        rw [e45, if_neg (by simp)] at hp
        clear e45
        by_cases hlast : j + 1 = s.size
        · have hlb : ((j : Int) + 1 == (s.size : Int)) = true := by rw [beq_iff_eq]; omega
          rw [if_pos (by omega)] at hp
          have HN := hidden hp.symm
          clear hp hlast
          go_enter Tryd.func24, Tryd.ntmps24
          go_wp2_with fail
          refine (HC.out _).mono ?_
          rintro e w' ⟨rfl, rfl⟩
          go_wp2
          refine bodyPost_ret (v := .tuple #[.agg #[.int .i64 n, .int .i64 (-1)], .bool true]) (by simp [results, Tryd.results24, go_sem]) rfl ⟨_, rfl, by rw [HN.out]; rfl, range_below0 w n (-1)⟩
        · have hlb : ((j : Int) + 1 == (s.size : Int)) = false := by rw [beq_eq_false_iff_ne]; omega
          rw [if_neg (by omega)] at hp
          obtain ⟨⟨m, en2, er2⟩, hR2⟩ : ∃ R, read s.data.toList ((j : Int) + 1) = R := ⟨_, rfl⟩
          rw [hR2] at hp
          have HC2 := hidden (readNum_is s ((j : Int) + 1) m en2 er2 hR2 hs)
          clear hR2 hlast
          simp only [] at hp
          by_cases hc : er2 = 0 ∧ en2 = (s.size : Int) ∧ n ≤ m
          · rw [if_pos hc] at hp
            obtain ⟨rfl, rfl, hnm⟩ := hc
            have HN := hidden hp.symm
            clear hp
            go_enter Tryd.func24, Tryd.ntmps24
            go_wp2_with fail
            refine (HC.out _).mono ?_
            rintro e w' ⟨rfl, rfl⟩
            go_wp2_with fail
            refine (HC2.out _).mono ?_
            rintro e w' ⟨rfl, rfl⟩
            go_wp2
            refine bodyPost_ret (v := .tuple #[.agg #[.int .i64 n, .int .i64 m], .bool true]) (by simp [results, Tryd.results24, go_sem]) rfl ⟨_, rfl, by rw [HN.out]; rfl, range_below0 w n m⟩
          · rw [if_neg hc] at hp
            have HN := hidden hp.symm
            clear hp
            by_cases h2 : er2 = 0
            · subst h2
              by_cases h3 : en2 = (s.size : Int)
              · subst h3
                have h4 : m < n := by
                  by_cases h : n ≤ m
                  · exact absurd ⟨rfl, rfl, h⟩ hc
                  · omega
                clear hc
                go_enter Tryd.func24, Tryd.ntmps24
                go_wp2_with fail
                refine (HC.out _).mono ?_
                rintro e w' ⟨rfl, rfl⟩
                go_wp2_with fail
                refine (HC2.out _).mono ?_
                rintro e w' ⟨rfl, rfl⟩
                go_wp2
                refine bodyPost_ret (v := .tuple #[.agg #[.int .i64 n, .int .i64 m], .bool false]) (by simp [results, Tryd.results24, go_sem]; omega) rfl ⟨_, rfl, by rw [HN.out]; exact ⟨_, _, rfl⟩, range_below0 w n m⟩
              · have h3b : (en2 == (s.size : Int)) = false := by simp [h3]
                clear hc h3
                go_enter Tryd.func24, Tryd.ntmps24
                go_wp2_with fail
                refine (HC.out _).mono ?_
                rintro e w' ⟨rfl, rfl⟩
                go_wp2_with fail
                refine (HC2.out _).mono ?_
                rintro e w' ⟨rfl, rfl⟩
                go_wp2
                refine bodyPost_ret (v := .tuple #[.agg #[.int .i64 n, .int .i64 m], .bool false]) (by simp [results, Tryd.results24, go_sem]) rfl ⟨_, rfl, by rw [HN.out]; exact ⟨_, _, rfl⟩, range_below0 w n m⟩
            · have h2b : (er2 == 0) = false := by simp [h2]
              clear hc h2
              go_enter Tryd.func24, Tryd.ntmps24
              go_wp2_with fail
              refine (HC.out _).mono ?_
              rintro e w' ⟨rfl, rfl⟩
              go_wp2_with fail
              refine (HC2.out _).mono ?_
              rintro e w' ⟨rfl, rfl⟩
              go_wp2
              refine bodyPost_ret (v := .tuple #[.agg #[.int .i64 n, .int .i64 m], .bool false]) (by simp [results, Tryd.results24, go_sem]) rfl ⟨_, rfl, by rw [HN.out]; exact ⟨_, _, rfl⟩, range_below0 w n m⟩

theorem refPart_any (s : ByteArray) (w : World) (hs : s.size ≤ 1048576) :
    Calls Tryd.prog 24 #[.string s] w fun e w' => ∃ v, e = .returned v ∧ IsPart v (Nm.part s.data.toList) ∧ Below w.heap.size w w' := by
  by_cases h0 : 0 < s.size
  · cases h : ((s[0].toNat : Int) == 45)
    · exact refPart_rest s w hs h0 h
    · exact refPart_dash s w hs h0 h
  · exact refPart_empty s w (by omega)

end Go.Proofs.YtdlmddeiopdioaaDoor
