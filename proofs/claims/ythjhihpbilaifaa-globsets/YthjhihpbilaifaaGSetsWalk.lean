/-
  The law GlobSets, called with any text, three bytes and a bool, returns true, and nothing of what was in memory has turned; condition: the text's length.
-/
import Derived.Test.YthjhihpbilaifaaGCat
namespace Go.Proofs.Ythjhihpbilaifaa
open Go.RowKit Go.Proofs.Ythjhihpbilaifaa.Gl

theorem conv_one (c : UInt8) (W : World) (g : Nat) (h : W.cell? ⟨g, 0, none⟩ = some (.int .u8 c.toNat)) : (convert 25 9 (.slice (some ⟨g, 0, none⟩) 1 1)).run Try.prog W = .ok (.string ⟨#[c]⟩) W :=
  run_convert_bytes_back W 25 9 5 ⟨g, 0, none⟩ 1 [c] Try.underlying25 Try.underlying5 Try.underlying9 (fun j hj => by
    have : j = 0 := by simpa using hj
    subst this
    exact h)
theorem conv_three (a b : UInt8) (W : World) (g : Nat) (h0 : W.cell? ⟨g, 0, none⟩ = some (.int .u8 a.toNat)) (h1 : W.cell? ⟨g, 1, none⟩ = some (.int .u8 45)) (h2 : W.cell? ⟨g, 2, none⟩ = some (.int .u8 b.toNat)) : (convert 25 9 (.slice (some ⟨g, 0, none⟩) 3 3)).run Try.prog W = .ok (.string ⟨#[a, 45, b]⟩) W :=
  run_convert_bytes_back W 25 9 5 ⟨g, 0, none⟩ 3 [a, 45, b] Try.underlying25 Try.underlying5 Try.underlying9 (fun j hj => by
    have hj3 : j < 3 := by simpa using hj
    rcases (by omega : j = 0 ∨ j = 1 ∨ j = 2) with rfl | rfl | rfl
    · exact h0
    · exact h1
    · exact h2)
theorem any_more (l : Tx) (k : Nat) (c d : UInt8) (h : l[k]? = some d) : (l.take (k + 1)).any (fun x => x == c) = ((l.take k).any (fun x => x == c) || d == c) := by
  rw [List.take_add_one, h]
  simp
theorem pat_text (l : Tx) (a b : UInt8) : (⟨#[91]⟩ : ByteArray) ++ ⟨#[a, 45, b]⟩ ++ ⟨(escd l).toArray⟩ ++ ⟨#[93]⟩ = ⟨(setPat l a b false).toArray⟩ := by
  rw [show (⟨#[91]⟩ : ByteArray) = ⟨[91].toArray⟩ from rfl, show (⟨#[a, 45, b]⟩ : ByteArray) = ⟨[a, 45, b].toArray⟩ from rfl, show (⟨#[93]⟩ : ByteArray) = ⟨[93].toArray⟩ from rfl, cat_text, cat_text, cat_text]
  rfl
theorem pat_text2 (l : Tx) (a b : UInt8) : (⟨#[91, 33]⟩ : ByteArray) ++ ⟨#[a, 45, b]⟩ ++ ⟨(escd l).toArray⟩ ++ ⟨#[93]⟩ = ⟨(setPat l a b true).toArray⟩ := by
  rw [show (⟨#[91, 33]⟩ : ByteArray) = ⟨[91, 33].toArray⟩ from rfl, show (⟨#[a, 45, b]⟩ : ByteArray) = ⟨[a, 45, b].toArray⟩ from rfl, show (⟨#[93]⟩ : ByteArray) = ⟨[93].toArray⟩ from rfl, cat_text, cat_text, cat_text]
  rfl

set_option maxHeartbeats 8000000 in
set_option maxRecDepth 3000 in
theorem globSets_any (l : Tx) (a b : UInt8) (o : Bool) (c : UInt8) (w : World) (hl : l.length ≤ 281474976710656) :
    Calls Try.prog 5 #[S l, .int .u8 a.toNat, .int .u8 b.toNat, .bool o, .int .u8 c.toNat] w fun e w' => e = .returned (.bool true) ∧ Below w.heap.size w w' := by
  unfold S
  go_enter Try.func5, Try.ntmps5
  go_wp2_with fail
  refine (alive_any _).mono ?_
  rintro e w1 ⟨rfl, hb1⟩
  have HB1 := hidden hb1
  clear hb1
  by_cases h1 : l.length ≤ 10
  case neg =>
    have h1' : (10 : Int) < l.length := by omega
    go_wp2_with fail
    go_ret
    exact ⟨rfl, HB1.out⟩
  have h1' : ¬ (10 : Int) < l.length := by omega
  have h1d : decide ((10 : Int) < l.length) = false := decide_eq_false h1'
  by_cases e0 : a = 93
  case pos =>
    subst e0
    go_wp2_with fail
    go_ret
    exact ⟨rfl, HB1.out⟩
  have f0 := byte_ne (n := 93) e0
  have g0 : ((a.toNat : Int) == 93) = false := by rw [beq_eq_false_iff_ne]; exact f0
  by_cases e1 : a = 91
  case pos =>
    subst e1
    go_wp2_with fail
    go_ret
    exact ⟨rfl, HB1.out⟩
  have f1 := byte_ne (n := 91) e1
  have g1 : ((a.toNat : Int) == 91) = false := by rw [beq_eq_false_iff_ne]; exact f1
  by_cases e2 : a = 92
  case pos =>
    subst e2
    go_wp2_with fail
    go_ret
    exact ⟨rfl, HB1.out⟩
  have f2 := byte_ne (n := 92) e2
  have g2 : ((a.toNat : Int) == 92) = false := by rw [beq_eq_false_iff_ne]; exact f2
  by_cases e3 : a = 45
  case pos =>
    subst e3
    go_wp2_with fail
    go_ret
    exact ⟨rfl, HB1.out⟩
  have f3 := byte_ne (n := 45) e3
  have g3 : ((a.toNat : Int) == 45) = false := by rw [beq_eq_false_iff_ne]; exact f3
  by_cases e4 : a = 33
  case pos =>
    subst e4
    go_wp2_with fail
    go_ret
    exact ⟨rfl, HB1.out⟩
  have f4 := byte_ne (n := 33) e4
  have g4 : ((a.toNat : Int) == 33) = false := by rw [beq_eq_false_iff_ne]; exact f4
  by_cases e5 : a = 94
  case pos =>
    subst e5
    go_wp2_with fail
    go_ret
    exact ⟨rfl, HB1.out⟩
  have f5 := byte_ne (n := 94) e5
  have g5 : ((a.toNat : Int) == 94) = false := by rw [beq_eq_false_iff_ne]; exact f5
  by_cases e6 : b = 93
  case pos =>
    subst e6
    go_wp2_with fail
    go_ret
    exact ⟨rfl, HB1.out⟩
  have f6 := byte_ne (n := 93) e6
  have g6 : ((b.toNat : Int) == 93) = false := by rw [beq_eq_false_iff_ne]; exact f6
  by_cases e7 : b = 92
  case pos =>
    subst e7
    go_wp2_with fail
    go_ret
    exact ⟨rfl, HB1.out⟩
  have f7 := byte_ne (n := 92) e7
  have g7 : ((b.toNat : Int) == 92) = false := by rw [beq_eq_false_iff_ne]; exact f7
  by_cases e8 : b = 91
  case pos =>
    subst e8
    go_wp2_with fail
    go_ret
    exact ⟨rfl, HB1.out⟩
  have f8 := byte_ne (n := 91) e8
  have g8 : ((b.toNat : Int) == 91) = false := by rw [beq_eq_false_iff_ne]; exact f8
  have HH := hidden (hits_setPat l a b c o e1 e2 e4 e5 e6 e8 e7)
  clear e0 e1 e2 e3 e4 e5 e6 e7 e8
  have hcv := conv_one c
  have hcv3 := conv_three a b
  have hc3 : c.toNat < 256 := c.toNat_lt
  by_cases q1 : a.toNat ≤ c.toNat
  · have q1' : (a.toNat : Int) ≤ c.toNat := by omega
    by_cases q2 : c.toNat ≤ b.toNat
    · have q2' : (c.toNat : Int) ≤ b.toNat := by omega
      have hI : (decide (a.toNat ≤ c.toNat) && decide (c.toNat ≤ b.toNat)) = true := by simp [q1, q2]
      rw [hI] at HH
      clear hI
      go_wp2_with fail
      go_loop [12, 13, 14] (fun q qi i => ∃ (k : Nat) (bi : Bool), i = .int .i64 k ∧ k ≤ l.length ∧ q = .string ⟨(escd (l.take k)).toArray⟩ ∧ qi = .bool bi ∧ Hid (bi = (true || (l.take k).any (fun x => x == c))))
        (fun _ _ i => l.length - (intOf i).toNat)
      case atStart => exact ⟨0, true, rfl, Nat.zero_le _, rfl, rfl, rfl⟩
      case round =>
        obtain ⟨k, bi, rfl, hk, rfl, rfl, HBI⟩ := hrel
        by_cases hlt : k < l.length
        · obtain ⟨d, hd⟩ : ∃ d, l[k]? = some d := ⟨l[k], List.getElem?_eq_getElem hlt⟩
          have hbd : ∀ h, (⟨l.toArray⟩ : ByteArray)[k]'h = d := fun h => by rw [byte_at, List.getD_eq_getElem?_getD, hd]; rfl
          have HAN := hidden (show (true || (l.take (k + 1)).any (fun x => x == c)) = (bi || d == c) from by rw [any_more l k c d hd, HBI.out, Bool.or_assoc])
          have hel : (escd (l.take k)).length ≤ 100 := by rw [escd_len, List.length_take]; omega
          have HTX := hidden (show (⟨(escd (l.take k)).toArray⟩ : ByteArray) ++ ⟨#[92]⟩ ++ (⟨l.toArray⟩ : ByteArray).extract k (k + 1) = ⟨(escd (l.take (k + 1))).toArray⟩ from by
            rw [one_of l k hlt, cat_text (escd (l.take k)) [92], cat_text, escd_more l k hlt])
          clear hd
          cases bi with
          | true =>
            go_wp2_with fail
            exact ⟨⟨k + 1, true, by go_num, by omega, by rw [HTX.out], rfl, HAN.out.symm⟩, by simp [intOf]; omega⟩
          | false =>
            by_cases ecd : d = c
            · subst ecd
              go_wp2_with fail
              exact ⟨⟨k + 1, true, by go_num, by omega, by rw [HTX.out], rfl, HAN.out.trans (by simp) |>.symm⟩, by simp [intOf]; omega⟩
            · have ecn : ¬ (d.toNat : Int) = c.toNat := fun e => ecd (UInt8.toNat_inj.1 (by exact_mod_cast e))
              have ecb : ((d.toNat : Int) == c.toNat) = false := by rw [beq_eq_false_iff_ne]; exact ecn
              have HAN2 := hidden (show false = (true || (l.take (k + 1)).any (fun x => x == c)) from by rw [HAN.out]; simp [ecd])
              clear ecd
              go_wp2_with fail
              exact ⟨⟨k + 1, false, by go_num, by omega, by rw [HTX.out], rfl, HAN2.out⟩, by simp [intOf]; omega⟩
        · obtain rfl : k = l.length := by omega
          rw [List.take_length]
          have hbi := HBI.out
          rw [List.take_length] at hbi
          rw [← hbi] at HH
          have hell : (escd l).length ≤ 100 := by rw [escd_len]; omega
          clear hbi hk hlt HBI
          cases o with
          | false =>
            go_wp2_with fail
            have HB1a := hidden ((HB1.out.alloc HB1.out.size (.cells #[.int .u8 a.toNat, .int .u8 45, .int .u8 b.toNat] 5)).alloc (by have := HB1.out.size; simp; omega) (.cells #[.int .u8 c.toNat] 5))
            have hpl : (setPat l a b false).length ≤ 1000000 := by simp [setPat]; omega
            rw [pat_text]
            cases bi with
            | false =>
              refine (match_is (setPat l a b false) [c] false _ (by rw [HH.out.1]; rfl) hpl (by simp)).mono ?_
              rintro e w2 ⟨rfl, hb2⟩
              have HB2 := hidden (HB1a.out.trans (hb2.mono HB1a.out.size))
              clear hb2
              go_wp2_with fail
              refine (match_is (setPat l a b false) [] false _ HH.out.2.1 hpl (by simp)).mono ?_
              rintro e w3 ⟨rfl, hb3⟩
              have HB3 := hidden (HB2.out.trans (hb3.mono HB2.out.size))
              clear hb3
              go_wp2_with fail
              rw [cat_text [c] [c]]
              refine (match_is (setPat l a b false) ([c] ++ [c]) false _ HH.out.2.2 hpl (by simp)).mono ?_
              rintro e w4 ⟨rfl, hb4⟩
              have HB4 := hidden (HB3.out.trans (hb4.mono HB3.out.size))
              clear hb4
              go_wp2_with fail
              go_ret
              exact ⟨rfl, HB4.out⟩
            | true =>
              by_cases e47 : c = 47
              · have f47 : (c.toNat : Int) = 47 := by rw [e47]; rfl
                have g47 : ((c.toNat : Int) != 47) = false := by rw [f47]; rfl
                have k47 : (c != 47) = false := by rw [e47]; rfl
                clear e47 f47
                refine (match_is (setPat l a b false) [c] false _ (by rw [HH.out.1, k47]; rfl) hpl (by simp)).mono ?_
                rintro e w2 ⟨rfl, hb2⟩
                have HB2 := hidden (HB1a.out.trans (hb2.mono HB1a.out.size))
                clear hb2
                go_wp2_with fail
                refine (match_is (setPat l a b false) [] false _ HH.out.2.1 hpl (by simp)).mono ?_
                rintro e w3 ⟨rfl, hb3⟩
                have HB3 := hidden (HB2.out.trans (hb3.mono HB2.out.size))
                clear hb3
                go_wp2_with fail
                rw [cat_text [c] [c]]
                refine (match_is (setPat l a b false) ([c] ++ [c]) false _ HH.out.2.2 hpl (by simp)).mono ?_
                rintro e w4 ⟨rfl, hb4⟩
                have HB4 := hidden (HB3.out.trans (hb4.mono HB3.out.size))
                clear hb4
                go_wp2_with fail
                go_ret
                exact ⟨rfl, HB4.out⟩
              · have f47 := byte_ne (n := 47) e47
                have g47 : ((c.toNat : Int) != 47) = true := by rw [bne_iff_ne]; exact f47
                have k47 : (c != 47) = true := by rw [bne_iff_ne]; exact e47
                clear e47
                refine (match_is (setPat l a b false) [c] true _ (by rw [HH.out.1]; rw [k47]; rfl) hpl (by simp)).mono ?_
                rintro e w2 ⟨rfl, hb2⟩
                have HB2 := hidden (HB1a.out.trans (hb2.mono HB1a.out.size))
                clear hb2
                go_wp2_with fail
                refine (match_is (setPat l a b false) [] false _ HH.out.2.1 hpl (by simp)).mono ?_
                rintro e w3 ⟨rfl, hb3⟩
                have HB3 := hidden (HB2.out.trans (hb3.mono HB2.out.size))
                clear hb3
                go_wp2_with fail
                rw [cat_text [c] [c]]
                refine (match_is (setPat l a b false) ([c] ++ [c]) false _ HH.out.2.2 hpl (by simp)).mono ?_
                rintro e w4 ⟨rfl, hb4⟩
                have HB4 := hidden (HB3.out.trans (hb4.mono HB3.out.size))
                clear hb4
                go_wp2_with fail
                go_ret
                exact ⟨rfl, HB4.out⟩
          | true =>
            go_wp2_with fail
            have HB1a := hidden ((HB1.out.alloc HB1.out.size (.cells #[.int .u8 a.toNat, .int .u8 45, .int .u8 b.toNat] 5)).alloc (by have := HB1.out.size; simp; omega) (.cells #[.int .u8 c.toNat] 5))
            have hpl : (setPat l a b true).length ≤ 1000000 := by simp [setPat]; omega
            rw [pat_text2]
            cases bi with
            | true =>
              refine (match_is (setPat l a b true) [c] false _ (by rw [HH.out.1]; rfl) hpl (by simp)).mono ?_
              rintro e w2 ⟨rfl, hb2⟩
              have HB2 := hidden (HB1a.out.trans (hb2.mono HB1a.out.size))
              clear hb2
              go_wp2_with fail
              refine (match_is (setPat l a b true) [] false _ HH.out.2.1 hpl (by simp)).mono ?_
              rintro e w3 ⟨rfl, hb3⟩
              have HB3 := hidden (HB2.out.trans (hb3.mono HB2.out.size))
              clear hb3
              go_wp2_with fail
              rw [cat_text [c] [c]]
              refine (match_is (setPat l a b true) ([c] ++ [c]) false _ HH.out.2.2 hpl (by simp)).mono ?_
              rintro e w4 ⟨rfl, hb4⟩
              have HB4 := hidden (HB3.out.trans (hb4.mono HB3.out.size))
              clear hb4
              go_wp2_with fail
              go_ret
              exact ⟨rfl, HB4.out⟩
            | false =>
              by_cases e47 : c = 47
              · have f47 : (c.toNat : Int) = 47 := by rw [e47]; rfl
                have g47 : ((c.toNat : Int) != 47) = false := by rw [f47]; rfl
                have k47 : (c != 47) = false := by rw [e47]; rfl
                clear e47 f47
                refine (match_is (setPat l a b true) [c] false _ (by rw [HH.out.1, k47]; rfl) hpl (by simp)).mono ?_
                rintro e w2 ⟨rfl, hb2⟩
                have HB2 := hidden (HB1a.out.trans (hb2.mono HB1a.out.size))
                clear hb2
                go_wp2_with fail
                refine (match_is (setPat l a b true) [] false _ HH.out.2.1 hpl (by simp)).mono ?_
                rintro e w3 ⟨rfl, hb3⟩
                have HB3 := hidden (HB2.out.trans (hb3.mono HB2.out.size))
                clear hb3
                go_wp2_with fail
                rw [cat_text [c] [c]]
                refine (match_is (setPat l a b true) ([c] ++ [c]) false _ HH.out.2.2 hpl (by simp)).mono ?_
                rintro e w4 ⟨rfl, hb4⟩
                have HB4 := hidden (HB3.out.trans (hb4.mono HB3.out.size))
                clear hb4
                go_wp2_with fail
                go_ret
                exact ⟨rfl, HB4.out⟩
              · have f47 := byte_ne (n := 47) e47
                have g47 : ((c.toNat : Int) != 47) = true := by rw [bne_iff_ne]; exact f47
                have k47 : (c != 47) = true := by rw [bne_iff_ne]; exact e47
                clear e47
                refine (match_is (setPat l a b true) [c] true _ (by rw [HH.out.1]; rw [k47]; rfl) hpl (by simp)).mono ?_
                rintro e w2 ⟨rfl, hb2⟩
                have HB2 := hidden (HB1a.out.trans (hb2.mono HB1a.out.size))
                clear hb2
                go_wp2_with fail
                refine (match_is (setPat l a b true) [] false _ HH.out.2.1 hpl (by simp)).mono ?_
                rintro e w3 ⟨rfl, hb3⟩
                have HB3 := hidden (HB2.out.trans (hb3.mono HB2.out.size))
                clear hb3
                go_wp2_with fail
                rw [cat_text [c] [c]]
                refine (match_is (setPat l a b true) ([c] ++ [c]) false _ HH.out.2.2 hpl (by simp)).mono ?_
                rintro e w4 ⟨rfl, hb4⟩
                have HB4 := hidden (HB3.out.trans (hb4.mono HB3.out.size))
                clear hb4
                go_wp2_with fail
                go_ret
                exact ⟨rfl, HB4.out⟩
    · have q2' : ¬ (c.toNat : Int) ≤ b.toNat := by omega
      have hI : (decide (a.toNat ≤ c.toNat) && decide (c.toNat ≤ b.toNat)) = false := by simp [q2]
      rw [hI] at HH
      clear hI
      go_wp2_with fail
      go_loop [12, 13, 14] (fun q qi i => ∃ (k : Nat) (bi : Bool), i = .int .i64 k ∧ k ≤ l.length ∧ q = .string ⟨(escd (l.take k)).toArray⟩ ∧ qi = .bool bi ∧ Hid (bi = (false || (l.take k).any (fun x => x == c))))
        (fun _ _ i => l.length - (intOf i).toNat)
      case atStart => exact ⟨0, false, rfl, Nat.zero_le _, rfl, rfl, rfl⟩
      case round =>
        obtain ⟨k, bi, rfl, hk, rfl, rfl, HBI⟩ := hrel
        by_cases hlt : k < l.length
        · obtain ⟨d, hd⟩ : ∃ d, l[k]? = some d := ⟨l[k], List.getElem?_eq_getElem hlt⟩
          have hbd : ∀ h, (⟨l.toArray⟩ : ByteArray)[k]'h = d := fun h => by rw [byte_at, List.getD_eq_getElem?_getD, hd]; rfl
          have HAN := hidden (show (false || (l.take (k + 1)).any (fun x => x == c)) = (bi || d == c) from by rw [any_more l k c d hd, HBI.out, Bool.or_assoc])
          have hel : (escd (l.take k)).length ≤ 100 := by rw [escd_len, List.length_take]; omega
          have HTX := hidden (show (⟨(escd (l.take k)).toArray⟩ : ByteArray) ++ ⟨#[92]⟩ ++ (⟨l.toArray⟩ : ByteArray).extract k (k + 1) = ⟨(escd (l.take (k + 1))).toArray⟩ from by
            rw [one_of l k hlt, cat_text (escd (l.take k)) [92], cat_text, escd_more l k hlt])
          clear hd
          cases bi with
          | true =>
            go_wp2_with fail
            exact ⟨⟨k + 1, true, by go_num, by omega, by rw [HTX.out], rfl, HAN.out.symm⟩, by simp [intOf]; omega⟩
          | false =>
            by_cases ecd : d = c
            · subst ecd
              go_wp2_with fail
              exact ⟨⟨k + 1, true, by go_num, by omega, by rw [HTX.out], rfl, HAN.out.trans (by simp) |>.symm⟩, by simp [intOf]; omega⟩
            · have ecn : ¬ (d.toNat : Int) = c.toNat := fun e => ecd (UInt8.toNat_inj.1 (by exact_mod_cast e))
              have ecb : ((d.toNat : Int) == c.toNat) = false := by rw [beq_eq_false_iff_ne]; exact ecn
              have HAN2 := hidden (show false = (false || (l.take (k + 1)).any (fun x => x == c)) from by rw [HAN.out]; simp [ecd])
              clear ecd
              go_wp2_with fail
              exact ⟨⟨k + 1, false, by go_num, by omega, by rw [HTX.out], rfl, HAN2.out⟩, by simp [intOf]; omega⟩
        · obtain rfl : k = l.length := by omega
          rw [List.take_length]
          have hbi := HBI.out
          rw [List.take_length] at hbi
          rw [← hbi] at HH
          have hell : (escd l).length ≤ 100 := by rw [escd_len]; omega
          clear hbi hk hlt HBI
          cases o with
          | false =>
            go_wp2_with fail
            have HB1a := hidden ((HB1.out.alloc HB1.out.size (.cells #[.int .u8 a.toNat, .int .u8 45, .int .u8 b.toNat] 5)).alloc (by have := HB1.out.size; simp; omega) (.cells #[.int .u8 c.toNat] 5))
            have hpl : (setPat l a b false).length ≤ 1000000 := by simp [setPat]; omega
            rw [pat_text]
            cases bi with
            | false =>
              refine (match_is (setPat l a b false) [c] false _ (by rw [HH.out.1]; rfl) hpl (by simp)).mono ?_
              rintro e w2 ⟨rfl, hb2⟩
              have HB2 := hidden (HB1a.out.trans (hb2.mono HB1a.out.size))
              clear hb2
              go_wp2_with fail
              refine (match_is (setPat l a b false) [] false _ HH.out.2.1 hpl (by simp)).mono ?_
              rintro e w3 ⟨rfl, hb3⟩
              have HB3 := hidden (HB2.out.trans (hb3.mono HB2.out.size))
              clear hb3
              go_wp2_with fail
              rw [cat_text [c] [c]]
              refine (match_is (setPat l a b false) ([c] ++ [c]) false _ HH.out.2.2 hpl (by simp)).mono ?_
              rintro e w4 ⟨rfl, hb4⟩
              have HB4 := hidden (HB3.out.trans (hb4.mono HB3.out.size))
              clear hb4
              go_wp2_with fail
              go_ret
              exact ⟨rfl, HB4.out⟩
            | true =>
              by_cases e47 : c = 47
              · have f47 : (c.toNat : Int) = 47 := by rw [e47]; rfl
                have g47 : ((c.toNat : Int) != 47) = false := by rw [f47]; rfl
                have k47 : (c != 47) = false := by rw [e47]; rfl
                clear e47 f47
                refine (match_is (setPat l a b false) [c] false _ (by rw [HH.out.1, k47]; rfl) hpl (by simp)).mono ?_
                rintro e w2 ⟨rfl, hb2⟩
                have HB2 := hidden (HB1a.out.trans (hb2.mono HB1a.out.size))
                clear hb2
                go_wp2_with fail
                refine (match_is (setPat l a b false) [] false _ HH.out.2.1 hpl (by simp)).mono ?_
                rintro e w3 ⟨rfl, hb3⟩
                have HB3 := hidden (HB2.out.trans (hb3.mono HB2.out.size))
                clear hb3
                go_wp2_with fail
                rw [cat_text [c] [c]]
                refine (match_is (setPat l a b false) ([c] ++ [c]) false _ HH.out.2.2 hpl (by simp)).mono ?_
                rintro e w4 ⟨rfl, hb4⟩
                have HB4 := hidden (HB3.out.trans (hb4.mono HB3.out.size))
                clear hb4
                go_wp2_with fail
                go_ret
                exact ⟨rfl, HB4.out⟩
              · have f47 := byte_ne (n := 47) e47
                have g47 : ((c.toNat : Int) != 47) = true := by rw [bne_iff_ne]; exact f47
                have k47 : (c != 47) = true := by rw [bne_iff_ne]; exact e47
                clear e47
                refine (match_is (setPat l a b false) [c] true _ (by rw [HH.out.1]; rw [k47]; rfl) hpl (by simp)).mono ?_
                rintro e w2 ⟨rfl, hb2⟩
                have HB2 := hidden (HB1a.out.trans (hb2.mono HB1a.out.size))
                clear hb2
                go_wp2_with fail
                refine (match_is (setPat l a b false) [] false _ HH.out.2.1 hpl (by simp)).mono ?_
                rintro e w3 ⟨rfl, hb3⟩
                have HB3 := hidden (HB2.out.trans (hb3.mono HB2.out.size))
                clear hb3
                go_wp2_with fail
                rw [cat_text [c] [c]]
                refine (match_is (setPat l a b false) ([c] ++ [c]) false _ HH.out.2.2 hpl (by simp)).mono ?_
                rintro e w4 ⟨rfl, hb4⟩
                have HB4 := hidden (HB3.out.trans (hb4.mono HB3.out.size))
                clear hb4
                go_wp2_with fail
                go_ret
                exact ⟨rfl, HB4.out⟩
          | true =>
            go_wp2_with fail
            have HB1a := hidden ((HB1.out.alloc HB1.out.size (.cells #[.int .u8 a.toNat, .int .u8 45, .int .u8 b.toNat] 5)).alloc (by have := HB1.out.size; simp; omega) (.cells #[.int .u8 c.toNat] 5))
            have hpl : (setPat l a b true).length ≤ 1000000 := by simp [setPat]; omega
            rw [pat_text2]
            cases bi with
            | true =>
              refine (match_is (setPat l a b true) [c] false _ (by rw [HH.out.1]; rfl) hpl (by simp)).mono ?_
              rintro e w2 ⟨rfl, hb2⟩
              have HB2 := hidden (HB1a.out.trans (hb2.mono HB1a.out.size))
              clear hb2
              go_wp2_with fail
              refine (match_is (setPat l a b true) [] false _ HH.out.2.1 hpl (by simp)).mono ?_
              rintro e w3 ⟨rfl, hb3⟩
              have HB3 := hidden (HB2.out.trans (hb3.mono HB2.out.size))
              clear hb3
              go_wp2_with fail
              rw [cat_text [c] [c]]
              refine (match_is (setPat l a b true) ([c] ++ [c]) false _ HH.out.2.2 hpl (by simp)).mono ?_
              rintro e w4 ⟨rfl, hb4⟩
              have HB4 := hidden (HB3.out.trans (hb4.mono HB3.out.size))
              clear hb4
              go_wp2_with fail
              go_ret
              exact ⟨rfl, HB4.out⟩
            | false =>
              by_cases e47 : c = 47
              · have f47 : (c.toNat : Int) = 47 := by rw [e47]; rfl
                have g47 : ((c.toNat : Int) != 47) = false := by rw [f47]; rfl
                have k47 : (c != 47) = false := by rw [e47]; rfl
                clear e47 f47
                refine (match_is (setPat l a b true) [c] false _ (by rw [HH.out.1, k47]; rfl) hpl (by simp)).mono ?_
                rintro e w2 ⟨rfl, hb2⟩
                have HB2 := hidden (HB1a.out.trans (hb2.mono HB1a.out.size))
                clear hb2
                go_wp2_with fail
                refine (match_is (setPat l a b true) [] false _ HH.out.2.1 hpl (by simp)).mono ?_
                rintro e w3 ⟨rfl, hb3⟩
                have HB3 := hidden (HB2.out.trans (hb3.mono HB2.out.size))
                clear hb3
                go_wp2_with fail
                rw [cat_text [c] [c]]
                refine (match_is (setPat l a b true) ([c] ++ [c]) false _ HH.out.2.2 hpl (by simp)).mono ?_
                rintro e w4 ⟨rfl, hb4⟩
                have HB4 := hidden (HB3.out.trans (hb4.mono HB3.out.size))
                clear hb4
                go_wp2_with fail
                go_ret
                exact ⟨rfl, HB4.out⟩
              · have f47 := byte_ne (n := 47) e47
                have g47 : ((c.toNat : Int) != 47) = true := by rw [bne_iff_ne]; exact f47
                have k47 : (c != 47) = true := by rw [bne_iff_ne]; exact e47
                clear e47
                refine (match_is (setPat l a b true) [c] true _ (by rw [HH.out.1]; rw [k47]; rfl) hpl (by simp)).mono ?_
                rintro e w2 ⟨rfl, hb2⟩
                have HB2 := hidden (HB1a.out.trans (hb2.mono HB1a.out.size))
                clear hb2
                go_wp2_with fail
                refine (match_is (setPat l a b true) [] false _ HH.out.2.1 hpl (by simp)).mono ?_
                rintro e w3 ⟨rfl, hb3⟩
                have HB3 := hidden (HB2.out.trans (hb3.mono HB2.out.size))
                clear hb3
                go_wp2_with fail
                rw [cat_text [c] [c]]
                refine (match_is (setPat l a b true) ([c] ++ [c]) false _ HH.out.2.2 hpl (by simp)).mono ?_
                rintro e w4 ⟨rfl, hb4⟩
                have HB4 := hidden (HB3.out.trans (hb4.mono HB3.out.size))
                clear hb4
                go_wp2_with fail
                go_ret
                exact ⟨rfl, HB4.out⟩
  · have q1' : ¬ (a.toNat : Int) ≤ c.toNat := by omega
    have hI : (decide (a.toNat ≤ c.toNat) && decide (c.toNat ≤ b.toNat)) = false := by simp [q1]
    rw [hI] at HH
    clear hI
    go_wp2_with fail
    go_loop [12, 13, 14] (fun q qi i => ∃ (k : Nat) (bi : Bool), i = .int .i64 k ∧ k ≤ l.length ∧ q = .string ⟨(escd (l.take k)).toArray⟩ ∧ qi = .bool bi ∧ Hid (bi = (false || (l.take k).any (fun x => x == c))))
      (fun _ _ i => l.length - (intOf i).toNat)
    case atStart => exact ⟨0, false, rfl, Nat.zero_le _, rfl, rfl, rfl⟩
    case round =>
      obtain ⟨k, bi, rfl, hk, rfl, rfl, HBI⟩ := hrel
      by_cases hlt : k < l.length
      · obtain ⟨d, hd⟩ : ∃ d, l[k]? = some d := ⟨l[k], List.getElem?_eq_getElem hlt⟩
        have hbd : ∀ h, (⟨l.toArray⟩ : ByteArray)[k]'h = d := fun h => by rw [byte_at, List.getD_eq_getElem?_getD, hd]; rfl
        have HAN := hidden (show (false || (l.take (k + 1)).any (fun x => x == c)) = (bi || d == c) from by rw [any_more l k c d hd, HBI.out, Bool.or_assoc])
        have hel : (escd (l.take k)).length ≤ 100 := by rw [escd_len, List.length_take]; omega
        have HTX := hidden (show (⟨(escd (l.take k)).toArray⟩ : ByteArray) ++ ⟨#[92]⟩ ++ (⟨l.toArray⟩ : ByteArray).extract k (k + 1) = ⟨(escd (l.take (k + 1))).toArray⟩ from by
          rw [one_of l k hlt, cat_text (escd (l.take k)) [92], cat_text, escd_more l k hlt])
        clear hd
        cases bi with
        | true =>
          go_wp2_with fail
          exact ⟨⟨k + 1, true, by go_num, by omega, by rw [HTX.out], rfl, HAN.out.symm⟩, by simp [intOf]; omega⟩
        | false =>
          by_cases ecd : d = c
          · subst ecd
            go_wp2_with fail
            exact ⟨⟨k + 1, true, by go_num, by omega, by rw [HTX.out], rfl, HAN.out.trans (by simp) |>.symm⟩, by simp [intOf]; omega⟩
          · have ecn : ¬ (d.toNat : Int) = c.toNat := fun e => ecd (UInt8.toNat_inj.1 (by exact_mod_cast e))
            have ecb : ((d.toNat : Int) == c.toNat) = false := by rw [beq_eq_false_iff_ne]; exact ecn
            have HAN2 := hidden (show false = (false || (l.take (k + 1)).any (fun x => x == c)) from by rw [HAN.out]; simp [ecd])
            clear ecd
            go_wp2_with fail
            exact ⟨⟨k + 1, false, by go_num, by omega, by rw [HTX.out], rfl, HAN2.out⟩, by simp [intOf]; omega⟩
      · obtain rfl : k = l.length := by omega
        rw [List.take_length]
        have hbi := HBI.out
        rw [List.take_length] at hbi
        rw [← hbi] at HH
        have hell : (escd l).length ≤ 100 := by rw [escd_len]; omega
        clear hbi hk hlt HBI
        cases o with
        | false =>
          go_wp2_with fail
          have HB1a := hidden ((HB1.out.alloc HB1.out.size (.cells #[.int .u8 a.toNat, .int .u8 45, .int .u8 b.toNat] 5)).alloc (by have := HB1.out.size; simp; omega) (.cells #[.int .u8 c.toNat] 5))
          have hpl : (setPat l a b false).length ≤ 1000000 := by simp [setPat]; omega
          rw [pat_text]
          cases bi with
          | false =>
            refine (match_is (setPat l a b false) [c] false _ (by rw [HH.out.1]; rfl) hpl (by simp)).mono ?_
            rintro e w2 ⟨rfl, hb2⟩
            have HB2 := hidden (HB1a.out.trans (hb2.mono HB1a.out.size))
            clear hb2
            go_wp2_with fail
            refine (match_is (setPat l a b false) [] false _ HH.out.2.1 hpl (by simp)).mono ?_
            rintro e w3 ⟨rfl, hb3⟩
            have HB3 := hidden (HB2.out.trans (hb3.mono HB2.out.size))
            clear hb3
            go_wp2_with fail
            rw [cat_text [c] [c]]
            refine (match_is (setPat l a b false) ([c] ++ [c]) false _ HH.out.2.2 hpl (by simp)).mono ?_
            rintro e w4 ⟨rfl, hb4⟩
            have HB4 := hidden (HB3.out.trans (hb4.mono HB3.out.size))
            clear hb4
            go_wp2_with fail
            go_ret
            exact ⟨rfl, HB4.out⟩
          | true =>
            by_cases e47 : c = 47
            · have f47 : (c.toNat : Int) = 47 := by rw [e47]; rfl
              have g47 : ((c.toNat : Int) != 47) = false := by rw [f47]; rfl
              have k47 : (c != 47) = false := by rw [e47]; rfl
              clear e47 f47
              refine (match_is (setPat l a b false) [c] false _ (by rw [HH.out.1, k47]; rfl) hpl (by simp)).mono ?_
              rintro e w2 ⟨rfl, hb2⟩
              have HB2 := hidden (HB1a.out.trans (hb2.mono HB1a.out.size))
              clear hb2
              go_wp2_with fail
              refine (match_is (setPat l a b false) [] false _ HH.out.2.1 hpl (by simp)).mono ?_
              rintro e w3 ⟨rfl, hb3⟩
              have HB3 := hidden (HB2.out.trans (hb3.mono HB2.out.size))
              clear hb3
              go_wp2_with fail
              rw [cat_text [c] [c]]
              refine (match_is (setPat l a b false) ([c] ++ [c]) false _ HH.out.2.2 hpl (by simp)).mono ?_
              rintro e w4 ⟨rfl, hb4⟩
              have HB4 := hidden (HB3.out.trans (hb4.mono HB3.out.size))
              clear hb4
              go_wp2_with fail
              go_ret
              exact ⟨rfl, HB4.out⟩
            · have f47 := byte_ne (n := 47) e47
              have g47 : ((c.toNat : Int) != 47) = true := by rw [bne_iff_ne]; exact f47
              have k47 : (c != 47) = true := by rw [bne_iff_ne]; exact e47
              clear e47
              refine (match_is (setPat l a b false) [c] true _ (by rw [HH.out.1]; rw [k47]; rfl) hpl (by simp)).mono ?_
              rintro e w2 ⟨rfl, hb2⟩
              have HB2 := hidden (HB1a.out.trans (hb2.mono HB1a.out.size))
              clear hb2
              go_wp2_with fail
              refine (match_is (setPat l a b false) [] false _ HH.out.2.1 hpl (by simp)).mono ?_
              rintro e w3 ⟨rfl, hb3⟩
              have HB3 := hidden (HB2.out.trans (hb3.mono HB2.out.size))
              clear hb3
              go_wp2_with fail
              rw [cat_text [c] [c]]
              refine (match_is (setPat l a b false) ([c] ++ [c]) false _ HH.out.2.2 hpl (by simp)).mono ?_
              rintro e w4 ⟨rfl, hb4⟩
              have HB4 := hidden (HB3.out.trans (hb4.mono HB3.out.size))
              clear hb4
              go_wp2_with fail
              go_ret
              exact ⟨rfl, HB4.out⟩
        | true =>
          go_wp2_with fail
          have HB1a := hidden ((HB1.out.alloc HB1.out.size (.cells #[.int .u8 a.toNat, .int .u8 45, .int .u8 b.toNat] 5)).alloc (by have := HB1.out.size; simp; omega) (.cells #[.int .u8 c.toNat] 5))
          have hpl : (setPat l a b true).length ≤ 1000000 := by simp [setPat]; omega
          rw [pat_text2]
          cases bi with
          | true =>
            refine (match_is (setPat l a b true) [c] false _ (by rw [HH.out.1]; rfl) hpl (by simp)).mono ?_
            rintro e w2 ⟨rfl, hb2⟩
            have HB2 := hidden (HB1a.out.trans (hb2.mono HB1a.out.size))
            clear hb2
            go_wp2_with fail
            refine (match_is (setPat l a b true) [] false _ HH.out.2.1 hpl (by simp)).mono ?_
            rintro e w3 ⟨rfl, hb3⟩
            have HB3 := hidden (HB2.out.trans (hb3.mono HB2.out.size))
            clear hb3
            go_wp2_with fail
            rw [cat_text [c] [c]]
            refine (match_is (setPat l a b true) ([c] ++ [c]) false _ HH.out.2.2 hpl (by simp)).mono ?_
            rintro e w4 ⟨rfl, hb4⟩
            have HB4 := hidden (HB3.out.trans (hb4.mono HB3.out.size))
            clear hb4
            go_wp2_with fail
            go_ret
            exact ⟨rfl, HB4.out⟩
          | false =>
            by_cases e47 : c = 47
            · have f47 : (c.toNat : Int) = 47 := by rw [e47]; rfl
              have g47 : ((c.toNat : Int) != 47) = false := by rw [f47]; rfl
              have k47 : (c != 47) = false := by rw [e47]; rfl
              clear e47 f47
              refine (match_is (setPat l a b true) [c] false _ (by rw [HH.out.1, k47]; rfl) hpl (by simp)).mono ?_
              rintro e w2 ⟨rfl, hb2⟩
              have HB2 := hidden (HB1a.out.trans (hb2.mono HB1a.out.size))
              clear hb2
              go_wp2_with fail
              refine (match_is (setPat l a b true) [] false _ HH.out.2.1 hpl (by simp)).mono ?_
              rintro e w3 ⟨rfl, hb3⟩
              have HB3 := hidden (HB2.out.trans (hb3.mono HB2.out.size))
              clear hb3
              go_wp2_with fail
              rw [cat_text [c] [c]]
              refine (match_is (setPat l a b true) ([c] ++ [c]) false _ HH.out.2.2 hpl (by simp)).mono ?_
              rintro e w4 ⟨rfl, hb4⟩
              have HB4 := hidden (HB3.out.trans (hb4.mono HB3.out.size))
              clear hb4
              go_wp2_with fail
              go_ret
              exact ⟨rfl, HB4.out⟩
            · have f47 := byte_ne (n := 47) e47
              have g47 : ((c.toNat : Int) != 47) = true := by rw [bne_iff_ne]; exact f47
              have k47 : (c != 47) = true := by rw [bne_iff_ne]; exact e47
              clear e47
              refine (match_is (setPat l a b true) [c] true _ (by rw [HH.out.1]; rw [k47]; rfl) hpl (by simp)).mono ?_
              rintro e w2 ⟨rfl, hb2⟩
              have HB2 := hidden (HB1a.out.trans (hb2.mono HB1a.out.size))
              clear hb2
              go_wp2_with fail
              refine (match_is (setPat l a b true) [] false _ HH.out.2.1 hpl (by simp)).mono ?_
              rintro e w3 ⟨rfl, hb3⟩
              have HB3 := hidden (HB2.out.trans (hb3.mono HB2.out.size))
              clear hb3
              go_wp2_with fail
              rw [cat_text [c] [c]]
              refine (match_is (setPat l a b true) ([c] ++ [c]) false _ HH.out.2.2 hpl (by simp)).mono ?_
              rintro e w4 ⟨rfl, hb4⟩
              have HB4 := hidden (HB3.out.trans (hb4.mono HB3.out.size))
              clear hb4
              go_wp2_with fail
              go_ret
              exact ⟨rfl, HB4.out⟩

end Go.Proofs.Ythjhihpbilaifaa
