/-
  What nodes, one behind the other, or one of several, are laid out as; conditions: how great they are, and that each of them is laid out so.
-/
import Derived.Test.YtjlihidmohokhaaNAdd
import Derived.Test.YtjlihidmohokhaaQRight
namespace Go.Proofs.Ytjlihidmohokhaa
open Go.RowKit Go.Proofs.Ytjlihidmohokhaa.Gl

theorem KidsAt.kid {W : World} {A : Nat → Prop} {a : Option Addr} {n cap : Nat} {l : List Nd} {j : Nat} {d : Nd} (h : KidsAt W A (.slice a n cap) l) (hd : l[j]? = some d) :
    ∃ b o z y0 y1 y2 y3 sa sn sc lo hi, a = some ⟨b, o, none⟩ ∧ A b ∧ b < W.heap.size ∧ NodeAt W A (.agg #[.int .i64 z, .int .u64 y0, .int .u64 y1, .int .u64 y2, .int .u64 y3, .slice sa sn sc, .int .i64 lo, .int .i64 hi]) d ∧ W.cell? ⟨b, o + j * 8, none⟩ = some (.int .i64 z) ∧ W.cell? ⟨b, o + j * 8 + 1, none⟩ = some (.int .u64 y0) ∧ W.cell? ⟨b, o + j * 8 + 2, none⟩ = some (.int .u64 y1) ∧ W.cell? ⟨b, o + j * 8 + 3, none⟩ = some (.int .u64 y2) ∧ W.cell? ⟨b, o + j * 8 + 4, none⟩ = some (.int .u64 y3) ∧ W.cell? ⟨b, o + j * 8 + 5, none⟩ = some (.slice sa sn sc) ∧ W.cell? ⟨b, o + j * 8 + 6, none⟩ = some (.int .i64 lo) ∧ W.cell? ⟨b, o + j * 8 + 7, none⟩ = some (.int .i64 hi) := by
  obtain ⟨a', cap', vs, hkv, hvl, hcap, hcells, hkids⟩ := h
  cases hkv
  have hlt := (List.getElem?_eq_some_iff.1 hd).1
  obtain ⟨u, hu⟩ : ∃ u, vs[j]? = some u := ⟨_, List.getElem?_eq_getElem (by omega)⟩
  have hne : l ≠ [] := fun e => by rw [e] at hlt; simp at hlt
  obtain ⟨b, o, rfl, hA, hce⟩ := hcells hne
  have hnc := hce j u hu
  have hbl := hnc.lt
  obtain ⟨c0, c1, c2, c3, c4, c5, c6, c7, rfl, q0, q1, q2, q3, q4, q5, q6, q7⟩ := hnc
  have hN1 := hkids j _ d hu hd
  obtain ⟨z, y0, y1, y2, y3, sa, sn, sc, lo2, hi2, hsh⟩ := hN1.shapeI
  injection hsh with hsh
  simp at hsh
  obtain ⟨rfl, rfl, rfl, rfl, rfl, rfl, rfl, rfl⟩ := hsh
  exact ⟨b, o, z, y0, y1, y2, y3, sa, sn, sc, lo2, hi2, rfl, hA, hbl, hN1, q0, q1, q2, q3, q4, q5, q6, q7⟩
theorem KidsAt.form {W : World} {A : Nat → Prop} {kv : Value} {l : List Nd} (h : KidsAt W A kv l) : ∃ a cap, kv = .slice a l.length cap ∧ l.length ≤ cap := by
  obtain ⟨a', cap', vs, hkv, hvl, hcap, hcells, hkids⟩ := h
  exact ⟨a', cap', hkv, hcap⟩
/-- a node below a block stays where all below it stays -/
theorem NodeAt.under {W W' : World} {P : Nat} {v : Value} {d : Nd} (h : NodeAt W (· < P) v d) (hb : Below P W W') : NodeAt W' (· < P) v d := h.keep fun b hA _ => ⟨hb.block b hA, hA⟩
theorem KidsAt.under {W W' : World} {P : Nat} {v : Value} {d : List Nd} (h : KidsAt W (· < P) v d) (hb : Below P W W') : KidsAt W' (· < P) v d := h.keep fun b hA _ => ⟨hb.block b hA, hA⟩

/-- what a laying answers -/
def LayAns (P B : Nat) (mv : Value) (ss : List Sta) (next : Nat) (R : Tx → Nat → Nat → Prop) (K : Nat) (w : World) (e : Ending) (w' : World) : Prop :=
  ∃ (q : Nat) (mv' : Value) (ss' : List Sta), e = .returned (.int .i64 q) ∧ MAt w' P B mv' ss' ∧ Mg P mv mv' w w' ∧ Laid ss ss' R next q ∧ ss'.length ≤ ss.length + K
/-- a node is laid out as it should be -/
def LayOk (d : Nd) : Prop := ∀ (most : Nat), rqN d most = true → ∀ (v : Value) (P B : Nat) (mv : Value) (ss : List Sta) (next : Nat) (w : World), NodeAt w (· < P) v d → MAt w P B mv ss → next < ss.length → B ≤ w.heap.size → ss.length + 2 * sizeN d ≤ 1000000 →
  Calls Try.prog 42 #[.pointer (some ⟨P, 0, none⟩), v, .int .i64 next] w (LayAns P B mv ss next (fun s => tk s d) (2 * sizeN d - 1) w)

theorem sizes_drop {l : List Nd} {j : Nat} {d : Nd} (h : l[j]? = some d) : sizes (l.drop j) = sizeN d + sizes (l.drop (j + 1)) ∧ l.drop j = d :: l.drop (j + 1) := by
  obtain ⟨hj, rfl⟩ := List.getElem?_eq_some_iff.1 h
  have : l.drop j = l[j] :: l.drop (j + 1) := List.drop_eq_getElem_cons hj
  exact ⟨by rw [this, sizes], this⟩
theorem sizes_drop_le (l : List Nd) : ∀ j, sizes (l.drop j) ≤ sizes l := by
  induction l with
  | nil => intro j; simp
  | cons d l ih =>
    intro j
    cases j with
    | zero => exact Nat.le_refl _
    | succ j => rw [List.drop_succ_cons, sizes]; have := ih j; omega
theorem sizeN_pos' (x : Nd) : 1 ≤ sizeN x := by
  obtain ⟨k, f, kids, lo, hi⟩ := x
  rw [sizeN]; omega

set_option maxHeartbeats 4000000 in
theorem layAll_of (N : Nat) (IH : ∀ d, cntN d ≤ N → LayOk d) (m : Nat) (l : List Nd) (hl : ∀ d ∈ l, cntN d ≤ N ∧ rqN d m = true) (kv : Value) (P B : Nat) (mv : Value) (ss : List Sta) (next : Nat) (w : World) (hk : KidsAt w (· < P) kv l) (hm : MAt w P B mv ss) (hn : next < ss.length) (hB : B ≤ w.heap.size) (hsz : ss.length + 2 * sizes l ≤ 1000000) (hll : l.length ≤ 1048576) :
    Calls Try.prog 50 #[.pointer (some ⟨P, 0, none⟩), kv, .int .i64 next] w (LayAns P B mv ss next (fun s => catK s l) (2 * sizes l) w) := by
  obtain ⟨a, cap, rfl, hcap⟩ := hk.form
  have HK := hidden hk
  have HM := hidden hm
  have HIH := hidden IH
  have HL := hidden hl
  clear hk hm IH hl
  go_enter Try.func50, Try.ntmps50
  go_wp2_with fail
  go_loopw [2, 7] (fun nx i wr => ∃ (j q : Nat) (mv' : Value) (ss' : List Sta), i = .int .i64 ((j : Int) - 1) ∧ nx = .int .i64 q ∧ j ≤ l.length ∧ Hid (MAt wr P B mv' ss' ∧ Mg P mv mv' w wr ∧ Laid ss ss' (fun s => catK s (l.drop j)) next q ∧ ss'.length ≤ ss.length + 2 * sizes (l.drop j))) (fun _ i _ => (intOf i + 1).toNat)
  case atStart => exact ⟨l.length, next, mv, ss, by go_num, rfl, Nat.le_refl _, HM.out, Mg.refl P mv w, (Laid.id hn).iff (fun s i j => by rw [List.drop_length, catK]), by omega⟩
  case round =>
    obtain ⟨j, q, mv', ss', rfl, rfl, hj, hM, hG, hLd, hlen⟩ := hrel
    cases j with
    | zero =>
      have HA := hidden (show LayAns P B mv ss next (fun s => catK s l) (2 * sizes l) w (.returned (.int .i64 q)) wr from ⟨q, mv', ss', rfl, hM, hG, hLd, hlen⟩)
      clear hM hG hLd hlen
      go_wp2_with fail
      go_ret
      exact HA.out
    | succ j =>
      obtain ⟨d, hd⟩ : ∃ d, l[j]? = some d := ⟨_, List.getElem?_eq_getElem (by omega)⟩
      have hbP := hG.below HM.out
      have hK2 := HK.out.under hbP
      obtain ⟨b, o, z, y0, y1, y2, y3, sa, sn, sc, lo, hi, rfl, hA, hbl, hN, q0, q1, q2, q3, q4, q5, q6, q7⟩ := hK2.kid hd
      have hsd := sizes_drop hd
      have hsl := sizes_drop_le l j
      have hpos := sizeN_pos' d
      have hq := hLd.at_
      have hws := hG.size
      have hB2 : B ≤ wr.heap.size := by omega
      have hz2 : ss'.length + 2 * sizeN d ≤ 1000000 := by omega
      have HN := hidden hN
      have HM2 := hidden hM
      have HG := hidden hG
      have HLd := hidden hLd
      have HS := hidden (And.intro hsd hlen)
      have HD := hidden (HL.out d (List.mem_of_getElem? hd))
      have hji : (0 : Int) ≤ (j : Int) := by omega
      clear hbP hK2 hN hM hG hLd hlen hsd hd hA
      go_wp2_with fail
      refine (HIH.out d HD.out.1 m HD.out.2 _ P B mv' ss' q _ HN.out HM2.out hq hB2 hz2).mono ?_
      rintro e w2 ⟨q2, mv2, ss2, rfl, hM2, hG2, hLd2, hlen2⟩
      have HR := hidden (show MAt w2 P B mv2 ss2 ∧ Mg P mv mv2 w w2 ∧ Laid ss ss2 (fun s => catK s (l.drop j)) next q2 ∧ ss2.length ≤ ss.length + 2 * sizes (l.drop j) from ⟨hM2, HG.out.trans hG2, (HLd.out.comp hLd2).iff (fun s i j' => by rw [HS.out.1.2, catK]), by have := HS.out.1.1; have := HS.out.2; omega⟩)
      clear hM2 hG2 hLd2 hlen2
      go_wp2_with fail
      go_roundw
      case rel => exact ⟨j, q2, mv2, ss2, by go_num, rfl, by omega, HR.out⟩
      case measure => simp [intOf]

theorem add_plain (k next other : Nat) (P B : Nat) (mv : Value) (ss : List Sta) (w : World) (hm : MAt w P B mv ss) (hlen : ss.length < 1048576) (hB : B ≤ w.heap.size) :
    Calls Try.prog 43 #[.pointer (some ⟨P, 0, none⟩), .agg #[.int .i64 k, .int .u64 0, .int .u64 0, .int .u64 0, .int .u64 0, .int .i64 next, .int .i64 other]] w fun e w' => ∃ mv', e = .returned (.int .i64 ss.length) ∧ MAt w' P B mv' (ss ++ [⟨k, none_, next, other⟩]) ∧ Mg P mv mv' w w' := by
  have h := add_any ⟨k, none_, next, other⟩ P B mv ss w hm hlen hB
  rw [show word none_ 0 = 0 from word_none 0, show word none_ 1 = 0 from word_none 1, show word none_ 2 = 0 from word_none 2, show word none_ 3 = 0 from word_none 3] at h
  exact h

set_option maxHeartbeats 4000000 in
theorem layEither_of (N : Nat) (IH : ∀ d, cntN d ≤ N → LayOk d) (m : Nat) (l : List Nd) (hne : l ≠ []) (hl : ∀ d ∈ l, cntN d ≤ N ∧ rqN d m = true) (kv : Value) (P B : Nat) (mv : Value) (ss : List Sta) (next : Nat) (w : World) (hk : KidsAt w (· < P) kv l) (hm : MAt w P B mv ss) (hn : next < ss.length) (hB : B ≤ w.heap.size) (hsz : ss.length + 2 * sizes l ≤ 1000000) (hll : l.length ≤ 1048576) :
    Calls Try.prog 51 #[.pointer (some ⟨P, 0, none⟩), kv, .int .i64 next] w (LayAns P B mv ss next (fun s => altK s l) (2 * sizes l - 1) w) := by
  obtain ⟨a, cap, rfl, hcap⟩ := hk.form
  have HK := hidden hk
  have HM := hidden hm
  have HIH := hidden IH
  have HL := hidden hl
  obtain ⟨n, hn1⟩ : ∃ n, l.length = n + 1 := by
    cases l with
    | nil => exact absurd rfl hne
    | cons d l => exact ⟨l.length, rfl⟩
  obtain ⟨d, hd⟩ : ∃ d, l[n]? = some d := ⟨_, List.getElem?_eq_getElem (by omega)⟩
  obtain ⟨b, o, z, y0, y1, y2, y3, sa, sn, sc, lo, hi, rfl, hA, hbl, hN, q0, q1, q2, q3, q4, q5, q6, q7⟩ := hk.kid hd
  have HNN := hidden hn1
  rw [hn1] at hcap hll ⊢
  have hsd := sizes_drop hd
  have hsl := sizes_drop_le l n
  have HDE := hidden (show l.drop (n + 1) = [] from by rw [← hn1, List.drop_length])
  have HSD := hidden hsd
  have HD := hidden (HL.out d (List.mem_of_getElem? hd))
  have HN := hidden hN
  have hz2 : ss.length + 2 * sizeN d ≤ 1000000 := by omega
  clear hk hm IH hl hne hd hN hA hn1 hsd
  go_enter Try.func51, Try.ntmps51
  go_wp2_with fail
  refine (HIH.out d HD.out.1 m HD.out.2 _ P B mv ss next _ HN.out HM.out hn hB hz2).mono ?_
  rintro e w1 ⟨r1, mv1, ss1, rfl, hM1, hG1, hLd1, hlen1⟩
  have HR1 := hidden (show MAt w1 P B mv1 ss1 ∧ Mg P mv mv1 w w1 ∧ Laid ss ss1 (fun s => altK s (l.drop n)) next r1 ∧ ss1.length + 1 ≤ ss.length + 2 * sizes (l.drop n) from ⟨hM1, hG1, hLd1.iff (fun s i j' => by rw [HSD.out.2, HDE.out, altK, altK, or_false]), by have := HSD.out.1; have := sizeN_pos' d; omega⟩)
  clear hM1 hG1 hLd1 hlen1 q0 q1 q2 q3 q4 q5 q6 q7 hbl HN HD HSD HDE
  go_wp2_with fail
  go_loopw [8, 9] (fun nx i wr => ∃ (j q : Nat) (mv' : Value) (ss' : List Sta), i = .int .i64 ((j : Int) - 1) ∧ nx = .int .i64 q ∧ j ≤ n ∧ Hid (MAt wr P B mv' ss' ∧ Mg P mv mv' w wr ∧ Laid ss ss' (fun s => altK s (l.drop j)) next q ∧ ss'.length + 1 ≤ ss.length + 2 * sizes (l.drop j))) (fun _ i _ => (intOf i + 1).toNat)
  case atStart => exact ⟨n, r1, mv1, ss1, by go_num, rfl, Nat.le_refl _, HR1.out⟩
  case round =>
    obtain ⟨j, q, mv', ss', rfl, rfl, hj, hM, hG, hLd, hlen⟩ := hrel
    cases j with
    | zero =>
      have HA := hidden (show LayAns P B mv ss next (fun s => altK s l) (2 * sizes l - 1) w (.returned (.int .i64 q)) wr from ⟨q, mv', ss', rfl, hM, hG, hLd, by rw [List.drop_zero] at hlen; omega⟩)
      clear hM hG hLd hlen
      go_wp2_with fail
      go_ret
      exact HA.out
    | succ j =>
      have hln := HNN.out
      obtain ⟨d, hd⟩ : ∃ d, l[j]? = some d := ⟨_, List.getElem?_eq_getElem (by omega)⟩
      have hbP := hG.below HM.out
      have hK2 := HK.out.under hbP
      obtain ⟨b', o', z, y0, y1, y2, y3, sa, sn, sc, lo, hi, hbo, hA, hbl, hN, q0, q1, q2, q3, q4, q5, q6, q7⟩ := hK2.kid hd
      obtain ⟨rfl, rfl⟩ : b = b' ∧ o = o' := by simpa using hbo
      have hsd := sizes_drop hd
      have hsl := sizes_drop_le l j
      have hpos := sizeN_pos' d
      have hq := hLd.at_
      have hws := hG.size
      have hll2 := hLd.len
      have hB2 : B ≤ wr.heap.size := by omega
      have hz2 : ss'.length + 2 * sizeN d ≤ 1000000 := by omega
      have hn2 : next < ss'.length := by omega
      have HN := hidden hN
      have HM2 := hidden hM
      have HG := hidden hG
      have HLd := hidden hLd
      have HS := hidden (And.intro hsd hlen)
      have HD := hidden (HL.out d (List.mem_of_getElem? hd))
      have hji : (0 : Int) ≤ (j : Int) := by omega
      have hjn : (j : Int) < (n : Int) + 1 := by omega
      clear hbP hK2 hN hM hG hLd hlen hsd hd hA hbo hln
      go_wp2_with fail
      refine (HIH.out d HD.out.1 m HD.out.2 _ P B mv' ss' next _ HN.out HM2.out hn2 hB2 hz2).mono ?_
      rintro e w2 ⟨q2, mv2, ss2, rfl, hM2, hG2, hLd2, hlen2⟩
      have hws2 := hG2.size
      have hB3 : B ≤ w2.heap.size := by omega
      have HM3 := hidden hM2
      have hs2 : ss2.length < 1048576 := by omega
      have HLA := hidden (Laid.alt none_ hn HLd.out hLd2)
      have HG3 := hidden (HG.out.trans hG2)
      have HLN := hidden hlen2
      clear hM2 hG2 hLd2 hlen2
      go_wp2_with fail
      refine (add_plain 1 q2 q P B mv2 ss2 _ HM3.out hs2 hB3).mono ?_
      rintro e w3 ⟨mv3, rfl, hM4, hG4⟩
      have HR := hidden (show MAt w3 P B mv3 (ss2 ++ [⟨1, none_, q2, q⟩]) ∧ Mg P mv mv3 w w3 ∧ Laid ss (ss2 ++ [⟨1, none_, q2, q⟩]) (fun s => altK s (l.drop j)) next ss2.length ∧ (ss2 ++ [(⟨1, none_, q2, q⟩ : Sta)]).length + 1 ≤ ss.length + 2 * sizes (l.drop j) from ⟨hM4, HG3.out.trans hG4, HLA.out.iff (fun s i j' => by rw [HS.out.1.2, altK]), by have := HS.out.1.1; have := HS.out.2; have := HLN.out; have := sizeN_pos' d; rw [List.length_append]; show ss2.length + 1 + 1 ≤ _; omega⟩)
      clear hM4 hG4
      go_wp2_with fail
      go_roundw
      case rel => exact ⟨j, ss2.length, mv3, _, by go_num, rfl, by omega, HR.out⟩
      case measure => simp [intOf]

end Go.Proofs.Ytjlihidmohokhaa
