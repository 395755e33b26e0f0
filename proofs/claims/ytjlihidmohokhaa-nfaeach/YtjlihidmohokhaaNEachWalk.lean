/-
  The law NfaEach, called with any number, returns true, and nothing of what was in memory has turned; no condition.
-/
import Derived.Test.YtjlihidmohokhaaNAlive
import Derived.Deep.RegionHeld3
namespace Go.Proofs.Ytjlihidmohokhaa
open Go.RowKit Go.Proofs.Ytjlihidmohokhaa.Gl

set_option maxHeartbeats 1000000 in
theorem nfaEach_out (i : Int) (w : World) (hout : i < 0 ∨ 26 ≤ i) : Calls Try.prog 7 #[.int .i64 i] w fun e w' => e = .returned (.bool true) ∧ Below w.heap.size w w' := by
  rcases hout with h | h
  all_goals
    go_enter Try.func7, Try.ntmps7
    go_wp2_with fail
    refine (alive_any _).mono ?_
    rintro e w1 ⟨rfl, hb1⟩
    have Hb1 := hidden hb1
    clear hb1
    go_wp2_with fail
    go_ret
    exact ⟨rfl, ((Hb1.out.alloc Hb1.out.size _).alloc (by have := Hb1.out.size; simp; omega) _).alloc (by have := Hb1.out.size; simp; omega) _⟩

/-- the memory behind the law's three tables -/
def tabP : Array Value := #[Value.string { data := #[] }, Value.string { data := #[97] }, Value.string { data := #[94, 97] }, Value.string { data := #[94, 97] }, Value.string { data := #[97, 36] }, Value.string { data := #[94, 36] }, Value.string { data := #[94, 36] }, Value.string { data := #[97, 46, 99] }, Value.string { data := #[97, 46, 99] }, Value.string { data := #[40, 97, 98, 41, 42, 99] }, Value.string { data := #[94, 40, 97, 98, 41, 42, 36] }, Value.string { data := #[94, 40, 97, 98, 41, 42, 36] }, Value.string { data := #[91, 48, 45, 57, 93, 43] }, Value.string { data := #[91, 94, 97, 93] }, Value.string { data := #[97, 124, 98] }, Value.string { data := #[94, 97, 124, 98, 36] }, Value.string { data := #[120, 123, 50, 44, 51, 125] }, Value.string { data := #[94, 120, 123, 50, 44, 51, 125, 36] }, Value.string { data := #[97, 63, 98] }, Value.string { data := #[40, 97, 124, 97, 98, 41, 40, 99, 124, 98, 99, 100, 41, 36] }, Value.string { data := #[97, 94] }, Value.string { data := #[40, 94, 97, 41, 43] }, Value.string { data := #[40, 41] }, Value.string { data := #[91, 91, 58, 117, 112, 112, 101, 114, 58, 93, 93] }, Value.string { data := #[94, 46, 42, 36] }, Value.string { data := #[94, 46, 36] }]
def tabN : Array Value := #[Value.string { data := #[] }, Value.string { data := #[120, 97, 120] }, Value.string { data := #[97, 98] }, Value.string { data := #[98, 97] }, Value.string { data := #[98, 97] }, Value.string { data := #[] }, Value.string { data := #[120] }, Value.string { data := #[97, 98, 99] }, Value.string { data := #[97, 10, 99] }, Value.string { data := #[97, 98, 97, 98, 99] }, Value.string { data := #[97, 98, 97, 98] }, Value.string { data := #[97, 98, 97] }, Value.string { data := #[120, 49] }, Value.string { data := #[97, 97] }, Value.string { data := #[99, 98] }, Value.string { data := #[120, 98] }, Value.string { data := #[97, 120, 120, 98] }, Value.string { data := #[120, 120, 120, 120] }, Value.string { data := #[98] }, Value.string { data := #[97, 98, 99, 100] }, Value.string { data := #[97, 97] }, Value.string { data := #[97, 97] }, Value.string { data := #[] }, Value.string { data := #[97, 66, 99] }, Value.string { data := #[97, 10, 98] }, Value.string { data := #[10] }]
def tabW : Array Value := #[Value.bool true, Value.bool true, Value.bool true, Value.bool false, Value.bool true, Value.bool true, Value.bool false, Value.bool true, Value.bool false, Value.bool true, Value.bool true, Value.bool false, Value.bool true, Value.bool false, Value.bool true, Value.bool true, Value.bool true, Value.bool false, Value.bool true, Value.bool true, Value.bool false, Value.bool true, Value.bool true, Value.bool true, Value.bool false, Value.bool false]
def eachWorld (w : World) : World := ((w.alloc (Obj.cells tabP 9)).alloc (Obj.cells tabN 9)).alloc (Obj.cells tabW 4)
def foundX (x : Tx) (r : Bool) : Rs Nd → Bool
  | .ok n _ => (!(Gl.runN x n (List.range (x.length + 1))).isEmpty) == r
  | .er _ _ => false
theorem foundX_is {p x : Tx} {r : Bool} (h : foundX x r (topE p) = true) : ∃ n m, topE p = .ok n m ∧ someB x n = r := by
  cases hx : topE p with
  | er m c => rw [hx] at h; cases h
  | ok n m =>
    rw [hx] at h
    refine ⟨n, m, rfl, ?_⟩
    rw [someB_run (topE_right hx)]
    unfold foundX at h
    simpa using h
theorem tab_at (k : Nat) (hk : k < 26) : ∃ (p s : Tx) (r : Bool), tabP[k]? = some (.string ⟨p.toArray⟩) ∧ tabN[k]? = some (.string ⟨s.toArray⟩) ∧ tabW[k]? = some (.bool r) ∧ (∃ n m, topE p = .ok n m ∧ someB s n = r) ∧ s.length ≤ 1000 := by
  match k, hk with
  | 0, _ => exact ⟨[], [], true, rfl, rfl, rfl, foundX_is (by decide +kernel), by decide⟩
  | 1, _ => exact ⟨[97], [120, 97, 120], true, rfl, rfl, rfl, foundX_is (by decide +kernel), by decide⟩
  | 2, _ => exact ⟨[94, 97], [97, 98], true, rfl, rfl, rfl, foundX_is (by decide +kernel), by decide⟩
  | 3, _ => exact ⟨[94, 97], [98, 97], false, rfl, rfl, rfl, foundX_is (by decide +kernel), by decide⟩
  | 4, _ => exact ⟨[97, 36], [98, 97], true, rfl, rfl, rfl, foundX_is (by decide +kernel), by decide⟩
  | 5, _ => exact ⟨[94, 36], [], true, rfl, rfl, rfl, foundX_is (by decide +kernel), by decide⟩
  | 6, _ => exact ⟨[94, 36], [120], false, rfl, rfl, rfl, foundX_is (by decide +kernel), by decide⟩
  | 7, _ => exact ⟨[97, 46, 99], [97, 98, 99], true, rfl, rfl, rfl, foundX_is (by decide +kernel), by decide⟩
  | 8, _ => exact ⟨[97, 46, 99], [97, 10, 99], false, rfl, rfl, rfl, foundX_is (by decide +kernel), by decide⟩
  | 9, _ => exact ⟨[40, 97, 98, 41, 42, 99], [97, 98, 97, 98, 99], true, rfl, rfl, rfl, foundX_is (by decide +kernel), by decide⟩
  | 10, _ => exact ⟨[94, 40, 97, 98, 41, 42, 36], [97, 98, 97, 98], true, rfl, rfl, rfl, foundX_is (by decide +kernel), by decide⟩
  | 11, _ => exact ⟨[94, 40, 97, 98, 41, 42, 36], [97, 98, 97], false, rfl, rfl, rfl, foundX_is (by decide +kernel), by decide⟩
  | 12, _ => exact ⟨[91, 48, 45, 57, 93, 43], [120, 49], true, rfl, rfl, rfl, foundX_is (by decide +kernel), by decide⟩
  | 13, _ => exact ⟨[91, 94, 97, 93], [97, 97], false, rfl, rfl, rfl, foundX_is (by decide +kernel), by decide⟩
  | 14, _ => exact ⟨[97, 124, 98], [99, 98], true, rfl, rfl, rfl, foundX_is (by decide +kernel), by decide⟩
  | 15, _ => exact ⟨[94, 97, 124, 98, 36], [120, 98], true, rfl, rfl, rfl, foundX_is (by decide +kernel), by decide⟩
  | 16, _ => exact ⟨[120, 123, 50, 44, 51, 125], [97, 120, 120, 98], true, rfl, rfl, rfl, foundX_is (by decide +kernel), by decide⟩
  | 17, _ => exact ⟨[94, 120, 123, 50, 44, 51, 125, 36], [120, 120, 120, 120], false, rfl, rfl, rfl, foundX_is (by decide +kernel), by decide⟩
  | 18, _ => exact ⟨[97, 63, 98], [98], true, rfl, rfl, rfl, foundX_is (by decide +kernel), by decide⟩
  | 19, _ => exact ⟨[40, 97, 124, 97, 98, 41, 40, 99, 124, 98, 99, 100, 41, 36], [97, 98, 99, 100], true, rfl, rfl, rfl, foundX_is (by decide +kernel), by decide⟩
  | 20, _ => exact ⟨[97, 94], [97, 97], false, rfl, rfl, rfl, foundX_is (by decide +kernel), by decide⟩
  | 21, _ => exact ⟨[40, 94, 97, 41, 43], [97, 97], true, rfl, rfl, rfl, foundX_is (by decide +kernel), by decide⟩
  | 22, _ => exact ⟨[40, 41], [], true, rfl, rfl, rfl, foundX_is (by decide +kernel), by decide⟩
  | 23, _ => exact ⟨[91, 91, 58, 117, 112, 112, 101, 114, 58, 93, 93], [97, 66, 99], true, rfl, rfl, rfl, foundX_is (by decide +kernel), by decide⟩
  | 24, _ => exact ⟨[94, 46, 42, 36], [97, 10, 98], false, rfl, rfl, rfl, foundX_is (by decide +kernel), by decide⟩
  | 25, _ => exact ⟨[94, 46, 36], [10], false, rfl, rfl, rfl, foundX_is (by decide +kernel), by decide⟩
  | n + 26, h => exact absurd h (by omega)

theorem each_heap (w : World) : (eachWorld w).heap = ((w.heap.push (Obj.cells tabP 9)).push (Obj.cells tabN 9)).push (Obj.cells tabW 4) := rfl
theorem each_size (w : World) : (eachWorld w).heap.size = w.heap.size + 3 := by rw [each_heap]; simp
theorem each_below (w : World) : Below w.heap.size w (eachWorld w) :=
  (((Below.refl _ w).alloc (Nat.le_refl _) _).alloc (by simp) _).alloc (by simp; omega) _
theorem each_P (w : World) (k : Nat) : (eachWorld w).cell? ⟨w.heap.size, k, none⟩ = tabP[k]? := by
  have : (eachWorld w).heap[w.heap.size]? = some (Obj.cells tabP 9) := by
    rw [each_heap, Array.getElem?_push, if_neg (by simp <;> omega), Array.getElem?_push, if_neg (by simp), Array.getElem?_push, if_pos rfl]
  simp [World.cell?, this]
theorem each_N (w : World) (k : Nat) : (eachWorld w).cell? ⟨w.heap.size + 1, k, none⟩ = tabN[k]? := by
  have : (eachWorld w).heap[w.heap.size + 1]? = some (Obj.cells tabN 9) := by
    rw [each_heap, Array.getElem?_push, if_neg (by simp), Array.getElem?_push, if_pos (by simp)]
  simp [World.cell?, this]
theorem each_W (w : World) (k : Nat) : (eachWorld w).cell? ⟨w.heap.size + 1 + 1, k, none⟩ = tabW[k]? := by
  have : (eachWorld w).heap[w.heap.size + 1 + 1]? = some (Obj.cells tabW 4) := by
    rw [each_heap, Array.getElem?_push, if_pos (by simp)]
  simp [World.cell?, this]

set_option maxHeartbeats 4000000 in
theorem nfaEach_in (k : Nat) (w : World) (hk : k < 26) : Calls Try.prog 7 #[.int .i64 k] w fun e w' => e = .returned (.bool true) ∧ Below w.heap.size w w' := by
  obtain ⟨t, x, r, ht, hm, hr, hh, hlx⟩ := tab_at k hk
  obtain ⟨nd, mm, htop, hfb⟩ := hh
  have Hx := hidden (And.intro ht (And.intro hm hr))
  have HTOP := hidden htop
  have HFB := hidden hfb
  have HEA := hidden (ere_any t)
  clear ht hm hr htop hfb
  go_enter Try.func7, Try.ntmps7
  go_wp2_with fail
  refine (alive_any _).mono ?_
  rintro e w1 ⟨rfl, hb1⟩
  have Hb1 := hidden hb1
  clear hb1
  go_upto_region 5 with fail
  have cP := (each_P w1 k).trans Hx.out.1
  have cN := (each_N w1 k).trans Hx.out.2.1
  have cW := (each_W w1 k).trans Hx.out.2.2
  have hbe := each_below w1
  have hze := each_size w1
  obtain ⟨W, hW⟩ : ∃ W, eachWorld w1 = W := ⟨_, rfl⟩
  rw [hW] at cP cN cW hbe hze
  unfold eachWorld tabP tabN tabW at hW
  rw [hW]
  have HbW : Hid (Below w.heap.size w W) := Hb1.out.trans (hbe.mono Hb1.out.size)
  have hzz : w1.heap.size + 1 + 1 < W.heap.size := by omega
  clear hW hbe hze
  generalize w1.heap.size = bb at *
  clear Hb1
  go_wp2_with fail
  refine (HEA.out _).mono ?_
  rintro e w2 ⟨hb2, ha2⟩
  rw [HTOP.out] at ha2
  obtain ⟨vx, rfl, hnx, hcx⟩ := ha2
  obtain ⟨z, y0, y1, y2, y3, sa, sn, sc, lo, hi, rfl⟩ := hnx.shapeI
  have HB2 := hidden (HbW.out.trans (hb2.mono HbW.out.size))
  have dN : w2.cell? ⟨bb + 1, k, none⟩ = some (.string ⟨x.toArray⟩) := (hb2.cell (p := ⟨bb + 1, k, none⟩) (by show bb + 1 < _; omega)).trans cN
  have dW : w2.cell? ⟨bb + 1 + 1, k, none⟩ = some (.bool r) := (hb2.cell (p := ⟨bb + 1 + 1, k, none⟩) (by show bb + 1 + 1 < _; omega)).trans cW
  have hzz2 : bb + 1 + 1 < w2.heap.size := Nat.lt_of_lt_of_le hzz hb2.size
  have HN2 := hidden hnx
  have hc2 : cntN nd ≤ 1048576 := by omega
  have HZ2 := hidden (Blk.new w2 (.int .i64 z) (.int .u64 y0) (.int .u64 y1) (.int .u64 y2) (.int .u64 y3) (.slice sa sn sc) (.int .i64 lo) (.int .i64 hi))
  clear hb2 hnx hcx cP cN cW
  go_upto_region 8 with fail
  generalize hW3 : World.alloc _ _ = W3
  have HB3 := hidden (show Below w.heap.size w W3 by rw [← hW3]; (with_reducible (repeat (first | exact HB2.out | apply bel_alloc | apply bel_put | apply bel_set | apply Below.drew | apply below_drewN | omega))))
  have HN3 := hidden (show NodeAt W3 (W.heap.size ≤ ·) (.agg #[.int .i64 z, .int .u64 y0, .int .u64 y1, .int .u64 y2, .int .u64 y3, .slice sa sn sc, .int .i64 lo, .int .i64 hi]) nd by rw [← hW3]; (with_reducible (repeat (first | exact HN2.out | apply NodeAt.alloc | apply NodeAt.putN | apply NodeAt.other | apply NodeAt.putO | apply NodeAt.otherO | apply NodeAt.drewN | apply NodeAt.drew | omega))))
  have HZ3 := hidden (show Blk W3 w2.heap.size (.int .i64 z) (.int .u64 y0) (.int .u64 y1) (.int .u64 y2) (.int .u64 y3) (.slice sa sn sc) (.int .i64 lo) (.int .i64 hi) by rw [← hW3]; (with_reducible (repeat (first | exact HZ2.out | exact Blk.newAt (by simp) | apply Blk.alloc | apply Blk.put | apply Blk.putOther | apply Blk.other | apply Blk.drewN | apply Blk.drew | omega))))
  have hb23 : Below w2.heap.size w2 W3 := by rw [← hW3]; exact (Below.refl _ w2).alloc (Nat.le_refl _) _
  have eN : W3.cell? ⟨bb + 1, k, none⟩ = some (.string ⟨x.toArray⟩) := (hb23.cell (p := ⟨bb + 1, k, none⟩) (by show bb + 1 < _; omega)).trans dN
  have eW : W3.cell? ⟨bb + 1 + 1, k, none⟩ = some (.bool r) := (hb23.cell (p := ⟨bb + 1 + 1, k, none⟩) hzz2).trans dW
  have hzz3 : bb + 1 + 1 < W3.heap.size := Nat.lt_of_lt_of_le hzz2 hb23.size
  obtain ⟨z0, z1, z2, z3, z4, z5, z6, z7⟩ := HZ3.out.cells
  have hzl := HZ3.out.lt
  clear hW3 hb23 dN dW
  go_region_with (go_at_call 15; refine (nFinds_any nd _ x _ (W.heap.size ≤ ·) (by (with_reducible (repeat (first | exact HN3.out | apply NodeAt.alloc | apply NodeAt.putN | apply NodeAt.other | apply NodeAt.putO | apply NodeAt.otherO | apply NodeAt.drewN | apply NodeAt.drew | omega)))) hc2 (by omega)).mono ?_; rintro e w5 ⟨rfl, hb5⟩; have fW : w5.cell? ⟨bb + 1 + 1, k, none⟩ = some (.bool r) := (hb5.cell (p := ⟨bb + 1 + 1, k, none⟩) hzz3).trans eW)
  all_goals
    have HB5 := hidden (show Below w.heap.size w w5 from HB3.out.drew.trans (hb5.mono HB3.out.size))
    clear hb5
    rw [HFB.out]
    go_wp2_with fail
    go_ret
    exact ⟨ret_bool (show (r == r) = true by simp), HB5.out⟩

theorem nfaEach_any (i : Int) (w : World) : Calls Try.prog 7 #[.int .i64 i] w fun e w' => e = .returned (.bool true) ∧ Below w.heap.size w w' := by
  by_cases h : i < 0 ∨ 26 ≤ i
  · exact nfaEach_out i w h
  · obtain ⟨k, rfl⟩ := Int.eq_ofNat_of_zero_le (show 0 ≤ i by omega)
    exact nfaEach_in k w (by omega)

end Go.Proofs.Ytjlihidmohokhaa
