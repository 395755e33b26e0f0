/-
  What nums.Put and the document's own PutNum answer at any int: its numeral; condition of the first: the library's table of powers of ten lies as its text lays it.
-/
import Derived.Test.YtdlmddeiopdioaaDoorShelf
import Derived.Test.YtdlmddeiopdioaaDoorRead
namespace Go.Proofs.YtdlmddeiopdioaaDoor
open Go.RowKit Go.Proofs.YtdlmddeiopdioaaDoor.Nm

/-- what the library's own variables hold -/
structure Env (w : World) : Prop where
  m : ∃ m, w.cell? ⟨0, 0, none⟩ = some (.int .i64 m)
  tab : Lib.TabIs Tryd.prog w "internal/strconv.uint64pow10" .u64 Lib.pow10Tab

theorem tab_on {P : Program} {w w' : World} {name : String} {k : IntKind} {zs : List Int} (h : Lib.TabIs P w name k zs) (hb : Below w.heap.size w w') : Lib.TabIs P w' name k zs := by
  unfold Lib.TabIs World.var? at *
  cases hg : P.globalNamed name with
  | none => simp [hg] at h
  | some g =>
    simp only [hg, Option.bind_some] at h ⊢
    have hlt : g < w.heap.size := by
      by_cases hlt : g < w.heap.size
      · exact hlt
      · rw [Array.getElem?_eq_none (by omega)] at h; simp at h
    rw [hb.block g hlt]
    exact h

theorem Env.on {w w' : World} (h : Env w) (hb : Below w.heap.size w w') : Env w' := by
  obtain ⟨⟨m, hm⟩, ht⟩ := h
  refine ⟨⟨m, ?_⟩, tab_on ht hb⟩
  have hlt : 0 < w.heap.size := by
    by_cases hlt : 0 < w.heap.size
    · exact hlt
    · have : w.heap[0]? = none := Array.getElem?_eq_none (by omega)
      simp [World.cell?, this] at hm
  rw [hb.cell (p := ⟨0, 0, none⟩) hlt]
  exact hm

theorem below_grow (w : World) (k : Nat) (os : Array Obj) : Below w.heap.size w (Sort.grow (w.drewN k) os) :=
  (below_drewN (Below.refl _ w) k).trans ⟨rfl, rfl, rfl, by simp [Sort.grow], fun i hi => by show (w.heap ++ os)[i]? = w.heap[i]?; rw [Array.getElem?_append_left hi]⟩

/-- a text as a value -/
def S (x : List UInt8) : Value := .string ⟨x.toArray⟩
theorem S_data (s : ByteArray) : S s.data.toList = .string s := by rw [S, Lib.mk_data]

set_option maxHeartbeats 400000 in
theorem put_any (n : Int) (w : World) (he : Env w) (h0 : -9223372036854775808 ≤ n) (h1 : n ≤ 9223372036854775807) :
    Calls Tryd.prog 14 #[.int .i64 n] w fun e w' => e = .returned (S (Lib.itoa n)) ∧ Below w.heap.size w w' := by
  have HE := hidden he
  clear he
  go_enter Tryd.func14, Tryd.ntmps14
  go_wp2_with fail
  refine (Tryd.strconv_Itoa n h0 h1 _ HE.out.tab).mono ?_
  rintro e w1 ⟨rfl, k, os, rfl⟩
  have HB := hidden (below_grow w k os)
  generalize Sort.grow (w.drewN k) os = w1 at *
  go_wp2
  go_ret
  exact ⟨rfl, HB.out⟩

theorem digit_text (k : Nat) (h : k < 10) : (⟨#[48, 49, 50, 51, 52, 53, 54, 55, 56, 57]⟩ : ByteArray).extract k (k + 1) = ⟨#[UInt8.ofNat (48 + k)]⟩ := by
  match k, h with
  | 0, _ => rfl
  | 1, _ => rfl
  | 2, _ => rfl
  | 3, _ => rfl
  | 4, _ => rfl
  | 5, _ => rfl
  | 6, _ => rfl
  | 7, _ => rfl
  | 8, _ => rfl
  | 9, _ => rfl

theorem app_text (a b : List UInt8) : (⟨a.toArray⟩ : ByteArray) ++ (⟨b.toArray⟩ : ByteArray) = ⟨(a ++ b).toArray⟩ := by
  rw [← Lib.mk_data ((⟨a.toArray⟩ : ByteArray) ++ ⟨b.toArray⟩)]
  congr 1

theorem ret_text {a b : ByteArray} (h : a = b) : Ending.returned (.string a) = .returned (.string b) := by rw [h]
theorem dec_len20 (u : Nat) (h : u ≤ 9223372036854775808) : (Lib.decDigits u).length ≤ 20 := dec_len 19 u (by omega)

set_option maxHeartbeats 1000000 in
theorem putNum_pos (u : Nat) (w : World) :
    u ≤ 9223372036854775807 → Calls Tryd.prog 15 #[.int .i64 u] w fun e w' => e = .returned (.string ⟨(Lib.decDigits u).toArray⟩) ∧ w' = w := by
  induction u using Nat.strongRecOn with
  | _ u ih =>
    intro hu
    by_cases h10 : u < 10
    · go_enter Tryd.func15, Tryd.ntmps15
      go_wp2
      go_ret
      exact ⟨ret_text (by rw [digit_text _ (by omega), dec_small h10, Nat.mod_eq_of_lt h10]), rfl⟩
    · have ih' := hidden (ih (u / 10) (by omega) (by omega))
      clear ih
      have hlen := dec_len20 (u / 10) (by omega)
      go_enter Tryd.func15, Tryd.ntmps15
      go_wp2_with fail
      refine ih'.out.mono ?_
      rintro e w1 ⟨rfl, rfl⟩
      go_wp2
      go_ret
      exact ⟨ret_text (by rw [digit_text _ (by omega), app_text, ← dec_big h10]), rfl⟩

theorem itoa_small_neg (u : Nat) (h1 : 1 ≤ u) : Lib.itoa (-(u : Int)) = 45 :: Lib.decDigits u := by
  rw [Lib.itoa, if_pos (by omega)]
  congr 2
  omega

set_option maxHeartbeats 1000000 in
theorem putNum_any (n : Int) (w : World) (h0 : -9223372036854775808 ≤ n) (h1 : n ≤ 9223372036854775807) :
    Calls Tryd.prog 15 #[.int .i64 n] w fun e w' => e = .returned (S (Lib.itoa n)) ∧ w' = w := by
  by_cases hn : 0 ≤ n
  · obtain ⟨u, rfl⟩ := Int.eq_ofNat_of_zero_le hn
    refine (putNum_pos u w (by omega)).mono ?_
    rintro e w' ⟨rfl, rfl⟩
    exact ⟨by rw [itoa_pos]; rfl, rfl⟩
  · obtain ⟨u, rfl⟩ : ∃ u : Nat, n = -(u : Int) := ⟨n.natAbs, by omega⟩
    have hlen := dec_len20 u (by omega)
    have hlen2 := dec_len20 (u / 10) (by omega)
    have hlen3 := dec_len20 (u % 10) (by omega)
    by_cases h10 : u < 10
    · go_enter Tryd.func15, Tryd.ntmps15
      go_wp2_with fail
      refine (putNum_pos u w (by omega)).mono ?_
      rintro e w' ⟨rfl, rfl⟩
      go_wp2
      go_ret
      exact ⟨ret_text (by rw [itoa_small_neg u (by omega)]; exact app_text [45] _), rfl⟩
    · go_enter Tryd.func15, Tryd.ntmps15
      go_wp2_with fail
      refine (putNum_pos (u / 10) w (by omega)).mono ?_
      rintro e w' ⟨rfl, rfl⟩
      go_wp2_with fail
      refine (putNum_pos (u % 10) _ (by omega)).mono ?_
      rintro e w'' ⟨rfl, rfl⟩
      go_wp2
      go_ret
      exact ⟨ret_text (by rw [itoa_small_neg u (by omega), dec_big h10, dec_small (u := u % 10) (by omega)]; rw [show ((⟨#[45]⟩ : ByteArray) ++ ⟨(Lib.decDigits (u / 10)).toArray⟩) = ⟨([45] ++ Lib.decDigits (u / 10)).toArray⟩ from app_text [45] _, app_text]; rfl), rfl⟩

end Go.Proofs.YtdlmddeiopdioaaDoor
