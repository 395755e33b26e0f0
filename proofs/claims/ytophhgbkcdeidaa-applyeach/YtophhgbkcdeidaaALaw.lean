
/-
  What the law's own Short and alive answer; conditions: the list's length, and that of its texts together.
-/
import Derived.Test.YtophhgbkcdeidaaADo
import Derived.Test.YtophhgbkcdeidaaAPDo
import Derived.Test.YtophhgbkcdeidaaOLaw
namespace Go.Proofs.Ytophhgbkcdeidaa
open Go.RowKit Go.Proofs.Ytophhgbkcdeidaa.Ln Go.Proofs.Ytophhgbkcdeidaa.Ol

theorem wr64 {z : Int} (h : -9223372036854775808 ≤ z) (h2 : z ≤ 9223372036854775807) : wrap64 z = z := by unfold wrap64; omega
theorem wri64 {z : Int} (h : -9223372036854775808 ≤ z) (h2 : z ≤ 9223372036854775807) : IntKind.i64.wrap z = z := by rw [IntKind.wrap_i64]; omega
theorem adds_nil {w W : World} {v' : Value} (h : Adds w W (.slice none 0 0) v') : Below w.heap.size w W :=
  ⟨h.1.os, h.1.tape, h.1.output, h.1.size, fun j hj => h.1.block j hj (fun e => by cases e)⟩
theorem fitT_flat {xs : List Tx} (h : xs.flatten.length ≤ 1048576) : FitT xs := fun x hx => by
  obtain ⟨k, hk, rfl⟩ := List.mem_iff_getElem.1 hx
  have h1 := flatten_take_le xs (k + 1)
  rw [flatten_take xs k _ (List.getElem?_eq_getElem hk), List.length_append] at h1
  omega
theorem fit_nrm {xs : List Oq} (h : Fit xs) : Fit (nrm xs) := by
  refine snoc_ind (P := fun l => Fit l → Fit (nrm l)) (fun _ => by intro x hx; cases hx) ?_ xs h
  intro l x ih hf y hy
  have hl := ih (fun z hz => hf z (by simp [hz]))
  have hx := hf x (by simp)
  unfold nrm at hl hy
  rw [nfo_snoc] at hy
  generalize nfo l = s at hl hy
  obtain ⟨a, c⟩ := s
  simp only at hl hy
  unfold nst at hy
  split at hy
  · simp only [List.append_assoc, List.mem_append, List.mem_cons, List.not_mem_nil, or_false] at hy
    rcases hy with h | rfl | h
    · exact hl y (by simp [h])
    · exact hx
    · exact hl y (by simp [h])
  · split at hy
    · simp only [List.mem_append, List.mem_cons, List.not_mem_nil, or_false] at hy
      rcases hy with h | h | rfl
      · exact hl y (by simp [h])
      · exact hl y (by simp [h])
      · exact hx
    · simp only [List.append_nil] at hy
      rcases stay_cases (a ++ c) x with ⟨e, _⟩ | ⟨o, z, e1, _, _, e⟩
      · rw [e] at hy
        rcases List.mem_append.1 hy with h | h
        · exact hl y h
        · simp at h; subst h; exact hx
      · rw [e] at hy
        rcases List.mem_append.1 hy with h | h
        · exact hl y (by rw [e1]; simp [h])
        · simp at h; subst h
          exact hl z (by rw [e1]; simp)

set_option maxHeartbeats 1000000 in
theorem short_any (v : Value) (xs : List Tx) (w : World) (hr : RowAt w v xs) (hl : xs.length ≤ 4398046511104) (hn : xs.flatten.length ≤ 70368744177664) :
    Calls Try.prog 11 #[v] w fun e w' => (∃ c : Bool, e = .returned (.bool c)) ∧ Below w.heap.size w w' := by
  have HR := hidden hr
  have HN := hidden hn
  obtain ⟨ao, cap, rfl⟩ := hr.shape
  obtain ⟨n, hnn⟩ : ∃ n : ByteArray, n = ⟨xs.flatten.toArray⟩ := ⟨_, rfl⟩
  have HNN := hidden hnn
  clear hr hn hnn
  by_cases hbig : xs.length ≤ 300
  · have hd : decide ((xs.length : Int) ≤ 300) = true := by simp; omega
    go_enter Try.func11, Try.ntmps11
    go_wp2_with fail
    refine (refJoin_any _ xs w HR.out (by omega) HN.out).mono ?_
    rw [← HNN.out]
    rintro e w2 ⟨rfl, hb⟩
    have HB := hidden hb
    clear hb
    go_wp2_with fail
    go_ret
    exact ⟨⟨_, rfl⟩, HB.out⟩
  · have hd : decide ((xs.length : Int) ≤ 300) = false := by simp; omega
    go_enter Try.func11, Try.ntmps11
    go_wp2_with fail
    go_ret
    exact ⟨⟨_, rfl⟩, Below.refl _ _⟩

/-- texts that are written down -/
theorem row_lit {W : World} {b n : Nat} {xs : List Tx} {cs : Array Value} (h : W.heap[b]? = some (.cells cs 9 (0, 0))) (hc : cs.toList = xs.map S) (hn : n = xs.length) : RowAt W (.slice (some ⟨b, 0, none⟩) n n) xs := by
  subst hn
  refine Or.inr ⟨b, 0, _, rfl, Nat.le_refl _, (Array.getElem?_eq_some_iff.1 h).1, fun j e he => ?_⟩
  unfold World.cell?
  rw [h]
  have : cs.toList[j]? = some (S e) := by rw [hc]; simp [he]
  simpa using this
theorem fitT_of {xs : List Tx} (h : xs.all (fun x => decide (x.length ≤ 1000)) = true) : FitT xs := fun x hx => by
  have := List.all_eq_true.1 h x hx
  simp at this
  omega
def A9 : List Tx := [[97, 10]]
def L9 : List Oq := [(2, 0, [97, 10]), (4, 0, [98, 10])]

set_option maxHeartbeats 2000000 in
theorem alive9_any (w : World) : Calls Try.prog 9 #[] w fun e w' => e = .returned (.bool true) ∧ Below w.heap.size w w' := by
  have HF := hidden (fit_of (xs := L9) rfl)
  have HF0 := hidden (fit_of (xs := []) rfl)
  have HT := hidden (fitT_of (xs := A9) rfl)
  have HT0 := hidden (fitT_of (xs := []) rfl)
  have HR0 := hidden (show RowAt (w.alloc (.cells #[.string ⟨#[97, 10]⟩] 9)) (.slice (some ⟨w.heap.size, 0, none⟩) 1 1) A9 from row_lit (World.alloc_heap_new w _) rfl rfl)
  have HB0 := hidden (bel_alloc (Below.refl w.heap.size w) (.cells #[.string ⟨#[97, 10]⟩] 9))
  go_enter Try.func9, Try.ntmps9
  go_wp2_with fail
  generalize World.alloc w _ = w0 at HR0 HB0 ⊢
  refine (do_any _ [] _ A9 w0 (OpsAt.nil _ _ _) HR0.out (by simp [A9]) HF0.out HT.out).mono ?_
  rw [show doo [] A9 = some A9 by decide]
  rintro e w1 ⟨q, rfl, ho, hb⟩
  obtain ⟨qa, qc, rfl, _⟩ := owns_formT ho
  have HB1 := hidden (HB0.out.trans (hb.mono HB0.out.size))
  clear hb ho
  obtain ⟨oo, hoo⟩ : ∃ o : Obj, o = (.cells #[.int .i64 2, .int .i64 0, .string ⟨#[97, 10]⟩, .int .i64 4, .int .i64 0, .string ⟨#[98, 10]⟩] 34) := ⟨_, rfl⟩
  have HL1 := hidden (show OpsAt (w1.alloc oo) (.slice (some ⟨w1.heap.size, 0, none⟩) 2 2) L9 from hoo ▸ ops_lit (World.alloc_heap_new w1 _) rfl rfl)
  have HL2 := hidden (HL1.out.later (bel_alloc (Below.refl _ _) (.cells #[.string ⟨#[97, 10]⟩] 9)))
  have HR2 := hidden (show RowAt ((w1.alloc oo).alloc (.cells #[.string ⟨#[97, 10]⟩] 9)) (.slice (some ⟨(w1.alloc oo).heap.size, 0, none⟩) 1 1) A9 from row_lit (World.alloc_heap_new _ _) rfl rfl)
  have HB2 := hidden (bel_alloc (bel_alloc HB1.out oo) (.cells #[.string ⟨#[97, 10]⟩] 9))
  rw [show (w1.alloc oo).heap.size = w1.heap.size + 1 by simp] at HR2
  go_wp2_with fail
  rw [← hoo]
  generalize World.alloc (World.alloc w1 _) _ = w2 at HL2 HR2 HB2 ⊢
  clear hoo
  refine (do_any _ L9 _ A9 w2 HL2.out HR2.out (by simp [L9, A9]) HF.out HT.out).mono ?_
  rw [show doo L9 A9 = some [[97, 10], [98, 10]] by decide]
  rintro e w3 ⟨q3, rfl, ho, hb⟩
  obtain ⟨qa3, qc3, rfl, _⟩ := owns_formT ho
  have HB3 := hidden (HB2.out.trans (hb.mono HB2.out.size))
  clear hb ho
  go_wp2_with fail
  refine (fits_any _ [] _ [] w3 (OpsAt.nil _ _ _) (RowAt.nil _ _ _) (by simp) HF0.out HT0.out).mono ?_
  rw [show doo [] [] = some [] by decide]
  rintro e w4 ⟨rfl, hb⟩
  have HB4 := hidden (HB3.out.trans (hb.mono HB3.out.size))
  clear hb
  go_wp2_with fail
  go_ret
  exact ⟨rfl, HB4.out⟩

end Go.Proofs.Ytophhgbkcdeidaa
