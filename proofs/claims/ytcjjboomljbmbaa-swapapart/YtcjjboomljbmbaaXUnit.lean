
/-
  Plain laws of two rows of unit steps that change places: what both tell, with whose it is; what the first and the second of the other order are; that these do what both do, and change places again; no condition but those that each states.
-/
import Derived.Test.YtcjjboomljbmbaaCMore
namespace Go.Proofs.Ytcjjboomljbmbaa.Ol
open Go.Proofs.Ytcjjboomljbmbaa.Ln

/-- a unit step, and whose it is -/
inductive Tg where
  | s | k (t : Tx) | d1 (t : Tx) | d2 (t : Tx) | i1 (t : Tx) | i2 (t : Tx)
def tu : Tg → Ut
  | .s => .s
  | .k t => .k t
  | .d1 t => .d t
  | .d2 t => .d t
  | .i1 t => .i t
  | .i2 t => .i t
/-- a line of the middle; whether one that comes goes -/
def cbT : Ut → Ut → Option (List Tg × Bool)
  | .s, .s => some ([.s], false)
  | .s, .k t => some ([.k t], false)
  | .s, .d t => some ([.d2 t], false)
  | .k t, .s => some ([.k t], false)
  | .k t, .k u => if t = u then some ([.k t], false) else none
  | .k t, .d u => if t = u then some ([.d2 t], false) else none
  | .i t, .s => some ([.i1 t], false)
  | .i t, .k u => if t = u then some ([.i1 t], false) else none
  | .i t, .d u => if t = u then some ([], true) else none
  | _, _ => none
/-- two rows, one behind the other -/
def ct (e : Bool) (p q : List Ut) : Option (List Tg × Bool) :=
  match p with
  | .d t :: p' => (ct e p' q).map fun r => (.d1 t :: r.1, r.2)
  | p => match q with
    | .i t :: q' => (ct e p q').map fun r => (.i2 t :: r.1, r.2)
    | q =>
      if p.isEmpty && q.isEmpty then some ([], false)
      else if e then none
      else (cbT (hdU p) (hdU q)).bind fun o => (ct (opU (hdU p) || opU (hdU q)) p.tail q.tail).map fun r => (o.1 ++ r.1, o.2 || r.2)
termination_by p.length + q.length
decreasing_by
  · simp_all
  · simp_all
  · rename_i h _ ; cases p <;> cases q <;> simp_all <;> omega

theorem ct_d (e : Bool) (t : Tx) (p q : List Ut) : ct e (.d t :: p) q = (ct e p q).map fun r => (.d1 t :: r.1, r.2) := by rw [ct.eq_def]
theorem ct_i (e : Bool) (t : Tx) (p q : List Ut) (h : isD p = false) : ct e p (.i t :: q) = (ct e p q).map fun r => (.i2 t :: r.1, r.2) := by
  rw [ct.eq_def]
  cases p with
  | nil => rfl
  | cons x p => cases x <;> first | rfl | (simp [isD] at h)
theorem ct_nil (e : Bool) : ct e [] [] = some ([], false) := by rw [ct.eq_def]; rfl
theorem ct_c (e : Bool) (p q : List Ut) (h : isD p = false) (h2 : isI q = false) (h3 : (p.isEmpty && q.isEmpty) = false) : ct e p q = if e then none else (cbT (hdU p) (hdU q)).bind fun o => (ct (opU (hdU p) || opU (hdU q)) p.tail q.tail).map fun r => (o.1 ++ r.1, o.2 || r.2) := by
  rw [ct.eq_def]
  cases p with
  | nil =>
    cases q with
    | nil => cases h3
    | cons y q => cases y <;> first | (simp [isI] at h2; done) | rfl
  | cons x p =>
    cases q with
    | nil => cases x <;> first | (simp [isD] at h; done) | rfl
    | cons y q => cases x <;> first | (simp [isD] at h; done) | (cases y <;> first | (simp [isI] at h2; done) | rfl)

/-- the ways in which two rows go on -/
theorem ct_ind {P : Bool → List Ut → List Ut → List Tg → Bool → Prop}
    (h0 : ∀ e, P e [] [] [] false)
    (hd : ∀ e t p q l m, P e p q l m → P e (.d t :: p) q (.d1 t :: l) m)
    (hi : ∀ e t p q l m, isD p = false → P e p q l m → P e p (.i t :: q) (.i2 t :: l) m)
    (hc : ∀ p q o b l m, isD p = false → isI q = false → (p.isEmpty && q.isEmpty) = false → cbT (hdU p) (hdU q) = some (o, b) → P (opU (hdU p) || opU (hdU q)) p.tail q.tail l m → P false p q (o ++ l) (b || m)) (n : Nat) :
    ∀ (e : Bool) (p q : List Ut) (l : List Tg) (m : Bool), p.length + q.length < n → ct e p q = some (l, m) → P e p q l m := by
  induction n with
  | zero => intro e p q l m hn; omega
  | succ n ih =>
    intro e p q l m hn h
    cases hp : isD p with
    | true =>
      obtain ⟨t, p', rfl⟩ := isD_is hp
      rw [ct_d] at h
      obtain ⟨⟨l', m'⟩, ha, hb⟩ := Option.map_eq_some_iff.1 h
      simp only [Prod.mk.injEq] at hb
      obtain ⟨rfl, rfl⟩ := hb
      exact hd e t p' q l' m' (ih e p' q l' m' (by simp at hn; omega) ha)
    | false =>
      cases hq : isI q with
      | true =>
        obtain ⟨t, q', rfl⟩ := isI_is hq
        rw [ct_i e t p q' hp] at h
        obtain ⟨⟨l', m'⟩, ha, hb⟩ := Option.map_eq_some_iff.1 h
        simp only [Prod.mk.injEq] at hb
        obtain ⟨rfl, rfl⟩ := hb
        exact hi e t p q' l' m' hp (ih e p q' l' m' (by simp at hn; omega) ha)
      | false =>
        cases h3 : (p.isEmpty && q.isEmpty) with
        | true =>
          obtain ⟨rfl, rfl⟩ := both_nil h3
          rw [ct_nil] at h
          cases h
          exact h0 e
        | false =>
          rw [ct_c e p q hp hq h3] at h
          cases e with
          | true => cases h
          | false =>
            simp only [Bool.false_eq_true, if_false] at h
            obtain ⟨⟨o, b⟩, ho, h⟩ := Option.bind_eq_some_iff.1 h
            obtain ⟨⟨l', m'⟩, ha, hb⟩ := Option.map_eq_some_iff.1 h
            simp only [Prod.mk.injEq] at hb
            obtain ⟨rfl, rfl⟩ := hb
            exact hc p q o b l' m' hp hq h3 ho (ih _ _ _ l' m' (both_tail h3 hn) ha)

/-- the first of the other order -/
def fs : List Tg → List Ut
  | [] => []
  | .s :: l => .s :: fs l
  | .k t :: l => .k t :: fs l
  | .d1 t :: l => .k t :: fs l
  | .d2 t :: l => .d t :: fs l
  | .i1 _ :: l => fs l
  | .i2 t :: l => .i t :: fs l
/-- the second of it -/
def sn : List Tg → List Ut
  | [] => []
  | .s :: l => .s :: sn l
  | .k t :: l => .k t :: sn l
  | .d1 t :: l => .d t :: sn l
  | .d2 _ :: l => sn l
  | .i1 t :: l => .i t :: sn l
  | .i2 t :: l => .k t :: sn l
def sw1 : Tg → Tg
  | .d1 t => .d2 t
  | .d2 t => .d1 t
  | .i1 t => .i2 t
  | .i2 t => .i1 t
  | x => x
def sw (l : List Tg) : List Tg := l.map sw1
theorem fs_app (a b : List Tg) : fs (a ++ b) = fs a ++ fs b := by
  induction a with
  | nil => rfl
  | cons x a ih => cases x <;> simp only [List.cons_append, fs, ih]
theorem sn_app (a b : List Tg) : sn (a ++ b) = sn a ++ sn b := by
  induction a with
  | nil => rfl
  | cons x a ih => cases x <;> simp only [List.cons_append, sn, ih]
theorem sw_app (a b : List Tg) : sw (a ++ b) = sw a ++ sw b := List.map_append
def tag : Tg → Nat
  | .s => 0
  | .k _ => 0
  | .d1 _ => 1
  | .i1 _ => 1
  | .d2 _ => 2
  | .i2 _ => 2
/-- do a step of one and a step of the other stand side by side? k: whose was the one ahead -/
def nb : Nat → List Tg → Bool
  | _, [] => false
  | k, x :: l => (k != 0 && tag x != 0 && k != tag x) || nb (tag x) l
theorem nb_cons {k : Nat} {x : Tg} {l : List Tg} (h : nb k (x :: l) = false) : (k = 0 ∨ tag x = 0 ∨ k = tag x) ∧ nb (tag x) l = false := by
  rw [nb, Bool.or_eq_false_iff] at h
  refine ⟨?_, h.2⟩
  have h1 := h.1
  by_cases a : k = 0
  · exact Or.inl a
  · by_cases b : tag x = 0
    · exact Or.inr (Or.inl b)
    · by_cases c : k = tag x
      · exact Or.inr (Or.inr c)
      · simp [a, b, c] at h1
theorem nb_mk {k : Nat} {x : Tg} {l : List Tg} (h1 : k = 0 ∨ tag x = 0 ∨ k = tag x) (h2 : nb (tag x) l = false) : nb k (x :: l) = false := by
  rw [nb, h2, Bool.or_false]
  rcases h1 with h | h | h <;> simp [h]

/-- what both do, they do in the other order -/
theorem fs_does (l : List Tg) : ∀ (z b : List Tx), rnu (l.map tu) z = some b → ∃ c, rnu (fs l) z = some c ∧ rnu (sn l) c = some b := by
  induction l with
  | nil => intro z b h; cases h; exact ⟨_, rfl, rfl⟩
  | cons x l ih =>
    intro z b h
    cases x with
    | s =>
      cases z with
      | nil => cases h
      | cons t z =>
        simp only [List.map_cons, tu, rnu] at h
        obtain ⟨b', h1, rfl⟩ := Option.map_eq_some_iff.1 h
        obtain ⟨c, e1, e2⟩ := ih z b' h1
        exact ⟨t :: c, by rw [fs, rnu, e1]; rfl, by rw [sn, rnu, e2]; rfl⟩
    | k u =>
      cases z with
      | nil => cases h
      | cons t z =>
        simp only [List.map_cons, tu, rnu] at h
        split at h
        · rename_i e; subst e
          obtain ⟨b', h1, rfl⟩ := Option.map_eq_some_iff.1 h
          obtain ⟨c, e1, e2⟩ := ih z b' h1
          exact ⟨u :: c, by rw [fs, rnu, if_pos rfl, e1]; rfl, by rw [sn, rnu, if_pos rfl, e2]; rfl⟩
        · cases h
    | d1 u =>
      cases z with
      | nil => cases h
      | cons t z =>
        simp only [List.map_cons, tu, rnu] at h
        split at h
        · rename_i e; subst e
          obtain ⟨c, e1, e2⟩ := ih z b h
          exact ⟨u :: c, by rw [fs, rnu, if_pos rfl, e1]; rfl, by rw [sn, rnu, if_pos rfl, e2]⟩
        · cases h
    | d2 u =>
      cases z with
      | nil => cases h
      | cons t z =>
        simp only [List.map_cons, tu, rnu] at h
        split at h
        · rename_i e; subst e
          obtain ⟨c, e1, e2⟩ := ih z b h
          exact ⟨c, by rw [fs, rnu, if_pos rfl, e1], by rw [sn, e2]⟩
        · cases h
    | i1 u =>
      simp only [List.map_cons, tu, rnu] at h
      obtain ⟨b', h1, rfl⟩ := Option.map_eq_some_iff.1 h
      obtain ⟨c, e1, e2⟩ := ih z b' h1
      exact ⟨c, by rw [fs, e1], by rw [sn, rnu, e2]; rfl⟩
    | i2 u =>
      simp only [List.map_cons, tu, rnu] at h
      obtain ⟨b', h1, rfl⟩ := Option.map_eq_some_iff.1 h
      obtain ⟨c, e1, e2⟩ := ih z b' h1
      exact ⟨u :: c, by rw [fs, rnu, e1]; rfl, by rw [sn, rnu, if_pos rfl, e2]; rfl⟩

/-- has the new side nothing behind an open line? -/
def nx : List Ut → Bool → Bool
  | [], _ => true
  | .d _ :: l, e => nx l e
  | x :: l, e => !e && nx l (opU x)
def ox : List Ut → Bool → Bool
  | [], _ => true
  | .i _ :: l, e => ox l e
  | x :: l, e => !e && ox l (opU x)
theorem nx_s (l : List Ut) (e : Bool) : nx (.s :: l) e = (!e && nx l false) := rfl
theorem nx_k (t : Tx) (l : List Ut) (e : Bool) : nx (.k t :: l) e = (!e && nx l (!cl t)) := rfl
theorem nx_i (t : Tx) (l : List Ut) (e : Bool) : nx (.i t :: l) e = (!e && nx l (!cl t)) := rfl
theorem nx_d (t : Tx) (l : List Ut) (e : Bool) : nx (.d t :: l) e = nx l e := rfl
theorem ox_s (l : List Ut) (e : Bool) : ox (.s :: l) e = (!e && ox l false) := rfl
theorem ox_k (t : Tx) (l : List Ut) (e : Bool) : ox (.k t :: l) e = (!e && ox l (!cl t)) := rfl
theorem ox_i (t : Tx) (l : List Ut) (e : Bool) : ox (.i t :: l) e = ox l e := rfl
theorem ox_d (t : Tx) (l : List Ut) (e : Bool) : ox (.d t :: l) e = (!e && ox l (!cl t)) := rfl

/-- where nothing is left on a side, nothing is left of the middle -/
theorem fs_none (l : List Tg) : ∀ (z b c : List Tx), nx (fs l) true = true → rnu (l.map tu) z = some b → rnu (fs l) z = some c → (z = [] ∨ b = []) → c = [] := by
  induction l with
  | nil => intro z b c _ h1 h2 h; cases h1; cases h2; simpa using h
  | cons x l ih =>
    intro z b c hx h1 h2 h
    cases x with
    | s => simp [fs, nx] at hx
    | k t => simp [fs, nx] at hx
    | d1 t => simp [fs, nx] at hx
    | i2 t => simp [fs, nx] at hx
    | d2 u =>
      cases z with
      | nil => cases h1
      | cons t z =>
        simp only [List.map_cons, tu, rnu] at h1
        simp only [fs, rnu] at h2
        split at h1
        · rename_i e; subst e
          rw [if_pos rfl] at h2
          exact ih z b c hx h1 h2 (Or.inr (by rcases h with h | h; cases h; exact h))
        · cases h1
    | i1 u =>
      simp only [List.map_cons, tu, rnu] at h1
      obtain ⟨b', h3, rfl⟩ := Option.map_eq_some_iff.1 h1
      exact ih z b' c hx h3 h2 (Or.inl (by rcases h with h | h; exact h; cases h))
theorem wh_cons {t : Tx} {m : List Tx} (h : wh (t :: m) = true) : rt t = true ∧ (m = [] ∨ cl t = true) ∧ wh m = true := by
  simp only [wh, Bool.and_eq_true, Bool.or_eq_true] at h
  exact ⟨h.1.1, by rcases h.1.2 with a | a; exact Or.inl (by simpa using a); exact Or.inr a, h.2⟩
theorem wh_mk {t : Tx} {m : List Tx} (h1 : rt t = true) (h2 : cl t = false → m = []) (h3 : wh m = true) : wh (t :: m) = true := by
  simp only [wh, Bool.and_eq_true, Bool.or_eq_true]
  refine ⟨⟨h1, ?_⟩, h3⟩
  cases hc : cl t with
  | true => exact Or.inr rfl
  | false => exact Or.inl (by rw [h2 hc]; rfl)
/-- between them the lines are whole -/
theorem fs_whole (l : List Tg) : ∀ (e : Bool) (z b c : List Tx), nx (fs l) e = true → rnu (l.map tu) z = some b → rnu (fs l) z = some c → wh z = true → wh b = true → wh c = true := by
  induction l with
  | nil => intro e z b c _ h1 h2 hz hb; cases h1; cases h2; exact hb
  | cons x l ih =>
    intro e z b c hx h1 h2 hz hb
    cases x with
    | s =>
      cases z with
      | nil => cases h1
      | cons t z =>
        simp only [List.map_cons, tu, rnu] at h1
        obtain ⟨b', h3, rfl⟩ := Option.map_eq_some_iff.1 h1
        simp only [fs, rnu] at h2
        obtain ⟨c', h4, rfl⟩ := Option.map_eq_some_iff.1 h2
        obtain ⟨z1, z2, z3⟩ := wh_cons hz
        obtain ⟨b1, b2, b3⟩ := wh_cons hb
        rw [fs, nx_s, Bool.and_eq_true] at hx
        refine wh_mk z1 (fun hc => ?_) (ih _ z b' c' hx.2 h3 h4 z3 b3)
        have hbn : b' = [] := by rcases b2 with h | h; exact h; rw [hc] at h; cases h
        have hzn : z = [] := by rcases z2 with h | h; exact h; rw [hc] at h; cases h
        subst hbn hzn
        have hl : l = [] := by
          cases l with
          | nil => rfl
          | cons y l => cases y <;> simp [tu, rnu] at h3
        subst hl
        cases h4; rfl
    | k u =>
      cases z with
      | nil => cases h1
      | cons t z =>
        simp only [List.map_cons, tu, rnu] at h1
        simp only [fs, rnu] at h2
        split at h1
        · rename_i e; subst e
          rw [if_pos rfl] at h2
          obtain ⟨b', h3, rfl⟩ := Option.map_eq_some_iff.1 h1
          obtain ⟨c', h4, rfl⟩ := Option.map_eq_some_iff.1 h2
          obtain ⟨z1, z2, z3⟩ := wh_cons hz
          obtain ⟨b1, b2, b3⟩ := wh_cons hb
          rw [fs, nx_k, Bool.and_eq_true] at hx
          refine wh_mk z1 (fun hc => ?_) (ih _ z b' c' hx.2 h3 h4 z3 b3)
          have hzn : z = [] := by rcases z2 with h | h; exact h; rw [hc] at h; cases h
          rw [hc] at hx
          exact fs_none l z b' c' hx.2 h3 h4 (Or.inl hzn)
        · cases h1
    | d1 u =>
      cases z with
      | nil => cases h1
      | cons t z =>
        simp only [List.map_cons, tu, rnu] at h1
        simp only [fs, rnu] at h2
        split at h1
        · rename_i e; subst e
          rw [if_pos rfl] at h2
          obtain ⟨c', h4, rfl⟩ := Option.map_eq_some_iff.1 h2
          obtain ⟨z1, z2, z3⟩ := wh_cons hz
          rw [fs, nx_k, Bool.and_eq_true] at hx
          refine wh_mk z1 (fun hc => ?_) (ih _ z b c' hx.2 h1 h4 z3 hb)
          have hzn : z = [] := by rcases z2 with h | h; exact h; rw [hc] at h; cases h
          rw [hc] at hx
          exact fs_none l z b c' hx.2 h1 h4 (Or.inl hzn)
        · cases h1
    | d2 u =>
      cases z with
      | nil => cases h1
      | cons t z =>
        simp only [List.map_cons, tu, rnu] at h1
        simp only [fs, rnu] at h2
        split at h1
        · rename_i e; subst e
          rw [if_pos rfl] at h2
          exact ih _ z b c hx h1 h2 (wh_cons hz).2.2 hb
        · cases h1
    | i1 u =>
      simp only [List.map_cons, tu, rnu] at h1
      obtain ⟨b', h3, rfl⟩ := Option.map_eq_some_iff.1 h1
      exact ih _ z b' c hx h3 h2 hz (wh_cons hb).2.2
    | i2 u =>
      simp only [List.map_cons, tu, rnu] at h1
      obtain ⟨b', h3, rfl⟩ := Option.map_eq_some_iff.1 h1
      simp only [fs, rnu] at h2
      obtain ⟨c', h4, rfl⟩ := Option.map_eq_some_iff.1 h2
      obtain ⟨b1, b2, b3⟩ := wh_cons hb
      rw [fs, nx_i, Bool.and_eq_true] at hx
      refine wh_mk b1 (fun hc => ?_) (ih _ z b' c' hx.2 h3 h4 hz b3)
      have hbn : b' = [] := by rcases b2 with h | h; exact h; rw [hc] at h; cases h
      rw [hc] at hx
      exact fs_none l z b' c' hx.2 h3 h4 (Or.inr hbn)

end Go.Proofs.Ytcjjboomljbmbaa.Ol
