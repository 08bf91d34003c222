/- The group that words make under steps: reflections, lengths, exchange. Two letters turn as often as they should: a row of numbers modulo a prime that steps leave alone. Normal words: two letters that can stand first, and the first of the shortest words. Normal words, reckoned. -/
namespace Go.Proofs.YtcpeeopdaakbaaaGreat.Cx

/-- i j i j .. of k letters -/
def alt : Nat → Nat → Nat → List Nat
  | _, _, 0 => []
  | i, j, k + 1 => i :: alt j i k

theorem alt_length (k : Nat) : ∀ i j, (alt i j k).length = k := by
  induction k with
  | zero => intro i j; rfl
  | succ k ih => intro i j; simp [alt, ih]

/-- the letter behind k letters of i j i j .. -/
def turn (i j k : Nat) : Nat := if k % 2 = 0 then i else j

theorem turn_swap (i j k : Nat) : turn j i (k + 1) = turn i j k := by
  unfold turn
  by_cases h : k % 2 = 0
  · rw [if_neg (by omega), if_pos h]
  · rw [if_pos (by omega), if_neg h]

theorem turn_self (i k : Nat) : turn i i k = i := by unfold turn; split <;> rfl

theorem alt_snoc (k : Nat) : ∀ i j, alt i j (k + 1) = alt i j k ++ [turn i j k] := by
  induction k with
  | zero => intro i j; rfl
  | succ k ih =>
    intro i j
    have h := ih j i
    rw [show alt i j (k + 1 + 1) = i :: alt j i (k + 1) from rfl, h, turn_swap]
    rfl

theorem alt_add (a : Nat) : ∀ (b i j : Nat), alt i j (a + b) = alt i j a ++ alt (turn i j a) (turn j i a) b := by
  induction a with
  | zero => intro b i j; simp [alt, turn]
  | succ a ih =>
    intro b i j
    rw [show a + 1 + b = (a + b) + 1 by omega]
    simp only [alt, List.cons_append, List.cons.injEq, true_and]
    rw [ih, turn_swap, turn_swap]

theorem alt_reverse (k : Nat) : ∀ i j, (alt i j k).reverse = if k % 2 = 0 then alt j i k else alt i j k := by
  induction k with
  | zero => intro i j; simp [alt]
  | succ k ih =>
    intro i j
    conv => lhs; rw [alt_snoc, List.reverse_append, ih]
    unfold turn
    by_cases h : k % 2 = 0
    · rw [if_pos h, if_pos h, if_neg (by omega)]; rfl
    · rw [if_neg h, if_neg h, if_pos (by omega)]; rfl

theorem alt_get (k : Nat) : ∀ (i j n : Nat) (h : n < (alt i j k).length), (alt i j k)[n] = turn i j n := by
  induction k with
  | zero => intro i j n h; simp [alt] at h
  | succ k ih =>
    intro i j n h
    cases n with
    | zero => simp [alt, turn]
    | succ n =>
      simp only [alt, List.getElem_cons_succ]
      rw [ih j i n (by simpa [alt] using h), turn_swap]

/-- the steps on words -/
inductive Step (M : Nat → Nat → Nat) : List Nat → List Nat → Prop
  | sq (u v : List Nat) (i : Nat) : Step M (u ++ i :: i :: v) (u ++ v)
  | br (u v : List Nat) (i j : Nat) : Step M (u ++ (alt i j (M i j) ++ v)) (u ++ (alt j i (M i j) ++ v))

/-- what words make under steps -/
def G (M : Nat → Nat → Nat) : Type := Quot (Step M)

section
variable {M : Nat → Nat → Nat}

def mk (w : List Nat) : G M := Quot.mk _ w

theorem Step.left {u v : List Nat} (h : Step M u v) (x : List Nat) : Step M (x ++ u) (x ++ v) := by
  cases h with
  | sq a b i => rw [← List.append_assoc, ← List.append_assoc]; exact .sq _ _ _
  | br a b i j => rw [← List.append_assoc, ← List.append_assoc x]; exact .br _ _ _ _

theorem Step.right {u v : List Nat} (h : Step M u v) (x : List Nat) : Step M (u ++ x) (v ++ x) := by
  cases h with
  | sq a b i => simp only [List.append_assoc, List.cons_append]; exact .sq _ _ _
  | br a b i j => simp only [List.append_assoc]; exact .br _ _ _ _

def mul (x y : G M) : G M :=
  Quot.lift (fun u => Quot.lift (fun v => (mk (u ++ v) : G M)) (fun _ _ h => Quot.sound (h.left u)) y)
    (fun _ _ h => by
      induction y using Quot.ind
      exact Quot.sound (h.right _)) x

instance : Mul (G M) := ⟨mul⟩

theorem mk_mul (u v : List Nat) : (mk u * mk v : G M) = mk (u ++ v) := rfl

theorem mk_sq (u v : List Nat) (i : Nat) : (mk (u ++ i :: i :: v) : G M) = mk (u ++ v) := Quot.sound (.sq u v i)
theorem mk_br (u v : List Nat) (i j : Nat) : (mk (u ++ (alt i j (M i j) ++ v)) : G M) = mk (u ++ (alt j i (M i j) ++ v)) := Quot.sound (.br u v i j)
theorem mk_alt (i j : Nat) : (mk (alt i j (M i j)) : G M) = mk (alt j i (M i j)) := by
  have h := mk_br (M := M) [] [] i j
  simpa using h

theorem inv_ok {u v : List Nat} (h : Step M u v) : (mk u.reverse : G M) = mk v.reverse := by
  cases h with
  | sq a b i => simp only [List.reverse_append, List.reverse_cons, List.append_assoc, List.cons_append, List.nil_append]; exact mk_sq _ _ _
  | br a b i j =>
    simp only [List.reverse_append, alt_reverse, List.append_assoc]
    by_cases h : M i j % 2 = 0
    · rw [if_pos h, if_pos h]; exact (mk_br _ _ _ _).symm
    · rw [if_neg h, if_neg h]; exact mk_br _ _ _ _

def inv (x : G M) : G M := Quot.lift (fun u => (mk u.reverse : G M)) (fun _ _ h => inv_ok h) x

theorem inv_mk (u : List Nat) : inv (mk u : G M) = mk u.reverse := rfl

theorem ind {p : G M → Prop} (h : ∀ w, p (mk w)) (x : G M) : p x := Quot.ind h x

theorem mul_assoc (x y z : G M) : x * y * z = x * (y * z) := by
  induction x using ind; induction y using ind; induction z using ind
  simp only [mk_mul, List.append_assoc]
theorem one_mul (x : G M) : mk [] * x = x := by
  induction x using ind; rfl
theorem mul_one (x : G M) : x * mk [] = x := by
  induction x using ind; simp [mk_mul]
theorem inv_inv (x : G M) : inv (inv x) = x := by
  induction x using ind; simp [inv_mk]
theorem inv_mul (x y : G M) : inv (x * y) = inv y * inv x := by
  induction x using ind; induction y using ind; simp [inv_mk, mk_mul]

theorem mk_pal (u : List Nat) : (mk (u ++ u.reverse) : G M) = mk [] := by
  have key : ∀ n (u : List Nat), u.length = n → (mk (u ++ u.reverse) : G M) = mk [] := by
    intro n
    induction n with
    | zero => intro u hu; rw [List.length_eq_zero_iff.1 hu]; rfl
    | succ n ih =>
      intro u hu
      have hne : u ≠ [] := by intro h; rw [h] at hu; simp at hu
      obtain ⟨v, a, rfl⟩ : ∃ v a, u = v ++ [a] := ⟨u.dropLast, u.getLast hne, (List.dropLast_concat_getLast hne).symm⟩
      have : v ++ [a] ++ (v ++ [a]).reverse = v ++ a :: a :: v.reverse := by simp
      rw [this, mk_sq]
      exact ih v (by simpa using hu)
  exact key _ u rfl

theorem mul_inv (x : G M) : x * inv x = mk [] := by
  induction x using ind; exact mk_pal _
theorem inv_mul_self (x : G M) : inv x * x = mk [] := by
  have h := mul_inv (inv x)
  rwa [inv_inv] at h
theorem cancel_left {x y z : G M} (h : x * y = x * z) : y = z := by
  have := congrArg (fun t => inv x * t) h
  simpa only [← mul_assoc, inv_mul_self, one_mul] using this
theorem cancel_right {x y z : G M} (h : y * x = z * x) : y = z := by
  have := congrArg (fun t => t * inv x) h
  simpa only [mul_assoc, mul_inv, mul_one] using this

theorem let_sq (i : Nat) : (mk [i] * mk [i] : G M) = mk [] := mk_sq [] [] i
theorem let_inv (i : Nat) : inv (mk [i] : G M) = mk [i] := rfl
theorem let_two (i : Nat) (x : G M) : mk [i] * (mk [i] * x) = x := by rw [← mul_assoc, let_sq, one_mul]

/-- the conjugate of t by x -/
def cj (x t : G M) : G M := x * t * inv x

theorem cj_mul (x y t : G M) : cj (x * y) t = cj x (cj y t) := by
  unfold cj; rw [inv_mul]; simp only [mul_assoc]
theorem cj_inj {x s t : G M} (h : cj x s = cj x t) : s = t := cancel_left (cancel_right h)
theorem cj_inv (x t : G M) : cj (inv x) (cj x t) = t := by
  unfold cj; rw [inv_inv]; simp only [mul_assoc, inv_mul_self, mul_one]
  rw [← mul_assoc, inv_mul_self, one_mul]
theorem cj_inv' (x t : G M) : cj x (cj (inv x) t) = t := by
  have h := cj_inv (inv x) t
  rwa [inv_inv] at h
theorem cj_one (t : G M) : cj (mk []) t = t := by
  unfold cj; rw [one_mul]; exact mul_one _
theorem cj_self (i : Nat) : cj (mk [i]) (mk [i]) = (mk [i] : G M) := by
  unfold cj; rw [let_inv, mul_assoc, let_sq, mul_one]

/-- the reflections of a word's letters, each behind its beginning -/
def refs : List Nat → List (G M)
  | [] => []
  | s :: w => mk [s] :: (refs w).map (cj (mk [s]))

theorem refs_append (u v : List Nat) : (refs (u ++ v) : List (G M)) = refs u ++ (refs v).map (cj (mk u)) := by
  induction u with
  | nil => simp [refs, show (cj (mk []) : G M → G M) = id from funext cj_one]
  | cons s u ih =>
    simp only [List.cons_append, refs, ih, List.map_append, List.map_map]
    have : (cj (mk [s]) ∘ cj (mk u) : G M → G M) = cj (mk (s :: u)) := by
      funext t
      show cj (mk [s]) (cj (mk u) t) = _
      rw [← cj_mul]; rfl
    rw [this]

theorem refs_length (w : List Nat) : (refs w : List (G M)).length = w.length := by
  induction w with
  | nil => rfl
  | cons s w ih => simp [refs, ih]

open Classical in
/-- is t in the list an odd number of times? -/
noncomputable def par : List (G M) → G M → Bool
  | [], _ => false
  | x :: l, t => (decide (x = t)) ^^ par l t

theorem par_append (l k : List (G M)) (t : G M) : par (l ++ k) t = (par l t ^^ par k t) := by
  induction l with
  | nil => simp [par]
  | cons x l ih => simp [par, ih]

theorem par_cj (x : G M) (l : List (G M)) (t : G M) : par (l.map (cj x)) t = par l (cj (inv x) t) := by
  induction l with
  | nil => rfl
  | cons a l ih =>
    simp only [List.map_cons, par, ih]
    congr 1
    apply decide_eq_decide.2
    constructor
    · rintro rfl; rw [cj_inv]
    · rintro rfl; rw [cj_inv']

theorem par_reverse (l : List (G M)) (t : G M) : par l.reverse t = par l t := by
  induction l with
  | nil => rfl
  | cons a l ih => rw [List.reverse_cons, par_append, ih]; simp [par, Bool.xor_comm]

theorem par_refs_append (u v : List Nat) (t : G M) : par (refs (u ++ v)) t = (par (refs u) t ^^ par (refs v) (cj (inv (mk u)) t)) := by
  rw [refs_append, par_append, par_cj]

theorem refs_alt (k : Nat) : ∀ i j, (refs (alt i j k) : List (G M)) = (List.range k).map (fun p => mk (alt i j (2 * p + 1))) := by
  induction k with
  | zero => intro i j; rfl
  | succ k ih =>
    intro i j
    rw [List.range_succ_eq_map]
    simp only [alt, refs, ih, List.map_cons, List.map_map]
    refine congrArg (List.cons (mk [i])) (List.map_congr_left fun p _ => ?_)
    show cj (mk [i]) (mk (alt j i (2 * p + 1))) = mk (alt i j (2 * (p + 1) + 1))
    have e : alt i j (2 * (p + 1) + 1) = [i] ++ alt j i (2 * p + 1) ++ [i] := by
      rw [show 2 * (p + 1) + 1 = (2 * p + 2) + 1 by omega]
      show i :: alt j i (2 * p + 1 + 1) = _
      rw [alt_snoc]
      simp [turn]
    rw [e]; rfl

theorem alt_two (i j : Nat) : (mk (alt i j (2 * M i j)) : G M) = mk [] := by
  rw [Nat.two_mul, alt_add]
  by_cases h : M i j % 2 = 0
  · have e1 : turn i j (M i j) = i := by unfold turn; rw [if_pos h]
    have e2 : turn j i (M i j) = j := by unfold turn; rw [if_pos h]
    rw [e1, e2, ← mk_mul]
    have e3 := alt_reverse (M i j) i j
    rw [if_pos h] at e3
    have e4 : (mk (alt i j (M i j)) * mk (alt i j (M i j)) : G M) = mk (alt i j (M i j)) * mk (alt j i (M i j)) := by rw [← mk_alt i j]
    rw [e4, mk_mul, ← e3, mk_pal]
  · have e1 : turn i j (M i j) = j := by unfold turn; rw [if_neg h]
    have e2 : turn j i (M i j) = i := by unfold turn; rw [if_neg h]
    rw [e1, e2, ← mk_mul, ← mk_alt i j]
    have e3 := alt_reverse (M i j) i j
    rw [if_neg h] at e3
    have e4 : alt i j (M i j) ++ alt i j (M i j) = alt i j (M i j) ++ (alt i j (M i j)).reverse := by rw [e3]
    rw [mk_mul, e4, mk_pal]

theorem alt_odd_sq (i j p : Nat) : (mk (alt i j (2 * p + 1)) * mk (alt i j (2 * p + 1)) : G M) = mk [] := by
  have e3 := alt_reverse (2 * p + 1) i j
  rw [if_neg (by omega)] at e3
  have e4 : alt i j (2 * p + 1) ++ alt i j (2 * p + 1) = alt i j (2 * p + 1) ++ (alt i j (2 * p + 1)).reverse := by rw [e3]
  rw [mk_mul, e4, mk_pal]

theorem alt_back (i j p q : Nat) (h : p + q + 1 = M i j) : (mk (alt i j (2 * p + 1)) : G M) = mk (alt j i (2 * q + 1)) := by
  have h2 := alt_two (M := M) i j
  rw [show 2 * M i j = (2 * p + 1) + (2 * q + 1) by omega, alt_add] at h2
  have e1 : turn i j (2 * p + 1) = j := by unfold turn; rw [if_neg (by omega)]
  have e2 : turn j i (2 * p + 1) = i := by unfold turn; rw [if_neg (by omega)]
  rw [e1, e2, ← mk_mul, ← alt_odd_sq j i q] at h2
  exact cancel_right h2

theorem refs_br (i j : Nat) : (refs (alt j i (M i j)) : List (G M)) = (refs (alt i j (M i j))).reverse := by
  rw [refs_alt, refs_alt]
  apply List.ext_getElem
  · simp
  · intro n h1 h2
    simp only [List.length_map, List.length_range] at h1
    simp only [List.getElem_map, List.getElem_range, List.getElem_reverse, List.length_map, List.length_range]
    exact (alt_back i j (M i j - 1 - n) n (by omega)).symm

theorem par_ok {u v : List Nat} (h : Step M u v) : (par (refs u) : G M → Bool) = par (refs v) := by
  funext t
  cases h with
  | sq a b i =>
    rw [show a ++ i :: i :: b = a ++ ([i, i] ++ b) by simp, par_refs_append, par_refs_append, par_refs_append]
    congr 1
    have e1 : ∀ s : G M, par (refs [i, i]) s = false := by
      intro s
      simp only [refs, List.map_nil, List.map_cons, par, cj_self]
      simp
    have e2 : (mk [i, i] : G M) = mk [] := let_sq i
    rw [e1, e2]
    simp only [Bool.false_xor]
    congr 1
    exact cj_one _
  | br a b i j =>
    rw [par_refs_append, par_refs_append, par_refs_append, par_refs_append, refs_br, par_reverse, ← mk_alt i j]

/-- does the reflection t part x from the first tile? -/
noncomputable def eta (x : G M) : G M → Bool := Quot.lift (fun w => par (refs w)) (fun _ _ h => par_ok h) x

theorem eta_mk (w : List Nat) (t : G M) : eta (mk w) t = par (refs w) t := rfl

theorem eta_mul (x y t : G M) : eta (x * y) t = (eta x t ^^ eta y (cj (inv x) t)) := by
  induction x using ind; induction y using ind
  exact par_refs_append _ _ _

theorem eta_letter (i : Nat) (t : G M) : (eta (mk [i]) t = true) ↔ t = mk [i] := by
  rw [eta_mk]
  simp only [refs, List.map_nil, par, Bool.xor_false, decide_eq_true_eq]
  exact eq_comm

/-- a word with as few letters as there can be -/
def Red (M : Nat → Nat → Nat) (w : List Nat) : Prop := ∀ v, (mk v : G M) = mk w → w.length ≤ v.length

theorem red_exists (x : G M) : ∃ w, mk w = x ∧ Red M w := by
  have key : ∀ n w, w.length = n → ∃ v, (mk v : G M) = mk w ∧ Red M v := by
    intro n
    induction n using Nat.strongRecOn with
    | ind n ih =>
      intro w hw
      by_cases h : Red M w
      · exact ⟨w, rfl, h⟩
      · unfold Red at h
        simp only [Classical.not_forall] at h
        obtain ⟨v, hv, hl⟩ := h
        obtain ⟨v', hv', hr⟩ := ih v.length (by omega) v rfl
        exact ⟨v', hv'.trans hv, hr⟩
  induction x using ind with | _ w => exact key _ w rfl

theorem drop_ref (w : List Nat) : ∀ t : G M, t ∈ refs w → ∃ v, v.length + 1 = w.length ∧ t * mk w = mk v := by
  induction w with
  | nil => intro t h; cases h
  | cons s w ih =>
    intro t h
    simp only [refs, List.mem_cons, List.mem_map] at h
    rcases h with rfl | ⟨t', ht', rfl⟩
    · exact ⟨w, rfl, mk_sq [] w s⟩
    · obtain ⟨v, hv, he⟩ := ih t' ht'
      refine ⟨s :: v, by simp [hv], ?_⟩
      rw [show (mk (s :: w) : G M) = mk [s] * mk w from rfl, show (mk (s :: v) : G M) = mk [s] * mk v from rfl, ← he]
      unfold cj
      rw [let_inv]
      simp only [mul_assoc, let_two]

theorem nodup_of_red {w : List Nat} (h : Red M w) : (refs w : List (G M)).Nodup := by
  have key : ∀ w : List Nat, ¬ (refs w : List (G M)).Nodup → ∃ v, v.length + 2 = w.length ∧ (mk v : G M) = mk w := by
    intro w
    induction w with
    | nil => intro h; exact absurd List.nodup_nil h
    | cons s w ih =>
      intro h
      simp only [refs, List.nodup_cons] at h
      by_cases h1 : (refs w : List (G M)).Nodup
      · have h2 : ((refs w).map (cj (mk [s])) : List (G M)).Nodup := by
          refine List.Pairwise.map (cj (mk [s])) (fun a b hab he => ?_) h1
          exact hab (cj_inj he)
        have h3 : mk [s] ∈ ((refs w).map (cj (mk [s])) : List (G M)) := Classical.byContradiction fun hn => h ⟨hn, h2⟩
        obtain ⟨t, ht, he⟩ := List.mem_map.1 h3
        have h4 : t = mk [s] := cj_inj (he.trans (cj_self s).symm)
        subst h4
        obtain ⟨v, hv, hm⟩ := drop_ref w _ ht
        exact ⟨v, by simp; omega, hm.symm⟩
      · obtain ⟨v, hv, hm⟩ := ih h1
        exact ⟨s :: v, by simp; omega, by
          rw [show (mk (s :: v) : G M) = mk [s] * mk v from rfl, hm]; rfl⟩
  exact Classical.byContradiction fun hn => by
    obtain ⟨v, hv, hm⟩ := key w hn
    have := h v hm
    omega

open Classical in
theorem par_nodup {l : List (G M)} (h : l.Nodup) (t : G M) : par l t = true ↔ t ∈ l := by
  induction l with
  | nil => simp [par]
  | cons a l ih =>
    rw [List.nodup_cons] at h
    have ih := ih h.2
    simp only [par, List.mem_cons]
    by_cases e : a = t
    · subst e
      have : par l a = false := by
        cases hp : par l a
        · rfl
        · exact absurd (ih.1 hp) h.1
      simp [this]
    · rw [show (decide (a = t)) = false from decide_eq_false e, Bool.false_xor, ih]
      exact ⟨.inr, fun h => h.elim (fun h => absurd h.symm e) id⟩

open Classical in
theorem par_mem {l : List (G M)} {t : G M} (h : par l t = true) : t ∈ l := by
  induction l with
  | nil => cases h
  | cons a l ih =>
    by_cases e : a = t
    · subst e; exact List.mem_cons_self
    · simp only [par, show (decide (a = t)) = false from decide_eq_false e, Bool.false_xor] at h
      exact List.mem_cons_of_mem _ (ih h)

theorem eta_red {w : List Nat} (h : Red M w) (t : G M) : eta (mk w) t = true ↔ t ∈ refs w := par_nodup (nodup_of_red h) t

/-- the letter i can stand first -/
def Ds (x : G M) (i : Nat) : Prop := eta x (mk [i]) = true

theorem eta_front (i : Nat) (x : G M) : eta (mk [i] * x) (mk [i]) = !eta x (mk [i]) := by
  rw [eta_mul, (eta_letter i (mk [i])).2 rfl, let_inv, cj_self]; simp

theorem ds_front (i : Nat) (x : G M) : Ds (mk [i] * x) i ↔ ¬ Ds x i := by
  unfold Ds
  rw [eta_front]
  cases eta x (mk [i]) <;> simp

theorem red_tail {i : Nat} {w : List Nat} (h : Red M (i :: w)) : Red M w := by
  intro v hv
  have := h (i :: v) (by rw [show (mk (i :: v) : G M) = mk [i] * mk v from rfl, hv]; rfl)
  simpa using this
theorem red_drop {u w : List Nat} (h : Red M (u ++ w)) : Red M w := by
  induction u with
  | nil => exact h
  | cons a u ih => exact ih (red_tail h)
theorem red_take {u w : List Nat} (h : Red M (u ++ w)) : Red M u := by
  intro v hv
  have := h (v ++ w) (by rw [← mk_mul, hv, mk_mul])
  simpa using this
theorem red_same {u w : List Nat} (h : Red M w) (he : (mk u : G M) = mk w) (hl : u.length = w.length) : Red M u := by
  intro v hv
  rw [hl]
  exact h v (hv.trans he)

theorem ds_of_head {i : Nat} {w : List Nat} (h : Red M (i :: w)) : Ds (mk (i :: w) : G M) i :=
  (eta_red h _).2 (by simp [refs])

theorem ds_word {w : List Nat} {i : Nat} (h : Ds (mk w : G M) i) : ∃ v, v.length + 1 = w.length ∧ (mk (i :: v) : G M) = mk w := by
  obtain ⟨v, hv, he⟩ := drop_ref w (mk [i]) (par_mem h)
  refine ⟨v, hv, ?_⟩
  rw [show (mk (i :: v) : G M) = mk [i] * mk v from rfl, ← he, let_two]

theorem red_cons {i : Nat} {w : List Nat} (h : Red M w) (hd : ¬ Ds (mk w : G M) i) : Red M (i :: w) := by
  intro v hv
  have h1 : Ds (mk v : G M) i := by
    rw [hv]; exact (ds_front i (mk w)).2 hd
  obtain ⟨x, hx, he⟩ := ds_word h1
  have h2 : (mk x : G M) = mk w := cancel_left (x := mk [i]) (by exact he.trans hv)
  have := h x h2
  simp; omega

theorem red_nil : Red M [] := fun _ _ => Nat.zero_le _

theorem not_ds_nil (i : Nat) : ¬ Ds (mk [] : G M) i := by
  unfold Ds; rw [eta_mk]; simp [refs, par]

theorem red_len {u w : List Nat} (hu : Red M u) (hw : Red M w) (h : (mk u : G M) = mk w) : u.length = w.length :=
  Nat.le_antisymm (hu w h.symm) (hw u h)

/-- letters modulo 2 are the element's -/
theorem len_parity {u w : List Nat} (h : (mk u : G M) = mk w) : u.length % 2 = w.length % 2 := by
  have key : ∀ x : G M, ∃ p, ∀ w, mk w = x → w.length % 2 = p := by
    intro x
    refine ⟨Quot.lift (fun w => w.length % 2) ?_ x, ?_⟩
    · intro a b h
      cases h with
      | sq => simp only [List.length_append, List.length_cons]; omega
      | br => simp only [List.length_append, alt_length]
    · rintro w rfl; rfl
  obtain ⟨p, hp⟩ := key (mk w)
  rw [hp u h, hp w rfl]

end
end Go.Proofs.YtcpeeopdaakbaaaGreat.Cx

namespace Go.Proofs.YtcpeeopdaakbaaaGreat.Cx

/-- a prime less 1 is a multiple of all orders, twice -/
abbrev F := Fin 55441

/-- a root's sum with its inverse, of the order 2 m -/
def cos2 : Nat → F
  | 2 => 0
  | 3 => 1
  | 4 => 10826
  | 5 => 13401
  | 6 => 21173
  | 7 => 26068
  | 8 => 23056
  | 9 => 49020
  | 10 => 38637
  | 11 => 727
  | 12 => 18315
  | _ => 0

/-- what is added to a neighbour: a multiple, or the row one place on -/
def scale (m : Nat) (f : Nat → F) : Nat → F :=
  if m = 0 then fun n => match n with | 0 => 0 | n + 1 => f n else fun n => cos2 m * f n

theorem scale_add (m : Nat) (f g : Nat → F) (n : Nat) : scale m (fun n => f n + g n) n = scale m f n + scale m g n := by
  unfold scale
  by_cases h : m = 0
  · simp only [h, if_true]
    cases n with
    | zero => simp
    | succ n => rfl
  · simp only [h, if_false]; grind
theorem scale_neg (m : Nat) (f : Nat → F) (n : Nat) : scale m (fun n => - f n) n = - scale m f n := by
  unfold scale
  by_cases h : m = 0
  · simp only [h, if_true]
    cases n with
    | zero => show (0 : F) = - 0; grind
    | succ n => rfl
  · simp only [h, if_false]; grind
theorem scale_zero (m : Nat) (n : Nat) : scale m (fun _ => 0) n = 0 := by
  unfold scale
  by_cases h : m = 0
  · simp only [h, if_true]
    cases n <;> rfl
  · simp only [h, if_false]; grind

/-- heights above mirrors -/
abbrev V := Nat → Nat → F

/-- the reflection at the mirror s -/
def S (M : Nat → Nat → Nat) (s : Nat) (h : V) : V := fun j n => if j = s then - h s n else h j n + scale (M s j) (h s) n

def act (M : Nat → Nat → Nat) (w : List Nat) (h : V) : V := w.foldl (fun h s => S M s h) h

theorem act_append (M : Nat → Nat → Nat) (u v : List Nat) (h : V) : act M (u ++ v) h = act M v (act M u h) := by
  unfold act; rw [List.foldl_append]

theorem S_two (M : Nat → Nat → Nat) (s : Nat) (h : V) : S M s (S M s h) = h := by
  funext j n
  unfold S
  by_cases e : j = s
  · subst e; simp only [if_true]; grind
  · simp only [e, if_false, if_true]
    rw [scale_neg]; grind

/-- two heights and the sums of what is added to others, as multiples of the two heights at the beginning -/
structure Four where
  a : F × F
  b : F × F
  p : F × F
  q : F × F
deriving DecidableEq

def Four.i (c : F) (x : Four) : Four := { a := (- x.a.1, - x.a.2), b := (x.b.1 + c * x.a.1, x.b.2 + c * x.a.2), p := (x.p.1 + x.a.1, x.p.2 + x.a.2), q := x.q }
def Four.j (c : F) (x : Four) : Four := { b := (- x.b.1, - x.b.2), a := (x.a.1 + c * x.b.1, x.a.2 + c * x.b.2), q := (x.q.1 + x.b.1, x.q.2 + x.b.2), p := x.p }

/-- k turns, first at i (true) or at j -/
def run (c : F) : Nat → Bool → Four → Four
  | 0, _, x => x
  | k + 1, true, x => run c k false (x.i c)
  | k + 1, false, x => run c k true (x.j c)

def start : Four := ⟨(1, 0), (0, 1), (0, 0), (0, 0)⟩

def of (x : F × F) (f g : Nat → F) : Nat → F := fun n => x.1 * f n + x.2 * g n

/-- the heights that four say -/
def said (M : Nat → Nat → Nat) (i j : Nat) (h : V) (x : Four) : V := fun l =>
  if l = i then of x.a (h i) (h j) else if l = j then of x.b (h i) (h j)
  else fun n => h l n + scale (M i l) (of x.p (h i) (h j)) n + scale (M j l) (of x.q (h i) (h j)) n

theorem scale_of_add (m : Nat) (x y : F × F) (f g : Nat → F) (n : Nat) :
    scale m (of (x.1 + y.1, x.2 + y.2) f g) n = scale m (of x f g) n + scale m (of y f g) n := by
  rw [← scale_add]
  congr 1
  funext n
  unfold of
  grind

theorem said_start (M : Nat → Nat → Nat) (i j : Nat) (h : V) : said M i j h start = h := by
  funext l n
  unfold said start
  have e0 : of (0, 0) (h i) (h j) = fun _ => 0 := by funext n; unfold of; grind
  by_cases e : l = i
  · subst e; simp only [if_true]; unfold of; grind
  · by_cases e' : l = j
    · subst e'; simp only [e, if_false, if_true]; unfold of; grind
    · simp only [e, e', if_false, e0]
      rw [scale_zero, scale_zero]; grind

theorem said_i (M : Nat → Nat → Nat) (i j : Nat) (hij : i ≠ j) (hm : M i j ≠ 0) (h : V) (x : Four) :
    S M i (said M i j h x) = said M i j h (x.i (cos2 (M i j))) := by
  funext l n
  unfold S said Four.i
  by_cases e : l = i
  · subst e; simp only [if_true]; unfold of; grind
  · by_cases e' : l = j
    · subst e'
      simp only [e, if_false, if_true]
      unfold scale
      simp only [hm, if_false]
      unfold of; grind
    · simp only [e, e', if_false, if_true]
      rw [scale_of_add]; grind

theorem said_j (M : Nat → Nat → Nat) (hs : ∀ i j, M i j = M j i) (i j : Nat) (hij : i ≠ j) (hm : M i j ≠ 0) (h : V) (x : Four) :
    S M j (said M i j h x) = said M i j h (x.j (cos2 (M i j))) := by
  funext l n
  unfold S said Four.j
  have hji : ¬ j = i := fun e => hij e.symm
  by_cases e' : l = j
  · subst e'; simp only [hji, if_false, if_true]; unfold of; grind
  · by_cases e : l = i
    · subst e
      simp only [e', hji, if_false, if_true]
      rw [hs j l]
      unfold scale
      simp only [hm, if_false]
      unfold of; grind
    · simp only [e, e', hji, if_false, if_true]
      rw [scale_of_add]; grind

theorem act_alt (M : Nat → Nat → Nat) (hs : ∀ i j, M i j = M j i) (i j : Nat) (hij : i ≠ j) (hm : M i j ≠ 0) (h : V) (k : Nat) : ∀ x : Four,
    act M (alt i j k) (said M i j h x) = said M i j h (run (cos2 (M i j)) k true x) ∧
    act M (alt j i k) (said M i j h x) = said M i j h (run (cos2 (M i j)) k false x) := by
  induction k with
  | zero => intro x; exact ⟨rfl, rfl⟩
  | succ k ih =>
    intro x
    constructor
    · show act M (alt j i k) (S M i (said M i j h x)) = _
      rw [said_i M i j hij hm, (ih _).2]; rfl
    · show act M (alt i j k) (S M j (said M i j h x)) = _
      rw [said_j M hs i j hij hm, (ih _).1]; rfl

theorem run_turn : ∀ m, m < 13 → 2 ≤ m → run (cos2 m) m true start = run (cos2 m) m false start := by decide +kernel

theorem run_less' : ∀ m : Fin 13, ∀ k : Fin 13, 2 ≤ m.val → k.val < m.val → 0 < k.val → ¬ ((run (cos2 m.val) (2 * k.val) true start).a = (1, 0) ∧ (run (cos2 m.val) (2 * k.val) true start).b = (0, 1)) := by decide +kernel
theorem run_less (m : Nat) (h : m < 13) (h2 : 2 ≤ m) (k : Nat) (hk : k < m) (h0 : 0 < k) : ¬ ((run (cos2 m) (2 * k) true start).a = (1, 0) ∧ (run (cos2 m) (2 * k) true start).b = (0, 1)) :=
  run_less' ⟨m, h⟩ ⟨k, by omega⟩ h2 hk h0

/-- orders of a triangle -/
structure Ords (M : Nat → Nat → Nat) : Prop where
  symm : ∀ i j, M i j = M j i
  range : ∀ i j, i ≠ j → M i j = 0 ∨ (2 ≤ M i j ∧ M i j ≤ 12)

theorem act_br {M : Nat → Nat → Nat} (hM : Ords M) (i j : Nat) (h : V) : act M (alt i j (M i j)) h = act M (alt j i (M i j)) h := by
  by_cases hij : i = j
  · subst hij; rfl
  · rcases hM.range i j hij with h0 | ⟨h2, h12⟩
    · rw [h0]; rfl
    · have := act_alt M hM.symm i j hij (by omega) h (M i j) start
      rw [said_start] at this
      rw [this.1, this.2, run_turn _ (by omega) h2]

theorem act_step {M : Nat → Nat → Nat} (hM : Ords M) {u v : List Nat} (h : Step M u v) : act M u = act M v := by
  funext x
  cases h with
  | sq a b i =>
    rw [act_append, act_append]
    show act M b (S M i (S M i _)) = _
    rw [S_two]
  | br a b i j =>
    rw [act_append, act_append, act_append, act_append, act_br hM]

theorem act_mk {M : Nat → Nat → Nat} (hM : Ords M) {u v : List Nat} (h : (mk u : G M) = mk v) : act M u = act M v := by
  have := congrArg (Quot.lift (fun w => act M w) (fun _ _ h => act_step hM h)) h
  exact this

/-- the highest place of x is d, y's is less -/
def High (d : Nat) (x y : Nat → F) : Prop := x d ≠ 0 ∧ (∀ n, d < n → x n = 0) ∧ ∀ n, d ≤ n → y n = 0

theorem high_step {M : Nat → Nat → Nat} {i j : Nat} (hij : i ≠ j) (h0 : M i j = 0) (h : V) (d : Nat) (hd : High d (h i) (h j)) :
    High (d + 1) (S M i h j) (S M i h i) := by
  have hji : ¬ j = i := fun e => hij e.symm
  obtain ⟨h1, h2, h3⟩ := hd
  unfold High S
  simp only [hji, if_false, if_true]
  rw [h0]
  unfold scale
  simp only [if_true]
  refine ⟨?_, ?_, ?_⟩
  · rw [h3 (d + 1) (by omega)]
    simpa using h1
  · intro n hn
    obtain ⟨k, rfl⟩ : ∃ k, n = k + 1 := ⟨n - 1, by omega⟩
    simp only
    rw [h3 (k + 1) (by omega), h2 k (by omega)]; rfl
  · intro n hn
    rw [h2 n (by omega)]; rfl

theorem high_alt {M : Nat → Nat → Nat} (hM : Ords M) (k : Nat) : ∀ {i j : Nat}, i ≠ j → M i j = 0 → ∀ (h : V) (d : Nat), High d (h i) (h j) →
    ∃ x y, High (d + k) (act M (alt i j k) h x) (act M (alt i j k) h y) ∧ x = turn i j k := by
  induction k with
  | zero => intro i j hij h0 h d hd; exact ⟨i, j, hd, rfl⟩
  | succ k ih =>
    intro i j hij h0 h d hd
    obtain ⟨x, y, h1, h2⟩ := ih (fun e => hij e.symm) (by rw [hM.symm]; exact h0) (S M i h) (d + 1) (high_step hij h0 h d hd)
    refine ⟨x, y, ?_, ?_⟩
    · rw [show d + (k + 1) = d + 1 + k by omega]; exact h1
    · rw [h2, ← turn_swap]

/-- two letters turn as often as they should -/
theorem alt_exact {M : Nat → Nat → Nat} (hM : Ords M) {i j : Nat} (hij : i ≠ j) {k : Nat} (hk : 0 < k) (hm : M i j = 0 ∨ k < M i j) : (mk (alt i j (2 * k)) : G M) ≠ mk [] := by
  intro h
  have ha := act_mk hM h
  by_cases h0 : M i j = 0
  · let v : V := fun l n => if l = i ∧ n = 0 then 1 else 0
    have hv : High 0 (v i) (v j) := by
      refine ⟨by simp [v], fun n hn => ?_, fun n hn => ?_⟩
      · have : ¬ n = 0 := by omega
        simp [v, this]
      · have : ¬ j = i := fun e => hij e.symm
        simp [v, this]
    obtain ⟨x, y, h1, h2⟩ := high_alt hM (2 * k) hij h0 v 0 hv
    rw [ha] at h1
    have hx := h1.1
    have : ¬ 0 + 2 * k = 0 := by omega
    apply hx
    show (if x = i ∧ 0 + 2 * k = 0 then (1 : F) else 0) = 0
    rw [if_neg (fun e => this e.2)]
  · rcases hM.range i j hij with h0' | ⟨h2, h12⟩
    · exact h0 h0'
    · have hk' : k < M i j := by omega
      have hji : ¬ j = i := fun e => hij e.symm
      have get : ∀ h : V, said M i j h (run (cos2 (M i j)) (2 * k) true start) = h := by
        intro h
        have := (act_alt M hM.symm i j hij h0 h (2 * k) start).1
        rw [said_start, ha] at this
        exact this.symm
      refine run_less _ (by omega) h2 k hk' hk ⟨?_, ?_⟩
      · have a1 := congrFun (congrFun (get (fun l _ => if l = i then 1 else 0)) i) 0
        have a2 := congrFun (congrFun (get (fun l _ => if l = j then 1 else 0)) i) 0
        unfold said of at a1 a2
        simp only [if_true, hij, hji, if_false] at a1 a2
        apply Prod.ext
        · grind
        · grind
      · have a1 := congrFun (congrFun (get (fun l _ => if l = i then 1 else 0)) j) 0
        have a2 := congrFun (congrFun (get (fun l _ => if l = j then 1 else 0)) j) 0
        unfold said of at a1 a2
        simp only [if_true, hij, hji, if_false] at a1 a2
        apply Prod.ext
        · grind
        · grind

end Go.Proofs.YtcpeeopdaakbaaaGreat.Cx

namespace Go.Proofs.YtcpeeopdaakbaaaGreat.Cx

section
variable {M : Nat → Nat → Nat}

theorem two_step (hM : Ords M) {i j : Nat} (hij : i ≠ j) {w v : List Nat} (hd : Ds (mk w : G M) j) (k : Nat) (hk : M i j = 0 ∨ k + 1 ≤ M i j)
    (hv : (mk (alt i j k ++ v) : G M) = mk w) (hl : k + v.length = w.length) :
    ∃ v', (mk (alt j i (k + 1) ++ v') : G M) = mk w ∧ k + 1 + v'.length = w.length := by
  have h1 : mk [j] ∈ (refs (alt i j k ++ v) : List (G M)) := by
    apply par_mem
    have : eta (mk (alt i j k ++ v)) (mk [j] : G M) = true := by rw [hv]; exact hd
    exact this
  rw [refs_append, List.mem_append] at h1
  rcases h1 with h1 | h1
  · rw [refs_alt] at h1
    obtain ⟨p, hp, he⟩ := List.mem_map.1 h1
    rw [List.mem_range] at hp
    exfalso
    refine alt_exact hM hij (k := p + 1) (by omega) (by omega) ?_
    rw [show 2 * (p + 1) = (2 * p + 1) + 1 by omega, alt_snoc, ← mk_mul, he]
    have : turn i j (2 * p + 1) = j := by unfold turn; rw [if_neg (by omega)]
    rw [this, let_sq]
  · obtain ⟨t, ht, he⟩ := List.mem_map.1 h1
    obtain ⟨v', hv', hm⟩ := drop_ref v t ht
    refine ⟨v', ?_, by omega⟩
    show (mk ([j] ++ (alt i j k ++ v')) : G M) = _
    rw [← mk_mul, ← mk_mul, ← hm, ← hv, ← mk_mul]
    have : (mk [j] * (mk (alt i j k) * (t * mk v)) : G M) = mk [j] * (cj (mk (alt i j k)) t * (mk (alt i j k) * mk v)) := by
      unfold cj
      simp only [mul_assoc]
      congr 3
      rw [← mul_assoc (inv _), inv_mul_self, one_mul]
    rw [this, he, let_two]

theorem two_down (hM : Ords M) {i j : Nat} (hij : i ≠ j) {w : List Nat} (hi : Ds (mk w : G M) i) (hj : Ds (mk w : G M) j) (k : Nat) :
    (M i j = 0 ∨ k ≤ M i j) → (∃ v, (mk (alt i j k ++ v) : G M) = mk w ∧ k + v.length = w.length) ∧ (∃ v, (mk (alt j i k ++ v) : G M) = mk w ∧ k + v.length = w.length) := by
  induction k with
  | zero => intro _; exact ⟨⟨w, rfl, by simp⟩, ⟨w, rfl, by simp⟩⟩
  | succ k ih =>
    intro hk
    obtain ⟨⟨v, h1, h2⟩, ⟨u, h3, h4⟩⟩ := ih (by omega)
    have hji : j ≠ i := fun e => hij e.symm
    exact ⟨two_step hM hji hi k (by rw [hM.symm]; exact hk) h3 h4, two_step hM hij hj k hk h1 h2⟩

/-- both letters can stand first: then a whole row of them can -/
theorem both (hM : Ords M) {i j : Nat} (hij : i ≠ j) {w : List Nat} (hi : Ds (mk w : G M) i) (hj : Ds (mk w : G M) j) :
    M i j ≠ 0 ∧ ∃ v, (mk (alt i j (M i j) ++ v) : G M) = mk w ∧ M i j + v.length = w.length := by
  constructor
  · intro h0
    obtain ⟨⟨v, _, h2⟩, _⟩ := two_down hM hij hi hj (w.length + 1) (.inl h0)
    omega
  · exact (two_down hM hij hi hj (M i j) (.inr (Nat.le_refl _))).1

theorem ds_iff {w : List Nat} (h : Red M w) (i : Nat) : Ds (mk w : G M) i ↔ ∃ v, v.length + 1 = w.length ∧ (mk (i :: v) : G M) = mk w := by
  constructor
  · exact ds_word
  · rintro ⟨v, hv, he⟩
    rw [← he]
    exact ds_of_head (red_same h he (by simpa using hv))

/-- the row breaks off: the letter can't stand first -/
theorem row_fails (hM : Ords M) {a x : Nat} (hax : a ≠ x) {w : List Nat} (hw : Red M w) (ha : Ds (mk w : G M) a) {t : Nat} (ht : t < M a x) {v : List Nat}
    (hv : (mk (alt a x t ++ v) : G M) = mk w) (hl : t + v.length = w.length) (hn : ¬ Ds (mk v : G M) (turn a x t)) : ¬ Ds (mk w : G M) x := by
  intro hx
  obtain ⟨_, y, hy, hyl⟩ := both hM hax ha hx
  have e : alt a x (M a x) = alt a x t ++ alt (turn a x t) (turn x a t) (M a x - t) := by
    rw [← alt_add]; congr 1; omega
  rw [e, List.append_assoc, ← hv, ← mk_mul, ← mk_mul (alt a x t) v] at hy
  have h1 := cancel_left hy
  apply hn
  have hr : Red M v := red_drop (red_same hw hv (by simp [alt_length]; omega))
  rw [ds_iff hr]
  obtain ⟨k, hk⟩ : ∃ k, M a x - t = k + 1 := ⟨M a x - t - 1, by omega⟩
  rw [hk] at h1
  refine ⟨alt (turn x a t) (turn a x t) k ++ y, ?_, ?_⟩
  · simp [alt_length]; omega
  · exact h1

/-- the first of the shortest words -/
inductive Greedy (M : Nat → Nat → Nat) : List Nat → Prop
  | nil : Greedy M []
  | cons {i : Nat} {w : List Nat} (hr : Red M (i :: w)) (hd : ∀ j, j < i → ¬ Ds (mk (i :: w) : G M) j) (hw : Greedy M w) : Greedy M (i :: w)

theorem Greedy.red {w : List Nat} (h : Greedy M w) : Red M w := by
  cases h with
  | nil => exact red_nil
  | cons hr _ _ => exact hr

theorem Greedy.unique {u : List Nat} : ∀ {w : List Nat}, Greedy M u → Greedy M w → (mk u : G M) = mk w → u = w := by
  induction u with
  | nil =>
    intro w _ hw he
    have := red_len red_nil hw.red he
    exact (List.length_eq_zero_iff.1 this.symm).symm
  | cons i u ih =>
    intro w hu hw he
    have hl := red_len hu.red hw.red he
    cases hw with
    | nil => simp at hl
    | cons hr hd hw =>
      rename_i j w
      cases hu with
      | cons hr' hd' hu =>
        have h1 := ds_of_head hr
        have h2 := ds_of_head hr'
        rw [← he] at h1 hd
        have hij : i = j := by
          rcases Nat.lt_trichotomy i j with h | h | h
          · exact absurd h2 (hd _ h)
          · exact h
          · exact absurd h1 (hd' _ h)
        subst hij
        rw [ih hu hw (cancel_left (x := mk [i]) he)]

theorem greedy_exists (x : G M) : ∃ w, mk w = x ∧ Greedy M w := by
  have least : ∀ (x : G M) n, Ds x n → ∃ i, Ds x i ∧ ∀ j, j < i → ¬ Ds x j := by
    intro x n
    induction n using Nat.strongRecOn with
    | ind n ih =>
      intro hn
      by_cases h : ∃ j, j < n ∧ Ds x j
      · obtain ⟨j, hj, hd⟩ := h
        exact ih j hj hd
      · exact ⟨n, hn, fun j hj hd => h ⟨j, hj, hd⟩⟩
  have key : ∀ n w, Red M w → w.length = n → ∃ v, (mk v : G M) = mk w ∧ Greedy M v := by
    intro n
    induction n with
    | zero => intro w _ hl; rw [List.length_eq_zero_iff.1 hl]; exact ⟨[], rfl, .nil⟩
    | succ n ih =>
      intro w hw hl
      cases w with
      | nil => simp at hl
      | cons i w =>
        obtain ⟨j, hj, hmin⟩ := least _ i (ds_of_head hw)
        obtain ⟨v, hv, he⟩ := ds_word hj
        have hr : Red M (j :: v) := red_same hw he (by simpa using hv)
        obtain ⟨y, hy, hg⟩ := ih v (red_tail hr) (by simp at hv hl; omega)
        have e2 : (mk (j :: y) : G M) = mk (i :: w) := by
          rw [← he, show (mk (j :: y) : G M) = mk [j] * mk y from rfl, hy]; rfl
        refine ⟨j :: y, e2, .cons (red_same hw e2 ?_) ?_ hg⟩
        · have := red_len hg.red (red_tail hr) hy
          simp at hv ⊢; omega
        · rw [e2]; exact hmin
  obtain ⟨w, hw, hr⟩ := red_exists x
  obtain ⟨v, hv, hg⟩ := key _ w hr rfl
  exact ⟨v, hv.trans hw, hg⟩

/-- the normal word -/
noncomputable def nf (x : G M) : List Nat := Classical.choose (greedy_exists x)

theorem mk_nf (x : G M) : mk (nf x) = x := (Classical.choose_spec (greedy_exists x)).1
theorem nf_greedy (x : G M) : Greedy M (nf x) := (Classical.choose_spec (greedy_exists x)).2
theorem nf_eq {w : List Nat} (h : Greedy M w) : nf (mk w : G M) = w := (nf_greedy _).unique h (mk_nf _)
theorem nf_inj {x y : G M} (h : nf x = nf y) : x = y := by rw [← mk_nf x, ← mk_nf y, h]
theorem nf_inj_iff {x y : G M} : nf x = nf y ↔ x = y := ⟨nf_inj, fun h => by rw [h]⟩

theorem Greedy.drop {u w : List Nat} (h : Greedy M (u ++ w)) : Greedy M w := by
  induction u with
  | nil => exact h
  | cons a u ih =>
    cases h with
    | cons _ _ hw => exact ih hw

theorem Greedy.take {u : List Nat} : ∀ {w : List Nat}, Greedy M (u ++ w) → Greedy M u := by
  induction u with
  | nil => intro w _; exact .nil
  | cons a u ih =>
    intro w h
    cases h with
    | cons hr hd hw =>
      have hr' : Red M (a :: u) := red_take (w := w) hr
      refine .cons hr' (fun j hj hn => hd j hj ?_) (ih hw)
      obtain ⟨v, hv, he⟩ := ds_word hn
      have e : (mk (j :: (v ++ w)) : G M) = mk (a :: (u ++ w)) := by
        show (mk ((j :: v) ++ w) : G M) = mk ((a :: u) ++ w)
        rw [← mk_mul, he, mk_mul]
      show Ds (mk (a :: (u ++ w)) : G M) j
      rw [← e]
      refine ds_of_head (red_same hr e ?_)
      simp at hv ⊢; omega

/-- n stands ahead of v, or is v: words of the same number of letters -/
def Ahead : List Nat → List Nat → Prop
  | [], _ => True
  | _ :: _, [] => False
  | a :: u, b :: v => a < b ∨ (a = b ∧ Ahead u v)

theorem Greedy.ahead {n : List Nat} : ∀ {v : List Nat}, Greedy M n → (mk v : G M) = mk n → v.length = n.length → Ahead n v := by
  induction n with
  | nil => intro v _ _ _; trivial
  | cons i n ih =>
    intro v hg he hl
    cases v with
    | nil => simp at hl
    | cons c v =>
      cases hg with
      | cons hr hd hg =>
        have hc : Ds (mk (i :: n) : G M) c := by
          rw [← he]; exact ds_of_head (red_same hr he hl)
        show i < c ∨ (i = c ∧ Ahead n v)
        rcases Nat.lt_trichotomy i c with h | h | h
        · exact .inl h
        · subst h
          exact .inr ⟨rfl, ih hg (cancel_left (x := mk [i]) he) (by simpa using hl)⟩
        · exact absurd hc (hd _ h)

/-- what bring does to a word: w before, y behind, b what it answers -/
structure Brought (M : Nat → Nat → Nat) (x : Nat) (w : List Nat) (b : Bool) (y : List Nat) : Prop where
  same : (mk y : G M) = mk w
  len : y.length = w.length
  yes : b = true → y.head? = some x
  no : b = false → ¬ Ds (mk w : G M) x ∧ y.head? = w.head?
  low : (∀ l ∈ w, l < 3) → ∀ l ∈ y, l < 3

theorem Brought.red {x : Nat} {w y : List Nat} {b : Bool} (h : Brought M x w b y) (hw : Red M w) : Red M y := red_same hw h.same h.len

theorem brought_nil (x : Nat) : Brought M x [] false [] := ⟨rfl, rfl, fun h => by (cases h), fun _ => ⟨not_ds_nil x, rfl⟩, fun h => h⟩
theorem brought_head (x : Nat) (w : List Nat) : Brought M x (x :: w) true (x :: w) := ⟨rfl, rfl, fun _ => rfl, fun h => by (cases h), fun h => h⟩
theorem brought_zero (hM : Ords M) {a x : Nat} (hax : a ≠ x) (h0 : M a x = 0) {w : List Nat} (hw : Red M (a :: w)) : Brought M x (a :: w) false (a :: w) :=
  ⟨rfl, rfl, fun h => by (cases h), fun _ => ⟨fun hx => (both hM hax (ds_of_head hw) hx).1 h0, rfl⟩, fun h => h⟩

theorem alt_low {a x : Nat} (ha : a < 3) (hx : x < 3) (k : Nat) : ∀ l ∈ alt a x k, l < 3 := by
  have key : ∀ k a x, a < 3 → x < 3 → ∀ l ∈ alt a x k, l < 3 := by
    intro k
    induction k with
    | zero => intro a x _ _ l h; cases h
    | succ k ih =>
      intro a x ha hx l h
      rcases List.mem_cons.1 h with rfl | h
      · exact ha
      · exact ih x a hx ha l h
  exact key k a x ha hx

/-- one more letter of the row: the state of the loop in bring -/
structure Rowed (M : Nat → Nat → Nat) (a x : Nat) (w : List Nat) (t : Nat) (v : List Nat) : Prop where
  same : (mk (alt a x t ++ v) : G M) = mk w
  len : t + v.length = w.length
  low : (∀ l ∈ w, l < 3) → ∀ l ∈ v, l < 3

theorem rowed_start (a x : Nat) (w : List Nat) : Rowed M a x w 0 w := ⟨rfl, by simp, fun h => h⟩

theorem Rowed.red {a x : Nat} {w v : List Nat} {t : Nat} (h : Rowed M a x w t v) (hw : Red M w) : Red M v :=
  red_drop (u := alt a x t) (red_same hw h.same (by simp [alt_length, h.len]))

theorem Rowed.next {a x : Nat} {w v y : List Nat} {t : Nat} (h : Rowed M a x w t v) (hb : Brought M (turn a x t) v true y) :
    ∃ y', y = turn a x t :: y' ∧ Rowed M a x w (t + 1) y' := by
  have h1 := hb.yes rfl
  cases y with
  | nil => simp at h1
  | cons c y' =>
    simp only [List.head?_cons, Option.some.injEq] at h1
    subst h1
    refine ⟨y', rfl, ?_, ?_, ?_⟩
    · have e : alt a x (t + 1) ++ y' = alt a x t ++ (turn a x t :: y') := by rw [alt_snoc, List.append_assoc]; rfl
      rw [e, ← mk_mul, hb.same, mk_mul, h.same]
    · have := hb.len
      have := h.len
      simp at *; omega
    · intro hl l hm
      exact hb.low (h.low hl) l (List.mem_cons_of_mem _ hm)

theorem Rowed.fails (hM : Ords M) {a x : Nat} (hax : a ≠ x) {w v y : List Nat} {t : Nat} (hw : Red M (a :: w)) (ht : t < M a x) (h : Rowed M a x (a :: w) (t) v)
    (hb : Brought M (turn a x t) v false y) (h0 : 0 < t) (hx : x < 3) : Brought M x (a :: w) false (alt a x t ++ y) where
  same := by rw [← mk_mul, hb.same, mk_mul, h.same]
  len := by
    have := h.len
    have := hb.len
    simp [alt_length] at *; omega
  yes := fun h => by cases h
  no := fun _ => by
    refine ⟨row_fails hM hax hw (ds_of_head hw) ht h.same h.len (hb.no rfl).1, ?_⟩
    obtain ⟨k, rfl⟩ : ∃ k, t = k + 1 := ⟨t - 1, by omega⟩
    rfl
  low := fun hl l hm => by
    rcases List.mem_append.1 hm with h1 | h1
    · exact alt_low (hl a (List.mem_cons_self)) hx t l h1
    · exact hb.low (h.low hl) l h1

theorem Rowed.done {a x : Nat} {w v : List Nat} (h0 : M a x ≠ 0) (h : Rowed M a x w (M a x) v) (hx : x < 3) (ha : a < 3) : Brought M x w true (alt x a (M a x) ++ v) where
  same := by
    rw [← h.same, ← mk_mul, ← mk_mul, mk_alt a x]
  len := by
    have := h.len
    simp [alt_length]; omega
  yes := fun _ => by
    obtain ⟨k, hk⟩ : ∃ k, M a x = k + 1 := ⟨M a x - 1, by omega⟩
    rw [hk]; rfl
  no := fun h => by cases h
  low := fun hl l hm => by
    rcases List.mem_append.1 hm with h1 | h1
    · exact alt_low hx ha _ l h1
    · exact h.low hl l h1

/-- a letter ahead of a shortest word -/
theorem put_yes {x : Nat} {w y : List Nat} (hw : Red M w) (hb : Brought M x w true y) : ∃ y', y = x :: y' ∧ Red M y' ∧ (mk y' : G M) = mk (x :: w) ∧ y'.length + 1 = w.length := by
  have h1 := hb.yes rfl
  cases y with
  | nil => simp at h1
  | cons c y' =>
    simp only [List.head?_cons, Option.some.injEq] at h1
    subst h1
    refine ⟨y', rfl, red_tail (hb.red hw), ?_, by have := hb.len; simpa using this⟩
    rw [show (mk (c :: w) : G M) = mk [c] * mk w from rfl, ← hb.same, show (mk (c :: y') : G M) = mk [c] * mk y' from rfl, let_two]

theorem put_no {x : Nat} {w y : List Nat} (hw : Red M w) (hb : Brought M x w false y) : Red M (x :: y) ∧ (mk (x :: y) : G M) = mk (x :: w) := by
  refine ⟨red_cons (hb.red hw) ?_, ?_⟩
  · rw [hb.same]; exact (hb.no rfl).1
  · rw [show (mk (x :: y) : G M) = mk [x] * mk y from rfl, hb.same]; rfl

end
end Go.Proofs.YtcpeeopdaakbaaaGreat.Cx

namespace Go.Proofs.YtcpeeopdaakbaaaGreat.Cx

/-- the row, letter by letter: br brings a letter to the front -/
def rowL (br : Nat → List Nat → Bool × List Nat) (a x : Nat) : Nat → Nat → List Nat → Bool × List Nat
  | 0, _, v => (true, v)
  | n + 1, t, v =>
    match br (turn a x t) v with
    | (true, c :: v') => match rowL br a x n (t + 1) v' with
      | (true, z) => (true, z)
      | (false, z) => (false, c :: z)
    | (_, y) => (false, y)

/-- bring -/
def bringL (M : Nat → Nat → Nat) : Nat → Nat → List Nat → Bool × List Nat
  | 0, _, w => (false, w)
  | _ + 1, _, [] => (false, [])
  | f + 1, x, a :: w =>
    if a = x then (true, a :: w) else if M a x = 0 then (false, a :: w) else
      match rowL (bringL M f) a x (M a x - 1) 1 w with
      | (true, v) => (true, alt x a (M a x) ++ v)
      | (false, y) => (false, a :: y)

section
variable {M : Nat → Nat → Nat}

theorem rowL_ok (hM : Ords M) {a x : Nat} (hax : a ≠ x) (hx : x < 3) {w : List Nat} (hw : Red M (a :: w)) (hlow : ∀ y ∈ a :: w, y < 3) {br : Nat → List Nat → Bool × List Nat} (n0 : Nat)
    (hbr : ∀ y v, v.length ≤ n0 → y < 3 → (∀ z ∈ v, z < 3) → Red M v → Brought M y v (br y v).1 (br y v).2) : ∀ (n t : Nat) (v : List Nat), n + t = M a x → 0 < t → v.length ≤ n0 → Rowed M a x (a :: w) t v →
    ((rowL br a x n t v).1 = true → Brought M x (a :: w) true (alt x a (M a x) ++ (rowL br a x n t v).2)) ∧
    ((rowL br a x n t v).1 = false → Brought M x (a :: w) false (alt a x t ++ (rowL br a x n t v).2)) := by
  have ha : a < 3 := hlow a List.mem_cons_self
  intro n
  induction n with
  | zero =>
    intro t v hn ht hv hr
    obtain rfl : t = M a x := by omega
    exact ⟨fun _ => hr.done (by omega) hx ha, fun h => by cases h⟩
  | succ n ih =>
    intro t v hn ht hv hr
    have ht3 : turn a x t < 3 := by unfold turn; split <;> assumption
    have hb := hbr (turn a x t) v hv ht3 (hr.low hlow) (hr.red hw)
    unfold rowL
    rcases hbe : br (turn a x t) v with ⟨b, y⟩
    rw [hbe] at hb
    cases b with
    | false => exact ⟨(fun h => by cases h), fun _ => hr.fails hM hax hw (by omega) hb ht hx⟩
    | true =>
      obtain ⟨y', hy, hnext⟩ := hr.next hb
      simp only at hy
      subst hy
      have hl := hb.len
      have := ih (t + 1) y' (by omega) (by omega) (by simp at hl; omega) hnext
      rcases hre : rowL br a x n (t + 1) y' with ⟨b2, z⟩
      rw [hre] at this
      simp only [hre]
      cases b2 with
      | true => exact ⟨fun _ => this.1 rfl, (fun h => by cases h)⟩
      | false =>
        refine ⟨(fun h => by cases h), fun _ => ?_⟩
        have h2 := this.2 rfl
        rw [alt_snoc, List.append_assoc] at h2
        exact h2

theorem bringL_ok (hM : Ords M) : ∀ (f x : Nat) (w : List Nat), w.length ≤ f → x < 3 → (∀ y ∈ w, y < 3) → Red M w → Brought M x w (bringL M f x w).1 (bringL M f x w).2 := by
  intro f
  induction f with
  | zero =>
    intro x w hf _ _ _
    obtain rfl : w = [] := List.length_eq_zero_iff.1 (by omega)
    exact brought_nil x
  | succ f ih =>
    intro x w hf hx hlow hw
    cases w with
    | nil => exact brought_nil x
    | cons a w =>
      unfold bringL
      by_cases hax : a = x
      · rw [if_pos hax]; subst hax; exact brought_head a w
      · rw [if_neg hax]
        by_cases h0 : M a x = 0
        · rw [if_pos h0]; exact brought_zero hM hax h0 hw
        · rw [if_neg h0]
          have hrow : Rowed M a x (a :: w) 1 w := ⟨rfl, by simp; omega, fun h l hl => h l (List.mem_cons_of_mem _ hl)⟩
          have := rowL_ok hM hax hx hw hlow (br := bringL M f) f (fun y v hv hy hl hr => ih y v hv hy hl hr) (M a x - 1) 1 w (by omega) (by omega) (by simpa using hf) hrow
          rcases hre : rowL (bringL M f) a x (M a x - 1) 1 w with ⟨b, z⟩
          rw [hre] at this
          cases b with
          | true => exact this.1 rfl
          | false => exact this.2 rfl

/-- a letter ahead of a shortest word -/
def putL (M : Nat → Nat → Nat) (x : Nat) (l : List Nat) : List Nat :=
  match bringL M l.length x l with
  | (true, _ :: y) => y
  | (_, y) => x :: y

theorem putL_ok (hM : Ords M) {x : Nat} {l : List Nat} (hx : x < 3) (hlow : ∀ y ∈ l, y < 3) (hr : Red M l) : Red M (putL M x l) ∧ (mk (putL M x l) : G M) = mk (x :: l) ∧ ∀ y ∈ putL M x l, y < 3 := by
  have hb := bringL_ok hM l.length x l (Nat.le_refl _) hx hlow hr
  unfold putL
  rcases hre : bringL M l.length x l with ⟨b, z⟩
  rw [hre] at hb
  cases b with
  | true =>
    obtain ⟨y', hy, h1, h2, _⟩ := put_yes hr hb
    simp only at hy
    subst hy
    exact ⟨h1, h2, fun y hy => hb.low hlow y (List.mem_cons_of_mem _ hy)⟩
  | false =>
    obtain ⟨h1, h2⟩ := put_no hr hb
    refine ⟨h1, h2, fun y hy => ?_⟩
    rcases List.mem_cons.1 hy with rfl | hy
    · exact hx
    · exact hb.low hlow y hy

/-- a shortest word -/
def madeL (M : Nat → Nat → Nat) (w : List Nat) : List Nat := w.foldr (putL M) []

theorem madeL_ok (hM : Ords M) {w : List Nat} (hlow : ∀ y ∈ w, y < 3) : Red M (madeL M w) ∧ (mk (madeL M w) : G M) = mk w ∧ ∀ y ∈ madeL M w, y < 3 := by
  induction w with
  | nil => exact ⟨red_nil, rfl, fun y hy => by cases hy⟩
  | cons x w ih =>
    obtain ⟨h1, h2, h3⟩ := ih (fun y hy => hlow y (List.mem_cons_of_mem _ hy))
    obtain ⟨g1, g2, g3⟩ := putL_ok hM (hlow x List.mem_cons_self) h3 h1
    refine ⟨g1, g2.trans ?_, g3⟩
    show (mk ([x] ++ madeL M w) : G M) = mk ([x] ++ w)
    exact (by rw [← mk_mul, ← mk_mul, h2])

/-- the first of these letters that can stand first is brought there -/
def tryL (M : Nat → Nat → Nat) (n : Nat) : List Nat → List Nat → List Nat
  | [], l => l
  | k :: ks, l =>
    match bringL M n k l with
    | (true, y) => y
    | (false, y) => tryL M n ks y

/-- the normal word of a shortest word -/
def normL (M : Nat → Nat → Nat) : Nat → List Nat → List Nat
  | 0, _ => []
  | _ + 1, [] => []
  | n + 1, f :: l =>
    match tryL M (n + 1) (List.range f) (f :: l) with
    | [] => []
    | c :: y => c :: normL M n y

theorem tryL_ok (hM : Ords M) {n f : Nat} : ∀ (m k : Nat) (l l0 : List Nat), k + m = f → l.length ≤ n → f < 3 → (∀ y ∈ l, y < 3) → Red M l → l.head? = some f → (mk l : G M) = mk l0 → l.length = l0.length → (∀ j, j < k → ¬ Ds (mk l0 : G M) j) →
    ∃ c y, tryL M n (List.range' k m) l = c :: y ∧ (mk (c :: y) : G M) = mk l0 ∧ (c :: y).length = l0.length ∧ (∀ z ∈ c :: y, z < 3) ∧ ∀ j, j < c → ¬ Ds (mk l0 : G M) j := by
  intro m
  induction m with
  | zero =>
    intro k l l0 hk hn hf hlow hr hh hs hl hd
    cases l with
    | nil => cases hh
    | cons c y =>
      simp only [List.head?_cons, Option.some.injEq] at hh
      subst hh
      exact ⟨c, y, rfl, hs, hl, hlow, fun j hj => hd j (by omega)⟩
  | succ m ih =>
    intro k l l0 hk hn hf hlow hr hh hs hl hd
    have hb := bringL_ok hM n k l hn (by omega) hlow hr
    rw [List.range'_succ]
    unfold tryL
    rcases hre : bringL M n k l with ⟨b, z⟩
    rw [hre] at hb
    cases b with
    | true =>
      have h1 := hb.yes rfl
      simp only at h1
      cases z with
      | nil => cases h1
      | cons c y =>
        simp only [List.head?_cons, Option.some.injEq] at h1
        subst h1
        exact ⟨c, y, rfl, hb.same.trans hs, hb.len.trans hl, hb.low hlow, hd⟩
    | false =>
      refine ih (k + 1) z l0 (by omega) (by have := hb.len; simp at this; omega) hf (hb.low hlow) (hb.red hr) ?_ (hb.same.trans hs) (hb.len.trans hl) (fun j hj => ?_)
      · rw [← hh]; exact (hb.no rfl).2
      · rcases Nat.lt_or_ge j k with h | h
        · exact hd j h
        · obtain rfl : j = k := by omega
          rw [← hs]; exact (hb.no rfl).1

theorem normL_ok (hM : Ords M) : ∀ (n : Nat) (l : List Nat), l.length ≤ n → (∀ y ∈ l, y < 3) → Red M l → Greedy M (normL M n l) ∧ (mk (normL M n l) : G M) = mk l := by
  intro n
  induction n with
  | zero =>
    intro l hl _ _
    obtain rfl : l = [] := List.length_eq_zero_iff.1 (by omega)
    exact ⟨.nil, rfl⟩
  | succ n ih =>
    intro l hl hlow hr
    cases l with
    | nil => exact ⟨.nil, rfl⟩
    | cons f l =>
      obtain ⟨c, y, h1, h2, h3, h4, h5⟩ := tryL_ok hM (n := n + 1) (f := f) f 0 (f :: l) (f :: l) (by omega) hl (hlow f List.mem_cons_self) hlow hr rfl rfl rfl (fun j hj => by omega)
      have hrange : List.range f = List.range' 0 f := List.range_eq_range'
      have hcy : Red M (c :: y) := red_same hr h2 h3
      obtain ⟨g1, g2⟩ := ih y (by simp at h3 hl; omega) (fun z hz => h4 z (List.mem_cons_of_mem _ hz)) (red_tail hcy)
      unfold normL
      rw [hrange, h1]
      have e : (mk (c :: normL M n y) : G M) = mk (c :: y) := by
        show (mk ([c] ++ normL M n y) : G M) = mk ([c] ++ y)
        rw [← mk_mul, ← mk_mul, g2]
      refine ⟨.cons (red_same hcy e ?_) (fun j hj => ?_) g1, e.trans h2⟩
      · have := red_len g1.red (red_tail hcy) g2
        simp; omega
      · rw [e, h2]; exact h5 j hj

/-- the normal word, reckoned -/
def nfL (M : Nat → Nat → Nat) (w : List Nat) : List Nat := normL M (madeL M w).length (madeL M w)

theorem nfL_eq (hM : Ords M) {w : List Nat} (hlow : ∀ y ∈ w, y < 3) : nf (mk w : G M) = nfL M w := by
  obtain ⟨h1, h2, h3⟩ := madeL_ok hM hlow
  obtain ⟨g1, g2⟩ := normL_ok hM (madeL M w).length (madeL M w) (Nat.le_refl _) h3 h1
  rw [← h2, ← g2]
  exact nf_eq g1

theorem one_iff (hM : Ords M) {w : List Nat} (hlow : ∀ y ∈ w, y < 3) : (mk w : G M) = mk [] ↔ madeL M w = [] := by
  obtain ⟨h1, h2, h3⟩ := madeL_ok hM hlow
  constructor
  · intro h
    have := red_len h1 red_nil (h2.trans h)
    exact List.length_eq_zero_iff.1 this
  · intro h
    rw [← h2, h]
end
end Go.Proofs.YtcpeeopdaakbaaaGreat.Cx
