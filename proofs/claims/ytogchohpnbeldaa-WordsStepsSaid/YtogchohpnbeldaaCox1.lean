/- The group that words make under steps: reflections, lengths, exchange. -/
namespace Go.Proofs.Ytogchohpnbeldaa.Cx

/-- i j i j .. of k letters -/
def alt : Nat → Nat → Nat → List Nat
  | _, _, 0 => []
  | i, j, k + 1 => i :: alt j i k

theorem alt_length (k : Nat) : ∀ i j, (alt i j k).length = k := by
  induction k with
  | zero => intro i j; rfl
  | succ k ih => intro i j; simp [alt, ih]

/-- the letter behind k letters of i j i j .. -/
def turn (i j k : Nat) : Nat := if k % 2 = 0 then i else j

theorem turn_swap (i j k : Nat) : turn j i (k + 1) = turn i j k := by
  unfold turn
  by_cases h : k % 2 = 0
  · rw [if_neg (by omega), if_pos h]
  · rw [if_pos (by omega), if_neg h]

theorem turn_self (i k : Nat) : turn i i k = i := by unfold turn; split <;> rfl

theorem alt_snoc (k : Nat) : ∀ i j, alt i j (k + 1) = alt i j k ++ [turn i j k] := by
  induction k with
  | zero => intro i j; rfl
  | succ k ih =>
    intro i j
    have h := ih j i
    rw [show alt i j (k + 1 + 1) = i :: alt j i (k + 1) from rfl, h, turn_swap]
    rfl

theorem alt_add (a : Nat) : ∀ (b i j : Nat), alt i j (a + b) = alt i j a ++ alt (turn i j a) (turn j i a) b := by
  induction a with
  | zero => intro b i j; simp [alt, turn]
  | succ a ih =>
    intro b i j
    rw [show a + 1 + b = (a + b) + 1 by omega]
    simp only [alt, List.cons_append, List.cons.injEq, true_and]
    rw [ih, turn_swap, turn_swap]

theorem alt_reverse (k : Nat) : ∀ i j, (alt i j k).reverse = if k % 2 = 0 then alt j i k else alt i j k := by
  induction k with
  | zero => intro i j; simp [alt]
  | succ k ih =>
    intro i j
    conv => lhs; rw [alt_snoc, List.reverse_append, ih]
    unfold turn
    by_cases h : k % 2 = 0
    · rw [if_pos h, if_pos h, if_neg (by omega)]; rfl
    · rw [if_neg h, if_neg h, if_pos (by omega)]; rfl

theorem alt_get (k : Nat) : ∀ (i j n : Nat) (h : n < (alt i j k).length), (alt i j k)[n] = turn i j n := by
  induction k with
  | zero => intro i j n h; simp [alt] at h
  | succ k ih =>
    intro i j n h
    cases n with
    | zero => simp [alt, turn]
    | succ n =>
      simp only [alt, List.getElem_cons_succ]
      rw [ih j i n (by simpa [alt] using h), turn_swap]

/-- the steps on words -/
inductive Step (M : Nat → Nat → Nat) : List Nat → List Nat → Prop
  | sq (u v : List Nat) (i : Nat) : Step M (u ++ i :: i :: v) (u ++ v)
  | br (u v : List Nat) (i j : Nat) : Step M (u ++ (alt i j (M i j) ++ v)) (u ++ (alt j i (M i j) ++ v))

/-- what words make under steps -/
def G (M : Nat → Nat → Nat) : Type := Quot (Step M)

section
variable {M : Nat → Nat → Nat}

def mk (w : List Nat) : G M := Quot.mk _ w

theorem Step.left {u v : List Nat} (h : Step M u v) (x : List Nat) : Step M (x ++ u) (x ++ v) := by
  cases h with
  | sq a b i => rw [← List.append_assoc, ← List.append_assoc]; exact .sq _ _ _
  | br a b i j => rw [← List.append_assoc, ← List.append_assoc x]; exact .br _ _ _ _

theorem Step.right {u v : List Nat} (h : Step M u v) (x : List Nat) : Step M (u ++ x) (v ++ x) := by
  cases h with
  | sq a b i => simp only [List.append_assoc, List.cons_append]; exact .sq _ _ _
  | br a b i j => simp only [List.append_assoc]; exact .br _ _ _ _

def mul (x y : G M) : G M :=
  Quot.lift (fun u => Quot.lift (fun v => (mk (u ++ v) : G M)) (fun _ _ h => Quot.sound (h.left u)) y)
    (fun _ _ h => by
      induction y using Quot.ind
      exact Quot.sound (h.right _)) x

instance : Mul (G M) := ⟨mul⟩

theorem mk_mul (u v : List Nat) : (mk u * mk v : G M) = mk (u ++ v) := rfl

theorem mk_sq (u v : List Nat) (i : Nat) : (mk (u ++ i :: i :: v) : G M) = mk (u ++ v) := Quot.sound (.sq u v i)
theorem mk_br (u v : List Nat) (i j : Nat) : (mk (u ++ (alt i j (M i j) ++ v)) : G M) = mk (u ++ (alt j i (M i j) ++ v)) := Quot.sound (.br u v i j)
theorem mk_alt (i j : Nat) : (mk (alt i j (M i j)) : G M) = mk (alt j i (M i j)) := by
  have h := mk_br (M := M) [] [] i j
  simpa using h

theorem inv_ok {u v : List Nat} (h : Step M u v) : (mk u.reverse : G M) = mk v.reverse := by
  cases h with
  | sq a b i => simp only [List.reverse_append, List.reverse_cons, List.append_assoc, List.cons_append, List.nil_append]; exact mk_sq _ _ _
  | br a b i j =>
    simp only [List.reverse_append, alt_reverse, List.append_assoc]
    by_cases h : M i j % 2 = 0
    · rw [if_pos h, if_pos h]; exact (mk_br _ _ _ _).symm
    · rw [if_neg h, if_neg h]; exact mk_br _ _ _ _

def inv (x : G M) : G M := Quot.lift (fun u => (mk u.reverse : G M)) (fun _ _ h => inv_ok h) x

theorem inv_mk (u : List Nat) : inv (mk u : G M) = mk u.reverse := rfl

theorem ind {p : G M → Prop} (h : ∀ w, p (mk w)) (x : G M) : p x := Quot.ind h x

theorem mul_assoc (x y z : G M) : x * y * z = x * (y * z) := by
  induction x using ind; induction y using ind; induction z using ind
  simp only [mk_mul, List.append_assoc]
theorem one_mul (x : G M) : mk [] * x = x := by
  induction x using ind; rfl
theorem mul_one (x : G M) : x * mk [] = x := by
  induction x using ind; simp [mk_mul]
theorem inv_inv (x : G M) : inv (inv x) = x := by
  induction x using ind; simp [inv_mk]
theorem inv_mul (x y : G M) : inv (x * y) = inv y * inv x := by
  induction x using ind; induction y using ind; simp [inv_mk, mk_mul]

theorem mk_pal (u : List Nat) : (mk (u ++ u.reverse) : G M) = mk [] := by
  have key : ∀ n (u : List Nat), u.length = n → (mk (u ++ u.reverse) : G M) = mk [] := by
    intro n
    induction n with
    | zero => intro u hu; rw [List.length_eq_zero_iff.1 hu]; rfl
    | succ n ih =>
      intro u hu
      have hne : u ≠ [] := by intro h; rw [h] at hu; simp at hu
      obtain ⟨v, a, rfl⟩ : ∃ v a, u = v ++ [a] := ⟨u.dropLast, u.getLast hne, (List.dropLast_concat_getLast hne).symm⟩
      have : v ++ [a] ++ (v ++ [a]).reverse = v ++ a :: a :: v.reverse := by simp
      rw [this, mk_sq]
      exact ih v (by simpa using hu)
  exact key _ u rfl

theorem mul_inv (x : G M) : x * inv x = mk [] := by
  induction x using ind; exact mk_pal _
theorem inv_mul_self (x : G M) : inv x * x = mk [] := by
  have h := mul_inv (inv x)
  rwa [inv_inv] at h
theorem cancel_left {x y z : G M} (h : x * y = x * z) : y = z := by
  have := congrArg (fun t => inv x * t) h
  simpa only [← mul_assoc, inv_mul_self, one_mul] using this
theorem cancel_right {x y z : G M} (h : y * x = z * x) : y = z := by
  have := congrArg (fun t => t * inv x) h
  simpa only [mul_assoc, mul_inv, mul_one] using this

theorem let_sq (i : Nat) : (mk [i] * mk [i] : G M) = mk [] := mk_sq [] [] i
theorem let_inv (i : Nat) : inv (mk [i] : G M) = mk [i] := rfl
theorem let_two (i : Nat) (x : G M) : mk [i] * (mk [i] * x) = x := by rw [← mul_assoc, let_sq, one_mul]

/-- the conjugate of t by x -/
def cj (x t : G M) : G M := x * t * inv x

theorem cj_mul (x y t : G M) : cj (x * y) t = cj x (cj y t) := by
  unfold cj; rw [inv_mul]; simp only [mul_assoc]
theorem cj_inj {x s t : G M} (h : cj x s = cj x t) : s = t := cancel_left (cancel_right h)
theorem cj_inv (x t : G M) : cj (inv x) (cj x t) = t := by
  unfold cj; rw [inv_inv]; simp only [mul_assoc, inv_mul_self, mul_one]
  rw [← mul_assoc, inv_mul_self, one_mul]
theorem cj_inv' (x t : G M) : cj x (cj (inv x) t) = t := by
  have h := cj_inv (inv x) t
  rwa [inv_inv] at h
theorem cj_one (t : G M) : cj (mk []) t = t := by
  unfold cj; rw [one_mul]; exact mul_one _
theorem cj_self (i : Nat) : cj (mk [i]) (mk [i]) = (mk [i] : G M) := by
  unfold cj; rw [let_inv, mul_assoc, let_sq, mul_one]

/-- the reflections of a word's letters, each behind its beginning -/
def refs : List Nat → List (G M)
  | [] => []
  | s :: w => mk [s] :: (refs w).map (cj (mk [s]))

theorem refs_append (u v : List Nat) : (refs (u ++ v) : List (G M)) = refs u ++ (refs v).map (cj (mk u)) := by
  induction u with
  | nil => simp [refs, show (cj (mk []) : G M → G M) = id from funext cj_one]
  | cons s u ih =>
    simp only [List.cons_append, refs, ih, List.map_append, List.map_map]
    have : (cj (mk [s]) ∘ cj (mk u) : G M → G M) = cj (mk (s :: u)) := by
      funext t
      show cj (mk [s]) (cj (mk u) t) = _
      rw [← cj_mul]; rfl
    rw [this]

theorem refs_length (w : List Nat) : (refs w : List (G M)).length = w.length := by
  induction w with
  | nil => rfl
  | cons s w ih => simp [refs, ih]

open Classical in
/-- is t in the list an odd number of times? -/
noncomputable def par : List (G M) → G M → Bool
  | [], _ => false
  | x :: l, t => (decide (x = t)) ^^ par l t

theorem par_append (l k : List (G M)) (t : G M) : par (l ++ k) t = (par l t ^^ par k t) := by
  induction l with
  | nil => simp [par]
  | cons x l ih => simp [par, ih]

theorem par_cj (x : G M) (l : List (G M)) (t : G M) : par (l.map (cj x)) t = par l (cj (inv x) t) := by
  induction l with
  | nil => rfl
  | cons a l ih =>
    simp only [List.map_cons, par, ih]
    congr 1
    apply decide_eq_decide.2
    constructor
    · rintro rfl; rw [cj_inv]
    · rintro rfl; rw [cj_inv']

theorem par_reverse (l : List (G M)) (t : G M) : par l.reverse t = par l t := by
  induction l with
  | nil => rfl
  | cons a l ih => rw [List.reverse_cons, par_append, ih]; simp [par, Bool.xor_comm]

theorem par_refs_append (u v : List Nat) (t : G M) : par (refs (u ++ v)) t = (par (refs u) t ^^ par (refs v) (cj (inv (mk u)) t)) := by
  rw [refs_append, par_append, par_cj]

theorem refs_alt (k : Nat) : ∀ i j, (refs (alt i j k) : List (G M)) = (List.range k).map (fun p => mk (alt i j (2 * p + 1))) := by
  induction k with
  | zero => intro i j; rfl
  | succ k ih =>
    intro i j
    rw [List.range_succ_eq_map]
    simp only [alt, refs, ih, List.map_cons, List.map_map]
    refine congrArg (List.cons (mk [i])) (List.map_congr_left fun p _ => ?_)
    show cj (mk [i]) (mk (alt j i (2 * p + 1))) = mk (alt i j (2 * (p + 1) + 1))
    have e : alt i j (2 * (p + 1) + 1) = [i] ++ alt j i (2 * p + 1) ++ [i] := by
      rw [show 2 * (p + 1) + 1 = (2 * p + 2) + 1 by omega]
      show i :: alt j i (2 * p + 1 + 1) = _
      rw [alt_snoc]
      simp [turn]
    rw [e]; rfl

theorem alt_two (i j : Nat) : (mk (alt i j (2 * M i j)) : G M) = mk [] := by
  rw [Nat.two_mul, alt_add]
  by_cases h : M i j % 2 = 0
  · have e1 : turn i j (M i j) = i := by unfold turn; rw [if_pos h]
    have e2 : turn j i (M i j) = j := by unfold turn; rw [if_pos h]
    rw [e1, e2, ← mk_mul]
    have e3 := alt_reverse (M i j) i j
    rw [if_pos h] at e3
    have e4 : (mk (alt i j (M i j)) * mk (alt i j (M i j)) : G M) = mk (alt i j (M i j)) * mk (alt j i (M i j)) := by rw [← mk_alt i j]
    rw [e4, mk_mul, ← e3, mk_pal]
  · have e1 : turn i j (M i j) = j := by unfold turn; rw [if_neg h]
    have e2 : turn j i (M i j) = i := by unfold turn; rw [if_neg h]
    rw [e1, e2, ← mk_mul, ← mk_alt i j]
    have e3 := alt_reverse (M i j) i j
    rw [if_neg h] at e3
    have e4 : alt i j (M i j) ++ alt i j (M i j) = alt i j (M i j) ++ (alt i j (M i j)).reverse := by rw [e3]
    rw [mk_mul, e4, mk_pal]

theorem alt_odd_sq (i j p : Nat) : (mk (alt i j (2 * p + 1)) * mk (alt i j (2 * p + 1)) : G M) = mk [] := by
  have e3 := alt_reverse (2 * p + 1) i j
  rw [if_neg (by omega)] at e3
  have e4 : alt i j (2 * p + 1) ++ alt i j (2 * p + 1) = alt i j (2 * p + 1) ++ (alt i j (2 * p + 1)).reverse := by rw [e3]
  rw [mk_mul, e4, mk_pal]

theorem alt_back (i j p q : Nat) (h : p + q + 1 = M i j) : (mk (alt i j (2 * p + 1)) : G M) = mk (alt j i (2 * q + 1)) := by
  have h2 := alt_two (M := M) i j
  rw [show 2 * M i j = (2 * p + 1) + (2 * q + 1) by omega, alt_add] at h2
  have e1 : turn i j (2 * p + 1) = j := by unfold turn; rw [if_neg (by omega)]
  have e2 : turn j i (2 * p + 1) = i := by unfold turn; rw [if_neg (by omega)]
  rw [e1, e2, ← mk_mul, ← alt_odd_sq j i q] at h2
  exact cancel_right h2

theorem refs_br (i j : Nat) : (refs (alt j i (M i j)) : List (G M)) = (refs (alt i j (M i j))).reverse := by
  rw [refs_alt, refs_alt]
  apply List.ext_getElem
  · simp
  · intro n h1 h2
    simp only [List.length_map, List.length_range] at h1
    simp only [List.getElem_map, List.getElem_range, List.getElem_reverse, List.length_map, List.length_range]
    exact (alt_back i j (M i j - 1 - n) n (by omega)).symm

theorem par_ok {u v : List Nat} (h : Step M u v) : (par (refs u) : G M → Bool) = par (refs v) := by
  funext t
  cases h with
  | sq a b i =>
    rw [show a ++ i :: i :: b = a ++ ([i, i] ++ b) by simp, par_refs_append, par_refs_append, par_refs_append]
    congr 1
    have e1 : ∀ s : G M, par (refs [i, i]) s = false := by
      intro s
      simp only [refs, List.map_nil, List.map_cons, par, cj_self]
      simp
    have e2 : (mk [i, i] : G M) = mk [] := let_sq i
    rw [e1, e2]
    simp only [Bool.false_xor]
    congr 1
    exact cj_one _
  | br a b i j =>
    rw [par_refs_append, par_refs_append, par_refs_append, par_refs_append, refs_br, par_reverse, ← mk_alt i j]

/-- does the reflection t part x from the first tile? -/
noncomputable def eta (x : G M) : G M → Bool := Quot.lift (fun w => par (refs w)) (fun _ _ h => par_ok h) x

theorem eta_mk (w : List Nat) (t : G M) : eta (mk w) t = par (refs w) t := rfl

theorem eta_mul (x y t : G M) : eta (x * y) t = (eta x t ^^ eta y (cj (inv x) t)) := by
  induction x using ind; induction y using ind
  exact par_refs_append _ _ _

theorem eta_letter (i : Nat) (t : G M) : (eta (mk [i]) t = true) ↔ t = mk [i] := by
  rw [eta_mk]
  simp only [refs, List.map_nil, par, Bool.xor_false, decide_eq_true_eq]
  exact eq_comm

/-- a word with as few letters as there can be -/
def Red (M : Nat → Nat → Nat) (w : List Nat) : Prop := ∀ v, (mk v : G M) = mk w → w.length ≤ v.length

theorem red_exists (x : G M) : ∃ w, mk w = x ∧ Red M w := by
  have key : ∀ n w, w.length = n → ∃ v, (mk v : G M) = mk w ∧ Red M v := by
    intro n
    induction n using Nat.strongRecOn with
    | ind n ih =>
      intro w hw
      by_cases h : Red M w
      · exact ⟨w, rfl, h⟩
      · unfold Red at h
        simp only [Classical.not_forall] at h
        obtain ⟨v, hv, hl⟩ := h
        obtain ⟨v', hv', hr⟩ := ih v.length (by omega) v rfl
        exact ⟨v', hv'.trans hv, hr⟩
  induction x using ind with | _ w => exact key _ w rfl

theorem drop_ref (w : List Nat) : ∀ t : G M, t ∈ refs w → ∃ v, v.length + 1 = w.length ∧ t * mk w = mk v := by
  induction w with
  | nil => intro t h; cases h
  | cons s w ih =>
    intro t h
    simp only [refs, List.mem_cons, List.mem_map] at h
    rcases h with rfl | ⟨t', ht', rfl⟩
    · exact ⟨w, rfl, mk_sq [] w s⟩
    · obtain ⟨v, hv, he⟩ := ih t' ht'
      refine ⟨s :: v, by simp [hv], ?_⟩
      rw [show (mk (s :: w) : G M) = mk [s] * mk w from rfl, show (mk (s :: v) : G M) = mk [s] * mk v from rfl, ← he]
      unfold cj
      rw [let_inv]
      simp only [mul_assoc, let_two]

theorem nodup_of_red {w : List Nat} (h : Red M w) : (refs w : List (G M)).Nodup := by
  have key : ∀ w : List Nat, ¬ (refs w : List (G M)).Nodup → ∃ v, v.length + 2 = w.length ∧ (mk v : G M) = mk w := by
    intro w
    induction w with
    | nil => intro h; exact absurd List.nodup_nil h
    | cons s w ih =>
      intro h
      simp only [refs, List.nodup_cons] at h
      by_cases h1 : (refs w : List (G M)).Nodup
      · have h2 : ((refs w).map (cj (mk [s])) : List (G M)).Nodup := by
          refine List.Pairwise.map (cj (mk [s])) (fun a b hab he => ?_) h1
          exact hab (cj_inj he)
        have h3 : mk [s] ∈ ((refs w).map (cj (mk [s])) : List (G M)) := Classical.byContradiction fun hn => h ⟨hn, h2⟩
        obtain ⟨t, ht, he⟩ := List.mem_map.1 h3
        have h4 : t = mk [s] := cj_inj (he.trans (cj_self s).symm)
        subst h4
        obtain ⟨v, hv, hm⟩ := drop_ref w _ ht
        exact ⟨v, by simp; omega, hm.symm⟩
      · obtain ⟨v, hv, hm⟩ := ih h1
        exact ⟨s :: v, by simp; omega, by
          rw [show (mk (s :: v) : G M) = mk [s] * mk v from rfl, hm]; rfl⟩
  exact Classical.byContradiction fun hn => by
    obtain ⟨v, hv, hm⟩ := key w hn
    have := h v hm
    omega

open Classical in
theorem par_nodup {l : List (G M)} (h : l.Nodup) (t : G M) : par l t = true ↔ t ∈ l := by
  induction l with
  | nil => simp [par]
  | cons a l ih =>
    rw [List.nodup_cons] at h
    have ih := ih h.2
    simp only [par, List.mem_cons]
    by_cases e : a = t
    · subst e
      have : par l a = false := by
        cases hp : par l a
        · rfl
        · exact absurd (ih.1 hp) h.1
      simp [this]
    · rw [show (decide (a = t)) = false from decide_eq_false e, Bool.false_xor, ih]
      exact ⟨.inr, fun h => h.elim (fun h => absurd h.symm e) id⟩

open Classical in
theorem par_mem {l : List (G M)} {t : G M} (h : par l t = true) : t ∈ l := by
  induction l with
  | nil => cases h
  | cons a l ih =>
    by_cases e : a = t
    · subst e; exact List.mem_cons_self
    · simp only [par, show (decide (a = t)) = false from decide_eq_false e, Bool.false_xor] at h
      exact List.mem_cons_of_mem _ (ih h)

theorem eta_red {w : List Nat} (h : Red M w) (t : G M) : eta (mk w) t = true ↔ t ∈ refs w := par_nodup (nodup_of_red h) t

/-- the letter i can stand first -/
def Ds (x : G M) (i : Nat) : Prop := eta x (mk [i]) = true

theorem eta_front (i : Nat) (x : G M) : eta (mk [i] * x) (mk [i]) = !eta x (mk [i]) := by
  rw [eta_mul, (eta_letter i (mk [i])).2 rfl, let_inv, cj_self]; simp

theorem ds_front (i : Nat) (x : G M) : Ds (mk [i] * x) i ↔ ¬ Ds x i := by
  unfold Ds
  rw [eta_front]
  cases eta x (mk [i]) <;> simp

theorem red_tail {i : Nat} {w : List Nat} (h : Red M (i :: w)) : Red M w := by
  intro v hv
  have := h (i :: v) (by rw [show (mk (i :: v) : G M) = mk [i] * mk v from rfl, hv]; rfl)
  simpa using this
theorem red_drop {u w : List Nat} (h : Red M (u ++ w)) : Red M w := by
  induction u with
  | nil => exact h
  | cons a u ih => exact ih (red_tail h)
theorem red_take {u w : List Nat} (h : Red M (u ++ w)) : Red M u := by
  intro v hv
  have := h (v ++ w) (by rw [← mk_mul, hv, mk_mul])
  simpa using this
theorem red_same {u w : List Nat} (h : Red M w) (he : (mk u : G M) = mk w) (hl : u.length = w.length) : Red M u := by
  intro v hv
  rw [hl]
  exact h v (hv.trans he)

theorem ds_of_head {i : Nat} {w : List Nat} (h : Red M (i :: w)) : Ds (mk (i :: w) : G M) i :=
  (eta_red h _).2 (by simp [refs])

theorem ds_word {w : List Nat} {i : Nat} (h : Ds (mk w : G M) i) : ∃ v, v.length + 1 = w.length ∧ (mk (i :: v) : G M) = mk w := by
  obtain ⟨v, hv, he⟩ := drop_ref w (mk [i]) (par_mem h)
  refine ⟨v, hv, ?_⟩
  rw [show (mk (i :: v) : G M) = mk [i] * mk v from rfl, ← he, let_two]

theorem red_cons {i : Nat} {w : List Nat} (h : Red M w) (hd : ¬ Ds (mk w : G M) i) : Red M (i :: w) := by
  intro v hv
  have h1 : Ds (mk v : G M) i := by
    rw [hv]; exact (ds_front i (mk w)).2 hd
  obtain ⟨x, hx, he⟩ := ds_word h1
  have h2 : (mk x : G M) = mk w := cancel_left (x := mk [i]) (by exact he.trans hv)
  have := h x h2
  simp; omega

theorem red_nil : Red M [] := fun _ _ => Nat.zero_le _

theorem not_ds_nil (i : Nat) : ¬ Ds (mk [] : G M) i := by
  unfold Ds; rw [eta_mk]; simp [refs, par]

theorem red_len {u w : List Nat} (hu : Red M u) (hw : Red M w) (h : (mk u : G M) = mk w) : u.length = w.length :=
  Nat.le_antisymm (hu w h.symm) (hw u h)

/-- letters modulo 2 are the element's -/
theorem len_parity {u w : List Nat} (h : (mk u : G M) = mk w) : u.length % 2 = w.length % 2 := by
  have key : ∀ x : G M, ∃ p, ∀ w, mk w = x → w.length % 2 = p := by
    intro x
    refine ⟨Quot.lift (fun w => w.length % 2) ?_ x, ?_⟩
    · intro a b h
      cases h with
      | sq => simp only [List.length_append, List.length_cons]; omega
      | br => simp only [List.length_append, alt_length]
    · rintro w rfl; rfl
  obtain ⟨p, hp⟩ := key (mk w)
  rw [hp u h, hp w rfl]

end
end Go.Proofs.Ytogchohpnbeldaa.Cx
