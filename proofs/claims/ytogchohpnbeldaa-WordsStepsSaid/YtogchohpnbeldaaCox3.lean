/- Normal words: two letters that can stand first, and the first of the shortest words. -/
import Derived.Test.YtogchohpnbeldaaCox2
namespace Go.Proofs.Ytogchohpnbeldaa.Cx

section
variable {M : Nat → Nat → Nat}

theorem two_step (hM : Ords M) {i j : Nat} (hij : i ≠ j) {w v : List Nat} (hd : Ds (mk w : G M) j) (k : Nat) (hk : M i j = 0 ∨ k + 1 ≤ M i j)
    (hv : (mk (alt i j k ++ v) : G M) = mk w) (hl : k + v.length = w.length) :
    ∃ v', (mk (alt j i (k + 1) ++ v') : G M) = mk w ∧ k + 1 + v'.length = w.length := by
  have h1 : mk [j] ∈ (refs (alt i j k ++ v) : List (G M)) := by
    apply par_mem
    have : eta (mk (alt i j k ++ v)) (mk [j] : G M) = true := by rw [hv]; exact hd
    exact this
  rw [refs_append, List.mem_append] at h1
  rcases h1 with h1 | h1
  · rw [refs_alt] at h1
    obtain ⟨p, hp, he⟩ := List.mem_map.1 h1
    rw [List.mem_range] at hp
    exfalso
    refine alt_exact hM hij (k := p + 1) (by omega) (by omega) ?_
    rw [show 2 * (p + 1) = (2 * p + 1) + 1 by omega, alt_snoc, ← mk_mul, he]
    have : turn i j (2 * p + 1) = j := by unfold turn; rw [if_neg (by omega)]
    rw [this, let_sq]
  · obtain ⟨t, ht, he⟩ := List.mem_map.1 h1
    obtain ⟨v', hv', hm⟩ := drop_ref v t ht
    refine ⟨v', ?_, by omega⟩
    show (mk ([j] ++ (alt i j k ++ v')) : G M) = _
    rw [← mk_mul, ← mk_mul, ← hm, ← hv, ← mk_mul]
    have : (mk [j] * (mk (alt i j k) * (t * mk v)) : G M) = mk [j] * (cj (mk (alt i j k)) t * (mk (alt i j k) * mk v)) := by
      unfold cj
      simp only [mul_assoc]
      congr 3
      rw [← mul_assoc (inv _), inv_mul_self, one_mul]
    rw [this, he, let_two]

theorem two_down (hM : Ords M) {i j : Nat} (hij : i ≠ j) {w : List Nat} (hi : Ds (mk w : G M) i) (hj : Ds (mk w : G M) j) (k : Nat) :
    (M i j = 0 ∨ k ≤ M i j) → (∃ v, (mk (alt i j k ++ v) : G M) = mk w ∧ k + v.length = w.length) ∧ (∃ v, (mk (alt j i k ++ v) : G M) = mk w ∧ k + v.length = w.length) := by
  induction k with
  | zero => intro _; exact ⟨⟨w, rfl, by simp⟩, ⟨w, rfl, by simp⟩⟩
  | succ k ih =>
    intro hk
    obtain ⟨⟨v, h1, h2⟩, ⟨u, h3, h4⟩⟩ := ih (by omega)
    have hji : j ≠ i := fun e => hij e.symm
    exact ⟨two_step hM hji hi k (by rw [hM.symm]; exact hk) h3 h4, two_step hM hij hj k hk h1 h2⟩

/-- both letters can stand first: then a whole row of them can -/
theorem both (hM : Ords M) {i j : Nat} (hij : i ≠ j) {w : List Nat} (hi : Ds (mk w : G M) i) (hj : Ds (mk w : G M) j) :
    M i j ≠ 0 ∧ ∃ v, (mk (alt i j (M i j) ++ v) : G M) = mk w ∧ M i j + v.length = w.length := by
  constructor
  · intro h0
    obtain ⟨⟨v, _, h2⟩, _⟩ := two_down hM hij hi hj (w.length + 1) (.inl h0)
    omega
  · exact (two_down hM hij hi hj (M i j) (.inr (Nat.le_refl _))).1

theorem ds_iff {w : List Nat} (h : Red M w) (i : Nat) : Ds (mk w : G M) i ↔ ∃ v, v.length + 1 = w.length ∧ (mk (i :: v) : G M) = mk w := by
  constructor
  · exact ds_word
  · rintro ⟨v, hv, he⟩
    rw [← he]
    exact ds_of_head (red_same h he (by simpa using hv))

/-- the row breaks off: the letter can't stand first -/
theorem row_fails (hM : Ords M) {a x : Nat} (hax : a ≠ x) {w : List Nat} (hw : Red M w) (ha : Ds (mk w : G M) a) {t : Nat} (ht : t < M a x) {v : List Nat}
    (hv : (mk (alt a x t ++ v) : G M) = mk w) (hl : t + v.length = w.length) (hn : ¬ Ds (mk v : G M) (turn a x t)) : ¬ Ds (mk w : G M) x := by
  intro hx
  obtain ⟨_, y, hy, hyl⟩ := both hM hax ha hx
  have e : alt a x (M a x) = alt a x t ++ alt (turn a x t) (turn x a t) (M a x - t) := by
    rw [← alt_add]; congr 1; omega
  rw [e, List.append_assoc, ← hv, ← mk_mul, ← mk_mul (alt a x t) v] at hy
  have h1 := cancel_left hy
  apply hn
  have hr : Red M v := red_drop (red_same hw hv (by simp [alt_length]; omega))
  rw [ds_iff hr]
  obtain ⟨k, hk⟩ : ∃ k, M a x - t = k + 1 := ⟨M a x - t - 1, by omega⟩
  rw [hk] at h1
  refine ⟨alt (turn x a t) (turn a x t) k ++ y, ?_, ?_⟩
  · simp [alt_length]; omega
  · exact h1

/-- the first of the shortest words -/
inductive Greedy (M : Nat → Nat → Nat) : List Nat → Prop
  | nil : Greedy M []
  | cons {i : Nat} {w : List Nat} (hr : Red M (i :: w)) (hd : ∀ j, j < i → ¬ Ds (mk (i :: w) : G M) j) (hw : Greedy M w) : Greedy M (i :: w)

theorem Greedy.red {w : List Nat} (h : Greedy M w) : Red M w := by
  cases h with
  | nil => exact red_nil
  | cons hr _ _ => exact hr

theorem Greedy.unique {u : List Nat} : ∀ {w : List Nat}, Greedy M u → Greedy M w → (mk u : G M) = mk w → u = w := by
  induction u with
  | nil =>
    intro w _ hw he
    have := red_len red_nil hw.red he
    exact (List.length_eq_zero_iff.1 this.symm).symm
  | cons i u ih =>
    intro w hu hw he
    have hl := red_len hu.red hw.red he
    cases hw with
    | nil => simp at hl
    | cons hr hd hw =>
      rename_i j w
      cases hu with
      | cons hr' hd' hu =>
        have h1 := ds_of_head hr
        have h2 := ds_of_head hr'
        rw [← he] at h1 hd
        have hij : i = j := by
          rcases Nat.lt_trichotomy i j with h | h | h
          · exact absurd h2 (hd _ h)
          · exact h
          · exact absurd h1 (hd' _ h)
        subst hij
        rw [ih hu hw (cancel_left (x := mk [i]) he)]

theorem greedy_exists (x : G M) : ∃ w, mk w = x ∧ Greedy M w := by
  have least : ∀ (x : G M) n, Ds x n → ∃ i, Ds x i ∧ ∀ j, j < i → ¬ Ds x j := by
    intro x n
    induction n using Nat.strongRecOn with
    | ind n ih =>
      intro hn
      by_cases h : ∃ j, j < n ∧ Ds x j
      · obtain ⟨j, hj, hd⟩ := h
        exact ih j hj hd
      · exact ⟨n, hn, fun j hj hd => h ⟨j, hj, hd⟩⟩
  have key : ∀ n w, Red M w → w.length = n → ∃ v, (mk v : G M) = mk w ∧ Greedy M v := by
    intro n
    induction n with
    | zero => intro w _ hl; rw [List.length_eq_zero_iff.1 hl]; exact ⟨[], rfl, .nil⟩
    | succ n ih =>
      intro w hw hl
      cases w with
      | nil => simp at hl
      | cons i w =>
        obtain ⟨j, hj, hmin⟩ := least _ i (ds_of_head hw)
        obtain ⟨v, hv, he⟩ := ds_word hj
        have hr : Red M (j :: v) := red_same hw he (by simpa using hv)
        obtain ⟨y, hy, hg⟩ := ih v (red_tail hr) (by simp at hv hl; omega)
        have e2 : (mk (j :: y) : G M) = mk (i :: w) := by
          rw [← he, show (mk (j :: y) : G M) = mk [j] * mk y from rfl, hy]; rfl
        refine ⟨j :: y, e2, .cons (red_same hw e2 ?_) ?_ hg⟩
        · have := red_len hg.red (red_tail hr) hy
          simp at hv ⊢; omega
        · rw [e2]; exact hmin
  obtain ⟨w, hw, hr⟩ := red_exists x
  obtain ⟨v, hv, hg⟩ := key _ w hr rfl
  exact ⟨v, hv.trans hw, hg⟩

/-- the normal word -/
noncomputable def nf (x : G M) : List Nat := Classical.choose (greedy_exists x)

theorem mk_nf (x : G M) : mk (nf x) = x := (Classical.choose_spec (greedy_exists x)).1
theorem nf_greedy (x : G M) : Greedy M (nf x) := (Classical.choose_spec (greedy_exists x)).2
theorem nf_eq {w : List Nat} (h : Greedy M w) : nf (mk w : G M) = w := (nf_greedy _).unique h (mk_nf _)
theorem nf_inj {x y : G M} (h : nf x = nf y) : x = y := by rw [← mk_nf x, ← mk_nf y, h]
theorem nf_inj_iff {x y : G M} : nf x = nf y ↔ x = y := ⟨nf_inj, fun h => by rw [h]⟩

theorem Greedy.drop {u w : List Nat} (h : Greedy M (u ++ w)) : Greedy M w := by
  induction u with
  | nil => exact h
  | cons a u ih =>
    cases h with
    | cons _ _ hw => exact ih hw

theorem Greedy.take {u : List Nat} : ∀ {w : List Nat}, Greedy M (u ++ w) → Greedy M u := by
  induction u with
  | nil => intro w _; exact .nil
  | cons a u ih =>
    intro w h
    cases h with
    | cons hr hd hw =>
      have hr' : Red M (a :: u) := red_take (w := w) hr
      refine .cons hr' (fun j hj hn => hd j hj ?_) (ih hw)
      obtain ⟨v, hv, he⟩ := ds_word hn
      have e : (mk (j :: (v ++ w)) : G M) = mk (a :: (u ++ w)) := by
        show (mk ((j :: v) ++ w) : G M) = mk ((a :: u) ++ w)
        rw [← mk_mul, he, mk_mul]
      show Ds (mk (a :: (u ++ w)) : G M) j
      rw [← e]
      refine ds_of_head (red_same hr e ?_)
      simp at hv ⊢; omega

/-- n stands ahead of v, or is v: words of the same number of letters -/
def Ahead : List Nat → List Nat → Prop
  | [], _ => True
  | _ :: _, [] => False
  | a :: u, b :: v => a < b ∨ (a = b ∧ Ahead u v)

theorem Greedy.ahead {n : List Nat} : ∀ {v : List Nat}, Greedy M n → (mk v : G M) = mk n → v.length = n.length → Ahead n v := by
  induction n with
  | nil => intro v _ _ _; trivial
  | cons i n ih =>
    intro v hg he hl
    cases v with
    | nil => simp at hl
    | cons c v =>
      cases hg with
      | cons hr hd hg =>
        have hc : Ds (mk (i :: n) : G M) c := by
          rw [← he]; exact ds_of_head (red_same hr he hl)
        show i < c ∨ (i = c ∧ Ahead n v)
        rcases Nat.lt_trichotomy i c with h | h | h
        · exact .inl h
        · subst h
          exact .inr ⟨rfl, ih hg (cancel_left (x := mk [i]) he) (by simpa using hl)⟩
        · exact absurd hc (hd _ h)

/-- what bring does to a word: w before, y behind, b what it answers -/
structure Brought (M : Nat → Nat → Nat) (x : Nat) (w : List Nat) (b : Bool) (y : List Nat) : Prop where
  same : (mk y : G M) = mk w
  len : y.length = w.length
  yes : b = true → y.head? = some x
  no : b = false → ¬ Ds (mk w : G M) x ∧ y.head? = w.head?
  low : (∀ l ∈ w, l < 3) → ∀ l ∈ y, l < 3

theorem Brought.red {x : Nat} {w y : List Nat} {b : Bool} (h : Brought M x w b y) (hw : Red M w) : Red M y := red_same hw h.same h.len

theorem brought_nil (x : Nat) : Brought M x [] false [] := ⟨rfl, rfl, fun h => by (cases h), fun _ => ⟨not_ds_nil x, rfl⟩, fun h => h⟩
theorem brought_head (x : Nat) (w : List Nat) : Brought M x (x :: w) true (x :: w) := ⟨rfl, rfl, fun _ => rfl, fun h => by (cases h), fun h => h⟩
theorem brought_zero (hM : Ords M) {a x : Nat} (hax : a ≠ x) (h0 : M a x = 0) {w : List Nat} (hw : Red M (a :: w)) : Brought M x (a :: w) false (a :: w) :=
  ⟨rfl, rfl, fun h => by (cases h), fun _ => ⟨fun hx => (both hM hax (ds_of_head hw) hx).1 h0, rfl⟩, fun h => h⟩

theorem alt_low {a x : Nat} (ha : a < 3) (hx : x < 3) (k : Nat) : ∀ l ∈ alt a x k, l < 3 := by
  have key : ∀ k a x, a < 3 → x < 3 → ∀ l ∈ alt a x k, l < 3 := by
    intro k
    induction k with
    | zero => intro a x _ _ l h; cases h
    | succ k ih =>
      intro a x ha hx l h
      rcases List.mem_cons.1 h with rfl | h
      · exact ha
      · exact ih x a hx ha l h
  exact key k a x ha hx

/-- one more letter of the row: the state of the loop in bring -/
structure Rowed (M : Nat → Nat → Nat) (a x : Nat) (w : List Nat) (t : Nat) (v : List Nat) : Prop where
  same : (mk (alt a x t ++ v) : G M) = mk w
  len : t + v.length = w.length
  low : (∀ l ∈ w, l < 3) → ∀ l ∈ v, l < 3

theorem rowed_start (a x : Nat) (w : List Nat) : Rowed M a x w 0 w := ⟨rfl, by simp, fun h => h⟩

theorem Rowed.red {a x : Nat} {w v : List Nat} {t : Nat} (h : Rowed M a x w t v) (hw : Red M w) : Red M v :=
  red_drop (u := alt a x t) (red_same hw h.same (by simp [alt_length, h.len]))

theorem Rowed.next {a x : Nat} {w v y : List Nat} {t : Nat} (h : Rowed M a x w t v) (hb : Brought M (turn a x t) v true y) :
    ∃ y', y = turn a x t :: y' ∧ Rowed M a x w (t + 1) y' := by
  have h1 := hb.yes rfl
  cases y with
  | nil => simp at h1
  | cons c y' =>
    simp only [List.head?_cons, Option.some.injEq] at h1
    subst h1
    refine ⟨y', rfl, ?_, ?_, ?_⟩
    · have e : alt a x (t + 1) ++ y' = alt a x t ++ (turn a x t :: y') := by rw [alt_snoc, List.append_assoc]; rfl
      rw [e, ← mk_mul, hb.same, mk_mul, h.same]
    · have := hb.len
      have := h.len
      simp at *; omega
    · intro hl l hm
      exact hb.low (h.low hl) l (List.mem_cons_of_mem _ hm)

theorem Rowed.fails (hM : Ords M) {a x : Nat} (hax : a ≠ x) {w v y : List Nat} {t : Nat} (hw : Red M (a :: w)) (ht : t < M a x) (h : Rowed M a x (a :: w) (t) v)
    (hb : Brought M (turn a x t) v false y) (h0 : 0 < t) (hx : x < 3) : Brought M x (a :: w) false (alt a x t ++ y) where
  same := by rw [← mk_mul, hb.same, mk_mul, h.same]
  len := by
    have := h.len
    have := hb.len
    simp [alt_length] at *; omega
  yes := fun h => by cases h
  no := fun _ => by
    refine ⟨row_fails hM hax hw (ds_of_head hw) ht h.same h.len (hb.no rfl).1, ?_⟩
    obtain ⟨k, rfl⟩ : ∃ k, t = k + 1 := ⟨t - 1, by omega⟩
    rfl
  low := fun hl l hm => by
    rcases List.mem_append.1 hm with h1 | h1
    · exact alt_low (hl a (List.mem_cons_self)) hx t l h1
    · exact hb.low (h.low hl) l h1

theorem Rowed.done {a x : Nat} {w v : List Nat} (h0 : M a x ≠ 0) (h : Rowed M a x w (M a x) v) (hx : x < 3) (ha : a < 3) : Brought M x w true (alt x a (M a x) ++ v) where
  same := by
    rw [← h.same, ← mk_mul, ← mk_mul, mk_alt a x]
  len := by
    have := h.len
    simp [alt_length]; omega
  yes := fun _ => by
    obtain ⟨k, hk⟩ : ∃ k, M a x = k + 1 := ⟨M a x - 1, by omega⟩
    rw [hk]; rfl
  no := fun h => by cases h
  low := fun hl l hm => by
    rcases List.mem_append.1 hm with h1 | h1
    · exact alt_low hx ha _ l h1
    · exact h.low hl l h1

/-- a letter ahead of a shortest word -/
theorem put_yes {x : Nat} {w y : List Nat} (hw : Red M w) (hb : Brought M x w true y) : ∃ y', y = x :: y' ∧ Red M y' ∧ (mk y' : G M) = mk (x :: w) ∧ y'.length + 1 = w.length := by
  have h1 := hb.yes rfl
  cases y with
  | nil => simp at h1
  | cons c y' =>
    simp only [List.head?_cons, Option.some.injEq] at h1
    subst h1
    refine ⟨y', rfl, red_tail (hb.red hw), ?_, by have := hb.len; simpa using this⟩
    rw [show (mk (c :: w) : G M) = mk [c] * mk w from rfl, ← hb.same, show (mk (c :: y') : G M) = mk [c] * mk y' from rfl, let_two]

theorem put_no {x : Nat} {w y : List Nat} (hw : Red M w) (hb : Brought M x w false y) : Red M (x :: y) ∧ (mk (x :: y) : G M) = mk (x :: w) := by
  refine ⟨red_cons (hb.red hw) ?_, ?_⟩
  · rw [hb.same]; exact (hb.no rfl).1
  · rw [show (mk (x :: y) : G M) = mk [x] * mk y from rfl, hb.same]; rfl

end
end Go.Proofs.Ytogchohpnbeldaa.Cx
