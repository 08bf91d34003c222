/- Two letters turn as often as they should: a row of numbers modulo a prime that steps leave alone. -/
import Derived.Test.YtogchohpnbeldaaCox1
namespace Go.Proofs.Ytogchohpnbeldaa.Cx

/-- a prime less 1 is a multiple of all orders, twice -/
abbrev F := Fin 55441

/-- a root's sum with its inverse, of the order 2 m -/
def cos2 : Nat → F
  | 2 => 0
  | 3 => 1
  | 4 => 10826
  | 5 => 13401
  | 6 => 21173
  | 7 => 26068
  | 8 => 23056
  | 9 => 49020
  | 10 => 38637
  | 11 => 727
  | 12 => 18315
  | _ => 0

/-- what is added to a neighbour: a multiple, or the row one place on -/
def scale (m : Nat) (f : Nat → F) : Nat → F :=
  if m = 0 then fun n => match n with | 0 => 0 | n + 1 => f n else fun n => cos2 m * f n

theorem scale_add (m : Nat) (f g : Nat → F) (n : Nat) : scale m (fun n => f n + g n) n = scale m f n + scale m g n := by
  unfold scale
  by_cases h : m = 0
  · simp only [h, if_true]
    cases n with
    | zero => simp
    | succ n => rfl
  · simp only [h, if_false]; grind
theorem scale_neg (m : Nat) (f : Nat → F) (n : Nat) : scale m (fun n => - f n) n = - scale m f n := by
  unfold scale
  by_cases h : m = 0
  · simp only [h, if_true]
    cases n with
    | zero => show (0 : F) = - 0; grind
    | succ n => rfl
  · simp only [h, if_false]; grind
theorem scale_zero (m : Nat) (n : Nat) : scale m (fun _ => 0) n = 0 := by
  unfold scale
  by_cases h : m = 0
  · simp only [h, if_true]
    cases n <;> rfl
  · simp only [h, if_false]; grind

/-- heights above mirrors -/
abbrev V := Nat → Nat → F

/-- the reflection at the mirror s -/
def S (M : Nat → Nat → Nat) (s : Nat) (h : V) : V := fun j n => if j = s then - h s n else h j n + scale (M s j) (h s) n

def act (M : Nat → Nat → Nat) (w : List Nat) (h : V) : V := w.foldl (fun h s => S M s h) h

theorem act_append (M : Nat → Nat → Nat) (u v : List Nat) (h : V) : act M (u ++ v) h = act M v (act M u h) := by
  unfold act; rw [List.foldl_append]

theorem S_two (M : Nat → Nat → Nat) (s : Nat) (h : V) : S M s (S M s h) = h := by
  funext j n
  unfold S
  by_cases e : j = s
  · subst e; simp only [if_true]; grind
  · simp only [e, if_false, if_true]
    rw [scale_neg]; grind

/-- two heights and the sums of what is added to others, as multiples of the two heights at the beginning -/
structure Four where
  a : F × F
  b : F × F
  p : F × F
  q : F × F
deriving DecidableEq

def Four.i (c : F) (x : Four) : Four := { a := (- x.a.1, - x.a.2), b := (x.b.1 + c * x.a.1, x.b.2 + c * x.a.2), p := (x.p.1 + x.a.1, x.p.2 + x.a.2), q := x.q }
def Four.j (c : F) (x : Four) : Four := { b := (- x.b.1, - x.b.2), a := (x.a.1 + c * x.b.1, x.a.2 + c * x.b.2), q := (x.q.1 + x.b.1, x.q.2 + x.b.2), p := x.p }

/-- k turns, first at i (true) or at j -/
def run (c : F) : Nat → Bool → Four → Four
  | 0, _, x => x
  | k + 1, true, x => run c k false (x.i c)
  | k + 1, false, x => run c k true (x.j c)

def start : Four := ⟨(1, 0), (0, 1), (0, 0), (0, 0)⟩

def of (x : F × F) (f g : Nat → F) : Nat → F := fun n => x.1 * f n + x.2 * g n

/-- the heights that four say -/
def said (M : Nat → Nat → Nat) (i j : Nat) (h : V) (x : Four) : V := fun l =>
  if l = i then of x.a (h i) (h j) else if l = j then of x.b (h i) (h j)
  else fun n => h l n + scale (M i l) (of x.p (h i) (h j)) n + scale (M j l) (of x.q (h i) (h j)) n

theorem scale_of_add (m : Nat) (x y : F × F) (f g : Nat → F) (n : Nat) :
    scale m (of (x.1 + y.1, x.2 + y.2) f g) n = scale m (of x f g) n + scale m (of y f g) n := by
  rw [← scale_add]
  congr 1
  funext n
  unfold of
  grind

theorem said_start (M : Nat → Nat → Nat) (i j : Nat) (h : V) : said M i j h start = h := by
  funext l n
  unfold said start
  have e0 : of (0, 0) (h i) (h j) = fun _ => 0 := by funext n; unfold of; grind
  by_cases e : l = i
  · subst e; simp only [if_true]; unfold of; grind
  · by_cases e' : l = j
    · subst e'; simp only [e, if_false, if_true]; unfold of; grind
    · simp only [e, e', if_false, e0]
      rw [scale_zero, scale_zero]; grind

theorem said_i (M : Nat → Nat → Nat) (i j : Nat) (hij : i ≠ j) (hm : M i j ≠ 0) (h : V) (x : Four) :
    S M i (said M i j h x) = said M i j h (x.i (cos2 (M i j))) := by
  funext l n
  unfold S said Four.i
  by_cases e : l = i
  · subst e; simp only [if_true]; unfold of; grind
  · by_cases e' : l = j
    · subst e'
      simp only [e, if_false, if_true]
      unfold scale
      simp only [hm, if_false]
      unfold of; grind
    · simp only [e, e', if_false, if_true]
      rw [scale_of_add]; grind

theorem said_j (M : Nat → Nat → Nat) (hs : ∀ i j, M i j = M j i) (i j : Nat) (hij : i ≠ j) (hm : M i j ≠ 0) (h : V) (x : Four) :
    S M j (said M i j h x) = said M i j h (x.j (cos2 (M i j))) := by
  funext l n
  unfold S said Four.j
  have hji : ¬ j = i := fun e => hij e.symm
  by_cases e' : l = j
  · subst e'; simp only [hji, if_false, if_true]; unfold of; grind
  · by_cases e : l = i
    · subst e
      simp only [e', hji, if_false, if_true]
      rw [hs j l]
      unfold scale
      simp only [hm, if_false]
      unfold of; grind
    · simp only [e, e', hji, if_false, if_true]
      rw [scale_of_add]; grind

theorem act_alt (M : Nat → Nat → Nat) (hs : ∀ i j, M i j = M j i) (i j : Nat) (hij : i ≠ j) (hm : M i j ≠ 0) (h : V) (k : Nat) : ∀ x : Four,
    act M (alt i j k) (said M i j h x) = said M i j h (run (cos2 (M i j)) k true x) ∧
    act M (alt j i k) (said M i j h x) = said M i j h (run (cos2 (M i j)) k false x) := by
  induction k with
  | zero => intro x; exact ⟨rfl, rfl⟩
  | succ k ih =>
    intro x
    constructor
    · show act M (alt j i k) (S M i (said M i j h x)) = _
      rw [said_i M i j hij hm, (ih _).2]; rfl
    · show act M (alt i j k) (S M j (said M i j h x)) = _
      rw [said_j M hs i j hij hm, (ih _).1]; rfl

theorem run_turn : ∀ m, m < 13 → 2 ≤ m → run (cos2 m) m true start = run (cos2 m) m false start := by decide +kernel

theorem run_less' : ∀ m : Fin 13, ∀ k : Fin 13, 2 ≤ m.val → k.val < m.val → 0 < k.val → ¬ ((run (cos2 m.val) (2 * k.val) true start).a = (1, 0) ∧ (run (cos2 m.val) (2 * k.val) true start).b = (0, 1)) := by decide +kernel
theorem run_less (m : Nat) (h : m < 13) (h2 : 2 ≤ m) (k : Nat) (hk : k < m) (h0 : 0 < k) : ¬ ((run (cos2 m) (2 * k) true start).a = (1, 0) ∧ (run (cos2 m) (2 * k) true start).b = (0, 1)) :=
  run_less' ⟨m, h⟩ ⟨k, by omega⟩ h2 hk h0

/-- orders of a triangle -/
structure Ords (M : Nat → Nat → Nat) : Prop where
  symm : ∀ i j, M i j = M j i
  range : ∀ i j, i ≠ j → M i j = 0 ∨ (2 ≤ M i j ∧ M i j ≤ 12)

theorem act_br {M : Nat → Nat → Nat} (hM : Ords M) (i j : Nat) (h : V) : act M (alt i j (M i j)) h = act M (alt j i (M i j)) h := by
  by_cases hij : i = j
  · subst hij; rfl
  · rcases hM.range i j hij with h0 | ⟨h2, h12⟩
    · rw [h0]; rfl
    · have := act_alt M hM.symm i j hij (by omega) h (M i j) start
      rw [said_start] at this
      rw [this.1, this.2, run_turn _ (by omega) h2]

theorem act_step {M : Nat → Nat → Nat} (hM : Ords M) {u v : List Nat} (h : Step M u v) : act M u = act M v := by
  funext x
  cases h with
  | sq a b i =>
    rw [act_append, act_append]
    show act M b (S M i (S M i _)) = _
    rw [S_two]
  | br a b i j =>
    rw [act_append, act_append, act_append, act_append, act_br hM]

theorem act_mk {M : Nat → Nat → Nat} (hM : Ords M) {u v : List Nat} (h : (mk u : G M) = mk v) : act M u = act M v := by
  have := congrArg (Quot.lift (fun w => act M w) (fun _ _ h => act_step hM h)) h
  exact this

/-- the highest place of x is d, y's is less -/
def High (d : Nat) (x y : Nat → F) : Prop := x d ≠ 0 ∧ (∀ n, d < n → x n = 0) ∧ ∀ n, d ≤ n → y n = 0

theorem high_step {M : Nat → Nat → Nat} {i j : Nat} (hij : i ≠ j) (h0 : M i j = 0) (h : V) (d : Nat) (hd : High d (h i) (h j)) :
    High (d + 1) (S M i h j) (S M i h i) := by
  have hji : ¬ j = i := fun e => hij e.symm
  obtain ⟨h1, h2, h3⟩ := hd
  unfold High S
  simp only [hji, if_false, if_true]
  rw [h0]
  unfold scale
  simp only [if_true]
  refine ⟨?_, ?_, ?_⟩
  · rw [h3 (d + 1) (by omega)]
    simpa using h1
  · intro n hn
    obtain ⟨k, rfl⟩ : ∃ k, n = k + 1 := ⟨n - 1, by omega⟩
    simp only
    rw [h3 (k + 1) (by omega), h2 k (by omega)]; rfl
  · intro n hn
    rw [h2 n (by omega)]; rfl

theorem high_alt {M : Nat → Nat → Nat} (hM : Ords M) (k : Nat) : ∀ {i j : Nat}, i ≠ j → M i j = 0 → ∀ (h : V) (d : Nat), High d (h i) (h j) →
    ∃ x y, High (d + k) (act M (alt i j k) h x) (act M (alt i j k) h y) ∧ x = turn i j k := by
  induction k with
  | zero => intro i j hij h0 h d hd; exact ⟨i, j, hd, rfl⟩
  | succ k ih =>
    intro i j hij h0 h d hd
    obtain ⟨x, y, h1, h2⟩ := ih (fun e => hij e.symm) (by rw [hM.symm]; exact h0) (S M i h) (d + 1) (high_step hij h0 h d hd)
    refine ⟨x, y, ?_, ?_⟩
    · rw [show d + (k + 1) = d + 1 + k by omega]; exact h1
    · rw [h2, ← turn_swap]

/-- two letters turn as often as they should -/
theorem alt_exact {M : Nat → Nat → Nat} (hM : Ords M) {i j : Nat} (hij : i ≠ j) {k : Nat} (hk : 0 < k) (hm : M i j = 0 ∨ k < M i j) : (mk (alt i j (2 * k)) : G M) ≠ mk [] := by
  intro h
  have ha := act_mk hM h
  by_cases h0 : M i j = 0
  · let v : V := fun l n => if l = i ∧ n = 0 then 1 else 0
    have hv : High 0 (v i) (v j) := by
      refine ⟨by simp [v], fun n hn => ?_, fun n hn => ?_⟩
      · have : ¬ n = 0 := by omega
        simp [v, this]
      · have : ¬ j = i := fun e => hij e.symm
        simp [v, this]
    obtain ⟨x, y, h1, h2⟩ := high_alt hM (2 * k) hij h0 v 0 hv
    rw [ha] at h1
    have hx := h1.1
    have : ¬ 0 + 2 * k = 0 := by omega
    apply hx
    show (if x = i ∧ 0 + 2 * k = 0 then (1 : F) else 0) = 0
    rw [if_neg (fun e => this e.2)]
  · rcases hM.range i j hij with h0' | ⟨h2, h12⟩
    · exact h0 h0'
    · have hk' : k < M i j := by omega
      have hji : ¬ j = i := fun e => hij e.symm
      have get : ∀ h : V, said M i j h (run (cos2 (M i j)) (2 * k) true start) = h := by
        intro h
        have := (act_alt M hM.symm i j hij h0 h (2 * k) start).1
        rw [said_start, ha] at this
        exact this.symm
      refine run_less _ (by omega) h2 k hk' hk ⟨?_, ?_⟩
      · have a1 := congrFun (congrFun (get (fun l _ => if l = i then 1 else 0)) i) 0
        have a2 := congrFun (congrFun (get (fun l _ => if l = j then 1 else 0)) i) 0
        unfold said of at a1 a2
        simp only [if_true, hij, hji, if_false] at a1 a2
        apply Prod.ext
        · grind
        · grind
      · have a1 := congrFun (congrFun (get (fun l _ => if l = i then 1 else 0)) j) 0
        have a2 := congrFun (congrFun (get (fun l _ => if l = j then 1 else 0)) j) 0
        unfold said of at a1 a2
        simp only [if_true, hij, hji, if_false] at a1 a2
        apply Prod.ext
        · grind
        · grind

end Go.Proofs.Ytogchohpnbeldaa.Cx
