/- Normal words, reckoned. -/
import Derived.Test.YtogchohpnbeldaaCox3
namespace Go.Proofs.Ytogchohpnbeldaa.Cx

/-- the row, letter by letter: br brings a letter to the front -/
def rowL (br : Nat → List Nat → Bool × List Nat) (a x : Nat) : Nat → Nat → List Nat → Bool × List Nat
  | 0, _, v => (true, v)
  | n + 1, t, v =>
    match br (turn a x t) v with
    | (true, c :: v') => match rowL br a x n (t + 1) v' with
      | (true, z) => (true, z)
      | (false, z) => (false, c :: z)
    | (_, y) => (false, y)

/-- bring -/
def bringL (M : Nat → Nat → Nat) : Nat → Nat → List Nat → Bool × List Nat
  | 0, _, w => (false, w)
  | _ + 1, _, [] => (false, [])
  | f + 1, x, a :: w =>
    if a = x then (true, a :: w) else if M a x = 0 then (false, a :: w) else
      match rowL (bringL M f) a x (M a x - 1) 1 w with
      | (true, v) => (true, alt x a (M a x) ++ v)
      | (false, y) => (false, a :: y)

section
variable {M : Nat → Nat → Nat}

theorem rowL_ok (hM : Ords M) {a x : Nat} (hax : a ≠ x) (hx : x < 3) {w : List Nat} (hw : Red M (a :: w)) (hlow : ∀ y ∈ a :: w, y < 3) {br : Nat → List Nat → Bool × List Nat} (n0 : Nat)
    (hbr : ∀ y v, v.length ≤ n0 → y < 3 → (∀ z ∈ v, z < 3) → Red M v → Brought M y v (br y v).1 (br y v).2) : ∀ (n t : Nat) (v : List Nat), n + t = M a x → 0 < t → v.length ≤ n0 → Rowed M a x (a :: w) t v →
    ((rowL br a x n t v).1 = true → Brought M x (a :: w) true (alt x a (M a x) ++ (rowL br a x n t v).2)) ∧
    ((rowL br a x n t v).1 = false → Brought M x (a :: w) false (alt a x t ++ (rowL br a x n t v).2)) := by
  have ha : a < 3 := hlow a List.mem_cons_self
  intro n
  induction n with
  | zero =>
    intro t v hn ht hv hr
    obtain rfl : t = M a x := by omega
    exact ⟨fun _ => hr.done (by omega) hx ha, fun h => by cases h⟩
  | succ n ih =>
    intro t v hn ht hv hr
    have ht3 : turn a x t < 3 := by unfold turn; split <;> assumption
    have hb := hbr (turn a x t) v hv ht3 (hr.low hlow) (hr.red hw)
    unfold rowL
    rcases hbe : br (turn a x t) v with ⟨b, y⟩
    rw [hbe] at hb
    cases b with
    | false => exact ⟨(fun h => by cases h), fun _ => hr.fails hM hax hw (by omega) hb ht hx⟩
    | true =>
      obtain ⟨y', hy, hnext⟩ := hr.next hb
      simp only at hy
      subst hy
      have hl := hb.len
      have := ih (t + 1) y' (by omega) (by omega) (by simp at hl; omega) hnext
      rcases hre : rowL br a x n (t + 1) y' with ⟨b2, z⟩
      rw [hre] at this
      simp only [hre]
      cases b2 with
      | true => exact ⟨fun _ => this.1 rfl, (fun h => by cases h)⟩
      | false =>
        refine ⟨(fun h => by cases h), fun _ => ?_⟩
        have h2 := this.2 rfl
        rw [alt_snoc, List.append_assoc] at h2
        exact h2

theorem bringL_ok (hM : Ords M) : ∀ (f x : Nat) (w : List Nat), w.length ≤ f → x < 3 → (∀ y ∈ w, y < 3) → Red M w → Brought M x w (bringL M f x w).1 (bringL M f x w).2 := by
  intro f
  induction f with
  | zero =>
    intro x w hf _ _ _
    obtain rfl : w = [] := List.length_eq_zero_iff.1 (by omega)
    exact brought_nil x
  | succ f ih =>
    intro x w hf hx hlow hw
    cases w with
    | nil => exact brought_nil x
    | cons a w =>
      unfold bringL
      by_cases hax : a = x
      · rw [if_pos hax]; subst hax; exact brought_head a w
      · rw [if_neg hax]
        by_cases h0 : M a x = 0
        · rw [if_pos h0]; exact brought_zero hM hax h0 hw
        · rw [if_neg h0]
          have hrow : Rowed M a x (a :: w) 1 w := ⟨rfl, by simp; omega, fun h l hl => h l (List.mem_cons_of_mem _ hl)⟩
          have := rowL_ok hM hax hx hw hlow (br := bringL M f) f (fun y v hv hy hl hr => ih y v hv hy hl hr) (M a x - 1) 1 w (by omega) (by omega) (by simpa using hf) hrow
          rcases hre : rowL (bringL M f) a x (M a x - 1) 1 w with ⟨b, z⟩
          rw [hre] at this
          cases b with
          | true => exact this.1 rfl
          | false => exact this.2 rfl

/-- a letter ahead of a shortest word -/
def putL (M : Nat → Nat → Nat) (x : Nat) (l : List Nat) : List Nat :=
  match bringL M l.length x l with
  | (true, _ :: y) => y
  | (_, y) => x :: y

theorem putL_ok (hM : Ords M) {x : Nat} {l : List Nat} (hx : x < 3) (hlow : ∀ y ∈ l, y < 3) (hr : Red M l) : Red M (putL M x l) ∧ (mk (putL M x l) : G M) = mk (x :: l) ∧ ∀ y ∈ putL M x l, y < 3 := by
  have hb := bringL_ok hM l.length x l (Nat.le_refl _) hx hlow hr
  unfold putL
  rcases hre : bringL M l.length x l with ⟨b, z⟩
  rw [hre] at hb
  cases b with
  | true =>
    obtain ⟨y', hy, h1, h2, _⟩ := put_yes hr hb
    simp only at hy
    subst hy
    exact ⟨h1, h2, fun y hy => hb.low hlow y (List.mem_cons_of_mem _ hy)⟩
  | false =>
    obtain ⟨h1, h2⟩ := put_no hr hb
    refine ⟨h1, h2, fun y hy => ?_⟩
    rcases List.mem_cons.1 hy with rfl | hy
    · exact hx
    · exact hb.low hlow y hy

/-- a shortest word -/
def madeL (M : Nat → Nat → Nat) (w : List Nat) : List Nat := w.foldr (putL M) []

theorem madeL_ok (hM : Ords M) {w : List Nat} (hlow : ∀ y ∈ w, y < 3) : Red M (madeL M w) ∧ (mk (madeL M w) : G M) = mk w ∧ ∀ y ∈ madeL M w, y < 3 := by
  induction w with
  | nil => exact ⟨red_nil, rfl, fun y hy => by cases hy⟩
  | cons x w ih =>
    obtain ⟨h1, h2, h3⟩ := ih (fun y hy => hlow y (List.mem_cons_of_mem _ hy))
    obtain ⟨g1, g2, g3⟩ := putL_ok hM (hlow x List.mem_cons_self) h3 h1
    refine ⟨g1, g2.trans ?_, g3⟩
    show (mk ([x] ++ madeL M w) : G M) = mk ([x] ++ w)
    exact (by rw [← mk_mul, ← mk_mul, h2])

/-- the first of these letters that can stand first is brought there -/
def tryL (M : Nat → Nat → Nat) (n : Nat) : List Nat → List Nat → List Nat
  | [], l => l
  | k :: ks, l =>
    match bringL M n k l with
    | (true, y) => y
    | (false, y) => tryL M n ks y

/-- the normal word of a shortest word -/
def normL (M : Nat → Nat → Nat) : Nat → List Nat → List Nat
  | 0, _ => []
  | _ + 1, [] => []
  | n + 1, f :: l =>
    match tryL M (n + 1) (List.range f) (f :: l) with
    | [] => []
    | c :: y => c :: normL M n y

theorem tryL_ok (hM : Ords M) {n f : Nat} : ∀ (m k : Nat) (l l0 : List Nat), k + m = f → l.length ≤ n → f < 3 → (∀ y ∈ l, y < 3) → Red M l → l.head? = some f → (mk l : G M) = mk l0 → l.length = l0.length → (∀ j, j < k → ¬ Ds (mk l0 : G M) j) →
    ∃ c y, tryL M n (List.range' k m) l = c :: y ∧ (mk (c :: y) : G M) = mk l0 ∧ (c :: y).length = l0.length ∧ (∀ z ∈ c :: y, z < 3) ∧ ∀ j, j < c → ¬ Ds (mk l0 : G M) j := by
  intro m
  induction m with
  | zero =>
    intro k l l0 hk hn hf hlow hr hh hs hl hd
    cases l with
    | nil => cases hh
    | cons c y =>
      simp only [List.head?_cons, Option.some.injEq] at hh
      subst hh
      exact ⟨c, y, rfl, hs, hl, hlow, fun j hj => hd j (by omega)⟩
  | succ m ih =>
    intro k l l0 hk hn hf hlow hr hh hs hl hd
    have hb := bringL_ok hM n k l hn (by omega) hlow hr
    rw [List.range'_succ]
    unfold tryL
    rcases hre : bringL M n k l with ⟨b, z⟩
    rw [hre] at hb
    cases b with
    | true =>
      have h1 := hb.yes rfl
      simp only at h1
      cases z with
      | nil => cases h1
      | cons c y =>
        simp only [List.head?_cons, Option.some.injEq] at h1
        subst h1
        exact ⟨c, y, rfl, hb.same.trans hs, hb.len.trans hl, hb.low hlow, hd⟩
    | false =>
      refine ih (k + 1) z l0 (by omega) (by have := hb.len; simp at this; omega) hf (hb.low hlow) (hb.red hr) ?_ (hb.same.trans hs) (hb.len.trans hl) (fun j hj => ?_)
      · rw [← hh]; exact (hb.no rfl).2
      · rcases Nat.lt_or_ge j k with h | h
        · exact hd j h
        · obtain rfl : j = k := by omega
          rw [← hs]; exact (hb.no rfl).1

theorem normL_ok (hM : Ords M) : ∀ (n : Nat) (l : List Nat), l.length ≤ n → (∀ y ∈ l, y < 3) → Red M l → Greedy M (normL M n l) ∧ (mk (normL M n l) : G M) = mk l := by
  intro n
  induction n with
  | zero =>
    intro l hl _ _
    obtain rfl : l = [] := List.length_eq_zero_iff.1 (by omega)
    exact ⟨.nil, rfl⟩
  | succ n ih =>
    intro l hl hlow hr
    cases l with
    | nil => exact ⟨.nil, rfl⟩
    | cons f l =>
      obtain ⟨c, y, h1, h2, h3, h4, h5⟩ := tryL_ok hM (n := n + 1) (f := f) f 0 (f :: l) (f :: l) (by omega) hl (hlow f List.mem_cons_self) hlow hr rfl rfl rfl (fun j hj => by omega)
      have hrange : List.range f = List.range' 0 f := List.range_eq_range'
      have hcy : Red M (c :: y) := red_same hr h2 h3
      obtain ⟨g1, g2⟩ := ih y (by simp at h3 hl; omega) (fun z hz => h4 z (List.mem_cons_of_mem _ hz)) (red_tail hcy)
      unfold normL
      rw [hrange, h1]
      have e : (mk (c :: normL M n y) : G M) = mk (c :: y) := by
        show (mk ([c] ++ normL M n y) : G M) = mk ([c] ++ y)
        rw [← mk_mul, ← mk_mul, g2]
      refine ⟨.cons (red_same hcy e ?_) (fun j hj => ?_) g1, e.trans h2⟩
      · have := red_len g1.red (red_tail hcy) g2
        simp; omega
      · rw [e, h2]; exact h5 j hj

/-- the normal word, reckoned -/
def nfL (M : Nat → Nat → Nat) (w : List Nat) : List Nat := normL M (madeL M w).length (madeL M w)

theorem nfL_eq (hM : Ords M) {w : List Nat} (hlow : ∀ y ∈ w, y < 3) : nf (mk w : G M) = nfL M w := by
  obtain ⟨h1, h2, h3⟩ := madeL_ok hM hlow
  obtain ⟨g1, g2⟩ := normL_ok hM (madeL M w).length (madeL M w) (Nat.le_refl _) h3 h1
  rw [← h2, ← g2]
  exact nf_eq g1

theorem one_iff (hM : Ords M) {w : List Nat} (hlow : ∀ y ∈ w, y < 3) : (mk w : G M) = mk [] ↔ madeL M w = [] := by
  obtain ⟨h1, h2, h3⟩ := madeL_ok hM hlow
  constructor
  · intro h
    have := red_len h1 red_nil (h2.trans h)
    exact List.length_eq_zero_iff.1 this
  · intro h
    rw [← h2, h]
end
end Go.Proofs.Ytogchohpnbeldaa.Cx
