/- Products of sequences; vectors of three sequences, moved by letters. -/
import Derived.Test.YtogchohpnbeldaaTor1
namespace Go.Proofs.Ytogchohpnbeldaa.Rs

theorem mul_in {x y a b : Rat} (hx : -a < x ∧ x < a) (hy : -b < y ∧ y < b) : -(a * b) < x * y ∧ x * y < a * b := by
  have h1 : 0 < (a - x) * (b + y) := Rat.mul_pos (by grind) (by grind)
  have h2 : 0 < (a + x) * (b - y) := Rat.mul_pos (by grind) (by grind)
  have h3 : 0 < (a - x) * (b - y) := Rat.mul_pos (by grind) (by grind)
  have h4 : 0 < (a + x) * (b + y) := Rat.mul_pos (by grind) (by grind)
  constructor <;> grind

/-- it is bounded from some place on -/
def Bnd (f : Nat → Rat) : Prop := ∃ B : Rat, 0 < B ∧ ∃ N, ∀ n, N ≤ n → -B < f n ∧ f n < B

theorem Set.bnd {f : Nat → Rat} (hf : Set f) : Bnd f := by
  obtain ⟨N, h⟩ := hf 1 (by grind)
  by_cases h0 : 0 ≤ f N
  · refine ⟨f N + 1, by grind, N, fun n hn => ?_⟩
    have a := h n N hn (Nat.le_refl _)
    have b := h N n (Nat.le_refl _) hn
    constructor <;> grind
  · refine ⟨1 - f N, by grind, N, fun n hn => ?_⟩
    have a := h n N hn (Nat.le_refl _)
    have b := h N n (Nat.le_refl _) hn
    constructor <;> grind

theorem Nul.mul {f g : Nat → Rat} (hf : Nul f) (hg : Bnd g) : Nul (fun n => f n * g n) := by
  intro e he
  obtain ⟨B, hB, M, h2⟩ := hg
  have hd : 0 < e / B := by
    rw [Rat.div_def]; exact Rat.mul_pos he (Rat.inv_pos.2 hB)
  obtain ⟨N, h1⟩ := hf _ hd
  refine ⟨N + M, fun n hn => ?_⟩
  have h := mul_in (h1 n (by omega)) (h2 n (by omega))
  have he2 : e / B * B = e := by
    rw [Rat.div_def, Rat.mul_assoc, Rat.inv_mul_cancel _ (by grind), Rat.mul_one]
  rw [he2] at h
  exact h

theorem Set.nul_add {f g : Nat → Rat} (hf : Set f) (hg : Nul g) : Set (fun n => f n + g n) := by
  intro e he
  obtain ⟨N, h1⟩ := hf _ (half_pos he)
  obtain ⟨M, h2⟩ := hg (e / 4) (by grind)
  refine ⟨N + M, fun n m hn hm => ?_⟩
  have a := h1 n m (by omega) (by omega)
  have b := h2 n (by omega)
  have c := h2 m (by omega)
  show f n + g n - (f m + g m) < e
  grind

theorem Set.mul {f g : Nat → Rat} (hf : Set f) (hg : Set g) : Set (fun n => f n * g n) := by
  intro e he
  obtain ⟨A, hA, Na, ha⟩ := hf.bnd
  obtain ⟨B, hB, Nb, hb⟩ := hg.bnd
  have hdA : 0 < e / 4 / A := by rw [Rat.div_def]; exact Rat.mul_pos (by grind) (Rat.inv_pos.2 hA)
  have hdB : 0 < e / 4 / B := by rw [Rat.div_def]; exact Rat.mul_pos (by grind) (Rat.inv_pos.2 hB)
  obtain ⟨N, h1⟩ := hf _ hdB
  obtain ⟨M, h2⟩ := hg _ hdA
  refine ⟨N + M + Na + Nb, fun n m hn hm => ?_⟩
  have x1 := h1 n m (by omega) (by omega)
  have x2 := h1 m n (by omega) (by omega)
  have y1 := h2 n m (by omega) (by omega)
  have y2 := h2 m n (by omega) (by omega)
  have p := mul_in (x := f n - f m) (y := g n) (a := e / 4 / B) (b := B) ⟨by grind, x1⟩ (hb n (by omega))
  have q := mul_in (x := g n - g m) (y := f m) (a := e / 4 / A) (b := A) ⟨by grind, y1⟩ (ha m (by omega))
  have eA : e / 4 / A * A = e / 4 := by rw [Rat.div_def (e / 4), Rat.mul_assoc, Rat.inv_mul_cancel _ (by grind), Rat.mul_one]
  have eB : e / 4 / B * B = e / 4 := by rw [Rat.div_def (e / 4), Rat.mul_assoc, Rat.inv_mul_cancel _ (by grind), Rat.mul_one]
  rw [eB] at p
  rw [eA] at q
  show f n * g n - f m * g m < e
  have : f n * g n - f m * g m = (f n - f m) * g n + (g n - g m) * f m := by grind
  rw [this]
  grind

theorem Pos.mul {f g : Nat → Rat} (hf : Pos f) (hg : Pos g) : Pos (fun n => f n * g n) := by
  obtain ⟨e, he, N, h1⟩ := hf
  obtain ⟨d, hd, M, h2⟩ := hg
  refine ⟨e * d, Rat.mul_pos he hd, N + M, fun n hn => ?_⟩
  have a := h1 n (by omega)
  have b := h2 n (by omega)
  have h3 : 0 < (f n - e) * g n := Rat.mul_pos (by grind) (by grind)
  have h4 : 0 < e * (g n - d) := Rat.mul_pos he (by grind)
  show e * d < f n * g n
  grind

/-- not below nothing -/
def Nn (f : Nat → Rat) : Prop := ∀ e : Rat, 0 < e → ∃ N, ∀ n, N ≤ n → -e < f n
theorem Pos.nn {f : Nat → Rat} (h : Pos f) : Nn f := by
  intro e he
  obtain ⟨d, hd, N, h1⟩ := h
  exact ⟨N, fun n hn => by have := h1 n hn; grind⟩
theorem Nul.nn {f : Nat → Rat} (h : Nul f) : Nn f := by
  intro e he
  obtain ⟨N, h1⟩ := h e he
  exact ⟨N, fun n hn => (h1 n hn).1⟩
theorem Nn.add {f g : Nat → Rat} (hf : Nn f) (hg : Nn g) : Nn (fun n => f n + g n) := by
  intro e he
  obtain ⟨N, h1⟩ := hf _ (half_pos he)
  obtain ⟨M, h2⟩ := hg _ (half_pos he)
  refine ⟨N + M, fun n hn => ?_⟩
  have a := h1 n (by omega)
  have b := h2 n (by omega)
  show -e < f n + g n
  grind
theorem Nn.both {f : Nat → Rat} (h : Nn f) (h' : Nn (fun n => - f n)) : Nul f := by
  intro e he
  obtain ⟨N, h1⟩ := h e he
  obtain ⟨M, h2⟩ := h' e he
  refine ⟨N + M, fun n hn => ?_⟩
  have a := h1 n (by omega)
  have b := h2 n (by omega)
  constructor <;> grind
theorem nn_of_not {f : Nat → Rat} (hf : Set f) (h : ¬ Pos (fun n => - f n)) : Nn f := by
  rcases signs hf with h1 | h1 | h1
  · exact h1.nn
  · exact h1.nn
  · exact absurd h1 h

/-- vectors moved by a letter -/
abbrev Vec := Nat → Nat → Rat
def act (c : Nat → Nat → Nat → Rat) (t : Nat) (V : Vec) : Vec := fun s n => if s = t then - V t n else V s n + c t s n * V t n
def acts (c : Nat → Nat → Nat → Rat) (w : List Nat) (V : Vec) : Vec := w.foldr (act c) V

theorem acts_cons (c : Nat → Nat → Nat → Rat) (t : Nat) (w : List Nat) (V : Vec) : acts c (t :: w) V = act c t (acts c w V) := rfl
theorem acts_append (c : Nat → Nat → Nat → Rat) (u w : List Nat) (V : Vec) : acts c (u ++ w) V = acts c u (acts c w V) := by
  unfold acts; rw [List.foldr_append]

theorem act_two (c : Nat → Nat → Nat → Rat) (t : Nat) (V : Vec) : act c t (act c t V) = V := by
  funext s n
  unfold act
  by_cases h : s = t
  · subst h; simp
  · simp [h]; grind

theorem act_at (c : Nat → Nat → Nat → Rat) (t : Nat) (V : Vec) (n : Nat) : act c t V t n = - V t n := by simp [act]
theorem act_off (c : Nat → Nat → Nat → Rat) {t s : Nat} (h : s ≠ t) (V : Vec) (n : Nat) : act c t V s n = V s n + c t s n * V t n := by simp [act, h]
end Go.Proofs.Ytogchohpnbeldaa.Rs
