/- A row that goes down all the way ends. -/
import Derived.Test.YtogchohpnbeldaaTor6
namespace Go.Proofs.Ytogchohpnbeldaa.Rs
open Cx

variable {M : Nat → Nat → Nat} {c : Nat → Nat → Nat → Rat}

/-- the number of letters of an element -/
noncomputable def ln (x : G M) : Nat := (nf x).length
theorem ln_red {w : List Nat} (h : Red M w) : ln (mk w : G M) = w.length := red_len (nf_greedy _).red h (mk_nf _)
theorem ln_le (w : List Nat) : ln (mk w : G M) ≤ w.length := (nf_greedy (mk w : G M)).red w (mk_nf _).symm
theorem ln_up {t : Nat} {x : G M} (h : ¬ Ds x t) : ln (mk [t] * x) = ln x + 1 := by
  obtain ⟨u, hu, hr⟩ := red_exists x
  subst hu
  have : Red M (t :: u) := red_cons hr h
  rw [ln_red hr]
  exact ln_red this
theorem ln_down {t : Nat} {x : G M} (h : Ds x t) : ln (mk [t] * x) + 1 = ln x := by
  have h2 : ¬ Ds (mk [t] * x) t := fun hd => (ds_front t x).1 hd h
  have := ln_up h2
  rw [let_two] at this
  exact this.symm
theorem ln_mul (u : List Nat) (x : G M) : ln x ≤ ln (mk u * x) + u.length := by
  induction u with
  | nil => rw [show (mk [] * x : G M) = x from one_mul x]; simp
  | cons t u ih =>
    have e : (mk (t :: u) * x : G M) = mk [t] * (mk u * x) := by rw [← mul_assoc]; rfl
    rw [e]
    by_cases h : Ds (mk u * x) t
    · have := ln_down h; simp; omega
    · have := ln_up h; simp; omega

/-- y, i times -/
def rp (y : List Nat) : Nat → List Nat
  | 0 => []
  | i + 1 => y ++ rp y i

/-- the sum of the vectors of the first k powers -/
def sumV (c : Nat → Nat → Nat → Rat) (y : List Nat) : Nat → Vec
  | 0 => fun _ _ => 0
  | k + 1 => fun h n => sumV c y k h n + Rs.acts c (rp y k) ones h n

theorem act_zero (t : Nat) : act c t (fun _ _ => 0) = fun _ _ => 0 := by
  funext h n
  unfold act
  by_cases e : h = t
  · simp [e]
  · simp only [e, if_false]; grind
theorem acts_zero (w : List Nat) : Rs.acts c w (fun _ _ => 0) = fun _ _ => 0 := by
  induction w with
  | nil => rfl
  | cons t w ih => rw [acts_cons, ih, act_zero]
theorem acts_add (w : List Nat) (X Y : Vec) : Rs.acts c w (fun h n => X h n + Y h n) = fun h n => Rs.acts c w X h n + Rs.acts c w Y h n := by
  have := acts_lin (c := c) X Y (fun _ => 1) w
  have e : (fun h n => X h n + 1 * Y h n) = fun h n => X h n + Y h n := by funext h n; grind
  rw [e] at this
  rw [this]
  funext h n; grind

theorem acts_sum (y w : List Nat) (k : Nat) : Rs.acts c w (sumV c y (k + 1)) = fun h n => Rs.acts c w (sumV c y k) h n + Rs.acts c (w ++ rp y k) ones h n := by
  show Rs.acts c w (fun h n => sumV c y k h n + Rs.acts c (rp y k) ones h n) = _
  rw [acts_add]
  funext h n
  rw [acts_append]

theorem sum_set (hC : Cs M c) (y : List Nat) (k : Nat) : SetV (sumV c y k) := by
  induction k with
  | zero => exact fun _ => set_const 0
  | succ k ih => exact fun h => (ih h).add (SetV.acts hC ones_set _ h)

/-- if the sum is below nothing, one of the powers goes down -/
theorem some_down (hM : Ords M) (hC : Ps M c) (y w : List Nat) (t : Nat) : ∀ k, (∀ i, i < k → ¬ Ds (mk (w ++ rp y i) : G M) t) → Nn (Rs.acts c w (sumV c y k) t) := by
  intro k
  induction k with
  | zero =>
    intro _
    have : Rs.acts c w (sumV c y 0) t = fun _ => 0 := by
      show Rs.acts c w (fun _ _ => 0) t = _
      rw [acts_zero]
    rw [this]
    exact nul_zero.nn
  | succ k ih =>
    intro h
    have a := ih fun i hi => h i (by omega)
    have b := (pos_any hM hC ones_set (w ++ rp y k) t (h k (by omega))).2 ones_pos
    rw [acts_sum]
    exact a.add b.nn

theorem Pos.not_nn {f : Nat → Rat} (h : Pos (fun n => - f n)) : ¬ Nn f := by
  intro hn
  have := h.nn_add hn
  exact this.not_nul (nul_zero.congr fun n => by grind)

def sumN (f : Nat → Nat) : Nat → Nat
  | 0 => 0
  | k + 1 => sumN f k + f k
theorem sumN_le {f g : Nat → Nat} (k : Nat) (h : ∀ i, i < k → f i ≤ g i) : sumN f k ≤ sumN g k := by
  induction k with
  | zero => exact Nat.le_refl _
  | succ k ih => exact Nat.add_le_add (ih fun i hi => h i (by omega)) (h k (by omega))
theorem sumN_add (f g : Nat → Nat) (k : Nat) : sumN (fun i => f i + g i) k = sumN f k + sumN g k := by
  induction k with
  | zero => rfl
  | succ k ih => simp only [sumN, ih]; omega
theorem sumN_const (m k : Nat) : sumN (fun _ => m) k = k * m := by
  induction k with
  | zero => simp [sumN]
  | succ k ih => simp only [sumN, ih]; rw [Nat.add_mul]; omega
theorem sumN_one {f g : Nat → Nat} {k j : Nat} (hj : j < k) (h : ∀ i, i < k → f i ≤ g i + 1) (hjj : f j + 1 ≤ g j) : sumN f k + 2 ≤ sumN g k + k := by
  induction k with
  | zero => omega
  | succ k ih =>
    have hk := h k (by omega)
    by_cases e : j = k
    · subst e
      have : sumN f j ≤ sumN (fun i => g i + 1) j := sumN_le j fun i hi => h i (by omega)
      rw [sumN_add, sumN_const] at this
      simp only [sumN]
      omega
    · have := ih (by omega) (fun i hi => h i (by omega))
      simp only [sumN]
      omega

theorem down_bound (hM : Ords M) (hC : Ps M c) (y : List Nat) (k : Nat) : ∀ {w : List Nat}, Down c (sumV c y k) w →
    sumN (fun i => ln (mk (w ++ rp y i) : G M)) k + 2 * w.length ≤ k * w.length + sumN (fun i => ln (mk (rp y i) : G M)) k := by
  intro w
  induction w with
  | nil => intro _; simp
  | cons t v ih =>
    intro h
    have hv : Down c (sumV c y k) v := fun a t' v' e => h (t :: a) t' v' (by rw [e]; rfl)
    have a := ih hv
    have h1 := h [] t v rfl
    have hex : ∃ j, j < k ∧ Ds (mk (v ++ rp y j) : G M) t := by
      refine Classical.byContradiction fun hc => h1.not_nn (some_down hM hC y v t k fun i hi hd => hc ⟨i, hi, hd⟩)
    obtain ⟨j, hj, hd⟩ := hex
    have e : ∀ i, (mk (t :: v ++ rp y i) : G M) = mk [t] * mk (v ++ rp y i) := fun i => rfl
    have b := sumN_one (f := fun i => ln (mk (t :: v ++ rp y i) : G M)) (g := fun i => ln (mk (v ++ rp y i) : G M)) hj (fun i _ => by
      rw [e]
      by_cases hx : Ds (mk (v ++ rp y i) : G M) t
      · have := ln_down hx; omega
      · have := ln_up hx; omega) (by rw [e]; have := ln_down hd; omega)
    have hk : k * (t :: v).length = k * v.length + k := by rw [List.length_cons]; exact Nat.mul_succ _ _
    rw [hk, List.length_cons]
    omega

theorem ln_back {w : List Nat} (hw : Red M w) (p : List Nat) : w.length ≤ ln (mk (w ++ p) : G M) + ln (mk p : G M) := by
  have e : (mk w : G M) = mk (nf (mk (w ++ p) : G M) ++ (nf (mk p : G M)).reverse) := by
    rw [← mk_mul, mk_nf, ← inv_mk, mk_nf, ← mk_mul, mul_assoc, mul_inv, mul_one]
  have h := ln_le (M := M) (nf (mk (w ++ p) : G M) ++ (nf (mk p : G M)).reverse)
  rw [← e, ln_red hw, List.length_append, List.length_reverse] at h
  exact h

theorem down_short (hM : Ords M) (hC : Ps M c) (y : List Nat) (k : Nat) {w : List Nat} (h : Down c (sumV c y k) w) :
    w.length ≤ sumN (fun i => ln (mk (rp y i) : G M)) k := by
  have a := down_bound hM hC y k h
  have hr := h.red hM hC (sum_set hC.toCs y k)
  have b : k * w.length ≤ sumN (fun i => ln (mk (w ++ rp y i) : G M)) k + sumN (fun i => ln (mk (rp y i) : G M)) k := by
    rw [← sumN_const, ← sumN_add]
    exact sumN_le k fun i _ => ln_back hr (rp y i)
  omega
end Go.Proofs.Ytogchohpnbeldaa.Rs
