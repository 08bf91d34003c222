/- Descents are negative; a row that goes down all the way has no letters too many. A row that goes down all the way ends. A place that an element of finite order keeps; the letters of what keeps it. -/
import Derived.Test.YtogchohpnbeldaaTorA
namespace Go.Proofs.Ytogchohpnbeldaa.Rs
open Cx

variable {M : Nat → Nat → Nat} {c : Nat → Nat → Nat → Rat}

theorem pos_any (hM : Ords M) (hC : Ps M c) {V : Vec} (hV : SetV V) (w : List Nat) (s : Nat) (hs : ¬ Ds (mk w : G M) s) :
    ((∀ h, Nn (V h)) → Nn (Rs.acts c w V s)) ∧ ((∀ h, Pos (V h)) → Pos (Rs.acts c w V s)) := by
  obtain ⟨u, hu, hr⟩ := red_exists (mk w : G M)
  rw [← hu] at hs
  have a := positive hM hC hV u.length u rfl hr s hs
  have b := acts_sim hC.toCs hV hu s
  exact ⟨fun h => ((a.1 h).add b.neg.nn).congr fun n => by grind, fun h => ((a.2 h).nul b.neg).congr fun n => by grind⟩

theorem neg_any (hM : Ords M) (hC : Ps M c) {V : Vec} (hV : SetV V) (w : List Nat) (s : Nat) (hs : Ds (mk w : G M) s) :
    ((∀ h, Nn (V h)) → Nn (fun n => - Rs.acts c w V s n)) ∧ ((∀ h, Pos (V h)) → Pos (fun n => - Rs.acts c w V s n)) := by
  have hn : ¬ Ds (mk (s :: w) : G M) s := fun h => (ds_front s (mk w : G M)).1 h hs
  have a := pos_any hM hC hV (s :: w) s hn
  exact ⟨fun h => (a.1 h).congr fun n => (act_at c s (Rs.acts c w V) n).symm, fun h => (a.2 h).congr fun n => (act_at c s (Rs.acts c w V) n).symm⟩

theorem act_lin (X Y : Vec) (q : Nat → Rat) (t : Nat) : act c t (fun h n => X h n + q n * Y h n) = fun h n => act c t X h n + q n * act c t Y h n := by
  funext h n
  unfold act
  by_cases e : h = t
  · simp only [e, if_true]; grind
  · simp only [e, if_false]; grind
theorem acts_lin (X Y : Vec) (q : Nat → Rat) (a : List Nat) : Rs.acts c a (fun h n => X h n + q n * Y h n) = fun h n => Rs.acts c a X h n + q n * Rs.acts c a Y h n := by
  induction a with
  | nil => rfl
  | cons t a ih => rw [acts_cons, ih, act_lin]; rfl

/-- the vector of a letter -/
def own (c : Nat → Nat → Nat → Rat) (t : Nat) : Vec := fun h n => if h = t then -2 else c t h n
theorem act_own (t : Nat) (V : Vec) : act c t V = fun h n => V h n + V t n * own c t h n := by
  funext h n
  unfold act own
  by_cases e : h = t
  · simp only [e, if_true]; grind
  · simp only [e, if_false]; grind
theorem own_set (hC : Cs M c) (t : Nat) : SetV (own c t) := by
  intro h
  by_cases e : h = t
  · exact (set_const (-2)).congr fun n => by simp [own, e]
  · exact (hC.set t h).congr fun n => by simp [own, e]

/-- a letter behind a word is a letter ahead of it -/
theorem swap_letter (hC : Cs M c) {a : List Nat} {s t : Nat} (h : (mk (s :: a) : G M) = mk (a ++ [t])) {V : Vec} (hV : SetV V) :
    Nul (fun n => 2 * Rs.acts c a V s n + V t n * Rs.acts c a (own c t) s n) := by
  have h1 := acts_sim hC hV h s
  refine h1.neg.congr fun n => ?_
  have e1 : Rs.acts c (s :: a) V s n = - Rs.acts c a V s n := act_at c s (Rs.acts c a V) n
  have e2 : Rs.acts c (a ++ [t]) V s n = Rs.acts c a V s n + V t n * Rs.acts c a (own c t) s n := by
    rw [acts_append]
    have : Rs.acts c [t] V = act c t V := rfl
    rw [this, act_own, acts_lin]
  rw [e1, e2]
  grind

theorem refs_mem {r : G M} : ∀ {w : List Nat}, r ∈ (refs w : List (G M)) → ∃ a t v, w = a ++ t :: v ∧ r = cj (mk a) (mk [t]) := by
  intro w
  induction w generalizing r with
  | nil => intro h; cases h
  | cons i w ih =>
    intro h
    rcases List.mem_cons.1 h with rfl | h
    · exact ⟨[], i, w, rfl, (cj_one _).symm⟩
    · obtain ⟨r', hr', rfl⟩ := List.mem_map.1 h
      obtain ⟨a, t, v, rfl, rfl⟩ := ih hr'
      exact ⟨i :: a, t, v, rfl, (cj_mul (mk [i]) (mk a) (mk [t])).symm⟩

theorem exchange {w : List Nat} (hw : Red M w) {s : Nat} (hs : Ds (mk w : G M) s) : ∃ a t v, w = a ++ t :: v ∧ (mk (s :: a) : G M) = mk (a ++ [t]) := by
  have h : (mk [s] : G M) ∈ (refs w : List (G M)) := (eta_red hw _).1 hs
  obtain ⟨a, t, v, e, h1⟩ := refs_mem h
  refine ⟨a, t, v, e, ?_⟩
  show (mk [s] * mk a : G M) = mk a * mk [t]
  rw [h1]
  unfold cj
  rw [mul_assoc, inv_mul_self, mul_one]

/-- each letter goes down -/
def Down (c : Nat → Nat → Nat → Rat) (U : Vec) (w : List Nat) : Prop := ∀ a t v, w = a ++ t :: v → Pos (fun n => - Rs.acts c v U t n)

def ones : Vec := fun _ _ => 1
theorem ones_set : SetV ones := fun _ => set_const 1
theorem ones_pos : ∀ h, Pos (ones h) := fun _ => ⟨1 / 2, by grind, 0, fun n _ => by show (1 : Rat) / 2 < 1; grind⟩

theorem Down.descent (hM : Ords M) (hC : Ps M c) {U : Vec} (hU : SetV U) {w : List Nat} (hd : Down c U w) (hw : Red M w) {s : Nat} (hs : Ds (mk w : G M) s) : Pos (Rs.acts c w U s) := by
  obtain ⟨a, t, v, rfl, he⟩ := exchange hw hs
  have h1 := hd a t v rfl
  have hk := SetV.acts hC.toCs (own_set hC.toCs t) a s
  have x1 := swap_letter hC.toCs he (V := Rs.acts c (t :: v) U) (SetV.acts hC.toCs hU _)
  have x2 := swap_letter hC.toCs he (V := Rs.acts c (t :: v) ones) (SetV.acts hC.toCs ones_set _)
  have hv : ¬ Ds (mk v : G M) t := (ds_front t (mk v : G M)).1 (ds_of_head (red_drop hw))
  have p1 := (pos_any hM hC ones_set v t hv).2 ones_pos
  have p2 := (neg_any hM hC ones_set (a ++ t :: v) s hs).2 ones_pos
  rw [acts_append] at p2 ⊢
  generalize Rs.acts c a (own c t) s = q at *
  have e1 : ∀ X n, Rs.acts c (t :: v) X t n = - Rs.acts c v X t n := fun X n => act_at c t (Rs.acts c v X) n
  have hq : Pos (fun n => - q n) := by
    rcases signs hk with h | h | h
    · exfalso
      have := (h.mul (SetV.acts hC.toCs ones_set v t).bnd)
      refine ((p2.add p2).nul (x2.add this)).not_nul (nul_zero.congr fun n => ?_)
      rw [e1]; grind
    · exfalso
      have := h.mul p1
      refine (((p2.add p2).add this).nul x2).not_nul (nul_zero.congr fun n => ?_)
      rw [e1]; grind
    · exact h
  have h2 := (h1.mul hq).nul x1
  have h3 : Pos (fun n => 2 * Rs.acts c a (Rs.acts c (t :: v) U) s n) := h2.congr fun n => by rw [e1]; grind
  obtain ⟨e, he, N, h4⟩ := h3
  exact ⟨e / 2, half_pos he, N, fun n hn => by have := h4 n hn; grind⟩

theorem Down.red (hM : Ords M) (hC : Ps M c) {U : Vec} (hU : SetV U) : ∀ {w : List Nat}, Down c U w → Red M w := by
  intro w
  induction w with
  | nil => intro _; exact red_nil
  | cons t v ih =>
    intro h
    have hv : Down c U v := fun a t' v' e => h (t :: a) t' v' (by rw [e]; rfl)
    have hr := ih hv
    refine red_cons hr fun hd => ?_
    exact (hv.descent hM hC hU hr hd).not_neg (h [] t v rfl)
end Go.Proofs.Ytogchohpnbeldaa.Rs

namespace Go.Proofs.Ytogchohpnbeldaa.Rs
open Cx

variable {M : Nat → Nat → Nat} {c : Nat → Nat → Nat → Rat}

/-- the number of letters of an element -/
noncomputable def ln (x : G M) : Nat := (nf x).length
theorem ln_red {w : List Nat} (h : Red M w) : ln (mk w : G M) = w.length := red_len (nf_greedy _).red h (mk_nf _)
theorem ln_le (w : List Nat) : ln (mk w : G M) ≤ w.length := (nf_greedy (mk w : G M)).red w (mk_nf _).symm
theorem ln_up {t : Nat} {x : G M} (h : ¬ Ds x t) : ln (mk [t] * x) = ln x + 1 := by
  obtain ⟨u, hu, hr⟩ := red_exists x
  subst hu
  have : Red M (t :: u) := red_cons hr h
  rw [ln_red hr]
  exact ln_red this
theorem ln_down {t : Nat} {x : G M} (h : Ds x t) : ln (mk [t] * x) + 1 = ln x := by
  have h2 : ¬ Ds (mk [t] * x) t := fun hd => (ds_front t x).1 hd h
  have := ln_up h2
  rw [let_two] at this
  exact this.symm
theorem ln_mul (u : List Nat) (x : G M) : ln x ≤ ln (mk u * x) + u.length := by
  induction u with
  | nil => rw [show (mk [] * x : G M) = x from one_mul x]; simp
  | cons t u ih =>
    have e : (mk (t :: u) * x : G M) = mk [t] * (mk u * x) := by rw [← mul_assoc]; rfl
    rw [e]
    by_cases h : Ds (mk u * x) t
    · have := ln_down h; simp; omega
    · have := ln_up h; simp; omega

/-- y, i times -/
def rp (y : List Nat) : Nat → List Nat
  | 0 => []
  | i + 1 => y ++ rp y i

/-- the sum of the vectors of the first k powers -/
def sumV (c : Nat → Nat → Nat → Rat) (y : List Nat) : Nat → Vec
  | 0 => fun _ _ => 0
  | k + 1 => fun h n => sumV c y k h n + Rs.acts c (rp y k) ones h n

theorem act_zero (t : Nat) : act c t (fun _ _ => 0) = fun _ _ => 0 := by
  funext h n
  unfold act
  by_cases e : h = t
  · simp [e]
  · simp only [e, if_false]; grind
theorem acts_zero (w : List Nat) : Rs.acts c w (fun _ _ => 0) = fun _ _ => 0 := by
  induction w with
  | nil => rfl
  | cons t w ih => rw [acts_cons, ih, act_zero]
theorem acts_add (w : List Nat) (X Y : Vec) : Rs.acts c w (fun h n => X h n + Y h n) = fun h n => Rs.acts c w X h n + Rs.acts c w Y h n := by
  have := acts_lin (c := c) X Y (fun _ => 1) w
  have e : (fun h n => X h n + 1 * Y h n) = fun h n => X h n + Y h n := by funext h n; grind
  rw [e] at this
  rw [this]
  funext h n; grind

theorem acts_sum (y w : List Nat) (k : Nat) : Rs.acts c w (sumV c y (k + 1)) = fun h n => Rs.acts c w (sumV c y k) h n + Rs.acts c (w ++ rp y k) ones h n := by
  show Rs.acts c w (fun h n => sumV c y k h n + Rs.acts c (rp y k) ones h n) = _
  rw [acts_add]
  funext h n
  rw [acts_append]

theorem sum_set (hC : Cs M c) (y : List Nat) (k : Nat) : SetV (sumV c y k) := by
  induction k with
  | zero => exact fun _ => set_const 0
  | succ k ih => exact fun h => (ih h).add (SetV.acts hC ones_set _ h)

/-- if the sum is below nothing, one of the powers goes down -/
theorem some_down (hM : Ords M) (hC : Ps M c) (y w : List Nat) (t : Nat) : ∀ k, (∀ i, i < k → ¬ Ds (mk (w ++ rp y i) : G M) t) → Nn (Rs.acts c w (sumV c y k) t) := by
  intro k
  induction k with
  | zero =>
    intro _
    have : Rs.acts c w (sumV c y 0) t = fun _ => 0 := by
      show Rs.acts c w (fun _ _ => 0) t = _
      rw [acts_zero]
    rw [this]
    exact nul_zero.nn
  | succ k ih =>
    intro h
    have a := ih fun i hi => h i (by omega)
    have b := (pos_any hM hC ones_set (w ++ rp y k) t (h k (by omega))).2 ones_pos
    rw [acts_sum]
    exact a.add b.nn

theorem Pos.not_nn {f : Nat → Rat} (h : Pos (fun n => - f n)) : ¬ Nn f := by
  intro hn
  have := h.nn_add hn
  exact this.not_nul (nul_zero.congr fun n => by grind)

def sumN (f : Nat → Nat) : Nat → Nat
  | 0 => 0
  | k + 1 => sumN f k + f k
theorem sumN_le {f g : Nat → Nat} (k : Nat) (h : ∀ i, i < k → f i ≤ g i) : sumN f k ≤ sumN g k := by
  induction k with
  | zero => exact Nat.le_refl _
  | succ k ih => exact Nat.add_le_add (ih fun i hi => h i (by omega)) (h k (by omega))
theorem sumN_add (f g : Nat → Nat) (k : Nat) : sumN (fun i => f i + g i) k = sumN f k + sumN g k := by
  induction k with
  | zero => rfl
  | succ k ih => simp only [sumN, ih]; omega
theorem sumN_const (m k : Nat) : sumN (fun _ => m) k = k * m := by
  induction k with
  | zero => simp [sumN]
  | succ k ih => simp only [sumN, ih]; rw [Nat.add_mul]; omega
theorem sumN_one {f g : Nat → Nat} {k j : Nat} (hj : j < k) (h : ∀ i, i < k → f i ≤ g i + 1) (hjj : f j + 1 ≤ g j) : sumN f k + 2 ≤ sumN g k + k := by
  induction k with
  | zero => omega
  | succ k ih =>
    have hk := h k (by omega)
    by_cases e : j = k
    · subst e
      have : sumN f j ≤ sumN (fun i => g i + 1) j := sumN_le j fun i hi => h i (by omega)
      rw [sumN_add, sumN_const] at this
      simp only [sumN]
      omega
    · have := ih (by omega) (fun i hi => h i (by omega))
      simp only [sumN]
      omega

theorem down_bound (hM : Ords M) (hC : Ps M c) (y : List Nat) (k : Nat) : ∀ {w : List Nat}, Down c (sumV c y k) w →
    sumN (fun i => ln (mk (w ++ rp y i) : G M)) k + 2 * w.length ≤ k * w.length + sumN (fun i => ln (mk (rp y i) : G M)) k := by
  intro w
  induction w with
  | nil => intro _; simp
  | cons t v ih =>
    intro h
    have hv : Down c (sumV c y k) v := fun a t' v' e => h (t :: a) t' v' (by rw [e]; rfl)
    have a := ih hv
    have h1 := h [] t v rfl
    have hex : ∃ j, j < k ∧ Ds (mk (v ++ rp y j) : G M) t := by
      refine Classical.byContradiction fun hc => h1.not_nn (some_down hM hC y v t k fun i hi hd => hc ⟨i, hi, hd⟩)
    obtain ⟨j, hj, hd⟩ := hex
    have e : ∀ i, (mk (t :: v ++ rp y i) : G M) = mk [t] * mk (v ++ rp y i) := fun i => rfl
    have b := sumN_one (f := fun i => ln (mk (t :: v ++ rp y i) : G M)) (g := fun i => ln (mk (v ++ rp y i) : G M)) hj (fun i _ => by
      rw [e]
      by_cases hx : Ds (mk (v ++ rp y i) : G M) t
      · have := ln_down hx; omega
      · have := ln_up hx; omega) (by rw [e]; have := ln_down hd; omega)
    have hk : k * (t :: v).length = k * v.length + k := by rw [List.length_cons]; exact Nat.mul_succ _ _
    rw [hk, List.length_cons]
    omega

theorem ln_back {w : List Nat} (hw : Red M w) (p : List Nat) : w.length ≤ ln (mk (w ++ p) : G M) + ln (mk p : G M) := by
  have e : (mk w : G M) = mk (nf (mk (w ++ p) : G M) ++ (nf (mk p : G M)).reverse) := by
    rw [← mk_mul, mk_nf, ← inv_mk, mk_nf, ← mk_mul, mul_assoc, mul_inv, mul_one]
  have h := ln_le (M := M) (nf (mk (w ++ p) : G M) ++ (nf (mk p : G M)).reverse)
  rw [← e, ln_red hw, List.length_append, List.length_reverse] at h
  exact h

theorem down_short (hM : Ords M) (hC : Ps M c) (y : List Nat) (k : Nat) {w : List Nat} (h : Down c (sumV c y k) w) :
    w.length ≤ sumN (fun i => ln (mk (rp y i) : G M)) k := by
  have a := down_bound hM hC y k h
  have hr := h.red hM hC (sum_set hC.toCs y k)
  have b : k * w.length ≤ sumN (fun i => ln (mk (w ++ rp y i) : G M)) k + sumN (fun i => ln (mk (rp y i) : G M)) k := by
    rw [← sumN_const, ← sumN_add]
    exact sumN_le k fun i _ => ln_back hr (rp y i)
  omega
end Go.Proofs.Ytogchohpnbeldaa.Rs

namespace Go.Proofs.Ytogchohpnbeldaa.Rs
open Cx

variable {M : Nat → Nat → Nat} {c : Nat → Nat → Nat → Rat}

theorem top (hM : Ords M) (hC : Ps M c) (y : List Nat) (k : Nat) : ∃ w, ∀ s, Nn (Rs.acts c w (sumV c y k) s) := by
  refine Classical.byContradiction fun hno => ?_
  have all : ∀ n, ∃ w : List Nat, w.length = n ∧ Down c (sumV c y k) w := by
    intro n
    induction n with
    | zero => exact ⟨[], rfl, fun a t v e => by cases a <;> simp at e⟩
    | succ n ih =>
      obtain ⟨w, hw, hd⟩ := ih
      have : ∃ s, ¬ Nn (Rs.acts c w (sumV c y k) s) := by
        refine Classical.byContradiction fun hx => hno ⟨w, fun s => ?_⟩
        exact Classical.byContradiction fun hy => hx ⟨s, hy⟩
      obtain ⟨s, hs⟩ := this
      have hp : Pos (fun n => - Rs.acts c w (sumV c y k) s n) := by
        refine Classical.byContradiction fun hx => hs (nn_of_not (SetV.acts hC.toCs (sum_set hC.toCs y k) w s) hx)
      refine ⟨s :: w, by simp [hw], fun a t v e => ?_⟩
      cases a with
      | nil =>
        simp only [List.nil_append, List.cons.injEq] at e
        obtain ⟨rfl, rfl⟩ := e
        exact hp
      | cons b a =>
        simp only [List.cons_append, List.cons.injEq] at e
        exact hd a t v e.2
  obtain ⟨w, hw, hd⟩ := all (sumN (fun i => ln (mk (rp y i) : G M)) k + 1)
  have := down_short hM hC y k hd
  omega

theorem sum_shift (y : List Nat) (k : Nat) (h n : Nat) : Rs.acts c y (sumV c y k) h n + ones h n = sumV c y k h n + Rs.acts c (rp y k) ones h n := by
  induction k with
  | zero =>
    have : Rs.acts c y (sumV c y 0) = fun _ _ => 0 := by
      show Rs.acts c y (fun _ _ => 0) = _
      rw [acts_zero]
    rw [this]
    rfl
  | succ k ih =>
    rw [acts_sum]
    have e : Rs.acts c (y ++ rp y k) ones h n = Rs.acts c (rp y (k + 1)) ones h n := rfl
    show Rs.acts c y (sumV c y k) h n + Rs.acts c (y ++ rp y k) ones h n + ones h n = sumV c y k h n + Rs.acts c (rp y k) ones h n + Rs.acts c (rp y (k + 1)) ones h n
    rw [e]
    grind

theorem keeps (hC : Cs M c) {y : List Nat} {k : Nat} (hy : (mk (rp y k) : G M) = mk []) : Sim (Rs.acts c y (sumV c y k)) (sumV c y k) := by
  intro h
  have a := acts_sim hC ones_set hy h
  refine a.congr fun n => ?_
  have b := sum_shift (c := c) y k h n
  have e : Rs.acts c [] ones h n = ones h n := rfl
  rw [e]
  grind

/-- the letters of a shortest word that keeps a place -/
theorem fixed (hM : Ords M) (hC : Ps M c) {V : Vec} (hV : SetV V) (hn : ∀ s, Nn (V s)) : ∀ {z : List Nat}, Red M z → Sim (Rs.acts c z V) V → ∀ s, s ∈ z → Nul (V s) := by
  intro z
  induction z with
  | nil => intro _ _ s hs; cases hs
  | cons t z ih =>
    intro hr hs s hmem
    have hz := red_tail hr
    have hd : ¬ Ds (mk z : G M) t := (ds_front t (mk z : G M)).1 (ds_of_head hr)
    have a := (pos_any hM hC hV z t hd).1 hn
    have b := hs t
    have e : ∀ n, Rs.acts c (t :: z) V t n = - Rs.acts c z V t n := fun n => act_at c t (Rs.acts c z V) n
    have h1 : Nn (fun n => - V t n) := (a.add b.nn).congr fun n => by rw [e]; grind
    have h2 : Nul (V t) := (hn t).both h1
    have h3 : Nul (Rs.acts c z V t) := ((b.neg).add h2.neg).congr fun n => by rw [e]; grind
    have h4 : Sim (Rs.acts c z V) V := by
      refine Sim.trans (Sim.symm ?_) hs
      intro h
      by_cases ht : h = t
      · subst ht
        exact ((h3.neg).add h3.neg).congr fun n => by rw [e]; grind
      · exact (h3.mul (hC.set t h).bnd).congr fun n => by
          have : Rs.acts c (t :: z) V h n = Rs.acts c z V h n + c t h n * Rs.acts c z V t n := act_off c ht (Rs.acts c z V) n
          rw [this]; grind
    rcases List.mem_cons.1 hmem with rfl | hm
    · exact h2
    · exact ih hz h4 s hm

/-- an element of finite order, moved to where it keeps a place: its letters -/
theorem finite (hM : Ords M) (hC : Ps M c) {y : List Nat} {k : Nat} (hy : (mk (rp y k) : G M) = mk []) :
    ∃ w z, Red M z ∧ (mk z : G M) = mk (w ++ (y ++ w.reverse)) ∧ ∀ s, s ∈ z → Nul (Rs.acts c w (sumV c y k) s) := by
  obtain ⟨w, hw⟩ := top hM hC y k
  obtain ⟨z, hz, hr⟩ := red_exists (mk (w ++ (y ++ w.reverse)) : G M)
  have hU := sum_set hC.toCs y k
  refine ⟨w, z, hr, hz, fixed hM hC (SetV.acts hC.toCs hU w) hw hr ?_⟩
  rw [← acts_append]
  have e : (mk (z ++ w) : G M) = mk (w ++ y) := by
    rw [← mk_mul, hz, ← mk_mul, ← mk_mul, ← inv_mk, mul_assoc, mul_assoc, inv_mul_self, mul_one, mk_mul]
  refine (acts_sim hC.toCs hU e).trans ?_
  rw [acts_append]
  exact Sim.acts hC.toCs (keeps hC.toCs hy) w
end Go.Proofs.Ytogchohpnbeldaa.Rs
