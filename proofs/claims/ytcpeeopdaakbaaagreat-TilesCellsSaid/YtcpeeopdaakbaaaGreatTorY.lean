/- The place that is kept is a place: not all three letters keep it. The orders of what is of finite order. The numbers of the corners: by halving. What the halves lead to. The numbers of the corners. The orders of words of finite order, for all orders that are allowed. The orders that the program finds. -/
import Derived.Test.YtcpeeopdaakbaaaGreatTorX
import Derived.Test.YtcpeeopdaakbaaaGreatZa
import Derived.Test.YtcpeeopdaakbaaaGreatYL
import Derived.Test.YtcpeeopdaakbaaaGreatYW
namespace Go.Proofs.YtcpeeopdaakbaaaGreat.Rs
set_option linter.unusedVariables false
open Cx

variable {a b d : Nat} {c : Nat → Nat → Nat → Rat}

theorem ds_low {w : List Nat} (hw : ∀ l ∈ w, l < 3) {s : Nat} (h : Ds (mk w : G (Mo a b d)) s) : s < 3 := by
  obtain ⟨u, hu, hr⟩ := red_exists (mk w : G (Mo a b d))
  rw [← hu] at h
  obtain ⟨v, h1, h2⟩ := ds_word h
  have h3 : Red (Mo a b d) (s :: v) := red_same hr h2 (by simpa using h1)
  exact red_low (h2.trans hu) hw h3 s List.mem_cons_self

theorem rp_low {y : List Nat} (hy : ∀ l ∈ y, l < 3) : ∀ k, ∀ l ∈ rp y k, l < 3 := by
  intro k
  induction k with
  | zero => intro l h; cases h
  | succ k ih =>
    intro l h
    rcases List.mem_append.1 h with h | h
    · exact hy l h
    · exact ih l h

theorem top_low (hM : Ords (Mo a b d)) (hC : Ps (Mo a b d) c) {y : List Nat} (hy : ∀ l ∈ y, l < 3) (k : Nat) :
    ∃ w, (∀ l ∈ w, l < 3) ∧ ∀ s, Nn (Rs.acts c w (sumV c y k) s) := by
  refine Classical.byContradiction fun hno => ?_
  have all : ∀ n, ∃ w : List Nat, w.length = n ∧ (∀ l ∈ w, l < 3) ∧ Down c (sumV c y k) w := by
    intro n
    induction n with
    | zero => exact ⟨[], rfl, (fun l h => by cases h), fun a t v e => by cases a <;> simp at e⟩
    | succ n ih =>
      obtain ⟨w, hw, hlow, hd⟩ := ih
      have : ∃ s, ¬ Nn (Rs.acts c w (sumV c y k) s) := by
        refine Classical.byContradiction fun hx => hno ⟨w, hlow, fun s => ?_⟩
        exact Classical.byContradiction fun hy => hx ⟨s, hy⟩
      obtain ⟨s, hs⟩ := this
      have hs3 : s < 3 := by
        refine Classical.byContradiction fun hx => hs (some_down hM hC y w s k fun i _ hdd => hx ?_)
        refine ds_low (fun l hl => ?_) hdd
        rcases List.mem_append.1 hl with h | h
        · exact hlow l h
        · exact rp_low hy i l h
      have hp : Pos (fun n => - Rs.acts c w (sumV c y k) s n) := by
        refine Classical.byContradiction fun hx => hs (nn_of_not (SetV.acts hC.toCs (sum_set hC.toCs y k) w s) hx)
      refine ⟨s :: w, by simp [hw], fun l hl => ?_, fun a t v e => ?_⟩
      · rcases List.mem_cons.1 hl with rfl | h
        · exact hs3
        · exact hlow l h
      · cases a with
        | nil =>
          simp only [List.nil_append, List.cons.injEq] at e
          obtain ⟨rfl, rfl⟩ := e
          exact hp
        | cons b a =>
          simp only [List.cons_append, List.cons.injEq] at e
          exact hd a t v e.2
  obtain ⟨w, hw, _, hd⟩ := all (sumN (fun i => ln (mk (rp y i) : G (Mo a b d))) k + 1)
  have := down_short hM hC y k hd
  omega

/-- a sum over the three letters -/
def Lf (g : Nat → Rat) (V : Vec) : Nat → Rat := fun n => g 0 * V 0 n + g 1 * V 1 n + g 2 * V 2 n

structure Gs (c : Nat → Nat → Nat → Rat) (g : Nat → Rat) : Prop where
  pos : ∀ t, 0 < g t
  up : ∀ t, t < 3 → Nn (Lf g (own c t))

theorem Lf_act (g : Nat → Rat) (V : Vec) (t n : Nat) : Lf g (act c t V) n = Lf g V n + Lf g (own c t) n * V t n := by
  rw [act_own]
  unfold Lf
  grind
theorem Lf_add (g : Nat → Rat) (V W : Vec) (n : Nat) : Lf g (fun h n => V h n + W h n) n = Lf g V n + Lf g W n := by
  unfold Lf
  grind
theorem Lf_nul (g : Nat → Rat) {V : Vec} (h : ∀ t, t < 3 → Nul (V t)) : Nul (Lf g V) :=
  ((((h 0 (by omega)).mul (set_const (g 0)).bnd).add ((h 1 (by omega)).mul (set_const (g 1)).bnd)).add ((h 2 (by omega)).mul (set_const (g 2)).bnd)).congr fun n => by unfold Lf; grind

theorem grows (hM : Ords (Mo a b d)) (hC : Ps (Mo a b d) c) {g : Nat → Rat} (hg : Gs c g) : ∀ {w : List Nat}, Red (Mo a b d) w → (∀ l ∈ w, l < 3) → Nn (fun n => Lf g (Rs.acts c w ones) n - Lf g ones n) := by
  intro w
  induction w with
  | nil => intro _ _; exact nul_zero.nn.congr fun n => by show Lf g ones n - Lf g ones n = 0; grind
  | cons t v ih =>
    intro hr hl
    have h1 := ih (red_tail hr) fun l h => hl l (List.mem_cons_of_mem _ h)
    have hd : ¬ Ds (mk v : G (Mo a b d)) t := (ds_front t (mk v : G (Mo a b d))).1 (ds_of_head hr)
    have hp := (pos_any hM hC ones_set v t hd).2 ones_pos
    have h2 := (hg.up t (hl t List.mem_cons_self)).mul hp (SetV.acts hC.toCs ones_set v t).bnd
    exact (h1.add h2).congr fun n => by rw [acts_cons, Lf_act]; grind

theorem stands (hM : Ords (Mo a b d)) (hC : Ps (Mo a b d) c) {g : Nat → Rat} (hg : Gs c g) {w : List Nat} (hl : ∀ l ∈ w, l < 3) : Pos (Lf g (Rs.acts c w ones)) := by
  obtain ⟨u, hu, hr⟩ := red_exists (mk w : G (Mo a b d))
  have h1 := grows hM hC hg hr (red_low hu hl hr)
  have hs := acts_sim hC.toCs ones_set hu
  have h2 : Nul (Lf g (fun h n => Rs.acts c u ones h n - Rs.acts c w ones h n)) := Lf_nul g fun t _ => hs t
  have h0 : Pos (Lf g ones) := by
    refine ⟨g 0, hg.pos 0, 0, fun n _ => ?_⟩
    have x1 := hg.pos 1
    have x2 := hg.pos 2
    show g 0 < g 0 * 1 + g 1 * 1 + g 2 * 1
    grind
  exact ((h0.nn_add h1).nul h2.neg).congr fun n => by unfold Lf; grind

theorem sum_stands (hM : Ords (Mo a b d)) (hC : Ps (Mo a b d) c) {g : Nat → Rat} (hg : Gs c g) {w y : List Nat} (hl : ∀ l ∈ w, l < 3) (hy : ∀ l ∈ y, l < 3) : ∀ k, Pos (Lf g (Rs.acts c w (sumV c y (k + 1)))) := by
  have one : ∀ i, Pos (Lf g (Rs.acts c (w ++ rp y i) ones)) := fun i => stands hM hC hg fun l h => by
    rcases List.mem_append.1 h with h | h
    · exact hl l h
    · exact rp_low hy i l h
  intro k
  induction k with
  | zero =>
    refine (one 0).congr fun n => ?_
    rw [acts_sum]
    have : Rs.acts c w (sumV c y 0) = fun _ _ => 0 := by
      show Rs.acts c w (fun _ _ => 0) = _
      rw [acts_zero]
    rw [this]
    unfold Lf
    grind
  | succ k ih =>
    refine (ih.add (one (k + 1))).congr fun n => ?_
    rw [acts_sum, Lf_add]

/-- what is of finite order is, moved, a word without one of the letters -/
theorem finite_low (hM : Ords (Mo a b d)) (hC : Ps (Mo a b d) c) {g : Nat → Rat} (hg : Gs c g) {y : List Nat} (hy : ∀ l ∈ y, l < 3) {k : Nat} (hk : (mk (rp y (k + 1)) : G (Mo a b d)) = mk []) :
    ∃ w z s, Red (Mo a b d) z ∧ (mk z : G (Mo a b d)) = mk (w ++ (y ++ w.reverse)) ∧ (∀ l ∈ w, l < 3) ∧ (∀ l ∈ z, l < 3) ∧ s < 3 ∧ s ∉ z := by
  obtain ⟨w, hw, hn⟩ := top_low hM hC hy (k + 1)
  obtain ⟨z, hz, hr⟩ := red_exists (mk (w ++ (y ++ w.reverse)) : G (Mo a b d))
  have hU := sum_set hC.toCs y (k + 1)
  have hzl : ∀ l ∈ z, l < 3 := red_low hz (fun l h => by
    simp only [List.mem_append, List.mem_reverse] at h
    rcases h with h | h | h
    · exact hw l h
    · exact hy l h
    · exact hw l h) hr
  have hfix : Sim (Rs.acts c z (Rs.acts c w (sumV c y (k + 1)))) (Rs.acts c w (sumV c y (k + 1))) := by
    rw [← acts_append]
    have e : (mk (z ++ w) : G (Mo a b d)) = mk (w ++ y) := by
      rw [← mk_mul, hz, ← mk_mul, ← mk_mul, ← inv_mk, mul_assoc, mul_assoc, inv_mul_self, mul_one, mk_mul]
    refine (acts_sim hC.toCs hU e).trans ?_
    rw [acts_append]
    exact Sim.acts hC.toCs (keeps hC.toCs hk) w
  have hf := fixed hM hC (SetV.acts hC.toCs hU w) hn hr hfix
  have hex : ∃ s, s < 3 ∧ s ∉ z := by
    refine Classical.byContradiction fun hx => ?_
    refine (sum_stands hM hC hg hw hy k).not_nul (Lf_nul g fun t ht => hf t ?_)
    exact Classical.byContradiction fun hnot => hx ⟨t, ht, hnot⟩
  obtain ⟨s, hs, hsz⟩ := hex
  exact ⟨w, z, s, hr, hz, hw, hzl, hs, hsz⟩
end Go.Proofs.YtcpeeopdaakbaaaGreat.Rs

namespace Go.Proofs.YtcpeeopdaakbaaaGreat.Rs
set_option linter.unusedVariables false
open Cx

variable {M : Nat → Nat → Nat}

theorem rp_succ' (y : List Nat) (k : Nat) : rp y (k + 1) = rp y k ++ y := by
  induction k with
  | zero => simp [rp]
  | succ k ih =>
    show y ++ rp y (k + 1) = (y ++ rp y k) ++ y
    rw [ih, List.append_assoc]
theorem rp_mul (y : List Nat) (p : Nat) : ∀ q, rp (rp y p) q = rp y (p * q) := by
  have add : ∀ q p, rp y (p + q) = rp y p ++ rp y q := by
    intro q p
    induction p with
    | zero => simp [rp]
    | succ p ih => rw [Nat.add_right_comm]; show y ++ rp y (p + q) = (y ++ rp y p) ++ rp y q; rw [ih, List.append_assoc]
  intro q
  induction q with
  | zero => rfl
  | succ q ih =>
    show rp y p ++ rp (rp y p) q = _
    rw [ih, Nat.mul_succ, Nat.add_comm, add]
theorem rp_one {y : List Nat} (h : (mk y : G M) = mk []) (q : Nat) : (mk (rp y q) : G M) = mk [] := by
  induction q with
  | zero => rfl
  | succ q ih =>
    show (mk y * mk (rp y q) : G M) = mk []
    rw [h, ih]; rfl
theorem alt_rp (i j q : Nat) : alt i j (2 * q) = rp [i, j] q := by
  induction q with
  | zero => rfl
  | succ q ih =>
    show alt i j (2 * q + 2) = [i, j] ++ rp [i, j] q
    rw [← ih]; rfl

/-- a reduced word of two letters -/
theorem two_letters {i j : Nat} : ∀ {z : List Nat}, Red M z → (∀ l ∈ z, l = i ∨ l = j) → z = alt i j z.length ∨ z = alt j i z.length := by
  intro z
  induction z with
  | nil => intro _ _; exact .inl rfl
  | cons t z ih =>
    intro hr hl
    have ht := hl t List.mem_cons_self
    have h := ih (red_tail hr) fun l hm => hl l (List.mem_cons_of_mem _ hm)
    have hne : ∀ v, z = t :: v → False := by
      intro v e
      subst e
      have := hr v (mk_sq [] v t).symm
      simp at this
      omega
    cases z with
    | nil =>
      rcases ht with rfl | rfl
      · exact .inl rfl
      · exact .inr rfl
    | cons u z =>
      have hu : u ≠ t := fun e => hne z (by rw [e])
      have hz : ∀ x x', u :: z = alt x x' (z.length + 1) → u = x := by
        intro x x' e
        have e2 : alt x x' (z.length + 1) = x :: alt x' x z.length := rfl
        rw [e2] at e
        injection e
      rcases h with h | h
      · have e1 := hz i j h
        have : t = j := by
          rcases ht with ht | ht
          · exact absurd (e1.trans ht.symm) hu
          · exact ht
        right
        subst this
        show t :: u :: z = t :: alt i t (z.length + 1)
        rw [← List.length_cons (a := u), ← h]
      · have e1 := hz j i h
        have : t = i := by
          rcases ht with ht | ht
          · exact ht
          · exact absurd (e1.trans ht.symm) hu
        left
        subst this
        show t :: u :: z = t :: alt j t (z.length + 1)
        rw [← List.length_cons (a := u), ← h]

/-- an alternating word of finite order -/
theorem alt_order (hM : Ords M) {i j : Nat} (hij : i ≠ j) {n k : Nat} (hk : (mk (rp (alt i j n) (k + 1)) : G M) = mk []) :
    (n % 2 = 1 ∧ (mk (rp (alt i j n) 2) : G M) = mk []) ∨ (n % 2 = 0 ∧ ((mk (alt i j n) : G M) = mk [] ∨ (M i j ≠ 0 ∧ (mk (rp (alt i j n) (M i j)) : G M) = mk []))) := by
  by_cases hn : n % 2 = 0
  · right
    refine ⟨hn, ?_⟩
    obtain ⟨p, rfl⟩ : ∃ p, n = 2 * p := ⟨n / 2, by omega⟩
    by_cases h0 : M i j = 0
    · left
      rcases Nat.eq_zero_or_pos p with hp | hp
      · subst hp; rfl
      · exfalso
        rw [alt_rp, rp_mul, ← alt_rp] at hk
        exact alt_exact hM hij (Nat.mul_pos hp (Nat.succ_pos k)) (.inl h0) hk
    · right
      refine ⟨h0, ?_⟩
      rw [alt_rp, rp_mul, Nat.mul_comm p (M i j), ← rp_mul]
      refine rp_one ?_ p
      rw [← alt_rp]
      exact alt_two i j
  · left
    refine ⟨by omega, ?_⟩
    have e : (alt i j n).reverse = alt i j n := by rw [alt_reverse, if_neg hn]
    have h := mk_pal (M := M) (alt i j n)
    rw [e] at h
    show (mk (alt i j n ++ (alt i j n ++ [])) : G M) = mk []
    rw [List.append_nil]
    exact h

/-- powers of what is moved -/
theorem moved_rp {w y z : List Nat} (hz : (mk z : G M) = mk (w ++ (y ++ w.reverse))) (q : Nat) : (mk (rp z q) : G M) = mk w * mk (rp y q) * inv (mk w) := by
  induction q with
  | zero =>
    show (mk [] : G M) = mk w * mk [] * inv (mk w)
    rw [mul_one, mul_inv]
  | succ q ih =>
    show (mk z * mk (rp z q) : G M) = mk w * (mk y * mk (rp y q)) * inv (mk w)
    rw [ih, hz, ← mk_mul, ← mk_mul, ← inv_mk]
    simp only [mul_assoc]
    rw [← mul_assoc (inv (mk w)) (mk w), inv_mul_self, one_mul]
theorem moved_one {w y z : List Nat} (hz : (mk z : G M) = mk (w ++ (y ++ w.reverse))) {q : Nat} : (mk (rp z q) : G M) = mk [] ↔ (mk (rp y q) : G M) = mk [] := by
  rw [moved_rp hz]
  constructor
  · intro h
    have h1 : (mk w * mk (rp y q) : G M) * inv (mk w) = mk w * inv (mk w) := by rw [h, mul_inv]
    have h2 := cancel_right h1
    have h3 : (mk w * mk (rp y q) : G M) = mk w * mk [] := by rw [h2, mul_one]
    exact cancel_left h3
  · intro h
    rw [h, mul_one, mul_inv]

/-- THE ORDERS: of a word of finite order -/
theorem orders {a b d : Nat} {c : Nat → Nat → Nat → Rat} (hM : Ords (Mo a b d)) (hC : Ps (Mo a b d) c) {g : Nat → Rat} (hg : Gs c g) {y : List Nat} (hy : ∀ l ∈ y, l < 3) {k : Nat} (hk : (mk (rp y (k + 1)) : G (Mo a b d)) = mk []) :
    (y.length % 2 = 1 ∧ (mk (rp y 2) : G (Mo a b d)) = mk []) ∨
    (y.length % 2 = 0 ∧ ((mk y : G (Mo a b d)) = mk [] ∨ ∃ i j, i < 3 ∧ j < 3 ∧ i ≠ j ∧ Mo a b d i j ≠ 0 ∧ (mk (rp y (Mo a b d i j)) : G (Mo a b d)) = mk [])) := by
  obtain ⟨w, z, s, hr, hz, _, hzl, hs, hsz⟩ := finite_low hM hC hg hy hk
  obtain ⟨i, j, hi, hj, hij, hl⟩ : ∃ i j, i < 3 ∧ j < 3 ∧ i ≠ j ∧ ∀ l ∈ z, l = i ∨ l = j := by
    have hne : ∀ l ∈ z, l ≠ s := fun l h e => hsz (e ▸ h)
    have h3 : s = 0 ∨ s = 1 ∨ s = 2 := by omega
    rcases h3 with rfl | rfl | rfl
    · exact ⟨1, 2, by omega, by omega, by omega, fun l h => by have := hzl l h; have := hne l h; omega⟩
    · exact ⟨0, 2, by omega, by omega, by omega, fun l h => by have := hzl l h; have := hne l h; omega⟩
    · exact ⟨0, 1, by omega, by omega, by omega, fun l h => by have := hzl l h; have := hne l h; omega⟩
  have hpar : z.length % 2 = y.length % 2 := by
    have := len_parity hz
    simp only [List.length_append, List.length_reverse] at this
    omega
  have hzk := (moved_one hz (q := k + 1)).2 hk
  have one : ∀ {q : Nat}, (mk (rp z q) : G (Mo a b d)) = mk [] → (mk (rp y q) : G (Mo a b d)) = mk [] := fun h => (moved_one hz).1 h
  have oneone : (mk z : G (Mo a b d)) = mk [] → (mk y : G (Mo a b d)) = mk [] := fun h => by
    have h1 := one (q := 1) (by show (mk (z ++ []) : G (Mo a b d)) = mk []; rw [List.append_nil]; exact h)
    have h2 : rp y 1 = y := by show y ++ [] = y; rw [List.append_nil]
    rw [h2] at h1
    exact h1
  have fin : ∀ i j, i < 3 → j < 3 → i ≠ j → z = alt i j z.length →
      (y.length % 2 = 1 ∧ (mk (rp y 2) : G (Mo a b d)) = mk []) ∨
      (y.length % 2 = 0 ∧ ((mk y : G (Mo a b d)) = mk [] ∨ ∃ i j, i < 3 ∧ j < 3 ∧ i ≠ j ∧ Mo a b d i j ≠ 0 ∧ (mk (rp y (Mo a b d i j)) : G (Mo a b d)) = mk [])) := by
    intro i j hi hj hij e
    rw [e] at hzk
    rcases alt_order hM hij hzk with ⟨h1, h2⟩ | ⟨h1, h2 | ⟨h2, h3⟩⟩
    · rw [← e] at h2
      exact .inl ⟨by omega, one h2⟩
    · rw [← e] at h2
      exact .inr ⟨by omega, .inl (oneone h2)⟩
    · rw [← e] at h3
      exact .inr ⟨by omega, .inr ⟨i, j, hi, hj, hij, h2, one h3⟩⟩
  rcases two_letters hr hl with h | h
  · exact fin i j hi hj hij h
  · exact fin j i hj hi (Ne.symm hij) h
end Go.Proofs.YtcpeeopdaakbaaaGreat.Rs

namespace Go.Proofs.YtcpeeopdaakbaaaGreat.Rs
set_option linter.unusedVariables false

/-- an interval is halved: S is not above nothing at its lower end, above at its upper end -/
def half (m : Nat) (p : Rat × Rat) : Rat × Rat := if S ((p.1 + p.2) / 2) m ≤ 0 then ((p.1 + p.2) / 2, p.2) else (p.1, (p.1 + p.2) / 2)
def halves (m : Nat) (l u : Rat) : Nat → Rat × Rat
  | 0 => (l, u)
  | n + 1 => half m (halves m l u n)
def pw (n : Nat) : Rat := ((2 ^ n : Nat) : Rat)

structure Hv (m : Nat) (l u : Rat) (n : Nat) (p : Rat × Rat) : Prop where
  lo : l ≤ p.1
  hi : p.2 ≤ u
  lt : p.1 < p.2
  down : S p.1 m ≤ 0
  up : 0 < S p.2 m
  wide : (p.2 - p.1) * pw n = u - l

theorem pw_succ (n : Nat) : pw (n + 1) = pw n * 2 := by
  unfold pw
  rw [Nat.pow_succ]
  exact Rat.natCast_mul _ _

theorem halves_ok {m : Nat} {l u : Rat} (hlu : l < u) (h1 : S l m ≤ 0) (h2 : 0 < S u m) : ∀ n, Hv m l u n (halves m l u n) := by
  intro n
  induction n with
  | zero => exact ⟨by show l ≤ l; grind, by show u ≤ u; grind, hlu, h1, h2, by show (u - l) * pw 0 = u - l; have : pw 0 = 1 := rfl; rw [this]; grind⟩
  | succ n ih =>
    obtain ⟨a, b, d, e, f, g⟩ := ih
    show Hv m l u (n + 1) (half m (halves m l u n))
    generalize halves m l u n = p at *
    unfold half
    by_cases hs : S ((p.1 + p.2) / 2) m ≤ 0
    · rw [if_pos hs]
      exact ⟨by show l ≤ (p.1 + p.2) / 2; grind, b, by show (p.1 + p.2) / 2 < p.2; grind, hs, f, by show (p.2 - (p.1 + p.2) / 2) * pw (n + 1) = u - l; rw [pw_succ]; grind⟩
    · rw [if_neg hs]
      exact ⟨a, by show (p.1 + p.2) / 2 ≤ u; grind, by show p.1 < (p.1 + p.2) / 2; grind, e, by show 0 < S ((p.1 + p.2) / 2) m; grind, by show ((p.1 + p.2) / 2 - p.1) * pw (n + 1) = u - l; rw [pw_succ]; grind⟩

theorem halves_in {m : Nat} {l u : Rat} (hlu : l < u) (h1 : S l m ≤ 0) (h2 : 0 < S u m) (n : Nat) : ∀ k, (halves m l u n).1 ≤ (halves m l u (n + k)).1 ∧ (halves m l u (n + k)).2 ≤ (halves m l u n).2 := by
  intro k
  induction k with
  | zero => exact ⟨by grind, by grind⟩
  | succ k ih =>
    have h := halves_ok hlu h1 h2 (n + k)
    have hlt := h.lt
    have e : halves m l u (n + (k + 1)) = half m (halves m l u (n + k)) := rfl
    rw [e]
    generalize halves m l u (n + k) = p at *
    unfold half
    by_cases hs : S ((p.1 + p.2) / 2) m ≤ 0
    · rw [if_pos hs]; exact ⟨by show _ ≤ (p.1 + p.2) / 2; grind, ih.2⟩
    · rw [if_neg hs]; exact ⟨ih.1, by show (p.1 + p.2) / 2 ≤ _; grind⟩
end Go.Proofs.YtcpeeopdaakbaaaGreat.Rs

namespace Go.Proofs.YtcpeeopdaakbaaaGreat.Rs
set_option linter.unusedVariables false

theorem pw_ge (n : Nat) : (n : Rat) ≤ pw n := by
  unfold pw
  exact Rat.natCast_le_natCast.2 (Nat.le_of_lt Nat.lt_two_pow_self)
theorem pw_pos (n : Nat) : 0 < pw n := by
  unfold pw
  have : ((0 : Nat) : Rat) < ((2 ^ n : Nat) : Rat) := Rat.natCast_lt_natCast.2 (Nat.two_pow_pos n)
  exact this

theorem arch (q : Rat) : ∃ N : Nat, ∀ n, N ≤ n → q < pw n := by
  refine ⟨q.ceil.toNat + 1, fun n hn => ?_⟩
  have h1 : q ≤ (q.ceil : Rat) := Rat.le_ceil
  have h2 : ((q.ceil : Int) : Rat) ≤ (((q.ceil.toNat : Nat) : Int) : Rat) := Rat.intCast_le_intCast.2 (by omega)
  have h3 : ((q.ceil.toNat : Nat) : Rat) < ((n : Nat) : Rat) := Rat.natCast_lt_natCast.2 (by omega)
  have h4 := pw_ge n
  have h5 : (((q.ceil.toNat : Nat) : Int) : Rat) = ((q.ceil.toNat : Nat) : Rat) := rfl
  grind

/-- what is less than w / 2^n falls to nothing -/
theorem small (w : Rat) {e : Rat} (he : 0 < e) : ∃ N : Nat, ∀ n, N ≤ n → w < e * pw n := by
  obtain ⟨N, h⟩ := arch (w / e)
  refine ⟨N, fun n hn => ?_⟩
  have h1 := h n hn
  have h2 : w / e * e = w := by rw [Rat.div_def, Rat.mul_assoc, Rat.inv_mul_cancel _ (by grind), Rat.mul_one]
  have h3 : 0 < (pw n - w / e) * e := Rat.mul_pos (by grind) he
  grind

/-- bounds of S and of its slope on 0 .. 2 -/
def Bd : Nat → Rat
  | 0 => 0
  | 1 => 1
  | k + 2 => 2 * Bd (k + 1) + Bd k
def Sl : Nat → Rat
  | 0 => 0
  | 1 => 0
  | k + 2 => 2 * Sl (k + 1) + Bd (k + 1) + Sl k

theorem abs_mul {x y a b : Rat} (ha : 0 ≤ a) (hb : 0 ≤ b) (hx : -a ≤ x ∧ x ≤ a) (hy : -b ≤ y ∧ y ≤ b) : -(a * b) ≤ x * y ∧ x * y ≤ a * b := by
  have h1 : 0 ≤ (a - x) * (b + y) := Rat.mul_nonneg (by grind) (by grind)
  have h2 : 0 ≤ (a + x) * (b - y) := Rat.mul_nonneg (by grind) (by grind)
  have h3 : 0 ≤ (a - x) * (b - y) := Rat.mul_nonneg (by grind) (by grind)
  have h4 : 0 ≤ (a + x) * (b + y) := Rat.mul_nonneg (by grind) (by grind)
  constructor <;> grind

theorem bd_nn : ∀ k, 0 ≤ Bd k ∧ 0 ≤ Bd (k + 1) := by
  intro k
  induction k with
  | zero => exact ⟨by show (0 : Rat) ≤ 0; grind, by show (0 : Rat) ≤ 1; grind⟩
  | succ k ih => exact ⟨ih.2, by show 0 ≤ 2 * Bd (k + 1) + Bd k; grind⟩
theorem sl_nn : ∀ k, 0 ≤ Sl k ∧ 0 ≤ Sl (k + 1) := by
  intro k
  induction k with
  | zero => exact ⟨by show (0 : Rat) ≤ 0; grind, by show (0 : Rat) ≤ 0; grind⟩
  | succ k ih => exact ⟨ih.2, by have := (bd_nn k).2; show 0 ≤ 2 * Sl (k + 1) + Bd (k + 1) + Sl k; grind⟩

theorem S_bd {x : Rat} (h0 : 0 ≤ x) (h2 : x ≤ 2) : ∀ k, (-Bd k ≤ S x k ∧ S x k ≤ Bd k) ∧ (-Bd (k + 1) ≤ S x (k + 1) ∧ S x (k + 1) ≤ Bd (k + 1)) := by
  intro k
  induction k with
  | zero => exact ⟨⟨by show -(0 : Rat) ≤ 0; grind, by show (0 : Rat) ≤ 0; grind⟩, ⟨by show -(1 : Rat) ≤ 1; grind, by show (1 : Rat) ≤ 1; grind⟩⟩
  | succ k ih =>
    refine ⟨ih.2, ?_⟩
    have a := abs_mul (x := x) (y := S x (k + 1)) (a := 2) (b := Bd (k + 1)) (by grind) (bd_nn k).2 ⟨by grind, h2⟩ ih.2
    have e : Bd (k + 1 + 1) = 2 * Bd (k + 1) + Bd k := rfl
    have f : S x (k + 1 + 1) = x * S x (k + 1) - S x k := S_step _ _
    rw [e, f]
    obtain ⟨⟨b1, b2⟩, _⟩ := ih
    constructor <;> grind

theorem S_sl {x y : Rat} (h0 : 0 ≤ x) (h2 : x ≤ 2) (g0 : 0 ≤ y) (g2 : y ≤ 2) (hxy : x ≤ y) : ∀ k,
    (-(Sl k * (y - x)) ≤ S y k - S x k ∧ S y k - S x k ≤ Sl k * (y - x)) ∧ (-(Sl (k + 1) * (y - x)) ≤ S y (k + 1) - S x (k + 1) ∧ S y (k + 1) - S x (k + 1) ≤ Sl (k + 1) * (y - x)) := by
  intro k
  induction k with
  | zero =>
    refine ⟨⟨by show -((0 : Rat) * (y - x)) ≤ 0 - 0; grind, by show (0 : Rat) - 0 ≤ 0 * (y - x); grind⟩, ⟨by show -((0 : Rat) * (y - x)) ≤ 1 - 1; grind, by show (1 : Rat) - 1 ≤ 0 * (y - x); grind⟩⟩
  | succ k ih =>
    refine ⟨ih.2, ?_⟩
    have hs := (sl_nn k).2
    have hd : 0 ≤ y - x := by grind
    have a := abs_mul (x := x) (y := S y (k + 1) - S x (k + 1)) (a := 2) (b := Sl (k + 1) * (y - x)) (by grind) (Rat.mul_nonneg hs hd) ⟨by grind, h2⟩ ih.2
    have b := abs_mul (x := y - x) (y := S y (k + 1)) (a := y - x) (b := Bd (k + 1)) hd (bd_nn k).2 ⟨by grind, by grind⟩ (S_bd g0 g2 k).2
    have e : Sl (k + 1 + 1) = 2 * Sl (k + 1) + Bd (k + 1) + Sl k := rfl
    have f : S x (k + 1 + 1) = x * S x (k + 1) - S x k := S_step _ _
    have f' : S y (k + 1 + 1) = y * S y (k + 1) - S y k := S_step _ _
    rw [e, f, f']
    obtain ⟨⟨b1, b2⟩, _⟩ := ih
    constructor <;> grind
end Go.Proofs.YtcpeeopdaakbaaaGreat.Rs

namespace Go.Proofs.YtcpeeopdaakbaaaGreat.Rs
set_option linter.unusedVariables false

theorem less_of {x e p : Rat} (hp : 0 < p) (h : x * p < e * p) : x < e := by
  refine Classical.byContradiction fun hc => ?_
  have : 0 ≤ (x - e) * p := Rat.mul_nonneg (by grind) (by grind)
  grind

theorem number {m : Nat} {l u : Rat} (h0 : 0 ≤ l) (hlu : l < u) (h2 : u ≤ 2) (hd : S l m ≤ 0) (hu : 0 < S u m) (hk : ∀ k, k < m → 1 ≤ k → Sl k * (u - l) < S l k) :
    ∃ f : Nat → Rat, Set f ∧ Nul (fun n => S (f n) m) ∧ (∀ k, 1 ≤ k → k < m → Pos (fun n => S (f n) k)) ∧ ∀ n, l ≤ f n := by
  refine ⟨fun n => (halves m l u n).1, ?_, ?_, ?_, fun n => (halves_ok hlu hd hu n).lo⟩
  · intro e he
    obtain ⟨N, hN⟩ := small (u - l) he
    refine ⟨N, fun n k hn hkk => ?_⟩
    obtain ⟨i, rfl⟩ : ∃ i, n = N + i := ⟨n - N, by omega⟩
    obtain ⟨j, rfl⟩ : ∃ j, k = N + j := ⟨k - N, by omega⟩
    have a := halves_in hlu hd hu N i
    have b := halves_in hlu hd hu N j
    have o := halves_ok hlu hd hu N
    have x := (halves_ok hlu hd hu (N + i)).lt
    have h := hN N (Nat.le_refl _)
    rw [← o.wide] at h
    have := less_of (pw_pos N) h
    show (halves m l u (N + i)).1 - (halves m l u (N + j)).1 < e
    grind
  · intro e he
    obtain ⟨N, hN⟩ := small (Sl m * (u - l)) he
    refine ⟨N, fun n hn => ?_⟩
    have o := halves_ok hlu hd hu n
    have x := o.lt
    have y := o.lo
    have z := o.hi
    have s := (S_sl (x := (halves m l u n).1) (y := (halves m l u n).2) (by grind) (by grind) (by grind) (by grind) (by grind) m).1.2
    have h := hN n hn
    rw [← o.wide, ← Rat.mul_assoc] at h
    have h3 := less_of (pw_pos n) h
    have d1 := o.down
    have d2 := o.up
    constructor <;> grind
  · intro k h1 hkm
    have h := hk k hkm h1
    refine ⟨(S l k - Sl k * (u - l)) / 2, by grind, 0, fun n _ => ?_⟩
    have o := halves_ok hlu hd hu n
    have x := o.lt
    have y := o.lo
    have z := o.hi
    have s := (S_sl (x := l) (y := (halves m l u n).1) h0 (by grind) (by grind) (by grind) y k).1.1
    have q : 0 ≤ Sl k * (u - (halves m l u n).1) := Rat.mul_nonneg (sl_nn k).1 (by grind)
    show (S l k - Sl k * (u - l)) / 2 < S (halves m l u n).1 k
    grind

/-- the lower ends: 2 cos (pi / m), seven places -/
def lT : Nat → Rat
  | 2 => 0 / 10000000
  | 3 => 10000000 / 10000000
  | 4 => 14142135 / 10000000
  | 5 => 16180339 / 10000000
  | 6 => 17320508 / 10000000
  | 7 => 18019377 / 10000000
  | 8 => 18477590 / 10000000
  | 9 => 18793852 / 10000000
  | 10 => 19021130 / 10000000
  | 11 => 19189859 / 10000000
  | 12 => 19318516 / 10000000
  | _ => 2
def wT : Rat := 1 / 10000000

theorem ends : ∀ i : Fin 11, 0 ≤ lT (i.val + 2) ∧ lT (i.val + 2) + wT ≤ 2 ∧ S (lT (i.val + 2)) (i.val + 2) ≤ 0 ∧ 0 < S (lT (i.val + 2) + wT) (i.val + 2) := by decide +kernel
theorem slopes : ∀ i : Fin 11, ∀ k : Fin 12, k.val < i.val + 2 → 1 ≤ k.val → Sl k.val * wT < S (lT (i.val + 2)) k.val := by decide +kernel

theorem number_m {m : Nat} (h2 : 2 ≤ m) (h12 : m ≤ 12) :
    ∃ f : Nat → Rat, Set f ∧ Nul (fun n => S (f n) m) ∧ (∀ k, 1 ≤ k → k < m → Pos (fun n => S (f n) k)) ∧ ∀ n, lT m ≤ f n := by
  obtain ⟨i, rfl⟩ : ∃ i : Fin 11, m = i.val + 2 := ⟨⟨m - 2, by omega⟩, by simp; omega⟩
  obtain ⟨a, b, d, e⟩ := ends i
  have hw : (0 : Rat) < wT := by decide +kernel
  refine number a (u := lT (i.val + 2) + wT) (by grind) b d e fun k h1 h3 => ?_
  have := slopes i ⟨k, by omega⟩ h1 h3
  have e : lT (i.val + 2) + wT - lT (i.val + 2) = wT := by grind
  rw [e]
  exact this

theorem S_two (k : Nat) : S 2 k = (k : Rat) := by
  have key : ∀ k : Nat, S 2 k = (k : Rat) ∧ S 2 (k + 1) = ((k + 1 : Nat) : Rat) := by
    intro k
    induction k with
    | zero => exact ⟨rfl, rfl⟩
    | succ k ih =>
      refine ⟨ih.2, ?_⟩
      rw [S_step, ih.1, ih.2]
      have h1 : ((k + 1 + 1 : Nat) : Rat) = (k : Rat) + 1 + 1 := by rw [Rat.natCast_add, Rat.natCast_add]; rfl
      have h2 : ((k + 1 : Nat) : Rat) = (k : Rat) + 1 := by rw [Rat.natCast_add]; rfl
      rw [h1, h2]
      grind
  exact (key k).1
end Go.Proofs.YtcpeeopdaakbaaaGreat.Rs

namespace Go.Proofs.YtcpeeopdaakbaaaGreat.Rs
set_option linter.unusedVariables false
open Cx

noncomputable def cm (m : Nat) : Nat → Rat := if h : 2 ≤ m ∧ m ≤ 12 then Classical.choose (number_m h.1 h.2) else fun _ => 2

theorem cm_two (n : Nat) : cm 0 n = 2 := by
  unfold cm
  rw [dif_neg (by omega)]
theorem cm_ok {m : Nat} (h : 2 ≤ m ∧ m ≤ 12) : Set (cm m) ∧ Nul (fun n => S (cm m n) m) ∧ (∀ k, 1 ≤ k → k < m → Pos (fun n => S (cm m n) k)) ∧ ∀ n, lT m ≤ cm m n := by
  unfold cm
  rw [dif_pos h]
  exact Classical.choose_spec (number_m h.1 h.2)

noncomputable def cc (a b d : Nat) : Nat → Nat → Nat → Rat := fun i j => cm (Mo a b d i j)

theorem cm_ge {m : Nat} (h : Lim m) (n : Nat) : lT m ≤ cm m n := by
  rcases h with h | h
  · subst h
    rw [cm_two]
    show (2 : Rat) ≤ 2
    grind
  · exact (cm_ok h).2.2.2 n

theorem cc_ok {a b d : Nat} (ha : Lim a) (hb : Lim b) (hd : Lim d) : Ps (Mo a b d) (cc a b d) where
  sym := fun i j n => by unfold cc; rw [Mo_symm]
  set := fun i j => by
    unfold cc
    rcases Mo_lim ha hb hd i j with h | h
    · rw [h]; exact (set_const 2).congr cm_two
    · exact (cm_ok h).1
  nul := fun i j _ h0 => by
    unfold cc
    rcases Mo_lim ha hb hd i j with h | h
    · exact absurd h h0
    · exact (cm_ok h).2.1
  pos := fun i j _ k h1 hk => by
    unfold cc
    rcases Mo_lim ha hb hd i j with h | h
    · rw [h]
      refine ⟨1 / 2, by grind, 0, fun n _ => ?_⟩
      show (1 : Rat) / 2 < S (cm 0 n) k
      rw [cm_two, S_two]
      have : ((1 : Nat) : Rat) ≤ ((k : Nat) : Rat) := Rat.natCast_le_natCast.2 h1
      have e : ((1 : Nat) : Rat) = 1 := rfl
      grind
    · rcases hk with h0 | hk
      · omega
      · exact (cm_ok h).2.2.1 k h1 hk

/-- whole numbers for the lower ends -/
def li : Nat → Nat
  | 2 => 0
  | 3 => 10000000
  | 4 => 14142135
  | 5 => 16180339
  | 6 => 17320508
  | 7 => 18019377
  | 8 => 18477590
  | 9 => 18793852
  | 10 => 19021130
  | 11 => 19189859
  | 12 => 19318516
  | _ => 20000000
def turnG (a b d : Nat) (v : Nat × Nat × Nat) : Nat × Nat × Nat :=
  ((li a * v.2.1 + li d * v.2.2 + 20000000 * v.1) / 40000000, (li a * v.1 + li b * v.2.2 + 20000000 * v.2.1) / 40000000, (li d * v.1 + li b * v.2.1 + 20000000 * v.2.2) / 40000000)
def turnsG (a b d : Nat) : Nat → Nat × Nat × Nat
  | 0 => (1000000000, 1000000000, 1000000000)
  | n + 1 => turnG a b d (turnsG a b d n)

def limB (m : Nat) : Bool := m == 0 || (2 ≤ m && m ≤ 12)
def gB (a b d : Nat) : Bool :=
  let v := turnsG a b d 6
  0 < v.1 && 0 < v.2.1 && 0 < v.2.2 && 20000000 * v.1 ≤ li a * v.2.1 + li d * v.2.2 && 20000000 * v.2.1 ≤ li a * v.1 + li b * v.2.2 && 20000000 * v.2.2 ≤ li d * v.1 + li b * v.2.1

theorem gB_all : ∀ a b d : Fin 13, limB a.val = true → limB b.val = true → limB d.val = true → faultS a.val b.val d.val = 0 → gB a.val b.val d.val = true := by decide +kernel

theorem li_T : ∀ m : Fin 13, lT m.val * 10000000 = ((li m.val : Nat) : Rat) ∨ m.val = 1 := by decide +kernel


theorem limB_of {m : Nat} (h : Lim m) : limB m = true ∧ m < 13 ∧ m ≠ 1 := by
  unfold limB
  rcases h with h | h
  · subst h; exact ⟨rfl, by omega, by omega⟩
  · refine ⟨?_, by omega, by omega⟩
    simp [h.1, h.2]

theorem li_of {m : Nat} (h : Lim m) : lT m * 10000000 = ((li m : Nat) : Rat) := by
  obtain ⟨_, h1, h2⟩ := limB_of h
  rcases li_T ⟨m, h1⟩ with h3 | h3
  · exact h3
  · exact absurd h3 h2

theorem up_of {x y z : Nat} {m k : Nat} (hm : Lim m) (hk : Lim k) (h : 20000000 * x ≤ li m * y + li k * z) (n : Nat) : 0 ≤ (x : Rat) * -2 + (y : Rat) * cm m n + (z : Rat) * cm k n := by
  have h1 : ((20000000 * x : Nat) : Rat) ≤ ((li m * y + li k * z : Nat) : Rat) := Rat.natCast_le_natCast.2 h
  rw [Rat.natCast_add, Rat.natCast_mul, Rat.natCast_mul, Rat.natCast_mul, ← li_of hm, ← li_of hk] at h1
  have e : ((20000000 : Nat) : Rat) = 20000000 := rfl
  rw [e] at h1
  have y0 : (0 : Rat) ≤ (y : Rat) := Rat.natCast_nonneg
  have z0 : (0 : Rat) ≤ (z : Rat) := Rat.natCast_nonneg
  have a := Rat.mul_nonneg y0 (show 0 ≤ cm m n - lT m by have := cm_ge hm n; grind)
  have b := Rat.mul_nonneg z0 (show 0 ≤ cm k n - lT k by have := cm_ge hk n; grind)
  grind

theorem nn_of {f : Nat → Rat} (h : ∀ n, 0 ≤ f n) : Nn f := fun e he => ⟨0, fun n _ => by have := h n; grind⟩

theorem gs_ok {a b d : Nat} (hg : Good a b d) : ∃ g, Gs (cc a b d) g := by
  obtain ⟨a1, a2, _⟩ := limB_of hg.la
  obtain ⟨b1, b2, _⟩ := limB_of hg.lb
  obtain ⟨d1, d2, _⟩ := limB_of hg.lc
  have h := gB_all ⟨a, a2⟩ ⟨b, b2⟩ ⟨d, d2⟩ a1 b1 d1 hg.lf
  unfold gB at h
  simp only [Bool.and_eq_true, decide_eq_true_eq] at h
  generalize turnsG a b d 6 = v at h
  obtain ⟨⟨⟨⟨⟨p0, p1⟩, p2⟩, q0⟩, q1⟩, q2⟩ := h
  have cast : ∀ {x : Nat}, 0 < x → (0 : Rat) < (x : Rat) := fun {x} hx => by
    have : ((0 : Nat) : Rat) < ((x : Nat) : Rat) := Rat.natCast_lt_natCast.2 hx
    exact this
  refine ⟨fun t => if t = 0 then (v.1 : Rat) else if t = 1 then (v.2.1 : Rat) else (v.2.2 : Rat), ⟨fun t => ?_, fun t ht => ?_⟩⟩
  · by_cases h0 : t = 0
    · simp only [h0, if_true]; exact cast p0
    · by_cases h1 : t = 1
      · simp only [h1]; exact cast p1
      · simp only [h0, h1, if_false]; exact cast p2
  · have h3 : t = 0 ∨ t = 1 ∨ t = 2 := by omega
    rcases h3 with rfl | rfl | rfl
    · refine (nn_of (up_of hg.la hg.lc q0)).congr fun n => ?_
      show (v.1 : Rat) * -2 + (v.2.1 : Rat) * cm a n + (v.2.2 : Rat) * cm d n = _
      rfl
    · refine (nn_of (up_of hg.la hg.lb q1)).congr fun n => ?_
      show (v.1 : Rat) * cm a n + (v.2.1 : Rat) * -2 + (v.2.2 : Rat) * cm b n = _
      grind
    · refine (nn_of (up_of hg.lc hg.lb q2)).congr fun n => ?_
      show (v.1 : Rat) * cm d n + (v.2.1 : Rat) * cm b n + (v.2.2 : Rat) * -2 = _
      grind

/-- THE ORDERS: of a word of finite order, for all orders that are allowed -/
theorem orders_good {a b d : Nat} (hg : Good a b d) {y : List Nat} (hy : ∀ l ∈ y, l < 3) {k : Nat} (hk : (mk (rp y (k + 1)) : G (Mo a b d)) = mk []) :
    (y.length % 2 = 1 ∧ (mk (rp y 2) : G (Mo a b d)) = mk []) ∨
    (y.length % 2 = 0 ∧ ((mk y : G (Mo a b d)) = mk [] ∨ ∃ i j, i < 3 ∧ j < 3 ∧ i ≠ j ∧ Mo a b d i j ≠ 0 ∧ (mk (rp y (Mo a b d i j)) : G (Mo a b d)) = mk [])) := by
  obtain ⟨g, h⟩ := gs_ok hg
  exact orders (Mo_ords hg.la hg.lb hg.lc) (cc_ok hg.la hg.lb hg.lc) h hy hk
#print axioms orders_good
end Go.Proofs.YtcpeeopdaakbaaaGreat.Rs

namespace Go.Proofs.YtcpeeopdaakbaaaGreat.Rs
set_option linter.unusedVariables false
open Cx

theorem rep_rp (s : ByteArray) (n : Nat) : rep s n = rp (bytesN s) n := by
  induction n with
  | zero => simp [rep, rp]
  | succ n ih => rw [rep_succ, ih]; rfl

theorem rp_add {M : Nat → Nat → Nat} (y : List Nat) (p q : Nat) : (mk (rp y (p + q)) : G M) = mk (rp y p) * mk (rp y q) := by
  induction p with
  | zero => rw [Nat.zero_add]; exact (one_mul _).symm
  | succ p ih =>
    rw [Nat.add_right_comm]
    show (mk y * mk (rp y (p + q)) : G M) = mk y * mk (rp y p) * mk (rp y q)
    rw [ih, mul_assoc]

/-- the least one divides all -/
theorem least_dvd {M : Nat → Nat → Nat} {y : List Nat} {k : Nat} (hk : 1 ≤ k) (h1 : (mk (rp y k) : G M) = mk []) (hmin : ∀ j, 1 ≤ j → j < k → (mk (rp y j) : G M) ≠ mk []) {q : Nat} (hq : (mk (rp y q) : G M) = mk []) : k ∣ q := by
  induction q using Nat.strongRecOn with
  | ind q ih =>
    rcases Nat.eq_zero_or_pos q with h0 | h0
    · subst h0; exact Nat.dvd_zero k
    · rcases Nat.lt_or_ge q k with h | h
      · exact absurd hq (hmin q h0 h)
      · obtain ⟨r, rfl⟩ : ∃ r, q = k + r := ⟨q - k, by omega⟩
        have h2 : (mk (rp y r) : G M) = mk [] := by
          rw [rp_add, h1, one_mul] at hq
          exact hq
        exact (Nat.dvd_add_iff_right (Nat.dvd_refl k)).1 (ih r (by omega) h2)

theorem round_orders {a b d : Nat} (hg : Good a b d) {s : ByteArray} (hs : checkS s = 0) {n : Int} (h : RRound a b d s n) :
    (s.size % 2 = 1 → n = 0 ∨ n = 2) ∧
    (n = 0 ∨ n = 1 ∨ n = 2 ∨ ∃ i j k, i < 3 ∧ j < 3 ∧ i ≠ j ∧ n = ((k : Nat) : Int) ∧ 0 < k ∧ Mo a b d i j ≠ 0 ∧ k ∣ Mo a b d i j) := by
  rcases h with ⟨h, _⟩ | ⟨k, rfl, h1, _, h2, h3⟩
  · exact ⟨fun _ => .inl h, .inl h⟩
  · obtain ⟨q, rfl⟩ : ∃ q, k = q + 1 := ⟨k - 1, by omega⟩
    rw [rep_rp] at h2
    have hmin : ∀ j, 1 ≤ j → j < q + 1 → (mk (rp (bytesN s) j) : G (Mo a b d)) ≠ mk [] := fun j a b => by rw [← rep_rp]; exact h3 j a b
    have hd := fun {p : Nat} (hp : (mk (rp (bytesN s) p) : G (Mo a b d)) = mk []) => least_dvd h1 h2 hmin hp
    have ho := orders_good hg (checkS_low hs).1 h2
    rw [bytesN_length] at ho
    have two : (mk (rp (bytesN s) 2) : G (Mo a b d)) = mk [] → q + 1 = 1 ∨ q + 1 = 2 := fun h => by
      have := Nat.le_of_dvd (by omega) (hd h)
      omega
    refine ⟨fun hodd => ?_, ?_⟩
    · rcases ho with ⟨_, ho⟩ | ⟨he, _⟩
      · rcases two ho with h | h
        · exfalso
          rw [h] at h2
          have h4 : rp (bytesN s) 1 = bytesN s := by show bytesN s ++ [] = bytesN s; rw [List.append_nil]
          rw [h4] at h2
          have := len_parity h2
          rw [bytesN_length] at this
          simp at this
          omega
        · right; omega
      · omega
    · rcases ho with ⟨_, ho⟩ | ⟨_, ho | ⟨i, j, hi, hj, hij, h0, ho⟩⟩
      · rcases two ho with h | h
        · right; left; omega
        · right; right; left; omega
      · right; left
        have h4 : rp (bytesN s) 1 = bytesN s := by show bytesN s ++ [] = bytesN s; rw [List.append_nil]
        have := Nat.le_of_dvd (by omega) (hd (p := 1) (by rw [h4]; exact ho))
        omega
      · exact .inr (.inr (.inr ⟨i, j, q + 1, hi, hj, hij, rfl, by omega, h0, hd ho⟩))
end Go.Proofs.YtcpeeopdaakbaaaGreat.Rs
