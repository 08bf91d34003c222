/- The place that is kept is a place: not all three letters keep it. -/
import Derived.Test.YtogchohpnbeldaaTor8
import Derived.Test.YtogchohpnbeldaaZa
namespace Go.Proofs.Ytogchohpnbeldaa.Rs
open Cx

variable {a b d : Nat} {c : Nat → Nat → Nat → Rat}

theorem ds_low {w : List Nat} (hw : ∀ l ∈ w, l < 3) {s : Nat} (h : Ds (mk w : G (Mo a b d)) s) : s < 3 := by
  obtain ⟨u, hu, hr⟩ := red_exists (mk w : G (Mo a b d))
  rw [← hu] at h
  obtain ⟨v, h1, h2⟩ := ds_word h
  have h3 : Red (Mo a b d) (s :: v) := red_same hr h2 (by simpa using h1)
  exact red_low (h2.trans hu) hw h3 s List.mem_cons_self

theorem rp_low {y : List Nat} (hy : ∀ l ∈ y, l < 3) : ∀ k, ∀ l ∈ rp y k, l < 3 := by
  intro k
  induction k with
  | zero => intro l h; cases h
  | succ k ih =>
    intro l h
    rcases List.mem_append.1 h with h | h
    · exact hy l h
    · exact ih l h

theorem top_low (hM : Ords (Mo a b d)) (hC : Ps (Mo a b d) c) {y : List Nat} (hy : ∀ l ∈ y, l < 3) (k : Nat) :
    ∃ w, (∀ l ∈ w, l < 3) ∧ ∀ s, Nn (Rs.acts c w (sumV c y k) s) := by
  refine Classical.byContradiction fun hno => ?_
  have all : ∀ n, ∃ w : List Nat, w.length = n ∧ (∀ l ∈ w, l < 3) ∧ Down c (sumV c y k) w := by
    intro n
    induction n with
    | zero => exact ⟨[], rfl, (fun l h => by cases h), fun a t v e => by cases a <;> simp at e⟩
    | succ n ih =>
      obtain ⟨w, hw, hlow, hd⟩ := ih
      have : ∃ s, ¬ Nn (Rs.acts c w (sumV c y k) s) := by
        refine Classical.byContradiction fun hx => hno ⟨w, hlow, fun s => ?_⟩
        exact Classical.byContradiction fun hy => hx ⟨s, hy⟩
      obtain ⟨s, hs⟩ := this
      have hs3 : s < 3 := by
        refine Classical.byContradiction fun hx => hs (some_down hM hC y w s k fun i _ hdd => hx ?_)
        refine ds_low (fun l hl => ?_) hdd
        rcases List.mem_append.1 hl with h | h
        · exact hlow l h
        · exact rp_low hy i l h
      have hp : Pos (fun n => - Rs.acts c w (sumV c y k) s n) := by
        refine Classical.byContradiction fun hx => hs (nn_of_not (SetV.acts hC.toCs (sum_set hC.toCs y k) w s) hx)
      refine ⟨s :: w, by simp [hw], fun l hl => ?_, fun a t v e => ?_⟩
      · rcases List.mem_cons.1 hl with rfl | h
        · exact hs3
        · exact hlow l h
      · cases a with
        | nil =>
          simp only [List.nil_append, List.cons.injEq] at e
          obtain ⟨rfl, rfl⟩ := e
          exact hp
        | cons b a =>
          simp only [List.cons_append, List.cons.injEq] at e
          exact hd a t v e.2
  obtain ⟨w, hw, _, hd⟩ := all (sumN (fun i => ln (mk (rp y i) : G (Mo a b d))) k + 1)
  have := down_short hM hC y k hd
  omega

/-- a sum over the three letters -/
def Lf (g : Nat → Rat) (V : Vec) : Nat → Rat := fun n => g 0 * V 0 n + g 1 * V 1 n + g 2 * V 2 n

structure Gs (c : Nat → Nat → Nat → Rat) (g : Nat → Rat) : Prop where
  pos : ∀ t, 0 < g t
  up : ∀ t, t < 3 → Nn (Lf g (own c t))

theorem Lf_act (g : Nat → Rat) (V : Vec) (t n : Nat) : Lf g (act c t V) n = Lf g V n + Lf g (own c t) n * V t n := by
  rw [act_own]
  unfold Lf
  grind
theorem Lf_add (g : Nat → Rat) (V W : Vec) (n : Nat) : Lf g (fun h n => V h n + W h n) n = Lf g V n + Lf g W n := by
  unfold Lf
  grind
theorem Lf_nul (g : Nat → Rat) {V : Vec} (h : ∀ t, t < 3 → Nul (V t)) : Nul (Lf g V) :=
  ((((h 0 (by omega)).mul (set_const (g 0)).bnd).add ((h 1 (by omega)).mul (set_const (g 1)).bnd)).add ((h 2 (by omega)).mul (set_const (g 2)).bnd)).congr fun n => by unfold Lf; grind

theorem grows (hM : Ords (Mo a b d)) (hC : Ps (Mo a b d) c) {g : Nat → Rat} (hg : Gs c g) : ∀ {w : List Nat}, Red (Mo a b d) w → (∀ l ∈ w, l < 3) → Nn (fun n => Lf g (Rs.acts c w ones) n - Lf g ones n) := by
  intro w
  induction w with
  | nil => intro _ _; exact nul_zero.nn.congr fun n => by show Lf g ones n - Lf g ones n = 0; grind
  | cons t v ih =>
    intro hr hl
    have h1 := ih (red_tail hr) fun l h => hl l (List.mem_cons_of_mem _ h)
    have hd : ¬ Ds (mk v : G (Mo a b d)) t := (ds_front t (mk v : G (Mo a b d))).1 (ds_of_head hr)
    have hp := (pos_any hM hC ones_set v t hd).2 ones_pos
    have h2 := (hg.up t (hl t List.mem_cons_self)).mul hp (SetV.acts hC.toCs ones_set v t).bnd
    exact (h1.add h2).congr fun n => by rw [acts_cons, Lf_act]; grind

theorem stands (hM : Ords (Mo a b d)) (hC : Ps (Mo a b d) c) {g : Nat → Rat} (hg : Gs c g) {w : List Nat} (hl : ∀ l ∈ w, l < 3) : Pos (Lf g (Rs.acts c w ones)) := by
  obtain ⟨u, hu, hr⟩ := red_exists (mk w : G (Mo a b d))
  have h1 := grows hM hC hg hr (red_low hu hl hr)
  have hs := acts_sim hC.toCs ones_set hu
  have h2 : Nul (Lf g (fun h n => Rs.acts c u ones h n - Rs.acts c w ones h n)) := Lf_nul g fun t _ => hs t
  have h0 : Pos (Lf g ones) := by
    refine ⟨g 0, hg.pos 0, 0, fun n _ => ?_⟩
    have x1 := hg.pos 1
    have x2 := hg.pos 2
    show g 0 < g 0 * 1 + g 1 * 1 + g 2 * 1
    grind
  exact ((h0.nn_add h1).nul h2.neg).congr fun n => by unfold Lf; grind

theorem sum_stands (hM : Ords (Mo a b d)) (hC : Ps (Mo a b d) c) {g : Nat → Rat} (hg : Gs c g) {w y : List Nat} (hl : ∀ l ∈ w, l < 3) (hy : ∀ l ∈ y, l < 3) : ∀ k, Pos (Lf g (Rs.acts c w (sumV c y (k + 1)))) := by
  have one : ∀ i, Pos (Lf g (Rs.acts c (w ++ rp y i) ones)) := fun i => stands hM hC hg fun l h => by
    rcases List.mem_append.1 h with h | h
    · exact hl l h
    · exact rp_low hy i l h
  intro k
  induction k with
  | zero =>
    refine (one 0).congr fun n => ?_
    rw [acts_sum]
    have : Rs.acts c w (sumV c y 0) = fun _ _ => 0 := by
      show Rs.acts c w (fun _ _ => 0) = _
      rw [acts_zero]
    rw [this]
    unfold Lf
    grind
  | succ k ih =>
    refine (ih.add (one (k + 1))).congr fun n => ?_
    rw [acts_sum, Lf_add]

/-- what is of finite order is, moved, a word without one of the letters -/
theorem finite_low (hM : Ords (Mo a b d)) (hC : Ps (Mo a b d) c) {g : Nat → Rat} (hg : Gs c g) {y : List Nat} (hy : ∀ l ∈ y, l < 3) {k : Nat} (hk : (mk (rp y (k + 1)) : G (Mo a b d)) = mk []) :
    ∃ w z s, Red (Mo a b d) z ∧ (mk z : G (Mo a b d)) = mk (w ++ (y ++ w.reverse)) ∧ (∀ l ∈ w, l < 3) ∧ (∀ l ∈ z, l < 3) ∧ s < 3 ∧ s ∉ z := by
  obtain ⟨w, hw, hn⟩ := top_low hM hC hy (k + 1)
  obtain ⟨z, hz, hr⟩ := red_exists (mk (w ++ (y ++ w.reverse)) : G (Mo a b d))
  have hU := sum_set hC.toCs y (k + 1)
  have hzl : ∀ l ∈ z, l < 3 := red_low hz (fun l h => by
    simp only [List.mem_append, List.mem_reverse] at h
    rcases h with h | h | h
    · exact hw l h
    · exact hy l h
    · exact hw l h) hr
  have hfix : Sim (Rs.acts c z (Rs.acts c w (sumV c y (k + 1)))) (Rs.acts c w (sumV c y (k + 1))) := by
    rw [← acts_append]
    have e : (mk (z ++ w) : G (Mo a b d)) = mk (w ++ y) := by
      rw [← mk_mul, hz, ← mk_mul, ← mk_mul, ← inv_mk, mul_assoc, mul_assoc, inv_mul_self, mul_one, mk_mul]
    refine (acts_sim hC.toCs hU e).trans ?_
    rw [acts_append]
    exact Sim.acts hC.toCs (keeps hC.toCs hk) w
  have hf := fixed hM hC (SetV.acts hC.toCs hU w) hn hr hfix
  have hex : ∃ s, s < 3 ∧ s ∉ z := by
    refine Classical.byContradiction fun hx => ?_
    refine (sum_stands hM hC hg hw hy k).not_nul (Lf_nul g fun t ht => hf t ?_)
    exact Classical.byContradiction fun hnot => hx ⟨t, ht, hnot⟩
  obtain ⟨s, hs, hsz⟩ := hex
  exact ⟨w, z, s, hr, hz, hw, hzl, hs, hsz⟩
end Go.Proofs.Ytogchohpnbeldaa.Rs
