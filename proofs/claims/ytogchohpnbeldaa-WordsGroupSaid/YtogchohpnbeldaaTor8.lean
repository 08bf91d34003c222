/- A place that an element of finite order keeps; the letters of what keeps it. -/
import Derived.Test.YtogchohpnbeldaaTor7
namespace Go.Proofs.Ytogchohpnbeldaa.Rs
open Cx

variable {M : Nat → Nat → Nat} {c : Nat → Nat → Nat → Rat}

theorem top (hM : Ords M) (hC : Ps M c) (y : List Nat) (k : Nat) : ∃ w, ∀ s, Nn (Rs.acts c w (sumV c y k) s) := by
  refine Classical.byContradiction fun hno => ?_
  have all : ∀ n, ∃ w : List Nat, w.length = n ∧ Down c (sumV c y k) w := by
    intro n
    induction n with
    | zero => exact ⟨[], rfl, fun a t v e => by cases a <;> simp at e⟩
    | succ n ih =>
      obtain ⟨w, hw, hd⟩ := ih
      have : ∃ s, ¬ Nn (Rs.acts c w (sumV c y k) s) := by
        refine Classical.byContradiction fun hx => hno ⟨w, fun s => ?_⟩
        exact Classical.byContradiction fun hy => hx ⟨s, hy⟩
      obtain ⟨s, hs⟩ := this
      have hp : Pos (fun n => - Rs.acts c w (sumV c y k) s n) := by
        refine Classical.byContradiction fun hx => hs (nn_of_not (SetV.acts hC.toCs (sum_set hC.toCs y k) w s) hx)
      refine ⟨s :: w, by simp [hw], fun a t v e => ?_⟩
      cases a with
      | nil =>
        simp only [List.nil_append, List.cons.injEq] at e
        obtain ⟨rfl, rfl⟩ := e
        exact hp
      | cons b a =>
        simp only [List.cons_append, List.cons.injEq] at e
        exact hd a t v e.2
  obtain ⟨w, hw, hd⟩ := all (sumN (fun i => ln (mk (rp y i) : G M)) k + 1)
  have := down_short hM hC y k hd
  omega

theorem sum_shift (y : List Nat) (k : Nat) (h n : Nat) : Rs.acts c y (sumV c y k) h n + ones h n = sumV c y k h n + Rs.acts c (rp y k) ones h n := by
  induction k with
  | zero =>
    have : Rs.acts c y (sumV c y 0) = fun _ _ => 0 := by
      show Rs.acts c y (fun _ _ => 0) = _
      rw [acts_zero]
    rw [this]
    rfl
  | succ k ih =>
    rw [acts_sum]
    have e : Rs.acts c (y ++ rp y k) ones h n = Rs.acts c (rp y (k + 1)) ones h n := rfl
    show Rs.acts c y (sumV c y k) h n + Rs.acts c (y ++ rp y k) ones h n + ones h n = sumV c y k h n + Rs.acts c (rp y k) ones h n + Rs.acts c (rp y (k + 1)) ones h n
    rw [e]
    grind

theorem keeps (hC : Cs M c) {y : List Nat} {k : Nat} (hy : (mk (rp y k) : G M) = mk []) : Sim (Rs.acts c y (sumV c y k)) (sumV c y k) := by
  intro h
  have a := acts_sim hC ones_set hy h
  refine a.congr fun n => ?_
  have b := sum_shift (c := c) y k h n
  have e : Rs.acts c [] ones h n = ones h n := rfl
  rw [e]
  grind

/-- the letters of a shortest word that keeps a place -/
theorem fixed (hM : Ords M) (hC : Ps M c) {V : Vec} (hV : SetV V) (hn : ∀ s, Nn (V s)) : ∀ {z : List Nat}, Red M z → Sim (Rs.acts c z V) V → ∀ s, s ∈ z → Nul (V s) := by
  intro z
  induction z with
  | nil => intro _ _ s hs; cases hs
  | cons t z ih =>
    intro hr hs s hmem
    have hz := red_tail hr
    have hd : ¬ Ds (mk z : G M) t := (ds_front t (mk z : G M)).1 (ds_of_head hr)
    have a := (pos_any hM hC hV z t hd).1 hn
    have b := hs t
    have e : ∀ n, Rs.acts c (t :: z) V t n = - Rs.acts c z V t n := fun n => act_at c t (Rs.acts c z V) n
    have h1 : Nn (fun n => - V t n) := (a.add b.nn).congr fun n => by rw [e]; grind
    have h2 : Nul (V t) := (hn t).both h1
    have h3 : Nul (Rs.acts c z V t) := ((b.neg).add h2.neg).congr fun n => by rw [e]; grind
    have h4 : Sim (Rs.acts c z V) V := by
      refine Sim.trans (Sim.symm ?_) hs
      intro h
      by_cases ht : h = t
      · subst ht
        exact ((h3.neg).add h3.neg).congr fun n => by rw [e]; grind
      · exact (h3.mul (hC.set t h).bnd).congr fun n => by
          have : Rs.acts c (t :: z) V h n = Rs.acts c z V h n + c t h n * Rs.acts c z V t n := act_off c ht (Rs.acts c z V) n
          rw [this]; grind
    rcases List.mem_cons.1 hmem with rfl | hm
    · exact h2
    · exact ih hz h4 s hm

/-- an element of finite order, moved to where it keeps a place: its letters -/
theorem finite (hM : Ords M) (hC : Ps M c) {y : List Nat} {k : Nat} (hy : (mk (rp y k) : G M) = mk []) :
    ∃ w z, Red M z ∧ (mk z : G M) = mk (w ++ (y ++ w.reverse)) ∧ ∀ s, s ∈ z → Nul (Rs.acts c w (sumV c y k) s) := by
  obtain ⟨w, hw⟩ := top hM hC y k
  obtain ⟨z, hz, hr⟩ := red_exists (mk (w ++ (y ++ w.reverse)) : G M)
  have hU := sum_set hC.toCs y k
  refine ⟨w, z, hr, hz, fixed hM hC (SetV.acts hC.toCs hU w) hw hr ?_⟩
  rw [← acts_append]
  have e : (mk (z ++ w) : G M) = mk (w ++ y) := by
    rw [← mk_mul, hz, ← mk_mul, ← mk_mul, ← inv_mk, mul_assoc, mul_assoc, inv_mul_self, mul_one, mk_mul]
  refine (acts_sim hC.toCs hU e).trans ?_
  rw [acts_append]
  exact Sim.acts hC.toCs (keeps hC.toCs hy) w
end Go.Proofs.Ytogchohpnbeldaa.Rs
