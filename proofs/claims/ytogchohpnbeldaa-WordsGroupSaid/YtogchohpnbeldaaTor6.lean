/- Descents are negative; a row that goes down all the way has no letters too many. -/
import Derived.Test.YtogchohpnbeldaaTor5
namespace Go.Proofs.Ytogchohpnbeldaa.Rs
open Cx

variable {M : Nat → Nat → Nat} {c : Nat → Nat → Nat → Rat}

theorem pos_any (hM : Ords M) (hC : Ps M c) {V : Vec} (hV : SetV V) (w : List Nat) (s : Nat) (hs : ¬ Ds (mk w : G M) s) :
    ((∀ h, Nn (V h)) → Nn (Rs.acts c w V s)) ∧ ((∀ h, Pos (V h)) → Pos (Rs.acts c w V s)) := by
  obtain ⟨u, hu, hr⟩ := red_exists (mk w : G M)
  rw [← hu] at hs
  have a := positive hM hC hV u.length u rfl hr s hs
  have b := acts_sim hC.toCs hV hu s
  exact ⟨fun h => ((a.1 h).add b.neg.nn).congr fun n => by grind, fun h => ((a.2 h).nul b.neg).congr fun n => by grind⟩

theorem neg_any (hM : Ords M) (hC : Ps M c) {V : Vec} (hV : SetV V) (w : List Nat) (s : Nat) (hs : Ds (mk w : G M) s) :
    ((∀ h, Nn (V h)) → Nn (fun n => - Rs.acts c w V s n)) ∧ ((∀ h, Pos (V h)) → Pos (fun n => - Rs.acts c w V s n)) := by
  have hn : ¬ Ds (mk (s :: w) : G M) s := fun h => (ds_front s (mk w : G M)).1 h hs
  have a := pos_any hM hC hV (s :: w) s hn
  exact ⟨fun h => (a.1 h).congr fun n => (act_at c s (Rs.acts c w V) n).symm, fun h => (a.2 h).congr fun n => (act_at c s (Rs.acts c w V) n).symm⟩

theorem act_lin (X Y : Vec) (q : Nat → Rat) (t : Nat) : act c t (fun h n => X h n + q n * Y h n) = fun h n => act c t X h n + q n * act c t Y h n := by
  funext h n
  unfold act
  by_cases e : h = t
  · simp only [e, if_true]; grind
  · simp only [e, if_false]; grind
theorem acts_lin (X Y : Vec) (q : Nat → Rat) (a : List Nat) : Rs.acts c a (fun h n => X h n + q n * Y h n) = fun h n => Rs.acts c a X h n + q n * Rs.acts c a Y h n := by
  induction a with
  | nil => rfl
  | cons t a ih => rw [acts_cons, ih, act_lin]; rfl

/-- the vector of a letter -/
def own (c : Nat → Nat → Nat → Rat) (t : Nat) : Vec := fun h n => if h = t then -2 else c t h n
theorem act_own (t : Nat) (V : Vec) : act c t V = fun h n => V h n + V t n * own c t h n := by
  funext h n
  unfold act own
  by_cases e : h = t
  · simp only [e, if_true]; grind
  · simp only [e, if_false]; grind
theorem own_set (hC : Cs M c) (t : Nat) : SetV (own c t) := by
  intro h
  by_cases e : h = t
  · exact (set_const (-2)).congr fun n => by simp [own, e]
  · exact (hC.set t h).congr fun n => by simp [own, e]

/-- a letter behind a word is a letter ahead of it -/
theorem swap_letter (hC : Cs M c) {a : List Nat} {s t : Nat} (h : (mk (s :: a) : G M) = mk (a ++ [t])) {V : Vec} (hV : SetV V) :
    Nul (fun n => 2 * Rs.acts c a V s n + V t n * Rs.acts c a (own c t) s n) := by
  have h1 := acts_sim hC hV h s
  refine h1.neg.congr fun n => ?_
  have e1 : Rs.acts c (s :: a) V s n = - Rs.acts c a V s n := act_at c s (Rs.acts c a V) n
  have e2 : Rs.acts c (a ++ [t]) V s n = Rs.acts c a V s n + V t n * Rs.acts c a (own c t) s n := by
    rw [acts_append]
    have : Rs.acts c [t] V = act c t V := rfl
    rw [this, act_own, acts_lin]
  rw [e1, e2]
  grind

theorem refs_mem {r : G M} : ∀ {w : List Nat}, r ∈ (refs w : List (G M)) → ∃ a t v, w = a ++ t :: v ∧ r = cj (mk a) (mk [t]) := by
  intro w
  induction w generalizing r with
  | nil => intro h; cases h
  | cons i w ih =>
    intro h
    rcases List.mem_cons.1 h with rfl | h
    · exact ⟨[], i, w, rfl, (cj_one _).symm⟩
    · obtain ⟨r', hr', rfl⟩ := List.mem_map.1 h
      obtain ⟨a, t, v, rfl, rfl⟩ := ih hr'
      exact ⟨i :: a, t, v, rfl, (cj_mul (mk [i]) (mk a) (mk [t])).symm⟩

theorem exchange {w : List Nat} (hw : Red M w) {s : Nat} (hs : Ds (mk w : G M) s) : ∃ a t v, w = a ++ t :: v ∧ (mk (s :: a) : G M) = mk (a ++ [t]) := by
  have h : (mk [s] : G M) ∈ (refs w : List (G M)) := (eta_red hw _).1 hs
  obtain ⟨a, t, v, e, h1⟩ := refs_mem h
  refine ⟨a, t, v, e, ?_⟩
  show (mk [s] * mk a : G M) = mk a * mk [t]
  rw [h1]
  unfold cj
  rw [mul_assoc, inv_mul_self, mul_one]

/-- each letter goes down -/
def Down (c : Nat → Nat → Nat → Rat) (U : Vec) (w : List Nat) : Prop := ∀ a t v, w = a ++ t :: v → Pos (fun n => - Rs.acts c v U t n)

def ones : Vec := fun _ _ => 1
theorem ones_set : SetV ones := fun _ => set_const 1
theorem ones_pos : ∀ h, Pos (ones h) := fun _ => ⟨1 / 2, by grind, 0, fun n _ => by show (1 : Rat) / 2 < 1; grind⟩

theorem Down.descent (hM : Ords M) (hC : Ps M c) {U : Vec} (hU : SetV U) {w : List Nat} (hd : Down c U w) (hw : Red M w) {s : Nat} (hs : Ds (mk w : G M) s) : Pos (Rs.acts c w U s) := by
  obtain ⟨a, t, v, rfl, he⟩ := exchange hw hs
  have h1 := hd a t v rfl
  have hk := SetV.acts hC.toCs (own_set hC.toCs t) a s
  have x1 := swap_letter hC.toCs he (V := Rs.acts c (t :: v) U) (SetV.acts hC.toCs hU _)
  have x2 := swap_letter hC.toCs he (V := Rs.acts c (t :: v) ones) (SetV.acts hC.toCs ones_set _)
  have hv : ¬ Ds (mk v : G M) t := (ds_front t (mk v : G M)).1 (ds_of_head (red_drop hw))
  have p1 := (pos_any hM hC ones_set v t hv).2 ones_pos
  have p2 := (neg_any hM hC ones_set (a ++ t :: v) s hs).2 ones_pos
  rw [acts_append] at p2 ⊢
  generalize Rs.acts c a (own c t) s = q at *
  have e1 : ∀ X n, Rs.acts c (t :: v) X t n = - Rs.acts c v X t n := fun X n => act_at c t (Rs.acts c v X) n
  have hq : Pos (fun n => - q n) := by
    rcases signs hk with h | h | h
    · exfalso
      have := (h.mul (SetV.acts hC.toCs ones_set v t).bnd)
      refine ((p2.add p2).nul (x2.add this)).not_nul (nul_zero.congr fun n => ?_)
      rw [e1]; grind
    · exfalso
      have := h.mul p1
      refine (((p2.add p2).add this).nul x2).not_nul (nul_zero.congr fun n => ?_)
      rw [e1]; grind
    · exact h
  have h2 := (h1.mul hq).nul x1
  have h3 : Pos (fun n => 2 * Rs.acts c a (Rs.acts c (t :: v) U) s n) := h2.congr fun n => by rw [e1]; grind
  obtain ⟨e, he, N, h4⟩ := h3
  exact ⟨e / 2, half_pos he, N, fun n hn => by have := h4 n hn; grind⟩

theorem Down.red (hM : Ords M) (hC : Ps M c) {U : Vec} (hU : SetV U) : ∀ {w : List Nat}, Down c U w → Red M w := by
  intro w
  induction w with
  | nil => intro _; exact red_nil
  | cons t v ih =>
    intro h
    have hv : Down c U v := fun a t' v' e => h (t :: a) t' v' (by rw [e]; rfl)
    have hr := ih hv
    refine red_cons hr fun hd => ?_
    exact (hv.descent hM hC hU hr hd).not_neg (h [] t v rfl)
end Go.Proofs.Ytogchohpnbeldaa.Rs
