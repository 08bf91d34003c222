/- Alternating rows move vectors; both sides of a corner alike. -/
import Derived.Test.YtogchohpnbeldaaTor2
import Derived.Test.YtogchohpnbeldaaCox3
namespace Go.Proofs.Ytogchohpnbeldaa.Rs
open Cx

/-- S 0 = 0, S 1 = 1, S (k+1) = c S k - S (k-1) -/
def S (x : Rat) : Nat → Rat
  | 0 => 0
  | 1 => 1
  | k + 2 => x * S x (k + 1) - S x k

theorem S_step (x : Rat) (k : Nat) : S x (k + 2) = x * S x (k + 1) - S x k := rfl

/-- the value at the next letter -/
def Nx (c : Nat → Nat → Nat → Rat) (V : Vec) (n k t s : Nat) : Prop :=
  acts c (alt t s k) V s n = S (c t s n) (k + 1) * V (turn s t k) n + S (c t s n) k * V (turn t s k) n

theorem last_of {c : Nat → Nat → Nat → Rat} (hc : ∀ i j n, c i j n = c j i n) {V : Vec} {n k t s : Nat} (h : Nx c V n k s t) :
    acts c (alt t s (k + 1)) V t n = -(S (c t s n) (k + 1) * V (turn t s k) n + S (c t s n) k * V (turn s t k) n) := by
  unfold Nx at h
  show act c t (acts c (alt s t k) V) t n = _
  rw [act_at, h, hc s t n]

theorem alt_next (c : Nat → Nat → Nat → Rat) (hc : ∀ i j n, c i j n = c j i n) (V : Vec) (n : Nat) : ∀ k, (∀ t s, s ≠ t → Nx c V n k t s) ∧ (∀ t s, s ≠ t → Nx c V n (k + 1) t s) := by
  intro k
  induction k with
  | zero =>
    refine ⟨fun t s h => ?_, fun t s h => ?_⟩
    · simp only [Nx, alt, acts, S, turn, List.foldr_nil, Nat.zero_mod, if_true]
      grind
    · simp only [Nx, alt, acts, S, turn, List.foldr_nil, List.foldr_cons, act_off c h]
      simp
      grind
  | succ k ih =>
    refine ⟨ih.2, fun t s h => ?_⟩
    have a := ih.2 s t (Ne.symm h)
    have b := last_of hc (ih.1 t s h)
    unfold Nx at a ⊢
    show act c t (acts c (alt s t (k + 1)) V) s n = _
    rw [act_off c h, a, b, hc s t n]
    have e1 : turn s t (k + 1 + 1) = turn s t k := by unfold turn; rw [show (k + 1 + 1) % 2 = k % 2 by omega]
    have e2 : turn t s (k + 1 + 1) = turn t s k := by unfold turn; rw [show (k + 1 + 1) % 2 = k % 2 by omega]
    have e3 : S (c t s n) (k + 1 + 1 + 1) = c t s n * S (c t s n) (k + 1 + 1) - S (c t s n) (k + 1) := S_step _ _
    have e4 : S (c t s n) (k + 1 + 1) = c t s n * S (c t s n) (k + 1) - S (c t s n) k := S_step _ _
    rw [e1, e2, e3, turn_swap s t k, turn_swap t s k]
    clear a b ih e3
    grind
end Go.Proofs.Ytogchohpnbeldaa.Rs
